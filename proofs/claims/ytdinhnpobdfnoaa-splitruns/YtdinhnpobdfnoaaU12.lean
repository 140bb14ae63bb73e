/- The walk of Splitter.Write. -/
import Derived.Test.YtdinhnpobdfnoaaU11
namespace Go.Proofs.Ytdinhnpobdfnoaa
open Go.RowKit
set_option linter.unusedSimpArgs false
set_option linter.unusedVariables false
theorem swrite_nil (s : ByteArray) (w : World) : Calls Try.prog 16 #[.pointer none, .string s] w fun e w' => e = .returned (.tuple #[.slice none 0 0, .int .i64 2]) ∧ Below w.heap.size w w' := by
  go_enter Try.func16, Try.ntmps16
  go_wp2_with fail
  refine (scheck_nil _).mono ?_
  rintro e w1 ⟨rfl, rfl⟩
  go_wp2
  go_ret2
  exact ⟨rfl, ((Below.refl _ _).alloc (Nat.le_refl _) _).alloc (by simp) _⟩
theorem swrite_done (g : Nat) (s : ByteArray) (w : World) (c0 : w.cell? ⟨g, 0, none⟩ = some (.bool false)) : Calls Try.prog 16 #[.pointer (some ⟨g, 0, none⟩), .string s] w fun e w' => e = .returned (.tuple #[.slice none 0 0, .int .i64 5]) ∧ Below w.heap.size w w' := by
  have hb : Below w.heap.size w ((w.alloc (.cells #[.pointer (some ⟨g, 0, none⟩)] 40)).alloc (.cells #[.string s] 9)) := ((Below.refl _ _).alloc (Nat.le_refl _) _).alloc (by simp) _
  have hlt : g < w.heap.size := World.block_lt_of_cell? _ _ c0
  have c1 : ((w.alloc (.cells #[.pointer (some ⟨g, 0, none⟩)] 40)).alloc (.cells #[.string s] 9)).cell? ⟨g, 0, none⟩ = some (.bool false) := by rw [hb.cell (p := ⟨g, 0, none⟩) hlt]; exact c0
  have HB : Hid _ := hb
  clear hb
  go_enter Try.func16, Try.ntmps16
  go_wp2_with fail
  refine (scheck_done g _ c1).mono ?_
  rintro e w1 ⟨rfl, rfl⟩
  go_wp2
  go_ret2
  exact ⟨rfl, HB.out⟩
set_option maxHeartbeats 2000000 in
set_option maxRecDepth 100000 in
theorem swrite_long (B g : Nat) (p : Pl) (h : List UInt8) (tk : Nat) (fs : List Nat) (s : ByteArray) (w : World) (hsp : Spo w B g p h tk fs) (ht : tk ≤ 1048576) (hs : s.size ≤ maxLen) (hl : 1048576 < tk + s.size) :
    Calls Try.prog 16 #[.pointer (some ⟨g, 0, none⟩), .string s] w fun e w' => e = .returned (.tuple #[.slice none 0 0, .int .i64 1]) ∧ Below w.heap.size w w' := by
  unfold maxLen at hs
  obtain ⟨r, vh, hb, _⟩ := hsp.mem
  have hb2 := (hb.alloc (.cells #[.pointer (some ⟨g, 0, none⟩)] 40)).alloc (.cells #[.string s] 9)
  have c0 : ((w.alloc (.cells #[.pointer (some ⟨g, 0, none⟩)] 40)).alloc (.cells #[.string s] 9)).cell? ⟨g, 0, none⟩ = some (.bool true) := by rw [hb2.cell]; rfl
  have c7 : ((w.alloc (.cells #[.pointer (some ⟨g, 0, none⟩)] 40)).alloc (.cells #[.string s] 9)).cell? ⟨g, 7, none⟩ = some (.int .i64 (tk : Int)) := by rw [hb2.cell]; rfl
  have HB : Hid (Below w.heap.size w ((w.alloc (.cells #[.pointer (some ⟨g, 0, none⟩)] 40)).alloc (.cells #[.string s] 9))) := ((Below.refl _ _).alloc (Nat.le_refl _) _).alloc (by simp) _
  have hz : (s.size : Int) > 1048576 - tk := by omega
  obtain ⟨D, hD⟩ : ∃ D : Nat, (1048576 : Int) - tk = D := ⟨1048576 - tk, by omega⟩
  have hDw : IntKind.i64.wrap (D : Int) = D := by rw [IntKind.wrap_i64]; omega
  rw [hD] at hz
  clear hb hb2 hsp
  go_enter Try.func16, Try.ntmps16
  go_wp2_with fail
  refine (scheck_yes g _ c0).mono ?_
  rintro e w1 ⟨rfl, rfl⟩
  go_wp2
  go_quiet (fail)
  go_wp2
  go_ret2
  exact ⟨rfl, below_drewN HB.out _⟩
theorem six (w : World) (n : Nat) (c1 c2 c3 c4 c5 c6 : Array Value) (t1 t2 t3 t4 t5 t6 : TypeId) (W : World) (hW : W = ((((((w.alloc (.cells c1 t1)).alloc (.cells c2 t2)).drewN n).alloc (.cells c3 t3)).alloc (.cells c4 t4)).alloc (.cells c5 t5)).alloc (.cells c6 t6)) :
    Bk W w.heap.size c1 t1 ∧ Bk W (w.heap.size + 1) c2 t2 ∧ Bk W (w.heap.size + 1 + 1) c3 t3 ∧ Bk W (w.heap.size + 1 + 1 + 1) c4 t4 ∧ Bk W (w.heap.size + 1 + 1 + 1 + 1) c5 t5 ∧ Bk W (w.heap.size + 1 + 1 + 1 + 1 + 1) c6 t6 ∧ Below w.heap.size w W := by
  subst hW
  have e2 : ((w.alloc (.cells c1 t1)).alloc (.cells c2 t2)).heap.size = w.heap.size + 1 + 1 := by rw [al_size, al_size]
  have z2 : (((w.alloc (.cells c1 t1)).alloc (.cells c2 t2)).drewN n).heap.size = w.heap.size + 1 + 1 := e2
  have b1 := (bk_new w c1 t1).alloc (.cells c2 t2)
  have b2 := bk_new (w.alloc (.cells c1 t1)) c2 t2
  rw [al_size] at b2
  have b1' := ((((b1.drewN n).alloc (.cells c3 t3)).alloc (.cells c4 t4)).alloc (.cells c5 t5)).alloc (.cells c6 t6)
  have b2' := ((((b2.drewN n).alloc (.cells c3 t3)).alloc (.cells c4 t4)).alloc (.cells c5 t5)).alloc (.cells c6 t6)
  have b3 := ((bk_new (((w.alloc (.cells c1 t1)).alloc (.cells c2 t2)).drewN n) c3 t3).alloc (.cells c4 t4)).alloc (.cells c5 t5) |>.alloc (.cells c6 t6)
  rw [z2] at b3
  have b4 := ((bk_new ((((w.alloc (.cells c1 t1)).alloc (.cells c2 t2)).drewN n).alloc (.cells c3 t3)) c4 t4).alloc (.cells c5 t5)).alloc (.cells c6 t6)
  rw [al_size, z2] at b4
  have b5 := (bk_new (((((w.alloc (.cells c1 t1)).alloc (.cells c2 t2)).drewN n).alloc (.cells c3 t3)).alloc (.cells c4 t4)) c5 t5).alloc (.cells c6 t6)
  rw [al_size, al_size, z2] at b5
  have b6 := bk_new ((((((w.alloc (.cells c1 t1)).alloc (.cells c2 t2)).drewN n).alloc (.cells c3 t3)).alloc (.cells c4 t4)).alloc (.cells c5 t5)) c6 t6
  rw [al_size, al_size, al_size, z2] at b6
  have B2 : Below w.heap.size w (((w.alloc (.cells c1 t1)).alloc (.cells c2 t2)).drewN n) := below_drewN (((Below.refl _ _).alloc (Nat.le_refl _) _).alloc (by rw [al_size]; omega) _) n
  exact ⟨b1', b2', b3, b4, b5, b6, (((B2.alloc B2.size _).alloc (by rw [al_size]; have := B2.size; omega) _).alloc (by rw [al_size, al_size]; have := B2.size; omega) _).alloc (by rw [al_size, al_size, al_size]; have := B2.size; omega) _⟩
theorem kb_below {w w' : World} (h : Below w.heap.size w w') (fs : List Nat) : Kb w w' fs := ⟨h.os, h.tape, h.output, h.size, fun b hb _ => h.block b hb⟩
set_option maxHeartbeats 2000000 in
set_option maxRecDepth 100000 in
theorem swrite_yes (B g : Nat) (p : Pl) (hp : p.ok) (h : List UInt8) (tk : Nat) (fs : List Nat) (s : ByteArray) (w : World) (hsp : Spo w B g p h tk fs) (hB : B ≤ w.heap.size) (hl : tk + s.size ≤ 1048576) :
    Calls Try.prog 16 #[.pointer (some ⟨g, 0, none⟩), .string s] w fun e w' => ∃ v fs', e = .returned (.tuple #[v, .int .i64 0]) ∧ (w'.ownsRow w.heap.size 58 2 v (pcs (ctA p) h (tby s)).length (pcv (pcs (ctA p) h (tby s))) ∧ v ≠ .slice none 0 0) ∧ Spo w' B g p (lft (ctA p) h (tby s)) (tk + s.size) fs' ∧ Kb w w' fs ∧ (∀ b ∈ fs', b ∈ fs ∨ w.heap.size ≤ b) := by
  obtain ⟨r, vh, hb, hro, hov, hrf, hvf⟩ := hsp.mem
  have hb2 := (hb.alloc (.cells #[.pointer (some ⟨g, 0, none⟩)] 40)).alloc (.cells #[.string s] 9)
  have c0 : ((w.alloc (.cells #[.pointer (some ⟨g, 0, none⟩)] 40)).alloc (.cells #[.string s] 9)).cell? ⟨g, 0, none⟩ = some (.bool true) := by rw [hb2.cell]; rfl
  have c7 : ((w.alloc (.cells #[.pointer (some ⟨g, 0, none⟩)] 40)).alloc (.cells #[.string s] 9)).cell? ⟨g, 7, none⟩ = some (.int .i64 (tk : Int)) := by rw [hb2.cell]; rfl
  have hz : ¬ (s.size : Int) > 1048576 - tk := by omega
  obtain ⟨D, hD⟩ : ∃ D : Nat, (1048576 : Int) - tk = D := ⟨1048576 - tk, by omega⟩
  have hDw : IntKind.i64.wrap (D : Int) = D := by rw [IntKind.wrap_i64]; omega
  rw [hD] at hz
  have HSP : Hid (Spo w B g p h tk fs) := hsp
  have HM : Hid (Bk w g #[.bool true, .int .i64 (p.B : Int), .int .i64 (p.F : Int), .int .i64 (p.M : Int), .pointer (some ⟨r, 0, none⟩), .int .i64 (h.length : Int), vh, .int .i64 (tk : Int)] 91 ∧ Rll w r h ∧ w.ownsRow B 5 1 vh h.length (byv h) ∧ r ∈ fs ∧ ∀ b, vh.ownBlock = some b → b ∈ fs) := ⟨hb, hro, hov, hrf, hvf⟩
  have HP : Hid p.ok := hp
  clear hb hb2 hsp hro hov hrf hvf hp
  have hst := fun (W : World) (a : Addr) => run_store Try.prog W a (.func (.func 33) #[] #[.pointer (some ⟨w.heap.size, 0, none⟩), .pointer (some ⟨w.heap.size + 1, 0, none⟩), .pointer (some ⟨w.heap.size + 1 + 1 + 1 + 1, 0, none⟩)]) .plain rfl
  go_enter Try.func16, Try.ntmps16
  go_wp2_with fail
  refine (scheck_yes g _ c0).mono ?_
  rintro e w1 ⟨rfl, rfl⟩
  go_wp2
  go_quiet (fail)
  go_wp2
  obtain ⟨W5, hW5⟩ : ∃ W, W = ((((((w.alloc (Obj.cells #[.pointer (some ⟨g, 0, none⟩)] 40)).alloc (Obj.cells #[.string s] 9)).drewN nq).alloc (Obj.cells #[] 58)).alloc (Obj.cells #[.slice (some ⟨w.heap.size + 1 + 1, 0, none⟩) 0 0] 48)).alloc (Obj.cells #[.int .i64 0] 3)).alloc (Obj.cells #[.func (.func 33) #[] #[.pointer (some ⟨w.heap.size, 0, none⟩), .pointer (some ⟨w.heap.size + 1, 0, none⟩), .pointer (some ⟨w.heap.size + 1 + 1 + 1 + 1, 0, none⟩)]] 92) := ⟨_, rfl⟩
  obtain ⟨bx, bs, bc, bp, bf, bh, bel⟩ := six _ _ _ _ _ _ _ _ _ _ _ _ _ _ _ hW5
  rw [← hW5]
  obtain ⟨gx, hgx⟩ : ∃ g, g = w.heap.size := ⟨_, rfl⟩
  obtain ⟨gs, hgs⟩ : ∃ g, g = gx + 1 := ⟨_, rfl⟩
  obtain ⟨gp, hgp⟩ : ∃ g, g = gs + 1 + 1 := ⟨_, rfl⟩
  obtain ⟨gf, hgf⟩ : ∃ g, g = gp + 1 := ⟨_, rfl⟩
  obtain ⟨gh, hgh⟩ : ∃ g, g = gf + 1 := ⟨_, rfl⟩
  have HW : Hid (WE p h w B fs gx gs gf gh gp g s tk 0 W5 ∧ Cu W5 g 1 p h r) := by
    have hbg := HM.out.1.below bel HM.out.1.lt
    rw [← hgx] at bx bs bc bp bf bh
    rw [← hgs] at bs bc bp bf bh
    rw [← hgp] at bp bf bh
    rw [← hgf] at bf bh
    rw [← hgh] at bh
    refine ⟨⟨⟨0, h, Nat.le_refl _, by simp [lft], ⟨bx, bs, bf, ⟨_, vh, ⟨hbg, rfl, rfl, rfl, rfl, own_kp HM.out.2.2.1 (ts := []) (by simp) (kp_below _ bel)⟩, fun b hb => .inl (HM.out.2.2.2.2 b hb)⟩, kb_below bel fs, HSP.out.gin, hB, by omega⟩⟩, ⟨⟨_, bp, ⟨rfl, .inr ⟨gs + 1, 0, #[], rfl, by omega, bc, Nat.zero_le _, Nat.zero_le _, rfl, rfl⟩⟩, by simp⟩, bh, by omega⟩, Nat.zero_le _⟩, ?_⟩
    exact ⟨by rw [hbg.cell]; rfl, by rw [hbg.cell]; rfl, by rw [hbg.cell]; rfl, by rw [hbg.cell]; rfl, by rw [hbg.cell]; rfl, HM.out.2.1.below bel HM.out.2.1.lt⟩
  have cx : W5.cell? ⟨gx, 0, none⟩ = some (.pointer (some ⟨g, 0, none⟩)) := by rw [hgx, bx.cell]; rfl
  have cs : W5.cell? ⟨gs, 0, none⟩ = some (.string s) := by rw [hgs, hgx, bs.cell]; rfl
  rw [← hgx, ← hgs, ← hgp, ← hgf, ← hgh]
  clear bx bs bc bp bf bh bel hW5 c0 c7 hst hgx hgs hgp hgf hgh
  have HT : Hid (Calls Try.prog 30 #[.pointer (some ⟨g, 1, none⟩), .string s, .func (.func 34) #[] #[.pointer (some ⟨gh, 0, none⟩), .pointer (some ⟨gp, 0, none⟩), .pointer (some ⟨gx, 0, none⟩)]] W5.drew fun e w' => e = .returned (.tuple #[]) ∧ w'.cell? ⟨gx, 0, none⟩ = some (.pointer (some ⟨g, 0, none⟩)) ∧ w'.cell? ⟨gs, 0, none⟩ = some (.string s) ∧ Hid (WE p h w B fs gx gs gf gh gp g s tk s.size w' ∧ ∃ r', (r' ∈ fs ∨ w.heap.size ≤ r') ∧ Cu w' g 1 p (lft (ctA p) h (tby s)) r')) := by
    have hsz : s.size ≤ 1048576 := by omega
    have T := we_tk p HP.out h HSP.out.opn w B fs gx gs gf gh gp g s hsz tk
    have hd : WE p h w B fs gx gs gf gh gp g s tk 0 W5.drew := T.roll 0 W5 r _ W5.drew HW.out.1 (.inl HM.out.2.2.2.1) HW.out.2.roll (gr_drewN W5 1 _)
    have hc : Cu W5.drew g 1 p h r := ⟨HW.out.2.c0, HW.out.2.c1, HW.out.2.c2, HW.out.2.c3, HW.out.2.c4, HW.out.2.roll⟩
    refine (take_any _ p HP.out s h HSP.out.opn g 1 r 34 _ _ W5.drew hsz T hd (.inl HM.out.2.2.2.1) hc).mono ?_
    rintro e w3 ⟨rfl, h3, r3, h4, h5⟩
    obtain ⟨fr, hd, _, _, hw⟩ := h3.ws
    exact ⟨rfl, by rw [hw.bx.cell]; rfl, by rw [hw.bs.cell]; rfl, h3, r3, h4, h5⟩
  clear HW HM
  go_region_held3 (fun w' => w'.cell? ⟨gx, 0, none⟩ = some (.pointer (some ⟨g, 0, none⟩)) ∧ w'.cell? ⟨gs, 0, none⟩ = some (.string s)) (go_keep) (first | (go_at_call 30; refine HT.out.mono ?_; rintro e w3 ⟨rfl, cx3, cs3, H3⟩) | fail)
  clear cx cs HT
  obtain ⟨⟨⟨fr, hd, hfr, hL, hws⟩, hps, _⟩, r3, hr3, hc3⟩ := H3.out
  rw [tby_all s s.size (Nat.le_refl _)] at hL
  have ch : w3.cell? ⟨gh, 0, none⟩ = some (.func (.func 33) #[] #[.pointer (some ⟨gx, 0, none⟩), .pointer (some ⟨gs, 0, none⟩), .pointer (some ⟨gf, 0, none⟩)]) := by rw [hps.hh.cell]; rfl
  have hlt := (lft_opn (ctA p) (tby s) h HSP.out.opn).lt (p := p) (by have := HP.out.2.2.2.2.1; omega)
  have hM := HP.out.2.2.2.2.2
  have hdl : hd.length ≤ 65536 := by
    have : hd.length ≤ (lft (ctA p) h (tby s)).length := by rw [hL, List.length_append]; omega
    omega
  have HH : Hid _ := hold_any w B fs gx gs gf g s tk fr s.size hd w3 hws hfr (Nat.le_refl _) (by omega) (by omega)
  rw [tby_all s s.size (Nat.le_refl _), ← hL] at HH
  have HX : Hid (PS w gp gh gx gs gf (pcs (ctA p) h (tby s)) w3 ∧ (r3 ∈ fs ∨ w.heap.size ≤ r3) ∧ Cu w3 g 1 p (lft (ctA p) h (tby s)) r3) := ⟨by rw [tby_all s s.size (Nat.le_refl _)] at hps; exact hps, hr3, hc3⟩
  clear H3 hws hps hr3 hc3 hL hlt hdl
  go_wp2_with fail
  refine Calls.mono HH.out ?_
  rintro e w4 ⟨rfl, h4, k4, j4⟩
  obtain ⟨C, vh4, hsp, hvb⟩ := h4.sp
  have hps := HX.out.1.keep k4 (by decide) (by decide) (by decide)
  obtain ⟨vp, hv1, hv2, hv3⟩ := hps.vv
  have dx : w4.cell? ⟨gx, 0, none⟩ = some (.pointer (some ⟨g, 0, none⟩)) := by rw [h4.bx.cell]; rfl
  have ds : w4.cell? ⟨gs, 0, none⟩ = some (.string s) := by rw [h4.bs.cell]; rfl
  have d7 : w4.cell? ⟨g, 7, none⟩ = some (.int .i64 (tk : Int)) := by rw [hsp.bk.cell]; exact hsp.c7
  have f7 := hsp.bk.frozen 7
  obtain ⟨Tn, hTn⟩ : ∃ T, tk + s.size = T := ⟨_, rfl⟩
  have hTz : (tk : Int) + s.size = Tn := by omega
  have hTw : IntKind.i64.wrap (Tn : Int) = Tn := by rw [IntKind.wrap_i64]; omega
  have hg5 : w4.grownBy (w4.setCell ⟨g, 7, none⟩ (.int .i64 (Tn : Int))).drew (some g) := Lib.Hx.grownBy_drew (Lib.grownBy_setB (World.grownBy.refl _ _) 7 _)
  have hK5 : Kp [91] w4 (w4.setCell ⟨g, 7, none⟩ (.int .i64 (Tn : Int))).drew := kp_grown hsp.bk (by decide) hg5
  have hp5 := hK5 _ _ _ (by decide) hv1
  have cp5 : (w4.setCell ⟨g, 7, none⟩ (.int .i64 (Tn : Int))).drew.cell? ⟨gp, 0, none⟩ = some vp := by rw [hp5.cell]; rfl
  have HF : Hid (((w4.setCell ⟨g, 7, none⟩ (.int .i64 (Tn : Int))).drew.ownsRow w.heap.size 58 2 vp (pcs (ctA p) h (tby s)).length (pcv (pcs (ctA p) h (tby s))) ∧ vp ≠ .slice none 0 0) ∧ Spo (w4.setCell ⟨g, 7, none⟩ (.int .i64 (Tn : Int))).drew B g p (lft (ctA p) h (tby s)) Tn (g :: r3 :: vh4.ownBlock.toList) ∧ Kb w (w4.setCell ⟨g, 7, none⟩ (.int .i64 (Tn : Int))).drew fs ∧ (∀ b ∈ g :: r3 :: vh4.ownBlock.toList, b ∈ fs ∨ w.heap.size ≤ b)) := by
    obtain ⟨_, hr3, hc3⟩ := HX.out
    have hro4 := k4 _ _ _ (by decide) hc3.roll
    have hro5 := hK5 _ _ _ (by decide) hro4
    have hkb := h4.kb.step hg5 (fun i hi => by cases hi; exact .inl h4.low.1)
    have hcell : ∀ j, C[j]? = w4.cell? ⟨g, j, none⟩ := fun j => by rw [hsp.bk.cell]
    have hC : C = #[.bool true, .int .i64 (p.B : Int), .int .i64 (p.F : Int), .int .i64 (p.M : Int), .pointer (some ⟨r3, 0, none⟩), .int .i64 ((lft (ctA p) h (tby s)).length : Int), vh4, .int .i64 (tk : Int)] := by
      refine arr8 hsp.c8 hsp.c0 ?_ ?_ ?_ ?_ ?_ hsp.c6 hsp.c7
      · rw [hcell, j4 _ (by omega)]; exact hc3.c0
      · rw [hcell, j4 _ (by omega)]; exact hc3.c1
      · rw [hcell, j4 _ (by omega)]; exact hc3.c2
      · rw [hcell, j4 _ (by omega)]; exact hc3.c3
      · rw [hcell, j4 _ (by omega)]; exact hc3.c4
    have hb5 := hsp.bk.set 7 (.int .i64 (Tn : Int))
    rw [hC] at hb5
    have hin : ∀ b ∈ g :: r3 :: vh4.ownBlock.toList, b ∈ fs ∨ w.heap.size ≤ b := by
      intro b hb
      simp only [List.mem_cons, Option.mem_toList] at hb
      rcases hb with rfl | rfl | hb
      · exact .inl h4.low.1
      · exact hr3
      · exact hvb b hb
    refine ⟨⟨own_kp hv2 (by decide) hK5, hv3⟩, ⟨⟨r3, vh4, hb5, hro5, own_kp hsp.own (by decide) hK5, by simp, fun b hb => by simp [hb]⟩, by simp, lft_opn (ctA p) (tby s) h HSP.out.opn, fun b hb => ⟨?_, ?_⟩⟩, hkb, hin⟩
    · rcases hin b hb with q | q
      · exact (HSP.out.foot b q).1
      · omega
    · have hsz : (w4.setCell ⟨g, 7, none⟩ (.int .i64 (Tn : Int))).drew.heap.size = w4.heap.size := by show (w4.setCell ⟨g, 7, none⟩ (.int .i64 (Tn : Int))).heap.size = _; simp [World.setCell]
      rw [hsz]
      simp only [List.mem_cons, Option.mem_toList] at hb
      rcases hb with rfl | rfl | hb
      · exact hsp.bk.lt
      · exact hro4.lt
      · rcases hsp.own.2 with ⟨q, _⟩ | ⟨g', _, cur, q, _, hc, _⟩
        · rw [q] at hb; cases hb
        · rw [q] at hb; simp [Value.ownBlock] at hb; subst hb; exact (Array.getElem?_eq_some_iff.1 hc).1
  have HTn : Hid (tk + s.size = Tn) := hTn
  clear HX HH HSP hsp hvb hps hv1 hv2 h4 k4 j4 hg5 hK5 hp5 hTn ch cx3 cs3
  go_wp2
  go_region
  go_wp2
  go_ret2
  refine ⟨vp, g :: r3 :: vh4.ownBlock.toList, rfl, ?_⟩
  rw [HTn.out]
  exact HF.out
end Go.Proofs.Ytdinhnpobdfnoaa
