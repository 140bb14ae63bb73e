import Derived.Test.YtahpaekiehdejabDoorY20
import Derived.Test.YtahpaekiehdejabDoorY10
/- The walk of munimentlaw11.PackReads. -/
namespace Go.Proofs.YtahpaekiehdejabDoor
open Go.RowKit
set_option linter.unusedSimpArgs false
set_option linter.unusedVariables false
theorem scA_one {s : ByteArray} {l m : List Ent} {e f : Int} (h : ScA s l e) (g : ScA s m f) : l = m ∧ e = f := by
  rcases h with ⟨rfl, h⟩ | ⟨rfl, rfl, h⟩
  · rcases g with ⟨rfl, g⟩ | ⟨rfl, rfl, g⟩
    · obtain ⟨_, _, a, h1, _⟩ := h
      obtain ⟨_, _, b, g1, _⟩ := g
      exact ⟨(h1.one g1).2, rfl⟩
    · exact absurd h (g l)
  · rcases g with ⟨rfl, g⟩ | ⟨rfl, rfl, g⟩
    · exact absurd g (h m)
    · exact ⟨rfl, rfl⟩
theorem svA_one {s : ByteArray} {l m : List Ent} (h : SvA s l) (g : SvA s m) : l = m := by
  rcases h with ⟨h1, rfl⟩ | ⟨h1, a, h⟩
  · rcases g with ⟨g1, rfl⟩ | ⟨g1, b, g⟩
    · rfl
    · rw [h1] at g1; cases g1
  · rcases g with ⟨g1, rfl⟩ | ⟨g1, b, g⟩
    · rw [h1] at g1; cases g1
    · exact (h.one g).2
/-- What is told of entries. -/
structure EnB (s : ByteArray) (l : List Ent) : Prop where
  ids : ∀ x ∈ l, x.id.size = 32
  len : l.length ≤ 65536
  bds : ∀ x ∈ l, x.sz ≤ 2097152 ∧ x.off ≤ s.size
theorem svA_b {s : ByteArray} {l : List Ent} (h : SvA s l) : EnB s l := by
  rcases h with ⟨_, rfl⟩ | ⟨hp, a, h⟩
  · exact ⟨by simp, by simp, by simp⟩
  · exact ⟨h.1.ids, h.1.small, h.1.bds (pm4 hp)⟩
theorem scA_b {s : ByteArray} {l : List Ent} {e : Int} (h : ScA s l e) : EnB s l := by
  rcases h with ⟨_, _, hp, a, h, _⟩ | ⟨_, rfl, _⟩
  · have := h.1.toA.1
    exact ⟨this.ids, this.small, this.bds (pm4 hp)⟩
  · exact ⟨by simp, by simp, by simp⟩
theorem smA_id (s : ByteArray) : ∃ y, y.size = 32 ∧ smA s = idc y := by
  by_cases hL : isL s
  · obtain ⟨d1, d2, d3⟩ := sm_yes hL
    by_cases he : uhE (s.extract 5 69) = 0
    · have hz3 : (uhS (s.extract 5 69)).size = 32 := by have := hexd_len11 _ he; omega
      have hb : smB11 s = true := by rw [d3, decide_eq_true he]
      refine ⟨uhS (s.extract 5 69), hz3, ?_⟩
      rw [smA, hb, if_pos rfl, d1, prA, if_pos d2, pid_ok _ hz3]
    · have hb : smB11 s = false := by rw [d3, decide_eq_false he]
      refine ⟨⟨Array.replicate 32 0⟩, rfl, ?_⟩
      rw [smA, hb, if_neg (by simp)]
      kernel_rfl
  · refine ⟨⟨Array.replicate 32 0⟩, rfl, ?_⟩
    rw [(sm_not hL).1]
    kernel_rfl
theorem quiet_eqA {P : Program} {o : Oper} {a : Act} {C : World → Prop} {K : Act → Prop} (t : TypeId) (x y : Operand) (ho : o.op = .binOp .eql t x y t) (v1 v2 : Array Value) (r : Value) (hm : P.eqGuardType P.depth t = false)
    (hx : a.eval x = .agg v1) (hy : a.eval y = .agg v2) (hr : ∀ w, (binOp .eql t (.agg v1) (.agg v2)).run P w = .ok r w) (hn : K (a.put o.dst r)) : o.quiet P a C K :=
  quiet_val10 r (fun w hw => by
    unfold execOp
    simp only [ho, hx, hy, Sem.run_bind, run_eqGuard_agg w .eql t x y v1 v2 hm, hr w, Result.andThen_ok, Sem.run_pure]) hn
/-- The program's entries, those from a place on as they were. -/
def EnP (w : World) (a : Option Addr) (k : Nat) (l : List Ent) : Prop :=
  ∀ i e, k ≤ i → l[i]? = some e → ∃ g z C, a = some ⟨g, z, none⟩ ∧ Bk w g C 74 ∧ ∀ j x, (enC e)[j]? = some x → C[z + i * 35 + j]? = some x
theorem EnP.below {w w' : World} {a : Option Addr} {k : Nat} {l : List Ent} (h : EnP w a k l) (hb : Below w.heap.size w w') : EnP w' a k l := fun i e hk he => by
  obtain ⟨g, z, C, h1, h2, h3⟩ := h i e hk he
  exact ⟨g, z, C, h1, h2.below hb h2.lt, h3⟩
theorem EnP.spoil {w : World} {k g z : Nat} {l : List Ent} {v : Value} {C : Array Value} (h : EnP w (some ⟨g, z, none⟩) k l) (hb : Bk w g C 74) (hi : ∀ x ∈ l, x.id.size = 32) : EnP (w.setCell ⟨g, z + k * 35 + 33, none⟩ v) (some ⟨g, z, none⟩) (k + 1) l := fun i e hk he => by
  obtain ⟨g', z', C', h1, h2, h3⟩ := h i e (by omega) he
  injection h1 with h1
  injection h1 with h1 h1'
  subst h1
  subst h1'
  refine ⟨g, z, _, rfl, h2.set (z + k * 35 + 33) v, fun j x hj => ?_⟩
  have hj35 : j < 35 := by rw [← enC_size e (hi e (List.mem_of_getElem? he))]; exact (Array.getElem?_eq_some_iff.1 hj).1
  rw [Array.getElem?_setIfInBounds_ne (by omega)]
  exact h3 j x hj
theorem EnLr.grown {w w' : World} {a : Option Addr} {l : List Ent} {g : Nat} {C : Array Value} (h : EnLr w a l) (hg : w.grownBy w' (some g)) (hb : Bk w g C 74) : EnLr w' a l := fun i e he => by
  obtain ⟨g', z', C', h1, h2, h3⟩ := h i e he
  refine ⟨g', z', C', h1, h2.grown hg (fun q => ?_), h3⟩
  injection q with q
  subst q
  have : some (Obj.cells C' 76 (0, 0)) = some (Obj.cells C 74 (0, 0)) := h2.symm.trans hb
  injection this with this
  injection this with _ this
  exact absurd this (by decide)
theorem ft_own (s : ByteArray) : ftB11 (lbl (sb (sha (byl s)))) s = true := by rw [ftB11]; exact beq_self_eq_true _
set_option maxHeartbeats 8000000 in
set_option maxRecDepth 100000 in
theorem reads11 (s lab : ByteArray) (off : Int) (w : World) (hs : s.size ≤ 140737488351232) (hl : lab.size ≤ 140737488351232) (hA : All w) :
    Calls Tryd.prog 5 #[.string s, .int .i64 off, .string lab] w fun e w' => e = .returned (.bool true) ∧ Below w.heap.size w w' := by
  have HA : Hid (All w) := hA
  clear hA
  have HSC : Hid (∀ W, Lst W → Calls Tryd.prog 16 #[.string s] W fun e w' => ∃ l v er, e = .returned (.tuple #[v, .int .i64 er]) ∧ ScA s l er ∧ w'.ownsRow W.heap.size 74 35 v l.length (env l) ∧ Below W.heap.size W w') := fun W hW => scan_any s W (by omega) hW
  have HSV : Hid (∀ W, Lst W → Calls Tryd.prog 18 #[.string s] W fun e w' => ∃ l v, e = .returned v ∧ SvA s l ∧ w'.ownsRow W.heap.size 74 35 v l.length (env l) ∧ Below W.heap.size W w') := fun W hW => salvage_any s W (by omega) hW
  obtain ⟨k1, hk1⟩ : ∃ k, k = (rdO s off).k := ⟨_, rfl⟩
  obtain ⟨p1, hp1⟩ : ∃ p, p = (rdO s off).p := ⟨_, rfl⟩
  obtain ⟨e1, he1⟩ : ∃ e, e = rdE s off := ⟨_, rfl⟩
  obtain ⟨k2, hk2⟩ : ∃ k, k = (onO s).k := ⟨_, rfl⟩
  obtain ⟨p2, hp2⟩ : ∃ p, p = (onO s).p := ⟨_, rfl⟩
  obtain ⟨e2, he2⟩ : ∃ e, e = onE s := ⟨_, rfl⟩
  have HRD : Hid (∀ W, Calls Tryd.prog 20 #[.string s, .int .i64 off] W fun r w' => r = .returned (.tuple #[.agg #[.int .u8 (k1.toNat : Int), .string p1], .int .i64 e1]) ∧ Below W.heap.size W w') := fun W => by rw [hk1, hp1, he1]; exact read_any s off W (by omega)
  have HRR : Hid (∀ W, Calls Tryd.prog 21 #[.string s, .int .i64 off] W fun r w' => r = .returned (.tuple #[.agg #[.int .u8 (k1.toNat : Int), .string p1], .int .i64 e1]) ∧ Below W.heap.size W w') := fun W => by rw [hk1, hp1, he1]; exact rread_any s off W (by omega)
  have HON : Hid (∀ W, Calls Tryd.prog 22 #[.string s] W fun r w' => r = .returned (.tuple #[.agg #[.int .u8 (k2.toNat : Int), .string p2], .int .i64 e2]) ∧ Below W.heap.size W w') := fun W => by rw [hk2, hp2, he2]; exact one_any s W (by omega)
  have HOR : Hid (∀ W, Calls Tryd.prog 23 #[.string s] W fun r w' => r = .returned (.tuple #[.agg #[.int .u8 (k2.toNat : Int), .string p2], .int .i64 e2]) ∧ Below W.heap.size W w') := fun W => by rw [hk2, hp2, he2]; exact rone_any s W (by omega)
  clear hk1 hp1 he1 hk2 hp2 he2
  go_enter Tryd.func5, Tryd.ntmps5
  go_wp2_with fail
  refine (HSC.out _ HA.out.l).mono ?_
  rintro e w1 ⟨l, v1, er, rfl, hsc, how1, hb1⟩
  have eb := scA_b hsc
  obtain ⟨N, hN⟩ : ∃ N, l.length = N := ⟨_, rfl⟩
  rw [hN] at how1
  obtain ⟨a1, c1, rfl, hel1⟩ := row_enl how1 hN eb.ids
  have HE1 : Hid (EnL w1 a1 l ∧ l.length = N ∧ EnB s l ∧ ScA s l er) := ⟨hel1, hN, eb, hsc⟩
  have hN6 : N ≤ 65536 := by rw [← hN]; exact eb.len
  have B1 : Hid (Below w.heap.size w w1) := hb1
  clear hsc how1 hb1 hel1 eb hN HSC
  go_wp2_with fail
  refine (rscan_any s w1 hs).mono ?_
  rintro e w2 ⟨l', v2, er', rfl, hsc', how2, hb2⟩
  obtain ⟨rfl, rfl⟩ := scA_one HE1.out.2.2.2 hsc'
  rw [HE1.out.2.1] at how2
  obtain ⟨a2, c2, rfl, hel2⟩ := row_enlr how2 HE1.out.2.1 HE1.out.2.2.1.ids
  have HE2 : Hid (EnL w2 a1 l ∧ EnLr w2 a2 l) := ⟨HE1.out.1.below hb2, hel2⟩
  have B2 : Hid (Below w.heap.size w w2) := B1.out.trans (hb2.mono B1.out.size)
  clear hsc' how2 hb2 hel2 B1
  go_wp2_with fail
  refine (HSV.out _ (HA.out.below B2.out).l).mono ?_
  rintro e w3 ⟨m, v3, rfl, hsv, how3, hb3⟩
  have ebm := svA_b hsv
  obtain ⟨n, hn⟩ : ∃ n, m.length = n := ⟨_, rfl⟩
  rw [hn] at how3
  obtain ⟨ac, cc, rfl, hel3⟩ := row_enl how3 hn ebm.ids
  have hn6 : n ≤ 65536 := by rw [← hn]; exact ebm.len
  have HM : Hid (m.length = n ∧ EnB s m ∧ SvA s m) := ⟨hn, ebm, hsv⟩
  have HE3 : Hid (EnL w3 a1 l ∧ EnLr w3 a2 l ∧ EnL w3 ac m ∧ (∀ g z, ac = some ⟨g, z, none⟩ → w.heap.size ≤ g)) := by
    refine ⟨HE2.out.1.below hb3, HE2.out.2.below hb3, hel3, fun g z h => ?_⟩
    rcases how3.2 with ⟨h1, _⟩ | ⟨g', cap, cur, h1, hle, _⟩
    · injection h1 with h1; rw [h1] at h; cases h
    · injection h1 with h1
      rw [h1] at h
      injection h with h
      injection h with h
      have := B2.out.size
      omega
  have B3 : Hid (Below w.heap.size w w3) := B2.out.trans (hb3.mono B2.out.size)
  clear hsv how3 hb3 hel3 ebm hn B2 HE2
  go_wp2_with fail
  refine (rsalv_any s w3 hs).mono ?_
  rintro e w4 ⟨m', v4, rfl, hsv', how4, hb4⟩
  obtain rfl := svA_one HM.out.2.2 hsv'
  rw [HM.out.1] at how4
  obtain ⟨ad, cd, rfl, hel4⟩ := row_enlr how4 HM.out.1 HM.out.2.1.ids
  have HE4 : Hid (EnL w4 a1 l ∧ EnLr w4 a2 l ∧ EnL w4 ac m ∧ EnLr w4 ad m) := ⟨HE3.out.1.below hb4, HE3.out.2.1.below hb4, HE3.out.2.2.1.below hb4, hel4⟩
  have HGC : Hid (∀ g z, ac = some ⟨g, z, none⟩ → w.heap.size ≤ g) := HE3.out.2.2.2
  have B4 : Hid (Below w.heap.size w w4) := B3.out.trans (hb4.mono B3.out.size)
  clear hsv' how4 hb4 hel4 B3 HE3
  go_wp2_with fail
  refine (HRD.out _).mono ?_
  rintro e w5 ⟨rfl, hb5⟩
  have B5 : Hid (Below w4.heap.size w4 w5) := hb5
  clear hb5 HRD
  go_wp2_with fail
  refine (HRR.out _).mono ?_
  rintro e w6 ⟨rfl, hb6⟩
  have B6 : Hid (Below w4.heap.size w4 w6 ∧ Bk w6 w5.heap.size #[.int .u8 (k1.toNat : Int), .string p1] 41) :=
    ⟨(B5.out.alloc B5.out.size _).trans (hb6.mono (by rw [al_size]; have := B5.out.size; omega)), (bk_new _ _ _).below hb6 (by rw [al_size]; omega)⟩
  obtain ⟨g5, hg5⟩ : ∃ g, g = w5.heap.size := ⟨_, rfl⟩
  rw [← hg5] at B6 ⊢
  clear hb6 HRR hg5 B5
  go_wp2_with fail
  refine (HON.out _).mono ?_
  rintro e w7 ⟨rfl, hb7⟩
  have hq7 : Below w6.heap.size w6 w7 := ((Below.refl _ _).alloc (Nat.le_refl _) _).trans (hb7.mono (by rw [al_size]; omega))
  have B7 : Hid (Below w4.heap.size w4 w7 ∧ Bk w7 g5 #[.int .u8 (k1.toNat : Int), .string p1] 41 ∧ Bk w7 w6.heap.size #[.int .u8 (k1.toNat : Int), .string p1] 52) :=
    ⟨B6.out.1.trans (hq7.mono B6.out.1.size), B6.out.2.below hq7 B6.out.2.lt, (bk_new _ _ _).below hb7 (by rw [al_size]; omega)⟩
  obtain ⟨g6, hg6⟩ : ∃ g, g = w6.heap.size := ⟨_, rfl⟩
  rw [← hg6] at B7 ⊢
  clear hb7 HON hg6 B6 hq7
  go_wp2_with fail
  refine (HOR.out _).mono ?_
  rintro e w8 ⟨rfl, hb8⟩
  have hq8 : Below w7.heap.size w7 w8 := ((Below.refl _ _).alloc (Nat.le_refl _) _).trans (hb8.mono (by rw [al_size]; omega))
  have B8 : Hid (Below w4.heap.size w4 w8 ∧ Bk w8 g5 #[.int .u8 (k1.toNat : Int), .string p1] 41 ∧ Bk w8 g6 #[.int .u8 (k1.toNat : Int), .string p1] 52 ∧ Bk w8 w7.heap.size #[.int .u8 (k2.toNat : Int), .string p2] 41) :=
    ⟨B7.out.1.trans (hq8.mono B7.out.1.size), B7.out.2.1.below hq8 B7.out.2.1.lt, B7.out.2.2.below hq8 B7.out.2.2.lt, (bk_new _ _ _).below hb8 (by rw [al_size]; omega)⟩
  obtain ⟨g7, hg7⟩ : ∃ g, g = w7.heap.size := ⟨_, rfl⟩
  rw [← hg7] at B8 ⊢
  clear hb8 HOR hg7 B7 hq8
  obtain ⟨w9, hw9⟩ : ∃ w9, w9 = w8.alloc (.cells #[.int .u8 (k2.toNat : Int), .string p2] 52) := ⟨_, rfl⟩
  obtain ⟨g8, hg8⟩ : ∃ g, g = w8.heap.size := ⟨_, rfl⟩
  have HB9 : Hid (Below w4.heap.size w4 w9) := by rw [hw9]; exact B8.out.1.alloc B8.out.1.size _
  have q5 : Bk w9 g5 #[.int .u8 (k1.toNat : Int), .string p1] 41 := by rw [hw9]; exact B8.out.2.1.alloc _
  have q6 : Bk w9 g6 #[.int .u8 (k1.toNat : Int), .string p1] 52 := by rw [hw9]; exact B8.out.2.2.1.alloc _
  have q7 : Bk w9 g7 #[.int .u8 (k2.toNat : Int), .string p2] 41 := by rw [hw9]; exact B8.out.2.2.2.alloc _
  have q8 : Bk w9 g8 #[.int .u8 (k2.toNat : Int), .string p2] 52 := by rw [hw9, hg8]; exact bk_new _ _ _
  have HQ : Hid (Bk w9 g5 #[.int .u8 (k1.toNat : Int), .string p1] 41 ∧ Bk w9 g6 #[.int .u8 (k1.toNat : Int), .string p1] 52 ∧ Bk w9 g7 #[.int .u8 (k2.toNat : Int), .string p2] 41 ∧ Bk w9 g8 #[.int .u8 (k2.toNat : Int), .string p2] 52) := ⟨q5, q6, q7, q8⟩
  have HN1 : Hid (∀ W, Below w4.heap.size w4 W → Calls Tryd.prog 24 #[.slice a1 N c1, .slice a2 N c2] W fun e w' => e = .returned (.bool true) ∧ Below W.heap.size W w') := fun W hW => entries_eq l a1 a2 N c1 c2 W (HE4.out.1.below hW) (HE4.out.2.1.below hW) HE1.out.2.1 hN6 HE1.out.2.2.1.ids
  have HN2 : Hid (∀ W, Below w4.heap.size w4 W → Calls Tryd.prog 24 #[.slice ac n cc, .slice ad n cd] W fun e w' => e = .returned (.bool true) ∧ Below W.heap.size W w') := fun W hW => entries_eq m ac ad n cc cd W (HE4.out.2.2.1.below hW) (HE4.out.2.2.2.below hW) HM.out.1 hn6 HM.out.2.1.ids
  clear q5 q6 q7 q8 B8
  go_wp2_with fail
  rw [← hw9, ← hg8]
  clear hw9 hg8
  refine (HN1.out _ HB9.out).mono ?_
  rintro e w10 ⟨rfl, hb10⟩
  have HB10 : Hid (Below w4.heap.size w4 w10) := HB9.out.trans (hb10.mono HB9.out.size)
  have HQ10 : Hid (Bk w10 g5 #[.int .u8 (k1.toNat : Int), .string p1] 41 ∧ Bk w10 g6 #[.int .u8 (k1.toNat : Int), .string p1] 52 ∧ Bk w10 g7 #[.int .u8 (k2.toNat : Int), .string p2] 41 ∧ Bk w10 g8 #[.int .u8 (k2.toNat : Int), .string p2] 52) :=
    ⟨HQ.out.1.below hb10 HQ.out.1.lt, HQ.out.2.1.below hb10 HQ.out.2.1.lt, HQ.out.2.2.1.below hb10 HQ.out.2.2.1.lt, HQ.out.2.2.2.below hb10 HQ.out.2.2.2.lt⟩
  clear hb10 HQ HN1
  go_wp2_with fail
  refine (HN2.out _ HB10.out).mono ?_
  rintro e w11 ⟨rfl, hb11⟩
  have HB11 : Hid (Below w4.heap.size w4 w11) := HB10.out.trans (hb11.mono HB10.out.size)
  have q5 := HQ10.out.1.below hb11 HQ10.out.1.lt
  have q6 := HQ10.out.2.1.below hb11 HQ10.out.2.1.lt
  have q7 := HQ10.out.2.2.1.below hb11 HQ10.out.2.2.1.lt
  have q8 := HQ10.out.2.2.2.below hb11 HQ10.out.2.2.2.lt
  have x50 : w11.cell? ⟨g5, 0, none⟩ = some (.int .u8 (k1.toNat : Int)) := by rw [q5.cell]; rfl
  have x51 : w11.cell? ⟨g5, 1, none⟩ = some (.string p1) := by rw [q5.cell]; rfl
  have x60 : w11.cell? ⟨g6, 0, none⟩ = some (.int .u8 (k1.toNat : Int)) := by rw [q6.cell]; rfl
  have x61 : w11.cell? ⟨g6, 1, none⟩ = some (.string p1) := by rw [q6.cell]; rfl
  have x70 : w11.cell? ⟨g7, 0, none⟩ = some (.int .u8 (k2.toNat : Int)) := by rw [q7.cell]; rfl
  have x71 : w11.cell? ⟨g7, 1, none⟩ = some (.string p2) := by rw [q7.cell]; rfl
  have x80 : w11.cell? ⟨g8, 0, none⟩ = some (.int .u8 (k2.toNat : Int)) := by rw [q8.cell]; rfl
  have x81 : w11.cell? ⟨g8, 1, none⟩ = some (.string p2) := by rw [q8.cell]; rfl
  have HE11 : Hid (EnP w11 ac 0 m ∧ EnLr w11 ad m ∧ Below w.heap.size w w11) := by
    refine ⟨fun i e _ he => HE4.out.2.2.1.below HB11.out i e he, HE4.out.2.2.2.below HB11.out, B4.out.trans (HB11.out.mono B4.out.size)⟩
  clear hb11 HQ10 HN2 q5 q6 q7 q8 HE4 HB9 HB10 HB11 HE1 B4
  go_wp2
  clear x50 x51 x60 x61 x70 x71 x80 x81
  go_loopw [21] (fun v wr => ∃ (k : Nat), v = .int .i64 k ∧ k ≤ n ∧ Hid (EnP wr ac k m ∧ EnLr wr ad m ∧ Below w.heap.size w wr)) (fun v _ => n - (intOf v).toNat)
  case atStart => exact ⟨0, rfl, Nat.zero_le _, HE11.out⟩
  case round =>
    obtain ⟨k, rfl, hk, HR⟩ := hrel
    by_cases hlt : k < n
    · have hkz : (k : Int) < (n : Nat) := by omega
      obtain ⟨e, he⟩ : ∃ e, m[k]? = some e := ⟨m[k]'(by rw [HM.out.1]; exact hlt), List.getElem?_eq_getElem _⟩
      have hmem := List.mem_of_getElem? he
      have hez := HM.out.2.1.ids e hmem
      have heb := HM.out.2.1.bds e hmem
      obtain ⟨g, z, C, rfl, hBk, hC⟩ := HR.out.1 k e (Nat.le_refl _) he
      obtain ⟨gd, zd, D, rfl, hBd, hD⟩ := HR.out.2.1 k e he
      have hi35 := info_en (enC_size e hez)
      have hi35R := info_enR (enC_size e hez)
      have hat := enC_at e hez
      have HSP : Hid (∀ W, Calls Tryd.prog 25 #[.agg (enC e)] W fun r w' => r = .returned (.tuple #[.int .i64 (e.off : Int), .int .i64 (9 + (e.sz : Int))]) ∧ Below W.heap.size W w') := fun W => span_any e W hez (by omega) (by omega)
      have HSR : Hid (∀ W, Calls Tryd.prog 26 #[.agg (enC e)] W fun r w' => r = .returned (.tuple #[.int .i64 (e.off : Int), .int .i64 (9 + (e.sz : Int))]) ∧ Below W.heap.size W w') := fun W => rspan_any e W hez (by omega) (by omega)
      have HC : Hid (∀ j v, (enC e)[j]? = some v → C[z + k * 35 + j]? = some v) := hC
      have HD : Hid (∀ j v, (enC e)[j]? = some v → D[zd + k * 35 + j]? = some v) := hD
      have HK : Hid (Bk wr g C 74) := hBk
      have HKd : Hid (Bk wr gd D 76) := hBd
      obtain ⟨ec, hec⟩ : ∃ ec, ec = enC e := ⟨_, rfl⟩
      obtain ⟨eo, heo⟩ : ∃ eo, eo = e.off := ⟨_, rfl⟩
      obtain ⟨es, hes⟩ : ∃ es, es = e.sz := ⟨_, rfl⟩
      have hoz : eo ≤ 140737488351232 := by omega
      have hszz : es ≤ 2097152 := by omega
      have HO33 : Hid (C[z + k * 35 + 33]? = some (.int .i64 (eo : Int))) := by show _ = _; rw [heo]; exact hC 33 _ hat.2.1
      rw [← hec] at hi35 hi35R HC HD
      rw [← hec, ← heo, ← hes] at HSP HSR
      have HGC' : w.heap.size ≤ g := HGC.out g z rfl
      clear he hmem hez heb hBk hC hBd hD hat hec heo hes HE11
      go_wp2_with (first
        | (refine wpList_get rfl 74 (.tmp 130) rfl g (z + k * 35) C ec 74 _ rfl HK.out HC.out Tryd.underlying74 rfl hi35 ?_)
        | fail)
      refine (HSP.out _).mono ?_
      rintro e w12 ⟨rfl, hb12⟩
      have HK12 : Hid (Bk w12 gd D 76) := HKd.out.below hb12 HKd.out.lt
      have B12 : Hid (Below wr.heap.size wr w12) := hb12
      clear hb12 HSP
      go_wp2_with (first
        | (refine wpList_get rfl 76 (.tmp 138) rfl gd (zd + k * 35) D ec 76 _ rfl HK12.out HD.out Tryd.underlying76 rfl hi35R ?_)
        | fail)
      refine (HSR.out _).mono ?_
      rintro e w13 ⟨rfl, hb13⟩
      have B13 : Hid (Below wr.heap.size wr w13) := B12.out.trans (hb13.mono B12.out.size)
      have hk13 : Bk w13 g C 74 := HK.out.below B13.out HK.out.lt
      have y33 : w13.cell? ⟨g, z + k * 35 + 33, none⟩ = some (.int .i64 (eo : Int)) := by rw [hk13.cell]; exact HO33.out
      have f33 := hk13.frozen (z + k * 35 + 33)
      have hgr : w13.grownBy (w13.setCell ⟨g, z + k * 35 + 33, none⟩ (.int .i64 (-1))) (some g) := Lib.grownBy_setB (World.grownBy.refl _ _) _ _
      have HNX : Hid (EnP (w13.setCell ⟨g, z + k * 35 + 33, none⟩ (.int .i64 (-1))) (some ⟨g, z, none⟩) (k + 1) m ∧ EnLr (w13.setCell ⟨g, z + k * 35 + 33, none⟩ (.int .i64 (-1))) (some ⟨gd, zd, none⟩) m ∧ Below w.heap.size w (w13.setCell ⟨g, z + k * 35 + 33, none⟩ (.int .i64 (-1)))) := by
        have hB : Below w.heap.size w w13 := HR.out.2.2.trans (B13.out.mono HR.out.2.2.size)
        exact ⟨(HR.out.1.below B13.out).spoil hk13 HM.out.2.1.ids, (HR.out.2.1.below B13.out).grown hgr hk13, below_own hB hB.size hgr HGC'⟩
      have hglt := hk13.lt
      clear hb13 HSR hk13 hgr B12 HK12 HKd HK HC HD HR HO33
      go_wp2
      go_roundw
      case rel => exact ⟨k + 1, by go_num, by omega, HNX.out⟩
      case measure => simp [intOf]; omega
    · have hkz : ¬ (k : Int) < (n : Nat) := by omega
      obtain ⟨y, hy32, hyA⟩ := smA_id lab
      obtain ⟨A, hAd⟩ : ∃ A, A = smA lab := ⟨_, rfl⟩
      obtain ⟨es, hes⟩ : ∃ e, e = smE lab := ⟨_, rfl⟩
      obtain ⟨x, hx⟩ : ∃ x, x = sb (sha (byl s)) := ⟨_, rfl⟩
      obtain ⟨L, hLd⟩ : ∃ L, L = lbl x := ⟨_, rfl⟩
      obtain ⟨FB, hFB⟩ : ∃ FB, FB = ftB11 lab s := ⟨_, rfl⟩
      have hxz : x.size = 32 := by rw [hx]; exact sha_size _
      have hAz : A.size = 32 := by rw [hAd, hyA, idc_size, hy32]
      have hA1 : A.all (·.oneCell') = true := by rw [hAd, hyA]; exact idc_all _
      have hiA : (Tryd.prog.info? 29).map (·.size) = some A.size := info_32 hAz
      have hiX : (Tryd.prog.info? 29).map (·.size) = some (idc x).size := info_32 (by rw [idc_size, hxz])
      have hzA : z32c.size = A.size := by rw [hAz]; exact z32c_size
      have hzX : z32c.size = (idc x).size := by rw [idc_size, hxz]; exact z32c_size
      have HQA : Hid (∀ W, (binOp .eql 29 (.agg A) (.agg A)).run Tryd.prog W = .ok (.bool true) W) := fun W => by rw [hAd, hyA, eql_ids y y hy32 hy32]; simp
      have HS1 : Hid (∀ W, All W → Calls Tryd.prog 27 #[.string lab] W fun e w' => e = .returned (.tuple #[.agg A, .int .i64 es]) ∧ Below W.heap.size W w') := fun W hW => by rw [hAd, hes]; exact sum11 lab W hl hW
      have HS2 : Hid (∀ W, Calls Tryd.prog 28 #[.string lab] W fun e w' => e = .returned (.tuple #[.agg A, .int .i64 es]) ∧ Below W.heap.size W w') := fun W => by rw [hAd, hes]; exact rsum11 lab W hl
      have HQk : Hid (∀ W, Calls Tryd.prog 29 #[.string s] W fun e w' => e = .returned (.agg (idc x)) ∧ Below W.heap.size W w') := fun W => by rw [hx]; exact quick_id11 s W hs
      have HF0 : Hid (∀ W, All W → Calls Tryd.prog 30 #[.agg (idc x)] W fun e w' => e = .returned (.string L) ∧ Below W.heap.size W w') := fun W hW => by rw [hLd]; exact label_any x W hxz hW
      have HF1 : Hid (∀ W, Calls Tryd.prog 31 #[.agg (idc x)] W fun e w' => e = .returned (.string L) ∧ Below W.heap.size W w') := fun W => by rw [hLd]; exact rlabel_any x W hxz
      have hLz : L.size ≤ 140737488355328 := by
        rw [hLd, lbl, ByteArray.size_append, ByteArray.size_append, sb_size, hexL_length, bl_length, hxz, lbF_size, lbE_size]; omega
      have HF2 : Hid (∀ W, All W → Calls Tryd.prog 32 #[.string lab, .string s] W fun e w' => e = .returned (.bool FB) ∧ Below W.heap.size W w') := fun W hW => by rw [hFB]; exact fits11 lab s W (by omega) (by omega) hW
      have HF3 : Hid (∀ W, Calls Tryd.prog 33 #[.string lab, .string s] W fun e w' => e = .returned (.bool FB) ∧ Below W.heap.size W w') := fun W => by rw [hFB]; exact rfits11 lab s W (by omega) hs
      have HF4 : Hid (∀ W, All W → Calls Tryd.prog 32 #[.string L, .string s] W fun e w' => e = .returned (.bool true) ∧ Below W.heap.size W w') := fun W hW => by
        have := fits11 L s W hLz (by omega) hW
        rwa [hLd, hx, ft_own, ← hx, ← hLd] at this
      have HR' : Hid (EnLr wr ad m ∧ Below w.heap.size w wr) := ⟨HR.out.2.1, HR.out.2.2⟩
      clear hAd hyA hes hx hLd hFB HR HE11
      go_wp2_with fail
      refine (HS1.out _ (HA.out.below HR'.out.2)).mono ?_
      rintro e w12 ⟨rfl, hb12⟩
      have B12 : Hid (Below wr.heap.size wr w12) := hb12
      clear hb12 HS1
      go_wp2_with (first
        | (refine wpList_store_abs rfl 29 (.tmp 26) (.tmp 158) rfl A z32c 29 w12.heap.size rfl rfl rfl hiA hzA hA1 ?_; intro w13 HBk HG hsz3; have H13 : Hid (Bk w13 w12.heap.size A 29 ∧ Below wr.heap.size wr w13) := ⟨HBk.out, B12.out.trans ((below_none HG.out).mono B12.out.size)⟩; clear HBk HG hsz3)
        | fail)
      refine (HS2.out _).mono ?_
      rintro e w14 ⟨rfl, hb14⟩
      have H14 : Hid (Bk w14 w12.heap.size A 29 ∧ Below wr.heap.size wr w14) := ⟨H13.out.1.below hb14 H13.out.1.lt, H13.out.2.trans (hb14.mono H13.out.2.size)⟩
      obtain ⟨g26, hg26⟩ : ∃ g, g = w12.heap.size := ⟨_, rfl⟩
      rw [← hg26] at H14 ⊢
      clear hb14 HS2 H13 hg26 B12
      go_wp2_with (first
        | (refine wpList_store_abs rfl 29 (.tmp 28) (.tmp 163) rfl A z32c 29 w14.heap.size rfl rfl rfl hiA hzA hA1 ?_; intro w15 HBk HG hsz3; have H15 : Hid (Bk w15 g26 A 29 ∧ Bk w15 w14.heap.size A 29 ∧ Below wr.heap.size wr w15) := ⟨H14.out.1.grown HG.out (by simp), HBk.out, H14.out.2.trans ((below_none HG.out).mono H14.out.2.size)⟩; clear HBk HG hsz3)
        | fail)
      obtain ⟨g28, hg28⟩ : ∃ g, g = w14.heap.size := ⟨_, rfl⟩
      rw [← hg28] at H15 ⊢
      clear hg28 H14
      have B15 : Hid (Below w.heap.size w w15) := HR'.out.2.trans (H15.out.2.2.mono HR'.out.2.size)
      refine (HSV.out _ (HA.out.below B15.out).l).mono ?_
      rintro e w16 ⟨m', v6, rfl, hsv', how6, hb16⟩
      obtain rfl := svA_one HM.out.2.2 hsv'
      rw [HM.out.1] at how6
      obtain ⟨a6, c6, rfl, hel6⟩ := row_enl how6 HM.out.1 HM.out.2.1.ids
      have H16 : Hid (Bk w16 g26 A 29 ∧ Bk w16 g28 A 29 ∧ Below wr.heap.size wr w16 ∧ EnL w16 a6 m) := ⟨H15.out.1.below hb16 H15.out.1.lt, H15.out.2.1.below hb16 H15.out.2.1.lt, H15.out.2.2.trans (hb16.mono H15.out.2.2.size), hel6⟩
      clear hsv' how6 hel6 hb16 H15 B15 HSV
      go_wp2_with fail
      refine (HQk.out _).mono ?_
      rintro e w17 ⟨rfl, hb17⟩
      have H17 : Hid (Bk w17 g26 A 29 ∧ Bk w17 g28 A 29 ∧ Below wr.heap.size wr w17 ∧ EnL w17 a6 m) := ⟨H16.out.1.below hb17 H16.out.1.lt, H16.out.2.1.below hb17 H16.out.2.1.lt, H16.out.2.2.1.trans (hb17.mono H16.out.2.2.1.size), H16.out.2.2.2.below hb17⟩
      clear hb17 HQk H16
      go_wp2_with (first
        | (refine wpList_store_abs rfl 29 (.tmp 31) (.tmp 168) rfl (idc x) z32c 29 w17.heap.size rfl rfl rfl hiX hzX (idc_all x) ?_; intro w18 HBk HG hsz3; have H18 : Hid (Bk w18 g26 A 29 ∧ Bk w18 g28 A 29 ∧ Bk w18 w17.heap.size (idc x) 29 ∧ Below wr.heap.size wr w18 ∧ EnL w18 a6 m) := ⟨H17.out.1.grown HG.out (by simp), H17.out.2.1.grown HG.out (by simp), HBk.out, H17.out.2.2.1.trans ((below_none HG.out).mono H17.out.2.2.1.size), H17.out.2.2.2.below (below_none HG.out)⟩; clear HBk HG hsz3)
        | fail)
      obtain ⟨g31, hg31⟩ : ∃ g, g = w17.heap.size := ⟨_, rfl⟩
      rw [← hg31] at H18 ⊢
      clear hg31 H17
      have BW : Hid (∀ W, Below w18.heap.size w18 W → Below w.heap.size w W) := fun W hW => (HR'.out.2.trans (H18.out.2.2.2.1.mono HR'.out.2.size)).trans (hW.mono (HR'.out.2.trans (H18.out.2.2.2.1.mono HR'.out.2.size)).size)
      have H26 : Hid (∀ W, Below w18.heap.size w18 W → Bk W g26 A 29) := fun W hW => H18.out.1.below hW H18.out.1.lt
      have H28 : Hid (∀ W, Below w18.heap.size w18 W → Bk W g28 A 29) := fun W hW => H18.out.2.1.below hW H18.out.2.1.lt
      have H31 : Hid (∀ W, Below w18.heap.size w18 W → Bk W g31 (idc x) 29) := fun W hW => H18.out.2.2.1.below hW H18.out.2.2.1.lt
      have HEN : Hid (∀ W, Below w18.heap.size w18 W → Calls Tryd.prog 24 #[.slice a6 n c6, .slice ad n cd] W fun e w' => e = .returned (.bool true) ∧ Below w18.heap.size w18 w') := fun W hW =>
        (entries_eq m a6 ad n c6 cd W (H18.out.2.2.2.2.below hW) ((HR'.out.1.below H18.out.2.2.2.1).below hW) HM.out.1 hn6 HM.out.2.1.ids).mono fun e w' h => ⟨h.1, hW.trans (h.2.mono hW.size)⟩
      have HLB : Hid (∀ W, Below w18.heap.size w18 W → Calls Tryd.prog 30 #[.agg (idc x)] W fun e w' => e = .returned (.string L) ∧ Below w18.heap.size w18 w') := fun W hW => (HF0.out W (HA.out.below (BW.out W hW))).mono fun e w' h => ⟨h.1, hW.trans (h.2.mono hW.size)⟩
      have HLR : Hid (∀ W, Below w18.heap.size w18 W → Calls Tryd.prog 31 #[.agg (idc x)] W fun e w' => e = .returned (.string L) ∧ Below w18.heap.size w18 w') := fun W hW => (HF1.out W).mono fun e w' h => ⟨h.1, hW.trans (h.2.mono hW.size)⟩
      have HFT : Hid (∀ W, Below w18.heap.size w18 W → Calls Tryd.prog 32 #[.string lab, .string s] W fun e w' => e = .returned (.bool FB) ∧ Below w18.heap.size w18 w') := fun W hW => (HF2.out W (HA.out.below (BW.out W hW))).mono fun e w' h => ⟨h.1, hW.trans (h.2.mono hW.size)⟩
      have HFR : Hid (∀ W, Below w18.heap.size w18 W → Calls Tryd.prog 33 #[.string lab, .string s] W fun e w' => e = .returned (.bool FB) ∧ Below w18.heap.size w18 w') := fun W hW => (HF3.out W).mono fun e w' h => ⟨h.1, hW.trans (h.2.mono hW.size)⟩
      have HFL : Hid (∀ W, Below w18.heap.size w18 W → Calls Tryd.prog 32 #[.string L, .string s] W fun e w' => e = .returned (.bool true) ∧ Below w18.heap.size w18 w') := fun W hW => (HF4.out W (HA.out.below (BW.out W hW))).mono fun e w' h => ⟨h.1, hW.trans (h.2.mono hW.size)⟩
      have HAW : Hid (∀ W, Below w18.heap.size w18 W → Calls Tryd.prog 15 #[] W fun e w' => e = .returned (.bool true) ∧ Below w18.heap.size w18 w') := fun W hW => (awake11 W (HA.out.below (BW.out W hW)).l).mono fun e w' h => ⟨h.1, hW.trans (h.2.mono hW.size)⟩
      clear H18 HF0 HF1 HF2 HF3 HF4 HM HR' HGC
      refine region_class10 (fun W => Below w18.heap.size w18 W) (by kernel_rfl) (by kernel_rfl) (Below.refl _ _).drew ?_
      try simp only [Act.put, List.setIfInBounds_toArray, List.set_cons_zero, List.set_cons_succ]
      (go_big_quiet_want; refine quiet_row 29 (.tmp 26) rfl g26 0 A A 29 _ rfl H26.out (fun j u hu => by rw [Nat.zero_add]; exact hu) Tryd.underlying29 rfl hiA ?_; go_big_quiet_on; simp only [Act.put, List.setIfInBounds_toArray, List.set_cons_zero, List.set_cons_succ])
      (go_big_quiet_want; refine quiet_row 29 (.tmp 28) rfl g28 0 A A 29 _ rfl H28.out (fun j u hu => by rw [Nat.zero_add]; exact hu) Tryd.underlying29 rfl hiA ?_; go_big_quiet_on; simp only [Act.put, List.setIfInBounds_toArray, List.set_cons_zero, List.set_cons_succ])
      (go_big_quiet_want; refine quiet_eqA 29 (.tmp 169) (.tmp 170) rfl A A (.bool true) (by kernel_rfl) rfl rfl HQA.out ?_; go_big_quiet_on; simp only [Act.put, List.setIfInBounds_toArray, List.set_cons_zero, List.set_cons_succ])
      (go_big_quiet_want; refine quiet_val10 (.bool true) ?_ ?_; (focus (intro W hW; go_simp; done)); go_big_quiet_on; simp only [Act.put, List.setIfInBounds_toArray, List.set_cons_zero, List.set_cons_succ])
      (go_big_quiet_want; refine quiet_val10 (.int .i64 es) ?_ ?_; (focus (intro W hW; go_simp; done)); go_big_quiet_on; simp only [Act.put, List.setIfInBounds_toArray, List.set_cons_zero, List.set_cons_succ])
      (go_big_quiet_want; refine quiet_val10 (.int .i64 es) ?_ ?_; (focus (intro W hW; go_simp; done)); go_big_quiet_on; simp only [Act.put, List.setIfInBounds_toArray, List.set_cons_zero, List.set_cons_succ])
      (go_big_quiet_want; refine quiet_val10 (.bool true) ?_ ?_; (focus (intro W hW; go_simp; done)); go_big_quiet_on; simp only [Act.put, List.setIfInBounds_toArray, List.set_cons_zero, List.set_cons_succ])
      (go_big_quiet_want; refine quiet_val10 (.bool true) ?_ ?_; (focus (intro W hW; go_simp; done)); go_big_quiet_on; simp only [Act.put, List.setIfInBounds_toArray, List.set_cons_zero, List.set_cons_succ])
      (go_big_quiet_want; refine quiet_val10 (.bool true) ?_ ?_; (focus (intro W hW; go_simp; done)); go_big_quiet_on; simp only [Act.put, List.setIfInBounds_toArray, List.set_cons_zero, List.set_cons_succ])
      (go_big_quiet_want; refine quiet_val10 (.slice a6 n c6) ?_ ?_; (focus (intro W hW; go_simp; done)); go_big_quiet_on; simp only [Act.put, List.setIfInBounds_toArray, List.set_cons_zero, List.set_cons_succ])
      (go_big_quiet_want; refine quiet_val10 (.slice ad n cd) ?_ ?_; (focus (intro W hW; go_simp; done)); go_big_quiet_on; simp only [Act.put, List.setIfInBounds_toArray, List.set_cons_zero, List.set_cons_succ])
      (go_big_quiet_want; refine quiet_call10 (.bool true) 24 #[.slice a6 n c6, .slice ad n cd] ?_ HEN.out ?_; (focus (intro W hW; go_simp; done)); go_big_quiet_on; simp only [Act.put, List.setIfInBounds_toArray, List.set_cons_zero, List.set_cons_succ])
      (go_big_quiet_want; refine quiet_val10 (.bool true) ?_ ?_; (focus (intro W hW; go_simp; done)); go_big_quiet_on; simp only [Act.put, List.setIfInBounds_toArray, List.set_cons_zero, List.set_cons_succ])
      (go_big_quiet_want; refine quiet_val10 (.bool true) ?_ ?_; (focus (intro W hW; go_simp; done)); go_big_quiet_on; simp only [Act.put, List.setIfInBounds_toArray, List.set_cons_zero, List.set_cons_succ])
      (go_big_quiet_want; refine quiet_row 29 (.tmp 31) rfl g31 0 (idc x) (idc x) 29 _ rfl H31.out (fun j u hu => by rw [Nat.zero_add]; exact hu) Tryd.underlying29 rfl hiX ?_; go_big_quiet_on; simp only [Act.put, List.setIfInBounds_toArray, List.set_cons_zero, List.set_cons_succ])
      (go_big_quiet_want; refine quiet_call10 (.string L) 30 #[.agg (idc x)] ?_ HLB.out ?_; (focus (intro W hW; go_simp; done)); go_big_quiet_on; simp only [Act.put, List.setIfInBounds_toArray, List.set_cons_zero, List.set_cons_succ])
      (go_big_quiet_want; refine quiet_row 29 (.tmp 31) rfl g31 0 (idc x) (idc x) 29 _ rfl H31.out (fun j u hu => by rw [Nat.zero_add]; exact hu) Tryd.underlying29 rfl hiX ?_; go_big_quiet_on; simp only [Act.put, List.setIfInBounds_toArray, List.set_cons_zero, List.set_cons_succ])
      (go_big_quiet_want; refine quiet_call10 (.string L) 31 #[.agg (idc x)] ?_ HLR.out ?_; (focus (intro W hW; go_simp; done)); go_big_quiet_on; simp only [Act.put, List.setIfInBounds_toArray, List.set_cons_zero, List.set_cons_succ])
      (go_big_quiet_want; refine quiet_val10 (.bool true) ?_ ?_; (focus (intro W hW; go_simp; done)); go_big_quiet_on; simp only [Act.put, List.setIfInBounds_toArray, List.set_cons_zero, List.set_cons_succ])
      (go_big_quiet_want; refine quiet_val10 (.bool true) ?_ ?_; (focus (intro W hW; go_simp; done)); go_big_quiet_on; simp only [Act.put, List.setIfInBounds_toArray, List.set_cons_zero, List.set_cons_succ])
      (go_big_quiet_want; refine quiet_val10 (.bool true) ?_ ?_; (focus (intro W hW; go_simp; done)); go_big_quiet_on; simp only [Act.put, List.setIfInBounds_toArray, List.set_cons_zero, List.set_cons_succ])
      (go_big_quiet_want; refine quiet_val10 (.string lab) ?_ ?_; (focus (intro W hW; go_simp; done)); go_big_quiet_on; simp only [Act.put, List.setIfInBounds_toArray, List.set_cons_zero, List.set_cons_succ])
      (go_big_quiet_want; refine quiet_val10 (.string s) ?_ ?_; (focus (intro W hW; go_simp; done)); go_big_quiet_on; simp only [Act.put, List.setIfInBounds_toArray, List.set_cons_zero, List.set_cons_succ])
      (go_big_quiet_want; refine quiet_call10 (.bool FB) 32 #[.string lab, .string s] ?_ HFT.out ?_; (focus (intro W hW; go_simp; done)); go_big_quiet_on; simp only [Act.put, List.setIfInBounds_toArray, List.set_cons_zero, List.set_cons_succ])
      (go_big_quiet_want; refine quiet_val10 (.string lab) ?_ ?_; (focus (intro W hW; go_simp; done)); go_big_quiet_on; simp only [Act.put, List.setIfInBounds_toArray, List.set_cons_zero, List.set_cons_succ])
      (go_big_quiet_want; refine quiet_val10 (.string s) ?_ ?_; (focus (intro W hW; go_simp; done)); go_big_quiet_on; simp only [Act.put, List.setIfInBounds_toArray, List.set_cons_zero, List.set_cons_succ])
      (go_big_quiet_want; refine quiet_call10 (.bool FB) 33 #[.string lab, .string s] ?_ HFR.out ?_; (focus (intro W hW; go_simp; done)); go_big_quiet_on; simp only [Act.put, List.setIfInBounds_toArray, List.set_cons_zero, List.set_cons_succ])
      (go_big_quiet_want; refine quiet_val10 (.bool true) ?_ ?_; (focus (intro W hW; go_simp; done)); go_big_quiet_on; simp only [Act.put, List.setIfInBounds_toArray, List.set_cons_zero, List.set_cons_succ])
      (go_big_quiet_want; refine quiet_val10 (.bool true) ?_ ?_; (focus (intro W hW; go_simp; done)); go_big_quiet_on; simp only [Act.put, List.setIfInBounds_toArray, List.set_cons_zero, List.set_cons_succ])
      (go_big_quiet_want; refine quiet_val10 (.bool true) ?_ ?_; (focus (intro W hW; go_simp; done)); go_big_quiet_on; simp only [Act.put, List.setIfInBounds_toArray, List.set_cons_zero, List.set_cons_succ])
      (go_big_quiet_want; refine quiet_row 29 (.tmp 31) rfl g31 0 (idc x) (idc x) 29 _ rfl H31.out (fun j u hu => by rw [Nat.zero_add]; exact hu) Tryd.underlying29 rfl hiX ?_; go_big_quiet_on; simp only [Act.put, List.setIfInBounds_toArray, List.set_cons_zero, List.set_cons_succ])
      (go_big_quiet_want; refine quiet_call10 (.string L) 31 #[.agg (idc x)] ?_ HLR.out ?_; (focus (intro W hW; go_simp; done)); go_big_quiet_on; simp only [Act.put, List.setIfInBounds_toArray, List.set_cons_zero, List.set_cons_succ])
      (go_big_quiet_want; refine quiet_val10 (.string s) ?_ ?_; (focus (intro W hW; go_simp; done)); go_big_quiet_on; simp only [Act.put, List.setIfInBounds_toArray, List.set_cons_zero, List.set_cons_succ])
      (go_big_quiet_want; refine quiet_call10 (.bool true) 32 #[.string L, .string s] ?_ HFL.out ?_; (focus (intro W hW; go_simp; done)); go_big_quiet_on; simp only [Act.put, List.setIfInBounds_toArray, List.set_cons_zero, List.set_cons_succ])
      (go_big_quiet_want; refine quiet_val10 (.bool true) ?_ ?_; (focus (intro W hW; go_simp; done)); go_big_quiet_on; simp only [Act.put, List.setIfInBounds_toArray, List.set_cons_zero, List.set_cons_succ])
      (go_big_quiet_want; refine quiet_val10 (.bool true) ?_ ?_; (focus (intro W hW; go_simp; done)); go_big_quiet_on; simp only [Act.put, List.setIfInBounds_toArray, List.set_cons_zero, List.set_cons_succ])
      (go_big_quiet_want; refine quiet_call10 (.bool true) 15 #[] ?_ HAW.out ?_; (focus (intro W hW; go_simp; done)); go_big_quiet_on; simp only [Act.put, List.setIfInBounds_toArray, List.set_cons_zero, List.set_cons_succ])
      (go_big_quiet_want; refine quiet_val10 (.bool true) ?_ ?_; (focus (intro W hW; go_simp; done)); go_big_quiet_on; simp only [Act.put, List.setIfInBounds_toArray, List.set_cons_zero, List.set_cons_succ])
      (go_big_quiet_want; refine quiet_val10 (.bool true) ?_ ?_; (focus (intro W hW; go_simp; done)); go_big_quiet_on; simp only [Act.put, List.setIfInBounds_toArray, List.set_cons_zero, List.set_cons_succ])
      refine wpQuiet_nil ?_
      intro w19 hw19
      have HF : Hid (Below w.heap.size w w19) := BW.out _ hw19
      clear hw19
      go_wp2
      go_ret
      exact ⟨rfl, HF.out⟩
end Go.Proofs.YtahpaekiehdejabDoor
