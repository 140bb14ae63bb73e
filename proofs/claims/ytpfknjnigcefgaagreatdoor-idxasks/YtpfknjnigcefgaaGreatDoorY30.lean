import Derived.Test.YtpfknjnigcefgaaGreatDoorY28
import Derived.Test.YtpfknjnigcefgaaGreatDoorY12
import Derived.Test.YtpfknjnigcefgaaGreatDoorY29
import Derived.Test.YtpfknjnigcefgaaGreatDoorY7
import Derived.Test.YtpfknjnigcefgaaGreatDoorY2
/- pack.Check, framed, trailer, first. -/
namespace Go.Proofs.YtpfknjnigcefgaaGreatDoor
open Go.RowKit
set_option linter.unusedSimpArgs false
set_option linter.unusedVariables false
def ckO (o : Ob) : Int := if okO o = true then 0 else 1
theorem ret_i11 {a b : Int} (h : b = a) : Ending.returned (.int .i64 a) = .returned (.int .i64 b) := by rw [h]
set_option maxHeartbeats 400000 in
theorem check11 (o : Ob) (w : World) (hm : o.p.size ≤ maxLen) :
    Calls Tryz.prog 132 #[.agg #[.int .u8 (o.k.toNat : Int), .string o.p]] w fun e w' => e = .returned (.int .i64 (ckO o)) ∧ Below w.heap.size w w' := by
  unfold maxLen at hm
  have hr : Below w.heap.size w (w.alloc (.cells #[.int .u8 (o.k.toNat : Int), .string o.p] 157)) := (Below.refl _ _).alloc (Nat.le_refl _) _
  have HR : Hid (Below w.heap.size w (w.alloc (.cells #[.int .u8 (o.k.toNat : Int), .string o.p] 157))) := hr
  obtain ⟨k, p⟩ := o
  simp only at hm hr HR ⊢
  clear hr
  have HC : Hid (∀ b : Int, ((1 ≤ k.toNat ∧ k.toNat ≤ 5 ∧ p.size ≤ 2097152) → b = 0) → (¬ (1 ≤ k.toNat ∧ k.toNat ≤ 5 ∧ p.size ≤ 2097152) → b = 1) → ckO ⟨k, p⟩ = b) := by
    intro b h1 h2
    unfold ckO
    split
    · rename_i h; exact (h1 ((okO_iff _).1 h)).symm
    · rename_i h; exact (h2 (fun h3 => h ((okO_iff _).2 h3))).symm
  have hk := k.toNat_lt
  generalize k.toNat = n at HR HC hk ⊢
  by_cases h1 : n < 1
  · have hz : n = 0 := by omega
    subst hz
    go_enter Tryz.func132, Tryz.ntmps132
    go_wp2
    go_ret
    exact ⟨ret_i11 (HC.out _ (by omega) (by omega)), HR.out⟩
  have g1 : ¬ (n : Int) < 1 := by omega
  by_cases h2 : 5 < n
  · have g2 : (5 : Int) < n := by omega
    go_enter Tryz.func132, Tryz.ntmps132
    go_wp2
    go_ret
    exact ⟨ret_i11 (HC.out _ (by omega) (by omega)), HR.out⟩
  have g2 : ¬ (5 : Int) < n := by omega
  by_cases h3 : 2097152 < p.size
  · have g3 : (2097152 : Int) < p.size := by omega
    go_enter Tryz.func132, Tryz.ntmps132
    go_wp2
    go_ret
    exact ⟨ret_i11 (HC.out _ (by omega) (by omega)), HR.out⟩
  have g3 : ¬ (2097152 : Int) < p.size := by omega
  go_enter Tryz.func132, Tryz.ntmps132
  go_wp2
  go_ret
  exact ⟨ret_i11 (HC.out _ (by omega) (by omega)), HR.out⟩
set_option maxHeartbeats 400000 in
theorem framed_any (p : ByteArray) (w : World) (hp : p.size ≤ 67108864) :
    Calls Tryz.prog 109 #[.string p] w fun e w' => e = .returned (.string (frm p)) ∧ Below w.heap.size w w' := by
  go_enter Tryz.func109, Tryz.ntmps109
  go_wp2_with fail
  refine (frame_ok p _ hp).mono ?_
  rintro e w1 ⟨rfl, hb⟩
  go_wp2
  go_ret
  exact ⟨rfl, hb⟩
set_option maxHeartbeats 400000 in
theorem trailer_any (n : Nat) (w : World) (hn : n < 9223372036854775808) :
    Calls Tryz.prog 71 #[.int .i64 (n : Int)] w fun e w' => e = .returned (.string (trl n)) ∧ Below w.heap.size w w' := by
  have hw : IntKind.u64.wrap (n : Int) = (n : Int) := by
    simp [IntKind.wrap, IntKind.bits, IntKind.signed]; omega
  go_enter Tryz.func71, Tryz.ntmps71
  go_wp2_with fail
  refine (put_any ⟨#[0]⟩ (n : Int) _ (by omega) (by omega) (by decide)).mono ?_
  rintro e w1 ⟨rfl, hb⟩
  rw [Int.toNat_natCast]
  have HB : Hid (Below w.heap.size w w1) := hb
  clear hb
  obtain ⟨q, hq⟩ : ∃ q, q = trB n := ⟨_, rfl⟩
  have e1 : (⟨#[0]⟩ : ByteArray) ++ sb (encS n) = q := by rw [hq]; rfl
  rw [e1]
  clear e1
  have hz : q.size ≤ 67108864 := by rw [hq, trB_size]; have := encS_le n (by omega); omega
  have HQ : Hid (q = trB n) := hq
  clear hq
  go_wp2_with fail
  refine (framed_any q _ hz).mono ?_
  rintro e w2 ⟨rfl, hb2⟩
  go_wp2
  go_ret
  refine ⟨?_, HB.out.trans (hb2.mono HB.out.size)⟩
  rw [HQ.out]; rfl
theorem uf_len (s : ByteArray) : (ufP s).size ≤ 67108864 ∧ (ufR s).size ≤ s.size := by
  cases hB : ufB s with
  | false => obtain ⟨e1, e2, _⟩ := uf_no hB; rw [e1, e2]; exact ⟨by decide, Nat.zero_le _⟩
  | true =>
    obtain ⟨e1, e2, _⟩ := uf_yes hB
    have hb := (ufB_iff s).1 hB
    rw [e1, e2]
    refine ⟨?_, ?_⟩
    · rw [← bl_length, bl_extract, List.length_drop, List.length_take, bl_length]; omega
    · rw [← bl_length, bl_extract, List.length_drop, List.length_take, bl_length]; omega
/-- What first tells. -/
def ftO (s : ByteArray) : Ob := if atB s = true then atO s else ⟨0, ⟨#[]⟩⟩
def ftR (s : ByteArray) : ByteArray := if atB s = true then ufR s else ⟨#[]⟩
def ftE (s : ByteArray) : Int := if atB s = true then 0 else 4
theorem res_cell_tmp2 {P : Program} {fn : Func} {p u x : Tmp} {ty : TypeId} (h : fn.results = #[.cell p ty, .tmp u, .tmp x]) (tmps : Array Value) (w : World) (g : Nat) (t : TypeId) (cs : Array Value) (fr : Nat × Nat) (d : TypeDesc)
    (hp : tmps.getD p undef = .pointer (some ⟨g, 0, none⟩)) (hg : w.heap[g]? = some (.cells cs t fr))
    (hu : P.underlying ty = some d) (hd : (match d with | .struct _ | .array _ _ => true | _ => false) = true) (hi : (P.info? ty).map (·.size) = some cs.size) :
    (results fn tmps).run P w = .ok (.tuple #[.agg cs, tmps.getD u undef, tmps.getD x undef]) w := by
  have hp' : tmps[p]?.getD undef = .pointer (some ⟨g, 0, none⟩) := by simpa using hp
  simp [results, h, hp', asAddr, run_loadVar_row w g t ty cs fr d hg hu hd hi]
theorem st2 {w : World} {b : Nat} {x y : Value} {T : TypeId} (h : Bk w b #[x, y] T) (u v : Value) : Bk ((w.setCell ⟨b, 0, none⟩ u).setCell ⟨b, 1, none⟩ v) b #[u, v] T := (h.set 0 u).set 1 v
theorem gr2 (w : World) (b : Nat) (u v : Value) : w.grownBy ((w.setCell ⟨b, 0, none⟩ u).setCell ⟨b, 1, none⟩ v) (some b) := Lib.grownBy_setB (Lib.grownBy_setB (World.grownBy.refl _ _) 0 _) 1 _
theorem inf_ob : (Tryz.prog.info? 157).map (·.size) = some 2 := by kernel_rfl
theorem ret_ft {s : ByteArray} {k : Int} {p r : ByteArray} {e : Int} (h : ((ftO s).k.toNat : Int) = k ∧ (ftO s).p = p ∧ ftR s = r ∧ ftE s = e) :
    Ending.returned (.tuple #[.agg #[.int .u8 k, .string p], .string r, .int .i64 e]) = .returned (.tuple #[.agg #[.int .u8 ((ftO s).k.toNat : Int), .string (ftO s).p], .string (ftR s), .int .i64 (ftE s)]) := by
  obtain ⟨h1, h2, h3, h4⟩ := h
  rw [h1, h2, h3, h4]
theorem ft_no {s : ByteArray} (h : atB s = false) : ((ftO s).k.toNat : Int) = 0 ∧ (ftO s).p = ⟨#[]⟩ ∧ ftR s = ⟨#[]⟩ ∧ ftE s = 4 := by
  simp [ftO, ftR, ftE, h]
theorem ft_yes {s : ByteArray} (h : atB s = true) : ftO s = atO s ∧ ftR s = ufR s ∧ ftE s = 0 := by
  simp [ftO, ftR, ftE, h]
set_option maxHeartbeats 400000 in
set_option maxRecDepth 100000 in
theorem first_any (s : ByteArray) (w : World) (hs : s.size ≤ maxLen) :
    Calls Tryz.prog 107 #[.string s] w fun e w' => e = .returned (.tuple #[.agg #[.int .u8 ((ftO s).k.toNat : Int), .string (ftO s).p], .string (ftR s), .int .i64 (ftE s)]) ∧ Below w.heap.size w w' := by
  have hu := uf_len s
  cases hB : ufB s with
  | false =>
    obtain ⟨e1, e2, e3⟩ := uf_no hB
    have hat : atB s = false := by simp [atB, hB]
    have HAT : Hid (atB s = false) := hat
    clear hB hat hu
    go_enter Tryz.func107, Tryz.ntmps107
    go_wp2_with fail
    refine (unframe_any s _ hs).mono ?_
    rintro e w1 ⟨rfl, hb⟩
    rw [e1, e2, e3]
    clear e1 e2 e3
    have hbk : Bk w1 w.heap.size #[.int .u8 0, .string ⟨#[]⟩] 157 := (bk_new _ _ _).below hb (by rw [al_size]; omega)
    have b0 : w1.cell? ⟨w.heap.size, 0, none⟩ = some (.int .u8 0) := by rw [hbk.cell]; rfl
    have b1 : w1.cell? ⟨w.heap.size, 1, none⟩ = some (.string ⟨#[]⟩) := by rw [hbk.cell]; rfl
    have f0 := hbk.frozen 0
    have f1 := hbk.frozen 1
    have HK : Hid (Bk w1 w.heap.size #[.int .u8 0, .string ⟨#[]⟩] 157) := hbk
    have HB : Hid (Below w.heap.size w w1) := ((Below.refl _ _).alloc (Nat.le_refl _) _).trans (hb.mono (by rw [al_size]; omega))
    clear hb hbk
    go_wp2
    refine bodyPost_ret (res_cell_tmp2 (u := 3) (x := 4) rfl _ _ w.heap.size 157 #[.int .u8 0, .string ⟨#[]⟩] (0, 0) _ rfl (st2 HK.out _ _) Tryz.underlying157 rfl inf_ob) rfl ⟨ret_ft (ft_no HAT.out), ?_⟩
    exact below_own HB.out HB.out.size (gr2 _ _ _ _) (Nat.le_refl _)
  | true =>
    obtain ⟨_, _, e3⟩ := uf_yes hB
    obtain ⟨P, hP⟩ : ∃ P, P = ufP s := ⟨_, rfl⟩
    obtain ⟨R, hR⟩ : ∃ R, R = ufR s := ⟨_, rfl⟩
    rw [← hP, ← hR] at hu
    have HP : Hid (P = ufP s) := hP
    have HR : Hid (R = ufR s) := hR
    have HU : Hid (ufB s = true) := hB
    have hu1 := hu.1
    have hu2 := hu.2
    unfold maxLen at hs
    clear hB hu
    go_enter Tryz.func107, Tryz.ntmps107
    go_wp2_with fail
    refine (unframe_any s _ (by unfold maxLen; exact hs)).mono ?_
    rintro e w1 ⟨rfl, hb⟩
    rw [e3, ← hP, ← hR]
    clear e3 hP hR
    have hbk : Bk w1 w.heap.size #[.int .u8 0, .string ⟨#[]⟩] 157 := (bk_new _ _ _).below hb (by rw [al_size]; omega)
    have b0 : w1.cell? ⟨w.heap.size, 0, none⟩ = some (.int .u8 0) := by rw [hbk.cell]; rfl
    have b1 : w1.cell? ⟨w.heap.size, 1, none⟩ = some (.string ⟨#[]⟩) := by rw [hbk.cell]; rfl
    have f0 := hbk.frozen 0
    have f1 := hbk.frozen 1
    have HK : Hid (Bk w1 w.heap.size #[.int .u8 0, .string ⟨#[]⟩] 157) := hbk
    have HB : Hid (Below w.heap.size w w1) := ((Below.refl _ _).alloc (Nat.le_refl _) _).trans (hb.mono (by rw [al_size]; omega))
    have hlt := hbk.lt
    clear hb hbk
    by_cases h0 : P.size = 0
    · obtain rfl : P = ⟨#[]⟩ := by
        apply bl_inj
        rw [show bl ⟨#[]⟩ = [] from rfl]
        exact List.eq_nil_of_length_eq_zero (by rw [bl_length]; exact h0)
      have hat : atB s = false := by rw [atB, ← HP.out]; simp; intro _ h; exact absurd h (by decide)
      have HAT : Hid (atB s = false) := hat
      clear hat h0
      go_wp2
      refine bodyPost_ret (res_cell_tmp2 (u := 3) (x := 4) rfl _ _ w.heap.size 157 #[.int .u8 0, .string ⟨#[]⟩] (0, 0) _ rfl (st2 HK.out _ _) Tryz.underlying157 rfl inf_ob) rfl ⟨ret_ft (ft_no HAT.out), ?_⟩
      exact below_own HB.out HB.out.size (gr2 _ _ _ _) (Nat.le_refl _)
    have hps : 0 < P.size := by omega
    have hpz : (0 : Int) < (P.size : Int) := by omega
    have hpz1 : (1 : Int) ≤ (P.size : Int) := by omega
    have hne : P ≠ ⟨#[]⟩ := fun e => by rw [e] at h0; exact h0 rfl
    have hem : P.toList.isEmpty = false := by
      rw [Lib.toList_data]
      cases hd : P.data.toList with
      | nil => exact absurd (show P.size = 0 from by rw [← bl_length, bl, hd]; rfl) h0
      | cons a r => rfl
    clear h0 hne
    have hx1 : (P.extract 1 P.size).size ≤ 67108864 := by
      rw [← bl_length, bl_extract, List.length_drop, List.length_take, bl_length]; omega
    have HO : Hid (atO s = ⟨P[0], P.extract 1 P.size⟩) := by
      show atO s = _
      unfold atO
      rw [← HP.out, frmO]
      congr 1
      have : (bl P)[0]? = some P[0] := by rw [bl, Array.getElem?_toList]; exact Array.getElem?_eq_getElem (by exact hps)
      cases hd : bl P with
      | nil => rw [hd] at this; simp at this
      | cons a r => rw [hd] at this; simpa using this
    have HX : Hid (P.size ≤ 67108864 ∧ 0 < P.size) := ⟨hu1, hps⟩
    have H3 := fun W => check11 ⟨P[0], P.extract 1 P.size⟩ W (by unfold maxLen; simp only; omega)
    simp only at H3
    go_wp2
    go_region
    go_wp2_with fail
    obtain ⟨k, hk⟩ : ∃ k, k = P[0] := ⟨_, rfl⟩
    obtain ⟨p, hp⟩ : ∃ p, p = P.extract 1 P.size := ⟨_, rfl⟩
    rw [← hk, ← hp] at HO H3
    rw [← hp] at hx1
    simp only [← hk, ← hp]
    clear hk hp
    have hb2 := st2 HK.out (.int .u8 (k.toNat : Int)) (.string p)
    have hg2 := gr2 w1 w.heap.size (.int .u8 (k.toNat : Int)) (.string p)
    have HB2 : Hid (Below w.heap.size w ((w1.setCell ⟨w.heap.size, 0, none⟩ (.int .u8 (k.toNat : Int))).setCell ⟨w.heap.size, 1, none⟩ (.string p)).drew) := (below_own HB.out HB.out.size hg2 (Nat.le_refl _)).drew
    have hb2' : Bk ((w1.setCell ⟨w.heap.size, 0, none⟩ (.int .u8 (k.toNat : Int))).setCell ⟨w.heap.size, 1, none⟩ (.string p)).drew w.heap.size #[.int .u8 (k.toNat : Int), .string p] 157 := hb2
    generalize ((w1.setCell ⟨w.heap.size, 0, none⟩ (.int .u8 (k.toNat : Int))).setCell ⟨w.heap.size, 1, none⟩ (.string p)).drew = w2 at HB2 hb2' ⊢
    clear hb2 hg2 b0 b1 f0 f1
    refine (H3 w2).mono ?_
    rintro e w3 ⟨rfl, hb3⟩
    have hbk : Bk w3 w.heap.size #[.int .u8 (k.toNat : Int), .string p] 157 := hb2'.below hb3 hb2'.lt
    have HB3 : Hid (Below w.heap.size w w3) := HB2.out.trans (hb3.mono HB2.out.size)
    have HK3 : Hid (Bk w3 w.heap.size #[.int .u8 (k.toNat : Int), .string p] 157) := hbk
    have b0 : w3.cell? ⟨w.heap.size, 0, none⟩ = some (.int .u8 (k.toNat : Int)) := by rw [hbk.cell]; rfl
    have b1 : w3.cell? ⟨w.heap.size, 1, none⟩ = some (.string p) := by rw [hbk.cell]; rfl
    have f0 := hbk.frozen 0
    have f1 := hbk.frozen 1
    have hlt3 := hbk.lt
    clear hb3 hbk hb2' H3 hlt
    cases hok : okO ⟨k, p⟩ with
    | true =>
      have hck : ckO ⟨k, p⟩ = 0 := by rw [ckO, if_pos hok]
      rw [hck]
      have HAT : Hid (atB s = true) := by
        show atB s = true
        rw [atB_iff]
        exact ⟨HU.out, by rw [← HP.out]; exact HX.out.2, by rw [HO.out]; exact hok⟩
      clear hok hck
      go_wp2
      refine bodyPost_ret (res_cell_tmp2 (u := 3) (x := 4) rfl _ _ w.heap.size 157 #[.int .u8 (k.toNat : Int), .string p] (0, 0) _ rfl (st2 HK3.out _ _) Tryz.underlying157 rfl inf_ob) rfl ⟨ret_ft ?_, ?_⟩
      · obtain ⟨q1, q2, q3⟩ := ft_yes HAT.out
        rw [q1, q2, q3, HO.out, HR.out]
        exact ⟨rfl, rfl, rfl, rfl⟩
      · exact below_own HB3.out HB3.out.size (gr2 _ _ _ _) (Nat.le_refl _)
    | false =>
      have hck : ckO ⟨k, p⟩ = 1 := by rw [ckO, if_neg (by rw [hok]; simp)]
      rw [hck]
      have HAT : Hid (atB s = false) := by
        show atB s = false
        rw [Bool.eq_false_iff]
        intro h
        rw [atB_iff, HO.out, hok] at h
        cases h.2.2
      clear hok hck
      go_wp2
      refine bodyPost_ret (res_cell_tmp2 (u := 3) (x := 4) rfl _ _ w.heap.size 157 #[.int .u8 0, .string ⟨#[]⟩] (0, 0) _ rfl (st2 HK3.out _ _) Tryz.underlying157 rfl inf_ob) rfl ⟨ret_ft (ft_no HAT.out), ?_⟩
      exact below_own HB3.out HB3.out.size (gr2 _ _ _ _) (Nat.le_refl _)
end Go.Proofs.YtpfknjnigcefgaaGreatDoor
/- digest.Of. -/
namespace Go.Proofs.YtpfknjnigcefgaaGreatDoor
open Go.RowKit
set_option linter.unusedSimpArgs false
set_option linter.unusedVariables false
set_option maxHeartbeats 400000 in
set_option maxRecDepth 100000 in
theorem of_big (k : Nat) (p : ByteArray) (w : World) (hk : k < 256) (hp : p.size ≤ 140737488355328) (hL : Lst w) :
    Calls Tryz.prog 108 #[.int .u8 (k : Int), .string p] w fun e w' => e = .returned (.agg (shc (whl k p))) ∧ Below w.heap.size w w' := by
  have HL : Hid (Lst w) := hL
  have hlt := hL.lt
  have hz := (zero_of_info zero_state).1
  have c1 := fun o => conv1s w o (k : Int)
  have hsz := one_size (k : Int)
  have hwr : IntKind.u64.wrap (p.size : Int) = (p.size : Int) := wrap64s _ (by omega)
  have hw9 : (whl k p).length < 288230376151711744 := by simp [whl, fixN_length, byl_length]; omega
  have hp9 : (byl (sb (k :: fixN 8 p.size))).length = 9 := by rw [byl_pre k _ hk]; simp [fixN_length]
  have HP9 : Hid ((byl (sb (k :: fixN 8 p.size))).length = 9) := hp9
  have HPE : Hid (byl (sb (k :: fixN 8 p.size)) ++ byl p = whl k p) := by show _ = _; rw [byl_pre k _ hk]; rfl
  have HPS : Hid ((sb (k :: fixN 8 p.size)).size = 9) := by show _ = _; rw [sb_size]; simp [fixN_length]
  have hpe := pre_eq k p.size
  clear hL hp9
  go_enter Tryz.func108, Tryz.ntmps108
  go_wp2_with (first
    | (go_at_call 62; refine (putFixed_ok _ _ 8 _ (by omega) (by omega) (by omega) (by omega) (by omega) (by rw [hsz]; omega)).mono ?_; rintro e w0 ⟨rfl, hb0⟩; have HB0 : Hid (Below ((w.alloc (.cells z32c 23)).alloc (.cells #[.int .u8 (k : Int)] 5)).heap.size ((w.alloc (.cells z32c 23)).alloc (.cells #[.int .u8 (k : Int)] 5)) w0) := hb0; clear hb0; have hz0 : w.heap.size + 2 ≤ w0.heap.size := by { have := HB0.out.size; rw [alloc_size, alloc_size] at this; exact this })
    | (go_at_call 72; refine (begin_any _ (((HL.out.alloc _).alloc _).below HB0.out).h).mono ?_; rintro e w1 ⟨rfl, hb1⟩; have HB1 : Hid (Below w0.heap.size w0 w1) := hb1; clear hb1; have hz1 := HB1.out.size)
    | (refine wpList_store_abs rfl 132 (.tmp 7) (.tmp 18) rfl (stc H0 z64 0) _ 132 w1.heap.size rfl rfl rfl (info_st _ _ _ rfl) (by exact zst_st) (stc_one _ _ _) ?_; intro w1' HBk HG1 hsz1; have HL1 : Hid (Lst w1') := ((((HL.out.alloc _).alloc _).below HB0.out).below HB1.out).grown HG1.out (by simp); have HZ1 : Hid (Blk w1' w.heap.size z32c 23 ∧ w.grownBy w1' none) := ⟨Blk.grown (Blk.grown (Blk.grown (Blk.grown (blk_new w (.cells z32c 23)) (World.grownBy_alloc _ _ none) (by simp)) (grown_of_below HB0.out none) (by simp)) (grown_of_below HB1.out none) (by simp)) HG1.out (by simp), ((((World.grownBy_alloc w _ none).trans (World.grownBy_alloc _ _ none)).trans (grown_of_below HB0.out none)).trans (grown_of_below HB1.out none)).trans HG1.out⟩)
    | (go_at_call 73; refine (take_any _ m2 p w1.heap.size 132 w2 HS2.out HL2.out.k (by omega) (by rw [HP9.out]; omega)).mono ?_; rintro e w3 ⟨rfl, ⟨m3, hs3⟩, hg3⟩; rw [HPE.out] at hs3; have HS3 : Hid (Stt w3 w1.heap.size 132 (whl k p) m3) := hs3; have HG3 : Hid (w2.grownBy w3 (some w1.heap.size)) := hg3; have HL3 : Hid (Lst w3) := HL2.out.grown hg3 (by intro j hj; simp at hj; omega); clear hs3 hg3)
    | (go_at_call 73; refine (take_any [] z64 (sb (k :: fixN 8 p.size)) w1.heap.size 132 w1' (new_stt HBk.out) HL1.out.k (by omega) (by rw [HPS.out]; simp)).mono ?_; rintro e w2 ⟨rfl, ⟨m2, hs2⟩, hg2⟩; rw [List.nil_append] at hs2; have HS2 : Hid (Stt w2 w1.heap.size 132 (byl (sb (k :: fixN 8 p.size))) m2) := hs2; have HG2 : Hid (w1'.grownBy w2 (some w1.heap.size)) := hg2; have HL2 : Hid (Lst w2) := HL1.out.grown hg2 (by intro j hj; simp at hj; omega); clear hs2 hg2)
    | (refine wpList_load_row rfl 132 (.tmp 7) rfl w1.heap.size rfl 132 _ (0, 0) _ HS3.out.blk Tryz.underlying132 rfl (info_st _ _ _ HS3.out.sta.len) ?_)
    | (go_at_call 74; refine (end_sh HS3.out HL3.out.k hw9).mono ?_; rintro e w4 ⟨rfl, hb4⟩; have HZ : Hid (Blk w4 w.heap.size z32c 23) := Blk.grown (Blk.grown (Blk.grown HZ1.out.1 HG2.out (by simp; omega)) HG3.out (by simp; omega)) (grown_of_below hb4 none) (by simp); have HB4 : Hid (Below w3.heap.size w3 w4) := hb4; clear hb4)
    | (refine wpList_store_row rfl 23 (.tmp 4) (.tmp 24) rfl w.heap.size (shc (whl k p)) rfl rfl 23 z32c HZ.out (info_sh _) (by rw [z32c_size, shc_size]) (shc_one _) ?_))
  refine bodyPost_ret (results_cell_row rfl _ _ w.heap.size 23 (shc (whl k p)) (0, 0) _ rfl (setRow_heap _ _ _ _ _ _ HZ.out) Tryz.underlying23 rfl (info_sh _)) rfl ⟨rfl, ?_⟩
  refine below_setRow (below_of_grown ?_) (Nat.le_refl _) _
  exact ((HZ1.out.2.andThen HG2.out (fun j hj => by left; simp at hj; omega)).andThen HG3.out (fun j hj => by left; simp at hj; omega)).trans (grown_of_below HB4.out none)
theorem of_any (k : Nat) (p : ByteArray) (w : World) (hk : k < 256) (hp : p.size ≤ 2000) (hL : Lst w) :
    Calls Tryz.prog 108 #[.int .u8 (k : Int), .string p] w fun e w' => e = .returned (.agg (shc (whl k p))) ∧ Below w.heap.size w w' := of_big k p w hk (by omega) hL
end Go.Proofs.YtpfknjnigcefgaaGreatDoor
/- digest.Parse. -/
namespace Go.Proofs.YtpfknjnigcefgaaGreatDoor
open Go.RowKit
set_option linter.unusedSimpArgs false
set_option linter.unusedVariables false
theorem sum_id (s : ByteArray) (w : World) (hL : Lst w) (hlen : s.size < 288230376151711744) :
    Calls Tryz.prog 34 #[.string s] w fun e w' => e = .returned (.agg (idc (sb (sha (byl s))))) ∧ Below w.heap.size w w' := by
  rw [← shc_idc]; exact sum_any s w hL hlen
theorem of_id (k : Nat) (p : ByteArray) (w : World) (hk : k < 256) (hp : p.size ≤ 2000) (hL : Lst w) :
    Calls Tryz.prog 108 #[.int .u8 (k : Int), .string p] w fun e w' => e = .returned (.agg (idc (sb (sha (whl k p))))) ∧ Below w.heap.size w w' := by
  rw [← shc_idc]; exact of_any k p w hk hp hL
theorem sha_size (m : List Nat) : (sb (sha m)).size = 32 := by rw [sb_size, sha_length]
/-- The name that digits say, as its cells. -/
def pid (t : ByteArray) : Array Value := putA z32c 0 (bvc ((byl (uhS t)).take (Nat.min (uhS t).size 32)))
theorem pid_size (t : ByteArray) : (pid t).size = 32 := by rw [pid, putA_size, z32c_size]
theorem pid_one (t : ByteArray) : (pid t).all (·.oneCell') = true :=
  Array.all_eq_true_iff_forall_mem.2 (putA_one _ _ _ (bvc_one _) (by intro v hv; exact bvc_one _ v (by simpa [z32c] using hv)))
theorem pid_ok (t : ByteArray) (h : (uhS t).size = 32) : pid t = idc (uhS t) := by
  have hl : (bvc ((byl (uhS t)).take 32)).length = 32 := by simp [bvc, byl_length, h]
  rw [pid, h]
  apply Array.ext_getElem?
  intro i
  show (putA z32c 0 (bvc ((byl (uhS t)).take 32)))[i]? = _
  rw [putA_get _ _ _ _ (by rw [z32c_size, hl]; omega), hl]
  by_cases hi : i < 32
  · rw [if_pos (by omega), Nat.sub_zero, idc, List.getElem?_toArray, List.take_of_length_le (by rw [byl_length, h]; omega)]
  · rw [if_neg (by omega), Array.getElem?_eq_none (by rw [z32c_size]; omega), Array.getElem?_eq_none (by rw [idc_size, h]; omega)]
theorem pid_none (t : ByteArray) (h : uhS t = ⟨#[]⟩) : pid t = z32c := by rw [pid, h]; rfl
theorem copy32 {w : World} {g : Nat} {T : TypeId} (hB : Blk w g z32c T) (s : ByteArray) (ty : TypeId) :
    (Builtin.copy_ #[82, 9] ty #[.slice (some ⟨g, 0, none⟩) 32 32, .string s]).run Tryz.prog w = .ok (goInt (Nat.min s.size 32)) (w.setCells g 0 (bvc ((byl s).take (Nat.min s.size 32)))) := by
  have hi : (Tryz.prog.info? 5).map (·.size) = some 1 := by kernel_rfl
  refine copy_str w 82 9 ty 5 g 0 _ _ s Tryz.underlying82 hi (fun j hj => ?_) (fun j hj => hB.frozen _)
  have hj2 := Nat.lt_of_lt_of_le hj (Nat.min_le_right _ _)
  rw [hB.cell, Nat.zero_add, z32c_get j (by omega)]; rfl
theorem par_res {w w1 : World} {cs : List Value} (h : Below ((w.alloc (.cells z32c 23)).alloc (.cells z32c 23)).heap.size ((w.alloc (.cells z32c 23)).alloc (.cells z32c 23)) w1) : Blk (w1.setCells (w.heap.size + 1) 0 cs) w.heap.size z32c 23 :=
  Blk.grown (Blk.grown (Blk.grown (blk_new w (.cells z32c 23)) (World.grownBy_alloc _ _ none) (by simp)) (grown_of_below h none) (by simp)) (grown_puts (w.heap.size + 1) cs 0 (World.grownBy.refl w1 _)) (by simp)
theorem par_grown {w w1 : World} {cs : List Value} (h : Below ((w.alloc (.cells z32c 23)).alloc (.cells z32c 23)).heap.size ((w.alloc (.cells z32c 23)).alloc (.cells z32c 23)) w1) : w.grownBy (w1.setCells (w.heap.size + 1) 0 cs) none :=
  (((World.grownBy_alloc w _ none).trans (World.grownBy_alloc _ _ none)).trans (grown_of_below h none)).andThen (grown_puts (w.heap.size + 1) cs 0 (World.grownBy.refl w1 _)) (fun j hj => by left; simp at hj; omega)
set_option maxHeartbeats 400000 in
set_option maxRecDepth 100000 in
theorem parse_64 (t : ByteArray) (w : World) (ht : t.size = 64) (hA : All w) :
    Calls Tryz.prog 44 #[.string t] w fun e w' => e = .returned (.tuple #[.agg (pid t), .int .i64 (uhE t)]) ∧ Below w.heap.size w w' := by
  have HA : Hid (All w) := hA
  have hlt := hA.lt
  clear hA
  have h1 := slice32 (w.heap.size + 1)
  go_enter Tryz.func44, Tryz.ntmps44
  go_wp2_with (first
    | (go_at_call 86; refine (unhex_even t _ 32 (by omega) (by omega) ((HA.out.alloc _).alloc _).t (by rw [alloc_size, alloc_size]; omega)).mono ?_; rintro e w1 ⟨rfl, hb1⟩; have HB1 : Hid (Below (((w.alloc (.cells z32c 23)).alloc (.cells z32c 23))).heap.size ((w.alloc (.cells z32c 23)).alloc (.cells z32c 23)) w1) := hb1; clear hb1; have HI : Hid (Blk w1 (w.heap.size + 1) z32c 23) := Blk.grown (by { have e := blk_new (w.alloc (.cells z32c 23)) (.cells z32c 23); rw [alloc_size] at e; exact e }) (grown_of_below HB1.out none) (by simp); have hcp := copy32 HI.out (uhS t))
    | (refine wpList_load_row rfl 23 (.tmp 4) rfl (w.heap.size + 1) rfl 23 (pid t) (0, 0) _ (Blk.puts _ 0 _ _ HI.out) Tryz.underlying23 rfl (info_32 (pid_size t)) ?_)
    | (refine wpList_store_row rfl 23 (.tmp 2) (.tmp 19) rfl w.heap.size (pid t) rfl rfl 23 z32c (par_res HB1.out) (info_32 (pid_size t)) (by rw [z32c_size, pid_size]) (pid_one t) ?_))
  refine bodyPost_ret (results_cell_tmp_row rfl _ _ w.heap.size 23 (pid t) (0, 0) _ rfl (setRow_heap _ _ _ _ _ _ (par_res HB1.out)) Tryz.underlying23 rfl (info_32 (pid_size t))) rfl ⟨rfl, ?_⟩
  exact below_setRow (below_of_grown (par_grown HB1.out)) (Nat.le_refl _) _
set_option maxHeartbeats 400000 in
set_option maxRecDepth 100000 in
theorem parse_bad (t : ByteArray) (w : World) (ht : t.size ≠ 64) (hm : t.size ≤ 140737488351232) :
    Calls Tryz.prog 44 #[.string t] w fun e w' => e = .returned (.tuple #[.agg z32c, .int .i64 4]) ∧ Below w.heap.size w w' := by
  have hne : ¬ (t.size : Int) = 64 := by omega
  have hz := zero_id
  go_enter Tryz.func44, Tryz.ntmps44
  go_wp2_with (refine wpList_store_row rfl 23 (.tmp 2) (.tmp 10) rfl w.heap.size z32c rfl rfl 23 z32c (Blk.grown (blk_new w _) (World.grownBy_alloc _ _ none) (by simp)) (info_32 z32c_size) rfl z32c_one ?_)
  refine bodyPost_ret (results_cell_tmp_row rfl _ _ w.heap.size 23 z32c (0, 0) _ rfl (setRow_heap _ _ _ _ _ _ (Blk.grown (blk_new w (.cells z32c 23)) (World.grownBy_alloc _ _ none) (by simp))) Tryz.underlying23 rfl (info_32 z32c_size)) rfl ⟨rfl, ?_⟩
  exact below_setRow (below_of_grown ((World.grownBy_alloc w _ none).trans (World.grownBy_alloc _ _ none))) (Nat.le_refl _) _
end Go.Proofs.YtpfknjnigcefgaaGreatDoor
