import Derived.Test.YtahpaekiehdejabDoorY7
import Derived.Test.YtahpaekiehdejabDoorY6
import Derived.Great.BuildSlice
import Derived.Maps.AppendAt
import Derived.OwnWalk
/- pack.Check, framed, trailer, first. -/
namespace Go.Proofs.YtahpaekiehdejabDoor
open Go.RowKit
set_option linter.unusedSimpArgs false
set_option linter.unusedVariables false
def ckE (o : Ob) : Int := if okO o = true then 0 else 1
theorem ret_i11 {a b : Int} (h : b = a) : Ending.returned (.int .i64 a) = .returned (.int .i64 b) := by rw [h]
set_option maxHeartbeats 400000 in
theorem check11 (o : Ob) (w : World) (hm : o.p.size ≤ maxLen) :
    Calls Tryd.prog 13 #[.agg #[.int .u8 (o.k.toNat : Int), .string o.p]] w fun e w' => e = .returned (.int .i64 (ckE o)) ∧ Below w.heap.size w w' := by
  unfold maxLen at hm
  have hr : Below w.heap.size w (w.alloc (.cells #[.int .u8 (o.k.toNat : Int), .string o.p] 41)) := (Below.refl _ _).alloc (Nat.le_refl _) _
  have HR : Hid (Below w.heap.size w (w.alloc (.cells #[.int .u8 (o.k.toNat : Int), .string o.p] 41))) := hr
  obtain ⟨k, p⟩ := o
  simp only at hm hr HR ⊢
  clear hr
  have HC : Hid (∀ b : Int, ((1 ≤ k.toNat ∧ k.toNat ≤ 5 ∧ p.size ≤ 2097152) → b = 0) → (¬ (1 ≤ k.toNat ∧ k.toNat ≤ 5 ∧ p.size ≤ 2097152) → b = 1) → ckE ⟨k, p⟩ = b) := by
    intro b h1 h2
    unfold ckE
    split
    · rename_i h; exact (h1 ((okO_iff _).1 h)).symm
    · rename_i h; exact (h2 (fun h3 => h ((okO_iff _).2 h3))).symm
  have hk := k.toNat_lt
  generalize k.toNat = n at HR HC hk ⊢
  by_cases h1 : n < 1
  · have hz : n = 0 := by omega
    subst hz
    go_enter Tryd.func13, Tryd.ntmps13
    go_wp2
    go_ret
    exact ⟨ret_i11 (HC.out _ (by omega) (by omega)), HR.out⟩
  have g1 : ¬ (n : Int) < 1 := by omega
  by_cases h2 : 5 < n
  · have g2 : (5 : Int) < n := by omega
    go_enter Tryd.func13, Tryd.ntmps13
    go_wp2
    go_ret
    exact ⟨ret_i11 (HC.out _ (by omega) (by omega)), HR.out⟩
  have g2 : ¬ (5 : Int) < n := by omega
  by_cases h3 : 2097152 < p.size
  · have g3 : (2097152 : Int) < p.size := by omega
    go_enter Tryd.func13, Tryd.ntmps13
    go_wp2
    go_ret
    exact ⟨ret_i11 (HC.out _ (by omega) (by omega)), HR.out⟩
  have g3 : ¬ (2097152 : Int) < p.size := by omega
  go_enter Tryd.func13, Tryd.ntmps13
  go_wp2
  go_ret
  exact ⟨ret_i11 (HC.out _ (by omega) (by omega)), HR.out⟩
set_option maxHeartbeats 400000 in
theorem framed_any (p : ByteArray) (w : World) (hp : p.size ≤ 67108864) :
    Calls Tryd.prog 47 #[.string p] w fun e w' => e = .returned (.string (frm p)) ∧ Below w.heap.size w w' := by
  go_enter Tryd.func47, Tryd.ntmps47
  go_wp2_with fail
  refine (frame_ok p _ hp).mono ?_
  rintro e w1 ⟨rfl, hb⟩
  go_wp2
  go_ret
  exact ⟨rfl, hb⟩
set_option maxHeartbeats 400000 in
theorem trailer_any (n : Nat) (w : World) (hn : n < 9223372036854775808) :
    Calls Tryd.prog 45 #[.int .i64 (n : Int)] w fun e w' => e = .returned (.string (trl n)) ∧ Below w.heap.size w w' := by
  have hw : IntKind.u64.wrap (n : Int) = (n : Int) := by
    simp [IntKind.wrap, IntKind.bits, IntKind.signed]; omega
  go_enter Tryd.func45, Tryd.ntmps45
  go_wp2_with fail
  refine (put_any ⟨#[0]⟩ (n : Int) _ (by omega) (by omega) (by decide)).mono ?_
  rintro e w1 ⟨rfl, hb⟩
  rw [Int.toNat_natCast]
  have HB : Hid (Below w.heap.size w w1) := hb
  clear hb
  obtain ⟨q, hq⟩ : ∃ q, q = trB n := ⟨_, rfl⟩
  have e1 : (⟨#[0]⟩ : ByteArray) ++ sb (encS n) = q := by rw [hq]; rfl
  rw [e1]
  clear e1
  have hz : q.size ≤ 67108864 := by rw [hq, trB_size]; have := encS_le n (by omega); omega
  have HQ : Hid (q = trB n) := hq
  clear hq
  go_wp2_with fail
  refine (framed_any q _ hz).mono ?_
  rintro e w2 ⟨rfl, hb2⟩
  go_wp2
  go_ret
  refine ⟨?_, HB.out.trans (hb2.mono HB.out.size)⟩
  rw [HQ.out]; rfl
theorem uf_len (s : ByteArray) : (ufP s).size ≤ 67108864 ∧ (ufR s).size ≤ s.size := by
  cases hB : ufB s with
  | false => obtain ⟨e1, e2, _⟩ := uf_no hB; rw [e1, e2]; exact ⟨by decide, Nat.zero_le _⟩
  | true =>
    obtain ⟨e1, e2, _⟩ := uf_yes hB
    have hb := (ufB_iff s).1 hB
    rw [e1, e2]
    refine ⟨?_, ?_⟩
    · rw [← bl_length, bl_extract, List.length_drop, List.length_take, bl_length]; omega
    · rw [← bl_length, bl_extract, List.length_drop, List.length_take, bl_length]; omega
/-- What first tells. -/
def ftO (s : ByteArray) : Ob := if atB s = true then atO s else ⟨0, ⟨#[]⟩⟩
def ftR (s : ByteArray) : ByteArray := if atB s = true then ufR s else ⟨#[]⟩
def ftE (s : ByteArray) : Int := if atB s = true then 0 else 4
theorem res_cell_tmp2 {P : Program} {fn : Func} {p u x : Tmp} {ty : TypeId} (h : fn.results = #[.cell p ty, .tmp u, .tmp x]) (tmps : Array Value) (w : World) (g : Nat) (t : TypeId) (cs : Array Value) (fr : Nat × Nat) (d : TypeDesc)
    (hp : tmps.getD p undef = .pointer (some ⟨g, 0, none⟩)) (hg : w.heap[g]? = some (.cells cs t fr))
    (hu : P.underlying ty = some d) (hd : (match d with | .struct _ | .array _ _ => true | _ => false) = true) (hi : (P.info? ty).map (·.size) = some cs.size) :
    (results fn tmps).run P w = .ok (.tuple #[.agg cs, tmps.getD u undef, tmps.getD x undef]) w := by
  have hp' : tmps[p]?.getD undef = .pointer (some ⟨g, 0, none⟩) := by simpa using hp
  simp [results, h, hp', asAddr, run_loadVar_row w g t ty cs fr d hg hu hd hi]
theorem st2 {w : World} {b : Nat} {x y : Value} {T : TypeId} (h : Bk w b #[x, y] T) (u v : Value) : Bk ((w.setCell ⟨b, 0, none⟩ u).setCell ⟨b, 1, none⟩ v) b #[u, v] T := (h.set 0 u).set 1 v
theorem gr2 (w : World) (b : Nat) (u v : Value) : w.grownBy ((w.setCell ⟨b, 0, none⟩ u).setCell ⟨b, 1, none⟩ v) (some b) := Lib.grownBy_setB (Lib.grownBy_setB (World.grownBy.refl _ _) 0 _) 1 _
theorem inf_ob : (Tryd.prog.info? 41).map (·.size) = some 2 := by kernel_rfl
theorem ret_ft {s : ByteArray} {k : Int} {p r : ByteArray} {e : Int} (h : ((ftO s).k.toNat : Int) = k ∧ (ftO s).p = p ∧ ftR s = r ∧ ftE s = e) :
    Ending.returned (.tuple #[.agg #[.int .u8 k, .string p], .string r, .int .i64 e]) = .returned (.tuple #[.agg #[.int .u8 ((ftO s).k.toNat : Int), .string (ftO s).p], .string (ftR s), .int .i64 (ftE s)]) := by
  obtain ⟨h1, h2, h3, h4⟩ := h
  rw [h1, h2, h3, h4]
theorem ft_no {s : ByteArray} (h : atB s = false) : ((ftO s).k.toNat : Int) = 0 ∧ (ftO s).p = ⟨#[]⟩ ∧ ftR s = ⟨#[]⟩ ∧ ftE s = 4 := by
  simp [ftO, ftR, ftE, h]
theorem ft_yes {s : ByteArray} (h : atB s = true) : ftO s = atO s ∧ ftR s = ufR s ∧ ftE s = 0 := by
  simp [ftO, ftR, ftE, h]
set_option maxHeartbeats 400000 in
set_option maxRecDepth 100000 in
theorem first_any (s : ByteArray) (w : World) (hs : s.size ≤ maxLen) :
    Calls Tryd.prog 57 #[.string s] w fun e w' => e = .returned (.tuple #[.agg #[.int .u8 ((ftO s).k.toNat : Int), .string (ftO s).p], .string (ftR s), .int .i64 (ftE s)]) ∧ Below w.heap.size w w' := by
  have hu := uf_len s
  cases hB : ufB s with
  | false =>
    obtain ⟨e1, e2, e3⟩ := uf_no hB
    have hat : atB s = false := by simp [atB, hB]
    have HAT : Hid (atB s = false) := hat
    clear hB hat hu
    go_enter Tryd.func57, Tryd.ntmps57
    go_wp2_with fail
    refine (unframe_any s _ hs).mono ?_
    rintro e w1 ⟨rfl, hb⟩
    rw [e1, e2, e3]
    clear e1 e2 e3
    have hbk : Bk w1 w.heap.size #[.int .u8 0, .string ⟨#[]⟩] 41 := (bk_new _ _ _).below hb (by rw [al_size]; omega)
    have b0 : w1.cell? ⟨w.heap.size, 0, none⟩ = some (.int .u8 0) := by rw [hbk.cell]; rfl
    have b1 : w1.cell? ⟨w.heap.size, 1, none⟩ = some (.string ⟨#[]⟩) := by rw [hbk.cell]; rfl
    have f0 := hbk.frozen 0
    have f1 := hbk.frozen 1
    have HK : Hid (Bk w1 w.heap.size #[.int .u8 0, .string ⟨#[]⟩] 41) := hbk
    have HB : Hid (Below w.heap.size w w1) := ((Below.refl _ _).alloc (Nat.le_refl _) _).trans (hb.mono (by rw [al_size]; omega))
    clear hb hbk
    go_wp2
    refine bodyPost_ret (res_cell_tmp2 (u := 3) (x := 4) rfl _ _ w.heap.size 41 #[.int .u8 0, .string ⟨#[]⟩] (0, 0) _ rfl (st2 HK.out _ _) Tryd.underlying41 rfl inf_ob) rfl ⟨ret_ft (ft_no HAT.out), ?_⟩
    exact below_own HB.out HB.out.size (gr2 _ _ _ _) (Nat.le_refl _)
  | true =>
    obtain ⟨_, _, e3⟩ := uf_yes hB
    obtain ⟨P, hP⟩ : ∃ P, P = ufP s := ⟨_, rfl⟩
    obtain ⟨R, hR⟩ : ∃ R, R = ufR s := ⟨_, rfl⟩
    rw [← hP, ← hR] at hu
    have HP : Hid (P = ufP s) := hP
    have HR : Hid (R = ufR s) := hR
    have HU : Hid (ufB s = true) := hB
    have hu1 := hu.1
    have hu2 := hu.2
    unfold maxLen at hs
    clear hB hu
    go_enter Tryd.func57, Tryd.ntmps57
    go_wp2_with fail
    refine (unframe_any s _ (by unfold maxLen; exact hs)).mono ?_
    rintro e w1 ⟨rfl, hb⟩
    rw [e3, ← hP, ← hR]
    clear e3 hP hR
    have hbk : Bk w1 w.heap.size #[.int .u8 0, .string ⟨#[]⟩] 41 := (bk_new _ _ _).below hb (by rw [al_size]; omega)
    have b0 : w1.cell? ⟨w.heap.size, 0, none⟩ = some (.int .u8 0) := by rw [hbk.cell]; rfl
    have b1 : w1.cell? ⟨w.heap.size, 1, none⟩ = some (.string ⟨#[]⟩) := by rw [hbk.cell]; rfl
    have f0 := hbk.frozen 0
    have f1 := hbk.frozen 1
    have HK : Hid (Bk w1 w.heap.size #[.int .u8 0, .string ⟨#[]⟩] 41) := hbk
    have HB : Hid (Below w.heap.size w w1) := ((Below.refl _ _).alloc (Nat.le_refl _) _).trans (hb.mono (by rw [al_size]; omega))
    have hlt := hbk.lt
    clear hb hbk
    by_cases h0 : P.size = 0
    · obtain rfl : P = ⟨#[]⟩ := by
        apply bl_inj
        rw [show bl ⟨#[]⟩ = [] from rfl]
        exact List.eq_nil_of_length_eq_zero (by rw [bl_length]; exact h0)
      have hat : atB s = false := by rw [atB, ← HP.out]; simp; intro _ h; exact absurd h (by decide)
      have HAT : Hid (atB s = false) := hat
      clear hat h0
      go_wp2
      refine bodyPost_ret (res_cell_tmp2 (u := 3) (x := 4) rfl _ _ w.heap.size 41 #[.int .u8 0, .string ⟨#[]⟩] (0, 0) _ rfl (st2 HK.out _ _) Tryd.underlying41 rfl inf_ob) rfl ⟨ret_ft (ft_no HAT.out), ?_⟩
      exact below_own HB.out HB.out.size (gr2 _ _ _ _) (Nat.le_refl _)
    have hps : 0 < P.size := by omega
    have hpz : (0 : Int) < (P.size : Int) := by omega
    have hpz1 : (1 : Int) ≤ (P.size : Int) := by omega
    have hne : P ≠ ⟨#[]⟩ := fun e => by rw [e] at h0; exact h0 rfl
    have hem : P.toList.isEmpty = false := by
      rw [Lib.toList_data]
      cases hd : P.data.toList with
      | nil => exact absurd (show P.size = 0 from by rw [← bl_length, bl, hd]; rfl) h0
      | cons a r => rfl
    clear h0 hne
    have hx1 : (P.extract 1 P.size).size ≤ 67108864 := by
      rw [← bl_length, bl_extract, List.length_drop, List.length_take, bl_length]; omega
    have HO : Hid (atO s = ⟨P[0], P.extract 1 P.size⟩) := by
      show atO s = _
      unfold atO
      rw [← HP.out, frmO]
      congr 1
      have : (bl P)[0]? = some P[0] := by rw [bl, Array.getElem?_toList]; exact Array.getElem?_eq_getElem (by exact hps)
      cases hd : bl P with
      | nil => rw [hd] at this; simp at this
      | cons a r => rw [hd] at this; simpa using this
    have HX : Hid (P.size ≤ 67108864 ∧ 0 < P.size) := ⟨hu1, hps⟩
    have H3 := fun W => check11 ⟨P[0], P.extract 1 P.size⟩ W (by unfold maxLen; simp only; omega)
    simp only at H3
    go_wp2
    go_region
    go_wp2_with fail
    obtain ⟨k, hk⟩ : ∃ k, k = P[0] := ⟨_, rfl⟩
    obtain ⟨p, hp⟩ : ∃ p, p = P.extract 1 P.size := ⟨_, rfl⟩
    rw [← hk, ← hp] at HO H3
    rw [← hp] at hx1
    simp only [← hk, ← hp]
    clear hk hp
    have hb2 := st2 HK.out (.int .u8 (k.toNat : Int)) (.string p)
    have hg2 := gr2 w1 w.heap.size (.int .u8 (k.toNat : Int)) (.string p)
    have HB2 : Hid (Below w.heap.size w ((w1.setCell ⟨w.heap.size, 0, none⟩ (.int .u8 (k.toNat : Int))).setCell ⟨w.heap.size, 1, none⟩ (.string p)).drew) := (below_own HB.out HB.out.size hg2 (Nat.le_refl _)).drew
    have hb2' : Bk ((w1.setCell ⟨w.heap.size, 0, none⟩ (.int .u8 (k.toNat : Int))).setCell ⟨w.heap.size, 1, none⟩ (.string p)).drew w.heap.size #[.int .u8 (k.toNat : Int), .string p] 41 := hb2
    generalize ((w1.setCell ⟨w.heap.size, 0, none⟩ (.int .u8 (k.toNat : Int))).setCell ⟨w.heap.size, 1, none⟩ (.string p)).drew = w2 at HB2 hb2' ⊢
    clear hb2 hg2 b0 b1 f0 f1
    refine (H3 w2).mono ?_
    rintro e w3 ⟨rfl, hb3⟩
    have hbk : Bk w3 w.heap.size #[.int .u8 (k.toNat : Int), .string p] 41 := hb2'.below hb3 hb2'.lt
    have HB3 : Hid (Below w.heap.size w w3) := HB2.out.trans (hb3.mono HB2.out.size)
    have HK3 : Hid (Bk w3 w.heap.size #[.int .u8 (k.toNat : Int), .string p] 41) := hbk
    have b0 : w3.cell? ⟨w.heap.size, 0, none⟩ = some (.int .u8 (k.toNat : Int)) := by rw [hbk.cell]; rfl
    have b1 : w3.cell? ⟨w.heap.size, 1, none⟩ = some (.string p) := by rw [hbk.cell]; rfl
    have f0 := hbk.frozen 0
    have f1 := hbk.frozen 1
    have hlt3 := hbk.lt
    clear hb3 hbk hb2' H3 hlt
    cases hok : okO ⟨k, p⟩ with
    | true =>
      have hck : ckE ⟨k, p⟩ = 0 := by rw [ckE, if_pos hok]
      rw [hck]
      have HAT : Hid (atB s = true) := by
        show atB s = true
        rw [atB_iff]
        exact ⟨HU.out, by rw [← HP.out]; exact HX.out.2, by rw [HO.out]; exact hok⟩
      clear hok hck
      go_wp2
      refine bodyPost_ret (res_cell_tmp2 (u := 3) (x := 4) rfl _ _ w.heap.size 41 #[.int .u8 (k.toNat : Int), .string p] (0, 0) _ rfl (st2 HK3.out _ _) Tryd.underlying41 rfl inf_ob) rfl ⟨ret_ft ?_, ?_⟩
      · obtain ⟨q1, q2, q3⟩ := ft_yes HAT.out
        rw [q1, q2, q3, HO.out, HR.out]
        exact ⟨rfl, rfl, rfl, rfl⟩
      · exact below_own HB3.out HB3.out.size (gr2 _ _ _ _) (Nat.le_refl _)
    | false =>
      have hck : ckE ⟨k, p⟩ = 1 := by rw [ckE, if_neg (by rw [hok]; simp)]
      rw [hck]
      have HAT : Hid (atB s = false) := by
        show atB s = false
        rw [Bool.eq_false_iff]
        intro h
        rw [atB_iff, HO.out, hok] at h
        cases h.2.2
      clear hok hck
      go_wp2
      refine bodyPost_ret (res_cell_tmp2 (u := 3) (x := 4) rfl _ _ w.heap.size 41 #[.int .u8 0, .string ⟨#[]⟩] (0, 0) _ rfl (st2 HK3.out _ _) Tryd.underlying41 rfl inf_ob) rfl ⟨ret_ft (ft_no HAT.out), ?_⟩
      exact below_own HB3.out HB3.out.size (gr2 _ _ _ _) (Nat.le_refl _)
end Go.Proofs.YtahpaekiehdejabDoor
/- Entries in memory: what a list of them is, and how one is built. -/
namespace Go.Proofs.YtahpaekiehdejabDoor
open Go.RowKit
set_option linter.unusedSimpArgs false
set_option linter.unusedVariables false
/-- An entry's cells. -/
def enC (e : Ent) : Array Value := ((idc e.id).toList ++ [Value.int .u8 (e.k.toNat : Int), Value.int .i64 (e.off : Int), Value.int .i64 (e.sz : Int)]).toArray
theorem enC_size (e : Ent) (h : e.id.size = 32) : (enC e).size = 35 := by simp [enC, idc_size, h]
theorem idc_one (s : ByteArray) : ∀ v ∈ (idc s).toList, v.oneCell' = true := by
  intro v hv
  rw [idc] at hv
  exact bvc_one _ v (by simpa using hv)
theorem enC_one (e : Ent) : ∀ v ∈ (enC e).toList, v.oneCell' = true := by
  intro v hv
  simp only [enC, List.mem_append, List.mem_cons] at hv
  rcases hv with h | h | h | h | h
  · exact idc_one _ v h
  · subst h; rfl
  · subst h; rfl
  · subst h; rfl
  · cases h
theorem enC_all (e : Ent) : (enC e).all (·.oneCell') = true := Array.all_eq_true_iff_forall_mem.2 (fun v hv => enC_one e v (by simpa using hv))
theorem idc_all (s : ByteArray) : (idc s).all (·.oneCell') = true := Array.all_eq_true_iff_forall_mem.2 (fun v hv => idc_one s v (by simpa using hv))
theorem enC_id (e : Ent) (h : e.id.size = 32) (j : Nat) (v : Value) (hv : (idc e.id)[j]? = some v) : (enC e)[0 + j]? = some v := by
  have hj : j < 32 := by
    have := (Array.getElem?_eq_some_iff.1 hv).1
    rwa [idc_size, h] at this
  rw [Nat.zero_add, enC, List.getElem?_toArray, List.getElem?_append_left (by rw [Array.length_toList, idc_size]; omega), Array.getElem?_toList]
  exact hv
theorem enC_at (e : Ent) (h : e.id.size = 32) : (enC e)[32]? = some (.int .u8 (e.k.toNat : Int)) ∧ (enC e)[33]? = some (.int .i64 (e.off : Int)) ∧ (enC e)[34]? = some (.int .i64 (e.sz : Int)) := by
  have hl : (idc e.id).toList.length = 32 := by rw [Array.length_toList, idc_size, h]
  refine ⟨?_, ?_, ?_⟩ <;> rw [enC, List.getElem?_toArray, List.getElem?_append_right (by omega), hl] <;> rfl
theorem list32 (l : List Value) (h : l.length = 32) : ∃ a0 a1 a2 a3 a4 a5 a6 a7 a8 a9 a10 a11 a12 a13 a14 a15 a16 a17 a18 a19 a20 a21 a22 a23 a24 a25 a26 a27 a28 a29 a30 a31, l = [a0, a1, a2, a3, a4, a5, a6, a7, a8, a9, a10, a11, a12, a13, a14, a15, a16, a17, a18, a19, a20, a21, a22, a23, a24, a25, a26, a27, a28, a29, a30, a31] := by
  match l, h with
  | [a0, a1, a2, a3, a4, a5, a6, a7, a8, a9, a10, a11, a12, a13, a14, a15, a16, a17, a18, a19, a20, a21, a22, a23, a24, a25, a26, a27, a28, a29, a30, a31], _ => exact ⟨_, _, _, _, _, _, _, _, _, _, _, _, _, _, _, _, _, _, _, _, _, _, _, _, _, _, _, _, _, _, _, _, rfl⟩
set_option maxRecDepth 100000 in
theorem built32 (a0 a1 a2 a3 a4 a5 a6 a7 a8 a9 a10 a11 a12 a13 a14 a15 a16 a17 a18 a19 a20 a21 a22 a23 a24 a25 a26 a27 a28 a29 a30 a31 : Value) (k a n : Int) : Tryd.prog.built 74 [(0, .agg #[a0, a1, a2, a3, a4, a5, a6, a7, a8, a9, a10, a11, a12, a13, a14, a15, a16, a17, a18, a19, a20, a21, a22, a23, a24, a25, a26, a27, a28, a29, a30, a31]), (1, .int .u8 k), (2, .int .i64 a), (3, .int .i64 n)] = some #[a0, a1, a2, a3, a4, a5, a6, a7, a8, a9, a10, a11, a12, a13, a14, a15, a16, a17, a18, a19, a20, a21, a22, a23, a24, a25, a26, a27, a28, a29, a30, a31, .int .u8 k, .int .i64 a, .int .i64 n] := by kernel_rfl
theorem build_en (e : Ent) (h : e.id.size = 32) (w : World) : (Instr.build 74 #[(0, .agg (idc e.id)), (1, .int .u8 (e.k.toNat : Int)), (2, .int .i64 (e.off : Int)), (3, .int .i64 (e.sz : Int))]).run Tryd.prog w = .ok (.agg (enC e)) w := by
  refine run_build w _ _ _ ?_
  obtain ⟨a0, a1, a2, a3, a4, a5, a6, a7, a8, a9, a10, a11, a12, a13, a14, a15, a16, a17, a18, a19, a20, a21, a22, a23, a24, a25, a26, a27, a28, a29, a30, a31, hl⟩ := list32 (idc e.id).toList (by rw [Array.length_toList, idc_size, h])
  have e1 : idc e.id = #[a0, a1, a2, a3, a4, a5, a6, a7, a8, a9, a10, a11, a12, a13, a14, a15, a16, a17, a18, a19, a20, a21, a22, a23, a24, a25, a26, a27, a28, a29, a30, a31] := by rw [← Array.toArray_toList (xs := idc e.id), hl]
  have e2 : enC e = #[a0, a1, a2, a3, a4, a5, a6, a7, a8, a9, a10, a11, a12, a13, a14, a15, a16, a17, a18, a19, a20, a21, a22, a23, a24, a25, a26, a27, a28, a29, a30, a31, .int .u8 (e.k.toNat : Int), .int .i64 (e.off : Int), .int .i64 (e.sz : Int)] := by rw [enC, hl]; rfl
  rw [e1, e2]
  exact built32 _ _ _ _ _ _ _ _ _ _ _ _ _ _ _ _ _ _ _ _ _ _ _ _ _ _ _ _ _ _ _ _ _ _ _
/-- An entry of nothing. -/
def z35 : Array Value := #[.int .u8 0, .int .u8 0, .int .u8 0, .int .u8 0, .int .u8 0, .int .u8 0, .int .u8 0, .int .u8 0, .int .u8 0, .int .u8 0, .int .u8 0, .int .u8 0, .int .u8 0, .int .u8 0, .int .u8 0, .int .u8 0, .int .u8 0, .int .u8 0, .int .u8 0, .int .u8 0, .int .u8 0, .int .u8 0, .int .u8 0, .int .u8 0, .int .u8 0, .int .u8 0, .int .u8 0, .int .u8 0, .int .u8 0, .int .u8 0, .int .u8 0, .int .u8 0, .int .u8 0, .int .i64 0, .int .i64 0]
theorem inf_en : (Tryd.prog.info? 74).map (fun i => (i.zero, i.size, i.bytes)) = some (some (.agg z35), 35, 56) := by kernel_rfl
theorem inf_en35 : (Tryd.prog.info? 74).map (·.size) = some 35 := by kernel_rfl
theorem info_en {C : Array Value} (h : C.size = 35) : (Tryd.prog.info? 74).map (·.size) = some C.size := by rw [h]; exact inf_en35
set_option maxRecDepth 100000 in
theorem fill35 (a0 a1 a2 a3 a4 a5 a6 a7 a8 a9 a10 a11 a12 a13 a14 a15 a16 a17 a18 a19 a20 a21 a22 a23 a24 a25 a26 a27 a28 a29 a30 a31 : Value) (k a n : Int) : Instr.fill (fun i => some (i * 35, 35)) ((Array.range (1 * 35)).map (z35[· % z35.size]!)) [(0, .agg #[a0, a1, a2, a3, a4, a5, a6, a7, a8, a9, a10, a11, a12, a13, a14, a15, a16, a17, a18, a19, a20, a21, a22, a23, a24, a25, a26, a27, a28, a29, a30, a31, .int .u8 k, .int .i64 a, .int .i64 n])] = some #[a0, a1, a2, a3, a4, a5, a6, a7, a8, a9, a10, a11, a12, a13, a14, a15, a16, a17, a18, a19, a20, a21, a22, a23, a24, a25, a26, a27, a28, a29, a30, a31, .int .u8 k, .int .i64 a, .int .i64 n] := by kernel_rfl
theorem slice_en (e : Ent) (h : e.id.size = 32) (w : World) : (Instr.buildSlice 56 1 #[(0, .agg (enC e))]).run Tryd.prog w = .ok (.slice (some ⟨w.heap.size, 0, none⟩) 1 1) (w.alloc (.cells (enC e) 74)) := by
  obtain ⟨i0, hi, hz0, hz1, hz2⟩ := info_parts inf_en
  refine run_buildSlice w _ 74 1 _ _ i0 (.agg z35) Tryd.underlying56 hi hz0 (by rw [hz1]; decide) (by rw [hz1]; decide) ?_
  obtain ⟨a0, a1, a2, a3, a4, a5, a6, a7, a8, a9, a10, a11, a12, a13, a14, a15, a16, a17, a18, a19, a20, a21, a22, a23, a24, a25, a26, a27, a28, a29, a30, a31, hl⟩ := list32 (idc e.id).toList (by rw [Array.length_toList, idc_size, h])
  have e2 : enC e = #[a0, a1, a2, a3, a4, a5, a6, a7, a8, a9, a10, a11, a12, a13, a14, a15, a16, a17, a18, a19, a20, a21, a22, a23, a24, a25, a26, a27, a28, a29, a30, a31, .int .u8 (e.k.toNat : Int), .int .i64 (e.off : Int), .int .i64 (e.sz : Int)] := by rw [enC, hl]; rfl
  rw [e2, hz1]
  exact fill35 _ _ _ _ _ _ _ _ _ _ _ _ _ _ _ _ _ _ _ _ _ _ _ _ _ _ _ _ _ _ _ _ _ _ _
/-- Entries as cells. -/
def env (l : List Ent) : List Value := l.flatMap (fun e => (enC e).toList)
theorem env_snoc (l : List Ent) (e : Ent) : env (l ++ [e]) = env l ++ (enC e).toList := by simp [env]
/-- What is kept: all but blocks of objects and names that the call made. -/
structure Kx (B : Nat) (w w' : World) : Prop where
  os : w'.os = w.os
  tape : w'.tape = w.tape
  output : w'.output = w.output
  size : w.heap.size ≤ w'.heap.size
  blk : ∀ k o, w.heap[k]? = some o → (k < B ∨ ∀ C T F, o = .cells C T F → T ≠ 41 ∧ T ≠ 29) → w'.heap[k]? = some o
theorem Kx.of {B : Nat} {w w' : World} (h : Below w.heap.size w w') : Kx B w w' :=
  ⟨h.os, h.tape, h.output, h.size, fun k o hk _ => (h.block k (Array.getElem?_eq_some_iff.1 hk).1).trans hk⟩
theorem Kx.trans {B : Nat} {w w' w'' : World} (h : Kx B w w') (g : Kx B w' w'') : Kx B w w'' :=
  ⟨g.os.trans h.os, g.tape.trans h.tape, g.output.trans h.output, Nat.le_trans h.size g.size, fun k o hk hT => g.blk k o (h.blk k o hk hT) hT⟩
theorem Kx.set {B b : Nat} {w w' : World} {C : Array Value} {T : TypeId} (hb : Bk w b C T) (hT : T = 41 ∨ T = 29) (hB : B ≤ b) (hg : w.grownBy w' (some b)) : Kx B w w' :=
  ⟨hg.os, hg.tape, hg.output, hg.size, fun k o hk ho => by
    refine (hg.block k (Array.getElem?_eq_some_iff.1 hk).1 (fun e => ?_)).trans hk
    injection e with e
    subst e
    rcases ho with ho | ho
    · omega
    · have : o = .cells C T (0, 0) := by
        have h2 : w.heap[k]? = some (.cells C T (0, 0)) := hb
        rw [hk] at h2
        exact Option.some.inj h2
      have := ho C T (0, 0) this
      rcases hT with h | h
      · exact this.1 h
      · exact this.2 h⟩
theorem Kx.below {B : Nat} {w0 w w' : World} (h : Kx B w w') (hb : Below B w0 w) (hB : B ≤ w0.heap.size) : Below B w0 w' := by
  refine ⟨h.os.trans hb.os, h.tape.trans hb.tape, h.output.trans hb.output, Nat.le_trans hb.size h.size, fun k hk => ?_⟩
  have h1 := hb.block k hk
  have h2 : k < w0.heap.size := by omega
  have h3 : w.heap[k]? = some (w0.heap[k]) := by rw [h1, Array.getElem?_eq_getElem h2]
  rw [h.blk k _ h3 (.inl hk), Array.getElem?_eq_getElem h2]
theorem Kx.bk {B b : Nat} {w w' : World} {C : Array Value} {T : TypeId} (h : Kx B w w') (hb : Bk w b C T) (hT : T ≠ 41 ∧ T ≠ 29) : Bk w' b C T :=
  h.blk b _ hb (.inr (fun C' T' F' e => by injection e with _ e2; rw [← e2]; exact hT))
theorem Kx.rows {B b n k : Nat} {w w' : World} {v : Value} {xs : List Value} {T : TypeId} (h : Kx B w w') (ho : w.ownsRow b T k v n xs) (hT : T ≠ 41 ∧ T ≠ 29) : w'.ownsRow b T k v n xs := by
  refine ⟨ho.1, ?_⟩
  rcases ho.2 with h1 | ⟨g, cap, cur, h1, h2, hc, h3⟩
  · exact .inl h1
  · exact .inr ⟨g, cap, cur, h1, h2, h.bk hc hT, h3⟩
/-- Entries told so far, in a slice of the call's own behind a box. -/
structure SvS (w0 : World) (lb : Nat) (l : List Ent) (w : World) : Prop where
  row : ∃ v, Bk w lb #[v] 56 ∧ w.ownsRow w0.heap.size 74 35 v l.length (env l)
  lb : w0.heap.size ≤ lb
  bel : Below w0.heap.size w0 w
  lst : Lst w0
theorem SvS.keep {w0 w w' : World} {lb : Nat} {l : List Ent} (h : SvS w0 lb l w) (hk : Kx w0.heap.size w w') : SvS w0 lb l w' := by
  obtain ⟨v, h1, h2⟩ := h.row
  exact ⟨⟨v, hk.bk h1 (by decide), hk.rows h2 (by decide)⟩, h.lb, hk.below h.bel (Nat.le_refl _), h.lst⟩
theorem SvS.all {w0 w : World} {lb : Nat} {l : List Ent} (h : SvS w0 lb l w) : Lst w := h.lst.below h.bel
theorem row_slice {B n k : Nat} {w : World} {v : Value} {xs : List Value} {T : TypeId} (h : w.ownsRow B T k v n xs) : ∃ a c, v = .slice a n c := by
  rcases h.2 with ⟨rfl, rfl⟩ | ⟨g, cap, cur, rfl, _⟩
  · exact ⟨_, _, rfl⟩
  · exact ⟨_, _, rfl⟩
/-- One is appended. -/
theorem SvS.app {w0 w : World} {lb : Nat} {l : List Ent} {v : Value} (h : SvS w0 lb l w) (hv : Bk w lb #[v] 56) (e : Ent) (he : e.id.size = 32) (hn : l.length < 1048576) :
    ∃ v' w7, (Builtin.append_ #[56, 56] 56 #[v, .slice (some ⟨w.heap.size, 0, none⟩) 1 1]).run Tryd.prog (w.alloc (.cells (enC e) 74)) = .ok v' w7 ∧ Bk w7 lb #[v] 56 ∧ v'.oneCell' = true ∧
      SvS w0 lb (l ++ [e]) (w7.setCell ⟨lb, 0, none⟩ v') ∧ (∀ (m : Nat) es c, w.heap[m]? = some (Obj.map es c) → w7.heap[m]? = some (Obj.map es c)) ∧ (∀ b C T, Bk w b C T → T ≠ 74 → Bk w7 b C T) := by
  obtain ⟨v0, h1, h2⟩ := h.row
  obtain rfl : v0 = v := by
    have q : some (Obj.cells #[v0] 56 (0, 0)) = some (Obj.cells #[v] 56 (0, 0)) := h1.symm.trans hv
    injection q with q
    injection q with q
    injection q with q
    simpa using q
  obtain ⟨i0, hi, hz0, hz1, hz2⟩ := info_parts inf_en
  have hz := h.bel.size
  have hlt := h1.lt
  obtain ⟨v', w7, hrun, hown, hgrow, _, hat⟩ := run_append_own_at (P := Tryd.prog) (w := w.alloc (.cells (enC e) 74)) w0.heap.size 56 56 74 i0 (.agg z35) 35 56 Tryd.underlying56 hi hz0 hz1 hz2 rfl (by decide) v0 l.length (env l) (h2.alloc _) ⟨w.heap.size, 0, none⟩ 1 1 (enC e).toList
    (by rw [Array.length_toList, enC_size e he]) (fun j u hu => by
      rw [WideShapes.add_plain, Nat.zero_add, World.cell?_alloc_new]
      rwa [Array.getElem?_toList] at hu) (enC_one e) (by unfold maxLen; omega) (by omega) (by rw [al_size]; omega)
  have hrow : ∀ b, v0.ownBlock = some b → ∃ cur, w.heap[b]? = some (.cells cur 74 (0, 0)) := by
    intro b hb
    rcases h2.2 with ⟨rfl, _⟩ | ⟨g, cap, cur, rfl, _, hc, _⟩
    · cases hb
    · simp [Value.ownBlock] at hb; subst hb; exact ⟨cur, hc⟩
  have hkeep : ∀ (b : Nat) (o : Obj), w.heap[b]? = some o → (∀ cur, o ≠ .cells cur 74 (0, 0)) → w7.heap[b]? = some o := by
    intro b o hb ho
    have hbl := (Array.getElem?_eq_some_iff.1 hb).1
    have a1 : (w.alloc (.cells (enC e) 74)).heap[b]? = some o := by
      rw [(MapKept.heap_alloc w _).2 b hbl]; exact hb
    refine (hgrow.block b (by rw [al_size]; omega) (fun q => ?_)).trans a1
    obtain ⟨cur, hc⟩ := hrow b q.symm
    rw [hb] at hc
    exact ho cur (Option.some.inj hc)
  have b1 : Bk w7 lb #[v0] 56 := hkeep lb _ h1 (fun cur q => by injection q with _ q2; exact absurd q2 (by decide))
  have b4 : Below w0.heap.size w0 w7 := rows_bel (h.bel.alloc hz _) (by rw [al_size]; omega) (h2.alloc _) (Nat.le_refl _) hgrow
  have ho : w7.ownsRow w0.heap.size 74 35 v' (l.length + 1) (env (l ++ [e])) := by rw [env_snoc]; exact hown
  obtain ⟨a', c', hv'⟩ := row_slice ho
  have hg : w7.grownBy (w7.setCell ⟨lb, 0, none⟩ v') (some lb) := Lib.grownBy_setB (World.grownBy.refl _ _) 0 _
  refine ⟨v', w7, hrun, b1, by rw [hv']; rfl, ⟨⟨v', b1.set 0 v', ?_⟩, h.lb, below_own b4 b4.size hg h.lb, h.lst⟩, fun m es c hm => hkeep m _ hm (by simp), fun b C T hb hT => hkeep b _ hb (fun cur q => by injection q with _ q2; exact hT q2)⟩
  rw [List.length_append, List.length_singleton]
  refine ⟨ho.1, ?_⟩
  rcases ho.2 with q | ⟨g, cap, cur, q1, q2, hc, q3⟩
  · exact .inl q
  · refine .inr ⟨g, cap, cur, q1, q2, ?_, q3⟩
    refine (hg.block g (Array.getElem?_eq_some_iff.1 hc).1 (fun q => ?_)).trans hc
    injection q with q
    subst q
    have q9 : some (Obj.cells cur 74 (0, 0)) = some (Obj.cells #[v0] 56 (0, 0)) := hc.symm.trans b1
    injection q9 with q9
    injection q9 with _ q9
    exact absurd q9 (by decide)
end Go.Proofs.YtahpaekiehdejabDoor
/- The closures of Salvage and Scan. -/
namespace Go.Proofs.YtahpaekiehdejabDoor
open Go.RowKit
set_option linter.unusedSimpArgs false
set_option linter.unusedVariables false
theorem ret_b11 {a b : Bool} (h : b = a) : Ending.returned (.bool a) = .returned (.bool b) := by rw [h]
theorem wpList_appR {P : Program} {ops : Array Oper} {rest : List Oper} {o : Oper} {a : Act} {w : World} {Q : Exit → Act → World → Prop} (hgd : o.guard = none) (sl x : Operand) (t u : TypeId)
    (ho : o.op = .call { callee := .builtin .append, args := #[sl, x], argTypes := #[t, u] }) (v y v' : Value) (w' : World) (hs : a.eval sl = v) (hx : a.eval x = y) (hr : (Builtin.append_ #[t, u] o.type #[v, y]).run P w = .ok v' w')
    (h : wpList P ops Q rest (a.put o.dst v') w') : wpList P ops Q (o :: rest) a w := by
  refine wpList_plain hgd fun K hK => ?_
  unfold Oper.wp execOp
  simp only [ho, resolve, invoke, builtin, Sem.run_bind, Sem.run_pure, Result.andThen_ok, List.map_toArray, List.map_cons, List.map_nil, hs, hx, hr]
  exact hK _ _ h
theorem wpList_bsR {P : Program} {ops : Array Oper} {rest : List Oper} {o : Oper} {a : Act} {w : World} {Q : Exit → Act → World → Prop} (hgd : o.guard = none) (t : TypeId) (x : Operand)
    (ho : o.op = .buildSlice t 1 #[(0, x)]) (v r : Value) (w' : World) (hx : a.eval x = v) (hr : (Instr.buildSlice t 1 #[(0, v)]).run P w = .ok r w')
    (h : wpList P ops Q rest (a.put o.dst r) w') : wpList P ops Q (o :: rest) a w := by
  refine wpList_plain hgd fun K hK => ?_
  unfold Oper.wp execOp
  simp only [ho, Sem.run_bind, Sem.run_pure, Result.andThen_ok, List.map_toArray, List.map_cons, List.map_nil, hx, hr]
  exact hK _ _ h
theorem wpList_bdR {P : Program} {ops : Array Oper} {rest : List Oper} {o : Oper} {a : Act} {w : World} {Q : Exit → Act → World → Prop} (hgd : o.guard = none) (t : TypeId) (x0 x1 x2 x3 : Operand)
    (ho : o.op = .build t #[(0, x0), (1, x1), (2, x2), (3, x3)]) (v0 v1 v2 v3 r : Value) (h0 : a.eval x0 = v0) (h1 : a.eval x1 = v1) (h2 : a.eval x2 = v2) (h3 : a.eval x3 = v3) (hr : (Instr.build t #[(0, v0), (1, v1), (2, v2), (3, v3)]).run P w = .ok r w)
    (h : wpList P ops Q rest (a.put o.dst r) w) : wpList P ops Q (o :: rest) a w := by
  refine wpList_plain hgd fun K hK => ?_
  unfold Oper.wp execOp
  simp only [ho, Sem.run_bind, Sem.run_pure, Result.andThen_ok, List.map_toArray, List.map_cons, List.map_nil, h0, h1, h2, h3, hr]
  exact hK _ _ h
def svN (l : List Ent) (e : Ent) : List Ent := if tkA l e = true then l ++ [e] else l
set_option maxHeartbeats 1000000 in
set_option maxRecDepth 100000 in
theorem salv1 (w0 : World) (lb : Nat) (l : List Ent) (e : Ent) (w : World) (h : SvS w0 lb l w) (he : e.id.size = 32) (hl : l.length ≤ 65536) :
    Calls Tryd.prog 55 #[.agg (enC e), .pointer (some ⟨lb, 0, none⟩)] w fun r w' => r = .returned (.bool (tkA l e)) ∧ SvS w0 lb (svN l e) w' := by
  have h1 : SvS w0 lb l (w.alloc (.cells (enC e) 74)) := h.keep (Kx.of ((Below.refl _ _).alloc (Nat.le_refl _) _))
  obtain ⟨v, hb, hr⟩ := h1.row
  obtain ⟨a, c, hv⟩ := row_slice hr
  have hbx : Bk (w.alloc (.cells (enC e) 74)) w.heap.size (enC e) 74 := bk_new _ _ _
  have hi35 := info_en (enC_size e he)
  have hse1 := slice_en e he (w.alloc (.cells (enC e) 74))
  rw [al_size] at hse1
  obtain ⟨v', w7, hrun, hb7, hv7, h7, _, _⟩ := h1.app hb e he (by omega)
  rw [al_size] at hrun
  obtain ⟨a', c', hv'⟩ : ∃ a' c', v' = .slice a' (l.length + 1) c' := by
    obtain ⟨v2, q1, q2⟩ := h7.row
    obtain rfl : v2 = v' := by
      have q3 : (w7.setCell ⟨lb, 0, none⟩ v').cell? ⟨lb, 0, none⟩ = some v2 := by rw [q1.cell]; rfl
      have q4 : (w7.setCell ⟨lb, 0, none⟩ v').cell? ⟨lb, 0, none⟩ = some v' := by rw [(hb7.set 0 v').cell]; rfl
      rw [q3] at q4; exact Option.some.inj q4
    rw [List.length_append, List.length_singleton] at q2
    exact row_slice q2
  subst hv
  subst hv'
  have c0 : (w.alloc (.cells (enC e) 74)).cell? ⟨lb, 0, none⟩ = some (.slice a l.length c) := by rw [hb.cell]; rfl
  have c7 : w7.cell? ⟨lb, 0, none⟩ = some (.slice a l.length c) := by rw [hb7.cell]; rfl
  have f7 := hb7.frozen 0
  have H1 : Hid (SvS w0 lb l (w.alloc (.cells (enC e) 74))) := h1
  have H7 : Hid (SvS w0 lb (l ++ [e]) (w7.setCell ⟨lb, 0, none⟩ (.slice a' (l.length + 1) c'))) := h7
  have HX : Hid (Bk (w.alloc (.cells (enC e) 74)) w.heap.size (enC e) 74) := hbx
  clear h h1 hb hr hb7 h7 hbx hv7
  by_cases hn : l.length = 65536
  · have HN : Hid (tkA l e = false) := by show tkA l e = false; simp [tkA, hn]
    have hz : ((l.length : Int) == 65536) = true := by rw [beq_iff_eq]; omega
    generalize l.length = n at c0 hz hrun
    clear hn hrun
    go_enter Tryd.func55, Tryd.ntmps55
    go_wp2
    go_ret
    refine ⟨ret_b11 HN.out, ?_⟩
    rw [svN, HN.out]
    exact H1.out
  · have HN : Hid (tkA l e = true) := by show tkA l e = true; simp [tkA, hn]
    have hz : ((l.length : Int) == 65536) = false := by rw [beq_eq_false_iff_ne]; omega
    clear hn
    generalize l.length = n at c0 c7 hz hrun hl H7
    go_enter Tryd.func55, Tryd.ntmps55
    go_wp2_with (first
      | (refine wpList_get rfl 74 (.tmp 2) rfl w.heap.size 0 (enC e) (enC e) 74 _ rfl HX.out (fun j u hu => by rw [Nat.zero_add]; exact hu) Tryd.underlying74 rfl hi35 ?_)
      | (refine wpList_bsR rfl 56 (.tmp 8) rfl (.agg (enC e)) (.slice (some ⟨w.heap.size + 1, 0, none⟩) 1 1) ((w.alloc (.cells (enC e) 74)).alloc (.cells (enC e) 74)) rfl hse1 ?_)
      | (refine wpList_appR rfl (.tmp 7) (.tmp 9) 56 56 rfl (.slice a n c) (.slice (some ⟨w.heap.size + 1, 0, none⟩) 1 1) (.slice a' (n + 1) c') w7 rfl rfl hrun ?_)
      | fail)
    go_ret
    refine ⟨ret_b11 HN.out, ?_⟩
    rw [svN, HN.out]
    exact H7.out
/-- Entries and their names, told so far. -/
structure ScS (w0 : World) (lb mb m : Nat) (l : List Ent) (w : World) : Prop where
  sv : SvS w0 lb l w
  mb : Bk w mb #[.map (some m)] 92
  st : St (fun v => v = .agg #[]) w m (l.map (·.id))
  mlb : w0.heap.size ≤ m
theorem ScS.keep {w0 w w' : World} {lb mb m : Nat} {l : List Ent} (h : ScS w0 lb mb m l w) (hk : Kx w0.heap.size w w') : ScS w0 lb mb m l w' := by
  obtain ⟨es, c, hm⟩ := h.st.isMap
  exact ⟨h.sv.keep hk, hk.bk h.mb (by decide), h.st.keep ((hk.blk m _ hm (.inr (by simp))).trans hm.symm), h.mlb⟩
theorem hasE_on (l : List Ent) (x : ByteArray) : onL (l.map (·.id)) x = hasE l x := by
  rw [onL, hasE, List.any_map]; rfl
theorem zero_unit (w : World) : (zeroValue 118).run Tryd.prog w = .ok (.agg #[]) w := by kernel_rfl
def scN (l : List Ent) (e : Ent) : List Ent := if tkS l e = true then l ++ [e] else l
set_option maxHeartbeats 1000000 in
set_option maxRecDepth 100000 in
theorem scan1_met (w0 : World) (lb mb m : Nat) (l : List Ent) (e : Ent) (w : World) (h : ScS w0 lb mb m l w) (he : e.id.size = 32) (hh : hasE l e.id = true) :
    Calls Tryd.prog 54 #[.agg (enC e), .pointer (some ⟨mb, 0, none⟩), .pointer (some ⟨lb, 0, none⟩)] w fun r w' => r = .returned (.bool (tkS l e)) ∧ ScS w0 lb mb m (scN l e) w' := by
  have h1 : ScS w0 lb mb m l (w.alloc (.cells (enC e) 74)) := h.keep (Kx.of ((Below.refl _ _).alloc (Nat.le_refl _) _))
  have hbx : Bk (w.alloc (.cells (enC e) 74)) w.heap.size (enC e) 74 := bk_new _ _ _
  have hi35 := info_en (enC_size e he)
  have hi32 : (Tryd.prog.info? 29).map (·.size) = some (idc e.id).size := info_32 (by rw [idc_size, he])
  have HX : Hid (Bk (w.alloc (.cells (enC e) 74)) w.heap.size (enC e) 74) := hbx
  have HI : Hid (∀ j v, (idc e.id)[j]? = some v → (enC e)[0 + j]? = some v) := enC_id e he
  obtain ⟨v, hlook, hv⟩ := h1.st.look Tryd.underlying92 (zero_unit _) rfl e.id he
  subst hv
  rw [hasE_on, hh] at hlook
  have c0 : (w.alloc (.cells (enC e) 74)).cell? ⟨mb, 0, none⟩ = some (.map (some m)) := by rw [h1.mb.cell]; rfl
  have HN : Hid (tkS l e = false) := by show tkS l e = false; rw [tkS, hh]; rfl
  have H2 : Hid (ScS w0 lb mb m l ((w.alloc (.cells (enC e) 74)).alloc (.cells #[] 118))) := h1.keep (Kx.of ((Below.refl _ _).alloc (Nat.le_refl _) _))
  clear h h1 hbx hh
  go_enter Tryd.func54, Tryd.ntmps54
  go_wp2_with (first
    | (refine wpList_get rfl 29 (.tmp 9) rfl w.heap.size 0 (enC e) (idc e.id) 74 _ rfl HX.out HI.out Tryd.underlying29 rfl hi32 ?_)
    | fail)
  go_ret
  refine ⟨ret_b11 HN.out, ?_⟩
  rw [scN, HN.out]
  exact H2.out
theorem SvS.mapped {w0 w w' : World} {lb m : Nat} {l : List Ent} (h : SvS w0 lb l w) (hm : ∃ es c, w.heap[m]? = some (.map es c)) (hg : w.grownBy w' (some m)) (hB : w0.heap.size ≤ m) : SvS w0 lb l w' := by
  obtain ⟨v, h1, h2⟩ := h.row
  obtain ⟨es, c, hm⟩ := hm
  have ne : ∀ (b : Nat) C T F, w.heap[b]? = some (.cells C T F) → some m ≠ some b := fun b C T F hb q => by
    injection q with q
    subst q
    rw [hm] at hb
    cases hb
  refine ⟨⟨v, h1.grown hg (ne _ _ _ _ h1), h2.1, ?_⟩, h.lb, below_own h.bel h.bel.size hg hB, h.lst⟩
  rcases h2.2 with q | ⟨g, cap, cur, q1, q2, hc, q3⟩
  · exact .inl q
  · exact .inr ⟨g, cap, cur, q1, q2, (hg.block g (Array.getElem?_eq_some_iff.1 hc).1 (fun q => ne _ _ _ _ hc q.symm)).trans hc, q3⟩
set_option maxHeartbeats 1000000 in
set_option maxRecDepth 100000 in
theorem scan1_new (w0 : World) (lb mb m : Nat) (l : List Ent) (e : Ent) (w : World) (h : ScS w0 lb mb m l w) (he : e.id.size = 32) (hh : hasE l e.id = false) (hl : l.length ≤ 65536) :
    Calls Tryd.prog 54 #[.agg (enC e), .pointer (some ⟨mb, 0, none⟩), .pointer (some ⟨lb, 0, none⟩)] w fun r w' => r = .returned (.bool (tkS l e)) ∧ ScS w0 lb mb m (scN l e) w' := by
  have h1 : ScS w0 lb mb m l (w.alloc (.cells (enC e) 74)) := h.keep (Kx.of ((Below.refl _ _).alloc (Nat.le_refl _) _))
  have hbx : Bk (w.alloc (.cells (enC e) 74)) w.heap.size (enC e) 74 := bk_new _ _ _
  have hi35 := info_en (enC_size e he)
  have hi32 : (Tryd.prog.info? 29).map (·.size) = some (idc e.id).size := info_32 (by rw [idc_size, he])
  have HX : Hid (Bk (w.alloc (.cells (enC e) 74)) w.heap.size (enC e) 74) := hbx
  have HI : Hid (∀ j v, (idc e.id)[j]? = some v → (enC e)[0 + j]? = some v) := enC_id e he
  obtain ⟨v, hlook, hv⟩ := h1.st.look Tryd.underlying92 (zero_unit _) rfl e.id he
  subst hv
  rw [hasE_on, hh] at hlook
  have c0 : (w.alloc (.cells (enC e) 74)).cell? ⟨mb, 0, none⟩ = some (.map (some m)) := by rw [h1.mb.cell]; rfl
  have h2 : ScS w0 lb mb m l ((w.alloc (.cells (enC e) 74)).alloc (.cells #[] 118)) := h1.keep (Kx.of ((Below.refl _ _).alloc (Nat.le_refl _) _))
  have hbx2 := hbx.alloc (.cells #[] 118)
  have HX2 : Hid (Bk ((w.alloc (.cells (enC e) 74)).alloc (.cells #[] 118)) w.heap.size (enC e) 74) := hbx2
  obtain ⟨v, hb, hr⟩ := h2.sv.row
  obtain ⟨a, c, hv⟩ := row_slice hr
  subst hv
  have c1 : ((w.alloc (.cells (enC e) 74)).alloc (.cells #[] 118)).cell? ⟨lb, 0, none⟩ = some (.slice a l.length c) := by rw [hb.cell]; rfl
  have c2 : ((w.alloc (.cells (enC e) 74)).alloc (.cells #[] 118)).cell? ⟨mb, 0, none⟩ = some (.map (some m)) := by rw [h2.mb.cell]; rfl
  obtain ⟨w3, hput, hst3, hg3⟩ := h2.st.put Tryd.underlying92 (by rw [List.length_map]; omega) e.id he (.agg #[]) rfl
  have hmp := h2.st.isMap
  have h3 : SvS w0 lb l w3 := h2.sv.mapped hmp hg3 h2.mlb
  have nem : ∀ (b : Nat) C T, Bk ((w.alloc (.cells (enC e) 74)).alloc (.cells #[] 118)) b C T → some m ≠ some b := fun b C T hb q => by
    injection q with q
    subst q
    obtain ⟨es, cc, hm⟩ := hmp
    have : ((w.alloc (.cells (enC e) 74)).alloc (.cells #[] 118)).heap[m]? = some (.cells C T (0, 0)) := hb
    rw [hm] at this
    cases this
  have hb3 : Bk w3 lb #[.slice a l.length c] 56 := hb.grown hg3 (nem _ _ _ hb)
  have hbx3 : Bk w3 w.heap.size (enC e) 74 := hbx2.grown hg3 (nem _ _ _ hbx2)
  have hmb3 : Bk w3 mb #[.map (some m)] 92 := h2.mb.grown hg3 (nem _ _ _ h2.mb)
  have HX3 : Hid (Bk w3 w.heap.size (enC e) 74) := hbx3
  have c3 : w3.cell? ⟨lb, 0, none⟩ = some (.slice a l.length c) := by rw [hb3.cell]; rfl
  have hse1 := slice_en e he w3
  obtain ⟨v', w7, hrun, hb7, hv7, h7, hm7, hk7⟩ := h3.app hb3 e he (by omega)
  obtain ⟨a', c', hv'⟩ : ∃ a' c', v' = .slice a' (l.length + 1) c' := by
    obtain ⟨v2, q1, q2⟩ := h7.row
    obtain rfl : v2 = v' := by
      have q3 : (w7.setCell ⟨lb, 0, none⟩ v').cell? ⟨lb, 0, none⟩ = some v2 := by rw [q1.cell]; rfl
      have q4 : (w7.setCell ⟨lb, 0, none⟩ v').cell? ⟨lb, 0, none⟩ = some v' := by rw [(hb7.set 0 v').cell]; rfl
      rw [q3] at q4; exact Option.some.inj q4
    rw [List.length_append, List.length_singleton] at q2
    exact row_slice q2
  subst hv'
  have c7 : w7.cell? ⟨lb, 0, none⟩ = some (.slice a l.length c) := by rw [hb7.cell]; rfl
  have f7 := hb7.frozen 0
  have H2 : Hid (ScS w0 lb mb m l ((w.alloc (.cells (enC e) 74)).alloc (.cells #[] 118))) := h2
  have H7 : Hid (ScS w0 lb mb m (l ++ [e]) (w7.setCell ⟨lb, 0, none⟩ (.slice a' (l.length + 1) c'))) := by
    have hg : w7.grownBy (w7.setCell ⟨lb, 0, none⟩ (.slice a' (l.length + 1) c')) (some lb) := Lib.grownBy_setB (World.grownBy.refl _ _) 0 _
    obtain ⟨es, cc, hm3⟩ := hst3.isMap
    have hm8 := hm7 m es cc hm3
    have st7 : St (fun v => v = .agg #[]) w7 m (l.map (·.id) ++ [e.id]) := hst3.keep (hm8.trans hm3.symm)
    have mb7 := hk7 mb _ _ hmb3 (by decide)
    refine ⟨h7, mb7.grown hg (fun q => ?_), ?_, h2.mlb⟩
    · injection q with q
      subst q
      have q9 : some (Obj.cells #[Value.map (some m)] 92 (0, 0)) = some (Obj.cells #[Value.slice a l.length c] 56 (0, 0)) := mb7.symm.trans hb7
      injection q9 with q9
      injection q9 with _ q9
      exact absurd q9 (by decide)
    · rw [List.map_append]
      refine st7.grown hg (fun q => ?_)
      injection q with q
      subst q
      have q9 : some (Obj.map es cc) = some (Obj.cells #[Value.slice a l.length c] 56 (0, 0)) := hm8.symm.trans hb7
      cases q9
  clear h h1 hbx h2 hbx2 hb hr hst3 hg3 hmp h3 nem hb3 hbx3 hmb3 hb7 hv7 h7 hm7 hk7
  by_cases hn : l.length = 65536
  · have HN : Hid (tkS l e = false) := by show tkS l e = false; simp [tkS, hn]
    have hz : ((l.length : Int) == 65536) = true := by rw [beq_iff_eq]; omega
    generalize l.length = n at c1 hz
    clear hn hrun hput c3 c7 H7 hse1 HX3 f7
    go_enter Tryd.func54, Tryd.ntmps54
    go_wp2_with (first
      | (refine wpList_get rfl 29 (.tmp 9) rfl w.heap.size 0 (enC e) (idc e.id) 74 _ rfl HX.out HI.out Tryd.underlying29 rfl hi32 ?_)
      | fail)
    go_ret
    refine ⟨ret_b11 HN.out, ?_⟩
    rw [scN, HN.out]
    exact H2.out
  · have HN : Hid (tkS l e = true) := by show tkS l e = true; simp [tkS, hn, hh]
    have hz : ((l.length : Int) == 65536) = false := by rw [beq_eq_false_iff_ne]; omega
    clear hn H2
    generalize l.length = n at c1 c3 c7 hz hrun hl H7
    go_enter Tryd.func54, Tryd.ntmps54
    go_wp2_with (first
      | (refine wpList_get rfl 29 (.tmp 9) rfl w.heap.size 0 (enC e) (idc e.id) 74 _ rfl HX.out HI.out Tryd.underlying29 rfl hi32 ?_)
      | (refine wpList_get rfl 29 (.tmp 21) rfl w.heap.size 0 (enC e) (idc e.id) 74 _ rfl HX2.out HI.out Tryd.underlying29 rfl hi32 ?_)
      | (refine wpList_get rfl 74 (.tmp 3) rfl w.heap.size 0 (enC e) (enC e) 74 _ rfl HX3.out (fun j u hu => by rw [Nat.zero_add]; exact hu) Tryd.underlying74 rfl hi35 ?_)
      | (refine wpList_bsR rfl 56 (.tmp 25) rfl (.agg (enC e)) (.slice (some ⟨w3.heap.size, 0, none⟩) 1 1) (w3.alloc (.cells (enC e) 74)) rfl hse1 ?_)
      | (refine wpList_appR rfl (.tmp 24) (.tmp 26) 56 56 rfl (.slice a n c) (.slice (some ⟨w3.heap.size, 0, none⟩) 1 1) (.slice a' (n + 1) c') w7 rfl rfl hrun ?_)
      | fail)
    go_ret
    refine ⟨ret_b11 HN.out, ?_⟩
    rw [scN, HN.out]
    exact H7.out
theorem scan1 (w0 : World) (lb mb m : Nat) (l : List Ent) (e : Ent) (w : World) (h : ScS w0 lb mb m l w) (he : e.id.size = 32) (hl : l.length ≤ 65536) :
    Calls Tryd.prog 54 #[.agg (enC e), .pointer (some ⟨mb, 0, none⟩), .pointer (some ⟨lb, 0, none⟩)] w fun r w' => r = .returned (.bool (tkS l e)) ∧ ScS w0 lb mb m (scN l e) w' := by
  cases hh : hasE l e.id with
  | true => exact scan1_met w0 lb mb m l e w h he hh
  | false => exact scan1_new w0 lb mb m l e w h he hh hl
end Go.Proofs.YtahpaekiehdejabDoor
