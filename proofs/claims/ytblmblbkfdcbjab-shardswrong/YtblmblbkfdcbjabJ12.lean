/- Which shards are there, and which are used: the closures, shards.picked. -/
import Derived.Test.YtblmblbkfdcbjabK16
import Derived.Test.YtblmblbkfdcbjabM6
namespace Go.Proofs.Ytblmblbkfdcbjab
open Go.RowKit
set_option linter.unusedSimpArgs false
set_option linter.unusedVariables false
/-- Truths as cells. -/
def bs (l : List Bool) : Array Value := (l.map fun x => Value.bool x).toArray
theorem bs_get (l : List Bool) (j : Nat) : (bs l)[j]? = (l[j]?).map fun x => Value.bool x := by simp [bs]
theorem bs_size (l : List Bool) : (bs l).size = l.length := by simp [bs]
theorem bs_set (l : List Bool) (j : Nat) (x : Bool) : (bs l).setIfInBounds j (.bool x) = bs (l.set j x) := by
  simp only [bs, List.setIfInBounds_toArray, List.map_set]
theorem bs_one (l : List Bool) : (bs l).all (·.oneCell') = true := by simp [bs, List.all_eq_true, Value.oneCell']
def nt (l : List Bool) (i : Nat) : Bool := !(l.getD i false)
theorem bs_cell {w : World} {g : Nat} {l : List Bool} {T : TypeId} (h : Bk w g (bs l) T) (hl : l.length = 64) (i : Nat) (hi : i < 64) : w.cell? ⟨g, i, none⟩ = some (.bool (!(nt l i))) := by
  rw [h.cell, bs_get, List.getElem?_eq_getElem (by omega), nt, List.getD, List.getElem?_eq_getElem (by omega)]
  simp
theorem there_any (g i : Nat) (l : List Bool) (T : TypeId) (w : World) (hB : Bk w g (bs l) T) (hl : l.length = 64) (hi : i < 64) :
    Calls Try.prog 17 #[.int .i64 i, .pointer (some ⟨g, 0, none⟩)] w fun e w' => e = .returned (.bool (nt l i)) ∧ w' = w := by
  have hc := bs_cell hB hl i hi
  obtain ⟨b, hb⟩ : ∃ b, nt l i = b := ⟨_, rfl⟩
  rw [hb] at hc ⊢
  clear hB hl hb
  go_enter Try.func17, Try.ntmps17
  go_wp2
  go_ret
  exact ⟨by simp, rfl⟩
theorem used_any (g ge i e : Nat) (l : List Bool) (T : TypeId) (w : World) (hB : Bk w g (bs l) T) (hl : l.length = 64) (hi : i < 64) (he : w.cell? ⟨ge, 0, none⟩ = some (.int .i64 e)) (heb : e ≤ 64) :
    Calls Try.prog 25 #[.int .i64 i, .pointer (some ⟨ge, 0, none⟩), .pointer (some ⟨g, 0, none⟩)] w fun e2 w' => e2 = .returned (.bool (decide (i < e) && nt l i)) ∧ w' = w := by
  have hc := bs_cell hB hl i hi
  obtain ⟨b, hb⟩ : ∃ b, nt l i = b := ⟨_, rfl⟩
  rw [hb] at hc ⊢
  clear hB hl hb
  by_cases h : i < e
  · rw [decide_eq_true h]
    have hz : (i : Int) < (e : Nat) := by omega
    go_enter Try.func25, Try.ntmps25
    go_wp2
    go_ret
    exact ⟨by simp, rfl⟩
  · rw [decide_eq_false h]
    have hz : ¬ (i : Int) < (e : Nat) := by omega
    go_enter Try.func25, Try.ntmps25
    go_wp2
    go_ret
    exact ⟨by simp, rfl⟩
theorem make_cap (n : Nat) (hn : n ≤ 64) (u : World) : (Instr.makeSlice 23 (.int .i64 0) (.int .i64 n)).run Try.prog u =
    .ok (.slice (some ⟨u.heap.size, 0, none⟩) 0 n) (u.alloc (.cells (txc (List.replicate n (mkT []))) 9)) := by
  obtain ⟨i0, hi, hz0, hz1, hz2⟩ := info_parts infoS
  have h := run_make (P := Try.prog) u 23 9 i0 (.string (mkT [])) Try.underlying23 hi hz0 .i64 .i64 (0 : Int) (n : Int) (by omega) (by omega) (by rw [hz2]; omega) (by omega)
  rw [Int.toNat_natCast, hz1, Nat.mul_one] at h
  rw [h, ← made_txt]; rfl
set_option maxHeartbeats 1000000 in
set_option maxRecDepth 100000 in
theorem picked1_any (a : Option Addr) (c n : Nat) (xs : List ByteArray) (p : Nat → Bool) (g1 : Nat) (w : World) (hx : TxL w a xs) (nx : xs.length = n) (hn : n ≤ 64)
    (hf : ∀ W, Below w.heap.size w W → ∀ i : Nat, i < n → Calls Try.prog 17 #[.int .i64 i, .pointer (some ⟨g1, 0, none⟩)] W fun e w' => e = .returned (.bool (p i)) ∧ w' = W) :
    Calls Try.prog 16 #[.slice a n c, .func (.func 17) #[] #[.pointer (some ⟨g1, 0, none⟩)]] w fun e w' => ∃ v, e = .returned v ∧ w'.ownsRow w.heap.size 9 1 v (pkd p xs).length (sv (pkd p xs)) ∧ Below w.heap.size w w' := by
  have HX : Hid (TxL w a xs) := hx
  have NX : Hid (xs.length = n) := nx
  have HF : Hid _ := hf
  have hmk := make_cap n hn
  obtain ⟨i0, hi, hz0, hz1, hz2⟩ := info_parts inf_str
  clear hx nx hf
  have HO0 : Hid ((w.alloc (.cells (txc (List.replicate n (mkT []))) 9)).ownsRow w.heap.size 9 1 (.slice (some ⟨w.heap.size, 0, none⟩) 0 n) 0 []) := World.ownsRow_made (size := 1) w _ n (Nat.le_refl _) (by unfold maxLen; omega) (by rw [txc_size, List.length_replicate, Nat.mul_one])
  go_enter Try.func16, Try.ntmps16
  go_wp2_with fail
  go_loopw [5, 13] (fun v t wr => ∃ i m : Nat, i ≤ n ∧ t = .int .i64 i ∧ m ≤ 64 ∧ Hid ((pkK p xs i).length = m) ∧ Hid (wr.ownsRow w.heap.size 9 1 v m (sv (pkK p xs i))) ∧ Hid (Below w.heap.size w wr)) (fun _ t _ => n - (intOf t).toNat)
  case atStart => exact ⟨0, 0, by omega, rfl, by omega, rfl, HO0.out, (Below.refl _ _).alloc (Nat.le_refl _) _⟩
  case round =>
    clear HO0
    obtain ⟨i, m, hin, rfl, hm, HL, HO, HB⟩ := hrel
    have hzr : w.heap.size ≤ wr.heap.size := HB.out.size
    by_cases hlt : i < n
    · have hiz : (i : Int) < (n : Nat) := by omega
      obtain ⟨x, hx⟩ : ∃ x, xs[i]? = some x := ⟨_, List.getElem?_eq_getElem (by rw [NX.out]; exact hlt)⟩
      have HXI : Hid (xs[i]? = some x) := hx
      obtain ⟨ga, oa, rfl, hga, hc⟩ := (HX.out.below HB.out) i x hx
      clear hx
      go_wp2_with fail
      refine Calls.mono (HF.out wr HB.out i hlt) ?_
      rintro e w1 ⟨rfl, hw⟩
      subst hw
      have hcl := pkK_len p xs i
      have hcn := pkK_len p xs (i + 1)
      have hcb := cnt_le p (i + 1)
      rw [HL.out] at hcl
      cases hp : p i with
      | true =>
        have HN : Hid (sv (pkK p xs (i + 1)) = sv (pkK p xs i) ++ [.string x]) := by show _ = _; rw [pkK_yes p xs i x HXI.out hp, sv_append]; rfl
        have HLn : Hid ((pkK p xs (i + 1)).length = m + 1) := by show _ = m + 1; rw [pkK_yes p xs i x HXI.out hp, List.length_append, HL.out]; rfl
        have hm1 : m + 1 ≤ 64 := by have := HLn.out; omega
        clear hcl hcn hcb hp
        go_wp2_with (at_builtin; refine wpList_append_own _ rfl _ _ 23 rfl w.heap.size 9 i0 (.string ⟨#[]⟩) 1 16 Try.underlying23 hi hz0 hz1 hz2 rfl (by decide) _ _ _ rfl (HO.out.alloc _) ⟨w1.heap.size, 0, none⟩ 1 1 [.string x] rfl rfl (news_one _ _ _) (one_str _) (by unfold maxLen; omega) (by omega) (by simp; omega) ?_)
        intro v' w7 hown1 hgrow _
        have HO7 : Hid (w7.ownsRow w.heap.size 9 1 v' (m + 1) (sv (pkK p xs (i + 1)))) := by
          show World.ownsRow _ _ _ _ _ _ _
          rw [HN.out]; exact hown1
        have HB7 : Hid (Below w.heap.size w w7) := apn_bel HB.out hzr HO.out hgrow
        clear hown1 hgrow HO HB
        go_wp2
        go_roundw
        case rel => exact ⟨i + 1, m + 1, by omega, by go_num, hm1, HLn.out, HO7.out, HB7.out⟩
        case measure => simp [intOf]; omega
      | false =>
        have HN : Hid (pkK p xs (i + 1) = pkK p xs i) := pkK_no p xs i hp
        have HO7 : Hid (w1.ownsRow w.heap.size 9 1 u5 m (sv (pkK p xs (i + 1)))) := by
          show World.ownsRow _ _ _ _ _ _ _
          rw [HN.out]; exact HO.out
        have HLn : Hid ((pkK p xs (i + 1)).length = m) := by show _ = m; rw [HN.out, HL.out]
        clear hcl hcn hcb hp
        go_wp2
        go_roundw
        case rel => exact ⟨i + 1, m, by omega, by go_num, hm, HLn.out, HO7.out, HB.out⟩
        case measure => simp [intOf]; omega
    · have hiz : ¬ (i : Int) < (n : Nat) := by omega
      have hin2 : i = n := by omega
      have HOn : Hid (wr.ownsRow w.heap.size 9 1 u5 (pkd p xs).length (sv (pkd p xs))) := by
        have h := HO.out
        rw [← HL.out, hin2, ← NX.out, pkK_all] at h
        exact h
      clear hin2
      go_wp2
      go_ret
      exact ⟨_, rfl, HOn.out, HB.out⟩
set_option maxHeartbeats 1000000 in
set_option maxRecDepth 100000 in
theorem picked2_any (a : Option Addr) (c n : Nat) (xs : List ByteArray) (p : Nat → Bool) (g1 g2 : Nat) (w : World) (hx : TxL w a xs) (nx : xs.length = n) (hn : n ≤ 64)
    (hf : ∀ W, Below w.heap.size w W → ∀ i : Nat, i < n → Calls Try.prog 25 #[.int .i64 i, .pointer (some ⟨g1, 0, none⟩), .pointer (some ⟨g2, 0, none⟩)] W fun e w' => e = .returned (.bool (p i)) ∧ w' = W) :
    Calls Try.prog 16 #[.slice a n c, .func (.func 25) #[] #[.pointer (some ⟨g1, 0, none⟩), .pointer (some ⟨g2, 0, none⟩)]] w fun e w' => ∃ v, e = .returned v ∧ w'.ownsRow w.heap.size 9 1 v (pkd p xs).length (sv (pkd p xs)) ∧ Below w.heap.size w w' := by
  have HX : Hid (TxL w a xs) := hx
  have NX : Hid (xs.length = n) := nx
  have HF : Hid _ := hf
  have hmk := make_cap n hn
  obtain ⟨i0, hi, hz0, hz1, hz2⟩ := info_parts inf_str
  clear hx nx hf
  have HO0 : Hid ((w.alloc (.cells (txc (List.replicate n (mkT []))) 9)).ownsRow w.heap.size 9 1 (.slice (some ⟨w.heap.size, 0, none⟩) 0 n) 0 []) := World.ownsRow_made (size := 1) w _ n (Nat.le_refl _) (by unfold maxLen; omega) (by rw [txc_size, List.length_replicate, Nat.mul_one])
  go_enter Try.func16, Try.ntmps16
  go_wp2_with fail
  go_loopw [5, 13] (fun v t wr => ∃ i m : Nat, i ≤ n ∧ t = .int .i64 i ∧ m ≤ 64 ∧ Hid ((pkK p xs i).length = m) ∧ Hid (wr.ownsRow w.heap.size 9 1 v m (sv (pkK p xs i))) ∧ Hid (Below w.heap.size w wr)) (fun _ t _ => n - (intOf t).toNat)
  case atStart => exact ⟨0, 0, by omega, rfl, by omega, rfl, HO0.out, (Below.refl _ _).alloc (Nat.le_refl _) _⟩
  case round =>
    clear HO0
    obtain ⟨i, m, hin, rfl, hm, HL, HO, HB⟩ := hrel
    have hzr : w.heap.size ≤ wr.heap.size := HB.out.size
    by_cases hlt : i < n
    · have hiz : (i : Int) < (n : Nat) := by omega
      obtain ⟨x, hx⟩ : ∃ x, xs[i]? = some x := ⟨_, List.getElem?_eq_getElem (by rw [NX.out]; exact hlt)⟩
      have HXI : Hid (xs[i]? = some x) := hx
      obtain ⟨ga, oa, rfl, hga, hc⟩ := (HX.out.below HB.out) i x hx
      clear hx
      go_wp2_with fail
      refine Calls.mono (HF.out wr HB.out i hlt) ?_
      rintro e w1 ⟨rfl, hw⟩
      subst hw
      have hcl := pkK_len p xs i
      have hcn := pkK_len p xs (i + 1)
      have hcb := cnt_le p (i + 1)
      rw [HL.out] at hcl
      cases hp : p i with
      | true =>
        have HN : Hid (sv (pkK p xs (i + 1)) = sv (pkK p xs i) ++ [.string x]) := by show _ = _; rw [pkK_yes p xs i x HXI.out hp, sv_append]; rfl
        have HLn : Hid ((pkK p xs (i + 1)).length = m + 1) := by show _ = m + 1; rw [pkK_yes p xs i x HXI.out hp, List.length_append, HL.out]; rfl
        have hm1 : m + 1 ≤ 64 := by have := HLn.out; omega
        clear hcl hcn hcb hp
        go_wp2_with (at_builtin; refine wpList_append_own _ rfl _ _ 23 rfl w.heap.size 9 i0 (.string ⟨#[]⟩) 1 16 Try.underlying23 hi hz0 hz1 hz2 rfl (by decide) _ _ _ rfl (HO.out.alloc _) ⟨w1.heap.size, 0, none⟩ 1 1 [.string x] rfl rfl (news_one _ _ _) (one_str _) (by unfold maxLen; omega) (by omega) (by simp; omega) ?_)
        intro v' w7 hown1 hgrow _
        have HO7 : Hid (w7.ownsRow w.heap.size 9 1 v' (m + 1) (sv (pkK p xs (i + 1)))) := by
          show World.ownsRow _ _ _ _ _ _ _
          rw [HN.out]; exact hown1
        have HB7 : Hid (Below w.heap.size w w7) := apn_bel HB.out hzr HO.out hgrow
        clear hown1 hgrow HO HB
        go_wp2
        go_roundw
        case rel => exact ⟨i + 1, m + 1, by omega, by go_num, hm1, HLn.out, HO7.out, HB7.out⟩
        case measure => simp [intOf]; omega
      | false =>
        have HN : Hid (pkK p xs (i + 1) = pkK p xs i) := pkK_no p xs i hp
        have HO7 : Hid (w1.ownsRow w.heap.size 9 1 u5 m (sv (pkK p xs (i + 1)))) := by
          show World.ownsRow _ _ _ _ _ _ _
          rw [HN.out]; exact HO.out
        have HLn : Hid ((pkK p xs (i + 1)).length = m) := by show _ = m; rw [HN.out, HL.out]
        clear hcl hcn hcb hp
        go_wp2
        go_roundw
        case rel => exact ⟨i + 1, m, by omega, by go_num, hm, HLn.out, HO7.out, HB.out⟩
        case measure => simp [intOf]; omega
    · have hiz : ¬ (i : Int) < (n : Nat) := by omega
      have hin2 : i = n := by omega
      have HOn : Hid (wr.ownsRow w.heap.size 9 1 u5 (pkd p xs).length (sv (pkd p xs))) := by
        have h := HO.out
        rw [← HL.out, hin2, ← NX.out, pkK_all] at h
        exact h
      clear hin2
      go_wp2
      go_ret
      exact ⟨_, rfl, HOn.out, HB.out⟩
end Go.Proofs.Ytblmblbkfdcbjab
