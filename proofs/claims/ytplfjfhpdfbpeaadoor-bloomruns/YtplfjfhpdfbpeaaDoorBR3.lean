/- The document's Places. -/
import Derived.Test.YtplfjfhpdfbpeaaDoorBR2
import Derived.Test.YtplfjfhpdfbpeaaDoorBQ3
import Derived.Test.YtplfjfhpdfbpeaaDoorM3
namespace Go.Proofs.YtplfjfhpdfbpeaaDoor
open Go.RowKit
set_option linter.unusedSimpArgs false
set_option linter.unusedVariables false
theorem inf_i14 : (Tryd.prog.info? 3).map (fun i => (i.zero, i.size, i.bytes)) = some (some (.int .i64 0), 1, 8) := by kernel_rfl
/-- Numbers as cells. -/
def ivN (l : List Nat) : List Value := l.map fun x : Nat => Value.int .i64 (x : Int)
theorem ivN_append (a b : List Nat) : ivN (a ++ b) = ivN a ++ ivN b := by simp [ivN]
/-- Numbers of a slice. -/
def NlL (w : World) (a : Option Addr) (xs : List Nat) : Prop :=
  ∀ (i x : Nat), xs[i]? = some x → ∃ g o, a = some ⟨g, o, none⟩ ∧ g < w.heap.size ∧ w.cell? ⟨g, o + i, none⟩ = some (.int .i64 (x : Int))
theorem NlL.below {w w' : World} {a : Option Addr} {xs : List Nat} (h : NlL w a xs) (hb : Below w.heap.size w w') : NlL w' a xs := by
  intro i x hx
  obtain ⟨g, o, e, hg, hc⟩ := h i x hx
  exact ⟨g, o, e, Nat.lt_of_lt_of_le hg hb.size, by rw [hb.cell (p := ⟨g, o + i, none⟩) hg]; exact hc⟩
theorem own_nl {w : World} {B : Nat} {v : Value} {xs : List Nat} {e : TypeId} (h : w.ownsRow B e 1 v xs.length (ivN xs)) : ∃ a c, v = .slice a xs.length c ∧ NlL w a xs ∧ (∀ b o s, a = some ⟨b, o, s⟩ → B ≤ b) := by
  rcases h.2 with ⟨rfl, h0⟩ | ⟨g, cap, cur, rfl, hle, hg, hn, _, hc, ht⟩
  · have : xs = [] := List.eq_nil_of_length_eq_zero h0
    subst this
    exact ⟨none, 0, rfl, fun i c hc => by simp at hc, fun b o s e => by cases e⟩
  · refine ⟨some ⟨g, 0, none⟩, cap, rfl, fun i c hi => ⟨g, 0, rfl, (Array.getElem?_eq_some_iff.1 hg).1, ?_⟩, fun b o s e => by cases e; exact hle⟩
    have hl : i < xs.length := (List.getElem?_eq_some_iff.1 hi).1
    have e := congrArg (·[i]?) ht
    rw [Nat.mul_one] at e
    simp only [List.getElem?_take, if_pos hl, ivN, List.getElem?_map, hi, Option.map_some] at e
    simp only [World.cell?, hg, Nat.zero_add]
    rw [← Array.getElem?_toList]; exact e
theorem one_i14 (n : Int) : ∀ u ∈ [Value.int .i64 n], u.oneCell' = true := by
  intro u hu
  simp at hu
  subst hu; rfl
/-- The places of a name. -/
def plL (n : Nat) (x : ByteArray) (k : Nat) : List Nat := (List.range k).map (plc n x)
theorem plL_len (n : Nat) (x : ByteArray) (k : Nat) : (plL n x k).length = k := by simp [plL]
theorem plL_succ (n : Nat) (x : ByteArray) (k : Nat) : plL n x (k + 1) = plL n x k ++ [plc n x k] := by simp [plL, List.range_succ]
theorem plL_get (n : Nat) (x : ByteArray) (k i : Nat) (hi : i < k) : (plL n x k)[i]? = some (plc n x i) := by simp [plL, hi]
/-- The number in the first bytes of four. -/
def pnK (x : ByteArray) (i : Nat) : Nat → Nat
  | 0 => 0
  | j + 1 => 256 * pnK x i j + (byl x).getD (4 * i + j) 0
theorem pnK_lt (x : ByteArray) (i : Nat) : ∀ j, pnK x i j < 256 ^ j
  | 0 => by simp [pnK]
  | j + 1 => by
    have h1 := pnK_lt x i j
    have h2 := byl_lt14 x (4 * i + j)
    rw [pnK, Nat.pow_succ]; omega
theorem pnK_four (x : ByteArray) (i : Nat) : pnK x i 4 = pnum x i := by simp only [pnK, pnum, Nat.mul_zero, Nat.zero_add, Nat.add_zero]; omega
theorem pnK_le {x : ByteArray} {i j : Nat} (h : j < 4) : pnK x i j < 16777216 := by
  have := pnK_lt x i j
  have h3 : 256 ^ j ≤ 256 ^ 3 := Nat.pow_le_pow_right (by omega) (by omega)
  omega
set_option maxHeartbeats 2000000 in
set_option maxRecDepth 100000 in
theorem rplaces_any (x : ByteArray) (n k : Nat) (w : World) (hx : x.size = 32) (ho : okF n k) :
    Calls Tryd.prog 34 #[.agg (idc x), .int .i64 (n : Int), .int .i64 (k : Int)] w fun e w' => ∃ a c, e = .returned (.slice a k c) ∧ NlL w' a (plL n x k) ∧ Below w.heap.size w w' ∧ (∀ b o s, a = some ⟨b, o, s⟩ → w.heap.size ≤ b) := by
  have HX : Hid (x.size = 32) := hx
  have h1 := okF_pos ho
  have h2 := okF_le ho
  have h3 := ho.2.2
  have HB0 : Hid (Below w.heap.size w (w.alloc (.cells (idc x) 36)) ∧ Bk (w.alloc (.cells (idc x) 36)) w.heap.size (idc x) 36) := ⟨(Below.refl _ _).alloc (Nat.le_refl _) _, bk_new _ _ _⟩
  have hsz := al_size w (.cells (idc x) 36)
  obtain ⟨D, hD⟩ : ∃ D, idc x = D := ⟨_, rfl⟩
  have HD : Hid (idc x = D) := hD
  rw [hD] at HB0 hsz ⊢
  obtain ⟨i0, hi, hz0, hz1, hz2⟩ := info_parts inf_i14
  clear hx ho hD
  go_enter Tryd.func34, Tryd.ntmps34
  go_wp2
  go_loopw [7, 8] (fun v t wr => ∃ i : Nat, i ≤ k ∧ t = .int .i64 i ∧ Hid (wr.ownsRow (w.heap.size + 1) 3 1 v i (ivN (plL n x i)) ∧ Below (w.heap.size + 1) (w.alloc (.cells D 36)) wr ∧ w.heap.size + 1 ≤ wr.heap.size)) (fun _ t _ => k - (intOf t).toNat)
  case atStart => exact ⟨0, Nat.zero_le _, rfl, World.ownsRow_nil _ _ _ _, Below.refl _ _, by rw [hsz]; exact Nat.le_refl _⟩
  case round =>
    obtain ⟨i, hik, rfl, HW⟩ := hrel
    by_cases hlt : i < k
    · have hltz : (i : Int) < (k : Int) := by omega
      go_wp2
      go_loopw [9, 10] (fun v t W => ∃ j N : Nat, j ≤ 4 ∧ t = .int .i64 j ∧ v = .int .i64 N ∧ Hid (N = pnK x i j) ∧ W = wr) (fun _ t _ => 4 - (intOf t).toNat)
      case atStart => exact ⟨0, 0, by omega, rfl, rfl, rfl, rfl⟩
      case round =>
        obtain ⟨j, N, hj, rfl, rfl, HN, rfl⟩ := hrel
        by_cases hj4 : j < 4
        · have hN : N < 16777216 := by rw [HN.out]; exact pnK_le hj4
          have HB : Hid (Bk wr w.heap.size (idc x) 36) := by rw [HD.out]; exact HB0.out.2.below HW.out.2.1 (by omega)
          have hc := idc_cell HB.out HX.out (4 * i + j) (by omega)
          have hb8 := byl_lt14 x (4 * i + j)
          have HN2 : Hid (256 * N + (byl x).getD (4 * i + j) 0 = pnK x i (j + 1)) := by show _ = _; rw [pnK, HN.out]
          obtain ⟨B, hB⟩ : ∃ B, (byl x).getD (4 * i + j) 0 = B := ⟨_, rfl⟩
          rw [hB] at hc hb8 HN2
          clear hB HB
          go_wp2
          go_roundw
          case rel => exact ⟨j + 1, 256 * N + B, by omega, by go_num, by go_num, HN2.out, trivial⟩
          case measure => simp [intOf]; omega
        · have HN2 : Hid (N % n = plc n x i) := by
            have e : j = 4 := by omega
            subst e
            show _ = _
            rw [HN.out, pnK_four]; rfl
          obtain ⟨Q, hQ⟩ : ∃ Q, N % n = Q := ⟨_, rfl⟩
          rw [hQ] at HN2
          have hqz : (N : Int) % (n : Int) = (Q : Int) := by rw [← hQ]; exact (Int.natCast_emod _ _).symm
          have hqt : (N : Int).tmod (n : Int) = (Q : Int) := by rw [Int.tmod_eq_emod_of_nonneg (by omega)]; exact hqz
          have hQn : Q < n := by rw [← hQ]; exact Nat.mod_lt _ (by omega)
          have hn0 : ((n : Int) == 0) = false := by rw [beq_eq_false_iff_ne]; omega
          have hzr := HW.out.2.2
          clear hQ
          have HC1 : Hid (∀ (j : Nat) (u : Value), [Value.int .i64 (Q : Int)][j]? = some u → (wr.alloc (.cells #[Value.int .i64 (Q : Int)] 3)).cell? ((⟨wr.heap.size, 0, none⟩ : Addr).add j) = some u) := news_one _ _ _
          go_wp2_with (at_builtin; refine wpList_append_own _ rfl _ _ 27 rfl (w.heap.size + 1) 3 i0 (.int .i64 0) 1 8 Tryd.underlying27 hi hz0 hz1 hz2 rfl (by decide) _ _ _ rfl (HW.out.1.alloc _) ⟨wr.heap.size, 0, none⟩ 1 1 [.int .i64 (Q : Int)] rfl rfl HC1.out (one_i14 _) (by unfold maxLen; omega) (by omega) (by simp; omega) ?_)
          intro v' w7 hown1 hgrow _
          have HO7 : Hid (w7.ownsRow (w.heap.size + 1) 3 1 v' (i + 1) (ivN (plL n x (i + 1))) ∧ Below (w.heap.size + 1) (w.alloc (.cells D 36)) w7 ∧ w.heap.size + 1 ≤ w7.heap.size) := by
            have hb := apn_bel HW.out.2.1 hzr HW.out.1 hgrow
            refine ⟨?_, hb, by have := hb.size; rw [hsz] at this; exact this⟩
            rw [plL_succ, ivN_append, ← HN2.out]; exact hown1
          clear hown1 hgrow HC1 HW
          go_wp2
          go_roundw
          case rel => exact ⟨i + 1, by omega, by go_num, HO7.out⟩
          case measure => simp [intOf]; omega
    · obtain rfl : i = k := by omega
      obtain ⟨a, c, hv, hnl, hlo⟩ := own_nl (xs := plL n x i) (by rw [plL_len]; exact HW.out.1)
      rw [plL_len] at hv
      have HE : Hid (NlL wr a (plL n x i) ∧ (∀ b o s, a = some ⟨b, o, s⟩ → w.heap.size ≤ b) ∧ Below w.heap.size w wr) := ⟨hnl, fun b o s e => by have := hlo b o s e; omega, HB0.out.1.trans (HW.out.2.1.mono (by omega))⟩
      subst hv
      clear hnl hlo
      go_wp2
      go_ret
      exact ⟨a, c, rfl, HE.out.1, HE.out.2.2, HE.out.2.1⟩
end Go.Proofs.YtplfjfhpdfbpeaaDoor
