/- The document's Join; Less. -/
import Derived.Test.YtmkmhbbpbpkdjaaDoorN10
import Derived.Test.YtmkmhbbpbpkdjaaDoorN3
namespace Go.Proofs.YtmkmhbbpbpkdjaaDoor
open Go.RowKit
set_option linter.unusedSimpArgs false
set_option linter.unusedVariables false
/-- Each with a stroke ahead. -/
def strk (xs : List ByteArray) : List UInt8 := xs.flatMap fun x => 47 :: x.data.toList
theorem strk_join : ∀ xs : List ByteArray, xs ≠ [] → strk xs = 47 :: Lib.join (xs.map (·.data.toList)) [47]
  | [], h => absurd rfl h
  | x :: r, _ => by
    rw [List.map_cons, Lib.join_cons]
    show (47 :: x.data.toList) ++ strk r = _
    have : ∀ l : List ByteArray, strk l = Lib.joinTail [47] (l.map (·.data.toList)) := by
      intro l
      induction l with
      | nil => rfl
      | cons y l ih =>
        show (47 :: y.data.toList) ++ strk l = _
        rw [ih]
        simp [Lib.joinTail]
    rw [this]
    simp
theorem strk_len : ∀ xs : List ByteArray, (∀ x ∈ xs, x.size ≤ 255) → (strk xs).length ≤ 256 * xs.length
  | [], _ => by simp [strk]
  | x :: r, h => by
    have h1 := h x (by simp)
    have h2 := strk_len r (fun y hy => h y (by simp [hy]))
    show ((47 :: x.data.toList) ++ strk r).length ≤ _
    rw [List.length_append, List.length_cons, data_len, List.length_cons]
    omega
set_option maxHeartbeats 1000000 in
set_option maxRecDepth 100000 in
theorem rJoin_any (a0 : Option Addr) (cap : Nat) (xs : List ByteArray) (w : World) (hL : LieL w a0 xs) (hx : ∀ x ∈ xs, x.size ≤ 140737488351232) (hn : xs.length ≤ 4611686018427387904) (hT : U8 w) :
    Calls Tryd.prog 22 #[.slice a0 xs.length cap] w fun e w' => e = .returned (.tuple #[.string (jnS xs), .int .i64 (jnE xs)]) ∧ Below w.heap.size w w' := by
  have HL : Hid (LieL w a0 xs) := hL
  have HX : Hid (∀ x ∈ xs, x.size ≤ 140737488351232) := hx
  have HT : Hid (U8 w) := hT
  have HBAD : Hid (okP xs = false → (Ending.returned (.tuple #[.string ⟨#[]⟩, .int .i64 (10 : Int)]) : Ending) = .returned (.tuple #[.string (jnS xs), .int .i64 (jnE xs)])) := fun h => by simp [jnS, jnE, h]
  clear hL hx hT
  by_cases h16 : (16 : Int) < (xs.length : Nat)
  · go_enter Tryd.func22, Tryd.ntmps22
    go_wp2
    go_ret2
    exact ⟨HBAD.out (by simp [okP]; omega), Below.refl _ _⟩
  · go_enter Tryd.func22, Tryd.ntmps22
    go_wp2_with fail
    go_loopw [4, 5] (fun z v wr => ∃ (k : Nat) (y : ByteArray), z = .string y ∧ v = .int .i64 k ∧ k ≤ xs.length ∧ Hid (Below w.heap.size w wr) ∧ Hid (∀ x ∈ xs.take k, okN x.data.toList = true) ∧ Hid (y.data.toList = strk (xs.take k))) (fun _ v _ => xs.length - (intOf v).toNat)
    case atStart => exact ⟨0, ⟨#[]⟩, rfl, rfl, Nat.zero_le _, Below.refl _ _, fun x hx => (by simp at hx), rfl⟩
    case round =>
      obtain ⟨k, y, rfl, rfl, hk, HB, HO, HY⟩ := hrel
      have hyz : y.size ≤ 256 * k := by
        have := strk_len (xs.take k) (fun x hx => by have := (okN_split (HO.out x hx)).1; rwa [data_len] at this)
        rw [← HY.out, data_len, List.length_take] at this
        omega
      by_cases hlt : k < xs.length
      · obtain ⟨x, hx⟩ : ∃ x, xs[k]? = some x := ⟨xs[k], List.getElem?_eq_getElem hlt⟩
        obtain ⟨b, off, rfl, hb, hc⟩ := HL.out k x hx
        have hcr : wr.cell? ⟨b, off + k, none⟩ = some (.string x) := by rw [HB.out.cell (p := ⟨b, off + k, none⟩) hb]; exact hc
        have HX1 : Hid (xs[k]? = some x) := hx
        have hxz : x.size ≤ 140737488351232 := HX.out x (List.mem_of_getElem? hx)
        clear hc hx
        have hwz : w.heap.size ≤ wr.heap.size := HB.out.size
        have hck := rcheck_any x wr (HT.out.below HB.out)
        cases ho : okN x.data.toList with
        | true =>
          have e0 : rnE x.data.toList = 0 := by simp [rnE, ho]
          rw [e0] at hck
          have HOX : Hid (okN x.data.toList = true) := ho
          clear e0 ho
          have b1 : ¬ 9223372036854775807 < y.size + 1 := by omega
          have b2 : ¬ 9223372036854775807 < y.size + 1 + x.size := by omega
          go_wp2_with (go_at_call 31; refine hck.mono ?_; rintro e w1 ⟨rfl, hb1⟩; have HB1 : Hid (Below wr.heap.size wr w1) := hb1; clear hb1; have hc1 : w1.cell? ⟨b, off + k, none⟩ = some (.string x) := by rw [HB1.out.cell (p := ⟨b, off + k, none⟩) (Nat.lt_of_lt_of_le hb hwz)]; exact hcr)
          go_roundw
          case rel =>
            have htk : xs.take (k + 1) = xs.take k ++ [x] := by rw [List.take_add_one, HX1.out]; rfl
            refine ⟨k + 1, y ++ ⟨#[47]⟩ ++ x, rfl, by go_num, by omega, HB.out.trans (HB1.out.mono hwz), fun z hz => ?_, ?_⟩
            · rw [htk] at hz
              rcases List.mem_append.1 hz with h | h
              · exact HO.out z h
              · simp at h; subst h; exact HOX.out
            · show (y ++ (⟨#[47]⟩ : ByteArray) ++ x).data.toList = strk (xs.take (k + 1))
              rw [htk]
              have : strk (xs.take k ++ [x]) = strk (xs.take k) ++ (47 :: x.data.toList) := by simp [strk]
              rw [this, ← HY.out]
              simp
          case measure => simp [intOf]; omega
        | false =>
          have e0 : rnE x.data.toList = 10 := by simp [rnE, ho]
          rw [e0] at hck
          have HOX : Hid (okN x.data.toList = false) := ho
          clear e0 ho
          go_wp2_with (go_at_call 31; refine hck.mono ?_; rintro e w1 ⟨rfl, hb1⟩; have HB1 : Hid (Below wr.heap.size wr w1) := hb1; clear hb1)
          go_ret2
          refine ⟨HBAD.out (Bool.eq_false_iff.2 fun h => ?_), HB.out.trans (HB1.out.mono hwz)⟩
          simp only [okP, Bool.and_eq_true, List.all_eq_true] at h
          have := h.2 x (List.mem_of_getElem? HX1.out)
          rw [HOX.out] at this; cases this
      · have hkn : k = xs.length := by omega
        have HOK : Hid (okP xs = true) := by
          show okP xs = true
          simp only [okP, Bool.and_eq_true, List.all_eq_true, decide_eq_true_eq]
          refine ⟨by omega, fun x hx => HO.out x ?_⟩
          rw [hkn, List.take_length]; exact hx
        have HYS : Hid (y.data.toList = strk xs) := by
          show y.data.toList = _
          rw [HY.out, hkn, List.take_length]
        clear HY HO hkn
        by_cases hxs : xs = []
        · subst hxs
          have hy0 : y = ⟨#[]⟩ := by rw [← mkB_of y, HYS.out]; rfl
          subst hy0
          go_wp2
          go_ret2
          refine ⟨?_, HB.out⟩
          rfl
        · have hye : (y.toList == []) = false := by
            rw [Lib.toList_data, HYS.out, strk_join xs hxs]; rfl
          go_wp2
          go_ret2
          refine ⟨?_, HB.out⟩
          have : y = mkB (47 :: Lib.join (xs.map (·.data.toList)) [47]) := by rw [← strk_join xs hxs, ← HYS.out, mkB_of]
          simp [jnS, jnE, HOK.out, this]
end Go.Proofs.YtmkmhbbpbpkdjaaDoor
