/- The Go library's FormatUint and FormatInt at base 16: trailing zeros of 16, formatBits. -/
import Derived.Test.YtobecfeelamlmaaDoorN1
import Derived.Test.YtobecfeelamlmaaDoorP17
import Derived.Deep.RegionHeld3
import Derived.OwnWalk
import Derived.Lib.Zigzag
namespace Go.Proofs.YtobecfeelamlmaaDoor
open Go.RowKit
set_option linter.unusedSimpArgs false
set_option linter.unusedVariables false
/-- The listed table of trailing zeros, where it is read. -/
def Tz (w : World) : Prop := w.cell? ⟨7, 15, none⟩ = some (.int .u8 4) ∧ 7 < w.heap.size
set_option maxRecDepth 100000 in
theorem tz64 (w : World) (h : Tz w) : Calls Tryd.prog 87 #[.int .u64 16] w fun e w' => e = .returned (.int .i64 4) ∧ w' = w := by
  have h1 := h.1
  have hb : IntKind.u64.wrap (bits .and .u64 16 (IntKind.u64.wrap (-16)) * 285870213051353865) / 288230376151711744 = 15 := by decide +kernel
  go_enter Tryd.func87, Tryd.ntmps87
  go_wp2
  go_ret
  exact ⟨rfl, rfl⟩
set_option maxRecDepth 100000 in
theorem tz (w : World) (h : Tz w) : Calls Tryd.prog 75 #[.int .u64 16] w fun e w' => e = .returned (.int .i64 4) ∧ w' = w := by
  go_enter Tryd.func75, Tryd.ntmps75
  go_wp2_with fail
  refine (tz64 w h).mono ?_
  rintro e w1 ⟨rfl, rfl⟩
  go_wp2
  go_ret
  exact ⟨rfl, rfl⟩
theorem pow2 (w : World) : Calls Tryd.prog 74 #[.int .i64 16] w fun e w' => e = .returned (.bool true) ∧ w' = w := by
  go_enter Tryd.func74, Tryd.ntmps74
  go_wp2
  go_ret
  exact ⟨rfl, rfl⟩
/-- What lies in formatBits's array: the digits behind v. -/
def Hd (n v k : Nat) (m : List UInt8) (arr : Array Value) : Prop :=
  arr.size = 65 ∧ m.length = k ∧ (∀ j, j < 65 → ∃ z, arr[j]? = some (.int .u8 z)) ∧ (∀ j, j < k → arr[65 - k + j]? = some (.int .u8 ((m.getD j 0).toNat : Int))) ∧ hx n = hx v ++ m
theorem and15 (v : Nat) (h : v < 18446744073709551616) : bits .and .u64 (v : Int) 15 = ((v % 16 : Nat) : Int) := by
  have h := bits_mask .u64 64 (by decide) wraps_u64 4 (by decide) (v : Int) (by omega) (by omega)
  have e : ((v % 16 : Nat) : Int) = (v : Int) % 16 := by omega
  rw [e]
  simpa using h
theorem dig_get (i : Nat) (h : i < 16) (h2 : i < (⟨#[48, 49, 50, 51, 52, 53, 54, 55, 56, 57, 97, 98, 99, 100, 101, 102, 103, 104, 105, 106, 107, 108, 109, 110, 111, 112, 113, 114, 115, 116, 117, 118, 119, 120, 121, 122]⟩ : ByteArray).size) : ((⟨#[48, 49, 50, 51, 52, 53, 54, 55, 56, 57, 97, 98, 99, 100, 101, 102, 103, 104, 105, 106, 107, 108, 109, 110, 111, 112, 113, 114, 115, 116, 117, 118, 119, 120, 121, 122]⟩ : ByteArray)[i]'h2) = hxd i := by
  have e : ∀ j : Fin 16, (⟨#[48, 49, 50, 51, 52, 53, 54, 55, 56, 57, 97, 98, 99, 100, 101, 102, 103, 104, 105, 106, 107, 108, 109, 110, 111, 112, 113, 114, 115, 116, 117, 118, 119, 120, 121, 122]⟩ : ByteArray).data[j.val]? = some (hxd j.val) := by decide +kernel
  have := e ⟨i, h⟩
  simp only at this
  rw [Array.getElem?_eq_getElem (by exact h2)] at this
  exact Option.some.inj this
theorem hd_put {k : Nat} {m : List UInt8} {arr : Array Value} {b : Int} (d : UInt8) (hk : k ≤ 7) (hs : arr.size = 65) (hm : m.length = k) (h3 : ∀ j, j < 65 → ∃ z, arr[j]? = some (.int .u8 z))
    (h4 : ∀ j, j < k → arr[65 - k + j]? = some (.int .u8 ((m.getD j 0).toNat : Int))) (hb : b = (d.toNat : Int)) :
    (arr.setIfInBounds (65 - k - 1) (.int .u8 b)).size = 65 ∧ (d :: m).length = k + 1 ∧ (∀ j, j < 65 → ∃ z, (arr.setIfInBounds (65 - k - 1) (.int .u8 b))[j]? = some (.int .u8 z)) ∧
      (∀ j, j < k + 1 → (arr.setIfInBounds (65 - k - 1) (.int .u8 b))[65 - (k + 1) + j]? = some (.int .u8 (((d :: m).getD j 0).toNat : Int))) := by
  refine ⟨by simp [hs], by simp [hm], fun j hj => ?_, fun j hj => ?_⟩
  · rw [Array.getElem?_setIfInBounds]
    split
    · exact ⟨b, by simp [hs]; omega⟩
    · exact h3 j hj
  · rw [Array.getElem?_setIfInBounds]
    cases j with
    | zero => rw [if_pos (by omega), if_pos (by omega), hb]; rfl
    | succ j => rw [if_neg (by omega), show 65 - (k + 1) + (j + 1) = 65 - k + j from by omega, h4 j (by omega)]; rfl
theorem hd_next {n v k : Nat} {m : List UInt8} {arr : Array Value} {b : Int} (h : Hd n v k m arr) (hk : k ≤ 7) (hv : 16 ≤ v) (hb : b = ((hxd (v % 16)).toNat : Int)) :
    Hd n (v / 16) (k + 1) (hxd (v % 16) :: m) (arr.setIfInBounds (65 - k - 1) (.int .u8 b)) := by
  obtain ⟨h1, h2, h3, h4, h5⟩ := h
  obtain ⟨a1, a2, a3, a4⟩ := hd_put (hxd (v % 16)) hk h1 h2 h3 h4 hb
  refine ⟨a1, a2, a3, a4, ?_⟩
  rw [h5, hx_big (n := v) (by omega)]
  simp
theorem hd_last {n v k : Nat} {m : List UInt8} {arr : Array Value} {b : Int} (h : Hd n v k m arr) (hk : k ≤ 7) (hv : v < 16) (hb : b = ((hxd v).toNat : Int)) :
    (hx n).length = k + 1 ∧ ∀ j, j < k + 1 → (arr.setIfInBounds (65 - k - 1) (.int .u8 b))[65 - k - 1 + j]? = some (.int .u8 (((hx n).getD j 0).toNat : Int)) := by
  obtain ⟨h1, h2, h3, h4, h5⟩ := h
  obtain ⟨a1, a2, a3, a4⟩ := hd_put (hxd v) hk h1 h2 h3 h4 hb
  rw [h5, hx_small hv]
  exact ⟨a2, fun j hj => by have := a4 j hj; rw [show 65 - (k + 1) = 65 - k - 1 from by omega] at this; exact this⟩
theorem sizeOf_u8n (w : World) : (sizeOf 5).run Tryd.prog w = .ok 1 w := by
  kernel_rfl
theorem slice65 (g k : Nat) (w : World) (hk : k ≤ 7) :
    (Instr.sliceAt 104 (.pointer (some ⟨g, 0, none⟩)) (some (.int .i64 (((65 - k : Nat) : Int) - 1))) none none).run Tryd.prog w = .ok (.slice (some ⟨g, 65 - k - 1, none⟩) (k + 1) (k + 1)) w := by
  have e1 : Tryd.prog.elem 104 = 5 := by kernel_rfl
  have e2 : Tryd.prog.arrayLen 104 = 65 := by kernel_rfl
  have e0 : Tryd.prog.underlying 104 = some (.array (Tryd.prog.arrayLen 104) (Tryd.prog.elem 104)) := by kernel_rfl
  rw [run_sliceAt_array_l (P := Tryd.prog) w 104 ⟨g, 0, none⟩ e0 .i64 (((65 - k : Nat) : Int) - 1) (by omega) (by rw [e2]; omega)]
  rw [e1, e2, sizeOf_u8n]
  simp only [slicedAt, Result.andThen, Addr.add_mid]
  rw [show (((65 - k : Nat) : Int) - 1).toNat = 65 - k - 1 from by omega]
  have e3 : ¬ 65 = 65 - k - 1 := by omega
  have e4 : 65 - (65 - k - 1) = k + 1 := by omega
  simp only [Nat.mul_one, e3, e4, if_false, Nat.zero_add]
theorem nums_u8 (l : List UInt8) : strOfNums (l.map fun b => (b.toNat : Int)) = ⟨l.toArray⟩ := by
  unfold strOfNums
  rw [List.map_map]
  congr 2
  conv => rhs; rw [← List.map_id l]
  apply List.map_congr_left
  intro x _
  simp
theorem conv_last {n v k : Nat} {m : List UInt8} {arr : Array Value} {b : Int} (w : World) (h : Hd n v k m arr) (hk : k ≤ 7) (hv : v < 16) (hb : b = ((hxd v).toNat : Int)) :
    (convert 37 9 (.slice (some ⟨w.heap.size, 65 - k - 1, none⟩) (k + 1) (k + 1))).run Tryd.prog (w.alloc (.cells (arr.setIfInBounds (65 - k - 1) (.int .u8 b)) 104)) =
      .ok (.string ⟨(hx n).toArray⟩) (w.alloc (.cells (arr.setIfInBounds (65 - k - 1) (.int .u8 b)) 104)) := by
  obtain ⟨h1, h2⟩ := hd_last h hk hv hb
  rw [← nums_u8]
  refine run_convert_bytes_arg _ 37 5 Tryd.underlying37 Tryd.underlying5 _ _ _ _ _ (by simp [h1]) (fun i hi => ?_) 9 Tryd.underlying9
  rw [World.cell?_alloc_new, h2 i hi, List.getD, List.getD, List.getElem?_map, List.getElem?_eq_getElem (by omega)]
  rfl
set_option maxRecDepth 100000 in
theorem bits_hex (n : Nat) (w : World) (hn : n < 4294967296) (h : Tz w) :
    Calls Tryd.prog 58 #[.slice none 0 0, .int .u64 n, .int .i64 16, .bool false, .bool false] w fun e w' => e = .returned (.tuple #[.slice none 0 0, .string ⟨(hx n).toArray⟩]) ∧ Below w.heap.size w w' := by
  have HT : Hid (Tz w) := h
  clear h
  go_enter Tryd.func58, Tryd.ntmps58
  go_wp2_with fail
  refine (pow2 _).mono ?_
  rintro e w1 ⟨rfl, rfl⟩
  go_wp2_with fail
  refine (tz _ ⟨by rw [World.cell?_alloc_lt _ _ _ HT.out.2]; exact HT.out.1, by have := HT.out.2; simp; omega⟩).mono ?_
  rintro e w1 ⟨rfl, rfl⟩
  go_wp2
  go_loopw [1, 13] (fun u i wr => ∃ (k v : Nat) (m : List UInt8) (arr : Array Value), k ≤ 7 ∧ v < 16 ^ (8 - k) ∧ u = .int .u64 v ∧ i = .int .i64 ((65 - k : Nat) : Int) ∧ wr = w.alloc (.cells arr 104) ∧ Hid (Hd n v k m arr)) (fun u _ _ => (intOf u).toNat)
  case atStart =>
    refine ⟨0, n, [], _, by omega, by omega, rfl, rfl, rfl, ⟨rfl, rfl, fun j hj => ⟨0, ?_⟩, fun j hj => by omega, by simp⟩⟩
    rw [show Tryd.zeroCells104 = Array.replicate 65 (.int .u8 0) from by kernel_rfl, Array.getElem?_replicate, if_pos hj]
  case round =>
    obtain ⟨k, v, m, arr, hk, hv, rfl, rfl, rfl, HR⟩ := hrel
    by_cases hlt : 16 ≤ v
    · have ha := and15 v (by have : 16 ^ (8 - k) ≤ 16 ^ 8 := Nat.pow_le_pow_right (by omega) (by omega); omega)
      have hk6 : k ≤ 6 := by
        rcases Nat.lt_or_ge k 7 with h | h
        · omega
        · have : k = 7 := by omega
          subst this
          omega
      obtain ⟨z, hz⟩ := HR.out.2.2.1 (65 - k - 1) (by omega)
      have hzs := HR.out.1
      have hi : wrap64 (((65 - k : Nat) : Int) - 1) = ((65 - (k + 1) : Nat) : Int) := by unfold wrap64; omega
      go_wp2
      refine ⟨⟨k + 1, v / 16, _, _, by omega, ?_, by congr 1, by congr 1; omega, rfl, hd_next HR.out hk hlt ?_⟩, by simp only [intOf]; omega⟩
      · rw [Nat.div_lt_iff_lt_mul (by omega), ← Nat.pow_succ, show (8 - (k + 1)).succ = 8 - k from by omega]
        exact hv
      · rw [dig_get _ (by omega)]
    · have hzs := HR.out.1
      obtain ⟨z, hz⟩ := HR.out.2.2.1 (65 - k - 1) (by omega)
      have hi : wrap64 (((65 - k : Nat) : Int) - 1) = ((65 - (k + 1) : Nat) : Int) := by unfold wrap64; omega
      have hsl := fun W : World => slice65 w.heap.size k W hk
      go_wp2
      rw [conv_last w HR.out hk (by omega) (by rw [dig_get _ (by omega)])]
      go_wp2
      go_ret2
      exact ⟨rfl, (Below.refl _ w).alloc (Nat.le_refl _) _⟩
theorem Tz.below {w w' : World} {b : Nat} (h : Tz w) (hb : Below b w w') (hlt : 7 < b) : Tz w' := by
  refine ⟨?_, by have := hb.size; have := h.2; omega⟩
  rw [hb.cell (p := ⟨7, 15, none⟩) hlt]
  exact h.1
set_option maxRecDepth 100000 in
theorem ifmtU (n : Nat) (w : World) (hn : n < 4294967296) (h : Tz w) :
    Calls Tryd.prog 44 #[.int .u64 n, .int .i64 16] w fun e w' => e = .returned (.string ⟨(hx n).toArray⟩) ∧ Below w.heap.size w w' := by
  go_enter Tryd.func44, Tryd.ntmps44
  go_wp2_with fail
  refine (bits_hex n w hn h).mono ?_
  rintro e w1 ⟨rfl, hb⟩
  go_wp2
  go_ret
  exact ⟨rfl, hb⟩
set_option maxRecDepth 100000 in
theorem ifmtI (n : Nat) (w : World) (hn : n < 4294967296) (h : Tz w) :
    Calls Tryd.prog 46 #[.int .i64 n, .int .i64 16] w fun e w' => e = .returned (.string ⟨(hx n).toArray⟩) ∧ Below w.heap.size w w' := by
  go_enter Tryd.func46, Tryd.ntmps46
  go_wp2_with fail
  refine (bits_hex n w hn h).mono ?_
  rintro e w1 ⟨rfl, hb⟩
  go_wp2
  go_ret
  exact ⟨rfl, hb⟩
theorem fmtU (n : Nat) (w : World) (hn : n < 4294967296) (h : Tz w) :
    Calls Tryd.prog 28 #[.int .u64 n, .int .i64 16] w fun e w' => e = .returned (.string ⟨(hx n).toArray⟩) ∧ Below w.heap.size w w' := by
  go_enter Tryd.func28, Tryd.ntmps28
  go_wp2_with fail
  refine (ifmtU n w hn h).mono ?_
  rintro e w1 ⟨rfl, hb⟩
  go_wp2
  go_ret
  exact ⟨rfl, hb⟩
theorem fmtI (n : Nat) (w : World) (hn : n < 4294967296) (h : Tz w) :
    Calls Tryd.prog 30 #[.int .i64 n, .int .i64 16] w fun e w' => e = .returned (.string ⟨(hx n).toArray⟩) ∧ Below w.heap.size w w' := by
  go_enter Tryd.func30, Tryd.ntmps30
  go_wp2_with fail
  refine (ifmtI n w hn h).mono ?_
  rintro e w1 ⟨rfl, hb⟩
  go_wp2
  go_ret
  exact ⟨rfl, hb⟩
end Go.Proofs.YtobecfeelamlmaaDoor
