/- names.behindFirst, isStars. -/
import Derived.Test.YtobecfeelamlmaaDoorN1
import Derived.Lib.IndexBytes
namespace Go.Proofs.YtobecfeelamlmaaDoor
open Go.RowKit
set_option linter.unusedSimpArgs false
set_option linter.unusedVariables false
/-- How wide a text's first rune is. -/
def fw (s : ByteArray) : Nat := (Utf8.decode s 0).2
theorem fw_le (s : ByteArray) (h : 0 < s.size) : 1 ≤ fw s ∧ fw s ≤ s.size := by
  have := dec_le s 0 h
  unfold fw; omega
set_option maxRecDepth 100000 in
theorem behind_any (s : ByteArray) (w : World) (h : 0 < s.size) (hT : U8 w) :
    Calls Tryd.prog 41 #[.string s] w fun e w' => e = .returned (.string (s.extract (fw s) s.size)) ∧ Below w.heap.size w w' := by
  have hd := decode_any s w hT
  have e : Lib.decodeGo s = Utf8.decode s 0 := by unfold Lib.decodeGo; rw [if_neg (by omega)]
  rw [e] at hd
  have hf := fw_le s h
  have hf2 : (Utf8.decode s 0).2 = fw s := rfl
  rw [hf2] at hd
  obtain ⟨k, hk⟩ : ∃ k, fw s = k := ⟨_, rfl⟩
  rw [hk] at hf hd ⊢
  obtain ⟨r, hr⟩ : ∃ r, (Utf8.decode s 0).1 = r := ⟨_, rfl⟩
  rw [hr] at hd
  clear hr hk hf2 e
  have h1 : (k : Int) ≤ s.size := by omega
  go_enter Tryd.func41, Tryd.ntmps41
  go_wp2_with (go_at_call 45; refine hd.mono ?_; rintro e w1 ⟨rfl, hb⟩; have HB : Hid (Below w.heap.size w w1) := hb; clear hb)
  go_ret
  exact ⟨rfl, HB.out⟩
theorem rn_behind (s : ByteArray) (h : 0 < s.size) : rn s.data.toList = (Utf8.decode s 0).1 :: rn (s.extract (fw s) s.size).data.toList := by
  have := rn_at s 0 h
  rw [List.drop_zero, Nat.zero_add] at this
  rw [this]
  rw [Lib.extract_to_end]
  rfl
/-- What lies where: the runes of a pattern. -/
def LieR (w : World) (a0 : Option Addr) (p : List Nat) : Prop :=
  ∀ (i : Nat) c, p[i]? = some c → ∃ b off, a0 = some ⟨b, off, none⟩ ∧ b < w.heap.size ∧ w.cell? ⟨b, off + i, none⟩ = some (.int .i32 (c : Int))
theorem LieR.below {w w' : World} {a0 : Option Addr} {p : List Nat} (h : LieR w a0 p) (hb : Below w.heap.size w w') : LieR w' a0 p := by
  intro i x hx
  obtain ⟨b, off, ha, hlt, hc⟩ := h i x hx
  exact ⟨b, off, ha, Nat.lt_of_lt_of_le hlt hb.size, by rw [hb.cell (p := ⟨b, off + i, none⟩) hlt]; exact hc⟩
set_option maxRecDepth 100000 in
theorem stars_any (a0 : Option Addr) (cap : Nat) (p : List Nat) (w : World) (hL : LieR w a0 p) (hn : p.length ≤ 9223372036854775807) :
    Calls Tryd.prog 42 #[.slice a0 p.length cap] w fun e w' => e = .returned (.bool (stars p)) ∧ w' = w := by
  have HL : Hid (LieR w a0 p) := hL
  clear hL
  go_enter Tryd.func42, Tryd.ntmps42
  go_wp2_with fail
  go_loopw [7] (fun v wr => ∃ k : Nat, v = .int .i64 k ∧ k ≤ p.length ∧ wr = w ∧ Hid (∀ (i : Nat) x, i < k → p[i]? = some x → x = 42)) (fun v _ => p.length - (intOf v).toNat)
  case atStart => exact ⟨0, rfl, Nat.zero_le _, rfl, fun i x hi => by omega⟩
  case round =>
    obtain ⟨k, rfl, hk, rfl, HO⟩ := hrel
    by_cases hlt : k < p.length
    · obtain ⟨x, hx⟩ : ∃ x, p[k]? = some x := ⟨p[k], List.getElem?_eq_getElem hlt⟩
      obtain ⟨b, off, rfl, hb, hc⟩ := HL.out k x hx
      have HX1 : Hid (p[k]? = some x) := hx
      clear hx
      by_cases h0 : x = 42
      · have hz : ((x : Int) != 42) = false := by simp [h0]
        go_wp2
        go_roundw
        case rel =>
          refine ⟨k + 1, by go_num, by omega, by first | rfl | trivial, fun i y hi hy => ?_⟩
          by_cases hik : i < k
          · exact HO.out i y hik hy
          · obtain rfl : i = k := by omega
            have e := HX1.out
            rw [hy] at e
            rw [Option.some.inj e, h0]
        case measure => simp [intOf]; omega
      · have hz : ((x : Int) != 42) = true := by simp; omega
        go_wp2
        go_ret
        refine ⟨?_, rfl⟩
        have : stars p = false := Bool.eq_false_iff.2 fun h => by
          simp only [stars, List.all_eq_true, beq_iff_eq] at h
          exact h0 (h x (List.mem_of_getElem? HX1.out))
        rw [this]; rfl
    · go_wp2
      go_ret
      refine ⟨?_, rfl⟩
      have : stars p = true := by
        simp only [stars, List.all_eq_true, beq_iff_eq]
        intro x hx
        obtain ⟨i, hi, e⟩ := List.getElem_of_mem hx
        exact HO.out i x (by omega) (by rw [List.getElem?_eq_getElem hi, e])
      rw [this]; rfl
end Go.Proofs.YtobecfeelamlmaaDoor
