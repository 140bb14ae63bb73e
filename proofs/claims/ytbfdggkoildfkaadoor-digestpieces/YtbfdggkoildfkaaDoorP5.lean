/- Plain facts on digits: bytes as digits and back. -/
import Derived.Test.YtbfdggkoildfkaaDoorP4
namespace Go.Proofs.YtbfdggkoildfkaaDoor
set_option linter.unusedSimpArgs false
set_option linter.unusedVariables false
open Go
/-- The digit that stands for a number below 16. -/
def dg (v : Nat) : Nat := if v < 10 then 48 + v else 87 + v
/-- What a digit says. -/
def dvl (c : Nat) : Option Nat := if 48 ≤ c ∧ c ≤ 57 then some (c - 48) else if 97 ≤ c ∧ c ≤ 102 then some (c - 87) else none
theorem dg_lt (v : Nat) (h : v < 16) : dg v < 256 := by unfold dg; split <;> omega
theorem dvl_dg (v : Nat) (h : v < 16) : dvl (dg v) = some v := by
  have : ∀ v : Fin 16, dvl (dg v.val) = some v.val := by decide
  exact this ⟨v, h⟩
theorem dvl_some {c v : Nat} (h : dvl c = some v) : v < 16 ∧ dg v = c := by
  unfold dvl at h
  split at h
  · simp only [Option.some.injEq] at h; unfold dg; rw [if_pos (by omega)]; omega
  · split at h
    · simp only [Option.some.injEq] at h; unfold dg; rw [if_neg (by omega)]; omega
    · simp at h
theorem dvl_none {c : Nat} (h : dvl c = none) : ∀ v, v < 16 → dg v ≠ c := by
  intro v hv e
  rw [← e, dvl_dg v hv] at h
  simp at h
/-- Bytes as digits. -/
def hexL : List UInt8 → List Nat
  | [] => []
  | c :: r => dg (c.toNat / 16) :: dg (c.toNat % 16) :: hexL r
/-- Digits as bytes. -/
def unhexL : List UInt8 → Option (List Nat)
  | [] => some []
  | [_] => none
  | a :: b :: r => match dvl a.toNat, dvl b.toNat, unhexL r with
    | some x, some y, some m => some ((x * 16 + y) :: m)
    | _, _, _ => none
theorem hexL_append : ∀ (a b : List UInt8), hexL (a ++ b) = hexL a ++ hexL b
  | [], b => rfl
  | c :: r, b => by simp [hexL, hexL_append r b]
theorem hexL_length : ∀ l : List UInt8, (hexL l).length = 2 * l.length
  | [] => rfl
  | c :: r => by simp [hexL, hexL_length r]; omega
theorem unhex_hex : ∀ l : List UInt8, unhexL (by8 (hexL l)) = some (l.map UInt8.toNat)
  | [] => rfl
  | c :: r => by
    have hc := c.toNat_lt
    have e : by8 (hexL (c :: r)) = UInt8.ofNat (dg (c.toNat / 16)) :: UInt8.ofNat (dg (c.toNat % 16)) :: by8 (hexL r) := rfl
    rw [e, unhexL, toNat_ofNat8 _ (dg_lt _ (by omega)), toNat_ofNat8 _ (dg_lt _ (by omega)), dvl_dg _ (by omega), dvl_dg _ (by omega), unhex_hex r]
    simp only [List.map_cons]
    congr 2
    omega
theorem ofNat_toNat8 (c : UInt8) : UInt8.ofNat c.toNat = c := by simp
theorem by8_toNat : ∀ l : List UInt8, by8 (l.map UInt8.toNat) = l
  | [] => rfl
  | c :: r => by
    have e : by8 ((c :: r).map UInt8.toNat) = UInt8.ofNat c.toNat :: by8 (r.map UInt8.toNat) := rfl
    rw [e, ofNat_toNat8, by8_toNat r]
theorem hex_unhex : ∀ (n : Nat) (l : List UInt8), l.length ≤ n → ∀ m, unhexL l = some m → by8 (hexL (by8 m)) = l ∧ 2 * m.length = l.length
  | _, [], _, m, h => by simp [unhexL] at h; subst h; exact ⟨rfl, rfl⟩
  | _, [_], _, m, h => by simp [unhexL] at h
  | 0, a :: b :: r, hl, m, h => by simp at hl
  | n + 1, a :: b :: r, hl, m, h => by
    rw [unhexL] at h
    split at h
    · rename_i x y m' hx hy hm
      simp only [Option.some.injEq] at h
      subst h
      obtain ⟨i1, i2⟩ := hex_unhex n r (by simp at hl; omega) m' hm
      obtain ⟨x1, x2⟩ := dvl_some hx
      obtain ⟨y1, y2⟩ := dvl_some hy
      have e : by8 (hexL (by8 ((x * 16 + y) :: m'))) = UInt8.ofNat (dg ((UInt8.ofNat (x * 16 + y)).toNat / 16)) :: UInt8.ofNat (dg ((UInt8.ofNat (x * 16 + y)).toNat % 16)) :: by8 (hexL (by8 m')) := rfl
      rw [e, toNat_ofNat8 _ (by omega), show (x * 16 + y) / 16 = x from by omega, show (x * 16 + y) % 16 = y from by omega, x2, y2, i1, ofNat_toNat8, ofNat_toNat8]
      exact ⟨rfl, by simp; omega⟩
    · simp at h
/-- What Unhex answers. -/
def uhS (s : ByteArray) : ByteArray := ((unhexL (bl s)).map sb).getD ⟨#[]⟩
def uhE (s : ByteArray) : Int := if (unhexL (bl s)).isSome then 0 else 4
theorem unhexL_odd : ∀ (n : Nat) (l : List UInt8), l.length ≤ n → l.length % 2 = 1 → unhexL l = none
  | _, [], _, h => by simp at h
  | _, [_], _, _ => rfl
  | 0, a :: b :: r, hl, _ => by simp at hl
  | n + 1, a :: b :: r, hl, h => by
    rw [unhexL, unhexL_odd n r (by simp at hl; omega) (by simp at h; omega)]
    split <;> simp_all
theorem drop_two (s : ByteArray) (k : Nat) (h : k + 1 < s.size) : (bl s).drop k = s[k] :: s[k + 1] :: (bl s).drop (k + 2) := by
  rw [drop_at s k (by omega), drop_at s (k + 1) h]
/-- One more pair is read. -/
theorem unhex_step (s : ByteArray) (k : Nat) (m : List Nat) (x y : Nat) (h : k + 1 < s.size) (hm : unhexL (bl s) = (unhexL ((bl s).drop k)).map (m ++ ·)) (hx : dvl s[k].toNat = some x) (hy : dvl s[k + 1].toNat = some y) :
    unhexL (bl s) = (unhexL ((bl s).drop (k + 2))).map (m ++ [x * 16 + y] ++ ·) := by
  rw [hm, drop_two s k h, unhexL, hx, hy]
  cases unhexL ((bl s).drop (k + 2)) with
  | none => rfl
  | some r => simp
theorem unhex_bad (s : ByteArray) (k : Nat) (m : List Nat) (h : k + 1 < s.size) (hm : unhexL (bl s) = (unhexL ((bl s).drop k)).map (m ++ ·)) (hx : dvl s[k].toNat = none ∨ dvl s[k + 1].toNat = none) :
    unhexL (bl s) = none := by
  rw [hm, drop_two s k h, unhexL]
  rcases hx with e | e
  · rw [e]; rfl
  · rw [e]; split <;> simp_all
theorem unhex_all (s : ByteArray) (k : Nat) (m : List Nat) (h : s.size ≤ k) (hm : unhexL (bl s) = (unhexL ((bl s).drop k)).map (m ++ ·)) : unhexL (bl s) = some m := by
  rw [hm, List.drop_of_length_le (by rw [bl_length]; exact h)]; simp [unhexL]
theorem uh_some {s : ByteArray} {m : List Nat} (h : unhexL (bl s) = some m) : uhS s = sb m ∧ uhE s = 0 := by simp [uhS, uhE, h]
theorem uh_none {s : ByteArray} (h : unhexL (bl s) = none) : uhS s = ⟨#[]⟩ ∧ uhE s = 4 := by simp [uhS, uhE, h]
/-- Digits there and back. -/
theorem uh_hex (s : ByteArray) : uhS (sb (hexL (bl s))) = s ∧ uhE (sb (hexL (bl s))) = 0 := by
  have e : unhexL (bl (sb (hexL (bl s)))) = some ((bl s).map UInt8.toNat) := by rw [bl_sb]; exact unhex_hex _
  obtain ⟨a, b⟩ := uh_some e
  refine ⟨?_, b⟩
  rw [a]
  apply bl_inj
  rw [bl_sb, by8_toNat]
theorem hex_uh (s : ByteArray) (h : uhE s = 0) : sb (hexL (bl (uhS s))) = s := by
  cases e : unhexL (bl s) with
  | none => rw [(uh_none e).2] at h; cases h
  | some m =>
    rw [(uh_some e).1]
    apply bl_inj
    rw [bl_sb, bl_sb]
    exact (hex_unhex _ _ (Nat.le_refl _) m e).1
theorem uhE_cases (s : ByteArray) : uhE s = 0 ∨ uhE s = 4 := by unfold uhE; split <;> simp
theorem u8_shl4_or (x y : Nat) (hx : x < 16) (hy : y < 16) : bits .or .u8 (IntKind.u8.wrap ((x : Int) * 16)) (y : Int) = ((x * 16 + y : Nat) : Int) := by
  have h : ∀ x y : Fin 16, bits .or .u8 (IntKind.u8.wrap ((x.val : Int) * 16)) (y.val : Int) = ((x.val * 16 + y.val : Nat) : Int) := by decide +kernel
  exact h ⟨x, hx⟩ ⟨y, hy⟩
theorem u8_and_15 (b : Nat) (hb : b < 256) : bits .and .u8 (b : Int) 15 = ((b % 16 : Nat) : Int) := by
  have h : ∀ a : Fin 256, bits .and .u8 (a.val : Int) 15 = ((a.val % 16 : Nat) : Int) := by decide +kernel
  exact h ⟨b, hb⟩
end Go.Proofs.YtbfdggkoildfkaaDoor
