import Derived.Test.YtfmfdaoipfpijaaGreatDoorY3
import Derived.Test.YtfmfdaoipfpijaaGreatDoorY2
import Derived.Lib.LaidTab
import Derived.Deep.RegionHeld3
import Derived.Deep.DeepAppendRoom
import Derived.Deep.AppendLies
import Derived.Test.YtfmfdaoipfpijaaGreatDoorY1
import Derived.Deep.RegionWith
/- Plain facts on digits: bytes as digits and back. -/
namespace Go.Proofs.YtfmfdaoipfpijaaGreatDoor
set_option linter.unusedSimpArgs false
set_option linter.unusedVariables false
open Go
/-- The digit that stands for a number below 16. -/
def dg (v : Nat) : Nat := if v < 10 then 48 + v else 87 + v
/-- What a digit says. -/
def dvl (c : Nat) : Option Nat := if 48 ≤ c ∧ c ≤ 57 then some (c - 48) else if 97 ≤ c ∧ c ≤ 102 then some (c - 87) else none
theorem dg_lt (v : Nat) (h : v < 16) : dg v < 256 := by unfold dg; split <;> omega
theorem dvl_dg (v : Nat) (h : v < 16) : dvl (dg v) = some v := by
  have : ∀ v : Fin 16, dvl (dg v.val) = some v.val := by decide
  exact this ⟨v, h⟩
theorem dvl_some {c v : Nat} (h : dvl c = some v) : v < 16 ∧ dg v = c := by
  unfold dvl at h
  split at h
  · simp only [Option.some.injEq] at h; unfold dg; rw [if_pos (by omega)]; omega
  · split at h
    · simp only [Option.some.injEq] at h; unfold dg; rw [if_neg (by omega)]; omega
    · simp at h
theorem dvl_none {c : Nat} (h : dvl c = none) : ∀ v, v < 16 → dg v ≠ c := by
  intro v hv e
  rw [← e, dvl_dg v hv] at h
  simp at h
/-- Bytes as digits. -/
def hexL : List UInt8 → List Nat
  | [] => []
  | c :: r => dg (c.toNat / 16) :: dg (c.toNat % 16) :: hexL r
/-- Digits as bytes. -/
def unhexL : List UInt8 → Option (List Nat)
  | [] => some []
  | [_] => none
  | a :: b :: r => match dvl a.toNat, dvl b.toNat, unhexL r with
    | some x, some y, some m => some ((x * 16 + y) :: m)
    | _, _, _ => none
theorem hexL_append : ∀ (a b : List UInt8), hexL (a ++ b) = hexL a ++ hexL b
  | [], b => rfl
  | c :: r, b => by simp [hexL, hexL_append r b]
theorem hexL_length : ∀ l : List UInt8, (hexL l).length = 2 * l.length
  | [] => rfl
  | c :: r => by simp [hexL, hexL_length r]; omega
theorem unhex_hex : ∀ l : List UInt8, unhexL (by8 (hexL l)) = some (l.map UInt8.toNat)
  | [] => rfl
  | c :: r => by
    have hc := c.toNat_lt
    have e : by8 (hexL (c :: r)) = UInt8.ofNat (dg (c.toNat / 16)) :: UInt8.ofNat (dg (c.toNat % 16)) :: by8 (hexL r) := rfl
    rw [e, unhexL, toNat_ofNat8 _ (dg_lt _ (by omega)), toNat_ofNat8 _ (dg_lt _ (by omega)), dvl_dg _ (by omega), dvl_dg _ (by omega), unhex_hex r]
    simp only [List.map_cons]
    congr 2
    omega
theorem ofNat_toNat8 (c : UInt8) : UInt8.ofNat c.toNat = c := by simp
theorem by8_toNat : ∀ l : List UInt8, by8 (l.map UInt8.toNat) = l
  | [] => rfl
  | c :: r => by
    have e : by8 ((c :: r).map UInt8.toNat) = UInt8.ofNat c.toNat :: by8 (r.map UInt8.toNat) := rfl
    rw [e, ofNat_toNat8, by8_toNat r]
theorem hex_unhex : ∀ (n : Nat) (l : List UInt8), l.length ≤ n → ∀ m, unhexL l = some m → by8 (hexL (by8 m)) = l ∧ 2 * m.length = l.length
  | _, [], _, m, h => by simp [unhexL] at h; subst h; exact ⟨rfl, rfl⟩
  | _, [_], _, m, h => by simp [unhexL] at h
  | 0, a :: b :: r, hl, m, h => by simp at hl
  | n + 1, a :: b :: r, hl, m, h => by
    rw [unhexL] at h
    split at h
    · rename_i x y m' hx hy hm
      simp only [Option.some.injEq] at h
      subst h
      obtain ⟨i1, i2⟩ := hex_unhex n r (by simp at hl; omega) m' hm
      obtain ⟨x1, x2⟩ := dvl_some hx
      obtain ⟨y1, y2⟩ := dvl_some hy
      have e : by8 (hexL (by8 ((x * 16 + y) :: m'))) = UInt8.ofNat (dg ((UInt8.ofNat (x * 16 + y)).toNat / 16)) :: UInt8.ofNat (dg ((UInt8.ofNat (x * 16 + y)).toNat % 16)) :: by8 (hexL (by8 m')) := rfl
      rw [e, toNat_ofNat8 _ (by omega), show (x * 16 + y) / 16 = x from by omega, show (x * 16 + y) % 16 = y from by omega, x2, y2, i1, ofNat_toNat8, ofNat_toNat8]
      exact ⟨rfl, by simp; omega⟩
    · simp at h
/-- What Unhex answers. -/
def uhS (s : ByteArray) : ByteArray := ((unhexL (bl s)).map sb).getD ⟨#[]⟩
def uhE (s : ByteArray) : Int := if (unhexL (bl s)).isSome then 0 else 4
theorem unhexL_odd : ∀ (n : Nat) (l : List UInt8), l.length ≤ n → l.length % 2 = 1 → unhexL l = none
  | _, [], _, h => by simp at h
  | _, [_], _, _ => rfl
  | 0, a :: b :: r, hl, _ => by simp at hl
  | n + 1, a :: b :: r, hl, h => by
    rw [unhexL, unhexL_odd n r (by simp at hl; omega) (by simp at h; omega)]
    split <;> simp_all
theorem drop_two (s : ByteArray) (k : Nat) (h : k + 1 < s.size) : (bl s).drop k = s[k] :: s[k + 1] :: (bl s).drop (k + 2) := by
  rw [drop_at s k (by omega), drop_at s (k + 1) h]
/-- One more pair is read. -/
theorem unhex_step (s : ByteArray) (k : Nat) (m : List Nat) (x y : Nat) (h : k + 1 < s.size) (hm : unhexL (bl s) = (unhexL ((bl s).drop k)).map (m ++ ·)) (hx : dvl s[k].toNat = some x) (hy : dvl s[k + 1].toNat = some y) :
    unhexL (bl s) = (unhexL ((bl s).drop (k + 2))).map (m ++ [x * 16 + y] ++ ·) := by
  rw [hm, drop_two s k h, unhexL, hx, hy]
  cases unhexL ((bl s).drop (k + 2)) with
  | none => rfl
  | some r => simp
theorem unhex_bad (s : ByteArray) (k : Nat) (m : List Nat) (h : k + 1 < s.size) (hm : unhexL (bl s) = (unhexL ((bl s).drop k)).map (m ++ ·)) (hx : dvl s[k].toNat = none ∨ dvl s[k + 1].toNat = none) :
    unhexL (bl s) = none := by
  rw [hm, drop_two s k h, unhexL]
  rcases hx with e | e
  · rw [e]; rfl
  · rw [e]; split <;> simp_all
theorem unhex_all (s : ByteArray) (k : Nat) (m : List Nat) (h : s.size ≤ k) (hm : unhexL (bl s) = (unhexL ((bl s).drop k)).map (m ++ ·)) : unhexL (bl s) = some m := by
  rw [hm, List.drop_of_length_le (by rw [bl_length]; exact h)]; simp [unhexL]
theorem uh_some {s : ByteArray} {m : List Nat} (h : unhexL (bl s) = some m) : uhS s = sb m ∧ uhE s = 0 := by simp [uhS, uhE, h]
theorem uh_none {s : ByteArray} (h : unhexL (bl s) = none) : uhS s = ⟨#[]⟩ ∧ uhE s = 4 := by simp [uhS, uhE, h]
/-- Digits there and back. -/
theorem uh_hex (s : ByteArray) : uhS (sb (hexL (bl s))) = s ∧ uhE (sb (hexL (bl s))) = 0 := by
  have e : unhexL (bl (sb (hexL (bl s)))) = some ((bl s).map UInt8.toNat) := by rw [bl_sb]; exact unhex_hex _
  obtain ⟨a, b⟩ := uh_some e
  refine ⟨?_, b⟩
  rw [a]
  apply bl_inj
  rw [bl_sb, by8_toNat]
theorem hex_uh (s : ByteArray) (h : uhE s = 0) : sb (hexL (bl (uhS s))) = s := by
  cases e : unhexL (bl s) with
  | none => rw [(uh_none e).2] at h; cases h
  | some m =>
    rw [(uh_some e).1]
    apply bl_inj
    rw [bl_sb, bl_sb]
    exact (hex_unhex _ _ (Nat.le_refl _) m e).1
theorem uhE_cases (s : ByteArray) : uhE s = 0 ∨ uhE s = 4 := by unfold uhE; split <;> simp
theorem u8_shl4_or (x y : Nat) (hx : x < 16) (hy : y < 16) : bits .or .u8 (IntKind.u8.wrap ((x : Int) * 16)) (y : Int) = ((x * 16 + y : Nat) : Int) := by
  have h : ∀ x y : Fin 16, bits .or .u8 (IntKind.u8.wrap ((x.val : Int) * 16)) (y.val : Int) = ((x.val * 16 + y.val : Nat) : Int) := by decide +kernel
  exact h ⟨x, hx⟩ ⟨y, hy⟩
theorem u8_and_15 (b : Nat) (hb : b < 256) : bits .and .u8 (b : Int) 15 = ((b % 16 : Nat) : Int) := by
  have h : ∀ a : Fin 256, bits .and .u8 (a.val : Int) 15 = ((a.val % 16 : Nat) : Int) := by decide +kernel
  exact h ⟨b, hb⟩
end Go.Proofs.YtfmfdaoipfpijaaGreatDoor
/- The walk of wire.digitValue and of the document's own digit. -/
set_option maxRecDepth 100000
namespace Go.Proofs.YtfmfdaoipfpijaaGreatDoor
open Go.RowKit
set_option linter.unusedSimpArgs false
set_option linter.unusedVariables false
/-- The table of digits, as a value. -/
abbrev DIG : Value := .agg #[.int .u8 48, .int .u8 49, .int .u8 50, .int .u8 51, .int .u8 52, .int .u8 53, .int .u8 54, .int .u8 55, .int .u8 56, .int .u8 57, .int .u8 97, .int .u8 98, .int .u8 99, .int .u8 100, .int .u8 101, .int .u8 102]
/-- The cells of the table of digits, in their block. -/
def TabIs (w : World) : Prop := ∀ v, v < 16 → w.cell? ⟨1, v, none⟩ = some (.int .u8 (dg v))
theorem TabIs.below {B : Nat} {w w' : World} (h : TabIs w) (hb : Below B w w') (hB : 1 < B) : TabIs w' := fun v hv => (hb.cell (p := ⟨1, v, none⟩) hB).trans (h v hv)
theorem idx16 (w : World) : ∀ (k : Nat) (_ : k < 16), (Instr.index 146 DIG (.int .i64 k)).run Tryz.prog w = .ok (.int .u8 (dg k)) w
  | 0, _ => by kernel_rfl
  | 1, _ => by kernel_rfl
  | 2, _ => by kernel_rfl
  | 3, _ => by kernel_rfl
  | 4, _ => by kernel_rfl
  | 5, _ => by kernel_rfl
  | 6, _ => by kernel_rfl
  | 7, _ => by kernel_rfl
  | 8, _ => by kernel_rfl
  | 9, _ => by kernel_rfl
  | 10, _ => by kernel_rfl
  | 11, _ => by kernel_rfl
  | 12, _ => by kernel_rfl
  | 13, _ => by kernel_rfl
  | 14, _ => by kernel_rfl
  | 15, _ => by kernel_rfl
  | k + 16, h => absurd h (by omega)
theorem dvl_found {c k : Nat} (hk : k < 16) (h : dg k = c) : dvl c = some k := by rw [← h]; exact dvl_dg k hk
theorem dvl_missed {c : Nat} (h : ∀ v, v < 16 → dg v ≠ c) : dvl c = none := by
  cases e : dvl c with
  | none => rfl
  | some v => obtain ⟨a, b⟩ := dvl_some e; exact absurd b (h v a)
theorem ret_dv {c : Nat} {a : Int} {b : Bool} (h : a = ((dvl c).getD 0 : Nat) ∧ b = (dvl c).isSome) : Ending.returned (.tuple #[.int .u8 a, .bool b]) = .returned (.tuple #[.int .u8 ((dvl c).getD 0 : Nat), .bool (dvl c).isSome]) := by rw [h.1, h.2]
set_option maxHeartbeats 400000 in
theorem digitValue_any (c : Nat) (w : World) (hc : c < 256) (hT : TabIs w) :
    Calls Tryz.prog 98 #[.int .u8 c] w fun e w' => e = .returned (.tuple #[.int .u8 ((dvl c).getD 0 : Nat), .bool (dvl c).isSome]) ∧ w' = w := by
  have t0 : w.cell? ⟨1, 0, none⟩ = some (.int .u8 48) := hT 0 (by omega)
  have t1 : w.cell? ⟨1, 1, none⟩ = some (.int .u8 49) := hT 1 (by omega)
  have t2 : w.cell? ⟨1, 2, none⟩ = some (.int .u8 50) := hT 2 (by omega)
  have t3 : w.cell? ⟨1, 3, none⟩ = some (.int .u8 51) := hT 3 (by omega)
  have t4 : w.cell? ⟨1, 4, none⟩ = some (.int .u8 52) := hT 4 (by omega)
  have t5 : w.cell? ⟨1, 5, none⟩ = some (.int .u8 53) := hT 5 (by omega)
  have t6 : w.cell? ⟨1, 6, none⟩ = some (.int .u8 54) := hT 6 (by omega)
  have t7 : w.cell? ⟨1, 7, none⟩ = some (.int .u8 55) := hT 7 (by omega)
  have t8 : w.cell? ⟨1, 8, none⟩ = some (.int .u8 56) := hT 8 (by omega)
  have t9 : w.cell? ⟨1, 9, none⟩ = some (.int .u8 57) := hT 9 (by omega)
  have t10 : w.cell? ⟨1, 10, none⟩ = some (.int .u8 97) := hT 10 (by omega)
  have t11 : w.cell? ⟨1, 11, none⟩ = some (.int .u8 98) := hT 11 (by omega)
  have t12 : w.cell? ⟨1, 12, none⟩ = some (.int .u8 99) := hT 12 (by omega)
  have t13 : w.cell? ⟨1, 13, none⟩ = some (.int .u8 100) := hT 13 (by omega)
  have t14 : w.cell? ⟨1, 14, none⟩ = some (.int .u8 101) := hT 14 (by omega)
  have t15 : w.cell? ⟨1, 15, none⟩ = some (.int .u8 102) := hT 15 (by omega)
  clear hT
  go_enter Tryz.func98, Tryz.ntmps98
  go_wp2
  clear t0 t1 t2 t3 t4 t5 t6 t7 t8 t9 t10 t11 t12 t13 t14 t15
  go_loop [7] (fun i => ∃ (k : Nat), k ≤ 16 ∧ i = .int .i64 k ∧ Hid (∀ v, v < k → dg v ≠ c)) (fun i => 16 - (intOf i).toNat)
  case atStart => exact ⟨0, by omega, rfl, fun v hv => by omega⟩
  case round =>
    obtain ⟨k, hk, rfl, HR⟩ := hrel
    by_cases hlt : k < 16
    · have hi := idx16 w k hlt
      by_cases he : dg k = c
      · have he' : ((dg k : Int) == (c : Int)) = true := by rw [beq_iff_eq]; omega
        have HE : Hid (dg k = c) := he
        clear he
        go_wp2
        go_ret2
        refine ⟨ret_dv ?_, rfl⟩
        rw [dvl_found hlt HE.out]
        exact ⟨by simp, rfl⟩
      · have he' : ((dg k : Int) == (c : Int)) = false := by rw [beq_eq_false_iff_ne]; omega
        have HE : Hid (¬ dg k = c) := he
        clear he
        go_wp2
        go_round
        case rel => exact ⟨k + 1, by omega, by go_num, fun v hv => by
          rcases Nat.lt_succ_iff_lt_or_eq.1 hv with h | h
          · exact HR.out v h
          · subst h; exact HE.out⟩
        case measure => simp [intOf]; omega
    · go_wp2
      go_ret2
      refine ⟨ret_dv ?_, rfl⟩
      rw [dvl_missed (fun v hv => HR.out v (by omega))]
      exact ⟨by simp, rfl⟩
end Go.Proofs.YtfmfdaoipfpijaaGreatDoor
/- The walk of wire.Unhex. -/
namespace Go.Proofs.YtfmfdaoipfpijaaGreatDoor
open Go.RowKit
set_option linter.unusedSimpArgs false
set_option linter.unusedVariables false
theorem info_u8 : (Tryz.prog.info? 5).map (fun i => (i.zero, i.size, i.bytes)) = some (some (.int .u8 0), 1, 1) := by kernel_rfl
theorem make_u8 (n : Nat) (hn : n ≤ 281474976710656) (u : World) : (Instr.makeSlice 65 (.int .i64 n) (.int .i64 n)).run Tryz.prog u =
    .ok (.slice (some ⟨u.heap.size, 0, none⟩) n n) (u.alloc (.cells (madeCells #[.int .u8 0] n) 5)) := by
  obtain ⟨i0, hi, hz0, hz1, hz2⟩ := info_parts info_u8
  have h := run_make (P := Tryz.prog) u 65 5 i0 (.int .u8 0) Tryz.underlying65 hi hz0 .i64 .i64 (n : Int) (n : Int) (by omega) (Int.le_refl _) (by rw [hz2]; omega) (by omega)
  rw [Int.toNat_natCast] at h
  simpa [hz1, Value.cells] using h
theorem u8_sh4_or (x y : Nat) (hx : x < 16) (hy : y < 16) : bits .or .u8 ((x : Int) * 16) (y : Int) = ((x * 16 + y : Nat) : Int) := by
  have h := u8_shl4_or x y hx hy
  have e : IntKind.u8.wrap ((x : Int) * 16) = (x : Int) * 16 := by rw [IntKind.wrap_u8']; omega
  rwa [e] at h
theorem made_size (n : Nat) : (madeCells #[Value.int .u8 0] n).size = n := by
  simp [madeCells]
theorem made_get (n j : Nat) (h : j < n) : (madeCells #[Value.int .u8 0] n)[j]? = some (.int .u8 0) := by
  have e : j % 1 = 0 := Nat.mod_one j
  simp [madeCells, h, e]
theorem ret_uh {s : ByteArray} {a : ByteArray} {b : Int} (h : a = uhS s ∧ b = uhE s) : Ending.returned (.tuple #[.string a, .int .i64 b]) = .returned (.tuple #[.string (uhS s), .int .i64 (uhE s)]) := by rw [h.1, h.2]
theorem uh_next (m : List Nat) (k n : Nat) (arr : Array Value) (b : Int) (v : Nat) (hk : k < n) (hsz : arr.size = n) (hml : m.length = k) (hall : ∀ j, j < n → ∃ z, arr[j]? = some (.int .u8 z))
    (harr : ∀ j, j < k → arr[j]? = some (.int .u8 (m.getD j 0))) (hb : b = v) :
    (arr.setIfInBounds k (.int .u8 b)).size = n ∧ (m ++ [v]).length = k + 1 ∧ (∀ j, j < n → ∃ z, (arr.setIfInBounds k (.int .u8 b))[j]? = some (.int .u8 z)) ∧
      ∀ j, j < k + 1 → (arr.setIfInBounds k (.int .u8 b))[j]? = some (.int .u8 ((m ++ [v]).getD j 0)) := by
  refine ⟨by simp [hsz], by simp [hml], fun j hj => ?_, fun j hj => ?_⟩
  · rw [Array.getElem?_setIfInBounds]
    split
    · exact ⟨b, by simp [hsz]; omega⟩
    · exact hall j hj
  · rw [Array.getElem?_setIfInBounds]
    split
    · rename_i e; subst e; rw [if_pos (by omega), hb, List.getD, List.getElem?_append_right (by omega), hml]; simp
    · rw [harr j (by omega), List.getD, List.getD, List.getElem?_append_left (by omega)]
theorem uh_conv (m : List Nat) (n : Nat) (arr : Array Value) (w : World) (T : TypeId) (hsz : arr.size = n) (hml : m.length = n) (harr : ∀ j, j < n → arr[j]? = some (.int .u8 (m.getD j 0))) :
    (convert 65 9 (.slice (some ⟨w.heap.size, 0, none⟩) n n)).run Tryz.prog (w.alloc (.cells arr T)) = .ok (.string (sb m)) (w.alloc (.cells arr T)) := by
  rw [← sb_nums]
  refine run_convert_bytes_arg _ 65 5 Tryz.underlying65 Tryz.underlying5 _ 0 n n _ (by simp [hml]) (fun i hi => ?_) 9 Tryz.underlying9
  rw [Nat.zero_add, World.cell?_alloc_new, harr i hi, List.getD, List.getD, List.getElem?_map, List.getElem?_eq_getElem (by omega)]
  rfl
set_option maxHeartbeats 400000 in
theorem unhex_odd (s : ByteArray) (w : World) (hs : s.size ≤ 281474976710656) (ho : s.size % 2 = 1) :
    Calls Tryz.prog 82 #[.string s] w fun e w' => e = .returned (.tuple #[.string (uhS s), .int .i64 (uhE s)]) ∧ w' = w := by
  have HN := uh_none (unhexL_odd _ (bl s) (Nat.le_refl _) (by rw [bl_length]; exact ho))
  rw [HN.1, HN.2]
  clear HN
  have h1 : (((s.size : Int) % 2) != 0) = true := by rw [bne_iff_ne]; omega
  go_enter Tryz.func82, Tryz.ntmps82
  go_wp2
  go_ret2
  exact ⟨rfl, rfl⟩
set_option maxHeartbeats 800000 in
set_option maxRecDepth 100000 in
theorem unhex_even (s : ByteArray) (w : World) (n : Nat) (hs : s.size ≤ 281474976710656) (ho : s.size = 2 * n) (hT : TabIs w) (hw : 1 < w.heap.size) :
    Calls Tryz.prog 82 #[.string s] w fun e w' => e = .returned (.tuple #[.string (uhS s), .int .i64 (uhE s)]) ∧ Below w.heap.size w w' := by
  have h1 : (((s.size : Int) % 2) != 0) = false := by rw [bne_eq_false_iff_eq]; omega
  have h2 : (s.size : Int) / 2 = n := by omega
  have hmk := make_u8 n (by omega) w
  have HO : Hid (s.size = 2 * n) := ho
  have HT : Hid (TabIs w) := hT
  clear hT
  have hn2 : 2 * n ≤ 281474976710656 := by omega
  clear ho
  go_enter Tryz.func82, Tryz.ntmps82
  go_wp2
  go_loopw [20] (fun i wr => ∃ (k : Nat) (m : List Nat) (arr : Array Value), k ≤ n ∧ i = .int .i64 k ∧ wr = w.alloc (.cells arr 5) ∧ Hid ((arr.size = n ∧ m.length = k ∧ (∀ j, j < n → ∃ z, arr[j]? = some (.int .u8 z)) ∧ ∀ j, j < k → arr[j]? = some (.int .u8 (m.getD j 0))) ∧ unhexL (bl s) = (unhexL ((bl s).drop (2 * k))).map (m ++ ·))) (fun i _ => n - (intOf i).toNat)
  case atStart =>
    refine ⟨0, [], _, by omega, rfl, rfl, ⟨⟨?_, rfl, fun j hj => ⟨0, ?_⟩, fun j hj => by omega⟩, ?_⟩⟩
    · exact made_size n
    · exact made_get n j hj
    · simp
  case round =>
    obtain ⟨k, m, arr, hk, rfl, rfl, HR⟩ := hrel
    have hTk : TabIs (w.alloc (.cells arr 5)) := HT.out.below ((Below.refl _ _).alloc (Nat.le_refl _) _) hw
    have HTk : Hid (TabIs (w.alloc (.cells arr 5))) := hTk
    clear hTk
    by_cases hlt : k < n
    · have g1 : 2 * k < s.size := by have := HO.out; omega
      have g2 : 2 * k + 1 < s.size := by have := HO.out; omega
      obtain ⟨z, hz⟩ := HR.out.1.2.2.1 k hlt
      cases ea : dvl s[2 * k].toNat with
      | none =>
        have HA : Hid (dvl s[2 * k].toNat = none) := ea
        clear ea
        go_wp2_with fail
        refine (digitValue_any _ _ (by exact s[2 * k].toNat_lt) HTk.out).mono ?_
        rintro e w1 ⟨rfl, hw1⟩
        subst hw1
        rw [HA.out]
        go_wp2_with fail
        refine (digitValue_any _ _ (by exact s[2 * k + 1].toNat_lt) HTk.out).mono ?_
        rintro e w1 ⟨rfl, hw1⟩
        subst hw1
        go_wp2
        go_ret2
        refine ⟨ret_uh ?_, by go_grown⟩
        have hn := uh_none (unhex_bad s (2 * k) m g2 HR.out.2 (Or.inl HA.out))
        exact ⟨hn.1.symm, hn.2.symm⟩
      | some x =>
        have HA : Hid (dvl s[2 * k].toNat = some x) := ea
        clear ea
        cases eb : dvl s[2 * k + 1].toNat with
        | none =>
          have HB : Hid (dvl s[2 * k + 1].toNat = none) := eb
          clear eb
          go_wp2_with fail
          refine (digitValue_any _ _ (by exact s[2 * k].toNat_lt) HTk.out).mono ?_
          rintro e w1 ⟨rfl, hw1⟩
          subst hw1
          rw [HA.out]
          go_wp2_with fail
          refine (digitValue_any _ _ (by exact s[2 * k + 1].toNat_lt) HTk.out).mono ?_
          rintro e w1 ⟨rfl, hw1⟩
          subst hw1
          rw [HB.out]
          go_wp2
          go_ret2
          refine ⟨ret_uh ?_, by go_grown⟩
          have hn := uh_none (unhex_bad s (2 * k) m g2 HR.out.2 (Or.inr HB.out))
          exact ⟨hn.1.symm, hn.2.symm⟩
        | some y =>
          have HB : Hid (dvl s[2 * k + 1].toNat = some y) := eb
          clear eb
          have hx := (dvl_some HA.out).1
          have hy := (dvl_some HB.out).1
          go_wp2_with fail
          refine (digitValue_any _ _ (by exact s[2 * k].toNat_lt) HTk.out).mono ?_
          rintro e w1 ⟨rfl, hw1⟩
          subst hw1
          rw [HA.out]
          go_wp2_with fail
          refine (digitValue_any _ _ (by exact s[2 * k + 1].toNat_lt) HTk.out).mono ?_
          rintro e w1 ⟨rfl, hw1⟩
          subst hw1
          rw [HB.out]
          go_wp2
          go_roundw
          case rel =>
            obtain ⟨⟨a1, a2, a3, a4⟩, a5⟩ := HR.out
            refine ⟨k + 1, m ++ [x * 16 + y], _, by omega, by go_num, rfl, ⟨uh_next m k n arr _ _ hlt a1 a2 a3 a4 ?_, ?_⟩⟩
            · exact u8_sh4_or x y hx hy
            · exact unhex_step s (2 * k) m x y g2 a5 HA.out HB.out
          case measure => simp [intOf]; omega
    · have hkn : k = n := by omega
      subst hkn
      obtain ⟨⟨a1, a2, a3, a4⟩, a5⟩ := HR.out
      have hc := uh_conv m k arr w 5 a1 a2 a4
      clear a1 a3 a4
      have A2 : Hid (m.length = k) := a2
      have A5 : Hid (unhexL (bl s) = (unhexL ((bl s).drop (2 * k))).map (m ++ ·)) := a5
      clear a2 a5
      go_wp2
      go_ret2
      refine ⟨ret_uh ?_, by go_grown⟩
      have hn := uh_some (unhex_all s (2 * k) m (by have := HO.out; omega) A5.out)
      exact ⟨hn.1.symm, hn.2.symm⟩
end Go.Proofs.YtfmfdaoipfpijaaGreatDoor
/- The walk of wire.Hex. -/
namespace Go.Proofs.YtfmfdaoipfpijaaGreatDoor
open Go.RowKit
set_option linter.unusedSimpArgs false
set_option linter.unusedVariables false
/-- append where there is room, onto a row of the call's own, as one step of a region that draws. -/
theorem step_append_spare {P : Program} {w : World} {ops : Array Oper} {o : Oper} {a : Act} {K : Act → World → Prop} {Q : Exit → Act → World → Prop} {E : Prop} (hgd : o.guard = none) (s x : Operand) (t : TypeId)
    (ho : o.op = .call { callee := .builtin .append, args := #[s, x], argTypes := #[t, t] })
    (base : Nat) (e : TypeId) (i : TypeInfo) (size : Nat) (ht : P.underlying t = some (.slice e)) (hi : P.info? e = some i) (hsize : i.size = size)
    (g n cap : Nat) (xs : List Value) (hs : a.eval s = .slice (some ⟨g, 0, none⟩) n cap) (hown : w.ownsRow base e size (.slice (some ⟨g, 0, none⟩) n cap) n xs)
    (ad : Addr) (m c : Nat) (news : List Value) (hx : a.eval x = .slice (some ad) m c) (hl : news.length = m * size) (hnews : ∀ j u, news[j]? = some u → w.cell? (ad.add j) = some u) (h1 : ∀ u ∈ news, u.oneCell' = true)
    (hroom : n + m ≤ cap)
    (h : ∀ w', w'.ownsRow base e size (.slice (some ⟨g, 0, none⟩) (n + m) cap) (n + m) (xs ++ news) → w.grownBy w' (some g) → K (a.put o.dst (.slice (some ⟨g, 0, none⟩) (n + m) cap)) w') :
    if Region.wanted o (yielded ops a.tmps) = true then Oper.wp P o a w K Q else E := by
  have hw : Region.wanted o (yielded ops a.tmps) = true := by simp [Region.wanted, hgd]
  rw [if_pos hw]
  exact wp_append_own_spare w s x t ho base e i size ht hi hsize g n cap xs hs hown ad m c news hx hl hnews h1 hroom h
theorem make_u8_cap (n : Nat) (hn : 2 * n ≤ 281474976710656) (u : World) : (Instr.makeSlice 65 (.int .i64 0) (.int .i64 (2 * (n : Int)))).run Tryz.prog u =
    .ok (.slice (some ⟨u.heap.size, 0, none⟩) 0 (2 * n)) (u.alloc (.cells (madeCells #[.int .u8 0] (2 * n)) 5)) := by
  obtain ⟨i0, hi, hz0, hz1, hz2⟩ := info_parts info_u8
  have h := run_make (P := Tryz.prog) u 65 5 i0 (.int .u8 0) Tryz.underlying65 hi hz0 .i64 .i64 0 (2 * (n : Int)) (by omega) (by omega) (by rw [hz2]; omega) (by omega)
  rw [show (2 * (n : Int)).toNat = 2 * n from by omega] at h
  simpa [hz1, Value.cells] using h
/-- Numbers as cells of bytes. -/
def bvX (xs : List Nat) : List Value := xs.map fun x : Nat => Value.int .u8 (x : Int)
theorem bvX_append (a b : List Nat) : bvX (a ++ b) = bvX a ++ bvX b := by simp [bvX]
theorem bv_length (a : List Nat) : (bvX a).length = a.length := by simp [bvX]
/-- A row of bytes of the call's own, as a string. -/
theorem own_conv {w : World} {base n : Nat} {v : Value} {xs : List Nat} (h : w.ownsRow base 5 1 v n (bvX xs)) :
    (convert 65 9 v).run Tryz.prog w = .ok (.string (sb xs)) w := by
  obtain ⟨hl, h⟩ := h
  rcases h with ⟨rfl, rfl⟩ | ⟨g, cap, cur, rfl, _, hg, hn, _, hc, ht⟩
  · have : xs = [] := by cases xs with | nil => rfl | cons a b => simp [bvX] at hl
    subst this
    exact run_convert_bytes_nil w 65 5 Tryz.underlying65 Tryz.underlying5 0 0 9 Tryz.underlying9
  · have hxl : xs.length = n := by simpa [bvX] using hl
    rw [← sb_nums]
    refine run_convert_bytes_arg w 65 5 Tryz.underlying65 Tryz.underlying5 g 0 n cap _ (by simp [hxl]) (fun i hi => ?_) 9 Tryz.underlying9
    rw [Nat.zero_add, cell_of_row w g i cur 5 (0, 0) hg, List.getD, List.getElem?_map]
    have e : (cur.toList.take (n * 1))[i]? = (bvX xs)[i]? := by rw [ht]
    rw [List.getElem?_take_of_lt (by omega), Array.getElem?_toList, bvX, List.getElem?_map, List.getElem?_eq_getElem (by omega)] at e
    rw [e, List.getElem?_eq_getElem (by omega)]
    rfl
theorem own_drew {w : World} {base : Nat} {e : TypeId} {size n : Nat} {v : Value} {xs : List Value} (h : w.ownsRow base e size v n xs) (o : Obj) : ((w.alloc o).drew).ownsRow base e size v n xs := h.alloc o
theorem news_two (w : World) (a b : Value) (T : TypeId) : ∀ (j : Nat) (u : Value), [a, b][j]? = some u → ((w.alloc (.cells #[a, b] T)).drew).cell? ((⟨w.heap.size, 0, none⟩ : Addr).add j) = some u := by
  intro j u h
  have e : ((w.alloc (.cells #[a, b] T)).drew).cell? ((⟨w.heap.size, 0, none⟩ : Addr).add j) = (w.alloc (.cells #[a, b] T)).cell? ((⟨w.heap.size, 0, none⟩ : Addr).add j) := rfl
  rw [e, WideShapes.add_plain, Nat.zero_add, World.cell?_alloc_new]
  simpa using h
theorem one_two (a b : Int) : ∀ u ∈ [Value.int .u8 a, Value.int .u8 b], u.oneCell' = true := by
  intro u hu
  simp at hu
  rcases hu with rfl | rfl <;> rfl
theorem keep_far {wr w1 : World} {o : Obj} {g off : Nat} {v : Value} (hg : ((wr.alloc o).drew).grownBy w1 (some g)) (h0 : 1 < g) (hz : 1 < wr.heap.size) (t : wr.cell? ⟨1, off, none⟩ = some v) : w1.cell? ⟨1, off, none⟩ = some v := by
  rw [hg.cell_far ⟨1, off, none⟩ (by show 1 < (wr.alloc o).heap.size; rw [World.size_alloc]; omega) (by simp; omega)]
  show (wr.alloc o).cell? ⟨1, off, none⟩ = some v
  rw [World.cell?_alloc_past _ _ _ hz]; exact t
theorem hex_own (s : ByteArray) (k : Nat) (hk : k < s.size) {w1 : World} {base g cap : Nat} (h : w1.ownsRow base 5 1 (.slice (some ⟨g, 0, none⟩) (2 * k + 2) cap) (2 * k + 2) (bvX (hexL ((bl s).take k)) ++ [.int .u8 (dg (s[k].toNat / 16) : Nat), .int .u8 (dg (s[k].toNat % 16) : Nat)])) :
    w1.ownsRow base 5 1 (.slice (some ⟨g, 0, none⟩) (2 * (k + 1)) cap) (2 * (k + 1)) (bvX (hexL ((bl s).take (k + 1)))) := by
  have e : bvX (hexL ((bl s).take (k + 1))) = bvX (hexL ((bl s).take k)) ++ [.int .u8 (dg (s[k].toNat / 16) : Nat), .int .u8 (dg (s[k].toNat % 16) : Nat)] := by
    rw [take_snoc s k hk, hexL_append, bvX_append]; rfl
  rw [e, show 2 * (k + 1) = 2 * k + 2 from by omega]
  exact h
theorem hex_size {wr w1 : World} {o : Obj} {row : Option Nat} {g : Nat} (hg : ((wr.alloc o).drew).grownBy w1 row) (hz : g < wr.heap.size) : g < w1.heap.size := by
  have h : (wr.alloc o).heap.size ≤ w1.heap.size := hg.size
  simp at h
  omega
theorem hex_below {w wr w1 : World} {o : Obj} {g : Nat} (hb : Below g w wr) (hz : g < wr.heap.size) (hg : ((wr.alloc o).drew).grownBy w1 (some g)) : Below g w w1 :=
  ((hb.alloc (by omega) o).drew).grown hg (by show g ≤ (wr.alloc o).heap.size; simp; omega) (fun k hk => by cases hk; exact Nat.le_refl _)
set_option maxHeartbeats 800000 in
set_option maxRecDepth 100000 in
theorem hex_any (s : ByteArray) (w : World) (hs : s.size ≤ 140737488351232) (hT : TabIs w) (hw : 1 < w.heap.size) :
    Calls Tryz.prog 61 #[.string s] w fun e w' => e = .returned (.string (sb (hexL (bl s)))) ∧ Below w.heap.size w w' := by
  have hmk := make_u8_cap s.size (by omega) w
  have HT : Hid (TabIs w) := hT
  clear hT
  go_enter Tryz.func61, Tryz.ntmps61
  go_wp2
  go_loopw [3, 11] (fun v i wr => ∃ k : Nat, k ≤ s.size ∧ i = .int .i64 k ∧ v = .slice (some ⟨w.heap.size, 0, none⟩) (2 * k) (2 * s.size) ∧
      wr.ownsRow w.heap.size 5 1 (.slice (some ⟨w.heap.size, 0, none⟩) (2 * k) (2 * s.size)) (2 * k) (bvX (hexL ((bl s).take k))) ∧ w.heap.size < wr.heap.size ∧ Below w.heap.size w wr) (fun _ i _ => s.size - (intOf i).toNat)
  case atStart =>
    refine ⟨0, by omega, rfl, rfl, ⟨rfl, Or.inr ⟨w.heap.size, 2 * s.size, _, rfl, Nat.le_refl _, heap_alloc_new w _, by omega, by unfold maxLen; omega, ?_, rfl⟩⟩, by simp, by go_grown⟩
    rw [size_madeCells]; omega
  case round =>
    obtain ⟨k, hk, rfl, rfl, hown, hz, hbel⟩ := hrel
    by_cases hlt : k < s.size
    · have hTk := HT.out.below hbel hw
      have t1 : wr.cell? ⟨1, ((s[k].toNat : Int) / 16).toNat, none⟩ = some (.int .u8 (dg (s[k].toNat / 16) : Nat)) := by
        rw [show ((s[k].toNat : Int) / 16).toNat = s[k].toNat / 16 from by omega]; exact hTk (s[k].toNat / 16) (by have := s[k].toNat_lt; omega)
      have t2 : wr.cell? ⟨1, ((s[k].toNat : Int) % 16).toNat, none⟩ = some (.int .u8 (dg (s[k].toNat % 16) : Nat)) := by
        rw [show ((s[k].toNat : Int) % 16).toNat = s[k].toNat % 16 from by omega]; exact hTk (s[k].toNat % 16) (by have := s[k].toNat_lt; omega)
      clear hTk
      have ha : bits .and .u8 (s[k].toNat : Int) 15 = (s[k].toNat : Int) % 16 := by rw [u8_and_15 _ s[k].toNat_lt]; omega
      have b1 : (0 : Int) ≤ (s[k].toNat : Int) / 16 := by omega
      have b2 : (s[k].toNat : Int) / 16 < 16 := by have := s[k].toNat_lt; omega
      have b3 : (s[k].toNat : Int) % 16 < 16 := by omega
      have b4 : (0 : Int) ≤ (s[k].toNat : Int) % 16 := by omega
      obtain ⟨i0, hi, hz0, hz1, hz2⟩ := info_parts info_u8
      go_wp2_with fail
      go_region_held3 (fun w' => w'.cell? ⟨1, ((s[k].toNat : Int) / 16).toNat, none⟩ = some (.int .u8 (dg (s[k].toNat / 16) : Nat)) ∧ w'.cell? ⟨1, ((s[k].toNat : Int) % 16).toNat, none⟩ = some (.int .u8 (dg (s[k].toNat % 16) : Nat)))
        (first | go_keep | (exact ⟨keep_far hgrow hw (by omega) t1, keep_far hgrow hw (by omega) t2⟩))
        ((refine step_append_spare (by rfl) _ _ _ (by rfl) w.heap.size 5 i0 1 Tryz.underlying65 hi hz1 w.heap.size (2 * k) (2 * s.size) _ (by rfl) (own_drew hown _) ⟨wr.heap.size, 0, none⟩ 2 2 [.int .u8 (dg (s[k].toNat / 16) : Nat), .int .u8 (dg (s[k].toNat % 16) : Nat)] (by rfl) rfl (news_two wr _ _ _) (one_two _ _) (by omega) ?_; intro w1 hown1 hgrow))
      all_goals go_wp2
      all_goals go_roundw
      all_goals first
        | exact ⟨k + 1, by omega, by go_num, by rw [show 2 * k + 2 = 2 * (k + 1) from by omega], hex_own s k hlt hown1, hex_size hgrow hz, hex_below hbel hz hgrow⟩
        | (simp [intOf]; omega)
    · have hke : k = s.size := by omega
      subst hke
      have hc := own_conv hown
      rw [List.take_of_length_le (by rw [bl_length]; exact Nat.le_refl _)] at hc
      go_wp2
      go_ret
      exact ⟨rfl, hbel⟩
end Go.Proofs.YtfmfdaoipfpijaaGreatDoor
/- Plain facts: a short number's bytes, one after another. -/
namespace Go.Proofs.YtfmfdaoipfpijaaGreatDoor
set_option linter.unusedSimpArgs false
set_option linter.unusedVariables false
open Go
theorem encS_small (n : Nat) (h : n < 128) : encS n = [n] := by
  have e : slen n = 1 := by
    have h1 := slen_pos n
    rcases Nat.lt_or_ge 1 (slen n) with g | g
    · have h2 := slen_lo n (by omega) g
      have h3 : 128 ^ 1 ≤ 128 ^ (slen n - 1) := Nat.pow_le_pow_right (by omega) (by omega)
      omega
    · omega
  unfold encS; rw [e]; rfl
theorem encS_step (n : Nat) (h : 128 ≤ n) (hn : n < 2 ^ 64) : encS n = (n % 128 + 128) :: encS (n / 128) := by
  have a1 := slen_pos n
  have a2 := slen_hi n hn
  have q1 := slen_pos (n / 128)
  have q2 := slen_hi (n / 128) (by omega)
  have g : 1 < slen n := by
    rcases Nat.lt_or_ge 1 (slen n) with g | g
    · exact g
    · have : slen n = 1 := by omega
      rw [this] at a2; omega
  have a3 := slen_lo n hn g
  have e : slen n = slen (n / 128) + 1 := by
    rcases Nat.lt_trichotomy (slen n) (slen (n / 128) + 1) with c | c | c
    · have q3 := slen_lo (n / 128) (by omega) (by omega)
      have x1 : 128 ^ (slen n - 1) ≤ 128 ^ (slen (n / 128) - 1) := Nat.pow_le_pow_right (by omega) (by omega)
      have x2 : 128 ^ slen n = 128 ^ (slen n - 1) * 128 := by rw [← Nat.pow_succ]; congr 1; omega
      omega
    · exact c
    · have x1 : 128 ^ slen (n / 128) ≤ 128 ^ (slen n - 2) := Nat.pow_le_pow_right (by omega) (by omega)
      have x2 : 128 ^ (slen n - 1) = 128 ^ (slen n - 2) * 128 := by rw [← Nat.pow_succ]; congr 1; omega
      omega
  unfold encS
  rw [e, show slen (n / 128) + 1 - 1 = (slen (n / 128) - 1) + 1 from by omega, encN]
end Go.Proofs.YtfmfdaoipfpijaaGreatDoor
/- The document's own fits, and a byte as a string. -/
namespace Go.Proofs.YtfmfdaoipfpijaaGreatDoor
open Go.RowKit
set_option linter.unusedSimpArgs false
set_option linter.unusedVariables false
/-- One byte, as a slice of its own, as a string. -/
theorem conv1 (w : World) (v : Int) : (convert 65 9 (.slice (some ⟨w.heap.size, 0, none⟩) 1 1)).run Tryz.prog (w.alloc (.cells #[.int .u8 v] 5)) = .ok (.string (strOfNums [v])) (w.alloc (.cells #[.int .u8 v] 5)) :=
  run_convert_bytes_arg _ 65 5 Tryz.underlying65 Tryz.underlying5 _ 0 1 1 [v] rfl (fun i hi => by
    have : i = 0 := by omega
    subst this
    rw [World.cell?_alloc_new]; rfl) 9 Tryz.underlying9
theorem one_size (v : Int) : (strOfNums [v]).size = 1 := strOfNums_size _
theorem one_is (n : Nat) (v : Int) (h : v = n) : strOfNums [v] = sb [n] := by rw [h]; exact sb_nums [n]
end Go.Proofs.YtfmfdaoipfpijaaGreatDoor
/- The document's own fits, and a byte as a string. -/
namespace Go.Proofs.YtfmfdaoipfpijaaGreatDoor
open Go.RowKit
set_option linter.unusedSimpArgs false
set_option linter.unusedVariables false
/-- Whether a number fits a width of 1 to 8 bytes. -/
def fitB (n d : Nat) : Bool := decide (n < 256 ^ d)
theorem fitB_yes {n d : Nat} (h : n < 256 ^ d) : fitB n d = true := decide_eq_true h
theorem fitB_no {n d : Nat} (h : 256 ^ d ≤ n) : fitB n d = false := decide_eq_false (by omega)
end Go.Proofs.YtfmfdaoipfpijaaGreatDoor
/- The walk of the document's own PutFixed (munimentref01). -/
namespace Go.Proofs.YtfmfdaoipfpijaaGreatDoor
open Go.RowKit
set_option linter.unusedSimpArgs false
set_option linter.unusedVariables false
theorem fix_more (s a : ByteArray) (n d k : Nat) (h : a = s ++ sb ((fixN d n).take k)) (hk : k < d) :
    a ++ strOfNums [(n : Int) / 2 ^ (8 * (d - 1 - k)) % 256] = s ++ sb ((fixN d n).take (k + 1)) := by
  have e1 : ((n : Int) / 2 ^ (8 * (d - 1 - k)) % 256) = ((n / 256 ^ (d - 1 - k) % 256 : Nat) : Int) := by
    rw [pow256]; rfl
  have e2 := fixN_get d n (d - 1 - k) (by omega)
  rw [show d - 1 - (d - 1 - k) = k from by omega] at e2
  have hl : k < (fixN d n).length := by rw [fixN_length]; exact hk
  have e3 : (fixN d n).take (k + 1) = (fixN d n).take k ++ [n / 256 ^ (d - 1 - k) % 256] := by
    rw [List.take_succ_eq_append_getElem hl]
    rw [List.getElem?_eq_getElem hl] at e2
    simp only [Option.some.injEq] at e2
    rw [e2]
  rw [one_is _ _ e1, e3, h]
  apply bl_inj
  simp [bl_append, bl_sb, by8]
end Go.Proofs.YtfmfdaoipfpijaaGreatDoor
/- Plain facts: two sums. -/
namespace Go.Proofs.YtfmfdaoipfpijaaGreatDoor
set_option linter.unusedSimpArgs false
set_option linter.unusedVariables false
/-- The sum, reckoned with its numbers handed on. -/
def rdsL : List (BitVec 32) → List (BitVec 32) → V8 → V8
  | k :: ks, w :: ws, v => rdsL ks ws (v.rnd k w)
  | _, _, v => v
theorem rds_L (m : List Nat) (v : V8) : ∀ n t, n + t = 64 → rdsL (KL.drop t) ((sch m 64).drop t) (rds m v t) = rds m v 64
  | 0, t, h => by
    have : t = 64 := by omega
    subst this
    rw [show KL.drop 64 = [] from rfl]; rfl
  | n + 1, t, h => by
    have hk : KL.drop t = KT t :: KL.drop (t + 1) := by
      have hl : t < KL.length := by show t < 64; omega
      rw [List.drop_eq_getElem_cons hl]
      simp [KT, List.getD, hl]
    have hw : (sch m 64).drop t = wt m t :: (sch m 64).drop (t + 1) := by
      have hl : t < (sch m 64).length := by rw [sch_length]; omega
      rw [List.drop_eq_getElem_cons hl]
      simp [wt, List.getD, hl]
    rw [hk, hw, rdsL]
    exact rds_L m v n (t + 1) (by omega)
def compL (m : List Nat) (v : V8) : V8 := v.add (rdsL KL (sch m 64) v)
theorem comp_L (m : List Nat) (v : V8) : comp m v = compL m v := by
  have := rds_L m v 64 0 rfl
  simp only [List.drop_zero] at this
  rw [comp, compL, ← this]; rfl
theorem sha_one (m : List Nat) (h : (padded m).length / 64 = 1) : sha m = outB (compL (blk (padded m) 0) H0) := by
  rw [sha, shaV, h, hs, comp_L]; rfl
theorem sha_abc : sha [97, 98, 99] = [186, 120, 22, 191, 143, 1, 207, 234, 65, 65, 64, 222, 93, 174, 34, 35, 176, 3, 97, 163, 150, 23, 122, 156, 180, 16, 255, 97, 242, 0, 21, 173] := by
  rw [sha_one _ (by decide)]
  decide +kernel
theorem sha_nil : sha [] = [227, 176, 196, 66, 152, 252, 28, 20, 154, 251, 244, 200, 153, 111, 185, 36, 39, 174, 65, 228, 100, 155, 147, 76, 164, 149, 153, 27, 120, 82, 184, 85] := by
  rw [sha_one _ (by decide)]
  decide +kernel
end Go.Proofs.YtfmfdaoipfpijaaGreatDoor
/- What an object's name is the sum of. -/
namespace Go.Proofs.YtfmfdaoipfpijaaGreatDoor
/-- What an object's name is the sum of. -/
def whl (k : Nat) (p : ByteArray) : List Nat := k :: (fixN 8 p.size ++ byl p)
end Go.Proofs.YtfmfdaoipfpijaaGreatDoor
/- digest.Text, digest.Of, the document's own Fixed and Whole, the law's awake. -/
namespace Go.Proofs.YtfmfdaoipfpijaaGreatDoor
open Go.RowKit
set_option linter.unusedSimpArgs false
set_option linter.unusedVariables false
theorem shc_idc (m : List Nat) : shc m = idc (sb (sha m)) := by
  have h := byl_sb (sha m) (outB_lt _)
  rw [idc, h]; rfl
/-- All the listed variables. -/
structure All (w : World) : Prop where
  l : Lst w
  t : TabIs w
theorem All.lt {w : World} (H : All w) : 3 < w.heap.size := H.l.lt
theorem All.grown {w w' : World} {r : Option Nat} (H : All w) (hg : w.grownBy w' r) (hr : ∀ j, r = some j → 3 < j) : All w' :=
  ⟨H.l.grown hg hr, fun v hv => hg.cell (H.t v hv) (fun e => by have := hr _ e.symm; dsimp only at this; omega)⟩
theorem All.below {w w' : World} (H : All w) (hb : Below w.heap.size w w') : All w' := H.grown (grown_of_below hb none) (by simp)
theorem All.alloc {w : World} (H : All w) (o : Obj) : All (w.alloc o) := H.grown (World.grownBy_alloc w o none) (by simp)
set_option maxHeartbeats 400000 in
set_option maxRecDepth 100000 in
theorem text_any (s : ByteArray) (w : World) (hs : s.size = 32) (hA : All w) :
    Calls Tryz.prog 24 #[.agg (idc s)] w fun e w' => e = .returned (.string (sb (hexL (bl s)))) ∧ Below w.heap.size w w' := by
  have HA : Hid (All w) := hA
  have hlt := hA.lt
  have h1 := slice32 w.heap.size
  have h2 := conv32 s w.heap.size 24 (w.alloc (.cells (idc s) 24)) hs (blk_new _ _)
  clear hA
  go_enter Tryz.func24, Tryz.ntmps24
  go_wp2_with (go_at_call 61; refine (hex_any s _ (by omega) (HA.out.alloc _).t (by rw [alloc_size]; omega)).mono ?_; rintro e w1 ⟨rfl, hb1⟩)
  go_ret
  exact ⟨rfl, ((Below.refl _ _).alloc (Nat.le_refl _) _).trans (hb1.mono (by rw [alloc_size]; omega))⟩
theorem conv_any (w : World) (g : Nat) (v : Int) (h : w.cell? ⟨g, 0, none⟩ = some (.int .u8 v)) : (convert 65 9 (.slice (some ⟨g, 0, none⟩) 1 1)).run Tryz.prog w = .ok (.string (strOfNums [v])) w :=
  run_convert_bytes_arg _ 65 5 Tryz.underlying65 Tryz.underlying5 _ 0 1 1 [v] rfl (fun i hi => by
    have : i = 0 := by omega
    subst this
    exact h) 9 Tryz.underlying9
theorem sb_append (a b : List Nat) : sb (a ++ b) = sb a ++ sb b := by
  apply bl_inj
  rw [bl_append, bl_sb, bl_sb, bl_sb, by8, by8, by8, List.map_append]
theorem whole_eq (k : Nat) (p : ByteArray) (hk : k < 256) : strOfNums [(k : Int)] ++ ((⟨#[]⟩ : ByteArray) ++ sb (fixN 8 p.size)) ++ p = sb (whl k p) := by
  rw [show ((⟨#[]⟩ : ByteArray) ++ sb (fixN 8 p.size)) = sb (fixN 8 p.size) from ByteArray.empty_append, one_is k k rfl]
  have : whl k p = [k] ++ fixN 8 p.size ++ byl p := by simp [whl]
  rw [this, sb_append, sb_append, sb_byl]
theorem wrap64s (n : Nat) (h : n < 18446744073709551616) : IntKind.u64.wrap (n : Int) = (n : Int) := by
  simp [IntKind.wrap, IntKind.bits, IntKind.signed]
  omega
theorem conv1s (w : World) (o : Obj) (v : Int) : (convert 65 9 (.slice (some ⟨w.heap.size + 1, 0, none⟩) 1 1)).run Tryz.prog ((w.alloc o).alloc (.cells #[.int .u8 v] 5)) = .ok (.string (strOfNums [v])) ((w.alloc o).alloc (.cells #[.int .u8 v] 5)) := by
  have h := conv1 (w.alloc o) v
  rwa [alloc_size] at h
theorem pre_eq (k : Nat) (n : Nat) : strOfNums [(k : Int)] ++ sb (fixN 8 n) = sb (k :: fixN 8 n) := by
  rw [one_is k k rfl, ← sb_append]; rfl
theorem byl_pre (k n : Nat) (hk : k < 256) : byl (sb (k :: fixN 8 n)) = k :: fixN 8 n := byl_sb _ (by
  intro x hx
  simp only [List.mem_cons] at hx
  rcases hx with rfl | hx
  · exact hk
  · exact fixN_lt _ _ x hx)
end Go.Proofs.YtfmfdaoipfpijaaGreatDoor
