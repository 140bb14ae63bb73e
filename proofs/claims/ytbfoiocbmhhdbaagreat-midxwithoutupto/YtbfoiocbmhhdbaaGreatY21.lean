import Derived.Test.YtbfoiocbmhhdbaaGreatY20
import Derived.Deep.RegionHeld3
import Derived.Test.YtbfoiocbmhhdbaaGreatY1
import Derived.Test.YtbfoiocbmhhdbaaGreatY2
import Derived.Test.YtbfoiocbmhhdbaaGreatY19
import Derived.Test.YtbfoiocbmhhdbaaGreatY7
import Derived.WalkKit
import Derived.WalkSpells
import Derived.WalkLawsBesides
import Derived.Handy
import Derived.RegionTactic
import Derived.Laws.ResultCell
import Derived.Laws.AppendOwn
import Derived.Test.YtbfoiocbmhhdbaaGreatY6
import Derived.Test.YtbfoiocbmhhdbaaGreatY10
/- bloom.New, the closures of Add and Has, eachPlace, Add, Has. -/
namespace Go.Proofs.YtbfoiocbmhhdbaaGreat
open Go.RowKit
set_option linter.unusedSimpArgs false
set_option linter.unusedVariables false
theorem info_b8 : (Tryz.prog.info? 5).map (fun i => (i.zero, i.size, i.bytes)) = some (some (.int .u8 0), 1, 1) := by kernel_rfl
theorem made_b8 (n : Nat) : madeCells #[Value.int .u8 0] n = rc (zrR n) := by
  apply Array.ext_getElem?
  intro i
  simp only [madeCells]
  by_cases hi : i < n
  · simp [hi, Nat.mod_one, rc, zrR]
  · rw [Array.getElem?_eq_none (by simp; omega), Array.getElem?_eq_none (by simp [rc, zrR]; omega)]
theorem make_b8 (n : Nat) (hn : n ≤ 281474976710656) (u : World) : (Instr.makeSlice 131 (.int .i64 n) (.int .i64 n)).run Tryz.prog u =
    .ok (.slice (some ⟨u.heap.size, 0, none⟩) n n) (u.alloc (.cells (rc (zrR n)) 5)) := by
  obtain ⟨i0, hi, hz0, hz1, hz2⟩ := info_parts info_b8
  have h := run_make (P := Tryz.prog) u 131 5 i0 (.int .u8 0) Tryz.underlying131 hi hz0 .i64 .i64 (n : Int) (n : Int) (by omega) (Int.le_refl _) (by rw [hz2]; omega) (by omega)
  rw [Int.toNat_natCast] at h
  rw [← made_b8]
  simpa [hz1, Value.cells] using h
end Go.Proofs.YtbfoiocbmhhdbaaGreat
/- bloom: the closure of Has, eachPlace, Add, Has. -/
namespace Go.Proofs.YtbfoiocbmhhdbaaGreat
open Go.RowKit
set_option linter.unusedSimpArgs false
set_option linter.unusedVariables false
theorem and_bit (s : List UInt8) (p : Nat) : (s.getD (p / 8) 0).toNat &&& 2 ^ (p % 8) = (btR s p).toNat * 2 ^ (p % 8) := by
  apply Nat.eq_of_testBit_eq
  intro j
  rw [Nat.testBit_and, Nat.testBit_two_pow]
  by_cases e : p % 8 = j
  · subst e
    rw [show (s.getD (p / 8) 0).toNat.testBit (p % 8) = btR s p from rfl]
    cases btR s p <;> simp [Nat.testBit_two_pow]
  · cases btR s p <;> simp [Nat.testBit_two_pow, e]
theorem num_raw (a b c d : Nat) (ha : a < 256) (hb : b < 256) (hc : c < 256) (hd : d < 256) : bits .or .u32 (bits .or .u32 (bits .or .u32 ((a : Int) % 4294967296 * 16777216 % 4294967296) ((b : Int) % 4294967296 * 65536 % 4294967296)) ((c : Int) % 4294967296 * 256 % 4294967296)) ((d : Int) % 4294967296) = (((((a * 256 + b) * 256 + c) * 256 + d : Nat)) : Int) := by
  have e1 : (a : Int) % (4294967296 : Int) * (16777216 : Int) % (4294967296 : Int) = Int.ofNat (a <<< 24) := by rw [Nat.shiftLeft_eq]; show _ = ((a * 2 ^ 24 : Nat) : Int); omega
  have e2 : (b : Int) % (4294967296 : Int) * (65536 : Int) % (4294967296 : Int) = Int.ofNat (b <<< 16) := by rw [Nat.shiftLeft_eq]; show _ = ((b * 2 ^ 16 : Nat) : Int); omega
  have e3 : (c : Int) % (4294967296 : Int) * (256 : Int) % (4294967296 : Int) = Int.ofNat (c <<< 8) := by rw [Nat.shiftLeft_eq]; show _ = ((c * 2 ^ 8 : Nat) : Int); omega
  have e4 : (d : Int) % 4294967296 = (d : Int) := by omega
  have a1 : a <<< 24 < 4294967296 := by rw [Nat.shiftLeft_eq]; omega
  have b1 : b <<< 16 < 2 ^ 24 := by rw [Nat.shiftLeft_eq]; omega
  have c1 : c <<< 8 < 2 ^ 16 := by rw [Nat.shiftLeft_eq]; omega
  have o1 : a <<< 24 ||| b <<< 16 = (a * 256 + b) <<< 16 := by
    rw [← Nat.shiftLeft_add_eq_or_of_lt b1, Nat.shiftLeft_eq, Nat.shiftLeft_eq, Nat.shiftLeft_eq]; omega
  have o2 : (a * 256 + b) <<< 16 ||| c <<< 8 = ((a * 256 + b) * 256 + c) <<< 8 := by
    rw [← Nat.shiftLeft_add_eq_or_of_lt c1, Nat.shiftLeft_eq, Nat.shiftLeft_eq, Nat.shiftLeft_eq]; omega
  have o3 : ((a * 256 + b) * 256 + c) <<< 8 ||| d = ((a * 256 + b) * 256 + c) * 256 + d := by
    rw [← Nat.shiftLeft_add_eq_or_of_lt hd, Nat.shiftLeft_eq]
  rw [e1, e2, e3, e4]
  simp only [Int.ofNat_eq_natCast]
  rw [u32_or_nat _ _ a1 (by omega), o1, u32_or_nat _ _ (by rw [Nat.shiftLeft_eq]; omega) (by omega), o2, u32_or_nat _ _ (by rw [Nat.shiftLeft_eq]; omega) (by omega), o3]
theorem slice_id (b k : Nat) (hk : k < 8) (w : World) :
    (Instr.sliceAt 48 (.pointer (some ⟨b, 0, none⟩)) (some (.int .i64 (4 * (k : Int)))) none none).run Tryz.prog w = .ok (.slice (some ⟨b, 4 * k, none⟩) (32 - 4 * k) (32 - 4 * k)) w := by
  have e1 : Tryz.prog.elem 48 = 5 := by kernel_rfl
  have e2 : Tryz.prog.arrayLen 48 = 32 := by kernel_rfl
  have e0 : Tryz.prog.underlying 48 = some (.array (Tryz.prog.arrayLen 48) (Tryz.prog.elem 48)) := by kernel_rfl
  rw [run_sliceAt_array_l (P := Tryz.prog) w 48 ⟨b, 0, none⟩ e0 .i64 (4 * (k : Int)) (by omega) (by rw [e2]; omega)]
  rw [e1, e2, sizeOf_u8']
  simp only [slicedAt, Result.andThen, Addr.add_mid]
  rw [show (4 * (k : Int)).toNat = 4 * k from by omega]
  have e3 : ¬ 32 = 4 * k := by omega
  simp only [Nat.mul_one, Nat.zero_add, e3, if_false]
/-- What eachPlace hands the places to. -/
structure Ep (x : ByteArray) (f n k F : Nat) (cs : Array Value) (E : Nat → World → Prop) : Prop where
  enter : ∀ args u, (callFunc F args).run Tryz.prog u = .ok (.enter F args) u
  alloc : ∀ w o, E 0 w → E 0 (w.alloc o)
  drew : ∀ i w, E i w → E i w.drew
  bits : ∀ i w, E i w → w.cell? ⟨f, 0, none⟩ = some (.int .i64 (n : Int))
  hash : ∀ w, E 0 w → w.cell? ⟨f, 1, none⟩ = some (.int .i64 (k : Int))
  next : ∀ i w, i < k → E i w → Calls Tryz.prog F (#[.int .i64 ((plc n x i / 8 : Nat) : Int), .int .u8 ((2 ^ (plc n x i % 8) : Nat) : Int)] ++ cs) w fun e w' => e = .returned (.tuple #[]) ∧ E (i + 1) w' ∧ ∀ b C, Bk w b C 48 → Bk w' b C 48
theorem byl_lt14 (x : ByteArray) (j : Nat) : (byl x).getD j 0 < 256 := by
  rw [List.getD]
  by_cases h : j < (byl x).length
  · rw [List.getElem?_eq_getElem h]
    simp only [Option.getD_some, byl, List.getElem_map]
    exact UInt8.toNat_lt _
  · rw [List.getElem?_eq_none (by omega)]; simp
theorem idc_cell {w : World} {b : Nat} {x : ByteArray} {T : TypeId} (h : Bk w b (idc x) T) (hx : x.size = 32) (j : Nat) (hj : j < 32) : w.cell? ⟨b, j, none⟩ = some (.int .u8 (((byl x).getD j 0 : Nat) : Int)) := by
  rw [h.cell, idc_get x j (by omega), List.getD, byl_getD x j (by omega)]; rfl
end Go.Proofs.YtbfoiocbmhhdbaaGreat
/- bloom: Add, Has. -/
namespace Go.Proofs.YtbfoiocbmhhdbaaGreat
open Go.RowKit
set_option linter.unusedSimpArgs false
set_option linter.unusedVariables false
theorem bk_ne_row {w : World} {g b : Nat} {s : List UInt8} {C : Array Value} {T : TypeId} (h : Rw w g s) (hb : Bk w b C T) (hT : T ≠ 5) : g ≠ b := by
  rintro rfl
  obtain ⟨D, fz, h2, _⟩ := h
  unfold Bk at hb
  rw [hb] at h2
  injection h2 with h2
  injection h2 with _ h2 _
  exact hT h2
theorem idc_all (x : ByteArray) : (idc x).all (·.oneCell') = true := Array.all_eq_true_iff_forall_mem.2 (by intro v hv; exact bvc_one _ v (by simpa [idc] using hv))
end Go.Proofs.YtbfoiocbmhhdbaaGreat
/- The mathematics of filters: how many bits are set; joining; bytes. No program is named here. -/
namespace Go.Proofs.YtbfoiocbmhhdbaaGreat
set_option linter.unusedSimpArgs false
set_option linter.unusedVariables false
open Go
/-- How many bits of a byte are set. -/
def popN (b : Nat) : Nat := (b.testBit 0).toNat + (b.testBit 1).toNat + (b.testBit 2).toNat + (b.testBit 3).toNat + (b.testBit 4).toNat + (b.testBit 5).toNat + (b.testBit 6).toNat + (b.testBit 7).toNat
theorem popN_le (b : Nat) : popN b ≤ 8 := by
  have h : ∀ k, (b.testBit k).toNat ≤ 1 := fun k => Bool.toNat_le _
  have := h 0; have := h 1; have := h 2; have := h 3; have := h 4; have := h 5; have := h 6; have := h 7
  unfold popN; omega
/-- How many bits of a row are set. -/
def onR (s : List UInt8) : Nat := (s.map fun b : UInt8 => popN b.toNat).sum
theorem onR_le : ∀ s : List UInt8, onR s ≤ 8 * s.length
  | [] => by simp [onR]
  | b :: s => by
    have h1 := onR_le s
    have h2 := popN_le b.toNat
    unfold onR at h1 ⊢
    simp only [List.map_cons, List.sum_cons, List.length_cons]
    omega
theorem onR_snoc (s : List UInt8) (b : UInt8) : onR (s ++ [b]) = onR s + popN b.toNat := by simp [onR]
theorem onR_take (s : List UInt8) (i : Nat) (h : i < s.length) : onR (s.take (i + 1)) = onR (s.take i) + popN (s.getD i 0).toNat := by
  rw [List.take_add_one, List.getElem?_eq_getElem h, Option.toList_some, onR_snoc, List.getD, List.getElem?_eq_getElem h]; rfl
/-- How often a thing holds below m. -/
def smB (f : Nat → Bool) : Nat → Nat
  | 0 => 0
  | m + 1 => smB f m + (f m).toNat
theorem smB_congr (f g : Nat → Bool) : ∀ m, (∀ q, q < m → f q = g q) → smB f m = smB g m
  | 0, _ => rfl
  | m + 1, h => by rw [smB, smB, smB_congr f g m (fun q hq => h q (by omega)), h m (by omega)]
theorem smB_add (f : Nat → Bool) (m : Nat) : ∀ n, smB f (m + n) = smB f m + smB (fun q => f (m + q)) n
  | 0 => rfl
  | n + 1 => by rw [← Nat.add_assoc, smB, smB_add f m n, smB, Nat.add_assoc]
theorem smB_or (f g : Nat → Bool) : ∀ m, smB (fun q => f q || g q) m ≤ smB f m + smB g m
  | 0 => by simp [smB]
  | m + 1 => by
    have := smB_or f g m
    simp only [smB]
    have h : (f m || g m).toNat ≤ (f m).toNat + (g m).toNat := by cases f m <;> cases g m <;> decide
    omega
theorem smB_one (p : Nat) : ∀ m, smB (fun q => decide (q = p)) m ≤ 1 ∧ (m ≤ p → smB (fun q => decide (q = p)) m = 0)
  | 0 => by simp [smB]
  | m + 1 => by
    have ⟨h1, h2⟩ := smB_one p m
    simp only [smB]
    by_cases e : m = p
    · subst e
      rw [h2 (Nat.le_refl _)]
      simp
    · simp only [e, decide_false, Bool.toNat_false, Nat.add_zero]
      exact ⟨h1, fun h => h2 (by omega)⟩
theorem smB_zero (f : Nat → Bool) : ∀ m, (smB f m = 0 ↔ ∀ q, q < m → f q = false)
  | 0 => by simp [smB]
  | m + 1 => by
    rw [smB, Nat.add_eq_zero_iff, smB_zero f m]
    constructor
    · rintro ⟨h1, h2⟩ q hq
      by_cases e : q = m
      · subst e; cases hf : f q <;> simp [hf] at h2 ⊢
      · exact h1 q (by omega)
    · intro h
      exact ⟨fun q hq => h q (by omega), by rw [h m (by omega)]; rfl⟩
theorem smB_all (f : Nat → Bool) : ∀ m, (∀ q, q < m → f q = true) → smB f m = m
  | 0, _ => rfl
  | m + 1, h => by rw [smB, smB_all f m (fun q hq => h q (by omega)), h m (by omega)]; rfl
theorem btR_cons_lo (b : UInt8) (s : List UInt8) (q : Nat) (h : q < 8) : btR (b :: s) q = b.toNat.testBit q := by
  unfold btR
  rw [Nat.div_eq_of_lt h, Nat.mod_eq_of_lt h]; rfl
theorem btR_cons_hi (b : UInt8) (s : List UInt8) (q : Nat) : btR (b :: s) (8 + q) = btR s q := by
  unfold btR
  rw [show (8 + q) / 8 = q / 8 + 1 from by omega, show (8 + q) % 8 = q % 8 from by omega]; rfl
theorem onR_eq : ∀ s : List UInt8, onR s = smB (btR s) (8 * s.length)
  | [] => rfl
  | b :: s => by
    have e : 8 * (b :: s).length = 8 + 8 * s.length := by simp only [List.length_cons]; omega
    rw [e, smB_add, smB_congr _ (btR s) _ (fun q _ => btR_cons_hi b s q), ← onR_eq s, smB_congr _ (fun q => b.toNat.testBit q) 8 (fun q hq => btR_cons_lo b s q hq)]
    simp only [onR, List.map_cons, List.sum_cons, smB, popN, Nat.zero_add]
theorem onR_st (s : List UInt8) (p : Nat) (h : p / 8 < s.length) : onR (stR s p) ≤ onR s + 1 := by
  rw [onR_eq, onR_eq, stR_len, smB_congr _ (fun q => btR s q || decide (q = p)) _ (fun q _ => btR_st s p q h)]
  have h1 := smB_or (btR s) (fun q => decide (q = p)) (8 * s.length)
  have h2 := (smB_one p (8 * s.length)).1
  omega
theorem onR_ad (n : Nat) (x : ByteArray) (s : List UInt8) (hn : 0 < n) (h : 8 * s.length = n) : ∀ k, onR (adK n x k s) ≤ onR s + k
  | 0 => Nat.le_refl _
  | k + 1 => by
    have h1 := onR_ad n x s hn h k
    have h2 := onR_st (adK n x k s) (plc n x k) (by rw [adK_len]; exact plc_in n x k s hn h)
    rw [adK]; omega
theorem onR_adL (n k : Nat) (hn : 0 < n) : ∀ (l : List ByteArray) (s : List UInt8), 8 * s.length = n → onR (adL n k l s) ≤ onR s + l.length * k
  | [], s, _ => by simp [adL]
  | x :: l, s, h => by
    show onR (adL n k l (adK n x k s)) ≤ _
    have h1 := onR_adL n k hn l (adK n x k s) (by rw [adK_len]; exact h)
    have h2 := onR_ad n x s hn h k
    rw [List.length_cons, Nat.succ_mul]; omega
theorem onR_zr (m : Nat) : onR (zrR m) = 0 := by
  rw [onR_eq, smB_zero]
  exact fun q _ => btR_zr m q
/-- So many bytes of another row joined to a row. -/
def jnK (s t : List UInt8) : Nat → List UInt8
  | 0 => s
  | i + 1 => (jnK s t i).set i (UInt8.ofNat (((jnK s t i).getD i 0).toNat ||| (t.getD i 0).toNat))
theorem jnK_len (s t : List UInt8) : ∀ i, (jnK s t i).length = s.length
  | 0 => rfl
  | i + 1 => by rw [jnK, List.length_set, jnK_len s t i]
theorem or_lt8 (a b : UInt8) : a.toNat ||| b.toNat < 256 := Nat.or_lt_two_pow (n := 8) a.toNat_lt b.toNat_lt
theorem or_toNat (a b : UInt8) : (UInt8.ofNat (a.toNat ||| b.toNat)).toNat = a.toNat ||| b.toNat := by
  rw [UInt8.toNat_ofNat']
  exact Nat.mod_eq_of_lt (or_lt8 a b)
theorem btR_jn (s t : List UInt8) (q : Nat) : ∀ i, i ≤ s.length → btR (jnK s t i) q = (btR s q || (decide (q / 8 < i) && btR t q))
  | 0, _ => by simp [jnK]
  | i + 1, h => by
    have ih := btR_jn s t q i (by omega)
    have hl := jnK_len s t i
    by_cases e : i = q / 8
    · have e1 : (jnK s t (i + 1)).getD (q / 8) 0 = UInt8.ofNat (((jnK s t i).getD i 0).toNat ||| (t.getD i 0).toNat) := by
        rw [jnK, ← e]
        have : i < (jnK s t i).length := by omega
        simp [List.getD, this]
      unfold btR at ih ⊢
      rw [e1, or_toNat, Nat.testBit_or]
      rw [← e] at ih ⊢
      rw [ih]
      simp
    · have e1 : (jnK s t (i + 1)).getD (q / 8) 0 = (jnK s t i).getD (q / 8) 0 := by
        rw [jnK]
        simp [List.getD, List.getElem?_set, e]
      unfold btR at ih ⊢
      rw [e1, ih]
      have : (q / 8 < i + 1) ↔ (q / 8 < i) := by omega
      simp [this]
/-- Two rows joined. -/
def jnR (s t : List UInt8) : List UInt8 := jnK s t t.length
theorem jnR_len (s t : List UInt8) : (jnR s t).length = s.length := jnK_len s t _
theorem btR_far (t : List UInt8) (q : Nat) (h : ¬ q / 8 < t.length) : btR t q = false := by
  unfold btR
  rw [List.getD, List.getElem?_eq_none (by omega)]; simp
theorem btR_jnR (s t : List UInt8) (q : Nat) (h : s.length = t.length) : btR (jnR s t) q = (btR s q || btR t q) := by
  rw [jnR, btR_jn s t q t.length (by omega)]
  by_cases e : q / 8 < t.length
  · simp [e]
  · rw [btR_far t q e]; simp
/-- A short number's bytes. -/
def e8f (n : Nat) : List UInt8 := bl (sb (encS n))
theorem num_split14 {s : ByteArray} (hk : shK s ≠ 0) : bl s = e8f (shN s) ++ bl (s.extract (shK s) s.size) := by
  have h := sh_again s hk
  have hl := shK_le s
  rw [e8f, h]
  show s.data.toList = _ ++ _
  have e1 : bl (s.extract 0 (shK s)) = (bl s).take (shK s) := extract_take s _ hl
  have e2 : bl (s.extract (shK s) s.size) = (bl s).drop (shK s) := by
    unfold bl
    rw [ByteArray.data_extract, Array.toList_extract]
    have : s.data.toList.length = s.size := by rw [Array.length_toList]; rfl
    simp only [List.extract_eq_take_drop]
    rw [List.take_of_length_le (by rw [List.length_drop]; omega)]
  rw [e1, e2, List.take_append_drop]; rfl
theorem num_front14 {s : ByteArray} {m : Nat} {r : List UInt8} (hm : m < 2 ^ 64) (h : bl s = e8f m ++ r) : shK s ≠ 0 ∧ shN s = m ∧ bl (s.extract (shK s) s.size) = r := by
  have e : s = sb (encS m) ++ ⟨r.toArray⟩ := by
    apply bl_inj
    rw [h, e8f]
    simp [bl]
  have h1 := sh_enc m s _ hm e
  have hk : shK s ≠ 0 := by
    rw [h1.2]
    have := slen_pos m
    omega
  refine ⟨hk, h1.1, ?_⟩
  have h2 := num_split14 hk
  rw [h1.1, h] at h2
  exact (List.append_cancel_left h2).symm
/-- A filter's bytes. -/
def IsF (S : ByteArray) (n k : Nat) (s : List UInt8) : Prop := okF n k ∧ 8 * s.length = n ∧ bl S = [77, 66, 70, 49] ++ (e8f n ++ (e8f k ++ s))
theorem bl_drop (S : ByteArray) (m : Nat) : bl (S.extract m S.size) = (bl S).drop m := by
  unfold bl
  rw [ByteArray.data_extract, Array.toList_extract]
  have : S.data.toList.length = S.size := by rw [Array.length_toList]; rfl
  simp only [List.extract_eq_take_drop]
  rw [List.take_of_length_le (by rw [List.length_drop]; omega)]
/-- What is read of a filter's bytes. -/
theorem IsF.read {S : ByteArray} {n k : Nat} {s : List UInt8} (h : IsF S n k s) (R T : ByteArray) (hR : R = S.extract 4 S.size) (hT : T = R.extract (shK R) R.size) :
    (bl S).take 4 = [77, 66, 70, 49] ∧ shK R ≠ 0 ∧ shN R = n ∧ shK T ≠ 0 ∧ shN T = k ∧ bl (T.extract (shK T) T.size) = s := by
  obtain ⟨h1, h2, h3⟩ := h
  have hn := okF_le h1
  have hk := h1.2.2
  have hb : bl R = e8f n ++ (e8f k ++ s) := by rw [hR, bl_drop, h3]; rfl
  obtain ⟨a1, a2, a3⟩ := num_front14 (by omega) hb
  rw [← hT] at a3
  obtain ⟨b1, b2, b3⟩ := num_front14 (by omega) a3
  exact ⟨by rw [h3]; rfl, a1, a2, b1, b2, b3⟩
theorem IsF.made {S R T : ByteArray} (hR : R = S.extract 4 S.size) (hT : T = R.extract (shK R) R.size) (h4 : (bl S).take 4 = [77, 66, 70, 49]) (a1 : shK R ≠ 0) (b1 : shK T ≠ 0) (ho : okF (shN R) (shN T)) (hl : 8 * (T.extract (shK T) T.size).size = shN R) :
    IsF S (shN R) (shN T) (bl (T.extract (shK T) T.size)) := by
  refine ⟨ho, by rw [bl_length]; exact hl, ?_⟩
  have e1 := num_split14 a1
  have e2 := num_split14 b1
  rw [← hT, e2, hR, bl_drop] at e1
  rw [← hR] at e1
  rw [← h4, ← e1, List.take_append_drop]
theorem IsF.one {S : ByteArray} {n k n' k' : Nat} {s s' : List UInt8} (h : IsF S n k s) (h' : IsF S n' k' s') : n = n' ∧ k = k' ∧ s = s' := by
  have a := h.read _ _ rfl rfl
  have b := h'.read _ _ rfl rfl
  exact ⟨a.2.2.1.symm.trans b.2.2.1, a.2.2.2.2.1.symm.trans b.2.2.2.2.1, a.2.2.2.2.2.symm.trans b.2.2.2.2.2⟩
theorem IsF.same {S S' : ByteArray} {n k : Nat} {s : List UInt8} (h : IsF S n k s) (h' : IsF S' n k s) : S = S' := bl_inj (h.2.2.trans h'.2.2.symm)
/-- A filter, as bytes. -/
def enF (n k : Nat) (s : List UInt8) : ByteArray := (⟨#[77, 66, 70, 49]⟩ ++ sb (encS n)) ++ sb (encS k) ++ ⟨s.toArray⟩
theorem enF_is {n k : Nat} {s : List UInt8} (h : okF n k) (hl : 8 * s.length = n) : IsF (enF n k s) n k s := ⟨h, hl, by simp [enF, bl, e8f]⟩
theorem IsF.eq {S : ByteArray} {n k : Nat} {s : List UInt8} (h : IsF S n k s) : S = enF n k s := h.same (enF_is h.1 h.2.1)
end Go.Proofs.YtbfoiocbmhhdbaaGreat
/- bloom: Ones. -/
namespace Go.Proofs.YtbfoiocbmhhdbaaGreat
open Go.RowKit
set_option linter.unusedSimpArgs false
set_option linter.unusedVariables false
theorem tabP_size : Lib.pop8tab.size = 256 := by decide +kernel
theorem tabP8 : ∀ B : Fin 256, wrap64 ((Lib.pop8tab[B.val]'(by rw [tabP_size]; exact B.isLt)).toNat : Int) = (popN B.val : Int) := by decide +kernel
end Go.Proofs.YtbfoiocbmhhdbaaGreat
/- The law's own: id, made. -/
namespace Go.Proofs.YtbfoiocbmhhdbaaGreat
open Go.RowKit
set_option linter.unusedSimpArgs false
set_option linter.unusedVariables false
/-- The name of a text's first bytes. -/
def idF (s : ByteArray) : ByteArray := ⟨(s.data.toList.take 32 ++ List.replicate (32 - s.size) (0 : UInt8)).toArray⟩
theorem idF_size (s : ByteArray) : (idF s).size = 32 := by
  show ((s.data.toList.take 32 ++ List.replicate (32 - s.size) (0 : UInt8)).toArray).size = 32
  have : s.data.toList.length = s.size := by rw [Array.length_toList]; rfl
  simp only [List.size_toArray, List.length_append, List.length_take, List.length_replicate, this]
  omega
/-- So many of them are laid. -/
def idK (s : ByteArray) (j : Nat) : Array Value := (bvc ((byl s).take j ++ List.replicate (32 - j) 0)).toArray
theorem idK_get (s : ByteArray) (j i : Nat) (hj : j ≤ s.size) (h32 : j ≤ 32) : (idK s j)[i]? = if i < j then some (.int .u8 (((byl s).getD i 0 : Nat) : Int)) else if i < 32 then some (.int .u8 0) else none := by
  have hl := byl_length s
  simp only [idK, bvc, List.getElem?_toArray, List.getElem?_map]
  by_cases e : i < j
  · rw [if_pos e, List.getElem?_append_left (by rw [List.length_take]; omega), List.getElem?_take, if_pos e, List.getElem?_eq_getElem (by omega), List.getD, List.getElem?_eq_getElem (by omega)]; rfl
  · rw [if_neg e, List.getElem?_append_right (by rw [List.length_take]; omega), List.length_take, List.getElem?_replicate]
    by_cases e2 : i < 32
    · rw [if_pos (by omega), if_pos e2]; rfl
    · rw [if_neg (by omega), if_neg e2]; rfl
theorem idK_size (s : ByteArray) (j : Nat) (hj : j ≤ s.size) (h32 : j ≤ 32) : (idK s j).size = 32 := by
  have hl := byl_length s
  simp only [idK, bvc, List.size_toArray, List.length_map, List.length_append, List.length_take, List.length_replicate]
  omega
theorem idK_next (s : ByteArray) (j : Nat) (hj : j < s.size) (h32 : j < 32) : (idK s j).setIfInBounds j (.int .u8 (((byl s).getD j 0 : Nat) : Int)) = idK s (j + 1) := by
  apply Array.ext_getElem?
  intro i
  rw [Array.getElem?_setIfInBounds, idK_get s j i (by omega) (by omega), idK_get s (j + 1) i (by omega) (by omega), idK_size s j (by omega) (by omega)]
  by_cases e : j = i
  · subst e; rw [if_pos rfl, if_pos h32, if_pos (by omega)]
  · rw [if_neg e]
    by_cases e2 : i < j
    · rw [if_pos e2, if_pos (by omega)]
    · have e3 : ¬ i < j + 1 := by omega
      rw [if_neg e2, if_neg e3]
theorem idK_zero (s : ByteArray) : idK s 0 = z32c := rfl
theorem idK_end (s : ByteArray) (j : Nat) (h : j = min s.size 32) : idK s j = idc (idF s) := by
  have hl := byl_length s
  unfold idK idc
  congr 2
  show _ = List.map UInt8.toNat (s.data.toList.take 32 ++ List.replicate (32 - s.size) (0 : UInt8))
  have e0 : List.map UInt8.toNat s.data.toList = byl s := rfl
  rw [List.map_append, List.map_take, e0, List.map_replicate]
  have e1 : (byl s).take j = (byl s).take 32 := by
    subst h
    by_cases e : s.size ≤ 32
    · rw [Nat.min_eq_left e, List.take_of_length_le (by omega), List.take_of_length_le (by omega)]
    · rw [Nat.min_eq_right (by omega)]
  have e2 : 32 - j = 32 - s.size := by omega
  rw [e1, e2]; rfl
theorem idK_one (s : ByteArray) (j : Nat) : (idK s j).all (·.oneCell') = true := Array.all_eq_true_iff_forall_mem.2 (by intro v hv; exact bvc_one _ v (by simpa [idK] using hv))
/-- While a name is laid. -/
structure IdS (w : World) (s : ByteArray) (j : Nat) (W : World) : Prop where
  res : Bk W w.heap.size z32c 48
  out : Bk W (w.heap.size + 1) (idK s j) 48
  bel : Below w.heap.size w W
theorem IdS.new (w : World) (s : ByteArray) : IdS w s 0 ((w.alloc (.cells z32c 48)).alloc (.cells z32c 48)) := by
  have h := bk_new (w.alloc (.cells z32c 48)) z32c 48
  rw [al_size] at h
  exact ⟨(bk_new _ _ _).alloc _, h, ((Below.refl _ _).alloc (Nat.le_refl _) _).alloc (by simp) _⟩
theorem IdS.next {w W : World} {s : ByteArray} {j : Nat} (h : IdS w s j W) (hj : j < s.size) (h32 : j < 32) : IdS w s (j + 1) (W.setCell ⟨w.heap.size + 1, j, none⟩ (.int .u8 (((byl s).getD j 0 : Nat) : Int))) := by
  have hg : W.grownBy (W.setCell ⟨w.heap.size + 1, j, none⟩ (.int .u8 (((byl s).getD j 0 : Nat) : Int))) (some (w.heap.size + 1)) := Lib.grownBy_setB (World.grownBy.refl W _) j _
  refine ⟨h.res.grown hg (by simp), ?_, below_own h.bel h.bel.size hg (by omega)⟩
  rw [← idK_next s j hj h32]
  exact h.out.set j _
end Go.Proofs.YtbfoiocbmhhdbaaGreat
/- munimentlaw15.id, munimentref15.id. -/
namespace Go.Proofs.YtbfoiocbmhhdbaaGreat
open Go.RowKit
set_option linter.unusedSimpArgs false
set_option linter.unusedVariables false
set_option maxHeartbeats 1000000 in
set_option maxRecDepth 100000 in
theorem id_any15 (s : ByteArray) (w : World) : Calls Tryz.prog 18 #[.string s] w fun e w' => e = .returned (.agg (idc (idF s))) ∧ Below w.heap.size w w' := by
  have HS : Hid (IdS w s 0 ((w.alloc (.cells z32c 48)).alloc (.cells z32c 48))) := IdS.new w s
  go_enter Tryz.func18, Tryz.ntmps18
  go_wp2
  go_loopw [4] (fun v wr => ∃ j : Nat, j ≤ 32 ∧ j ≤ s.size ∧ v = .int .i64 j ∧ Hid (IdS w s j wr)) (fun v _ => 33 - (intOf v).toNat)
  case atStart => exact ⟨0, by omega, by omega, rfl, HS.out⟩
  case round =>
    clear HS
    obtain ⟨j, h32, hjs, rfl, HS⟩ := hrel
    by_cases hlt : j < s.size ∧ j < 32
    · have h1 := hlt.1
      have h2 := hlt.2
      have k1 : (j : Int) < (s.size : Nat) := by omega
      have k2 : (j : Int) < 32 := by omega
      have hc : wr.cell? ⟨w.heap.size + 1, j, none⟩ = some (.int .u8 0) := by rw [HS.out.out.cell, idK_get s j j (by omega) (by omega), if_neg (by omega), if_pos h2]
      have hf := HS.out.out.frozen j
      have HN : Hid _ := HS.out.next h1 h2
      have e : (byl s).getD j 0 = s[j].toNat := by rw [List.getD, byl_getD s j h1]; rfl
      rw [e] at HN
      clear e hlt
      go_wp2
      go_roundw
      case rel => exact ⟨j + 1, by omega, by omega, by go_num, HN.out⟩
      case measure => simp [intOf]; omega
    · have hj : j = min s.size 32 := by omega
      have HE : Hid (idK s j = idc (idF s)) := idK_end s j hj
      have HI : Hid ((Tryz.prog.info? 48).map (·.size) = some (idK s j).size) := info_32 (idK_size s j hjs h32)
      have HO := idK_one s j
      have HZ := idK_size s j hjs h32
      have HK : Hid (idK s j = idc (idF s)) := HE
      obtain ⟨D, hD⟩ : ∃ D, idK s j = D := ⟨_, rfl⟩
      have HB1 : Hid (Bk wr (w.heap.size + 1) D 48) := by rw [← hD]; exact HS.out.out
      rw [hD] at HI HE HO HZ
      have HB0 : Hid (Bk wr w.heap.size z32c 48 ∧ Below w.heap.size w wr) := ⟨HS.out.res, HS.out.bel⟩
      clear HK hD HS
      have HOO : Hid (D.all (·.oneCell') = true ∧ D.size = 32) := ⟨HO, HZ⟩
      clear HO HZ
      by_cases hjl : j < s.size
      · have k1 : (j : Int) < (s.size : Nat) := by omega
        have k2 : ¬ (j : Int) < 32 := by omega
        clear hlt hj
        go_wp2_with (first
          | (refine wpList_load_row rfl 48 (.tmp 3) rfl (w.heap.size + 1) rfl 48 D (0, 0) _ HB1.out Tryz.underlying48 rfl HI.out ?_)
          | (refine wpList_store_row rfl 48 (.tmp 2) (.tmp 20) rfl w.heap.size D rfl rfl 48 z32c HB0.out.1 HI.out (by rw [z32c_size, HOO.out.2]) HOO.out.1 ?_))
        refine bodyPost_ret (results_cell_row rfl _ _ w.heap.size 48 D (0, 0) _ rfl (setRow_heap _ _ _ _ _ _ HB0.out.1) Tryz.underlying48 rfl HI.out) rfl ⟨by rw [HE.out], ?_⟩
        exact below_setRow HB0.out.2 (Nat.le_refl _) _
      · have k1 : ¬ (j : Int) < (s.size : Nat) := by omega
        clear hlt hj
        go_wp2_with (first
          | (refine wpList_load_row rfl 48 (.tmp 3) rfl (w.heap.size + 1) rfl 48 D (0, 0) _ HB1.out Tryz.underlying48 rfl HI.out ?_)
          | (refine wpList_store_row rfl 48 (.tmp 2) (.tmp 20) rfl w.heap.size D rfl rfl 48 z32c HB0.out.1 HI.out (by rw [z32c_size, HOO.out.2]) HOO.out.1 ?_))
        refine bodyPost_ret (results_cell_row rfl _ _ w.heap.size 48 D (0, 0) _ rfl (setRow_heap _ _ _ _ _ _ HB0.out.1) Tryz.underlying48 rfl HI.out) rfl ⟨by rw [HE.out], ?_⟩
        exact below_setRow HB0.out.2 (Nat.le_refl _) _
set_option maxHeartbeats 1000000 in
set_option maxRecDepth 100000 in
/-- The document's id: of a text that has 32 bytes. -/
theorem rid_any15 (s : ByteArray) (w : World) (hs : 32 ≤ s.size) : Calls Tryz.prog 35 #[.string s] w fun e w' => e = .returned (.agg (idc (idF s))) ∧ Below w.heap.size w w' := by
  have HS : Hid (IdS w s 0 ((w.alloc (.cells z32c 48)).alloc (.cells z32c 48))) := IdS.new w s
  go_enter Tryz.func35, Tryz.ntmps35
  go_wp2
  go_loopw [4] (fun v wr => ∃ j : Nat, j ≤ 32 ∧ v = .int .i64 j ∧ Hid (IdS w s j wr)) (fun v _ => 33 - (intOf v).toNat)
  case atStart => exact ⟨0, by omega, rfl, HS.out⟩
  case round =>
    clear HS
    obtain ⟨j, h32, rfl, HS⟩ := hrel
    by_cases h2 : j < 32
    · have h1 : j < s.size := by omega
      have k1 : (j : Int) < (s.size : Nat) := by omega
      have k2 : (j : Int) < 32 := by omega
      have hc : wr.cell? ⟨w.heap.size + 1, j, none⟩ = some (.int .u8 0) := by rw [HS.out.out.cell, idK_get s j j (by omega) (by omega), if_neg (by omega), if_pos h2]
      have hf := HS.out.out.frozen j
      have HN : Hid _ := HS.out.next h1 h2
      have e : (byl s).getD j 0 = s[j].toNat := by rw [List.getD, byl_getD s j h1]; rfl
      rw [e] at HN
      clear e
      go_wp2
      go_roundw
      case rel => exact ⟨j + 1, by omega, by go_num, HN.out⟩
      case measure => simp [intOf]; omega
    · have hj : j = min s.size 32 := by omega
      have HE : Hid (idK s j = idc (idF s)) := idK_end s j hj
      have HI : Hid ((Tryz.prog.info? 48).map (·.size) = some (idK s j).size) := info_32 (idK_size s j (by omega) h32)
      have HO := idK_one s j
      have HZ := idK_size s j (by omega) h32
      obtain ⟨D, hD⟩ : ∃ D, idK s j = D := ⟨_, rfl⟩
      have HB1 : Hid (Bk wr (w.heap.size + 1) D 48) := by rw [← hD]; exact HS.out.out
      rw [hD] at HI HE HO HZ
      have HB0 : Hid (Bk wr w.heap.size z32c 48 ∧ Below w.heap.size w wr) := ⟨HS.out.res, HS.out.bel⟩
      clear hD HS
      have HOO : Hid (D.all (·.oneCell') = true ∧ D.size = 32) := ⟨HO, HZ⟩
      clear HO HZ hj
      have k2 : ¬ (j : Int) < 32 := by omega
      go_wp2_with (first
        | (refine wpList_load_row rfl 48 (.tmp 3) rfl (w.heap.size + 1) rfl 48 D (0, 0) _ HB1.out Tryz.underlying48 rfl HI.out ?_)
        | (refine wpList_store_row rfl 48 (.tmp 2) (.tmp 14) rfl w.heap.size D rfl rfl 48 z32c HB0.out.1 HI.out (by rw [z32c_size, HOO.out.2]) HOO.out.1 ?_))
      refine bodyPost_ret (results_cell_row rfl _ _ w.heap.size 48 D (0, 0) _ rfl (setRow_heap _ _ _ _ _ _ HB0.out.1) Tryz.underlying48 rfl HI.out) rfl ⟨by rw [HE.out], ?_⟩
      exact below_setRow HB0.out.2 (Nat.le_refl _) _
end Go.Proofs.YtbfoiocbmhhdbaaGreat
/- Plain facts of merging: two sorted lists of entries, taken one by one. -/
namespace Go.Proofs.YtbfoiocbmhhdbaaGreat
set_option linter.unusedSimpArgs false
set_option linter.unusedVariables false
/-- Names do not fall. -/
def Srt (l : List Xe) : Prop := l.Pairwise (fun a b => ltN b.id a.id = false)
theorem leN_trans {a b c : ByteArray} (h : ltN b a = false) (g : ltN c b = false) : ltN c a = false := by
  rw [Bool.eq_false_iff]
  intro q
  by_cases e : b = a
  · subst e; rw [g] at q; cases q
  · by_cases e2 : c = b
    · subst e2; rw [h] at q; cases q
    · have h1 : ltN a b = true := ltN_ne (fun x => e x.symm) h
      have h2 := ltN_trans q h1
      rw [g] at h2
      cases h2
/-- How the merging stands: out, and what is left of both. -/
structure Mg (l O A B : List Xe) : Prop where
  pm : (O ++ (A ++ B)).Perm l
  so : Srt O
  sa : Srt A
  sb : Srt B
  oa : ∀ x ∈ O, ∀ y ∈ A, ltN y.id x.id = false
  ob : ∀ x ∈ O, ∀ y ∈ B, ltN y.id x.id = false
theorem Mg.start {l A B : List Xe} (h : (A ++ B).Perm l) (ha : Srt A) (hb : Srt B) : Mg l [] A B := ⟨h, List.Pairwise.nil, ha, hb, by simp, by simp⟩
theorem Srt.snoc {O : List Xe} {e : Xe} (h : Srt O) (he : ∀ x ∈ O, ltN e.id x.id = false) : Srt (O ++ [e]) := by
  refine List.pairwise_append.2 ⟨h, by simp, fun x hx y hy => ?_⟩
  rw [List.mem_singleton.1 hy]
  exact he x hx
theorem Srt.head {e : Xe} {r : List Xe} (h : Srt (e :: r)) : Srt r ∧ ∀ y ∈ r, ltN y.id e.id = false := ⟨(List.pairwise_cons.1 h).2, (List.pairwise_cons.1 h).1⟩
/-- The first of B is less than the first of A. -/
theorem Mg.right {l O A B : List Xe} {a b : Xe} (h : Mg l O (a :: A) (b :: B)) (hlt : ltN b.id a.id = true) : Mg l (O ++ [b]) (a :: A) B := by
  obtain ⟨q1, q2⟩ := h.sb.head
  obtain ⟨r1, r2⟩ := h.sa.head
  have hab : ltN a.id b.id = false := ltN_asym hlt
  refine ⟨?_, h.so.snoc (fun x hx => h.ob x hx b List.mem_cons_self), h.sa, q1, fun x hx y hy => ?_, fun x hx y hy => ?_⟩
  · refine List.Perm.trans ?_ h.pm
    rw [List.append_assoc]
    refine List.Perm.append_left O ?_
    rw [List.singleton_append]
    exact List.perm_middle.symm
  · rcases List.mem_append.1 hx with hx | hx
    · exact h.oa x hx y hy
    · rw [List.mem_singleton.1 hx]
      rcases List.mem_cons.1 hy with rfl | hy
      · exact hab
      · exact leN_trans hab (r2 y hy)
  · rcases List.mem_append.1 hx with hx | hx
    · exact h.ob x hx y (List.mem_cons_of_mem _ hy)
    · rw [List.mem_singleton.1 hx]; exact q2 y hy
/-- It is not. -/
theorem Mg.left {l O A B : List Xe} {a b : Xe} (h : Mg l O (a :: A) (b :: B)) (hlt : ltN b.id a.id = false) : Mg l (O ++ [a]) A (b :: B) := by
  obtain ⟨q1, q2⟩ := h.sb.head
  obtain ⟨r1, r2⟩ := h.sa.head
  refine ⟨?_, h.so.snoc (fun x hx => h.oa x hx a List.mem_cons_self), r1, h.sb, fun x hx y hy => ?_, fun x hx y hy => ?_⟩
  · refine List.Perm.trans ?_ h.pm
    rw [List.append_assoc]
    exact List.Perm.refl _
  · rcases List.mem_append.1 hx with hx | hx
    · exact h.oa x hx y (List.mem_cons_of_mem _ hy)
    · rw [List.mem_singleton.1 hx]; exact r2 y hy
  · rcases List.mem_append.1 hx with hx | hx
    · exact h.ob x hx y hy
    · rw [List.mem_singleton.1 hx]
      rcases List.mem_cons.1 hy with rfl | hy
      · exact hlt
      · exact leN_trans hlt (q2 y hy)
/-- One of them is at its end. -/
theorem Mg.done {l O A B : List Xe} (h : Mg l O A B) (hn : A = [] ∨ B = []) : Srt (O ++ A ++ B) ∧ (O ++ A ++ B).Perm l := by
  refine ⟨?_, by rw [List.append_assoc]; exact h.pm⟩
  rcases hn with rfl | rfl
  · rw [List.append_nil]
    exact List.pairwise_append.2 ⟨h.so, h.sb, h.ob⟩
  · rw [List.append_nil]
    exact List.pairwise_append.2 ⟨h.so, h.sa, h.oa⟩
/-- Sorted, and apart: the one rising order. -/
theorem Srt.one {L l M : List Xe} (h : Srt L) (hp : L.Perm l) (ha : Aprt l) (hM : Rise M) (hq : M.Perm l) : L = M := by
  refine rise_one (hp.trans hq.symm) ?_ hM
  have hap : Aprt L := ha.perm hp.symm
  exact (h.and hap).imp (fun {a b} q => ltN_ne q.2 q.1)
end Go.Proofs.YtbfoiocbmhhdbaaGreat
/- A drawn append whose run is known. -/
namespace Go.Proofs.YtbfoiocbmhhdbaaGreat
open Go.RowKit
set_option linter.unusedSimpArgs false
set_option linter.unusedVariables false
theorem step_app_run {P : Program} {ops : Array Oper} {o : Oper} {a : Act} {w : World} {K : Act → World → Prop} {Q : Exit → Act → World → Prop} {E : Prop} (hgd : o.guard = none) (s x : Operand) (t u : TypeId)
    (ho : o.op = .call { callee := .builtin .append, args := #[s, x], argTypes := #[t, u] }) (v y v' : Value) (w' : World) (hs : a.eval s = v) (hx : a.eval x = y) (hr : (Builtin.append_ #[t, u] o.type #[v, y]).run P w = .ok v' w') (h : K (a.put o.dst v') w') :
    if Region.wanted o (yielded ops a.tmps) = true then Oper.wp P o a w K Q else E := by
  have hw : Region.wanted o (yielded ops a.tmps) = true := by simp [Region.wanted, hgd]
  rw [if_pos hw]
  unfold Oper.wp execOp
  simp only [ho, resolve, invoke, builtin, Sem.run_bind, Sem.run_pure, Result.andThen_ok, List.map_toArray, List.map_cons, List.map_nil, hs, hx, hr]
  exact h
end Go.Proofs.YtbfoiocbmhhdbaaGreat
/- Rows of the call's own, of two cells an element; a result of a row and a number. No program is named here. -/
namespace Go.Proofs.YtbfoiocbmhhdbaaGreat
open Go.RowKit
set_option linter.unusedSimpArgs false
set_option linter.unusedVariables false
theorem res_cell_tmp {P : Program} {fn : Func} {p u : Tmp} {ty : TypeId} (h : fn.results = #[.cell p ty, .tmp u]) (tmps : Array Value) (w : World) (g : Nat) (t : TypeId) (cs : Array Value) (fr : Nat × Nat) (d : TypeDesc)
    (hp : tmps.getD p undef = .pointer (some ⟨g, 0, none⟩)) (hg : w.heap[g]? = some (.cells cs t fr))
    (hu : P.underlying ty = some d) (hd : (match d with | .struct _ | .array _ _ => true | _ => false) = true) (hi : (P.info? ty).map (·.size) = some cs.size) :
    (results fn tmps).run P w = .ok (.tuple #[.agg cs, tmps.getD u undef]) w := by
  have hp' : tmps[p]?.getD undef = .pointer (some ⟨g, 0, none⟩) := by simpa using hp
  simp [results, h, hp', asAddr, run_loadVar_row w g t ty cs fr d hg hu hd hi]
theorem rows_low {B B' n k : Nat} {w : World} {v : Value} {xs : List Value} {e : TypeId} (h : w.ownsRow B e k v n xs) (hB : B' ≤ B) : w.ownsRow B' e k v n xs := by
  refine ⟨h.1, ?_⟩
  rcases h.2 with h | ⟨g, cap, cur, h1, h2, h3⟩
  · exact .inl h
  · exact .inr ⟨g, cap, cur, h1, by omega, h3⟩
theorem rows_bel {B B' n k : Nat} {w0 w w' : World} {v : Value} {xs : List Value} {e : TypeId} (hb : Below B w0 w) (hz : B ≤ w.heap.size) (ho : w.ownsRow B' e k v n xs) (hB : B ≤ B') (hg : w.grownBy w' v.ownBlock) : Below B w0 w' := by
  refine hb.grown hg hz (fun b hk => ?_)
  rcases ho.2 with ⟨rfl, _⟩ | ⟨g, cap, cur, rfl, hle, _⟩
  · cases hk
  · simp [Value.ownBlock] at hk; omega
theorem rows_blk {B n k : Nat} {w : World} {v : Value} {xs : List Value} {e : TypeId} (ho : w.ownsRow B e k v n xs) {g : Nat} (hg : v.ownBlock = some g) : B ≤ g ∧ g < w.heap.size := by
  rcases ho.2 with ⟨rfl, _⟩ | ⟨g', cap, cur, rfl, hle, hc, _⟩
  · cases hg
  · simp [Value.ownBlock] at hg; subst hg; exact ⟨hle, (Array.getElem?_eq_some_iff.1 hc).1⟩
theorem rows_keep {B n k : Nat} {w w' : World} {v : Value} {xs : List Value} {e : TypeId} (ho : w.ownsRow B e k v n xs) (h : ∀ g, B ≤ g → g < w.heap.size → w'.heap[g]? = w.heap[g]?) : w'.ownsRow B e k v n xs := by
  refine ⟨ho.1, ?_⟩
  rcases ho.2 with h1 | ⟨g, cap, cur, h1, h2, hc, h3⟩
  · exact .inl h1
  · exact .inr ⟨g, cap, cur, h1, h2, by rw [h g h2 (Array.getElem?_eq_some_iff.1 hc).1]; exact hc, h3⟩
theorem new_two (w : World) (p q : Value) (T : TypeId) : ∀ (j : Nat) (u : Value), [p, q][j]? = some u → (w.alloc (.cells #[p, q] T)).cell? ((⟨w.heap.size, 0, none⟩ : Addr).add j) = some u := by
  intro j u h
  rw [WideShapes.add_plain, Nat.zero_add, World.cell?_alloc_new]
  simpa using h
theorem rows_none {B k : Nat} {w : World} {e : TypeId} : w.ownsRow B e k (.slice none 0 0) 0 [] := ⟨by simp, .inl ⟨rfl, rfl⟩⟩
end Go.Proofs.YtbfoiocbmhhdbaaGreat
/- The law's own: an entry, a list of entries with a mark behind it. -/
namespace Go.Proofs.YtbfoiocbmhhdbaaGreat
open Go.RowKit
set_option linter.unusedSimpArgs false
set_option linter.unusedVariables false
/-- One entry is appended to a row of the call's own. -/
theorem xe_app {B : Nat} {w : World} {l : List Xe} {v : Value} (h : w.ownsRow B 50 35 v l.length (xvs l)) (hB : B ≤ w.heap.size) (e : Xe) (hs : e.id.size = 32) (hn : (l.length + 1) * 56 ≤ 140737488355328) :
    ∃ g cp w7, (Builtin.append_ #[66, 66] 66 #[v, .slice (some ⟨w.heap.size, 0, none⟩) 1 1]).run Tryz.prog (w.alloc (.cells (xeC e) 50)) = .ok (.slice (some ⟨g, 0, none⟩) (l.length + 1) cp) w7 ∧
      w7.ownsRow B 50 35 (.slice (some ⟨g, 0, none⟩) (l.length + 1) cp) (l.length + 1) (xvs (l ++ [e])) ∧ l.length + 1 ≤ cp ∧ (w.alloc (.cells (xeC e) 50)).grownBy w7 v.ownBlock := by
  obtain ⟨i0, hi, hz0, hz1, hz2⟩ := info_parts inf_xe
  obtain ⟨v', w7, hrun, hown, hgrow, _, hat⟩ := run_append_own_at (P := Tryz.prog) (w := w.alloc (.cells (xeC e) 50)) B 66 66 50 i0 (.agg z35X) 35 56 Tryz.underlying66 hi hz0 hz1 hz2 rfl (by decide) v l.length (xvs l) (h.alloc _) ⟨w.heap.size, 0, none⟩ 1 1 (xeC e).toList (by rw [Array.length_toList, xeC_size e hs])
    (fun j u hu => by
      rw [WideShapes.add_plain, (bk_new w (xeC e) 50).cell, Nat.zero_add]
      rwa [Array.getElem?_toList] at hu) (xeC_one e) (by unfold maxLen; omega) (by omega) (by rw [al_size]; omega)
  have ho : w7.ownsRow B 50 35 v' (l.length + 1) (xvs (l ++ [e])) := by rw [xvs_snoc]; exact hown
  obtain ⟨g, cp, hv, hcp⟩ : ∃ g cp, v' = .slice (some ⟨g, 0, none⟩) (l.length + 1) cp ∧ l.length + 1 ≤ cp := by
    rcases ho.2 with ⟨_, h0⟩ | ⟨g7, c7, cur, h1, _, _, h2, _⟩
    · omega
    · exact ⟨g7, c7, h1, h2⟩
  subst hv
  exact ⟨g, cp, w7, hrun, ho, hcp, hgrow⟩
theorem grn_keepX {w w' : World} (h : Below w.heap.size w w') : w.grownBy w' none := ⟨h.os, h.tape, h.output, h.size, fun k hk _ => h.block k hk⟩
/-- The mark. -/
def mkX : Xe := ⟨⟨(List.replicate 32 (0 : UInt8)).toArray⟩, 77, 0, 0⟩
theorem mkX_id : mkX.id.size = 32 := by decide
structure OwX (w0 : World) (l : List Xe) (v : Value) (w : World) : Prop where
  ow : w.ownsRow w0.heap.size 50 35 v l.length (xvs l)
  ids : ∀ e ∈ l, e.id.size = 32
  bel : Below w0.heap.size w0 w
theorem OwX.next {w0 w w' : World} {l : List Xe} {v : Value} (h : OwX w0 l v w) (hb : Below w.heap.size w w') : OwX w0 l v w' :=
  ⟨rows_keep h.ow (fun g _ hg => hb.block g hg), h.ids, h.bel.trans (hb.mono h.bel.size)⟩
theorem OwX.app {w0 w : World} {l : List Xe} {v : Value} (h : OwX w0 l v w) (e : Xe) (hs : e.id.size = 32) (hn : (l.length + 1) * 56 ≤ 140737488355328) :
    ∃ g cp w7, (Builtin.append_ #[66, 66] 66 #[v, .slice (some ⟨w.heap.size, 0, none⟩) 1 1]).run Tryz.prog (w.alloc (.cells (xeC e) 50)) = .ok (.slice (some ⟨g, 0, none⟩) (l.length + 1) cp) w7 ∧
      OwX w0 (l ++ [e]) (.slice (some ⟨g, 0, none⟩) (l.length + 1) cp) w7 ∧ l.length + 1 ≤ cp := by
  obtain ⟨g, cp, w7, h1, h2, h3, h4⟩ := xe_app h.ow h.bel.size e hs hn
  refine ⟨g, cp, w7, h1, ⟨by rw [List.length_append]; exact h2, ?_, ?_⟩, h3⟩
  · intro x hx
    rcases List.mem_append.1 hx with hx | hx
    · exact h.ids x hx
    · rw [List.mem_singleton.1 hx]; exact hs
  · exact rows_bel (h.bel.alloc h.bel.size _) (by rw [al_size]; have := h.bel.size; omega) (h.ow.alloc _) (Nat.le_refl _) h4
end Go.Proofs.YtbfoiocbmhhdbaaGreat
