import Derived.Test.YtfmfdaoipfpijaaGreatDoorY23
import Derived.Test.YtfmfdaoipfpijaaGreatDoorY3
import Derived.Test.YtfmfdaoipfpijaaGreatDoorY5
import Derived.Test.YtfmfdaoipfpijaaGreatDoorY2
import Derived.Test.YtfmfdaoipfpijaaGreatDoorY10
import Derived.RegionTactic
import Derived.Test.YtfmfdaoipfpijaaGreatDoorY8
import Derived.Lib.ConvBytes
import Derived.ChangeKeysEq
import Derived.Laws.StructEq
import Derived.Test.YtfmfdaoipfpijaaGreatDoorY4
import Derived.Test.YtfmfdaoipfpijaaGreatDoorY1
/- bloom: the closure of Has, eachPlace, Add, Has. -/
namespace Go.Proofs.YtfmfdaoipfpijaaGreatDoor
open Go.RowKit
set_option linter.unusedSimpArgs false
set_option linter.unusedVariables false
theorem and_bit (s : List UInt8) (p : Nat) : (s.getD (p / 8) 0).toNat &&& 2 ^ (p % 8) = (btR s p).toNat * 2 ^ (p % 8) := by
  apply Nat.eq_of_testBit_eq
  intro j
  rw [Nat.testBit_and, Nat.testBit_two_pow]
  by_cases e : p % 8 = j
  · subst e
    rw [show (s.getD (p / 8) 0).toNat.testBit (p % 8) = btR s p from rfl]
    cases btR s p <;> simp [Nat.testBit_two_pow]
  · cases btR s p <;> simp [Nat.testBit_two_pow, e]
theorem num_raw (a b c d : Nat) (ha : a < 256) (hb : b < 256) (hc : c < 256) (hd : d < 256) : bits .or .u32 (bits .or .u32 (bits .or .u32 ((a : Int) % 4294967296 * 16777216 % 4294967296) ((b : Int) % 4294967296 * 65536 % 4294967296)) ((c : Int) % 4294967296 * 256 % 4294967296)) ((d : Int) % 4294967296) = (((((a * 256 + b) * 256 + c) * 256 + d : Nat)) : Int) := by
  have e1 : (a : Int) % (4294967296 : Int) * (16777216 : Int) % (4294967296 : Int) = Int.ofNat (a <<< 24) := by rw [Nat.shiftLeft_eq]; show _ = ((a * 2 ^ 24 : Nat) : Int); omega
  have e2 : (b : Int) % (4294967296 : Int) * (65536 : Int) % (4294967296 : Int) = Int.ofNat (b <<< 16) := by rw [Nat.shiftLeft_eq]; show _ = ((b * 2 ^ 16 : Nat) : Int); omega
  have e3 : (c : Int) % (4294967296 : Int) * (256 : Int) % (4294967296 : Int) = Int.ofNat (c <<< 8) := by rw [Nat.shiftLeft_eq]; show _ = ((c * 2 ^ 8 : Nat) : Int); omega
  have e4 : (d : Int) % 4294967296 = (d : Int) := by omega
  have a1 : a <<< 24 < 4294967296 := by rw [Nat.shiftLeft_eq]; omega
  have b1 : b <<< 16 < 2 ^ 24 := by rw [Nat.shiftLeft_eq]; omega
  have c1 : c <<< 8 < 2 ^ 16 := by rw [Nat.shiftLeft_eq]; omega
  have o1 : a <<< 24 ||| b <<< 16 = (a * 256 + b) <<< 16 := by
    rw [← Nat.shiftLeft_add_eq_or_of_lt b1, Nat.shiftLeft_eq, Nat.shiftLeft_eq, Nat.shiftLeft_eq]; omega
  have o2 : (a * 256 + b) <<< 16 ||| c <<< 8 = ((a * 256 + b) * 256 + c) <<< 8 := by
    rw [← Nat.shiftLeft_add_eq_or_of_lt c1, Nat.shiftLeft_eq, Nat.shiftLeft_eq, Nat.shiftLeft_eq]; omega
  have o3 : ((a * 256 + b) * 256 + c) <<< 8 ||| d = ((a * 256 + b) * 256 + c) * 256 + d := by
    rw [← Nat.shiftLeft_add_eq_or_of_lt hd, Nat.shiftLeft_eq]
  rw [e1, e2, e3, e4]
  simp only [Int.ofNat_eq_natCast]
  rw [u32_or_nat _ _ a1 (by omega), o1, u32_or_nat _ _ (by rw [Nat.shiftLeft_eq]; omega) (by omega), o2, u32_or_nat _ _ (by rw [Nat.shiftLeft_eq]; omega) (by omega), o3]
theorem slice_id (b k : Nat) (hk : k < 8) (w : World) :
    (Instr.sliceAt 24 (.pointer (some ⟨b, 0, none⟩)) (some (.int .i64 (4 * (k : Int)))) none none).run Tryz.prog w = .ok (.slice (some ⟨b, 4 * k, none⟩) (32 - 4 * k) (32 - 4 * k)) w := by
  have e1 : Tryz.prog.elem 24 = 5 := by kernel_rfl
  have e2 : Tryz.prog.arrayLen 24 = 32 := by kernel_rfl
  have e0 : Tryz.prog.underlying 24 = some (.array (Tryz.prog.arrayLen 24) (Tryz.prog.elem 24)) := by kernel_rfl
  rw [run_sliceAt_array_l (P := Tryz.prog) w 24 ⟨b, 0, none⟩ e0 .i64 (4 * (k : Int)) (by omega) (by rw [e2]; omega)]
  rw [e1, e2, sizeOf_u8']
  simp only [slicedAt, Result.andThen, Addr.add_mid]
  rw [show (4 * (k : Int)).toNat = 4 * k from by omega]
  have e3 : ¬ 32 = 4 * k := by omega
  simp only [Nat.mul_one, Nat.zero_add, e3, if_false]
/-- What eachPlace hands the places to. -/
structure Ep (x : ByteArray) (f n k F : Nat) (cs : Array Value) (E : Nat → World → Prop) : Prop where
  enter : ∀ args u, (callFunc F args).run Tryz.prog u = .ok (.enter F args) u
  alloc : ∀ w o, E 0 w → E 0 (w.alloc o)
  drew : ∀ i w, E i w → E i w.drew
  bits : ∀ i w, E i w → w.cell? ⟨f, 0, none⟩ = some (.int .i64 (n : Int))
  hash : ∀ w, E 0 w → w.cell? ⟨f, 1, none⟩ = some (.int .i64 (k : Int))
  next : ∀ i w, i < k → E i w → Calls Tryz.prog F (#[.int .i64 ((plc n x i / 8 : Nat) : Int), .int .u8 ((2 ^ (plc n x i % 8) : Nat) : Int)] ++ cs) w fun e w' => e = .returned (.tuple #[]) ∧ E (i + 1) w' ∧ ∀ b C, Bk w b C 24 → Bk w' b C 24
theorem byl_lt14 (x : ByteArray) (j : Nat) : (byl x).getD j 0 < 256 := by
  rw [List.getD]
  by_cases h : j < (byl x).length
  · rw [List.getElem?_eq_getElem h]
    simp only [Option.getD_some, byl, List.getElem_map]
    exact UInt8.toNat_lt _
  · rw [List.getElem?_eq_none (by omega)]; simp
theorem idc_cell {w : World} {b : Nat} {x : ByteArray} {T : TypeId} (h : Bk w b (idc x) T) (hx : x.size = 32) (j : Nat) (hj : j < 32) : w.cell? ⟨b, j, none⟩ = some (.int .u8 (((byl x).getD j 0 : Nat) : Int)) := by
  rw [h.cell, idc_get x j (by omega), List.getD, byl_getD x j (by omega)]; rfl
end Go.Proofs.YtfmfdaoipfpijaaGreatDoor
/- bloom: Add, Has. -/
namespace Go.Proofs.YtfmfdaoipfpijaaGreatDoor
open Go.RowKit
set_option linter.unusedSimpArgs false
set_option linter.unusedVariables false
theorem bk_ne_row {w : World} {g b : Nat} {s : List UInt8} {C : Array Value} {T : TypeId} (h : Rw w g s) (hb : Bk w b C T) (hT : T ≠ 5) : g ≠ b := by
  rintro rfl
  obtain ⟨D, fz, h2, _⟩ := h
  unfold Bk at hb
  rw [hb] at h2
  injection h2 with h2
  injection h2 with _ h2 _
  exact hT h2
theorem idc_all (x : ByteArray) : (idc x).all (·.oneCell') = true := Array.all_eq_true_iff_forall_mem.2 (by intro v hv; exact bvc_one _ v (by simpa [idc] using hv))
end Go.Proofs.YtfmfdaoipfpijaaGreatDoor
/- The mathematics of filters: how many bits are set; joining; bytes. No program is named here. -/
namespace Go.Proofs.YtfmfdaoipfpijaaGreatDoor
set_option linter.unusedSimpArgs false
set_option linter.unusedVariables false
open Go
/-- How many bits of a byte are set. -/
def popN (b : Nat) : Nat := (b.testBit 0).toNat + (b.testBit 1).toNat + (b.testBit 2).toNat + (b.testBit 3).toNat + (b.testBit 4).toNat + (b.testBit 5).toNat + (b.testBit 6).toNat + (b.testBit 7).toNat
theorem popN_le (b : Nat) : popN b ≤ 8 := by
  have h : ∀ k, (b.testBit k).toNat ≤ 1 := fun k => Bool.toNat_le _
  have := h 0; have := h 1; have := h 2; have := h 3; have := h 4; have := h 5; have := h 6; have := h 7
  unfold popN; omega
/-- How many bits of a row are set. -/
def onR (s : List UInt8) : Nat := (s.map fun b : UInt8 => popN b.toNat).sum
theorem onR_le : ∀ s : List UInt8, onR s ≤ 8 * s.length
  | [] => by simp [onR]
  | b :: s => by
    have h1 := onR_le s
    have h2 := popN_le b.toNat
    unfold onR at h1 ⊢
    simp only [List.map_cons, List.sum_cons, List.length_cons]
    omega
theorem onR_snoc (s : List UInt8) (b : UInt8) : onR (s ++ [b]) = onR s + popN b.toNat := by simp [onR]
theorem onR_take (s : List UInt8) (i : Nat) (h : i < s.length) : onR (s.take (i + 1)) = onR (s.take i) + popN (s.getD i 0).toNat := by
  rw [List.take_add_one, List.getElem?_eq_getElem h, Option.toList_some, onR_snoc, List.getD, List.getElem?_eq_getElem h]; rfl
/-- How often a thing holds below m. -/
def smB (f : Nat → Bool) : Nat → Nat
  | 0 => 0
  | m + 1 => smB f m + (f m).toNat
theorem smB_congr (f g : Nat → Bool) : ∀ m, (∀ q, q < m → f q = g q) → smB f m = smB g m
  | 0, _ => rfl
  | m + 1, h => by rw [smB, smB, smB_congr f g m (fun q hq => h q (by omega)), h m (by omega)]
theorem smB_add (f : Nat → Bool) (m : Nat) : ∀ n, smB f (m + n) = smB f m + smB (fun q => f (m + q)) n
  | 0 => rfl
  | n + 1 => by rw [← Nat.add_assoc, smB, smB_add f m n, smB, Nat.add_assoc]
theorem smB_or (f g : Nat → Bool) : ∀ m, smB (fun q => f q || g q) m ≤ smB f m + smB g m
  | 0 => by simp [smB]
  | m + 1 => by
    have := smB_or f g m
    simp only [smB]
    have h : (f m || g m).toNat ≤ (f m).toNat + (g m).toNat := by cases f m <;> cases g m <;> decide
    omega
theorem smB_one (p : Nat) : ∀ m, smB (fun q => decide (q = p)) m ≤ 1 ∧ (m ≤ p → smB (fun q => decide (q = p)) m = 0)
  | 0 => by simp [smB]
  | m + 1 => by
    have ⟨h1, h2⟩ := smB_one p m
    simp only [smB]
    by_cases e : m = p
    · subst e
      rw [h2 (Nat.le_refl _)]
      simp
    · simp only [e, decide_false, Bool.toNat_false, Nat.add_zero]
      exact ⟨h1, fun h => h2 (by omega)⟩
theorem smB_zero (f : Nat → Bool) : ∀ m, (smB f m = 0 ↔ ∀ q, q < m → f q = false)
  | 0 => by simp [smB]
  | m + 1 => by
    rw [smB, Nat.add_eq_zero_iff, smB_zero f m]
    constructor
    · rintro ⟨h1, h2⟩ q hq
      by_cases e : q = m
      · subst e; cases hf : f q <;> simp [hf] at h2 ⊢
      · exact h1 q (by omega)
    · intro h
      exact ⟨fun q hq => h q (by omega), by rw [h m (by omega)]; rfl⟩
theorem smB_all (f : Nat → Bool) : ∀ m, (∀ q, q < m → f q = true) → smB f m = m
  | 0, _ => rfl
  | m + 1, h => by rw [smB, smB_all f m (fun q hq => h q (by omega)), h m (by omega)]; rfl
theorem btR_cons_lo (b : UInt8) (s : List UInt8) (q : Nat) (h : q < 8) : btR (b :: s) q = b.toNat.testBit q := by
  unfold btR
  rw [Nat.div_eq_of_lt h, Nat.mod_eq_of_lt h]; rfl
theorem btR_cons_hi (b : UInt8) (s : List UInt8) (q : Nat) : btR (b :: s) (8 + q) = btR s q := by
  unfold btR
  rw [show (8 + q) / 8 = q / 8 + 1 from by omega, show (8 + q) % 8 = q % 8 from by omega]; rfl
theorem onR_eq : ∀ s : List UInt8, onR s = smB (btR s) (8 * s.length)
  | [] => rfl
  | b :: s => by
    have e : 8 * (b :: s).length = 8 + 8 * s.length := by simp only [List.length_cons]; omega
    rw [e, smB_add, smB_congr _ (btR s) _ (fun q _ => btR_cons_hi b s q), ← onR_eq s, smB_congr _ (fun q => b.toNat.testBit q) 8 (fun q hq => btR_cons_lo b s q hq)]
    simp only [onR, List.map_cons, List.sum_cons, smB, popN, Nat.zero_add]
theorem onR_st (s : List UInt8) (p : Nat) (h : p / 8 < s.length) : onR (stR s p) ≤ onR s + 1 := by
  rw [onR_eq, onR_eq, stR_len, smB_congr _ (fun q => btR s q || decide (q = p)) _ (fun q _ => btR_st s p q h)]
  have h1 := smB_or (btR s) (fun q => decide (q = p)) (8 * s.length)
  have h2 := (smB_one p (8 * s.length)).1
  omega
theorem onR_ad (n : Nat) (x : ByteArray) (s : List UInt8) (hn : 0 < n) (h : 8 * s.length = n) : ∀ k, onR (adK n x k s) ≤ onR s + k
  | 0 => Nat.le_refl _
  | k + 1 => by
    have h1 := onR_ad n x s hn h k
    have h2 := onR_st (adK n x k s) (plc n x k) (by rw [adK_len]; exact plc_in n x k s hn h)
    rw [adK]; omega
theorem onR_adL (n k : Nat) (hn : 0 < n) : ∀ (l : List ByteArray) (s : List UInt8), 8 * s.length = n → onR (adL n k l s) ≤ onR s + l.length * k
  | [], s, _ => by simp [adL]
  | x :: l, s, h => by
    show onR (adL n k l (adK n x k s)) ≤ _
    have h1 := onR_adL n k hn l (adK n x k s) (by rw [adK_len]; exact h)
    have h2 := onR_ad n x s hn h k
    rw [List.length_cons, Nat.succ_mul]; omega
theorem onR_zr (m : Nat) : onR (zrR m) = 0 := by
  rw [onR_eq, smB_zero]
  exact fun q _ => btR_zr m q
/-- So many bytes of another row joined to a row. -/
def jnK (s t : List UInt8) : Nat → List UInt8
  | 0 => s
  | i + 1 => (jnK s t i).set i (UInt8.ofNat (((jnK s t i).getD i 0).toNat ||| (t.getD i 0).toNat))
theorem jnK_len (s t : List UInt8) : ∀ i, (jnK s t i).length = s.length
  | 0 => rfl
  | i + 1 => by rw [jnK, List.length_set, jnK_len s t i]
theorem or_lt8 (a b : UInt8) : a.toNat ||| b.toNat < 256 := Nat.or_lt_two_pow (n := 8) a.toNat_lt b.toNat_lt
theorem or_toNat (a b : UInt8) : (UInt8.ofNat (a.toNat ||| b.toNat)).toNat = a.toNat ||| b.toNat := by
  rw [UInt8.toNat_ofNat']
  exact Nat.mod_eq_of_lt (or_lt8 a b)
theorem btR_jn (s t : List UInt8) (q : Nat) : ∀ i, i ≤ s.length → btR (jnK s t i) q = (btR s q || (decide (q / 8 < i) && btR t q))
  | 0, _ => by simp [jnK]
  | i + 1, h => by
    have ih := btR_jn s t q i (by omega)
    have hl := jnK_len s t i
    by_cases e : i = q / 8
    · have e1 : (jnK s t (i + 1)).getD (q / 8) 0 = UInt8.ofNat (((jnK s t i).getD i 0).toNat ||| (t.getD i 0).toNat) := by
        rw [jnK, ← e]
        have : i < (jnK s t i).length := by omega
        simp [List.getD, this]
      unfold btR at ih ⊢
      rw [e1, or_toNat, Nat.testBit_or]
      rw [← e] at ih ⊢
      rw [ih]
      simp
    · have e1 : (jnK s t (i + 1)).getD (q / 8) 0 = (jnK s t i).getD (q / 8) 0 := by
        rw [jnK]
        simp [List.getD, List.getElem?_set, e]
      unfold btR at ih ⊢
      rw [e1, ih]
      have : (q / 8 < i + 1) ↔ (q / 8 < i) := by omega
      simp [this]
/-- Two rows joined. -/
def jnR (s t : List UInt8) : List UInt8 := jnK s t t.length
theorem jnR_len (s t : List UInt8) : (jnR s t).length = s.length := jnK_len s t _
theorem btR_far (t : List UInt8) (q : Nat) (h : ¬ q / 8 < t.length) : btR t q = false := by
  unfold btR
  rw [List.getD, List.getElem?_eq_none (by omega)]; simp
theorem btR_jnR (s t : List UInt8) (q : Nat) (h : s.length = t.length) : btR (jnR s t) q = (btR s q || btR t q) := by
  rw [jnR, btR_jn s t q t.length (by omega)]
  by_cases e : q / 8 < t.length
  · simp [e]
  · rw [btR_far t q e]; simp
/-- A short number's bytes. -/
def e8f (n : Nat) : List UInt8 := bl (sb (encS n))
theorem num_split14 {s : ByteArray} (hk : shK s ≠ 0) : bl s = e8f (shN s) ++ bl (s.extract (shK s) s.size) := by
  have h := sh_again s hk
  have hl := shK_le s
  rw [e8f, h]
  show s.data.toList = _ ++ _
  have e1 : bl (s.extract 0 (shK s)) = (bl s).take (shK s) := extract_take s _ hl
  have e2 : bl (s.extract (shK s) s.size) = (bl s).drop (shK s) := by
    unfold bl
    rw [ByteArray.data_extract, Array.toList_extract]
    have : s.data.toList.length = s.size := by rw [Array.length_toList]; rfl
    simp only [List.extract_eq_take_drop]
    rw [List.take_of_length_le (by rw [List.length_drop]; omega)]
  rw [e1, e2, List.take_append_drop]; rfl
theorem num_front14 {s : ByteArray} {m : Nat} {r : List UInt8} (hm : m < 2 ^ 64) (h : bl s = e8f m ++ r) : shK s ≠ 0 ∧ shN s = m ∧ bl (s.extract (shK s) s.size) = r := by
  have e : s = sb (encS m) ++ ⟨r.toArray⟩ := by
    apply bl_inj
    rw [h, e8f]
    simp [bl]
  have h1 := sh_enc m s _ hm e
  have hk : shK s ≠ 0 := by
    rw [h1.2]
    have := slen_pos m
    omega
  refine ⟨hk, h1.1, ?_⟩
  have h2 := num_split14 hk
  rw [h1.1, h] at h2
  exact (List.append_cancel_left h2).symm
/-- A filter's bytes. -/
def IsF (S : ByteArray) (n k : Nat) (s : List UInt8) : Prop := okF n k ∧ 8 * s.length = n ∧ bl S = [77, 66, 70, 49] ++ (e8f n ++ (e8f k ++ s))
theorem bl_drop (S : ByteArray) (m : Nat) : bl (S.extract m S.size) = (bl S).drop m := by
  unfold bl
  rw [ByteArray.data_extract, Array.toList_extract]
  have : S.data.toList.length = S.size := by rw [Array.length_toList]; rfl
  simp only [List.extract_eq_take_drop]
  rw [List.take_of_length_le (by rw [List.length_drop]; omega)]
/-- What is read of a filter's bytes. -/
theorem IsF.read {S : ByteArray} {n k : Nat} {s : List UInt8} (h : IsF S n k s) (R T : ByteArray) (hR : R = S.extract 4 S.size) (hT : T = R.extract (shK R) R.size) :
    (bl S).take 4 = [77, 66, 70, 49] ∧ shK R ≠ 0 ∧ shN R = n ∧ shK T ≠ 0 ∧ shN T = k ∧ bl (T.extract (shK T) T.size) = s := by
  obtain ⟨h1, h2, h3⟩ := h
  have hn := okF_le h1
  have hk := h1.2.2
  have hb : bl R = e8f n ++ (e8f k ++ s) := by rw [hR, bl_drop, h3]; rfl
  obtain ⟨a1, a2, a3⟩ := num_front14 (by omega) hb
  rw [← hT] at a3
  obtain ⟨b1, b2, b3⟩ := num_front14 (by omega) a3
  exact ⟨by rw [h3]; rfl, a1, a2, b1, b2, b3⟩
theorem IsF.made {S R T : ByteArray} (hR : R = S.extract 4 S.size) (hT : T = R.extract (shK R) R.size) (h4 : (bl S).take 4 = [77, 66, 70, 49]) (a1 : shK R ≠ 0) (b1 : shK T ≠ 0) (ho : okF (shN R) (shN T)) (hl : 8 * (T.extract (shK T) T.size).size = shN R) :
    IsF S (shN R) (shN T) (bl (T.extract (shK T) T.size)) := by
  refine ⟨ho, by rw [bl_length]; exact hl, ?_⟩
  have e1 := num_split14 a1
  have e2 := num_split14 b1
  rw [← hT, e2, hR, bl_drop] at e1
  rw [← hR] at e1
  rw [← h4, ← e1, List.take_append_drop]
theorem IsF.one {S : ByteArray} {n k n' k' : Nat} {s s' : List UInt8} (h : IsF S n k s) (h' : IsF S n' k' s') : n = n' ∧ k = k' ∧ s = s' := by
  have a := h.read _ _ rfl rfl
  have b := h'.read _ _ rfl rfl
  exact ⟨a.2.2.1.symm.trans b.2.2.1, a.2.2.2.2.1.symm.trans b.2.2.2.2.1, a.2.2.2.2.2.symm.trans b.2.2.2.2.2⟩
theorem IsF.same {S S' : ByteArray} {n k : Nat} {s : List UInt8} (h : IsF S n k s) (h' : IsF S' n k s) : S = S' := bl_inj (h.2.2.trans h'.2.2.symm)
/-- A filter, as bytes. -/
def enF (n k : Nat) (s : List UInt8) : ByteArray := (⟨#[77, 66, 70, 49]⟩ ++ sb (encS n)) ++ sb (encS k) ++ ⟨s.toArray⟩
theorem enF_is {n k : Nat} {s : List UInt8} (h : okF n k) (hl : 8 * s.length = n) : IsF (enF n k s) n k s := ⟨h, hl, by simp [enF, bl, e8f]⟩
theorem IsF.eq {S : ByteArray} {n k : Nat} {s : List UInt8} (h : IsF S n k s) : S = enF n k s := h.same (enF_is h.1 h.2.1)
end Go.Proofs.YtfmfdaoipfpijaaGreatDoor
/- wire.Len. -/
namespace Go.Proofs.YtfmfdaoipfpijaaGreatDoor
open Go.RowKit
set_option linter.unusedSimpArgs false
set_option linter.unusedVariables false
end Go.Proofs.YtfmfdaoipfpijaaGreatDoor
/- The walks of wire.Put, PutText, PutFixed: what each returns; nothing that was there has turned. -/
namespace Go.Proofs.YtfmfdaoipfpijaaGreatDoor
open Go.RowKit
set_option linter.unusedSimpArgs false
set_option linter.unusedVariables false
theorem put_next (n k : Nat) (arr : Array Value) (b : Int) (hk : k < 9) (hsz : arr.size = 10) (hall : ∀ j, j < 10 → ∃ z, arr[j]? = some (.int .u8 z))
    (harr : ∀ j, j < k → arr[j]? = some (.int .u8 (n / 128 ^ j % 128 + 128 : Nat))) (hb : b = (n / 128 ^ k % 128 + 128 : Nat)) :
    (arr.setIfInBounds k (.int .u8 b)).size = 10 ∧ (∀ j, j < 10 → ∃ z, (arr.setIfInBounds k (.int .u8 b))[j]? = some (.int .u8 z)) ∧
      ∀ j, j < k + 1 → (arr.setIfInBounds k (.int .u8 b))[j]? = some (.int .u8 (n / 128 ^ j % 128 + 128 : Nat)) := by
  refine ⟨by simp [hsz], fun j hj => ?_, fun j hj => ?_⟩
  · rw [Array.getElem?_setIfInBounds]
    split
    · exact ⟨b, by simp [hsz]; omega⟩
    · exact hall j hj
  · rw [Array.getElem?_setIfInBounds]
    split
    · rename_i e; subst e; rw [if_pos (by omega), hb]
    · exact harr j (by omega)
theorem put_conv (n k : Nat) (arr : Array Value) (w : World) (T : TypeId) (hk : k ≤ 9) (hsz : arr.size = 10) (hsl : slen n = k + 1) (hn : n < 2 ^ 64)
    (harr : ∀ j, j < k → arr[j]? = some (.int .u8 (n / 128 ^ j % 128 + 128 : Nat))) :
    (convert 65 9 (.slice (some ⟨w.heap.size, 0, none⟩) (k + 1) 10)).run Tryz.prog (w.alloc (.cells (arr.setIfInBounds k (.int .u8 ((n / 128 ^ k : Nat) % 256))) T)) =
      .ok (.string (sb (encS n))) (w.alloc (.cells (arr.setIfInBounds k (.int .u8 ((n / 128 ^ k : Nat) % 256))) T)) := by
  have he : encS n = encN k n := by unfold encS; rw [hsl]; rfl
  rw [he, ← sb_nums]
  refine run_convert_bytes_arg _ 65 5 Tryz.underlying65 Tryz.underlying5 _ 0 (k + 1) 10 _ (by simp [encN_length]) (fun i hi => ?_) 9 Tryz.underlying9
  have hh := slen_hi n hn
  rw [hsl, Nat.pow_succ] at hh
  have hl : n / 128 ^ k < 128 := by rw [Nat.div_lt_iff_lt_mul (Nat.pow_pos (by omega))]; rw [Nat.mul_comm]; exact hh
  rw [Nat.zero_add]
  rw [World.cell?_alloc_new, Array.getElem?_setIfInBounds, List.getD, List.getElem?_map]
  by_cases e : k = i
  · subst e
    rw [if_pos rfl, if_pos (by omega), encN_last]
    simp only [Option.map_some, Option.getD_some]
    congr 2
    show ((n / 128 ^ k : Nat) : Int) % 256 = ((n / 128 ^ k : Nat) : Int)
    generalize n / 128 ^ k = q at hl
    omega
  · rw [if_neg e, encN_get k n i (by omega), harr i (by omega)]
    rfl
end Go.Proofs.YtfmfdaoipfpijaaGreatDoor
/- bloom: Encode. -/
namespace Go.Proofs.YtfmfdaoipfpijaaGreatDoor
open Go.RowKit
set_option linter.unusedSimpArgs false
set_option linter.unusedVariables false
/-- The listed mark. -/
def mkC : Array Value := #[.int .u8 77, .int .u8 66, .int .u8 70, .int .u8 49]
def mkT14 : ByteArray := ⟨#[77, 66, 70, 49]⟩
theorem conv_row14 (g cap : Nat) (s : List UInt8) (w : World) (h : ∀ j, j < s.length → w.cell? ⟨g, j, none⟩ = some (.int .u8 ((s.getD j 0).toNat : Int))) :
    (convert 65 9 (.slice (some ⟨g, 0, none⟩) s.length cap)).run Tryz.prog w = .ok (.string ⟨s.toArray⟩) w := by
  refine run_convert_bytes_back w 65 9 5 ⟨g, 0, none⟩ cap s Tryz.underlying65 Tryz.underlying5 Tryz.underlying9 (fun j hj => ?_)
  rw [WideShapes.add_plain, Nat.zero_add, h j hj, List.getD, List.getElem?_eq_getElem hj]; rfl
end Go.Proofs.YtfmfdaoipfpijaaGreatDoor
/- The walk of wire.short. -/
namespace Go.Proofs.YtfmfdaoipfpijaaGreatDoor
open Go.RowKit
set_option linter.unusedSimpArgs false
set_option linter.unusedVariables false
theorem ret_sh (s : ByteArray) (a b : Int) (h : (a = shN s) ∧ b = shK s) : Ending.returned (.tuple #[.int .u64 a, .int .i64 b]) = .returned (.tuple #[.int .u64 (shN s), .int .i64 (shK s)]) := by rw [h.1, h.2]
theorem sh_none (s : ByteArray) (h : decS (bl s) = none) : (0 : Int) = shN s ∧ (0 : Int) = shK s := by simp [shN, shK, h]
theorem sh_some (s : ByteArray) (n k : Nat) (a b : Int) (h : decS (bl s) = some (n, k)) (ha : a = n) (hb : b = k) : a = shN s ∧ b = shK s := by simp [shN, shK, h, ha, hb]
theorem sh_good (s : ByteArray) (k acc : Nat) (H : decS (bl s) = dec k acc ((bl s).drop k) ∧ (k ≤ 9 → acc < 128 ^ k)) (h : k < s.size) (hk : k < 10) (hb : s[k].toNat < 128)
    (hc : ¬ ((s[k].toNat = 0 ∧ 0 < k) ∨ (1 < s[k].toNat ∧ k = 9))) :
    bits .or .u64 (acc : Int) (IntKind.u64.wrap (IntKind.u64.wrap (bits .and .u8 (s[k].toNat : Int) 127) * 2 ^ (7 * k))) = shN s ∧ (k : Int) + 1 = shK s := by
  obtain ⟨H1, H2⟩ := H
  rw [dec_good s k acc h hk hb hc] at H1
  have e := (accStep acc s[k].toNat k (by omega) (H2 (by omega)) (by omega)).1
  refine sh_some s _ _ _ _ H1 ?_ (by omega)
  rw [e, Nat.mod_eq_of_lt hb]
theorem sh_zero (s : ByteArray) (k acc : Nat) (H : decS (bl s) = dec k acc ((bl s).drop k) ∧ (k ≤ 9 → acc < 128 ^ k)) (h : k < s.size) (hk : k = 0) (hb : s[k].toNat = 0) :
    bits .or .u64 (acc : Int) (IntKind.u64.wrap (IntKind.u64.wrap (bits .and .u8 0 127))) = shN s ∧ (1 : Int) = shK s := by
  subst hk
  have e := sh_good s 0 acc H h (by omega) (by omega) (by omega)
  rw [hb] at e
  simpa using e
end Go.Proofs.YtfmfdaoipfpijaaGreatDoor
/- The walks of a reader's Uint and Text. -/
namespace Go.Proofs.YtfmfdaoipfpijaaGreatDoor
open Go.RowKit
set_option linter.unusedSimpArgs false
set_option linter.unusedVariables false
end Go.Proofs.YtfmfdaoipfpijaaGreatDoor
/- bloom: Decode. -/
namespace Go.Proofs.YtfmfdaoipfpijaaGreatDoor
open Go.RowKit
set_option linter.unusedSimpArgs false
set_option linter.unusedVariables false
/-- A row that a conversion has made. -/
theorem rw_conv (s : ByteArray) (u : World) : ∃ (cap : Nat) (W : World), (convert 9 65 (.string s)).run Tryz.prog u = .ok (.slice (some ⟨u.heap.size, 0, none⟩) s.size cap) W ∧
    Below u.heap.size u W ∧ W.heap.size = u.heap.size + 1 ∧ s.size ≤ cap ∧ Rw W u.heap.size (bl s) := by
  refine ⟨grownCap u s.size 0 5, Lib.bytesWorld u 5 s, Lib.run_convert_string_bytes u _ _ _ s Tryz.underlying9 Tryz.underlying65 Tryz.underlying5, ?_, Lib.bytesWorld_size _ _ _, grownCap_ge _ _ _ _, Lib.bytesCells u 5 s, _, Lib.bytesWorld_at_new _ _ _, ?_, ?_⟩
  · refine ⟨?_, ?_, ?_, by rw [Lib.bytesWorld_size]; omega, fun k hk => Lib.bytesWorld_at_old _ _ _ _ hk⟩
    all_goals simp [Lib.bytesWorld, World.freeze, World.alloc, World.drew, -World.alloc_eq, -World.drew_eq]
  · intro j hj
    rw [bl_length] at hj
    have : s.size ≤ (Lib.bytesCells u 5 s).size := by
      have : s.data.size = s.size := rfl
      simp [Lib.bytesCells]
    omega
  · intro j hj
    rw [bl_length] at hj
    have hj' : j < s.data.size := hj
    rw [Lib.bytesCells, Array.getElem?_append_left (by simpa using hj)]
    simp only [Array.getElem?_map, Array.getElem?_eq_getElem hj', Option.map_some]
    congr 3
    simp [bl, List.getD]
    rw [Array.getElem?_eq_getElem hj']; rfl
/-- While bytes are read: the reader in the block w.heap.size. -/
structure DcS (w : World) (t : ByteArray) (W : World) : Prop where
  cell : W.cell? ⟨w.heap.size, 0, none⟩ = some (.string t)
  frz : W.frozen? ⟨w.heap.size, 0, none⟩ = false
  lt : w.heap.size < W.heap.size
  bel : Below w.heap.size w W
theorem DcS.step {w W W' : World} {t t' : ByteArray} (h : DcS w t W) (hs : Step w.heap.size W W' t') : DcS w t' W' :=
  ⟨hs.cell, hs.frozen, Nat.lt_of_lt_of_le h.lt hs.size, h.bel.trans (hs.below (Nat.le_refl _) h.bel.size)⟩
theorem part_by (l : List Nat) (i : Nat) (h : i < l.length) (w : World) : (part 5 (bvc l).toArray i).run Tryz.prog w = .ok (.int .u8 ((l.getD i 0 : Nat) : Int)) w := by
  have ha : (isAgg 5).run Tryz.prog w = .ok false w := by kernel_rfl
  have hc : ((bvc l).toArray)[i]? = some (.int .u8 ((l.getD i 0 : Nat) : Int)) := by
    rw [List.getElem?_toArray, bvc, List.getElem?_map, List.getD, List.getElem?_eq_getElem h]; rfl
  simp [part, ha, hc]
theorem eqItems_by (l m : List Nat) (n : Nat) (hl : l.length = n) (hm : m.length = n) (w : World) : ∀ is : List Nat, (∀ i ∈ is, i < n) →
    (Op.eqItems 9999 5 1 (bvc l).toArray (bvc m).toArray is).run Tryz.prog w = .ok (is.all fun i => l.getD i 0 == m.getD i 0) w
  | [], _ => by simp [Op.eqItems]
  | i :: is, h => by
    have hi : i < n := h i (List.mem_cons_self ..)
    have ih := eqItems_by l m n hl hm w is (fun j hj => h j (List.mem_cons_of_mem _ hj))
    have e3 := run_equalIn_int (P := Tryz.prog) w 9998 5 .u8 .u8 ((l.getD i 0 : Nat) : Int) ((m.getD i 0 : Nat) : Int) Tryz.underlying5
    simp only [Op.eqItems, Sem.run_bind, Nat.mul_one, part_by l i (by omega), part_by m i (by omega), Result.andThen_ok, e3, List.all_cons]
    by_cases e : l.getD i 0 = m.getD i 0
    · have e4 : (((l.getD i 0 : Nat) : Int) == ((m.getD i 0 : Nat) : Int)) = true := by rw [e]; simp
      simp only [e4, Bool.not_true, Bool.false_eq_true, if_false, ih, e, beq_self_eq_true, Bool.true_and]
    · have e4 : (((l.getD i 0 : Nat) : Int) == ((m.getD i 0 : Nat) : Int)) = false := by rw [beq_eq_false_iff_ne]; omega
      have e5 : (l.getD i 0 == m.getD i 0) = false := by rw [beq_eq_false_iff_ne]; exact e
      simp only [e4, Bool.not_false, if_true, Sem.run_pure, e5, Bool.false_and]
theorem extract_all (t : ByteArray) : t.extract 0 t.size = t := by
  apply bl_inj
  rw [extract_take t _ (Nat.le_refl _), List.take_of_length_le (by rw [bl_length]; exact Nat.le_refl _)]
/-- What Uint takes. -/
def unN (t : ByteArray) : Nat := if shK t = 0 then 0 else shN t
def unE (t : ByteArray) : Int := if shK t = 0 then 4 else 0
def unR (t : ByteArray) : ByteArray := if shK t = 0 then t else t.extract (shK t) t.size
theorem unN_lt (t : ByteArray) : unN t < 18446744073709551616 := by
  unfold unN
  split
  · omega
  · exact shN_lt t
theorem unR_size (t : ByteArray) : (unR t).size ≤ t.size := by
  unfold unR
  split
  · exact Nat.le_refl _
  · rw [ByteArray.size_extract]; omega
theorem unN_pos {t : ByteArray} (h : 0 < unN t) : shK t ≠ 0 ∧ unN t = shN t ∧ unR t = t.extract (shK t) t.size := by
  have hk : shK t ≠ 0 := fun e => by rw [unN, if_pos e] at h; omega
  exact ⟨hk, by rw [unN, if_neg hk], by rw [unR, if_neg hk]⟩
end Go.Proofs.YtfmfdaoipfpijaaGreatDoor
/- digest.Of. -/
namespace Go.Proofs.YtfmfdaoipfpijaaGreatDoor
open Go.RowKit
set_option linter.unusedSimpArgs false
set_option linter.unusedVariables false
end Go.Proofs.YtfmfdaoipfpijaaGreatDoor
/- digest.Parse. -/
namespace Go.Proofs.YtfmfdaoipfpijaaGreatDoor
open Go.RowKit
set_option linter.unusedSimpArgs false
set_option linter.unusedVariables false
theorem sum_id (s : ByteArray) (w : World) (hL : Lst w) (hlen : s.size < 288230376151711744) :
    Calls Tryz.prog 23 #[.string s] w fun e w' => e = .returned (.agg (idc (sb (sha (byl s))))) ∧ Below w.heap.size w w' := by
  rw [← shc_idc]; exact sum_any s w hL hlen
theorem sha_size (m : List Nat) : (sb (sha m)).size = 32 := by rw [sb_size, sha_length]
/-- The name that digits say, as its cells. -/
def pid (t : ByteArray) : Array Value := putA z32c 0 (bvc ((byl (uhS t)).take (Nat.min (uhS t).size 32)))
theorem pid_size (t : ByteArray) : (pid t).size = 32 := by rw [pid, putA_size, z32c_size]
theorem pid_one (t : ByteArray) : (pid t).all (·.oneCell') = true :=
  Array.all_eq_true_iff_forall_mem.2 (putA_one _ _ _ (bvc_one _) (by intro v hv; exact bvc_one _ v (by simpa [z32c] using hv)))
theorem pid_ok (t : ByteArray) (h : (uhS t).size = 32) : pid t = idc (uhS t) := by
  have hl : (bvc ((byl (uhS t)).take 32)).length = 32 := by simp [bvc, byl_length, h]
  rw [pid, h]
  apply Array.ext_getElem?
  intro i
  show (putA z32c 0 (bvc ((byl (uhS t)).take 32)))[i]? = _
  rw [putA_get _ _ _ _ (by rw [z32c_size, hl]; omega), hl]
  by_cases hi : i < 32
  · rw [if_pos (by omega), Nat.sub_zero, idc, List.getElem?_toArray, List.take_of_length_le (by rw [byl_length, h]; omega)]
  · rw [if_neg (by omega), Array.getElem?_eq_none (by rw [z32c_size]; omega), Array.getElem?_eq_none (by rw [idc_size, h]; omega)]
theorem pid_none (t : ByteArray) (h : uhS t = ⟨#[]⟩) : pid t = z32c := by rw [pid, h]; rfl
theorem copy32 {w : World} {g : Nat} {T : TypeId} (hB : Blk w g z32c T) (s : ByteArray) (ty : TypeId) :
    (Builtin.copy_ #[65, 9] ty #[.slice (some ⟨g, 0, none⟩) 32 32, .string s]).run Tryz.prog w = .ok (goInt (Nat.min s.size 32)) (w.setCells g 0 (bvc ((byl s).take (Nat.min s.size 32)))) := by
  have hi : (Tryz.prog.info? 5).map (·.size) = some 1 := by kernel_rfl
  refine copy_str w 65 9 ty 5 g 0 _ _ s Tryz.underlying65 hi (fun j hj => ?_) (fun j hj => hB.frozen _)
  have hj2 := Nat.lt_of_lt_of_le hj (Nat.min_le_right _ _)
  rw [hB.cell, Nat.zero_add, z32c_get j (by omega)]; rfl
theorem par_res {w w1 : World} {cs : List Value} (h : Below ((w.alloc (.cells z32c 24)).alloc (.cells z32c 24)).heap.size ((w.alloc (.cells z32c 24)).alloc (.cells z32c 24)) w1) : Blk (w1.setCells (w.heap.size + 1) 0 cs) w.heap.size z32c 24 :=
  Blk.grown (Blk.grown (Blk.grown (blk_new w (.cells z32c 24)) (World.grownBy_alloc _ _ none) (by simp)) (grown_of_below h none) (by simp)) (grown_puts (w.heap.size + 1) cs 0 (World.grownBy.refl w1 _)) (by simp)
theorem par_grown {w w1 : World} {cs : List Value} (h : Below ((w.alloc (.cells z32c 24)).alloc (.cells z32c 24)).heap.size ((w.alloc (.cells z32c 24)).alloc (.cells z32c 24)) w1) : w.grownBy (w1.setCells (w.heap.size + 1) 0 cs) none :=
  (((World.grownBy_alloc w _ none).trans (World.grownBy_alloc _ _ none)).trans (grown_of_below h none)).andThen (grown_puts (w.heap.size + 1) cs 0 (World.grownBy.refl w1 _)) (fun j hj => by left; simp at hj; omega)
set_option maxHeartbeats 400000 in
set_option maxRecDepth 100000 in
theorem parse_64 (t : ByteArray) (w : World) (ht : t.size = 64) (hA : All w) :
    Calls Tryz.prog 57 #[.string t] w fun e w' => e = .returned (.tuple #[.agg (pid t), .int .i64 (uhE t)]) ∧ Below w.heap.size w w' := by
  have HA : Hid (All w) := hA
  have hlt := hA.lt
  clear hA
  have h1 := slice32 (w.heap.size + 1)
  go_enter Tryz.func57, Tryz.ntmps57
  go_wp2_with (first
    | (go_at_call 82; refine (unhex_even t _ 32 (by omega) (by omega) ((HA.out.alloc _).alloc _).t (by rw [alloc_size, alloc_size]; omega)).mono ?_; rintro e w1 ⟨rfl, hb1⟩; have HB1 : Hid (Below (((w.alloc (.cells z32c 24)).alloc (.cells z32c 24))).heap.size ((w.alloc (.cells z32c 24)).alloc (.cells z32c 24)) w1) := hb1; clear hb1; have HI : Hid (Blk w1 (w.heap.size + 1) z32c 24) := Blk.grown (by { have e := blk_new (w.alloc (.cells z32c 24)) (.cells z32c 24); rw [alloc_size] at e; exact e }) (grown_of_below HB1.out none) (by simp); have hcp := copy32 HI.out (uhS t))
    | (refine wpList_load_row rfl 24 (.tmp 4) rfl (w.heap.size + 1) rfl 24 (pid t) (0, 0) _ (Blk.puts _ 0 _ _ HI.out) Tryz.underlying24 rfl (info_32 (pid_size t)) ?_)
    | (refine wpList_store_row rfl 24 (.tmp 2) (.tmp 19) rfl w.heap.size (pid t) rfl rfl 24 z32c (par_res HB1.out) (info_32 (pid_size t)) (by rw [z32c_size, pid_size]) (pid_one t) ?_))
  refine bodyPost_ret (results_cell_tmp_row rfl _ _ w.heap.size 24 (pid t) (0, 0) _ rfl (setRow_heap _ _ _ _ _ _ (par_res HB1.out)) Tryz.underlying24 rfl (info_32 (pid_size t))) rfl ⟨rfl, ?_⟩
  exact below_setRow (below_of_grown (par_grown HB1.out)) (Nat.le_refl _) _
set_option maxHeartbeats 400000 in
set_option maxRecDepth 100000 in
theorem parse_bad (t : ByteArray) (w : World) (ht : t.size ≠ 64) (hm : t.size ≤ 140737488351232) :
    Calls Tryz.prog 57 #[.string t] w fun e w' => e = .returned (.tuple #[.agg z32c, .int .i64 4]) ∧ Below w.heap.size w w' := by
  have hne : ¬ (t.size : Int) = 64 := by omega
  have hz := zero_id
  go_enter Tryz.func57, Tryz.ntmps57
  go_wp2_with (refine wpList_store_row rfl 24 (.tmp 2) (.tmp 10) rfl w.heap.size z32c rfl rfl 24 z32c (Blk.grown (blk_new w _) (World.grownBy_alloc _ _ none) (by simp)) (info_32 z32c_size) rfl z32c_one ?_)
  refine bodyPost_ret (results_cell_tmp_row rfl _ _ w.heap.size 24 z32c (0, 0) _ rfl (setRow_heap _ _ _ _ _ _ (Blk.grown (blk_new w (.cells z32c 24)) (World.grownBy_alloc _ _ none) (by simp))) Tryz.underlying24 rfl (info_32 z32c_size)) rfl ⟨rfl, ?_⟩
  exact below_setRow (below_of_grown ((World.grownBy_alloc w _ none).trans (World.grownBy_alloc _ _ none))) (Nat.le_refl _) _
end Go.Proofs.YtfmfdaoipfpijaaGreatDoor
/- strings.CutPrefix, CutSuffix; names of a filter's file; bloom.Name, isName, Check. -/
namespace Go.Proofs.YtfmfdaoipfpijaaGreatDoor
open Go.RowKit
set_option linter.unusedSimpArgs false
set_option linter.unusedVariables false
theorem ret_bQ {a b : Bool} (h : b = a) : Ending.returned (.bool a) = .returned (.bool b) := by rw [h]
theorem str_neQ {x y : ByteArray} (h : x ≠ y) : (x.toList == y.toList) = false := by
  rw [beq_eq_false_iff_ne, Lib.toList_data, Lib.toList_data]
  intro e
  exact h (bl_inj e)
/-- Whether a text stands at the front, at the end. -/
def pfQ (s q : ByteArray) : Bool := decide (q.size ≤ s.size) && (bl (s.extract 0 q.size) == bl q)
def sfQ (s q : ByteArray) : Bool := decide (q.size ≤ s.size) && (bl (s.extract (s.size - q.size) s.size) == bl q)
set_option maxHeartbeats 1000000 in
theorem hasPfxQ (s q : ByteArray) (w : World) (hs : s.size ≤ 140737488355328) (hq : q.size ≤ 16) :
    Calls Tryz.prog 96 #[.string s, .string q] w fun e w' => e = .returned (.bool (pfQ s q)) ∧ w' = w := by
  by_cases h4 : q.size ≤ s.size
  · have h4z : (q.size : Int) ≤ (s.size : Int) := by omega
    obtain ⟨x, hx⟩ : ∃ x, s.extract 0 q.size = x := ⟨_, rfl⟩
    by_cases he : x = q
    · have HE : Hid (pfQ s q = true) := by show _ = _; rw [pfQ, hx, he]; simp [h4]
      subst he
      go_enter Tryz.func96, Tryz.ntmps96
      go_wp2
      go_ret
      exact ⟨ret_bQ HE.out, rfl⟩
    · have HE : Hid (pfQ s q = false) := by
        show _ = _
        rw [pfQ, hx, Bool.and_eq_false_iff]
        exact .inr (by rw [beq_eq_false_iff_ne]; exact fun h => he (bl_inj h))
      have hne := str_neQ he
      clear he
      go_enter Tryz.func96, Tryz.ntmps96
      go_wp2
      go_ret
      exact ⟨ret_bQ HE.out, rfl⟩
  · have h4z : ¬ (q.size : Int) ≤ (s.size : Int) := by omega
    have HE : Hid (pfQ s q = false) := by show pfQ s q = false; simp [pfQ, h4]
    go_enter Tryz.func96, Tryz.ntmps96
    go_wp2
    go_ret
    exact ⟨ret_bQ HE.out, rfl⟩
set_option maxHeartbeats 1000000 in
theorem hasSfxQ (s q : ByteArray) (w : World) (hs : s.size ≤ 140737488355328) (hq : q.size ≤ 16) :
    Calls Tryz.prog 97 #[.string s, .string q] w fun e w' => e = .returned (.bool (sfQ s q)) ∧ w' = w := by
  by_cases h4 : q.size ≤ s.size
  · have h4z : (q.size : Int) ≤ (s.size : Int) := by omega
    obtain ⟨n, hn⟩ : ∃ n, n = s.size - q.size := ⟨_, rfl⟩
    have hnz : (s.size : Int) - (q.size : Int) = (n : Int) := by omega
    have hnl : (n : Int) ≤ (s.size : Int) := by omega
    obtain ⟨x, hx⟩ : ∃ x, s.extract n s.size = x := ⟨_, rfl⟩
    by_cases he : x = q
    · have HE : Hid (sfQ s q = true) := by show _ = _; rw [sfQ, ← hn, hx, he]; simp [h4]
      subst he
      clear hn
      go_enter Tryz.func97, Tryz.ntmps97
      go_wp2
      go_ret
      exact ⟨ret_bQ HE.out, rfl⟩
    · have HE : Hid (sfQ s q = false) := by
        show _ = _
        rw [sfQ, ← hn, hx, Bool.and_eq_false_iff]
        exact .inr (by rw [beq_eq_false_iff_ne]; exact fun h => he (bl_inj h))
      have hne := str_neQ he
      clear he hn
      go_enter Tryz.func97, Tryz.ntmps97
      go_wp2
      go_ret
      exact ⟨ret_bQ HE.out, rfl⟩
  · have h4z : ¬ (q.size : Int) ≤ (s.size : Int) := by omega
    have HE : Hid (sfQ s q = false) := by show sfQ s q = false; simp [sfQ, h4]
    go_enter Tryz.func97, Tryz.ntmps97
    go_wp2
    go_ret
    exact ⟨ret_bQ HE.out, rfl⟩
/-- What is left when they are cut. -/
def cpQ (s q : ByteArray) : ByteArray := if pfQ s q = true then s.extract q.size s.size else s
def csQ (s q : ByteArray) : ByteArray := if sfQ s q = true then s.extract 0 (s.size - q.size) else s
theorem pfQ_le {s q : ByteArray} (h : pfQ s q = true) : q.size ≤ s.size := by simp [pfQ] at h; exact h.1
theorem sfQ_le {s q : ByteArray} (h : sfQ s q = true) : q.size ≤ s.size := by simp [sfQ] at h; exact h.1
theorem ret_sbQ {a b : ByteArray} {e e' : Bool} (h : b = a ∧ e' = e) : Ending.returned (.tuple #[.string a, .bool e]) = .returned (.tuple #[.string b, .bool e']) := by rw [h.1, h.2]
set_option maxHeartbeats 1000000 in
theorem cutP1Q (s q : ByteArray) (w : World) (hs : s.size ≤ 140737488355328) (hq : q.size ≤ 16) :
    Calls Tryz.prog 80 #[.string s, .string q] w fun e w' => e = .returned (.tuple #[.string (cpQ s q), .bool (pfQ s q)]) ∧ w' = w := by
  cases hp : pfQ s q with
  | true =>
    have H1 := hasPfxQ s q w hs hq
    rw [hp] at H1
    have HE : Hid (cpQ s q = s.extract q.size s.size) := by show _ = _; rw [cpQ, if_pos hp]
    have hle := pfQ_le hp
    have h4z : (q.size : Int) ≤ (s.size : Int) := by omega
    clear hp
    go_enter Tryz.func80, Tryz.ntmps80
    go_wp2_with fail
    refine H1.mono ?_
    rintro e w1 ⟨rfl, hw⟩
    obtain rfl : w = w1 := hw.symm
    go_wp2
    go_ret2
    exact ⟨ret_sbQ ⟨HE.out, rfl⟩, rfl⟩
  | false =>
    have H1 := hasPfxQ s q w hs hq
    rw [hp] at H1
    have HE : Hid (cpQ s q = s) := by show _ = _; rw [cpQ, if_neg (by rw [hp]; simp)]
    clear hp
    go_enter Tryz.func80, Tryz.ntmps80
    go_wp2_with fail
    refine H1.mono ?_
    rintro e w1 ⟨rfl, hw⟩
    obtain rfl : w = w1 := hw.symm
    go_wp2
    go_ret2
    exact ⟨ret_sbQ ⟨HE.out, rfl⟩, rfl⟩
set_option maxHeartbeats 1000000 in
theorem cutS1Q (s q : ByteArray) (w : World) (hs : s.size ≤ 140737488355328) (hq : q.size ≤ 16) :
    Calls Tryz.prog 81 #[.string s, .string q] w fun e w' => e = .returned (.tuple #[.string (csQ s q), .bool (sfQ s q)]) ∧ w' = w := by
  cases hp : sfQ s q with
  | true =>
    have H1 := hasSfxQ s q w hs hq
    rw [hp] at H1
    obtain ⟨n, hn⟩ : ∃ n, n = s.size - q.size := ⟨_, rfl⟩
    have HE : Hid (csQ s q = s.extract 0 n) := by show _ = _; rw [csQ, if_pos hp, hn]
    have hle := sfQ_le hp
    have hnz : (s.size : Int) - (q.size : Int) = (n : Int) := by omega
    have hnl : (n : Int) ≤ (s.size : Int) := by omega
    clear hp hn
    go_enter Tryz.func81, Tryz.ntmps81
    go_wp2_with fail
    refine H1.mono ?_
    rintro e w1 ⟨rfl, hw⟩
    obtain rfl : w = w1 := hw.symm
    go_wp2
    go_ret2
    exact ⟨ret_sbQ ⟨HE.out, rfl⟩, rfl⟩
  | false =>
    have H1 := hasSfxQ s q w hs hq
    rw [hp] at H1
    have HE : Hid (csQ s q = s) := by show _ = _; rw [csQ, if_neg (by rw [hp]; simp)]
    clear hp
    go_enter Tryz.func81, Tryz.ntmps81
    go_wp2_with fail
    refine H1.mono ?_
    rintro e w1 ⟨rfl, hw⟩
    obtain rfl : w = w1 := hw.symm
    go_wp2
    go_ret2
    exact ⟨ret_sbQ ⟨HE.out, rfl⟩, rfl⟩
theorem cutPQ (s q : ByteArray) (w : World) (hs : s.size ≤ 140737488355328) (hq : q.size ≤ 16) :
    Calls Tryz.prog 55 #[.string s, .string q] w fun e w' => e = .returned (.tuple #[.string (cpQ s q), .bool (pfQ s q)]) ∧ w' = w := by
  go_enter Tryz.func55, Tryz.ntmps55
  go_wp2_with fail
  refine (cutP1Q s q _ hs hq).mono ?_
  rintro e w1 ⟨rfl, hw⟩
  obtain rfl : w = w1 := hw.symm
  go_wp2
  go_ret2
  exact ⟨rfl, rfl⟩
theorem cutSQ (s q : ByteArray) (w : World) (hs : s.size ≤ 140737488355328) (hq : q.size ≤ 16) :
    Calls Tryz.prog 56 #[.string s, .string q] w fun e w' => e = .returned (.tuple #[.string (csQ s q), .bool (sfQ s q)]) ∧ w' = w := by
  go_enter Tryz.func56, Tryz.ntmps56
  go_wp2_with fail
  refine (cutS1Q s q _ hs hq).mono ?_
  rintro e w1 ⟨rfl, hw⟩
  obtain rfl : w = w1 := hw.symm
  go_wp2
  go_ret2
  exact ⟨rfl, rfl⟩
end Go.Proofs.YtfmfdaoipfpijaaGreatDoor
/- The names of a filter's file: bloom.Name, isName, Check. -/
namespace Go.Proofs.YtfmfdaoipfpijaaGreatDoor
open Go.RowKit
set_option linter.unusedSimpArgs false
set_option linter.unusedVariables false
/-- What Parse tells. -/
def prAQ (t : ByteArray) : Array Value := if t.size = 64 then pid t else z32c
def prEQ (t : ByteArray) : Int := if t.size = 64 then uhE t else 4
theorem prAQ_size (t : ByteArray) : (prAQ t).size = 32 := by unfold prAQ; split <;> first | exact pid_size t | exact z32c_size
theorem prAQ_one (t : ByteArray) : (prAQ t).all (·.oneCell') = true := by unfold prAQ; split <;> first | exact pid_one t | exact z32c_one
theorem parseQ (t : ByteArray) (w : World) (hm : t.size ≤ 140737488351232) (hA : All w) :
    Calls Tryz.prog 57 #[.string t] w fun e w' => e = .returned (.tuple #[.agg (prAQ t), .int .i64 (prEQ t)]) ∧ Below w.heap.size w w' := by
  by_cases h : t.size = 64
  · rw [prAQ, prEQ, if_pos h, if_pos h]; exact parse_64 t w h hA
  · rw [prAQ, prEQ, if_neg h, if_neg h]; exact parse_bad t w h hm
theorem cpQ_size (s q : ByteArray) : (cpQ s q).size ≤ s.size := by
  unfold cpQ
  split
  · rw [ByteArray.size_extract]; omega
  · exact Nat.le_refl _
theorem csQ_size (s q : ByteArray) : (csQ s q).size ≤ s.size := by
  unfold csQ
  split
  · rw [ByteArray.size_extract]; omega
  · exact Nat.le_refl _
def nmF : ByteArray := ⟨#[98, 108, 111, 111, 109, 45]⟩
def nmE : ByteArray := ⟨#[46, 98, 102]⟩
def nmD (s : ByteArray) : ByteArray := csQ (cpQ s nmF) nmE
/-- Whether a name has the form of a file's. -/
def nmB (s : ByteArray) : Bool := pfQ s nmF && sfQ (cpQ s nmF) nmE && decide (prEQ (nmD s) = 0)
/-- The name of a filter's file. -/
def bnm (s : ByteArray) : ByteArray := nmF ++ sb (hexL (bl (sb (sha (byl s))))) ++ nmE
theorem ret_sQ {a b : ByteArray} (h : b = a) : Ending.returned (.string a) = .returned (.string b) := by rw [h]
/-- What Check tells. -/
def CkR (nm s : ByteArray) (e : Int) : Prop :=
  (nmB nm = false ∧ e = 10) ∨ (nmB nm = true ∧ nm ≠ bnm s ∧ e = 9) ∨ (nmB nm = true ∧ nm = bnm s ∧ ((∃ n k r, IsF s n k r) ∧ e = 0 ∨ (∀ n k r, ¬ IsF s n k r) ∧ e = 4))
end Go.Proofs.YtfmfdaoipfpijaaGreatDoor
