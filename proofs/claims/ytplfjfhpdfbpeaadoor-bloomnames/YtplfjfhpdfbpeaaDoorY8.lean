import Derived.Test.YtplfjfhpdfbpeaaDoorY7
import Derived.Lib.ConvBytes
import Derived.ChangeKeysEq
import Derived.Laws.StructEq
import Derived.Test.YtplfjfhpdfbpeaaDoorY5
import Derived.Test.YtplfjfhpdfbpeaaDoorY1
/- bloom: Decode. -/
namespace Go.Proofs.YtplfjfhpdfbpeaaDoor
open Go.RowKit
set_option linter.unusedSimpArgs false
set_option linter.unusedVariables false
/-- What Decode tells. -/
def DcF (S : ByteArray) (w : World) (e : Ending) (w' : World) : Prop :=
  (∃ n k s f g, IsF S n k s ∧ NwF w e w' f g n k s) ∨ ((∀ n k s, ¬ IsF S n k s) ∧ e = .returned (.tuple #[.pointer none, .int .i64 4]) ∧ Below w.heap.size w w')
/-- A row that a conversion has made. -/
theorem rw_conv (s : ByteArray) (u : World) : ∃ (cap : Nat) (W : World), (convert 9 64 (.string s)).run Tryd.prog u = .ok (.slice (some ⟨u.heap.size, 0, none⟩) s.size cap) W ∧
    Below u.heap.size u W ∧ W.heap.size = u.heap.size + 1 ∧ s.size ≤ cap ∧ Rw W u.heap.size (bl s) := by
  refine ⟨grownCap u s.size 0 5, Lib.bytesWorld u 5 s, Lib.run_convert_string_bytes u _ _ _ s Tryd.underlying9 Tryd.underlying64 Tryd.underlying5, ?_, Lib.bytesWorld_size _ _ _, grownCap_ge _ _ _ _, Lib.bytesCells u 5 s, _, Lib.bytesWorld_at_new _ _ _, ?_, ?_⟩
  · refine ⟨?_, ?_, ?_, by rw [Lib.bytesWorld_size]; omega, fun k hk => Lib.bytesWorld_at_old _ _ _ _ hk⟩
    all_goals simp [Lib.bytesWorld, World.freeze, World.alloc, World.drew, -World.alloc_eq, -World.drew_eq]
  · intro j hj
    rw [bl_length] at hj
    have : s.size ≤ (Lib.bytesCells u 5 s).size := by
      have : s.data.size = s.size := rfl
      simp [Lib.bytesCells]
    omega
  · intro j hj
    rw [bl_length] at hj
    have hj' : j < s.data.size := hj
    rw [Lib.bytesCells, Array.getElem?_append_left (by simpa using hj)]
    simp only [Array.getElem?_map, Array.getElem?_eq_getElem hj', Option.map_some]
    congr 3
    simp [bl, List.getD]
    rw [Array.getElem?_eq_getElem hj']; rfl
/-- While bytes are read: the reader in the block w.heap.size. -/
structure DcS (w : World) (t : ByteArray) (W : World) : Prop where
  cell : W.cell? ⟨w.heap.size, 0, none⟩ = some (.string t)
  frz : W.frozen? ⟨w.heap.size, 0, none⟩ = false
  lt : w.heap.size < W.heap.size
  bel : Below w.heap.size w W
theorem DcS.step {w W W' : World} {t t' : ByteArray} (h : DcS w t W) (hs : Step w.heap.size W W' t') : DcS w t' W' :=
  ⟨hs.cell, hs.frozen, Nat.lt_of_lt_of_le h.lt hs.size, h.bel.trans (hs.below (Nat.le_refl _) h.bel.size)⟩
theorem DcS.old {w W : World} {t : ByteArray} (h : DcS w t W) (hm : MkS w) : MkS W := hm.below h.bel
theorem part_by (l : List Nat) (i : Nat) (h : i < l.length) (w : World) : (part 5 (bvc l).toArray i).run Tryd.prog w = .ok (.int .u8 ((l.getD i 0 : Nat) : Int)) w := by
  have ha : (isAgg 5).run Tryd.prog w = .ok false w := by kernel_rfl
  have hc : ((bvc l).toArray)[i]? = some (.int .u8 ((l.getD i 0 : Nat) : Int)) := by
    rw [List.getElem?_toArray, bvc, List.getElem?_map, List.getD, List.getElem?_eq_getElem h]; rfl
  simp [part, ha, hc]
theorem eqItems_by (l m : List Nat) (n : Nat) (hl : l.length = n) (hm : m.length = n) (w : World) : ∀ is : List Nat, (∀ i ∈ is, i < n) →
    (Op.eqItems 9999 5 1 (bvc l).toArray (bvc m).toArray is).run Tryd.prog w = .ok (is.all fun i => l.getD i 0 == m.getD i 0) w
  | [], _ => by simp [Op.eqItems]
  | i :: is, h => by
    have hi : i < n := h i (List.mem_cons_self ..)
    have ih := eqItems_by l m n hl hm w is (fun j hj => h j (List.mem_cons_of_mem _ hj))
    have e3 := run_equalIn_int (P := Tryd.prog) w 9998 5 .u8 .u8 ((l.getD i 0 : Nat) : Int) ((m.getD i 0 : Nat) : Int) Tryd.underlying5
    simp only [Op.eqItems, Sem.run_bind, Nat.mul_one, part_by l i (by omega), part_by m i (by omega), Result.andThen_ok, e3, List.all_cons]
    by_cases e : l.getD i 0 = m.getD i 0
    · have e4 : (((l.getD i 0 : Nat) : Int) == ((m.getD i 0 : Nat) : Int)) = true := by rw [e]; simp
      simp only [e4, Bool.not_true, Bool.false_eq_true, if_false, ih, e, beq_self_eq_true, Bool.true_and]
    · have e4 : (((l.getD i 0 : Nat) : Int) == ((m.getD i 0 : Nat) : Int)) = false := by rw [beq_eq_false_iff_ne]; omega
      have e5 : (l.getD i 0 == m.getD i 0) = false := by rw [beq_eq_false_iff_ne]; exact e
      simp only [e4, Bool.not_false, if_true, Sem.run_pure, e5, Bool.false_and]
theorem equalIn_4 (a b c d : Nat) (w : World) : (Op.equalIn 10000 74 (.agg #[.int .u8 (a : Int), .int .u8 (b : Int), .int .u8 (c : Int), .int .u8 (d : Int)]) (.agg #[.int .u8 77, .int .u8 66, .int .u8 70, .int .u8 49])).run Tryd.prog w = .ok (decide ([a, b, c, d] = [77, 66, 70, 49])) w := by
  have hc : Tryd.prog.cellsOf 5 = 1 := by kernel_rfl
  obtain ⟨i0, hi⟩ := info_of_underlying Tryd.underlying5
  have hu : Tryd.prog.underlying 74 = some (.array 4 5) := Tryd.underlying74
  have h := eqItems_by [a, b, c, d] [77, 66, 70, 49] 4 rfl rfl w (List.range 4) (fun i hi => by simpa using hi)
  have e1 : (bvc [a, b, c, d]).toArray = #[.int .u8 (a : Int), .int .u8 (b : Int), .int .u8 (c : Int), .int .u8 (d : Int)] := rfl
  have e2 : (bvc [77, 66, 70, 49]).toArray = #[.int .u8 77, .int .u8 66, .int .u8 70, .int .u8 49] := rfl
  rw [e1, e2] at h
  have hall : ((List.range 4).all fun i => [a, b, c, d].getD i 0 == [77, 66, 70, 49].getD i 0) = decide ([a, b, c, d] = [77, 66, 70, 49]) := by
    rw [Bool.eq_iff_iff]
    simp [List.range_succ]
  rw [hall] at h
  rw [run_equalIn_array w 9999 _ _ hu hi, hc]
  exact h
theorem extract_all (t : ByteArray) : t.extract 0 t.size = t := by
  apply bl_inj
  rw [extract_take t _ (Nat.le_refl _), List.take_of_length_le (by rw [bl_length]; exact Nat.le_refl _)]
set_option maxHeartbeats 2000000 in
set_option maxRecDepth 100000 in
theorem dec_short (S : ByteArray) (w : World) (hm : MkS w) (h4 : S.size < 4) :
    Calls Tryd.prog 16 #[.string S] w fun e w' => DcF S w e w' := by
  have HS : Hid (∀ n k s, ¬ IsF S n k s) := fun n k s h => by
    have := (h.read _ _ rfl rfl).1
    have h2 : ((bl S).take 4).length = 4 := by rw [this]; rfl
    rw [List.length_take, bl_length] at h2
    omega
  have HM : Hid (MkS w) := hm
  clear hm
  go_enter Tryd.func16, Tryd.ntmps16
  go_wp2_with fail
  refine (new_any S w).mono ?_
  rintro e w1 ⟨rfl, rfl⟩
  have H1 : Hid (DcS w S ((w.alloc (.cells #[.string S] 93)).alloc (.cells #[.int .u8 0, .int .u8 0, .int .u8 0, .int .u8 0] 74))) := by
    have hb := (bk_new w #[.string S] 93).alloc (.cells #[.int .u8 0, .int .u8 0, .int .u8 0, .int .u8 0] 74)
    exact ⟨by rw [hb.cell]; rfl, hb.frozen 0, hb.lt, ((Below.refl _ _).alloc (Nat.le_refl _) _).alloc (by simp) _⟩
  have K1 : Hid (Bk ((w.alloc (.cells #[.string S] 93)).alloc (.cells #[.int .u8 0, .int .u8 0, .int .u8 0, .int .u8 0] 74)) (w.heap.size + 1) #[.int .u8 0, .int .u8 0, .int .u8 0, .int .u8 0] 74) := by
    have := bk_new (w.alloc (.cells #[.string S] 93)) #[.int .u8 0, .int .u8 0, .int .u8 0, .int .u8 0] 74
    rw [al_size] at this
    exact this
  have T1 : Hid (Calls Tryd.prog 39 #[.pointer (some ⟨w.heap.size, 0, none⟩), .int .i64 4] ((w.alloc (.cells #[.string S] 93)).alloc (.cells #[.int .u8 0, .int .u8 0, .int .u8 0, .int .u8 0] 74)) fun e w' => e = .returned (.tuple #[.string ⟨#[]⟩, .int .i64 4]) ∧ Hid (DcS w S w' ∧ Bk w' (w.heap.size + 1) #[.int .u8 0, .int .u8 0, .int .u8 0, .int .u8 0] 74)) := by
    refine (take_no S w.heap.size _ (by unfold maxLen; omega) H1.out.cell H1.out.frz H1.out.lt 4 h4 (by omega)).mono ?_
    rintro e w2 ⟨rfl, hs⟩
    refine ⟨rfl, H1.out.step hs, ?_⟩
    unfold Bk
    rw [hs.block _ K1.out.lt (by omega)]
    exact K1.out
  go_wp2_with fail
  refine T1.out.mono ?_
  rintro e w2 ⟨rfl, H2⟩
  have hsl := slice4 (w.heap.size + 1)
  have k2 := H2.out.2
  have y0 : w2.cell? ⟨w.heap.size + 1, 0, none⟩ = some (.int .u8 0) := by rw [k2.cell]; rfl
  have y1 : w2.cell? ⟨w.heap.size + 1, 1, none⟩ = some (.int .u8 0) := by rw [k2.cell]; rfl
  have y2 : w2.cell? ⟨w.heap.size + 1, 2, none⟩ = some (.int .u8 0) := by rw [k2.cell]; rfl
  have y3 : w2.cell? ⟨w.heap.size + 1, 3, none⟩ = some (.int .u8 0) := by rw [k2.cell]; rfl
  have hm := H2.out.1.old HM.out
  have m0 : w2.cell? ⟨0, 0, none⟩ = some (.int .u8 77) := hm 0 _ rfl
  have m1 : w2.cell? ⟨0, 1, none⟩ = some (.int .u8 66) := hm 1 _ rfl
  have m2 : w2.cell? ⟨0, 2, none⟩ = some (.int .u8 70) := hm 2 _ rfl
  have m3 : w2.cell? ⟨0, 3, none⟩ = some (.int .u8 49) := hm 3 _ rfl
  have hcp : ∀ sT ty, (Builtin.copy_ #[64, sT] ty #[.slice (some ⟨w.heap.size + 1, 0, none⟩) 4 4, .string ⟨#[]⟩]).run Tryd.prog w2 = .ok (goInt 0) w2 := fun sT ty =>
    copy_txt w2 64 sT ty 5 (w.heap.size + 1) 0 4 4 ⟨#[]⟩ (P := Tryd.prog) Tryd.underlying64 (by kernel_rfl) (fun j hj => absurd hj (by show ¬ j < Nat.min 0 4; simp)) (fun j hj => absurd hj (by show ¬ j < Nat.min 0 4; simp))
  have heq : (Op.equalIn 10000 74 (.agg #[.int .u8 0, .int .u8 0, .int .u8 0, .int .u8 0]) (.agg #[.int .u8 77, .int .u8 66, .int .u8 70, .int .u8 49])).run Tryd.prog w2 = .ok false w2 := equalIn_4 0 0 0 0 w2
  clear k2 hm
  go_wp2
  go_ret2
  exact .inr ⟨HS.out, rfl, H2.out.1.bel⟩
/-- What Uint takes. -/
def unN (t : ByteArray) : Nat := if shK t = 0 then 0 else shN t
def unE (t : ByteArray) : Int := if shK t = 0 then 4 else 0
def unR (t : ByteArray) : ByteArray := if shK t = 0 then t else t.extract (shK t) t.size
theorem unN_lt (t : ByteArray) : unN t < 18446744073709551616 := by
  unfold unN
  split
  · omega
  · exact shN_lt t
theorem unR_size (t : ByteArray) : (unR t).size ≤ t.size := by
  unfold unR
  split
  · exact Nat.le_refl _
  · rw [ByteArray.size_extract]; omega
theorem unN_pos {t : ByteArray} (h : 0 < unN t) : shK t ≠ 0 ∧ unN t = shN t ∧ unR t = t.extract (shK t) t.size := by
  have hk : shK t ≠ 0 := fun e => by rw [unN, if_pos e] at h; omega
  exact ⟨hk, by rw [unN, if_neg hk], by rw [unR, if_neg hk]⟩
theorem uint14 (w : World) (t : ByteArray) (W : World) (h : DcS w t W) (ht : t.size ≤ maxLen) : Calls Tryd.prog 40 #[.pointer (some ⟨w.heap.size, 0, none⟩)] W fun e w' => e = .returned (.tuple #[.int .u64 ((unN t : Nat) : Int), .int .i64 (unE t)]) ∧ DcS w (unR t) w' := by
  by_cases hk : shK t = 0
  · refine (uint_no t w.heap.size W ht h.cell h.frz h.lt hk).mono ?_
    rintro e w' ⟨rfl, hs⟩
    exact ⟨by rw [unN, unE, if_pos hk, if_pos hk]; rfl, by rw [unR, if_pos hk]; exact h.step hs⟩
  · refine (uint_ok t w.heap.size W ht h.cell h.frz h.lt hk).mono ?_
    rintro e w' ⟨rfl, hs⟩
    exact ⟨by rw [unN, unE, if_neg hk, if_neg hk], by rw [unR, if_neg hk]; exact h.step hs⟩
/-- The filter that was read. -/
theorem fls_read {w W V : World} {U : ByteArray} {n k c : Nat} (ho : okF n k) (hl : 8 * U.size = n) (hV : Below W.heap.size W V) (hz : V.heap.size = W.heap.size + 1) (hr : Rw V W.heap.size (bl U)) (hc : U.size ≤ c) :
    FlS (V.alloc (.cells #[.int .i64 (n : Int), .int .i64 (k : Int), .slice (some ⟨W.heap.size, 0, none⟩) U.size c] 69)) V.heap.size W.heap.size n k (bl U) := by
  refine ⟨ho, by rw [bl_length]; exact hl, ⟨c, ?_, by rw [bl_length]; exact hc⟩, hr.grown (World.grownBy_alloc V _ none) (by simp)⟩
  rw [bl_length]
  exact bk_new _ _ _
set_option maxHeartbeats 4000000 in
set_option maxRecDepth 100000 in
theorem dec_long (S : ByteArray) (w : World) (hm : MkS w) (h4 : 4 ≤ S.size) (hS : S.size ≤ maxLen) :
    Calls Tryd.prog 16 #[.string S] w fun e w' => DcF S w e w' := by
  have HM : Hid (MkS w) := hm
  have hS' : S.size ≤ 9223372036854775807 := by unfold maxLen at hS; omega
  have HSZ : Hid (S.size ≤ maxLen) := hS
  obtain ⟨x0, x1, x2, x3, hx⟩ : ∃ a b c d : UInt8, (bl S).take 4 = [a, b, c, d] := by
    have hl : ((bl S).take 4).length = 4 := by rw [List.length_take, bl_length]; omega
    match h : (bl S).take 4, hl with
    | [a, b, c, d], _ => exact ⟨a, b, c, d, rfl⟩
  have HX : Hid ((bl S).take 4 = [x0, x1, x2, x3]) := hx
  have HXE : Hid (bl (S.extract 0 4) = [x0, x1, x2, x3]) := by show _ = _; rw [extract_take S 4 h4]; exact hx
  obtain ⟨R, hR⟩ : ∃ R, S.extract 4 S.size = R := ⟨_, rfl⟩
  have HR : Hid (R = S.extract 4 S.size) := hR.symm
  obtain ⟨T, hT⟩ : ∃ T, unR R = T := ⟨_, rfl⟩
  obtain ⟨U, hU⟩ : ∃ U, unR T = U := ⟨_, rfl⟩
  obtain ⟨n, hn⟩ : ∃ n, unN R = n := ⟨_, rfl⟩
  obtain ⟨k, hk⟩ : ∃ n, unN T = n := ⟨_, rfl⟩
  obtain ⟨e1, he1⟩ : ∃ n, unE R = n := ⟨_, rfl⟩
  obtain ⟨e2, he2⟩ : ∃ n, unE T = n := ⟨_, rfl⟩
  have zR : R.size ≤ S.size := by rw [← hR, ByteArray.size_extract]; omega
  have zT : T.size ≤ S.size := by rw [← hT]; have := unR_size R; omega
  have zU : U.size ≤ S.size := by rw [← hU]; have := unR_size T; omega
  have hn64 : Hid (n < 18446744073709551616) := by rw [← hn]; exact unN_lt R
  have hk64 : Hid (k < 18446744073709551616) := by rw [← hk]; exact unN_lt T
  have HU1 : Hid (∀ W, DcS w R W → Calls Tryd.prog 40 #[.pointer (some ⟨w.heap.size, 0, none⟩)] W fun e w' => e = .returned (.tuple #[.int .u64 (n : Int), .int .i64 e1]) ∧ Hid (DcS w T w')) := fun W h => by
    have := uint14 w R W h (by omega)
    rw [hn, he1, hT] at this
    exact this
  have HU2 : Hid (∀ W, DcS w T W → Calls Tryd.prog 40 #[.pointer (some ⟨w.heap.size, 0, none⟩)] W fun e w' => e = .returned (.tuple #[.int .u64 (k : Int), .int .i64 e2]) ∧ Hid (DcS w U w')) := fun W h => by
    have := uint14 w T W h (by omega)
    rw [hk, he2, hU] at this
    exact this
  have HLF : Hid (∀ W, DcS w U W → Calls Tryd.prog 41 #[.pointer (some ⟨w.heap.size, 0, none⟩)] W fun e w' => e = .returned (.int .i64 (U.size : Int)) ∧ w' = W) := fun W h => left_any U w.heap.size W (by omega) h.cell
  have HTK : Hid (∀ W, DcS w U W → Calls Tryd.prog 39 #[.pointer (some ⟨w.heap.size, 0, none⟩), .int .i64 (U.size : Int)] W fun e w' => e = .returned (.tuple #[.string U, .int .i64 0]) ∧ Hid (Below w.heap.size w w')) := fun W h => by
    refine (take_ok U w.heap.size W (by omega) h.cell h.frz h.lt U.size (Nat.le_refl _)).mono ?_
    rintro e w' ⟨rfl, hs⟩
    exact ⟨by rw [extract_all], (h.step hs).bel⟩
  have HNO : Hid (¬ [x0, x1, x2, x3] = [77, 66, 70, 49] ∨ ¬ okF n k ∨ ¬ 8 * U.size = n → ∀ n k s, ¬ IsF S n k s) := by
    intro hno n' k' s' hI
    have hr := hI.read R (R.extract (shK R) R.size) hR.symm rfl
    have hR1 : unR R = R.extract (shK R) R.size := by rw [unR, if_neg hr.2.1]
    have hRT : R.extract (shK R) R.size = T := by rw [← hR1]; exact hT
    rw [hRT] at hr
    have en : n = n' := by rw [← hn, unN, if_neg hr.2.1]; exact hr.2.2.1
    have ek : k = k' := by rw [← hk, unN, if_neg hr.2.2.2.1]; exact hr.2.2.2.2.1
    have eU : bl U = s' := by rw [← hU, unR, if_neg hr.2.2.2.1]; exact hr.2.2.2.2.2
    rcases hno with h | h | h
    · exact h (hx.symm.trans hr.1)
    · exact h (by rw [en, ek]; exact hI.1)
    · apply h
      rw [← bl_length, eU, en]; exact hI.2.1
  have HYE : Hid ([x0, x1, x2, x3] = [77, 66, 70, 49] → okF n k → 8 * U.size = n → IsF S n k (bl U)) := by
    intro h1 h2 h3
    have p1 := okF_pos h2
    obtain ⟨a1, a2, a3⟩ := unN_pos (t := R) (by omega)
    obtain ⟨b1, b2, b3⟩ := unN_pos (t := T) (by have := h2.2.1; omega)
    rw [hn] at a2
    rw [hk] at b2
    rw [hT] at a3
    rw [hU] at b3
    have := IsF.made (S := S) (R := R) (T := T) hR.symm a3 (hx.trans h1) a1 b1 (by rw [← a2, ← b2]; exact h2) (by rw [← b3, ← a2]; exact h3)
    rw [← a2, ← b2, ← b3] at this
    exact this
  clear hm hx hR hT hU hn hk he1 he2 hS
  go_enter Tryd.func16, Tryd.ntmps16
  go_wp2_with fail
  refine (new_any S w).mono ?_
  rintro e w1 ⟨rfl, rfl⟩
  have H1 : Hid (DcS w S ((w.alloc (.cells #[.string S] 93)).alloc (.cells #[.int .u8 0, .int .u8 0, .int .u8 0, .int .u8 0] 74))) := by
    have hb := (bk_new w #[.string S] 93).alloc (.cells #[.int .u8 0, .int .u8 0, .int .u8 0, .int .u8 0] 74)
    exact ⟨by rw [hb.cell]; rfl, hb.frozen 0, hb.lt, ((Below.refl _ _).alloc (Nat.le_refl _) _).alloc (by simp) _⟩
  have K1 : Hid (Bk ((w.alloc (.cells #[.string S] 93)).alloc (.cells #[.int .u8 0, .int .u8 0, .int .u8 0, .int .u8 0] 74)) (w.heap.size + 1) #[.int .u8 0, .int .u8 0, .int .u8 0, .int .u8 0] 74) := by
    have := bk_new (w.alloc (.cells #[.string S] 93)) #[.int .u8 0, .int .u8 0, .int .u8 0, .int .u8 0] 74
    rw [al_size] at this
    exact this
  have T1 : Hid (Calls Tryd.prog 39 #[.pointer (some ⟨w.heap.size, 0, none⟩), .int .i64 4] ((w.alloc (.cells #[.string S] 93)).alloc (.cells #[.int .u8 0, .int .u8 0, .int .u8 0, .int .u8 0] 74)) fun e w' => e = .returned (.tuple #[.string (S.extract 0 4), .int .i64 0]) ∧ Hid (DcS w R w' ∧ Bk w' (w.heap.size + 1) #[.int .u8 0, .int .u8 0, .int .u8 0, .int .u8 0] 74)) := by
    refine (take_ok S w.heap.size _ HSZ.out H1.out.cell H1.out.frz H1.out.lt 4 h4).mono ?_
    rintro e w2 ⟨rfl, hs⟩
    rw [← HR.out] at hs
    refine ⟨rfl, H1.out.step hs, ?_⟩
    unfold Bk
    rw [hs.block _ K1.out.lt (by omega)]
    exact K1.out
  obtain ⟨F, hF⟩ : ∃ F, S.extract 0 4 = F := ⟨_, rfl⟩
  rw [hF] at T1 HXE
  have zF : F.size = 4 := by rw [← bl_length, HXE.out]; rfl
  clear H1 K1 hF
  go_wp2_with fail
  refine T1.out.mono ?_
  rintro e w2 ⟨rfl, H2⟩
  clear T1
  have hsl := slice4 (w.heap.size + 1)
  have k2 := H2.out.2
  have hcp : ∀ sT ty, (Builtin.copy_ #[64, sT] ty #[.slice (some ⟨w.heap.size + 1, 0, none⟩) 4 4, .string F]).run Tryd.prog w2 = .ok (goInt 4) (w2.setCells (w.heap.size + 1) 0 [.int .u8 (x0.toNat : Int), .int .u8 (x1.toNat : Int), .int .u8 (x2.toNat : Int), .int .u8 (x3.toNat : Int)]) := fun sT ty => by
    have hmn : Nat.min F.size 4 = 4 := by rw [zF]; rfl
    have h := copy_txt w2 64 sT ty 5 (w.heap.size + 1) 0 4 4 F (P := Tryd.prog) Tryd.underlying64 (by kernel_rfl) (fun j hj => by
      rw [hmn] at hj
      have h4 : j = 0 ∨ j = 1 ∨ j = 2 ∨ j = 3 := by omega
      rw [k2.cell]
      rcases h4 with rfl | rfl | rfl | rfl <;> rfl) (fun j hj => k2.frozen _)
    have hl : F.data.toList = [x0, x1, x2, x3] := HXE.out
    rw [hmn, hl] at h
    exact h
  have hb3 := Bk.puts (b := w.heap.size + 1) [.int .u8 (x0.toNat : Int), .int .u8 (x1.toNat : Int), .int .u8 (x2.toNat : Int), .int .u8 (x3.toNat : Int)] 0 _ w2 k2
  have hg3 := gr_puts (w.heap.size + 1) [.int .u8 (x0.toNat : Int), .int .u8 (x1.toNat : Int), .int .u8 (x2.toNat : Int), .int .u8 (x3.toNat : Int)] 0 (World.grownBy.refl w2 _)
  have hz3 := setCells_size (w.heap.size + 1) [.int .u8 (x0.toNat : Int), .int .u8 (x1.toNat : Int), .int .u8 (x2.toNat : Int), .int .u8 (x3.toNat : Int)] 0 w2
  obtain ⟨w3, hw3⟩ : ∃ W, w2.setCells (w.heap.size + 1) 0 [.int .u8 (x0.toNat : Int), .int .u8 (x1.toNat : Int), .int .u8 (x2.toNat : Int), .int .u8 (x3.toNat : Int)] = W := ⟨_, rfl⟩
  rw [hw3] at hcp hb3 hg3 hz3
  have H3 : Hid (DcS w R w3) := by
    have h := H2.out.1
    have hc := hg3.cell h.cell (by simp)
    refine ⟨hc, ?_, by rw [hz3]; exact h.lt, below_own h.bel h.bel.size hg3 (by omega)⟩
    have hbl := hg3.block w.heap.size h.lt (by simp)
    have hf := h.frz
    simp only [World.frozen?] at hf ⊢
    rw [hbl]; exact hf
  have y0 : w3.cell? ⟨w.heap.size + 1, 0, none⟩ = some (.int .u8 (x0.toNat : Int)) := by rw [hb3.cell]; rfl
  have y1 : w3.cell? ⟨w.heap.size + 1, 1, none⟩ = some (.int .u8 (x1.toNat : Int)) := by rw [hb3.cell]; rfl
  have y2 : w3.cell? ⟨w.heap.size + 1, 2, none⟩ = some (.int .u8 (x2.toNat : Int)) := by rw [hb3.cell]; rfl
  have y3 : w3.cell? ⟨w.heap.size + 1, 3, none⟩ = some (.int .u8 (x3.toNat : Int)) := by rw [hb3.cell]; rfl
  have hm := H3.out.old HM.out
  have m0 : w3.cell? ⟨0, 0, none⟩ = some (.int .u8 77) := hm 0 _ rfl
  have m1 : w3.cell? ⟨0, 1, none⟩ = some (.int .u8 66) := hm 1 _ rfl
  have m2 : w3.cell? ⟨0, 2, none⟩ = some (.int .u8 70) := hm 2 _ rfl
  have m3 : w3.cell? ⟨0, 3, none⟩ = some (.int .u8 49) := hm 3 _ rfl
  have heq := equalIn_4 x0.toNat x1.toNat x2.toNat x3.toNat w3
  clear k2 hm hb3 hg3 hz3 hw3 H2 HM
  by_cases hmk : [x0, x1, x2, x3] = [77, 66, 70, 49]
  · have HI : Hid ([x0, x1, x2, x3] = [77, 66, 70, 49]) := hmk
    have hd : decide ([x0.toNat, x1.toNat, x2.toNat, x3.toNat] = [77, 66, 70, 49]) = true := by
      simp only [List.cons.injEq, and_true] at hmk
      obtain ⟨rfl, rfl, rfl, rfl⟩ := hmk
      rfl
    rw [hd] at heq
    clear hmk hd
    go_wp2_with fail
    refine (HU1.out _ H3.out).mono ?_
    rintro e w4 ⟨rfl, H4⟩
    clear H3 y0 y1 y2 y3 m0 m1 m2 m3 heq
    go_wp2_with fail
    refine (HU2.out _ H4.out).mono ?_
    rintro e w5 ⟨rfl, H5⟩
    clear H4
    by_cases hok : okF n k
    · have HOK : Hid (okF n k) := hok
      have p1 := okF_pos hok
      have p2 := okF_le hok
      have p3 := hok.2.2
      have HIS : Hid (∀ W, Calls Tryd.prog 32 #[.int .u64 (n : Int), .int .u64 (k : Int)] W fun e w' => e = .returned (.bool true) ∧ w' = W) := fun W => isSize_yes n k W hok
      obtain ⟨q, hq⟩ : ∃ q, n / 8 = q := ⟨_, rfl⟩
      have hq1 : (n : Int) / 8 = (q : Int) := by omega
      have hq2 : (n : Int).tdiv 8 = (q : Int) := by rw [Int.tdiv_eq_ediv_of_nonneg (by omega)]; omega
      have hq8 := okF_div hok
      rw [hq] at hq8
      clear hok hq
      obtain ⟨z, hz⟩ : ∃ z, U.size = z := ⟨_, rfl⟩
      rw [hz] at zU HLF HTK
      have hzw : IntKind.u64.wrap (z : Int) = (z : Int) := by rw [IntKind.wrap_u64]; omega
      by_cases hzq : z = q
      · have HFin : Hid (IsF S n k (bl U)) := HYE.out HI.out HOK.out (by rw [hz, hzq]; exact hq8)
        have HZ : Hid (8 * U.size = n ∧ U.size = z) := ⟨by rw [hz, hzq]; exact hq8, hz⟩
        have hzq1 : ((z : Int) != (q : Int)) = false := by simp [hzq]
        clear hz hzq hq8
        go_wp2_with fail
        refine (HIS.out _).mono ?_
        rintro e w6 ⟨rfl, hw⟩
        obtain rfl : w5 = w6 := hw.symm
        go_wp2_with fail
        refine (HLF.out _ H5.out).mono ?_
        rintro e w6 ⟨rfl, hw⟩
        obtain rfl : w5 = w6 := hw.symm
        go_wp2_with fail
        refine (HLF.out _ H5.out).mono ?_
        rintro e w6 ⟨rfl, hw⟩
        obtain rfl : w5 = w6 := hw.symm
        go_wp2_with fail
        refine (HTK.out _ H5.out).mono ?_
        rintro e w6 ⟨rfl, H6⟩
        obtain ⟨c, V, hcv, hbV, hzV, hcU, hrV⟩ := rw_conv U w6
        have HV : Hid _ := fls_read (w := w) (k := k) HOK.out HZ.out.1 hbV hzV hrV hcU
        rw [HZ.out.2] at hcv HV
        have HV2 : Hid (Below w.heap.size w V ∧ V.heap.size = w6.heap.size + 1) := ⟨H6.out.trans (hbV.mono H6.out.size), hzV⟩
        clear hbV hrV hcU hzV
        have hni : IntKind.i64.wrap (n : Int) = (n : Int) := by rw [IntKind.wrap_i64]; omega
        have hki : IntKind.i64.wrap (k : Int) = (k : Int) := by rw [IntKind.wrap_i64]; omega
        go_wp2
        go_ret2
        exact .inl ⟨n, k, bl U, _, _, HFin.out, rfl, HV.out, HV2.out.1.alloc HV2.out.1.size _, by have := HV2.out.2; have := H6.out.size; omega, H6.out.size⟩
      · have hzq1 : ((z : Int) != (q : Int)) = true := by simp; omega
        have HNF : Hid (∀ n k s, ¬ IsF S n k s) := HNO.out (.inr (.inr (by rw [hz]; omega)))
        clear hz hzq hq8
        go_wp2_with fail
        refine (HIS.out _).mono ?_
        rintro e w6 ⟨rfl, hw⟩
        obtain rfl : w5 = w6 := hw.symm
        go_wp2_with fail
        refine (HLF.out _ H5.out).mono ?_
        rintro e w6 ⟨rfl, hw⟩
        obtain rfl : w5 = w6 := hw.symm
        go_wp2
        go_ret2
        exact .inr ⟨HNF.out, rfl, H5.out.bel⟩
    · have HIS : Hid (∀ W, Calls Tryd.prog 32 #[.int .u64 (n : Int), .int .u64 (k : Int)] W fun e w' => e = .returned (.bool false) ∧ w' = W) := fun W => isSize_no n k W hn64.out hk64.out hok
      have HNF : Hid (∀ n k s, ¬ IsF S n k s) := HNO.out (.inr (.inl hok))
      clear hok
      go_wp2_with fail
      refine (HIS.out _).mono ?_
      rintro e w6 ⟨rfl, hw⟩
      obtain rfl : w5 = w6 := hw.symm
      go_wp2
      go_ret2
      exact .inr ⟨HNF.out, rfl, H5.out.bel⟩
  · have HNF : Hid (∀ n k s, ¬ IsF S n k s) := HNO.out (.inl hmk)
    have hd : decide ([x0.toNat, x1.toNat, x2.toNat, x3.toNat] = [77, 66, 70, 49]) = false := by
      rw [decide_eq_false_iff_not]
      intro h
      apply hmk
      simp only [List.cons.injEq, and_true] at h ⊢
      exact ⟨UInt8.toNat_inj.1 h.1, UInt8.toNat_inj.1 h.2.1, UInt8.toNat_inj.1 h.2.2.1, UInt8.toNat_inj.1 h.2.2.2⟩
    rw [hd] at heq
    clear hmk hd
    go_wp2
    go_ret2
    exact .inr ⟨HNF.out, rfl, H3.out.bel⟩
theorem dec_any14 (S : ByteArray) (w : World) (hm : MkS w) (hS : S.size ≤ maxLen) : Calls Tryd.prog 16 #[.string S] w fun e w' => DcF S w e w' := by
  by_cases h : S.size < 4
  · exact dec_short S w hm h
  · exact dec_long S w hm (by omega) hS
end Go.Proofs.YtplfjfhpdfbpeaaDoor
/- digest.Of. -/
namespace Go.Proofs.YtplfjfhpdfbpeaaDoor
open Go.RowKit
set_option linter.unusedSimpArgs false
set_option linter.unusedVariables false
end Go.Proofs.YtplfjfhpdfbpeaaDoor
/- digest.Parse. -/
namespace Go.Proofs.YtplfjfhpdfbpeaaDoor
open Go.RowKit
set_option linter.unusedSimpArgs false
set_option linter.unusedVariables false
theorem sum_id (s : ByteArray) (w : World) (hL : Lst w) (hlen : s.size < 288230376151711744) :
    Calls Tryd.prog 47 #[.string s] w fun e w' => e = .returned (.agg (idc (sb (sha (byl s))))) ∧ Below w.heap.size w w' := by
  rw [← shc_idc]; exact sum_any s w hL hlen
theorem sha_size (m : List Nat) : (sb (sha m)).size = 32 := by rw [sb_size, sha_length]
/-- The name that digits say, as its cells. -/
def pid (t : ByteArray) : Array Value := putA z32c 0 (bvc ((byl (uhS t)).take (Nat.min (uhS t).size 32)))
theorem pid_size (t : ByteArray) : (pid t).size = 32 := by rw [pid, putA_size, z32c_size]
theorem pid_one (t : ByteArray) : (pid t).all (·.oneCell') = true :=
  Array.all_eq_true_iff_forall_mem.2 (putA_one _ _ _ (bvc_one _) (by intro v hv; exact bvc_one _ v (by simpa [z32c] using hv)))
theorem pid_ok (t : ByteArray) (h : (uhS t).size = 32) : pid t = idc (uhS t) := by
  have hl : (bvc ((byl (uhS t)).take 32)).length = 32 := by simp [bvc, byl_length, h]
  rw [pid, h]
  apply Array.ext_getElem?
  intro i
  show (putA z32c 0 (bvc ((byl (uhS t)).take 32)))[i]? = _
  rw [putA_get _ _ _ _ (by rw [z32c_size, hl]; omega), hl]
  by_cases hi : i < 32
  · rw [if_pos (by omega), Nat.sub_zero, idc, List.getElem?_toArray, List.take_of_length_le (by rw [byl_length, h]; omega)]
  · rw [if_neg (by omega), Array.getElem?_eq_none (by rw [z32c_size]; omega), Array.getElem?_eq_none (by rw [idc_size, h]; omega)]
theorem pid_none (t : ByteArray) (h : uhS t = ⟨#[]⟩) : pid t = z32c := by rw [pid, h]; rfl
theorem copy32 {w : World} {g : Nat} {T : TypeId} (hB : Blk w g z32c T) (s : ByteArray) (ty : TypeId) :
    (Builtin.copy_ #[64, 9] ty #[.slice (some ⟨g, 0, none⟩) 32 32, .string s]).run Tryd.prog w = .ok (goInt (Nat.min s.size 32)) (w.setCells g 0 (bvc ((byl s).take (Nat.min s.size 32)))) := by
  have hi : (Tryd.prog.info? 5).map (·.size) = some 1 := by kernel_rfl
  refine copy_str w 64 9 ty 5 g 0 _ _ s Tryd.underlying64 hi (fun j hj => ?_) (fun j hj => hB.frozen _)
  have hj2 := Nat.lt_of_lt_of_le hj (Nat.min_le_right _ _)
  rw [hB.cell, Nat.zero_add, z32c_get j (by omega)]; rfl
theorem par_res {w w1 : World} {cs : List Value} (h : Below ((w.alloc (.cells z32c 36)).alloc (.cells z32c 36)).heap.size ((w.alloc (.cells z32c 36)).alloc (.cells z32c 36)) w1) : Blk (w1.setCells (w.heap.size + 1) 0 cs) w.heap.size z32c 36 :=
  Blk.grown (Blk.grown (Blk.grown (blk_new w (.cells z32c 36)) (World.grownBy_alloc _ _ none) (by simp)) (grown_of_below h none) (by simp)) (grown_puts (w.heap.size + 1) cs 0 (World.grownBy.refl w1 _)) (by simp)
theorem par_grown {w w1 : World} {cs : List Value} (h : Below ((w.alloc (.cells z32c 36)).alloc (.cells z32c 36)).heap.size ((w.alloc (.cells z32c 36)).alloc (.cells z32c 36)) w1) : w.grownBy (w1.setCells (w.heap.size + 1) 0 cs) none :=
  (((World.grownBy_alloc w _ none).trans (World.grownBy_alloc _ _ none)).trans (grown_of_below h none)).andThen (grown_puts (w.heap.size + 1) cs 0 (World.grownBy.refl w1 _)) (fun j hj => by left; simp at hj; omega)
set_option maxHeartbeats 400000 in
set_option maxRecDepth 100000 in
theorem parse_64 (t : ByteArray) (w : World) (ht : t.size = 64) (hA : All w) :
    Calls Tryd.prog 66 #[.string t] w fun e w' => e = .returned (.tuple #[.agg (pid t), .int .i64 (uhE t)]) ∧ Below w.heap.size w w' := by
  have HA : Hid (All w) := hA
  have hlt := hA.lt
  clear hA
  have h1 := slice32 (w.heap.size + 1)
  go_enter Tryd.func66, Tryd.ntmps66
  go_wp2_with (first
    | (go_at_call 76; refine (unhex_even t _ 32 (by omega) (by omega) ((HA.out.alloc _).alloc _).t (by rw [alloc_size, alloc_size]; omega)).mono ?_; rintro e w1 ⟨rfl, hb1⟩; have HB1 : Hid (Below (((w.alloc (.cells z32c 36)).alloc (.cells z32c 36))).heap.size ((w.alloc (.cells z32c 36)).alloc (.cells z32c 36)) w1) := hb1; clear hb1; have HI : Hid (Blk w1 (w.heap.size + 1) z32c 36) := Blk.grown (by { have e := blk_new (w.alloc (.cells z32c 36)) (.cells z32c 36); rw [alloc_size] at e; exact e }) (grown_of_below HB1.out none) (by simp); have hcp := copy32 HI.out (uhS t))
    | (refine wpList_load_row rfl 36 (.tmp 4) rfl (w.heap.size + 1) rfl 36 (pid t) (0, 0) _ (Blk.puts _ 0 _ _ HI.out) Tryd.underlying36 rfl (info_32 (pid_size t)) ?_)
    | (refine wpList_store_row rfl 36 (.tmp 2) (.tmp 19) rfl w.heap.size (pid t) rfl rfl 36 z32c (par_res HB1.out) (info_32 (pid_size t)) (by rw [z32c_size, pid_size]) (pid_one t) ?_))
  refine bodyPost_ret (results_cell_tmp_row rfl _ _ w.heap.size 36 (pid t) (0, 0) _ rfl (setRow_heap _ _ _ _ _ _ (par_res HB1.out)) Tryd.underlying36 rfl (info_32 (pid_size t))) rfl ⟨rfl, ?_⟩
  exact below_setRow (below_of_grown (par_grown HB1.out)) (Nat.le_refl _) _
set_option maxHeartbeats 400000 in
set_option maxRecDepth 100000 in
theorem parse_bad (t : ByteArray) (w : World) (ht : t.size ≠ 64) (hm : t.size ≤ 140737488351232) :
    Calls Tryd.prog 66 #[.string t] w fun e w' => e = .returned (.tuple #[.agg z32c, .int .i64 4]) ∧ Below w.heap.size w w' := by
  have hne : ¬ (t.size : Int) = 64 := by omega
  have hz := zero_id
  go_enter Tryd.func66, Tryd.ntmps66
  go_wp2_with (refine wpList_store_row rfl 36 (.tmp 2) (.tmp 10) rfl w.heap.size z32c rfl rfl 36 z32c (Blk.grown (blk_new w _) (World.grownBy_alloc _ _ none) (by simp)) (info_32 z32c_size) rfl z32c_one ?_)
  refine bodyPost_ret (results_cell_tmp_row rfl _ _ w.heap.size 36 z32c (0, 0) _ rfl (setRow_heap _ _ _ _ _ _ (Blk.grown (blk_new w (.cells z32c 36)) (World.grownBy_alloc _ _ none) (by simp))) Tryd.underlying36 rfl (info_32 z32c_size)) rfl ⟨rfl, ?_⟩
  exact below_setRow (below_of_grown ((World.grownBy_alloc w _ none).trans (World.grownBy_alloc _ _ none))) (Nat.le_refl _) _
end Go.Proofs.YtplfjfhpdfbpeaaDoor
/- strings.CutPrefix, CutSuffix; names of a filter's file; bloom.Name, isName, Check. -/
namespace Go.Proofs.YtplfjfhpdfbpeaaDoor
open Go.RowKit
set_option linter.unusedSimpArgs false
set_option linter.unusedVariables false
theorem ret_bQ {a b : Bool} (h : b = a) : Ending.returned (.bool a) = .returned (.bool b) := by rw [h]
theorem str_neQ {x y : ByteArray} (h : x ≠ y) : (x.toList == y.toList) = false := by
  rw [beq_eq_false_iff_ne, Lib.toList_data, Lib.toList_data]
  intro e
  exact h (bl_inj e)
/-- Whether a text stands at the front, at the end. -/
def pfQ (s q : ByteArray) : Bool := decide (q.size ≤ s.size) && (bl (s.extract 0 q.size) == bl q)
def sfQ (s q : ByteArray) : Bool := decide (q.size ≤ s.size) && (bl (s.extract (s.size - q.size) s.size) == bl q)
set_option maxHeartbeats 1000000 in
theorem hasPfxQ (s q : ByteArray) (w : World) (hs : s.size ≤ 140737488355328) (hq : q.size ≤ 16) :
    Calls Tryd.prog 83 #[.string s, .string q] w fun e w' => e = .returned (.bool (pfQ s q)) ∧ w' = w := by
  by_cases h4 : q.size ≤ s.size
  · have h4z : (q.size : Int) ≤ (s.size : Int) := by omega
    obtain ⟨x, hx⟩ : ∃ x, s.extract 0 q.size = x := ⟨_, rfl⟩
    by_cases he : x = q
    · have HE : Hid (pfQ s q = true) := by show _ = _; rw [pfQ, hx, he]; simp [h4]
      subst he
      go_enter Tryd.func83, Tryd.ntmps83
      go_wp2
      go_ret
      exact ⟨ret_bQ HE.out, rfl⟩
    · have HE : Hid (pfQ s q = false) := by
        show _ = _
        rw [pfQ, hx, Bool.and_eq_false_iff]
        exact .inr (by rw [beq_eq_false_iff_ne]; exact fun h => he (bl_inj h))
      have hne := str_neQ he
      clear he
      go_enter Tryd.func83, Tryd.ntmps83
      go_wp2
      go_ret
      exact ⟨ret_bQ HE.out, rfl⟩
  · have h4z : ¬ (q.size : Int) ≤ (s.size : Int) := by omega
    have HE : Hid (pfQ s q = false) := by show pfQ s q = false; simp [pfQ, h4]
    go_enter Tryd.func83, Tryd.ntmps83
    go_wp2
    go_ret
    exact ⟨ret_bQ HE.out, rfl⟩
set_option maxHeartbeats 1000000 in
theorem hasSfxQ (s q : ByteArray) (w : World) (hs : s.size ≤ 140737488355328) (hq : q.size ≤ 16) :
    Calls Tryd.prog 84 #[.string s, .string q] w fun e w' => e = .returned (.bool (sfQ s q)) ∧ w' = w := by
  by_cases h4 : q.size ≤ s.size
  · have h4z : (q.size : Int) ≤ (s.size : Int) := by omega
    obtain ⟨n, hn⟩ : ∃ n, n = s.size - q.size := ⟨_, rfl⟩
    have hnz : (s.size : Int) - (q.size : Int) = (n : Int) := by omega
    have hnl : (n : Int) ≤ (s.size : Int) := by omega
    obtain ⟨x, hx⟩ : ∃ x, s.extract n s.size = x := ⟨_, rfl⟩
    by_cases he : x = q
    · have HE : Hid (sfQ s q = true) := by show _ = _; rw [sfQ, ← hn, hx, he]; simp [h4]
      subst he
      clear hn
      go_enter Tryd.func84, Tryd.ntmps84
      go_wp2
      go_ret
      exact ⟨ret_bQ HE.out, rfl⟩
    · have HE : Hid (sfQ s q = false) := by
        show _ = _
        rw [sfQ, ← hn, hx, Bool.and_eq_false_iff]
        exact .inr (by rw [beq_eq_false_iff_ne]; exact fun h => he (bl_inj h))
      have hne := str_neQ he
      clear he hn
      go_enter Tryd.func84, Tryd.ntmps84
      go_wp2
      go_ret
      exact ⟨ret_bQ HE.out, rfl⟩
  · have h4z : ¬ (q.size : Int) ≤ (s.size : Int) := by omega
    have HE : Hid (sfQ s q = false) := by show sfQ s q = false; simp [sfQ, h4]
    go_enter Tryd.func84, Tryd.ntmps84
    go_wp2
    go_ret
    exact ⟨ret_bQ HE.out, rfl⟩
/-- What is left when they are cut. -/
def cpQ (s q : ByteArray) : ByteArray := if pfQ s q = true then s.extract q.size s.size else s
def csQ (s q : ByteArray) : ByteArray := if sfQ s q = true then s.extract 0 (s.size - q.size) else s
theorem pfQ_le {s q : ByteArray} (h : pfQ s q = true) : q.size ≤ s.size := by simp [pfQ] at h; exact h.1
theorem sfQ_le {s q : ByteArray} (h : sfQ s q = true) : q.size ≤ s.size := by simp [sfQ] at h; exact h.1
theorem ret_sbQ {a b : ByteArray} {e e' : Bool} (h : b = a ∧ e' = e) : Ending.returned (.tuple #[.string a, .bool e]) = .returned (.tuple #[.string b, .bool e']) := by rw [h.1, h.2]
set_option maxHeartbeats 1000000 in
theorem cutP1Q (s q : ByteArray) (w : World) (hs : s.size ≤ 140737488355328) (hq : q.size ≤ 16) :
    Calls Tryd.prog 74 #[.string s, .string q] w fun e w' => e = .returned (.tuple #[.string (cpQ s q), .bool (pfQ s q)]) ∧ w' = w := by
  cases hp : pfQ s q with
  | true =>
    have H1 := hasPfxQ s q w hs hq
    rw [hp] at H1
    have HE : Hid (cpQ s q = s.extract q.size s.size) := by show _ = _; rw [cpQ, if_pos hp]
    have hle := pfQ_le hp
    have h4z : (q.size : Int) ≤ (s.size : Int) := by omega
    clear hp
    go_enter Tryd.func74, Tryd.ntmps74
    go_wp2_with fail
    refine H1.mono ?_
    rintro e w1 ⟨rfl, hw⟩
    obtain rfl : w = w1 := hw.symm
    go_wp2
    go_ret2
    exact ⟨ret_sbQ ⟨HE.out, rfl⟩, rfl⟩
  | false =>
    have H1 := hasPfxQ s q w hs hq
    rw [hp] at H1
    have HE : Hid (cpQ s q = s) := by show _ = _; rw [cpQ, if_neg (by rw [hp]; simp)]
    clear hp
    go_enter Tryd.func74, Tryd.ntmps74
    go_wp2_with fail
    refine H1.mono ?_
    rintro e w1 ⟨rfl, hw⟩
    obtain rfl : w = w1 := hw.symm
    go_wp2
    go_ret2
    exact ⟨ret_sbQ ⟨HE.out, rfl⟩, rfl⟩
set_option maxHeartbeats 1000000 in
theorem cutS1Q (s q : ByteArray) (w : World) (hs : s.size ≤ 140737488355328) (hq : q.size ≤ 16) :
    Calls Tryd.prog 75 #[.string s, .string q] w fun e w' => e = .returned (.tuple #[.string (csQ s q), .bool (sfQ s q)]) ∧ w' = w := by
  cases hp : sfQ s q with
  | true =>
    have H1 := hasSfxQ s q w hs hq
    rw [hp] at H1
    obtain ⟨n, hn⟩ : ∃ n, n = s.size - q.size := ⟨_, rfl⟩
    have HE : Hid (csQ s q = s.extract 0 n) := by show _ = _; rw [csQ, if_pos hp, hn]
    have hle := sfQ_le hp
    have hnz : (s.size : Int) - (q.size : Int) = (n : Int) := by omega
    have hnl : (n : Int) ≤ (s.size : Int) := by omega
    clear hp hn
    go_enter Tryd.func75, Tryd.ntmps75
    go_wp2_with fail
    refine H1.mono ?_
    rintro e w1 ⟨rfl, hw⟩
    obtain rfl : w = w1 := hw.symm
    go_wp2
    go_ret2
    exact ⟨ret_sbQ ⟨HE.out, rfl⟩, rfl⟩
  | false =>
    have H1 := hasSfxQ s q w hs hq
    rw [hp] at H1
    have HE : Hid (csQ s q = s) := by show _ = _; rw [csQ, if_neg (by rw [hp]; simp)]
    clear hp
    go_enter Tryd.func75, Tryd.ntmps75
    go_wp2_with fail
    refine H1.mono ?_
    rintro e w1 ⟨rfl, hw⟩
    obtain rfl : w = w1 := hw.symm
    go_wp2
    go_ret2
    exact ⟨ret_sbQ ⟨HE.out, rfl⟩, rfl⟩
theorem cutPQ (s q : ByteArray) (w : World) (hs : s.size ≤ 140737488355328) (hq : q.size ≤ 16) :
    Calls Tryd.prog 64 #[.string s, .string q] w fun e w' => e = .returned (.tuple #[.string (cpQ s q), .bool (pfQ s q)]) ∧ w' = w := by
  go_enter Tryd.func64, Tryd.ntmps64
  go_wp2_with fail
  refine (cutP1Q s q _ hs hq).mono ?_
  rintro e w1 ⟨rfl, hw⟩
  obtain rfl : w = w1 := hw.symm
  go_wp2
  go_ret2
  exact ⟨rfl, rfl⟩
theorem cutSQ (s q : ByteArray) (w : World) (hs : s.size ≤ 140737488355328) (hq : q.size ≤ 16) :
    Calls Tryd.prog 65 #[.string s, .string q] w fun e w' => e = .returned (.tuple #[.string (csQ s q), .bool (sfQ s q)]) ∧ w' = w := by
  go_enter Tryd.func65, Tryd.ntmps65
  go_wp2_with fail
  refine (cutS1Q s q _ hs hq).mono ?_
  rintro e w1 ⟨rfl, hw⟩
  obtain rfl : w = w1 := hw.symm
  go_wp2
  go_ret2
  exact ⟨rfl, rfl⟩
end Go.Proofs.YtplfjfhpdfbpeaaDoor
