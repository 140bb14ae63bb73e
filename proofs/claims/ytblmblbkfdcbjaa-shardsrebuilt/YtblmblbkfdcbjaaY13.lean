import Derived.Test.YtblmblbkfdcbjaaY6
import Derived.Test.YtblmblbkfdcbjaaY10
import Derived.Test.YtblmblbkfdcbjaaY3
/- The document's Encode. -/
namespace Go.Proofs.Ytblmblbkfdcbjaa
open Go.RowKit
set_option linter.unusedSimpArgs false
set_option linter.unusedVariables false
theorem conv_by (s : ByteArray) (u : World) : ∃ (cap : Nat) (W : World), (convert 9 44 (.string s)).run Try.prog u = .ok (.slice (some ⟨u.heap.size, 0, none⟩) s.size cap) W ∧
    Below u.heap.size u W ∧ ByL W (some ⟨u.heap.size, 0, none⟩) s s.size := by
  refine ⟨grownCap u s.size 0 5, Lib.bytesWorld u 5 s, Lib.run_convert_string_bytes u _ _ _ s Try.underlying9 Try.underlying44 Try.underlying5, ?_, ?_⟩
  · refine ⟨?_, ?_, ?_, by rw [Lib.bytesWorld_size]; omega, fun k hk => Lib.bytesWorld_at_old _ _ _ _ hk⟩
    all_goals simp [Lib.bytesWorld, World.freeze, World.alloc, World.drew, -World.alloc_eq, -World.drew_eq]
  · intro j hj
    refine ⟨_, _, rfl, by rw [Lib.bytesWorld_size]; omega, ?_⟩
    rw [Nat.zero_add, cell_of_row _ _ j _ _ _ (Lib.bytesWorld_at_new u 5 s)]
    have hj' : j < s.data.size := hj
    rw [Lib.bytesCells, Array.getElem?_append_left (by simpa using hj)]
    simp only [Array.getElem?_map, Array.getElem?_eq_getElem hj', Option.map_some]
    rw [← bt_at s j hj]
    rfl
set_option maxHeartbeats 1000000 in
set_option maxRecDepth 100000 in
theorem rencode_any (a : Option Addr) (c n : Nat) (xs : List ByteArray) (m : Int) (w : World) (hx : TxL w a xs) (nx : xs.length = n) (ln : n ≤ 4611686018427387904) (sx : ∀ x ∈ xs, x.size ≤ 281474976710656) (m1 : -9223372036854775808 ≤ m) (m2 : m ≤ 9223372036854775807) :
    Calls Try.prog 24 #[.slice a n c, .int .i64 m] w fun e w' => ∃ ao k, e = .returned (.tuple #[.slice ao (enX xs m).length k, .int .i64 (enE xs m)]) ∧ Ans w ao (enX xs m) w' ∧ Below w.heap.size w w' := by
  have he := fun W hW => alike_any a c xs W hW (by omega)
  rw [nx] at he
  have HX : Hid (TxL w a xs) := hx
  by_cases h1 : 1 ≤ n
  · have h1a : ¬ (n : Int) < 1 := by omega
    by_cases h1' : n ≤ 32
    · have h1b : ¬ (n : Int) > 32 := by omega
      by_cases h2 : evn xs = true
      · rw [h2] at he
        have C2 : Hid _ := he
        clear he
        by_cases h3 : 0 ≤ m
        · have h3a : ¬ m < 0 := by omega
          by_cases h4 : m ≤ 64 - (n : Int)
          · have hok : enOk xs m := ⟨by omega, h2, h3, by omega⟩
            obtain ⟨k, rfl⟩ : ∃ k : Nat, m = k := ⟨m.toNat, by omega⟩
            have e1 : enX xs (k : Int) = mixL (cyX k n) xs (wid xs) := by unfold enX; rw [if_pos hok, Int.toNat_natCast, nx]
            have e2 : enE xs (k : Int) = 0 := if_pos hok
            have hl := cyX_len k n (by omega) (by omega) (by omega)
            have h4a : ¬ (k : Int) > 64 - (n : Int) := by omega
            rw [e1, e2]
            by_cases h5 : k = 0
            · have h5a : ((k : Int) == 0) = true := by rw [h5]; rfl
              have HE : Hid (mixL (cyX k n) xs (wid xs) = []) := by show _ = _; rw [h5, cyX_zero]; rfl
              clear h5 hl e1 e2 hok h2 nx hx sx
              go_enter Try.func24, Try.ntmps24
              go_wp2_with fail
              refine Calls.mono (C2.out _ HX.out) ?_
              rintro e w2 ⟨rfl, hb2⟩
              have B2 : Hid (Below w.heap.size w w2) := hb2
              clear hb2
              go_wp2
              go_ret2
              rw [HE.out]
              first | exact ⟨none, 0, rfl, ⟨fun i x hx => by simp at hx, fun b o s e => by cases e⟩, B2.out⟩ | exact ⟨none, ⟨0, rfl⟩, ⟨fun i x hx => by simp at hx, fun b o s e => by cases e⟩, B2.out⟩
            · have h5a : ((k : Int) == 0) = false := by rw [beq_eq_false_iff_ne]; omega
              have hc3 := fun W => rcy_any (k : Int) (n : Int) W
              have e3 : (caX (k : Int) (n : Int)).length = k := hl
              have e4 : caE (k : Int) (n : Int) = 0 := by unfold caE; rw [if_pos (by omega)]
              rw [e3, e4] at hc3
              have C3 : Hid _ := hc3
              have HL : Hid ((mixL (cyX k n) xs (wid xs)).length = k) := by show _ = k; rw [mixL_len, hl]
              have HCL : Hid ((cyX k n).length = k) := hl
              have HCS : Hid (∀ r ∈ cyX k n, r.size = n) := cyX_size k n (by omega) (by omega) (by omega)
              have hc4 := fun b2 cb2 r W hW hV => made_any b2 a n cb2 c n (wid xs) r xs W hW hV nx (by omega) (by omega) (Nat.le_refl _) (by omega) (evn_all xs h2) (wid_of (by omega) _ sx)
              have C4 : Hid _ := hc4
              clear hc3 hc4 e3 e4 hl e1 e2 hok h2 nx hx sx
              obtain ⟨i0, hi, hz0, hz1, hz2⟩ := info_parts inf_str
              go_enter Try.func24, Try.ntmps24
              go_wp2_with fail
              refine Calls.mono (C2.out _ HX.out) ?_
              rintro e w2 ⟨rfl, hb2⟩
              have B2 : Hid (Below w.heap.size w w2) := hb2
              clear hb2
              go_wp2_with fail
              refine Calls.mono (C3.out _) ?_
              rintro e w3 ⟨ac, cc, rfl, hA, hb3⟩
              have HA : Hid (Ans w2 ac (cyX k n) w3) := hA
              have B3 : Hid (Below w.heap.size w w3) := B2.out.trans (hb3.mono B2.out.size)
              have HX3 : Hid (TxL w3 a xs) := HX.out.below B3.out
              clear hA hb3
              go_wp2_with fail
              go_loopw [8, 9] (fun v t wr => ∃ i : Nat, i ≤ k ∧ t = .int .i64 i ∧ Hid (wr.ownsRow w3.heap.size 9 1 v i (sv ((mixL (cyX k n) xs (wid xs)).take i))) ∧ Hid (Below w3.heap.size w3 wr)) (fun _ t _ => k - (intOf t).toNat)
              case atStart => exact ⟨0, by omega, rfl, World.ownsRow_nil _ _ _ _, Below.refl _ _⟩
              case round =>
                obtain ⟨i, hik, rfl, HO, HB⟩ := hrel
                have hzr : w3.heap.size ≤ wr.heap.size := HB.out.size
                by_cases hlt : i < k
                · have hiz : (i : Int) < (k : Nat) := by omega
                  obtain ⟨r, hr⟩ : ∃ r, (cyX k n)[i]? = some r := ⟨_, List.getElem?_eq_getElem (by rw [HCL.out]; omega)⟩
                  have hrs := HCS.out r (List.mem_of_getElem? hr)
                  have HT : Hid ((mixL (cyX k n) xs (wid xs)).take (i + 1) = (mixL (cyX k n) xs (wid xs)).take i ++ [mixT r xs (wid xs)]) := by
                    show _ = _
                    rw [List.take_add_one, mixL, List.getElem?_map, hr]; rfl
                  obtain ⟨ga, oa, rfl, hga, hc⟩ := (HA.out.1.below HB.out) i r hr
                  obtain ⟨cap, W1, hcv, hb1, hby⟩ := conv_by r wr
                  rw [hrs] at hcv hby
                  have HO1 : Hid (W1.ownsRow w3.heap.size 9 1 u8 i (sv ((mixL (cyX k n) xs (wid xs)).take i))) := own_kept HO.out hb1
                  have HB1 : Hid (Below w3.heap.size w3 W1) := HB.out.trans (hb1.mono hzr)
                  have HBY : Hid (ByL W1 (some ⟨wr.heap.size, 0, none⟩) r n) := hby
                  clear hby hb1 hr hrs
                  go_wp2_with fail
                  refine Calls.mono (C4.out _ _ r _ HBY.out (HX3.out.below HB1.out)) ?_
                  rintro e w4 ⟨rfl, hb4⟩
                  have HO4 : Hid (w4.ownsRow w3.heap.size 9 1 u8 i (sv ((mixL (cyX k n) xs (wid xs)).take i))) := own_kept HO1.out hb4
                  have HB4 : Hid (Below w3.heap.size w3 w4) := HB1.out.trans (hb4.mono HB1.out.size)
                  have hz4 : w3.heap.size ≤ w4.heap.size := HB4.out.size
                  obtain ⟨pt, hpt⟩ : ∃ pt, mixT r xs (wid xs) = pt := ⟨_, rfl⟩
                  rw [hpt] at HT ⊢
                  clear hpt hb4 hcv HBY HO1 HB1 HO HB
                  go_wp2_with (at_builtin; refine wpList_append_own _ rfl _ _ 22 rfl w3.heap.size 9 i0 (.string ⟨#[]⟩) 1 16 Try.underlying22 hi hz0 hz1 hz2 rfl (by decide) _ _ _ rfl (HO4.out.alloc _) ⟨w4.heap.size, 0, none⟩ 1 1 [.string pt] rfl rfl (news_one _ _ _) (one_str _) (by unfold maxLen; omega) (by omega) (by simp; omega) ?_)
                  intro v' w7 hown1 hgrow _
                  have HO7 : Hid (w7.ownsRow w3.heap.size 9 1 v' (i + 1) (sv ((mixL (cyX k n) xs (wid xs)).take (i + 1)))) := by
                    show World.ownsRow _ _ _ _ _ _ _
                    rw [HT.out, sv_append]; exact hown1
                  have HB7 : Hid (Below w3.heap.size w3 w7) := apn_bel HB4.out hz4 HO4.out hgrow
                  clear hown1 hgrow HO4 HB4
                  go_wp2
                  go_roundw
                  case rel => exact ⟨i + 1, by omega, by go_num, HO7.out, HB7.out⟩
                  case measure => simp [intOf]; omega
                · have hiz : ¬ (i : Int) < (k : Nat) := by omega
                  have hik2 : i = k := by omega
                  have hown := HO.out
                  rw [hik2, List.take_of_length_le (by rw [HL.out]; omega)] at hown
                  obtain ⟨q, cq, hq, hA⟩ := ans_of (xs := mixL (cyX k n) xs (wid xs)) (by rw [HL.out]; exact hown)
                  subst hq
                  have HAn : Hid (Ans w q (mixL (cyX k n) xs (wid xs)) wr) := ⟨hA.1, fun b o s e => ⟨Nat.le_trans B3.out.size (hA.2 b o s e).1, (hA.2 b o s e).2⟩⟩
                  have HBn : Hid (Below w.heap.size w wr) := B3.out.trans (HB.out.mono B3.out.size)
                  clear hown hA hik2 HO HB
                  go_wp2
                  go_ret2
                  first | exact ⟨q, cq, rfl, HAn.out, HBn.out⟩ | exact ⟨q, ⟨cq, rfl⟩, HAn.out, HBn.out⟩
          · have h4z : m > 64 - (n : Int) := by omega
            have e1 : enX xs m = [] := if_neg (fun h => h4 (by have := h.2.2.2; omega))
            have e2 : enE xs m = 1 := if_neg (fun h => h4 (by have := h.2.2.2; omega))
            rw [e1, e2]
            clear e1 e2 nx hx sx h2
            go_enter Try.func24, Try.ntmps24
            go_wp2_with fail
            refine Calls.mono (C2.out _ HX.out) ?_
            rintro e w2 ⟨rfl, hb2⟩
            have B2 : Hid (Below w.heap.size w w2) := hb2
            clear hb2
            go_wp2
            go_ret2
            first | exact ⟨none, 0, rfl, ⟨fun i x hx => by simp at hx, fun b o s e => by cases e⟩, B2.out⟩ | exact ⟨none, ⟨0, rfl⟩, ⟨fun i x hx => by simp at hx, fun b o s e => by cases e⟩, B2.out⟩
        · have h3z : m < 0 := by omega
          have e1 : enX xs m = [] := if_neg (fun h => h3 h.2.2.1)
          have e2 : enE xs m = 1 := if_neg (fun h => h3 h.2.2.1)
          rw [e1, e2]
          clear e1 e2 nx hx sx h2
          go_enter Try.func24, Try.ntmps24
          go_wp2_with fail
          refine Calls.mono (C2.out _ HX.out) ?_
          rintro e w2 ⟨rfl, hb2⟩
          have B2 : Hid (Below w.heap.size w w2) := hb2
          clear hb2
          go_wp2
          go_ret2
          first | exact ⟨none, 0, rfl, ⟨fun i x hx => by simp at hx, fun b o s e => by cases e⟩, B2.out⟩ | exact ⟨none, ⟨0, rfl⟩, ⟨fun i x hx => by simp at hx, fun b o s e => by cases e⟩, B2.out⟩
      · have h2z : evn xs = false := by simpa using h2
        rw [h2z] at he
        have C2 : Hid _ := he
        clear he
        have e1 : enX xs m = [] := if_neg (fun h => h2 h.2.1)
        have e2 : enE xs m = 1 := if_neg (fun h => h2 h.2.1)
        rw [e1, e2]
        clear e1 e2 nx hx sx h2 h2z
        go_enter Try.func24, Try.ntmps24
        go_wp2_with fail
        refine Calls.mono (C2.out _ HX.out) ?_
        rintro e w2 ⟨rfl, hb2⟩
        have B2 : Hid (Below w.heap.size w w2) := hb2
        clear hb2
        go_wp2
        go_ret2
        first | exact ⟨none, 0, rfl, ⟨fun i x hx => by simp at hx, fun b o s e => by cases e⟩, B2.out⟩ | exact ⟨none, ⟨0, rfl⟩, ⟨fun i x hx => by simp at hx, fun b o s e => by cases e⟩, B2.out⟩
    · have h1b : (n : Int) > 32 := by omega
      have e1 : enX xs m = [] := if_neg (fun h => h1' (by have := h.1.2; omega))
      have e2 : enE xs m = 1 := if_neg (fun h => h1' (by have := h.1.2; omega))
      rw [e1, e2]
      clear e1 e2 nx hx sx he
      go_enter Try.func24, Try.ntmps24
      go_wp2
      go_ret2
      first | exact ⟨none, 0, rfl, ⟨fun i x hx => by simp at hx, fun b o s e => by cases e⟩, Below.refl _ _⟩ | exact ⟨none, ⟨0, rfl⟩, ⟨fun i x hx => by simp at hx, fun b o s e => by cases e⟩, Below.refl _ _⟩
  · have h1a : (n : Int) < 1 := by omega
    have e1 : enX xs m = [] := if_neg (fun h => h1 (by have := h.1.1; omega))
    have e2 : enE xs m = 1 := if_neg (fun h => h1 (by have := h.1.1; omega))
    rw [e1, e2]
    clear e1 e2 nx hx sx he
    go_enter Try.func24, Try.ntmps24
    go_wp2
    go_ret2
    first | exact ⟨none, 0, rfl, ⟨fun i x hx => by simp at hx, fun b o s e => by cases e⟩, Below.refl _ _⟩ | exact ⟨none, ⟨0, rfl⟩, ⟨fun i x hx => by simp at hx, fun b o s e => by cases e⟩, Below.refl _ _⟩
end Go.Proofs.Ytblmblbkfdcbjaa
/- Elimination with rows exchanged, column by column (the document's): what it keeps, and what it tells. -/
namespace Go.Proofs.Ytblmblbkfdcbjaa
open Go.RowKit
set_option linter.unusedSimpArgs false
set_option linter.unusedVariables false
/-- A row that is made of rows. -/
def Spn (R : Nat) (A : Nat → Nat → UInt8) (L : Nat) (v : Nat → UInt8) : Prop := ∃ c : Nat → UInt8, ∀ j, j < L → v j = Sx R (fun l => mul (c l) (A l j))
theorem Spn.row {R L : Nat} {A : Nat → Nat → UInt8} (i : Nat) (hi : i < R) : Spn R A L (A i) := by
  refine ⟨fun l => if l = i then 1 else 0, fun j _ => ?_⟩
  rw [Sx_one R _ i hi (fun l _ h => by simp only [if_neg h]; exact zero_mul _)]
  simp only [if_pos rfl]
  exact (one_mul _).symm
theorem Spn.add {R L : Nat} {A : Nat → Nat → UInt8} {u v : Nat → UInt8} (hu : Spn R A L u) (hv : Spn R A L v) : Spn R A L (fun j => u j ^^^ v j) := by
  obtain ⟨c, hc⟩ := hu
  obtain ⟨d, hd⟩ := hv
  refine ⟨fun l => c l ^^^ d l, fun j hj => ?_⟩
  show u j ^^^ v j = _
  rw [hc j hj, hd j hj, ← Sx_add]
  apply Sx_congr
  intro l _
  rw [mul_xor_left]
theorem Spn.mul {R L : Nat} {A : Nat → Nat → UInt8} {u : Nat → UInt8} (t : UInt8) (hu : Spn R A L u) : Spn R A L (fun j => Go.Proofs.Ytblmblbkfdcbjaa.mul t (u j)) := by
  obtain ⟨c, hc⟩ := hu
  refine ⟨fun l => Go.Proofs.Ytblmblbkfdcbjaa.mul t (c l), fun j hj => ?_⟩
  show Go.Proofs.Ytblmblbkfdcbjaa.mul t (u j) = _
  rw [hc j hj, mul_comm, ← Sx_mul]
  apply Sx_congr
  intro l _
  rw [mul_comm (Go.Proofs.Ytblmblbkfdcbjaa.mul (c l) (A l j)), mul_assoc]
theorem Spn.congr {R L : Nat} {A : Nat → Nat → UInt8} {u v : Nat → UInt8} (hu : Spn R A L u) (h : ∀ j, j < L → v j = u j) : Spn R A L v := by
  obtain ⟨c, hc⟩ := hu
  exact ⟨c, fun j hj => by rw [h j hj, hc j hj]⟩
theorem Spn.trans {R S L : Nat} {A B : Nat → Nat → UInt8} {v : Nat → UInt8} (h : ∀ i, i < S → Spn R A L (B i)) (hv : Spn S B L v) : Spn R A L v := by
  obtain ⟨c, hc⟩ := hv
  refine ⟨fun l => Sx S (fun i => if h' : i < S then Go.Proofs.Ytblmblbkfdcbjaa.mul (c i) (Classical.choose (h i h') l) else 0), fun j hj => ?_⟩
  rw [hc j hj]
  rw [Sx_congr S _ (fun i => Sx R (fun l => Go.Proofs.Ytblmblbkfdcbjaa.mul (if h' : i < S then Go.Proofs.Ytblmblbkfdcbjaa.mul (c i) (Classical.choose (h i h') l) else 0) (A l j))) (fun i hi => by
    have e := Classical.choose_spec (h i hi) j hj
    rw [e, mul_comm, ← Sx_mul]
    apply Sx_congr
    intro l _
    simp only [dif_pos hi]
    rw [mul_comm (Go.Proofs.Ytblmblbkfdcbjaa.mul _ (A l j)), mul_assoc]), Sx_swap]
  apply Sx_congr
  intro l _
  rw [Sx_mul]
/-- Where an elimination is: c columns done, t rows have one. -/
structure El (A : Nat → Nat → UInt8) (R L n c t : Nat) (pv : Nat → Nat) (M : Nat → Nat → UInt8) : Prop where
  up : ∀ i, i < R → Spn R A L (M i)
  dn : ∀ i, i < R → Spn R M L (A i)
  tr : t ≤ R
  cn : c ≤ n
  nl : n ≤ L
  lt : ∀ k, k < t → pv k < c
  mo : ∀ k l, k < l → l < t → pv k < pv l
  pu : ∀ k i, k < t → i < R → M i (pv k) = if i = k then 1 else 0
  ze : ∀ i j, t ≤ i → i < R → j < c → M i j = 0
theorem El.start (A M : Nat → Nat → UInt8) (R L n : Nat) (h : n ≤ L) (hM : ∀ i j, i < R → j < L → M i j = A i j) : El A R L n 0 0 (fun _ => 0) M where
  up i hi := (Spn.row i hi).congr (fun j hj => hM i j hi hj)
  dn i hi := (Spn.row i hi).congr (fun j hj => (hM i j hi hj).symm)
  tr := Nat.zero_le _
  cn := Nat.zero_le _
  nl := h
  lt k hk := by omega
  mo k l _ hl := by omega
  pu k i hk := by omega
  ze i j _ _ hj := by omega
theorem El.none {A M : Nat → Nat → UInt8} {R L n c t : Nat} {pv : Nat → Nat} (h : El A R L n c t pv M) (hc : c < n) (hz : ∀ i, t ≤ i → i < R → M i c = 0) : El A R L n (c + 1) t pv M where
  up := h.up
  dn := h.dn
  tr := h.tr
  cn := hc
  nl := h.nl
  lt k hk := by have := h.lt k hk; omega
  mo := h.mo
  pu := h.pu
  ze i j hi hr hj := by
    by_cases e : j = c
    · subst e; exact hz i hi hr
    · exact h.ze i j hi hr (by omega)
theorem El.some {A M N : Nat → Nat → UInt8} {R L n c t p : Nat} {pv : Nat → Nat} (h : El A R L n c t pv M) (hc : c < n) (htp : t ≤ p) (hp : p < R) (hne : M p c ≠ 0)
    (hN : ∀ i j, i < R → j < L → N i j = if i = t then mul (M p j) (inv (M p c)) else (if i = p then M t j else M i j) ^^^ mul (if i = p then M t c else M i c) (mul (M p j) (inv (M p c)))) :
    El A R L n (c + 1) (t + 1) (fun k => if k = t then c else pv k) N where
  up i hi := by
    have ht : t < R := by omega
    by_cases e : i = t
    · refine (Spn.mul (inv (M p c)) (h.up p hp)).congr (fun j hj => ?_)
      rw [hN i j hi hj, if_pos e, mul_comm]
    · by_cases e2 : i = p
      · refine ((h.up t ht).add (Spn.mul (mul (M t c) (inv (M p c))) (h.up p hp))).congr (fun j hj => ?_)
        rw [hN i j hi hj, if_neg e, if_pos e2, if_pos e2, mul_comm (M p j), mul_assoc]
      · refine ((h.up i hi).add (Spn.mul (mul (M i c) (inv (M p c))) (h.up p hp))).congr (fun j hj => ?_)
        rw [hN i j hi hj, if_neg e, if_neg e2, if_neg e2, mul_comm (M p j), mul_assoc]
  dn i hi := by
    have ht : t < R := by omega
    refine Spn.trans (fun k hk => ?_) (h.dn i hi)
    have hpt : ∀ j, j < L → M p j = mul (M p c) (N t j) := fun j hj => by
      rw [hN t j ht hj, if_pos rfl, mul_comm (M p j), ← mul_assoc, inv_mul _ hne, one_mul]
    have hP : Spn R N L (M p) := (Spn.mul (M p c) (Spn.row t ht)).congr hpt
    by_cases e1 : k = p
    · rw [e1]; exact hP
    · by_cases e2 : k = t
      · subst e2
        refine ((Spn.row p hp).add (Spn.mul (mul (M k c) (inv (M p c))) hP)).congr (fun j hj => ?_)
        rw [hN p j hp hj, if_neg (fun e => e1 e.symm), if_pos rfl, if_pos rfl, mul_comm (M p j), mul_assoc, UInt8.xor_assoc, UInt8.xor_self, UInt8.xor_zero]
      · refine ((Spn.row k hk).add (Spn.mul (mul (M k c) (inv (M p c))) hP)).congr (fun j hj => ?_)
        rw [hN k j hk hj, if_neg e2, if_neg e1, if_neg e1, mul_comm (M p j), mul_assoc, UInt8.xor_assoc, UInt8.xor_self, UInt8.xor_zero]
  tr := by omega
  cn := hc
  nl := h.nl
  lt k hk := by
    by_cases e : k = t
    · simp only [if_pos e]; omega
    · simp only [if_neg e]; have := h.lt k (by omega); omega
  mo k l hkl hl := by
    simp only [if_neg (show ¬ k = t by omega)]
    by_cases e : l = t
    · simp only [if_pos e]; exact h.lt k (by omega)
    · simp only [if_neg e]; exact h.mo k l hkl (by omega)
  pu k i hk hi := by
    have hcl : c < L := by have := h.nl; omega
    by_cases e : k = t
    · simp only [if_pos e]
      rw [hN i c hi hcl, inv_mul _ hne, mul_one, e]
      by_cases e2 : i = t
      · simp only [if_pos e2]
      · simp only [if_neg e2]
        by_cases e3 : i = p
        · simp only [if_pos e3]; exact UInt8.xor_self
        · simp only [if_neg e3]; exact UInt8.xor_self
    · simp only [if_neg e]
      have hk' : k < t := by omega
      have hpl : pv k < L := by have := h.lt k hk'; omega
      have hz : M p (pv k) = 0 := by rw [h.pu k p hk' hp, if_neg (by omega)]
      have hzt : M t (pv k) = 0 := by rw [h.pu k t hk' (by omega), if_neg (by omega)]
      rw [hN i (pv k) hi hpl, hz, zero_mul, mul_zero_right, UInt8.xor_zero, hzt]
      by_cases e2 : i = t
      · rw [if_pos e2, if_neg (by omega)]
      · rw [if_neg e2]
        by_cases e3 : i = p
        · rw [if_pos e3, if_neg (by omega)]
        · rw [if_neg e3, h.pu k i hk' hi]
  ze i j hti hi hj := by
    have hcl : c < L := by have := h.nl; omega
    have hjl : j < L := by omega
    rw [hN i j hi hjl, if_neg (by omega)]
    by_cases e : j = c
    · subst e
      rw [inv_mul _ hne, mul_one]
      by_cases e3 : i = p
      · simp only [if_pos e3]; exact UInt8.xor_self
      · simp only [if_neg e3]; exact UInt8.xor_self
    · rw [h.ze p j htp hp (by omega), zero_mul, mul_zero_right, UInt8.xor_zero]
      by_cases e3 : i = p
      · rw [if_pos e3]; exact h.ze t j (Nat.le_refl _) (by omega) (by omega)
      · rw [if_neg e3]; exact h.ze i j (by omega) hi (by omega)
end Go.Proofs.Ytblmblbkfdcbjaa
/- What an elimination tells: the rank, and beside the unit the inverse. -/
namespace Go.Proofs.Ytblmblbkfdcbjaa
open Go.RowKit
set_option linter.unusedSimpArgs false
set_option linter.unusedVariables false
theorem Sx_front (f : Nat → UInt8) (t : Nat) : ∀ R, t ≤ R → (∀ l, t ≤ l → l < R → f l = 0) → Sx R f = Sx t f := by
  intro R
  induction R with
  | zero =>
    intro h _
    obtain rfl : t = 0 := by omega
    rfl
  | succ R ih =>
    intro h hz
    by_cases e : t = R + 1
    · rw [e]
    · rw [Sx, hz R (by omega) (by omega), UInt8.xor_zero, ih (by omega) (fun l h1 h2 => hz l h1 (by omega))]
theorem Spn.cut {R L n : Nat} {A : Nat → Nat → UInt8} {v : Nat → UInt8} (h : Spn R A L v) (hn : n ≤ L) : Spn R A n v := by
  obtain ⟨c, hc⟩ := h
  exact ⟨c, fun j hj => hc j (by omega)⟩
theorem Spn.of {R L : Nat} {A B : Nat → Nat → UInt8} {v : Nat → UInt8} (h : Spn R A L v) (hAB : ∀ i j, i < R → j < L → A i j = B i j) : Spn R B L v := by
  obtain ⟨c, hc⟩ := h
  refine ⟨c, fun j hj => ?_⟩
  rw [hc j hj]
  apply Sx_congr
  intro l hl
  rw [hAB l j hl hj]
theorem El.left {A B M : Nat → Nat → UInt8} {R L n c t : Nat} {pv : Nat → Nat} (h : El A R L n c t pv M) (hAB : ∀ i j, i < R → j < n → A i j = B i j) : El B R n n c t pv M where
  up i hi := ((h.up i hi).cut h.nl).of hAB
  dn i hi := ((h.dn i hi).cut h.nl).congr (fun j hj => (hAB i j hi hj).symm)
  tr := h.tr
  cn := h.cn
  nl := Nat.le_refl _
  lt := h.lt
  mo := h.mo
  pu := h.pu
  ze := h.ze
theorem El.rank {X : List (List UInt8)} {n c t : Nat} {pv : Nat → Nat} {M : Nat → Nat → UInt8} (hX : ∀ r ∈ X, r.length = 64) (hl : X.length ≤ 64) (hn : n ≤ 64) (hz : ∀ i j, i < X.length → n ≤ j → j < 64 → mat X i j = 0)
    (h : El (mat X) X.length n n c t pv M) (hd : c = n ∨ t = X.length) : t = rk X := by
  apply Nat.le_antisymm
  · apply Classical.byContradiction
    intro hlt
    obtain ⟨C, g, hs⟩ := rk_span X hX hl
    have hr : ∀ k, k < t → ∃ D : Nat → UInt8, ∀ j, j < n → M k j = Sx (rk X) (fun s => mul (D s) (g s j)) := by
      intro k hk
      have hk' : k < X.length := by have := h.tr; omega
      have h2 : Spn (rk X) g n (M k) := Spn.trans (fun i hi => (⟨C i, fun j hj => hs i j hi (by omega)⟩ : Spn (rk X) g n (mat X i))) (h.up k hk')
      exact h2
    obtain ⟨lam, ⟨k0, hk0, hne⟩, hker⟩ := hom (rk X) t (fun k s => if h' : k < t then Classical.choose (hr k h') s else 0) (by omega)
    have hsum : ∀ j, j < n → Sx t (fun k => mul (lam k) (M k j)) = 0 := by
      intro j hj
      rw [Sx_congr t _ (fun k => Sx (rk X) (fun s => mul (mul (lam k) (if h' : k < t then Classical.choose (hr k h') s else 0)) (g s j))) (fun k hk => by
        rw [Classical.choose_spec (hr k hk) j hj, mul_comm, ← Sx_mul]
        apply Sx_congr
        intro s _
        simp only [dif_pos hk]
        rw [mul_comm (mul _ (g s j)), mul_assoc]), Sx_swap]
      apply Sx_nil
      intro s hs'
      rw [Sx_mul, hker s hs', zero_mul]
    have h1 := hsum (pv k0) (by have := h.lt k0 hk0; have := h.cn; omega)
    rw [Sx_one t _ k0 hk0 (fun i hi hik => by
      rw [h.pu k0 i hk0 (by have := h.tr; omega), if_neg hik, mul_zero_right]), h.pu k0 k0 hk0 (by have := h.tr; omega), if_pos rfl, mul_one] at h1
    exact hne h1
  · refine rk_le X hX hl t (fun i s => if h' : i < X.length then Classical.choose (h.dn i h') s else 0) (fun s j => if j < n then M s j else 0) (fun i j hi hj => ?_)
    by_cases hjn : j < n
    · rw [Classical.choose_spec (h.dn i hi) j hjn, Sx_front _ t X.length h.tr (fun l h1 h2 => by
        rcases hd with rfl | rfl
        · rw [h.ze l j h1 h2 hjn, mul_zero_right]
        · omega)]
      apply Sx_congr
      intro s _
      simp only [dif_pos hi, if_pos hjn]
    · rw [hz i j hi (by omega) hj]
      symm
      apply Sx_nil
      intro s _
      simp only [if_neg hjn]
      exact mul_zero_right _
/-- Rising places below n, n of them, are all. -/
theorem rise_all (n : Nat) (pv : Nat → Nat) (hl : ∀ k, k < n → pv k < n) (hm : ∀ k l, k < l → l < n → pv k < pv l) : ∀ k, k < n → pv k = k := by
  have lo : ∀ k, k < n → k ≤ pv k := by
    intro k
    induction k with
    | zero => intro _; exact Nat.zero_le _
    | succ k ih => intro h; have := ih (by omega); have := hm k (k + 1) (by omega) h; omega
  have hi : ∀ d k, k + d + 1 = n → pv k + d < n := by
    intro d
    induction d with
    | zero => intro k h; have := hl k (by omega); omega
    | succ d ih => intro k h; have := ih (k + 1) (by omega); have := hm k (k + 1) (by omega) (by omega); omega
  intro k hk
  have := lo k hk
  have := hi (n - 1 - k) k (by omega)
  omega
/-- A matrix with the unit beside it. -/
def bes (n : Nat) (A : Nat → Nat → UInt8) (i j : Nat) : UInt8 := if j < n then A i j else if j = n + i then 1 else 0
theorem El.inverse {xs : List ByteArray} {n c : Nat} {pv : Nat → Nat} {M : Nat → Nat → UInt8} (hq : SqM n xs) (h1 : 1 ≤ n) (h2 : n ≤ 64) (hs : sng (redP (arrL xs)) = false)
    (h : El (bes n (mat (arrL xs))) n (n + n) n c n pv M) : ∀ i j, i < n → j < n → M i (n + j) = mat (arrL (ivX xs)) i j := by
  obtain ⟨u1, u2, u3⟩ := undo xs n hq h1 h2 hs
  have hpv := rise_all n pv (fun k hk => by have := h.lt k hk; have := h.cn; omega) h.mo
  have hlin : ∀ i j, i < n → j < n → M i j = Sx n (fun l => mul (M i (n + l)) (mat (arrL xs) l j)) := by
    intro i j hi hj
    obtain ⟨d, hd⟩ := h.up i hi
    have hdl : ∀ l, l < n → M i (n + l) = d l := by
      intro l hl
      rw [hd (n + l) (by omega), Sx_one n _ l hl (fun k hk hkl => by
        rw [bes, if_neg (by omega), if_neg (by omega), mul_zero_right])]
      rw [bes, if_neg (by omega), if_pos rfl, mul_one]
    rw [hd j (by omega)]
    apply Sx_congr
    intro l hl
    rw [hdl l hl, bes, if_pos hj]
  have hid : ∀ i k, i < n → k < n → Sx n (fun l => mul (M i (n + l)) (mat (arrL xs) l k)) = if i = k then 1 else 0 := by
    intro i k hi hk
    rw [← hlin i k hi hk]
    have := h.pu k i hk hi
    rw [hpv k hk] at this
    exact this
  have hri : ∀ l j, l < n → j < n → Sx n (fun s => mul (mat (arrL xs) l s) (mat (arrL (ivX xs)) s j)) = if j = l then 1 else 0 := by
    intro l j hl hj
    have e := mat_prod (arrL xs) (arrL (ivX xs)) (u1.wide h2) l j (by rw [hq.len]; exact hl) (by omega)
    rw [u3, unL_mat n l j hl h2 (by omega), u1.len] at e
    exact e.symm
  intro i j hi hj
  have e1 : M i (n + j) = Sx n (fun l => mul (M i (n + l)) (if j = l then 1 else 0)) := by
    rw [Sx_one n _ j hj (fun k hk hkj => by simp only [if_neg (fun e : j = k => hkj e.symm)]; exact mul_zero_right _)]
    simp only [if_pos rfl]
    exact (mul_one _).symm
  rw [e1, Sx_congr n _ (fun l => Sx n (fun s => mul (mul (M i (n + l)) (mat (arrL xs) l s)) (mat (arrL (ivX xs)) s j))) (fun l hl => by
    rw [← hri l j hl hj, mul_comm, ← Sx_mul]
    apply Sx_congr
    intro s _
    rw [mul_comm (mul _ (mat (arrL (ivX xs)) s j)), mul_assoc]), Sx_swap]
  rw [Sx_congr n _ (fun s => mul (if i = s then 1 else 0) (mat (arrL (ivX xs)) s j)) (fun s hs' => by rw [Sx_mul, hid i s hi hs'])]
  rw [Sx_one n _ i hi (fun k hk hki => by simp only [if_neg (fun e : i = k => hki e.symm)]; exact zero_mul _)]
  simp only [if_pos rfl]
  exact one_mul _
end Go.Proofs.Ytblmblbkfdcbjaa
/- Rows of bytes, each in a block of its own, and the slice of them. No program is named here. -/
namespace Go.Proofs.Ytblmblbkfdcbjaa
open Go.RowKit
set_option linter.unusedSimpArgs false
set_option linter.unusedVariables false
theorem frozen_below {w w' : World} {p : Addr} (hb : Below w.heap.size w w') (hp : p.block < w.heap.size) : w'.frozen? p = w.frozen? p := by
  simp only [World.frozen?, hb.block p.block hp]
theorem cel_same {W : World} {p : Addr} {u v : Value} (h : W.cell? p = some u) : (W.setCell p v).cell? p = some v := World.cell?_setCell_same' W p v (by rw [h]; rfl)
theorem cel_other {W : World} {p q : Addr} {v : Value} (h : p ≠ q) : (W.setCell p v).cell? q = W.cell? q := by
  first | exact World.cell?_setCell_other _ _ _ _ h | exact World.cell?_setCell_other W p q v h | exact World.cell?_setCell_other (h := h)
/-- The rows of a matrix as they lie in memory: B is what the call found. -/
structure Rws (B gm R : Nat) (hs : Nat → Nat × Nat) (L : Nat) (M : Nat → Nat → UInt8) (W : World) : Prop where
  tc : ∀ i, i < R → W.cell? ⟨gm, i, none⟩ = some (.slice (some ⟨(hs i).1, 0, none⟩) L (hs i).2)
  tf : ∀ i, i < R → W.frozen? ⟨gm, i, none⟩ = false
  rc : ∀ i k, i < R → k < L → W.cell? ⟨(hs i).1, k, none⟩ = some (.int .u8 ((M i k).toNat : Int))
  rf : ∀ i k, i < R → k < L → W.frozen? ⟨(hs i).1, k, none⟩ = false
  ap : ∀ i j, i < R → j < R → i ≠ j → (hs i).1 ≠ (hs j).1
  tp : ∀ i, i < R → gm ≠ (hs i).1
  lo : B ≤ gm ∧ gm < W.heap.size
  lr : ∀ i, i < R → B ≤ (hs i).1 ∧ (hs i).1 < W.heap.size
  cp : ∀ i, i < R → L ≤ (hs i).2
theorem Rws.below {B gm R L : Nat} {hs : Nat → Nat × Nat} {M : Nat → Nat → UInt8} {W W' : World} (h : Rws B gm R hs L M W) (hb : Below W.heap.size W W') : Rws B gm R hs L M W' where
  tc i hi := by rw [hb.cell (p := ⟨gm, i, none⟩) h.lo.2]; exact h.tc i hi
  tf i hi := by rw [frozen_below hb (p := ⟨gm, i, none⟩) h.lo.2]; exact h.tf i hi
  rc i k hi hk := by rw [hb.cell (p := ⟨(hs i).1, k, none⟩) (h.lr i hi).2]; exact h.rc i k hi hk
  rf i k hi hk := by rw [frozen_below hb (p := ⟨(hs i).1, k, none⟩) (h.lr i hi).2]; exact h.rf i k hi hk
  ap := h.ap
  tp := h.tp
  lo := ⟨h.lo.1, Nat.lt_of_lt_of_le h.lo.2 hb.size⟩
  lr i hi := ⟨(h.lr i hi).1, Nat.lt_of_lt_of_le (h.lr i hi).2 hb.size⟩
  cp := h.cp
theorem Rws.drew {B gm R L : Nat} {hs : Nat → Nat × Nat} {M : Nat → Nat → UInt8} {W : World} (h : Rws B gm R hs L M W) : Rws B gm R hs L M W.drew := h.below (Below.refl _ _).drew
/-- One byte laid anew. -/
def upd (M : Nat → Nat → UInt8) (i k : Nat) (v : UInt8) (a b : Nat) : UInt8 := if a = i ∧ b = k then v else M a b
theorem Rws.byte {B gm R L : Nat} {hs : Nat → Nat × Nat} {M : Nat → Nat → UInt8} {W : World} (h : Rws B gm R hs L M W) (i k : Nat) (hi : i < R) (hk : k < L) (v : UInt8) : Rws B gm R hs L (upd M i k v) (W.setCell ⟨(hs i).1, k, none⟩ (.int .u8 (v.toNat : Int))) where
  tc a ha := by rw [cel_other (by intro e; exact h.tp i hi (Addr.mk.inj e).1.symm)]; exact h.tc a ha
  tf a ha := by rw [World.frozen?_setCell]; exact h.tf a ha
  rc a b ha hb := by
    unfold upd
    by_cases e : a = i ∧ b = k
    · rw [if_pos e, e.1, e.2]; exact cel_same (h.rc i k hi hk)
    · rw [if_neg e, cel_other (by
        intro e2
        obtain ⟨e3, e4, _⟩ := Addr.mk.inj e2
        by_cases e5 : a = i
        · exact e ⟨e5, e4.symm⟩
        · exact h.ap a i ha hi e5 e3.symm)]
      exact h.rc a b ha hb
  rf a b ha hb := by rw [World.frozen?_setCell]; exact h.rf a b ha hb
  ap := h.ap
  tp := h.tp
  lo := ⟨h.lo.1, by simpa [World.setCell] using h.lo.2⟩
  lr a ha := ⟨(h.lr a ha).1, by simpa [World.setCell] using (h.lr a ha).2⟩
  cp := h.cp
def swp {α : Type} (f : Nat → α) (p t i : Nat) : α := if i = t then f p else if i = p then f t else f i
theorem Rws.swap {B gm R L : Nat} {hs : Nat → Nat × Nat} {M : Nat → Nat → UInt8} {W : World} (h : Rws B gm R hs L M W) (p t : Nat) (hp : p < R) (ht : t < R) :
    Rws B gm R (swp hs p t) L (swp M p t) ((W.setCell ⟨gm, p, none⟩ (.slice (some ⟨(hs t).1, 0, none⟩) L (hs t).2)).setCell ⟨gm, t, none⟩ (.slice (some ⟨(hs p).1, 0, none⟩) L (hs p).2)) := by
  have hx : ∀ i, i < R → ∃ j, j < R ∧ swp hs p t i = hs j ∧ swp M p t i = M j := by
    intro i hi
    unfold swp
    by_cases e1 : i = t
    · exact ⟨p, hp, by rw [if_pos e1], by rw [if_pos e1]⟩
    · by_cases e2 : i = p
      · exact ⟨t, ht, by rw [if_neg e1, if_pos e2], by rw [if_neg e1, if_pos e2]⟩
      · exact ⟨i, hi, by rw [if_neg e1, if_neg e2], by rw [if_neg e1, if_neg e2]⟩
  refine ⟨fun i hi => ?_, fun i hi => ?_, fun i k hi hk => ?_, fun i k hi hk => ?_, fun i j hi hj hij => ?_, fun i hi => ?_, ⟨h.lo.1, by simpa [World.setCell] using h.lo.2⟩, fun i hi => ?_, fun i hi => ?_⟩
  · unfold swp
    by_cases e1 : i = t
    · simp only [if_pos e1]
      rw [e1]
      by_cases e3 : p = t
      · rw [e3]; exact cel_same (cel_same (h.tc t ht))
      · exact cel_same (by rw [cel_other (by intro e; exact e3 (Addr.mk.inj e).2.1)]; exact h.tc t ht)
    · simp only [if_neg e1]
      rw [cel_other (by intro e; exact e1 (Addr.mk.inj e).2.1.symm)]
      by_cases e2 : i = p
      · simp only [if_pos e2]
        rw [e2]
        exact cel_same (h.tc p hp)
      · simp only [if_neg e2]
        rw [cel_other (by intro e; exact e2 (Addr.mk.inj e).2.1.symm)]
        exact h.tc i hi
  · rw [World.frozen?_setCell, World.frozen?_setCell]; exact h.tf i hi
  · obtain ⟨j, hj, e1, e2⟩ := hx i hi
    rw [e1, e2, cel_other (by intro e; exact h.tp j hj (Addr.mk.inj e).1), cel_other (by intro e; exact h.tp j hj (Addr.mk.inj e).1)]
    exact h.rc j k hj hk
  · obtain ⟨j, hj, e1, e2⟩ := hx i hi
    rw [e1, World.frozen?_setCell, World.frozen?_setCell]; exact h.rf j k hj hk
  · unfold swp
    by_cases a1 : i = t
    · simp only [if_pos a1]
      by_cases b1 : j = t
      · omega
      · simp only [if_neg b1]
        by_cases b2 : j = p
        · simp only [if_pos b2]
          exact h.ap p t hp ht (by omega)
        · simp only [if_neg b2]
          exact h.ap p j hp hj (by omega)
    · simp only [if_neg a1]
      by_cases a2 : i = p
      · simp only [if_pos a2]
        by_cases b1 : j = t
        · simp only [if_pos b1]
          exact h.ap t p ht hp (by omega)
        · simp only [if_neg b1]
          by_cases b2 : j = p
          · omega
          · simp only [if_neg b2]
            exact h.ap t j ht hj (by omega)
      · simp only [if_neg a2]
        by_cases b1 : j = t
        · simp only [if_pos b1]
          exact h.ap i p hi hp (by omega)
        · simp only [if_neg b1]
          by_cases b2 : j = p
          · simp only [if_pos b2]
            exact h.ap i t hi ht (by omega)
          · simp only [if_neg b2]
            exact h.ap i j hi hj hij
  · obtain ⟨j, hj, e1, _⟩ := hx i hi
    rw [e1]; exact h.tp j hj
  · obtain ⟨j, hj, e1, _⟩ := hx i hi
    rw [e1]
    exact ⟨(h.lr j hj).1, by simpa [World.setCell] using (h.lr j hj).2⟩
  · obtain ⟨j, hj, e1, _⟩ := hx i hi
    rw [e1]; exact h.cp j hj
theorem Rws.eqv {B gm R L : Nat} {hs : Nat → Nat × Nat} {M N : Nat → Nat → UInt8} {W : World} (h : Rws B gm R hs L M W) (e : ∀ i k, i < R → k < L → N i k = M i k) : Rws B gm R hs L N W :=
  ⟨h.tc, h.tf, fun i k hi hk => by rw [e i k hi hk]; exact h.rc i k hi hk, h.rf, h.ap, h.tp, h.lo, h.lr, h.cp⟩
end Go.Proofs.Ytblmblbkfdcbjaa
