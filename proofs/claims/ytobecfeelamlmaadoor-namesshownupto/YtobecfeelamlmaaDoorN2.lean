/- strings.SplitN at a stroke, names.makePath. -/
import Derived.Test.YtobecfeelamlmaaDoorN1
import Derived.Shelf.Strings.Search3
import Derived.Lib.Split
import Derived.Lib.IndexBytes
import Derived.Deep.OwnRows
import Derived.Deep.LoopGhost
namespace Go.Proofs.YtobecfeelamlmaaDoor
open Go.RowKit
set_option linter.unusedSimpArgs false
set_option linter.unusedVariables false
/-- As many pieces as strings.SplitN has room for, asked for 17. -/
def cp (s : ByteArray) : Nat := min 17 (s.size + 1)
def pcs (s : ByteArray) : List ByteArray := Lib.splitB ⟨#[47]⟩ 0 (cp s - 1) s
theorem cp_pos (s : ByteArray) : 1 ≤ cp s := by unfold cp; omega
theorem cp_le (s : ByteArray) : cp s ≤ 17 := by unfold cp; omega
theorem pcs_le (s : ByteArray) : (pcs s).length ≤ cp s := by
  have := Lib.splitB_length_le ⟨#[47]⟩ 0 (cp s - 1) s
  have := cp_pos s
  unfold pcs; omega
theorem index_one (s : ByteArray) (w : World) :
    Calls Tryd.prog 63 #[.string s, .string ⟨#[47]⟩] w fun e w' => e = .returned (.int .i64 (Lib.indexB s ⟨#[47]⟩)) ∧ w' = w := by
  have h := Any.strings_Index_one (P := Tryd.prog) { lays147 with } s 47 w
  have e : Lib.indexB s ⟨#[47]⟩ = Lib.indexByte s.data.toList 47 := Lib.index_one s.data.toList 47
  rw [e]; exact h
theorem info_str : (Tryd.prog.info? 9).map (fun i => (i.zero, i.size, i.bytes)) = some (some (.string ByteArray.empty), 1, 16) := by kernel_rfl
set_option maxHeartbeats 1000000 in
set_option maxRecDepth 100000 in
theorem gen_any (s : ByteArray) (w : World) (hs : s.size ≤ 9223372036854775806) :
    Calls Tryd.prog 49 #[.string s, .string ⟨#[47]⟩, .int .i64 0, .int .i64 17] w fun e w' =>
      e = .returned (.slice (some ⟨w.heap.size, 0, none⟩) (pcs s).length (cp s)) ∧ w' = w.alloc (.cells (Lib.cellsOf (pcs s) (cp s)) 9) := by
  obtain ⟨N, hN⟩ : ∃ N, N = cp s := ⟨_, rfl⟩
  have hN1 : 1 ≤ N := by rw [hN]; exact cp_pos s
  have hN17 : N ≤ 17 := by rw [hN]; exact cp_le s
  have HS0 : Hid (pcs s = Lib.splitB ⟨#[47]⟩ 0 (N - 1) s) := by rw [hN]; rfl
  have hNm : min (17 : Int) ((s.size : Int) + 1) = (N : Int) := by rw [hN]; unfold cp; omega
  rw [← hN]
  clear hN
  have hmk := run_make_row' (P := Tryd.prog) 30 9 (.string ByteArray.empty) 16 Tryd.underlying30 info_str rfl .i64 .i64 N (by omega) (by omega)
  go_enter Tryd.func49, Tryd.ntmps49
  go_wp2_with fail
  clear hmk
  go_loopg [0, 10] (N - 1) (fun g s0 s10 wr => ∃ (done : List ByteArray) (rest : ByteArray), s0 = .string rest ∧ s10 = .int .i64 done.length ∧ done.length ≤ N - 1 ∧ g = N - 1 - done.length ∧ rest.size ≤ s.size ∧
      wr = w.alloc (.cells (Lib.cellsOf done N) 9) ∧ Hid (done ++ Lib.splitB ⟨#[47]⟩ 0 (N - 1 - done.length) rest = pcs s))
  case atStart => exact ⟨[], s, rfl, rfl, Nat.zero_le _, rfl, Nat.le_refl _, by rw [Lib.cellsOf_nil], HS0.out.symm⟩
  case round =>
    obtain ⟨done, rest, rfl, rfl, hd, rfl, hrs, rfl, HS⟩ := hrel
    have hnext : (Lib.cellsOf done N)[done.length]? = some (.string ByteArray.empty) := Lib.cellsOf_next (by omega)
    have fin : Lib.splitB ⟨#[47]⟩ 0 (N - 1 - done.length) rest = [rest] → (pcs s).length = done.length + 1 ∧ (Lib.cellsOf done N).setIfInBounds done.length (.string rest) = Lib.cellsOf (pcs s) N := fun h => by
      have e := HS.out
      rw [h] at e
      rw [← e]
      exact ⟨by simp, Lib.cellsOf_set (by omega) rest⟩
    have FIN : Hid (Lib.splitB ⟨#[47]⟩ 0 (N - 1 - done.length) rest = [rest] → (pcs s).length = done.length + 1 ∧ (Lib.cellsOf done N).setIfInBounds done.length (.string rest) = Lib.cellsOf (pcs s) N) := fin
    clear fin
    by_cases hlt : done.length < N - 1
    · have hltz : ((done.length : Nat) : Int) < (N : Int) - 1 := by omega
      rcases Lib.indexB_cases rest ⟨#[47]⟩ with hix | ⟨i, hix, hroom⟩
      · go_wp2_with (first | (go_at_call 63; refine (index_one rest _).mono ?_; rintro e w' ⟨rfl, hw⟩; rw [hw, hix]))
        go_ret
        obtain ⟨f1, f2⟩ := FIN.out (Lib.splitB_miss _ _ _ rest hix)
        rw [f1, ← f2]
        exact ⟨by first | rfl | (congr 2 <;> omega), rfl⟩
      · have hone : (⟨#[47]⟩ : ByteArray).size = 1 := rfl
        rw [hone] at hroom
        have c0 : ¬ ((i : Int) < 0) := by omega
        have c1 : (0 : Int) ≤ ↑i := by omega
        have c2 : (↑i : Int) ≤ ↑rest.size := by omega
        have c3 : (0 : Int) ≤ ↑i + 1 := by omega
        have c4 : (↑i + 1 : Int) ≤ ↑rest.size := by omega
        go_wp2_with (first | (go_at_call 63; refine (index_one rest _).mono ?_; rintro e w' ⟨rfl, hw⟩; rw [hw, hix]))
        go_roundg (N - 1 - (done.length + 1))
        case measure => omega
        case rel =>
          refine ⟨done ++ [rest.extract 0 i], rest.extract (i + 1) rest.size, rfl, by simp, by simp; omega, by simp, by rw [ByteArray.size_extract]; omega, by rw [← Lib.cellsOf_set (by omega)], ?_⟩
          have e := HS.out
          rw [show N - 1 - done.length = (N - 1 - (done.length + 1)) + 1 by omega, Lib.splitB_hit ⟨#[47]⟩ 0 _ rest i hix, hone] at e
          rw [← e]
          show (done ++ [rest.extract 0 i]) ++ _ = _
          simp
    · have hltz : ¬ (((done.length : Nat) : Int) < (N : Int) - 1) := by omega
      go_wp2
      go_ret
      obtain ⟨f1, f2⟩ := FIN.out (by rw [show N - 1 - done.length = 0 by omega]; rfl)
      rw [f1, ← f2]
      exact ⟨by first | rfl | (congr 2 <;> omega), rfl⟩
set_option maxRecDepth 100000 in
theorem splitN_any (s : ByteArray) (w : World) (hs : s.size ≤ 9223372036854775806) :
    Calls Tryd.prog 34 #[.string s, .string ⟨#[47]⟩, .int .i64 17] w fun e w' =>
      e = .returned (.slice (some ⟨w.heap.size, 0, none⟩) (pcs s).length (cp s)) ∧ w' = w.alloc (.cells (Lib.cellsOf (pcs s) (cp s)) 9) := by
  go_enter Tryd.func34, Tryd.ntmps34
  go_wp2_with (go_at_call 49; refine (gen_any s w hs).mono ?_; rintro e w' ⟨rfl, hw⟩; rw [hw])
  go_ret
  exact ⟨rfl, rfl⟩
/-- What lies where: the texts of a list. -/
def LieL (w : World) (a0 : Option Addr) (xs : List ByteArray) : Prop :=
  ∀ (i : Nat) x, xs[i]? = some x → ∃ b off, a0 = some ⟨b, off, none⟩ ∧ b < w.heap.size ∧ w.cell? ⟨b, off + i, none⟩ = some (.string x)
theorem LieL.below {w w' : World} {a0 : Option Addr} {xs : List ByteArray} (h : LieL w a0 xs) (hb : Below w.heap.size w w') : LieL w' a0 xs := by
  intro i x hx
  obtain ⟨b, off, ha, hlt, hc⟩ := h i x hx
  exact ⟨b, off, ha, Nat.lt_of_lt_of_le hlt hb.size, by rw [hb.cell (p := ⟨b, off + i, none⟩) hlt]; exact hc⟩
/-- There is a path of these names. -/
def okP (xs : List ByteArray) : Bool := decide (xs.length ≤ 16) && xs.all fun x => okN x.data.toList
set_option maxHeartbeats 1000000 in
set_option maxRecDepth 100000 in
theorem makePath_any (a0 : Option Addr) (cap : Nat) (xs : List ByteArray) (w : World) (hL : LieL w a0 xs) (hx : ∀ x ∈ xs, x.size ≤ 9223372036854775807) (hn : xs.length ≤ 9223372036854775807) (hT : U8 w) :
    Calls Tryd.prog 31 #[.slice a0 xs.length cap] w fun e w' => e = .returned (.bool (okP xs)) ∧ Below w.heap.size w w' := by
  have HL : Hid (LieL w a0 xs) := hL
  have HX : Hid (∀ x ∈ xs, x.size ≤ 9223372036854775807) := hx
  have HT : Hid (U8 w) := hT
  clear hL hx hT
  by_cases h16 : (16 : Int) < (xs.length : Nat)
  · go_enter Tryd.func31, Tryd.ntmps31
    go_wp2
    go_ret
    exact ⟨by simp [okP]; omega, Below.refl _ _⟩
  · go_enter Tryd.func31, Tryd.ntmps31
    go_wp2_with fail
    go_loopw [10] (fun v wr => ∃ k : Nat, v = .int .i64 k ∧ k ≤ xs.length ∧ Hid (Below w.heap.size w wr) ∧ Hid (∀ (i : Nat) x, i < k → xs[i]? = some x → okN x.data.toList = true)) (fun v _ => xs.length - (intOf v).toNat)
    case atStart => exact ⟨0, rfl, Nat.zero_le _, Below.refl _ _, fun i x hi => by omega⟩
    case round =>
      obtain ⟨k, rfl, hk, HB, HO⟩ := hrel
      by_cases hlt : k < xs.length
      · obtain ⟨x, hx⟩ : ∃ x, xs[k]? = some x := ⟨xs[k], List.getElem?_eq_getElem hlt⟩
        obtain ⟨b, off, rfl, hb, hc⟩ := HL.out k x hx
        have hcr : wr.cell? ⟨b, off + k, none⟩ = some (.string x) := by rw [HB.out.cell (p := ⟨b, off + k, none⟩) hb]; exact hc
        have HX1 : Hid (xs[k]? = some x) := hx
        have HM1 : Hid (x.size ≤ 9223372036854775807) := HX.out x (List.mem_of_getElem? hx)
        clear hc hx
        have hwz : w.heap.size ≤ wr.heap.size := HB.out.size
        obtain ⟨q, hq⟩ : ∃ q, q = rnE x.data.toList := ⟨_, rfl⟩
        have HQ : Hid (q = rnE x.data.toList) := hq
        have hck := check_any x wr HM1.out (HT.out.below HB.out)
        rw [← hq] at hck
        clear hq
        by_cases h0 : q = 0
        · have hz : ((q : Int) != 0) = false := by simp [h0]
          go_wp2_with (go_at_call 21; refine hck.mono ?_; rintro e w1 ⟨rfl, hb1⟩; have HB1 : Hid (Below wr.heap.size wr w1) := hb1; clear hb1)
          go_roundw
          case rel =>
            refine ⟨k + 1, by go_num, by omega, HB.out.trans (HB1.out.mono hwz), fun i y hi hy => ?_⟩
            by_cases hik : i < k
            · exact HO.out i y hik hy
            · obtain rfl : i = k := by omega
              have e := HX1.out
              rw [hy] at e
              obtain rfl := Option.some.inj e
              have hq := HQ.out
              rw [h0] at hq
              unfold rnE at hq
              by_cases ho : okN y.data.toList = true
              · exact ho
              · rw [if_neg ho] at hq; omega
          case measure => simp [intOf]; omega
        · have hz : ((q : Int) != 0) = true := by simp; omega
          go_wp2_with (go_at_call 21; refine hck.mono ?_; rintro e w1 ⟨rfl, hb1⟩; have HB1 : Hid (Below wr.heap.size wr w1) := hb1; clear hb1)
          go_ret
          refine ⟨?_, HB.out.trans (HB1.out.mono hwz)⟩
          have hno : okN x.data.toList = false := by
            have hq := HQ.out
            unfold rnE at hq
            cases ho : okN x.data.toList with
            | false => rfl
            | true => rw [ho, if_pos rfl] at hq; omega
          have : okP xs = false := Bool.eq_false_iff.2 fun h => by
            simp only [okP, Bool.and_eq_true, List.all_eq_true] at h
            have := h.2 x (List.mem_of_getElem? HX1.out)
            rw [hno] at this; cases this
          rw [this]; rfl
      · go_wp2
        go_ret
        refine ⟨?_, HB.out⟩
        have : okP xs = true := by
          simp only [okP, Bool.and_eq_true, List.all_eq_true, decide_eq_true_eq]
          refine ⟨by omega, fun x hx => ?_⟩
          obtain ⟨i, hi, e⟩ := List.getElem_of_mem hx
          exact HO.out i x (by omega) (by rw [List.getElem?_eq_getElem hi, e])
        rw [this]; rfl
end Go.Proofs.YtobecfeelamlmaaDoor
