/- The law's own picked. -/
import Derived.Test.YtefmabfhephdjabM3
import Derived.Test.YtefmabfhephdjabF1
namespace Go.Proofs.Ytefmabfhephdjab
open Go.RowKit
set_option linter.unusedSimpArgs false
set_option linter.unusedVariables false
/-- The bytes of a slice that came in. -/
def ByS (w : World) (a : Option Addr) (n : Nat) : Prop := ∀ i, i < n → ∃ (g o : Nat) (x : UInt8), a = some ⟨g, o, none⟩ ∧ g < w.heap.size ∧ w.cell? ⟨g, o + i, none⟩ = some (c8 x)
theorem ByS.below {w w' : World} {a : Option Addr} {n : Nat} (h : ByS w a n) (hb : Below w.heap.size w w') : ByS w' a n := by
  intro i hi
  obtain ⟨g, o, x, e, hg, hc⟩ := h i hi
  exact ⟨g, o, x, e, Nat.lt_of_lt_of_le hg hb.size, by rw [hb.cell (p := ⟨g, o + i, none⟩) hg]; exact hc⟩
/-- Truths as cells, numbers as cells. -/
def bb (l : List Bool) : Array Value := (l.map fun x => Value.bool x).toArray
theorem bb_get (l : List Bool) (j : Nat) : (bb l)[j]? = (l[j]?).map fun x => Value.bool x := by simp [bb]
theorem bb_set (l : List Bool) (j : Nat) (x : Bool) : (bb l).setIfInBounds j (.bool x) = bb (l.set j x) := by
  simp only [bb, List.setIfInBounds_toArray, List.map_set]
def iv (l : List Nat) : List Value := l.map fun x : Nat => Value.int .i64 (x : Int)
theorem iv_append (a b : List Nat) : iv (a ++ b) = iv a ++ iv b := by simp [iv]
theorem inf_bool : (Try.prog.info? 4).map (fun i => (i.zero, i.size, i.bytes)) = some (some (.bool false), 1, 1) := by kernel_rfl
theorem inf_int : (Try.prog.info? 3).map (fun i => (i.zero, i.size, i.bytes)) = some (some (.int .i64 0), 1, 8) := by kernel_rfl
theorem made_bb (n : Nat) : madeCells #[Value.bool false] n = bb (List.replicate n false) := by
  apply Array.ext_getElem?
  intro i
  rw [bb_get]
  simp only [madeCells]
  by_cases hi : i < n
  · rw [List.getElem?_replicate, if_pos hi]
    simp [hi, Nat.mod_one]
  · rw [List.getElem?_eq_none (by simp; omega), Array.getElem?_eq_none (by simp; omega)]; rfl
theorem make_bb (n : Nat) (hn : n ≤ 64) (u : World) : (Instr.makeSlice 61 (.int .i64 n) (.int .i64 n)).run Try.prog u =
    .ok (.slice (some ⟨u.heap.size, 0, none⟩) n n) (u.alloc (.cells (bb (List.replicate n false)) 4)) := by
  obtain ⟨i0, hi, hz0, hz1, hz2⟩ := info_parts inf_bool
  have h := run_make (P := Try.prog) u 61 4 i0 (.bool false) Try.underlying61 hi hz0 .i64 .i64 (n : Int) (n : Int) (by omega) (Int.le_refl _) (by rw [hz2]; omega) (by omega)
  rw [Int.toNat_natCast, hz1, Nat.mul_one] at h
  rw [h, ← made_bb]; rfl
theorem one_int (n : Int) : ∀ u ∈ [Value.int .i64 n], u.oneCell' = true := by
  intro u hu
  simp at hu
  subst hu; rfl
theorem own_ints {w : World} {B : Nat} {v : Value} {xs : List Nat} {e : TypeId} (h : w.ownsRow B e 1 v xs.length (iv xs)) : ∃ a c, v = .slice a xs.length c ∧ ∀ (i x : Nat), xs[i]? = some x → ∃ g, a = some ⟨g, 0, none⟩ ∧ g < w.heap.size ∧ B ≤ g ∧ w.cell? ⟨g, i, none⟩ = some (.int .i64 (x : Int)) := by
  rcases h.2 with ⟨rfl, h0⟩ | ⟨g, cap, cur, rfl, hle, hg, hn, _, hc, ht⟩
  · have : xs = [] := List.eq_nil_of_length_eq_zero h0
    subst this
    exact ⟨none, 0, rfl, fun i c hc => by simp at hc⟩
  · refine ⟨some ⟨g, 0, none⟩, cap, rfl, fun i c hi => ⟨g, rfl, (Array.getElem?_eq_some_iff.1 hg).1, hle, ?_⟩⟩
    have hl : i < xs.length := (List.getElem?_eq_some_iff.1 hi).1
    have e := congrArg (·[i]?) ht
    rw [Nat.mul_one] at e
    simp only [List.getElem?_take, if_pos hl, iv, List.getElem?_map, hi, Option.map_some] at e
    simp only [World.cell?, hg]
    rw [← Array.getElem?_toList]; exact e
/-- Rising numbers below n. -/
def Ris (n : Nat) (ps : List Nat) : Prop := ps.Pairwise (· < ·) ∧ ∀ x ∈ ps, x < n
theorem Ris.snoc {k : Nat} {ps : List Nat} (h : Ris k ps) : Ris (k + 1) (ps ++ [k]) := by
  constructor
  · rw [List.pairwise_append]
    refine ⟨h.1, by simp, fun a ha b hb => ?_⟩
    simp at hb
    rw [hb]; exact h.2 a ha
  · intro x hx
    rcases List.mem_append.1 hx with h1 | h1
    · have := h.2 x h1; omega
    · simp at h1; omega
theorem Ris.up {k : Nat} {ps : List Nat} (h : Ris k ps) : Ris (k + 1) ps := ⟨h.1, fun x hx => by have := h.2 x hx; omega⟩
theorem Ris.len {k : Nat} : ∀ {ps : List Nat}, Ris k ps → ps.length ≤ k := by
  intro ps h
  have key : ∀ (l : List Nat) (b : Nat), l.Pairwise (· < ·) → (∀ x ∈ l, b ≤ x ∧ x < k) → l.length + b ≤ k ∨ l = [] := by
    intro l
    induction l with
    | nil => intro b _ _; exact .inr rfl
    | cons a l ih =>
      intro b hp hb
      rw [List.pairwise_cons] at hp
      have h1 := hb a (by simp)
      left
      rcases ih (a + 1) hp.2 (fun x hx => ⟨hp.1 x hx, (hb x (by simp [hx])).2⟩) with h2 | h2
      · simp only [List.length_cons]; omega
      · subst h2; simp; omega
  rcases key ps 0 h.1 (fun x hx => ⟨by omega, h.2 x hx⟩) with h1 | h1
  · omega
  · subst h1; simp
set_option maxHeartbeats 2000000 in
set_option maxRecDepth 100000 in
theorem picked_any (a : Option Addr) (L c n : Nat) (w : World) (hl : ByS w a L) (hL : L ≤ 9223372036854775807) (h1 : 1 ≤ n) (h2 : n ≤ 64) :
    Calls Try.prog 14 #[.slice a L c, .int .i64 n] w fun e w' => ∃ v ps, e = .returned v ∧ w'.ownsRow w.heap.size 3 1 v ps.length (iv ps) ∧ Ris n ps ∧ Below w.heap.size w w' := by
  have HL : Hid (ByS w a L) := hl
  have hmk := make_bb n h2
  obtain ⟨i0, hi, hz0, hz1, hz2⟩ := info_parts inf_int
  clear hl
  go_enter Try.func14, Try.ntmps14
  go_wp2
  go_loopw [6] (fun t wr => ∃ (i : Nat) (l : List Bool), i ≤ L ∧ t = .int .i64 i ∧ Hid (l.length = n) ∧ Hid (Bk wr w.heap.size (bb l) 4) ∧ Hid (Below w.heap.size w wr) ∧ w.heap.size < wr.heap.size) (fun t _ => L - (intOf t).toNat)
  case atStart => exact ⟨0, _, by omega, rfl, by show _ = n; exact List.length_replicate, bk_new w _ _, (Below.refl _ _).alloc (Nat.le_refl _) _, by rw [al_size]; omega⟩
  case round =>
    obtain ⟨i, l, hiL, rfl, HLn, HB, HW, hs⟩ := hrel
    by_cases hlt : i < L
    · obtain ⟨g, o, x, rfl, hg, hc⟩ := HL.out.below HW.out i hlt
      have hiz : (i : Int) < (L : Nat) := by omega
      have hx8 := x.toNat_lt
      obtain ⟨k, hk⟩ : ∃ k, x.toNat % n = k := ⟨_, rfl⟩
      have hkn : k < n := by rw [← hk]; exact Nat.mod_lt _ (by omega)
      have hkz : (x.toNat : Int) % (n : Int) = (k : Int) := by rw [← hk]; exact (Int.natCast_emod _ _).symm
      have hkt : (x.toNat : Int).tmod (n : Int) = (k : Int) := by rw [Int.tmod_eq_emod_of_nonneg (by omega)]; exact hkz
      have hknz : (k : Int) < (n : Nat) := by omega
      have hn0 : ((n : Int) == 0) = false := by rw [beq_eq_false_iff_ne]; omega
      obtain ⟨old, hold⟩ : ∃ old, l[k]? = some old := ⟨_, List.getElem?_eq_getElem (by rw [HLn.out]; exact hkn)⟩
      have hcl : wr.cell? ⟨w.heap.size, k, none⟩ = some (.bool old) := by rw [HB.out.cell, bb_get, hold]; rfl
      have hfr := HB.out.frozen k
      clear hk hold
      go_wp2
      go_roundw
      case rel => exact ⟨i + 1, l.set k true, by omega, by go_num, by show _ = n; rw [List.length_set, HLn.out], by show Bk _ _ _ _; rw [← bb_set]; exact HB.out.set k _, below_own HW.out HW.out.size (Lib.grownBy_setB (World.grownBy.refl _ _) _ _) (Nat.le_refl _), by simpa [World.setCell] using hs⟩
      case measure => simp [intOf]; omega
    · obtain ⟨w1, hw1⟩ : ∃ w1, wr = w1 := ⟨_, rfl⟩
      rw [hw1] at HB HW hs ⊢
      clear hw1
      go_wp2
      go_loopw [7, 8] (fun v t wr => ∃ (i : Nat) (ps : List Nat), i ≤ n ∧ t = .int .i64 i ∧ Hid (wr.ownsRow w1.heap.size 3 1 v ps.length (iv ps)) ∧ Hid (Ris i ps) ∧ Hid (Below w1.heap.size w1 wr) ∧ ps.length ≤ i) (fun _ t _ => n - (intOf t).toNat)
      case atStart => exact ⟨0, [], by omega, rfl, World.ownsRow_nil _ _ _ _, ⟨List.Pairwise.nil, by simp⟩, Below.refl _ _, by simp⟩
      case round =>
        clear hlt hiL
        obtain ⟨i, ps, hin, rfl, HO, HR, HBw, hpl⟩ := hrel
        have hzr : w1.heap.size ≤ wr.heap.size := HBw.out.size
        by_cases hlt : i < n
        · have hiz : (i : Int) < (n : Nat) := by omega
          obtain ⟨b, hb⟩ : ∃ b, l[i]? = some b := ⟨_, List.getElem?_eq_getElem (by rw [HLn.out]; exact hlt)⟩
          have hcl : wr.cell? ⟨w.heap.size, i, none⟩ = some (.bool b) := by rw [(HB.out.below HBw.out hs).cell, bb_get, hb]; rfl
          clear hb
          cases b
          · go_wp2
            go_roundw
            case rel => exact ⟨i + 1, ps, by omega, by go_num, HO.out, HR.out.up, HBw.out, by omega⟩
            case measure => simp [intOf]; omega
          · have HC1 : Hid (∀ (j : Nat) (u : Value), [Value.int .i64 (i : Int)][j]? = some u → (wr.alloc (.cells #[Value.int .i64 (i : Int)] 3)).cell? ((⟨wr.heap.size, 0, none⟩ : Addr).add j) = some u) := news_one _ _ _
            go_wp2_with (at_builtin; refine wpList_append_own _ rfl _ _ 36 rfl w1.heap.size 3 i0 (.int .i64 0) 1 8 Try.underlying36 hi hz0 hz1 hz2 rfl (by decide) _ _ _ rfl (HO.out.alloc _) ⟨wr.heap.size, 0, none⟩ 1 1 [.int .i64 (i : Int)] rfl rfl HC1.out (one_int _) (by unfold maxLen; omega) (by omega) (by simp; omega) ?_)
            intro v' w7 hown1 hgrow _
            have HO7 : Hid (w7.ownsRow w1.heap.size 3 1 v' (ps ++ [i]).length (iv (ps ++ [i]))) := by
              show w7.ownsRow w1.heap.size 3 1 v' (ps ++ [i]).length (iv (ps ++ [i]))
              rw [iv_append, List.length_append]; exact hown1
            have HB7 : Hid (Below w1.heap.size w1 w7) := apn_bel HBw.out hzr HO.out hgrow
            clear hown1 hgrow HO HC1 HBw
            go_wp2
            go_roundw
            case rel => exact ⟨i + 1, ps ++ [i], by omega, by go_num, HO7.out, HR.out.snoc, HB7.out, by simp; omega⟩
            case measure => simp [intOf]; omega
        · have hin2 : i = n := by omega
          have HRe : Hid (Ris n ps) := by have h := HR.out; rw [hin2] at h; exact h
          clear hin2
          go_wp2
          go_ret
          exact ⟨_, ps, rfl, HO.out.lower (by omega), HRe.out, HW.out.trans (HBw.out.mono (by omega))⟩
end Go.Proofs.Ytefmabfhephdjab
