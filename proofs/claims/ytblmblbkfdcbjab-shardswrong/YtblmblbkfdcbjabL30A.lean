/- What the walk of ShardsBack wants besides. -/
import Derived.Test.YtblmblbkfdcbjabK17
import Derived.Test.YtblmblbkfdcbjabM6
namespace Go.Proofs.Ytblmblbkfdcbjab
open Go.RowKit
set_option linter.unusedSimpArgs false
set_option linter.unusedVariables false
/-- The bytes of a slice that came in. -/
def BySb (w : World) (a : Option Addr) (n : Nat) : Prop := ∀ i, i < n → ∃ (g o : Nat) (x : UInt8), a = some ⟨g, o, none⟩ ∧ g < w.heap.size ∧ w.cell? ⟨g, o + i, none⟩ = some (c8 x)
theorem BySb.below {w w' : World} {a : Option Addr} {n : Nat} (h : BySb w a n) (hb : Below w.heap.size w w') : BySb w' a n := by
  intro i hi
  obtain ⟨g, o, x, e, hg, hc⟩ := h i hi
  exact ⟨g, o, x, e, Nat.lt_of_lt_of_le hg hb.size, by rw [hb.cell (p := ⟨g, o + i, none⟩) hg]; exact hc⟩
theorem own_all {w : World} {B : Nat} {v : Value} {xs : List ByteArray} {e : TypeId} (h : w.ownsRow B e 1 v xs.length (sv xs)) : ∃ a c, v = .slice a xs.length c ∧ TxL w a xs ∧ xs.length ≤ c ∧ c ≤ maxLen := by
  obtain ⟨a, c, rfl, ht, _⟩ := own_txl h
  refine ⟨a, c, rfl, ht, ?_⟩
  rcases h.2 with ⟨e, h0⟩ | ⟨g, cap, cur, e, _, _, h4, h5, _⟩
  · simp only [Value.slice.injEq] at e
    exact ⟨by omega, by unfold maxLen; omega⟩
  · simp only [Value.slice.injEq] at e
    rw [e.2.2]; exact ⟨h4, h5⟩
theorem infB : (Try.prog.info? 4).map (fun i => (i.zero, i.size, i.bytes)) = some (some (.bool false), 1, 1) := by kernel_rfl
theorem made_bs (n : Nat) : madeCells #[Value.bool false] n = bs (List.replicate n false) := by
  apply Array.ext_getElem?
  intro i
  rw [bs_get]
  simp only [madeCells]
  by_cases hi : i < n
  · rw [List.getElem?_replicate, if_pos hi]
    simp [hi, Nat.mod_one]
  · rw [List.getElem?_eq_none (by simp; omega), Array.getElem?_eq_none (by simp; omega)]; rfl
theorem make_bs (n : Nat) (hn : n ≤ 64) (u : World) : (Instr.makeSlice 31 (.int .i64 n) (.int .i64 n)).run Try.prog u =
    .ok (.slice (some ⟨u.heap.size, 0, none⟩) n n) (u.alloc (.cells (bs (List.replicate n false)) 4)) := by
  obtain ⟨i0, hi, hz0, hz1, hz2⟩ := info_parts infB
  have h := run_make (P := Try.prog) u 31 4 i0 (.bool false) Try.underlying31 hi hz0 .i64 .i64 (n : Int) (n : Int) (by omega) (Int.le_refl _) (by rw [hz2]; omega) (by omega)
  rw [Int.toNat_natCast, hz1, Nat.mul_one] at h
  rw [h, ← made_bs]; rfl
theorem bs_bol {w : World} {g : Nat} {l : List Bool} {T : TypeId} (h : Bk w g (bs l) T) : BoL w (some ⟨g, 0, none⟩) l := by
  intro i x hx
  exact ⟨g, 0, rfl, h.lt, by rw [Nat.zero_add, h.cell, bs_get, hx]; rfl⟩
/-- A list in a block of the call's own. -/
def Tn (w : World) (g : Nat) (us : List ByteArray) : Prop := ∃ cur, Bk w g cur 9 ∧ ∀ (j : Nat) (x : ByteArray), us[j]? = some x → cur[j]? = some (.string x)
theorem Tn.txl {w : World} {g : Nat} {us : List ByteArray} (h : Tn w g us) : TxL w (some ⟨g, 0, none⟩) us := by
  obtain ⟨cur, hB, hc⟩ := h
  intro i x hx
  exact ⟨g, 0, rfl, hB.lt, by rw [Nat.zero_add, hB.cell]; exact hc i x hx⟩
theorem Tn.grown {w w' : World} {g : Nat} {us : List ByteArray} {r : Option Nat} (h : Tn w g us) (hg : w.grownBy w' r) (hr : r ≠ some g) : Tn w' g us := by
  obtain ⟨cur, hB, hc⟩ := h
  exact ⟨cur, hB.grown hg hr, hc⟩
theorem Tn.below {w w' : World} {g : Nat} {us : List ByteArray} (h : Tn w g us) (hb : Below w.heap.size w w') : Tn w' g us := h.grown (gr_of_below hb none) (by simp)
theorem Tn.set {w : World} {g : Nat} {us : List ByteArray} (h : Tn w g us) (i : Nat) (hi : i < us.length) (x : ByteArray) : Tn (w.setCell ⟨g, i, none⟩ (.string x)) g (us.set i x) := by
  obtain ⟨cur, hB, hc⟩ := h
  refine ⟨_, hB.set i _, fun j y hy => ?_⟩
  have h0 := hc i us[i] (List.getElem?_eq_getElem hi)
  have hic : i < cur.size := (Array.getElem?_eq_some_iff.1 h0).1
  rw [List.getElem?_set] at hy
  rw [Array.getElem?_setIfInBounds]
  by_cases e : i = j
  · subst e
    rw [if_pos rfl, if_pos hi] at hy
    cases hy
    rw [if_pos rfl, if_pos hic]
  · rw [if_neg e] at hy ⊢
    exact hc j y hy
theorem Tn.lt {w : World} {g : Nat} {us : List ByteArray} (h : Tn w g us) : g < w.heap.size := by
  obtain ⟨cur, hB, _⟩ := h
  exact hB.lt
/-- So many truths laid. -/
def ftK (n i : Nat) : List Bool := (List.range n).map fun j => decide (j < i)
theorem ftK_len (n i : Nat) : (ftK n i).length = n := by simp [ftK]
theorem ftK_get (n i j : Nat) (h : j < n) : (ftK n i)[j]? = some (decide (j < i)) := by rw [ftK, List.getElem?_map, List.getElem?_range h]; rfl
theorem ftK_zero (n : Nat) : ftK n 0 = List.replicate n false := by
  apply List.ext_getElem?
  intro j
  by_cases h : j < n
  · rw [ftK_get n 0 j h, List.getElem?_replicate, if_pos h]; simp
  · rw [List.getElem?_eq_none (by rw [ftK_len]; omega), List.getElem?_eq_none (by rw [List.length_replicate]; omega)]
theorem ftK_next (n i : Nat) (h : i < n) : (ftK n i).set i true = ftK n (i + 1) := by
  apply List.ext_getElem?
  intro j
  rw [List.getElem?_set, ftK_len]
  by_cases hj : j < n
  · rw [ftK_get n i j hj, ftK_get n (i + 1) j hj]
    by_cases e : i = j
    · subst e; rw [if_pos rfl, if_pos h]; simp
    · rw [if_neg e]
      congr 1
      rw [decide_eq_decide]; omega
  · rw [if_neg (by omega), List.getElem?_eq_none (by rw [ftK_len]; omega), List.getElem?_eq_none (by rw [ftK_len]; omega)]
theorem cw_mul (N k : Nat) : k * cw N k ≤ N + k := by
  unfold cw
  have h := Nat.div_add_mod N k
  split
  · omega
  · rw [Nat.mul_add, Nat.mul_one]; omega
theorem wid_eq {xs : List ByteArray} (h : 1 ≤ xs.length) (d : Nat) (hs : ∀ x ∈ xs, x.size = d) : wid xs = d := by
  obtain ⟨x, hx⟩ : ∃ x, xs[0]? = some x := ⟨_, List.getElem?_eq_getElem (by omega)⟩
  rw [wid, hx]
  exact hs x (List.mem_of_getElem? hx)
theorem evn_eq {xs : List ByteArray} (d : Nat) (hs : ∀ x ∈ xs, x.size = d) : evn xs = true := by
  refine evn_yes xs (fun i x hx => ?_)
  have hi : i < xs.length := (List.getElem?_eq_some_iff.1 hx).1
  rw [wid_eq (by omega) d hs]
  exact hs x (List.mem_of_getElem? hx)
/-- What the law's Rebuild answers, of shards of which some are torn. -/
theorem rb_back (D us : List ByteArray) (ts : List Bool) (n k d : Nat) (hD : D.length = k) (h1 : 1 ≤ k) (h32 : k ≤ 32) (h2 : k ≤ n) (h3 : n ≤ 64) (sD : ∀ x ∈ D, x.size = d) (hu : us.length = n) (ht : ts.length = n)
    (hs : ∀ i, i < n → thr ts i = true → us[i]? = (alX D n d)[i]?) :
    (k ≤ cnt (thr ts) n → rbX us ts (k : Int) = alX D n d ∧ rbE us ts (k : Int) = 0) ∧ (cnt (thr ts) n < k → rbE us ts (k : Int) = 70) := by
  have hl := alX_len D n k d hD h1 h2 h3
  have hok : rbOk us ts (k : Int) := ⟨by rw [hu]; omega, by rw [ht, hu]⟩
  have hpk := pkd_same (thr ts) us (alX D n d) (by rw [hu, hl]) (fun i hi h => hs i (by omega) h)
  have hps : ∀ x ∈ pkd (thr ts) us, x.size = d := fun x hx => by rw [hpk] at hx; exact alX_size D n d sD x (pkd_mem _ _ x hx)
  have hev := evn_eq d hps
  have hpl : (pkd (thr ts) us).length = cnt (thr ts) n := by rw [pkd_len, hu]
  constructor
  · intro hc
    have hw : wid (pkd (thr ts) us) = d := wid_eq (by omega) d hps
    constructor
    · unfold rbX
      rw [if_pos ⟨hok, hev, by rw [hpl]; omega⟩, Int.toNat_natCast, hw, re_same (thr ts) us (alX D n d) k d (by rw [hu, hl]) (fun i hi h => hs i (by omega) h)]
      exact re_back (thr ts) D n k d hD h1 h2 h3 sD hc
    · unfold rbE
      rw [if_pos ⟨hok, hev⟩, if_pos (by rw [hpl]; omega)]
  · intro hc
    unfold rbE
    rw [if_pos ⟨hok, hev⟩, if_neg (by rw [hpl]; omega)]
theorem ft_back (D : List ByteArray) (n k d : Nat) (hD : D.length = k) (h1 : 1 ≤ k) (h32 : k ≤ 32) (h2 : k ≤ n) (h3 : n ≤ 64) (sD : ∀ x ∈ D, x.size = d) : ftB (alX D n d) (k : Int) = true ∧ ftE (alX D n d) (k : Int) = 0 := by
  have hl := alX_len D n k d hD h1 h2 h3
  have hs := alX_size D n d sD
  have hok : ftOk (alX D n d) (k : Int) := ⟨by rw [hl]; omega, evn_eq d hs⟩
  refine ⟨?_, if_pos hok⟩
  unfold ftB
  rw [if_pos hok, Int.toNat_natCast, hl, wid_eq (by omega) d hs, decide_eq_true_eq]
  have e1 : (alX D n d).take k = D := by rw [alX, List.take_left' hD]
  have e2 : (alX D n d).drop k = mixL (cyX (n - k) k) D d := by rw [alX, List.drop_left' hD, hD]
  rw [e1, e2]
end Go.Proofs.Ytblmblbkfdcbjab
