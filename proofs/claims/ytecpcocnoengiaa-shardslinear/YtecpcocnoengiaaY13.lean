import Derived.Test.YtecpcocnoengiaaY12
import Derived.Test.YtecpcocnoengiaaY10
import Derived.Lib.SmallJoins
import Derived.WalkKit
import Derived.WalkSpells
import Derived.WalkLawsBesides
import Derived.Handy
import Derived.RegionTactic
import Derived.Test.YtecpcocnoengiaaY5
import Derived.Test.YtecpcocnoengiaaY4
import Derived.Deep.RegionLaw
/- What the walk of ShardsBack wants besides. -/
namespace Go.Proofs.Ytecpcocnoengiaa
open Go.RowKit
set_option linter.unusedSimpArgs false
set_option linter.unusedVariables false
theorem own_all {w : World} {B : Nat} {v : Value} {xs : List ByteArray} {e : TypeId} (h : w.ownsRow B e 1 v xs.length (sv xs)) : ∃ a c, v = .slice a xs.length c ∧ TxL w a xs ∧ xs.length ≤ c ∧ c ≤ maxLen := by
  obtain ⟨a, c, rfl, ht, _⟩ := own_txl h
  refine ⟨a, c, rfl, ht, ?_⟩
  rcases h.2 with ⟨e, h0⟩ | ⟨g, cap, cur, e, _, _, h4, h5, _⟩
  · simp only [Value.slice.injEq] at e
    exact ⟨by omega, by unfold maxLen; omega⟩
  · simp only [Value.slice.injEq] at e
    rw [e.2.2]; exact ⟨h4, h5⟩
theorem infB : (Try.prog.info? 4).map (fun i => (i.zero, i.size, i.bytes)) = some (some (.bool false), 1, 1) := by kernel_rfl
theorem made_bs (n : Nat) : madeCells #[Value.bool false] n = bs (List.replicate n false) := by
  apply Array.ext_getElem?
  intro i
  rw [bs_get]
  simp only [madeCells]
  by_cases hi : i < n
  · rw [List.getElem?_replicate, if_pos hi]
    simp [hi, Nat.mod_one]
  · rw [List.getElem?_eq_none (by simp; omega), Array.getElem?_eq_none (by simp; omega)]; rfl
theorem make_bs (n : Nat) (hn : n ≤ 64) (u : World) : (Instr.makeSlice 31 (.int .i64 n) (.int .i64 n)).run Try.prog u =
    .ok (.slice (some ⟨u.heap.size, 0, none⟩) n n) (u.alloc (.cells (bs (List.replicate n false)) 4)) := by
  obtain ⟨i0, hi, hz0, hz1, hz2⟩ := info_parts infB
  have h := run_make (P := Try.prog) u 31 4 i0 (.bool false) Try.underlying31 hi hz0 .i64 .i64 (n : Int) (n : Int) (by omega) (Int.le_refl _) (by rw [hz2]; omega) (by omega)
  rw [Int.toNat_natCast, hz1, Nat.mul_one] at h
  rw [h, ← made_bs]; rfl
theorem bs_bol {w : World} {g : Nat} {l : List Bool} {T : TypeId} (h : Bk w g (bs l) T) : BoL w (some ⟨g, 0, none⟩) l := by
  intro i x hx
  exact ⟨g, 0, rfl, h.lt, by rw [Nat.zero_add, h.cell, bs_get, hx]; rfl⟩
/-- A list in a block of the call's own. -/
def Tn (w : World) (g : Nat) (us : List ByteArray) : Prop := ∃ cur, Bk w g cur 9 ∧ ∀ (j : Nat) (x : ByteArray), us[j]? = some x → cur[j]? = some (.string x)
theorem Tn.txl {w : World} {g : Nat} {us : List ByteArray} (h : Tn w g us) : TxL w (some ⟨g, 0, none⟩) us := by
  obtain ⟨cur, hB, hc⟩ := h
  intro i x hx
  exact ⟨g, 0, rfl, hB.lt, by rw [Nat.zero_add, hB.cell]; exact hc i x hx⟩
theorem Tn.grown {w w' : World} {g : Nat} {us : List ByteArray} {r : Option Nat} (h : Tn w g us) (hg : w.grownBy w' r) (hr : r ≠ some g) : Tn w' g us := by
  obtain ⟨cur, hB, hc⟩ := h
  exact ⟨cur, hB.grown hg hr, hc⟩
theorem Tn.below {w w' : World} {g : Nat} {us : List ByteArray} (h : Tn w g us) (hb : Below w.heap.size w w') : Tn w' g us := h.grown (gr_of_below hb none) (by simp)
theorem Tn.set {w : World} {g : Nat} {us : List ByteArray} (h : Tn w g us) (i : Nat) (hi : i < us.length) (x : ByteArray) : Tn (w.setCell ⟨g, i, none⟩ (.string x)) g (us.set i x) := by
  obtain ⟨cur, hB, hc⟩ := h
  refine ⟨_, hB.set i _, fun j y hy => ?_⟩
  have h0 := hc i us[i] (List.getElem?_eq_getElem hi)
  have hic : i < cur.size := (Array.getElem?_eq_some_iff.1 h0).1
  rw [List.getElem?_set] at hy
  rw [Array.getElem?_setIfInBounds]
  by_cases e : i = j
  · subst e
    rw [if_pos rfl, if_pos hi] at hy
    cases hy
    rw [if_pos rfl, if_pos hic]
  · rw [if_neg e] at hy ⊢
    exact hc j y hy
theorem Tn.lt {w : World} {g : Nat} {us : List ByteArray} (h : Tn w g us) : g < w.heap.size := by
  obtain ⟨cur, hB, _⟩ := h
  exact hB.lt
/-- So many truths laid. -/
def ftK (n i : Nat) : List Bool := (List.range n).map fun j => decide (j < i)
theorem ftK_len (n i : Nat) : (ftK n i).length = n := by simp [ftK]
theorem ftK_get (n i j : Nat) (h : j < n) : (ftK n i)[j]? = some (decide (j < i)) := by rw [ftK, List.getElem?_map, List.getElem?_range h]; rfl
theorem ftK_zero (n : Nat) : ftK n 0 = List.replicate n false := by
  apply List.ext_getElem?
  intro j
  by_cases h : j < n
  · rw [ftK_get n 0 j h, List.getElem?_replicate, if_pos h]; simp
  · rw [List.getElem?_eq_none (by rw [ftK_len]; omega), List.getElem?_eq_none (by rw [List.length_replicate]; omega)]
theorem ftK_next (n i : Nat) (h : i < n) : (ftK n i).set i true = ftK n (i + 1) := by
  apply List.ext_getElem?
  intro j
  rw [List.getElem?_set, ftK_len]
  by_cases hj : j < n
  · rw [ftK_get n i j hj, ftK_get n (i + 1) j hj]
    by_cases e : i = j
    · subst e; rw [if_pos rfl, if_pos h]; simp
    · rw [if_neg e]
      congr 1
      rw [decide_eq_decide]; omega
  · rw [if_neg (by omega), List.getElem?_eq_none (by rw [ftK_len]; omega), List.getElem?_eq_none (by rw [ftK_len]; omega)]
theorem cw_mul (N k : Nat) : k * cw N k ≤ N + k := by
  unfold cw
  have h := Nat.div_add_mod N k
  split
  · omega
  · rw [Nat.mul_add, Nat.mul_one]; omega
theorem wid_eq {xs : List ByteArray} (h : 1 ≤ xs.length) (d : Nat) (hs : ∀ x ∈ xs, x.size = d) : wid xs = d := by
  obtain ⟨x, hx⟩ : ∃ x, xs[0]? = some x := ⟨_, List.getElem?_eq_getElem (by omega)⟩
  rw [wid, hx]
  exact hs x (List.mem_of_getElem? hx)
theorem evn_eq {xs : List ByteArray} (d : Nat) (hs : ∀ x ∈ xs, x.size = d) : evn xs = true := by
  refine evn_yes xs (fun i x hx => ?_)
  have hi : i < xs.length := (List.getElem?_eq_some_iff.1 hx).1
  rw [wid_eq (by omega) d hs]
  exact hs x (List.mem_of_getElem? hx)
/-- What the law's Rebuild answers, of shards of which some are torn. -/
theorem rb_back (D us : List ByteArray) (ts : List Bool) (n k d : Nat) (hD : D.length = k) (h1 : 1 ≤ k) (h32 : k ≤ 32) (h2 : k ≤ n) (h3 : n ≤ 64) (sD : ∀ x ∈ D, x.size = d) (hu : us.length = n) (ht : ts.length = n)
    (hs : ∀ i, i < n → thr ts i = true → us[i]? = (alX D n d)[i]?) :
    (k ≤ cnt (thr ts) n → rbX us ts (k : Int) = alX D n d ∧ rbE us ts (k : Int) = 0) ∧ (cnt (thr ts) n < k → rbE us ts (k : Int) = 70) := by
  have hl := alX_len D n k d hD h1 h2 h3
  have hok : rbOk us ts (k : Int) := ⟨by rw [hu]; omega, by rw [ht, hu]⟩
  have hpk := pkd_same (thr ts) us (alX D n d) (by rw [hu, hl]) (fun i hi h => hs i (by omega) h)
  have hps : ∀ x ∈ pkd (thr ts) us, x.size = d := fun x hx => by rw [hpk] at hx; exact alX_size D n d sD x (pkd_mem _ _ x hx)
  have hev := evn_eq d hps
  have hpl : (pkd (thr ts) us).length = cnt (thr ts) n := by rw [pkd_len, hu]
  constructor
  · intro hc
    have hw : wid (pkd (thr ts) us) = d := wid_eq (by omega) d hps
    constructor
    · unfold rbX
      rw [if_pos ⟨hok, hev, by rw [hpl]; omega⟩, Int.toNat_natCast, hw, re_same (thr ts) us (alX D n d) k d (by rw [hu, hl]) (fun i hi h => hs i (by omega) h)]
      exact re_back (thr ts) D n k d hD h1 h2 h3 sD hc
    · unfold rbE
      rw [if_pos ⟨hok, hev⟩, if_pos (by rw [hpl]; omega)]
  · intro hc
    unfold rbE
    rw [if_pos ⟨hok, hev⟩, if_neg (by rw [hpl]; omega)]
theorem ft_back (D : List ByteArray) (n k d : Nat) (hD : D.length = k) (h1 : 1 ≤ k) (h32 : k ≤ 32) (h2 : k ≤ n) (h3 : n ≤ 64) (sD : ∀ x ∈ D, x.size = d) : ftB (alX D n d) (k : Int) = true ∧ ftE (alX D n d) (k : Int) = 0 := by
  have hl := alX_len D n k d hD h1 h2 h3
  have hs := alX_size D n d sD
  have hok : ftOk (alX D n d) (k : Int) := ⟨by rw [hl]; omega, evn_eq d hs⟩
  refine ⟨?_, if_pos hok⟩
  unfold ftB
  rw [if_pos hok, Int.toNat_natCast, hl, wid_eq (by omega) d hs, decide_eq_true_eq]
  have e1 : (alX D n d).take k = D := by rw [alX, List.take_left' hD]
  have e2 : (alX D n d).drop k = mixL (cyX (n - k) k) D d := by rw [alX, List.drop_left' hD, hD]
  rw [e1, e2]
end Go.Proofs.Ytecpcocnoengiaa
/- A text's bytes in a row that may be written, and back. -/
namespace Go.Proofs.Ytecpcocnoengiaa
open Go.RowKit
set_option linter.unusedSimpArgs false
set_option linter.unusedVariables false
/-- A row of bytes that a conversion made. -/
def Cby (w : World) (g n : Nat) (f : Nat → UInt8) : Prop := ∃ C : Array Value, w.heap[g]? = some (.cells C 5 (C.size, C.size + 1)) ∧ n ≤ C.size ∧ ∀ j, j < n → C[j]? = some (c8 (f j))
theorem Cby.cell {w : World} {g n : Nat} {f : Nat → UInt8} (h : Cby w g n f) (j : Nat) (hj : j < n) : w.cell? ⟨g, j, none⟩ = some (c8 (f j)) := by
  obtain ⟨C, hC, _, hc⟩ := h
  rw [cell_of_row w g j C _ _ hC]
  exact hc j hj
theorem Cby.frozen {w : World} {g n : Nat} {f : Nat → UInt8} (h : Cby w g n f) (j : Nat) (hj : j < n) : w.frozen? ⟨g, j, none⟩ = false := by
  obtain ⟨C, hC, hn, _⟩ := h
  simp only [World.frozen?, hC]
  simp; omega
theorem Cby.set {w : World} {g n : Nat} {f : Nat → UInt8} (h : Cby w g n f) (i : Nat) (hi : i < n) (v : UInt8) : Cby (w.setCell ⟨g, i, none⟩ (c8 v)) g n (fun j => if j = i then v else f j) := by
  obtain ⟨C, hC, hn, hc⟩ := h
  refine ⟨C.setIfInBounds i (c8 v), ?_, by simpa using hn, fun j hj => ?_⟩
  · have := Joins.block_setCell (i := i) hC (c8 v)
    rw [this]; simp
  · rw [Array.getElem?_setIfInBounds]
    by_cases e : i = j
    · subst e; rw [if_pos rfl, if_pos (by omega)]; simp
    · rw [if_neg e, hc j hj]; simp [show j ≠ i from fun h => e h.symm]
theorem conv_to (s : ByteArray) (u : World) : ∃ (cap : Nat) (W : World), (convert 9 28 (.string s)).run Try.prog u = .ok (.slice (some ⟨u.heap.size, 0, none⟩) s.size cap) W ∧ s.size ≤ cap ∧
    Below u.heap.size u W ∧ Cby W u.heap.size s.size (bt s) := by
  refine ⟨grownCap u s.size 0 5, Lib.bytesWorld u 5 s, Lib.run_convert_string_bytes u _ _ _ s Try.underlying9 Try.underlying28 Try.underlying5, grownCap_ge _ _ _ _, ?_, Lib.bytesCells u 5 s, Lib.bytesWorld_at_new _ _ _, ?_, ?_⟩
  · refine ⟨?_, ?_, ?_, by rw [Lib.bytesWorld_size]; omega, fun k hk => Lib.bytesWorld_at_old _ _ _ _ hk⟩
    all_goals simp [Lib.bytesWorld, World.freeze, World.alloc, World.drew, -World.alloc_eq, -World.drew_eq]
  · have hge := grownCap_ge u s.size 0 5
    have : s.data.size = s.size := rfl
    simp [Lib.bytesCells]
  · intro j hj
    have hj' : j < s.data.size := hj
    rw [Lib.bytesCells, Array.getElem?_append_left (by simpa using hj)]
    simp only [Array.getElem?_map, Array.getElem?_eq_getElem hj', Option.map_some]
    rw [← bt_at s j hj]
    rfl
theorem conv_fro (g n cap : Nat) (f : Nat → UInt8) (w : World) (h : ∀ j, j < n → w.cell? ⟨g, j, none⟩ = some (c8 (f j))) :
    (convert 28 9 (.slice (some ⟨g, 0, none⟩) n cap)).run Try.prog w = .ok (.string (mkT (fl n f))) w := by
  have h := run_convert_bytes_arg w 28 5 Try.underlying28 Try.underlying5 g 0 n cap ((fl n f).map fun x : UInt8 => (x.toNat : Int)) (by simp [fl_len]) (fun i hi => by
    rw [Nat.zero_add, h i hi, List.getD, List.getElem?_map, fl_get n f i hi]; rfl) 9 Try.underlying9
  rw [h]
  have e : strOfNums ((fl n f).map fun x : UInt8 => (x.toNat : Int)) = mkT (fl n f) := by
    unfold strOfNums mkT
    rw [List.map_map]
    congr 2
    conv => rhs; rw [← List.map_id (fl n f)]
    apply List.map_congr_left
    intro x _
    simp
  rw [e]
end Go.Proofs.Ytecpcocnoengiaa
/- A drawn append whose run is known. -/
namespace Go.Proofs.Ytecpcocnoengiaa
open Go.RowKit
set_option linter.unusedSimpArgs false
set_option linter.unusedVariables false
theorem step_app_run {P : Program} {ops : Array Oper} {o : Oper} {a : Act} {w : World} {K : Act → World → Prop} {Q : Exit → Act → World → Prop} {E : Prop} (hgd : o.guard = none) (s x : Operand) (t u : TypeId)
    (ho : o.op = .call { callee := .builtin .append, args := #[s, x], argTypes := #[t, u] }) (v y v' : Value) (w' : World) (hs : a.eval s = v) (hx : a.eval x = y) (hr : (Builtin.append_ #[t, u] o.type #[v, y]).run P w = .ok v' w') (h : K (a.put o.dst v') w') :
    if Region.wanted o (yielded ops a.tmps) = true then Oper.wp P o a w K Q else E := by
  have hw : Region.wanted o (yielded ops a.tmps) = true := by simp [Region.wanted, hgd]
  rw [if_pos hw]
  unfold Oper.wp execOp
  simp only [ho, resolve, invoke, builtin, Sem.run_bind, Sem.run_pure, Result.andThen_ok, List.map_toArray, List.map_cons, List.map_nil, hs, hx, hr]
  exact h
end Go.Proofs.Ytecpcocnoengiaa
/- What the walk of ShardsLinear wants besides. -/
namespace Go.Proofs.Ytecpcocnoengiaa
open Go.RowKit
set_option linter.unusedSimpArgs false
set_option linter.unusedVariables false
theorem enc_ok (xs : List ByteArray) (K M d : Nat) (a : Option Addr) (c : Nat) (W : World) (hx : TxL W a xs) (nx : xs.length = K) (hK1 : 1 ≤ K) (hK : K ≤ 32) (hKM : K + M ≤ 64) (sx : ∀ x ∈ xs, x.size = d) (hd : d ≤ 281474976710656) :
    Calls Try.prog 7 #[.slice a K c, .int .i64 (M : Int)] W fun e w' => ∃ ao, e = .returned (.tuple #[.slice ao M M, .int .i64 0]) ∧ Mad W ao (mixL (cyX M K) xs d) w' ∧ Below W.heap.size W w' := by
  have h := encode_any a c K xs (M : Int) W hx nx (by omega) (fun x hx => by rw [sx x hx]; exact hd) (by omega) (by omega)
  have ok : enOk xs (M : Int) := ⟨by rw [nx]; omega, evn_eq d sx, by omega, by rw [nx]; omega⟩
  have e1 : enX xs (M : Int) = mixL (cyX M K) xs d := by unfold enX; rw [if_pos ok, Int.toNat_natCast, nx, wid_eq (by omega) d sx]
  have e2 : enE xs (M : Int) = 0 := if_pos ok
  rw [e1, e2, mixL_len, cyX_len M K (by omega) hK1 (by omega)] at h
  exact h.mono (fun e w' ⟨ao, h1, h2, h3⟩ => ⟨ao, h1, h2, h3⟩)
theorem cby_drew {w : World} {g n : Nat} {f : Nat → UInt8} (h : Cby w g n f) : Cby w.drew g n f := h
theorem tn_drew {w : World} {g : Nat} {us : List ByteArray} (h : Tn w g us) : Tn w.drew g us := h
theorem take_next {X : List ByteArray} {i : Nat} {x : ByteArray} (h : X[i]? = some x) : sv (X.take (i + 1)) = sv (X.take i) ++ [.string x] := by
  rw [List.take_add_one, h, sv_append]; rfl
theorem quiet_tl {o : Oper} {a : Act} {C : World → Prop} {K : Act → Prop} (x : Operand) (ho : o.op = .load 9 x) (g f : Nat) (s : ByteArray) (hx : a.eval x = .pointer (some ⟨g, f, none⟩))
    (hc : ∀ w, C w → w.cell? ⟨g, f, none⟩ = some (.string s)) (hn : K (a.put o.dst (.string s))) : o.quiet Try.prog a C K :=
  quiet_val (.string s) (fun w hw => by
    have h := hc w hw
    have ha : (isAgg 9).run Try.prog w = .ok false w := by kernel_rfl
    unfold execOp
    simp [ho, hx, Instr.loadAt, Instr.sureAddr, loadVar, ha, h]) hn
theorem wp_region_cls {P : Program} {id : Nat} {Q : Exit → Act → World → Prop} {a : Act} {w : World} {l : List Oper} (C : World → Prop) (hm : P.follows .mixedOrders = true) (hB : Region.lexB .any l.toArray = true) (hC : C w.drew)
    (h : wpQuiet P l.toArray C (fun a' => ∀ w', C w' → Q .normal a' w') l a) : (Code.region id l.toArray true).wp P Q a w :=
  wp_region_quiet (C := C) hm hB hC (by simpa using h)
end Go.Proofs.Ytecpcocnoengiaa
