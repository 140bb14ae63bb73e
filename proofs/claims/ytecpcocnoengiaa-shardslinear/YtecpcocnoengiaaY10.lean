import Derived.Test.YtecpcocnoengiaaY9
import Derived.Test.YtecpcocnoengiaaY3
import Derived.Deep.Upon
import Derived.ArgAppend
import Derived.Test.YtecpcocnoengiaaY7
import Derived.Test.YtecpcocnoengiaaY8
/- Which shards are used; the shards made again. -/
namespace Go.Proofs.Ytecpcocnoengiaa
open Go.RowKit
set_option linter.unusedSimpArgs false
set_option linter.unusedVariables false
/-- Those of a list for whose numbers p says so; how many of the first e. -/
def pkd (p : Nat → Bool) (X : List ByteArray) : List ByteArray := ((List.range X.length).filter p).map fun i => X.getD i (mkT [])
def cnt (p : Nat → Bool) (e : Nat) : Nat := ((List.range e).filter p).length
theorem pkd_len (p : Nat → Bool) (X : List ByteArray) : (pkd p X).length = cnt p X.length := by rw [pkd, List.length_map, cnt]
theorem cnt_next (p : Nat → Bool) (e : Nat) : cnt p (e + 1) = cnt p e + if p e then 1 else 0 := by
  rw [cnt, cnt, List.range_succ, List.filter_append, List.length_append]
  cases h : p e <;> simp [h]
theorem cnt_le (p : Nat → Bool) (e : Nat) : cnt p e ≤ e := by
  have := List.length_filter_le p (List.range e)
  rwa [List.length_range] at this
theorem cnt_mono (p : Nat → Bool) (e : Nat) : ∀ m, cnt p e ≤ cnt p (e + m)
  | 0 => Nat.le_refl _
  | m + 1 => by
    rw [← Nat.add_assoc, cnt_next]
    have := cnt_mono p e m
    omega
/-- The first i numbers' part of what is picked. -/
def pkK (p : Nat → Bool) (X : List ByteArray) (i : Nat) : List ByteArray := ((List.range i).filter p).map fun j => X.getD j (mkT [])
theorem pkK_len (p : Nat → Bool) (X : List ByteArray) (i : Nat) : (pkK p X i).length = cnt p i := by rw [pkK, List.length_map, cnt]
theorem pkK_yes (p : Nat → Bool) (X : List ByteArray) (i : Nat) (x : ByteArray) (hx : X[i]? = some x) (h : p i = true) : pkK p X (i + 1) = pkK p X i ++ [x] := by
  rw [pkK, pkK, List.range_succ, List.filter_append, List.map_append]
  congr 1
  simp [h, hx]
theorem pkK_no (p : Nat → Bool) (X : List ByteArray) (i : Nat) (h : p i = false) : pkK p X (i + 1) = pkK p X i := by
  rw [pkK, pkK, List.range_succ, List.filter_append, List.map_append]
  simp [h]
theorem pkK_all (p : Nat → Bool) (X : List ByteArray) : pkK p X X.length = pkd p X := rfl
/-- The numbers that are used. -/
def idxU (p : Nat → Bool) (n k : Nat) : List Nat := ((List.range n).filter p).take k
theorem idx_ris (p : Nat → Bool) (n k : Nat) : Ris n (idxU p n k) := by
  refine ⟨List.Pairwise.sublist (List.take_sublist _ _) (List.Pairwise.filter _ List.pairwise_lt_range), fun x hx => ?_⟩
  have := (List.mem_filter.1 (List.mem_of_mem_take hx)).1
  simpa using this
theorem idx_len (p : Nat → Bool) (n k : Nat) (h : k ≤ cnt p n) : (idxU p n k).length = k := by
  rw [idxU, List.length_take]; unfold cnt at h; omega
theorem used_take (p : Nat → Bool) (e n k : Nat) (he : cnt p e = k) (hn : k ≤ cnt p n) : ((List.range n).filter fun i => decide (i < e) && p i) = idxU p n k := by
  unfold idxU
  by_cases hen : e ≤ n
  · obtain ⟨m, rfl⟩ : ∃ m, n = e + m := ⟨n - e, by omega⟩
    rw [List.range_add, List.filter_append, List.filter_append]
    have e1 : ((List.range e).filter fun i => decide (i < e) && p i) = (List.range e).filter p := List.filter_congr (fun x hx => by
      have : x < e := by simpa using hx
      simp [this])
    have e2 : (((List.range m).map fun x => e + x).filter fun i => decide (i < e) && p i) = [] := List.filter_eq_nil_iff.2 (fun x hx => by
      obtain ⟨y, _, rfl⟩ := List.mem_map.1 hx
      have : ¬ e + y < e := by omega
      simp [this])
    rw [e1, e2, List.append_nil]
    unfold cnt at he
    rw [List.take_left' he]
  · obtain ⟨m, hm⟩ : ∃ m, e = n + m := ⟨e - n, by omega⟩
    have h1 := cnt_mono p n m
    rw [← hm, he] at h1
    have e1 : ((List.range n).filter fun i => decide (i < e) && p i) = (List.range n).filter p := List.filter_congr (fun x hx => by
      have h2 : x < n := by simpa using hx
      have h3 : x < e := by omega
      simp [h3])
    rw [e1, List.take_of_length_le]
    unfold cnt at h1
    exact h1
theorem pkd_used (p : Nat → Bool) (e n k : Nat) (h1 : 1 ≤ k) (h2 : k ≤ n) (h3 : n ≤ 64) (he : cnt p e = k) (hn : k ≤ cnt p n) : pkd (fun i => decide (i < e) && p i) (ofD n k) = usd n k (idxU p n k) := by
  rw [pkd, ofD_len n k h1 h2 h3, used_take p e n k he hn, usd]
theorem pkd_take (p : Nat → Bool) (X : List ByteArray) (k : Nat) : (pkd p X).take k = (idxU p X.length k).map fun i => X.getD i (mkT []) := by
  rw [pkd, idxU, List.map_take]
/-- The data that go with k shards; all shards. -/
def daX (p : Nat → Bool) (X : List ByteArray) (k d : Nat) : List ByteArray := mixL (ivX (usd X.length k (idxU p X.length k))) ((pkd p X).take k) d
def reX (p : Nat → Bool) (X : List ByteArray) (k d : Nat) : List ByteArray := daX p X k d ++ mixL (cyX (X.length - k) k) (daX p X k d) d
theorem ofD_isM (n k : Nat) (h1 : 1 ≤ k) (h2 : k ≤ n) (h3 : n ≤ 64) : isM (ofD n k) = true ∧ wid (ofD n k) = k := by
  have hl := ofD_len n k h1 h2 h3
  have hs := ofD_size n k h1 h2 h3
  have hw : wid (ofD n k) = k := by
    rw [wid, List.getElem?_eq_getElem (by rw [hl]; omega)]
    exact hs _ (List.getElem_mem _)
  exact ⟨isM_yes _ (by rw [hl]; omega) (by rw [hw]; omega) (fun i x hx => by rw [hw]; exact hs x (List.mem_of_getElem? hx)), hw⟩
theorem used_inv (p : Nat → Bool) (n k : Nat) (h1 : 1 ≤ k) (h2 : k ≤ n) (h3 : n ≤ 64) (hn : k ≤ cnt p n) :
    SqM k (ivX (usd n k (idxU p n k))) ∧ ivE (usd n k (idxU p n k)) = 0 := by
  have hsq := usd_sq n k _ h1 h2 h3 (idx_ris p n k) (idx_len p n k hn)
  have hs := usd_ok n k _ h1 h2 h3 (idx_ris p n k) (idx_len p n k hn)
  refine ⟨(undo _ k hsq h1 (by omega) hs).1, ?_⟩
  obtain ⟨hm, hw⟩ := hsq.isM h1 (by omega)
  unfold ivE
  rw [hm, hw, hsq.1, decide_eq_true rfl, hs]; rfl
theorem reX_prod (p : Nat → Bool) (X : List ByteArray) (n k d : Nat) (hX : X.length = n) (h1 : 1 ≤ k) (h2 : k ≤ n) (h3 : n ≤ 64) (hn : k ≤ cnt p n) :
    mixL (pdX (ofD n k) (ivX (usd n k (idxU p n k)))) ((pkd p X).take k) d = reX p X k d := by
  obtain ⟨hsq, _⟩ := used_inv p n k h1 h2 h3 hn
  obtain ⟨hm, hw⟩ := hsq.isM h1 (by omega)
  obtain ⟨om, ow⟩ := ofD_isM n k h1 h2 h3
  have hS : ((pkd p X).take k).length = k := by rw [List.length_take, pkd_len, hX]; omega
  rw [mix_mix _ _ _ d om hm (by rw [ow, hsq.1]) (by rw [hw, hS]), reX, daX, hX]
  have hu := mix_unit (mixL (ivX (usd n k (idxU p n k))) ((pkd p X).take k) d) k d (by rw [mixL_len, hsq.1]) h1 (by omega) (mixL_size _ _ _)
  rw [ofD]
  unfold mixL at hu ⊢
  rw [List.map_append]
  congr 1
end Go.Proofs.Ytecpcocnoengiaa
/- A list of texts appended to a row of texts of the call's own; such a row as a block. -/
namespace Go.Proofs.Ytecpcocnoengiaa
open Go.RowKit Go.Deep
set_option linter.unusedSimpArgs false
set_option linter.unusedVariables false
theorem one_sv (l : List ByteArray) : ∀ u ∈ sv l, u.oneCell' = true := by
  intro u hu
  obtain ⟨x, _, rfl⟩ := List.mem_map.1 hu
  rfl
theorem gr_refl (w : World) (r : Option Nat) : w.grownBy w r := ⟨rfl, rfl, rfl, Nat.le_refl _, fun _ _ _ => rfl⟩
theorem app_txts (w : World) (B : Nat) (v : Value) (ks xs : List ByteArray) (k n c : Nat) (hk : ks.length = k) (hn : xs.length = n) (hown : w.ownsRow B 9 1 v k (sv ks)) (hB : B ≤ w.heap.size)
    (ad : Option Addr) (ht : TxL w ad xs) (hb : (k + n) * 16 ≤ 140737488355328) (ty : TypeId) :
    ∃ v' w', (Builtin.append_ #[23, 23] ty #[v, .slice ad n c]).run Try.prog w = .ok v' w' ∧ w'.ownsRow B 9 1 v' (k + n) (sv (ks ++ xs)) ∧ w.grownBy w' v.ownBlock := by
  obtain ⟨i0, hi, hz0, hz1, hz2⟩ := info_parts inf_str
  cases xs with
  | nil =>
    obtain rfl : n = 0 := by simpa using hn.symm
    obtain ⟨a, cp, rfl, hle⟩ : ∃ a cp, v = .slice a k cp ∧ k ≤ cp := by
      rcases hown.2 with ⟨rfl, h0⟩ | ⟨g, cap, cur, rfl, _, _, h, _⟩
      · exact ⟨none, 0, by rw [h0], by omega⟩
      · exact ⟨_, _, rfl, h⟩
    have hsrc : Src Try.prog i0.size 23 (.slice ad 0 c) 0 [] w := by
      cases ad with
      | none => exact Src.ofNil w Try.underlying23 c
      | some q => exact Src.ofSlice w Try.underlying23 q 0 c [] (by simp) (fun j u h => by simp at h) (fun _ h => by cases h)
    have h := run_append_nothing (P := Try.prog) w 23 23 ty 9 i0 Try.underlying23 hi a k cp hle (.slice ad 0 c) hsrc
    exact ⟨_, _, h, by rw [List.append_nil]; exact hown, gr_refl _ _⟩
  | cons x0 xs0 =>
    obtain ⟨g, o, rfl, hlt, _⟩ := ht 0 x0 rfl
    have hnews : ∀ j u, (sv (x0 :: xs0))[j]? = some u → w.cell? ((⟨g, o, none⟩ : Addr).add j) = some u := by
      intro j u hj
      rw [sv, List.getElem?_map] at hj
      obtain ⟨x, hx, rfl⟩ := Option.map_eq_some_iff.1 hj
      obtain ⟨g', o', e, _, hc⟩ := ht j x hx
      cases e
      rw [WideShapes.add_plain]
      exact hc
    obtain ⟨v', w', h1, h2, h3, _⟩ := run_append_own (P := Try.prog) (w := w) B 23 ty 9 i0 (.string ⟨#[]⟩) 1 16 Try.underlying23 hi hz0 hz1 hz2 rfl (by decide) v k (sv ks) hown ⟨g, o, none⟩ n c (sv (x0 :: xs0)) (by rw [sv, List.length_map, hn, Nat.mul_one]) hnews (one_sv _) (by unfold maxLen; omega) hb hB
    exact ⟨v', w', h1, by rw [sv_append]; exact h2, h3⟩
theorem wpList_append_txts {ops : Array Oper} {rest : List Oper} {o : Oper} {a : Act} {Q : Exit → Act → World → Prop} (w : World)
    (hg : o.guard = none) (s x : Operand) (hop : o.op = Op.call { callee := Callee.builtin Builtin.append, args := #[s, x], argTypes := #[23, 23] })
    (B : Nat) (v : Value) (ks xs : List ByteArray) (k n c : Nat) (hs : a.eval s = v) (hk : ks.length = k) (hn : xs.length = n) (hown : w.ownsRow B 9 1 v k (sv ks)) (hB : B ≤ w.heap.size)
    (ad : Option Addr) (hx : a.eval x = .slice ad n c) (ht : TxL w ad xs) (hb : (k + n) * 16 ≤ 140737488355328)
    (hK : ∀ v' w', w'.ownsRow B 9 1 v' (k + n) (sv (ks ++ xs)) → w.grownBy w' v.ownBlock → wpList Try.prog ops Q rest (a.put o.dst v') w') :
    wpList Try.prog ops Q (o :: rest) a w := by
  refine wpList_plain hg fun K hK' => ?_
  obtain ⟨v', w', hrun, r1, r2⟩ := app_txts w B v ks xs k n c hk hn hown hB ad ht hb o.type
  unfold Oper.wp
  simp [execOp, hop, resolve, invoke, builtin, hs, hx, hrun, Result.andThen]
  exact hK' _ _ (hK v' w' r1 r2)
/-- A row of texts of the call's own, once one lies in it. -/
theorem own_block_at {w : World} {B k : Nat} {v : Value} {xs : List ByteArray} (h : w.ownsRow B 9 1 v (k + 1) (sv xs)) :
    ∃ g cap cur, v = .slice (some ⟨g, 0, none⟩) (k + 1) cap ∧ B ≤ g ∧ Bk w g cur 9 ∧ k + 1 ≤ cap ∧ cap ≤ maxLen ∧ ∀ (j : Nat) (x : ByteArray), xs[j]? = some x → cur[j]? = some (.string x) := by
  rcases h.2 with ⟨_, h0⟩ | ⟨g, cap, cur, rfl, hle, hgc, h1, h2, h3, h4⟩
  · omega
  · refine ⟨g, cap, cur, rfl, hle, hgc, h1, h2, fun j x hx => ?_⟩
    have hl := h.1
    rw [sv, List.length_map] at hl
    have hj : j < k + 1 := by have := (List.getElem?_eq_some_iff.1 hx).1; omega
    have e := congrArg (·[j]?) h4
    rw [Nat.mul_one] at e
    simp only [List.getElem?_take, if_pos hj, sv, List.getElem?_map, hx, Option.map_some] at e
    rw [← Array.getElem?_toList]; exact e
end Go.Proofs.Ytecpcocnoengiaa
/- Which shards are there, and which are used: the closures, shards.picked. -/
namespace Go.Proofs.Ytecpcocnoengiaa
open Go.RowKit
set_option linter.unusedSimpArgs false
set_option linter.unusedVariables false
/-- Truths as cells. -/
def bs (l : List Bool) : Array Value := (l.map fun x => Value.bool x).toArray
theorem bs_get (l : List Bool) (j : Nat) : (bs l)[j]? = (l[j]?).map fun x => Value.bool x := by simp [bs]
theorem bs_size (l : List Bool) : (bs l).size = l.length := by simp [bs]
theorem bs_set (l : List Bool) (j : Nat) (x : Bool) : (bs l).setIfInBounds j (.bool x) = bs (l.set j x) := by
  simp only [bs, List.setIfInBounds_toArray, List.map_set]
theorem bs_one (l : List Bool) : (bs l).all (·.oneCell') = true := by simp [bs, List.all_eq_true, Value.oneCell']
def nt (l : List Bool) (i : Nat) : Bool := !(l.getD i false)
theorem bs_cell {w : World} {g : Nat} {l : List Bool} {T : TypeId} (h : Bk w g (bs l) T) (hl : l.length = 64) (i : Nat) (hi : i < 64) : w.cell? ⟨g, i, none⟩ = some (.bool (!(nt l i))) := by
  rw [h.cell, bs_get, List.getElem?_eq_getElem (by omega), nt, List.getD, List.getElem?_eq_getElem (by omega)]
  simp
theorem there_any (g i : Nat) (l : List Bool) (T : TypeId) (w : World) (hB : Bk w g (bs l) T) (hl : l.length = 64) (hi : i < 64) :
    Calls Try.prog 20 #[.int .i64 i, .pointer (some ⟨g, 0, none⟩)] w fun e w' => e = .returned (.bool (nt l i)) ∧ w' = w := by
  have hc := bs_cell hB hl i hi
  obtain ⟨b, hb⟩ : ∃ b, nt l i = b := ⟨_, rfl⟩
  rw [hb] at hc ⊢
  clear hB hl hb
  go_enter Try.func20, Try.ntmps20
  go_wp2
  go_ret
  exact ⟨by simp, rfl⟩
theorem used_any (g ge i e : Nat) (l : List Bool) (T : TypeId) (w : World) (hB : Bk w g (bs l) T) (hl : l.length = 64) (hi : i < 64) (he : w.cell? ⟨ge, 0, none⟩ = some (.int .i64 e)) (heb : e ≤ 64) :
    Calls Try.prog 28 #[.int .i64 i, .pointer (some ⟨ge, 0, none⟩), .pointer (some ⟨g, 0, none⟩)] w fun e2 w' => e2 = .returned (.bool (decide (i < e) && nt l i)) ∧ w' = w := by
  have hc := bs_cell hB hl i hi
  obtain ⟨b, hb⟩ : ∃ b, nt l i = b := ⟨_, rfl⟩
  rw [hb] at hc ⊢
  clear hB hl hb
  by_cases h : i < e
  · rw [decide_eq_true h]
    have hz : (i : Int) < (e : Nat) := by omega
    go_enter Try.func28, Try.ntmps28
    go_wp2
    go_ret
    exact ⟨by simp, rfl⟩
  · rw [decide_eq_false h]
    have hz : ¬ (i : Int) < (e : Nat) := by omega
    go_enter Try.func28, Try.ntmps28
    go_wp2
    go_ret
    exact ⟨by simp, rfl⟩
theorem make_cap (n : Nat) (hn : n ≤ 64) (u : World) : (Instr.makeSlice 23 (.int .i64 0) (.int .i64 n)).run Try.prog u =
    .ok (.slice (some ⟨u.heap.size, 0, none⟩) 0 n) (u.alloc (.cells (txc (List.replicate n (mkT []))) 9)) := by
  obtain ⟨i0, hi, hz0, hz1, hz2⟩ := info_parts infoS
  have h := run_make (P := Try.prog) u 23 9 i0 (.string (mkT [])) Try.underlying23 hi hz0 .i64 .i64 (0 : Int) (n : Int) (by omega) (by omega) (by rw [hz2]; omega) (by omega)
  rw [Int.toNat_natCast, hz1, Nat.mul_one] at h
  rw [h, ← made_txt]; rfl
set_option maxHeartbeats 1000000 in
set_option maxRecDepth 100000 in
theorem picked1_any (a : Option Addr) (c n : Nat) (xs : List ByteArray) (p : Nat → Bool) (g1 : Nat) (w : World) (hx : TxL w a xs) (nx : xs.length = n) (hn : n ≤ 64)
    (hf : ∀ W, Below w.heap.size w W → ∀ i : Nat, i < n → Calls Try.prog 20 #[.int .i64 i, .pointer (some ⟨g1, 0, none⟩)] W fun e w' => e = .returned (.bool (p i)) ∧ w' = W) :
    Calls Try.prog 19 #[.slice a n c, .func (.func 20) #[] #[.pointer (some ⟨g1, 0, none⟩)]] w fun e w' => ∃ v, e = .returned v ∧ w'.ownsRow w.heap.size 9 1 v (pkd p xs).length (sv (pkd p xs)) ∧ Below w.heap.size w w' := by
  have HX : Hid (TxL w a xs) := hx
  have NX : Hid (xs.length = n) := nx
  have HF : Hid _ := hf
  have hmk := make_cap n hn
  obtain ⟨i0, hi, hz0, hz1, hz2⟩ := info_parts inf_str
  clear hx nx hf
  have HO0 : Hid ((w.alloc (.cells (txc (List.replicate n (mkT []))) 9)).ownsRow w.heap.size 9 1 (.slice (some ⟨w.heap.size, 0, none⟩) 0 n) 0 []) := World.ownsRow_made (size := 1) w _ n (Nat.le_refl _) (by unfold maxLen; omega) (by rw [txc_size, List.length_replicate, Nat.mul_one])
  go_enter Try.func19, Try.ntmps19
  go_wp2_with fail
  go_loopw [5, 13] (fun v t wr => ∃ i m : Nat, i ≤ n ∧ t = .int .i64 i ∧ m ≤ 64 ∧ Hid ((pkK p xs i).length = m) ∧ Hid (wr.ownsRow w.heap.size 9 1 v m (sv (pkK p xs i))) ∧ Hid (Below w.heap.size w wr)) (fun _ t _ => n - (intOf t).toNat)
  case atStart => exact ⟨0, 0, by omega, rfl, by omega, rfl, HO0.out, (Below.refl _ _).alloc (Nat.le_refl _) _⟩
  case round =>
    clear HO0
    obtain ⟨i, m, hin, rfl, hm, HL, HO, HB⟩ := hrel
    have hzr : w.heap.size ≤ wr.heap.size := HB.out.size
    by_cases hlt : i < n
    · have hiz : (i : Int) < (n : Nat) := by omega
      obtain ⟨x, hx⟩ : ∃ x, xs[i]? = some x := ⟨_, List.getElem?_eq_getElem (by rw [NX.out]; exact hlt)⟩
      have HXI : Hid (xs[i]? = some x) := hx
      obtain ⟨ga, oa, rfl, hga, hc⟩ := (HX.out.below HB.out) i x hx
      clear hx
      go_wp2_with fail
      refine Calls.mono (HF.out wr HB.out i hlt) ?_
      rintro e w1 ⟨rfl, hw⟩
      subst hw
      have hcl := pkK_len p xs i
      have hcn := pkK_len p xs (i + 1)
      have hcb := cnt_le p (i + 1)
      rw [HL.out] at hcl
      cases hp : p i with
      | true =>
        have HN : Hid (sv (pkK p xs (i + 1)) = sv (pkK p xs i) ++ [.string x]) := by show _ = _; rw [pkK_yes p xs i x HXI.out hp, sv_append]; rfl
        have HLn : Hid ((pkK p xs (i + 1)).length = m + 1) := by show _ = m + 1; rw [pkK_yes p xs i x HXI.out hp, List.length_append, HL.out]; rfl
        have hm1 : m + 1 ≤ 64 := by have := HLn.out; omega
        clear hcl hcn hcb hp
        go_wp2_with (at_builtin; refine wpList_append_own _ rfl _ _ 23 rfl w.heap.size 9 i0 (.string ⟨#[]⟩) 1 16 Try.underlying23 hi hz0 hz1 hz2 rfl (by decide) _ _ _ rfl (HO.out.alloc _) ⟨w1.heap.size, 0, none⟩ 1 1 [.string x] rfl rfl (news_one _ _ _) (one_str _) (by unfold maxLen; omega) (by omega) (by simp; omega) ?_)
        intro v' w7 hown1 hgrow _
        have HO7 : Hid (w7.ownsRow w.heap.size 9 1 v' (m + 1) (sv (pkK p xs (i + 1)))) := by
          show World.ownsRow _ _ _ _ _ _ _
          rw [HN.out]; exact hown1
        have HB7 : Hid (Below w.heap.size w w7) := apn_bel HB.out hzr HO.out hgrow
        clear hown1 hgrow HO HB
        go_wp2
        go_roundw
        case rel => exact ⟨i + 1, m + 1, by omega, by go_num, hm1, HLn.out, HO7.out, HB7.out⟩
        case measure => simp [intOf]; omega
      | false =>
        have HN : Hid (pkK p xs (i + 1) = pkK p xs i) := pkK_no p xs i hp
        have HO7 : Hid (w1.ownsRow w.heap.size 9 1 u5 m (sv (pkK p xs (i + 1)))) := by
          show World.ownsRow _ _ _ _ _ _ _
          rw [HN.out]; exact HO.out
        have HLn : Hid ((pkK p xs (i + 1)).length = m) := by show _ = m; rw [HN.out, HL.out]
        clear hcl hcn hcb hp
        go_wp2
        go_roundw
        case rel => exact ⟨i + 1, m, by omega, by go_num, hm, HLn.out, HO7.out, HB.out⟩
        case measure => simp [intOf]; omega
    · have hiz : ¬ (i : Int) < (n : Nat) := by omega
      have hin2 : i = n := by omega
      have HOn : Hid (wr.ownsRow w.heap.size 9 1 u5 (pkd p xs).length (sv (pkd p xs))) := by
        have h := HO.out
        rw [← HL.out, hin2, ← NX.out, pkK_all] at h
        exact h
      clear hin2
      go_wp2
      go_ret
      exact ⟨_, rfl, HOn.out, HB.out⟩
set_option maxHeartbeats 1000000 in
set_option maxRecDepth 100000 in
theorem picked2_any (a : Option Addr) (c n : Nat) (xs : List ByteArray) (p : Nat → Bool) (g1 g2 : Nat) (w : World) (hx : TxL w a xs) (nx : xs.length = n) (hn : n ≤ 64)
    (hf : ∀ W, Below w.heap.size w W → ∀ i : Nat, i < n → Calls Try.prog 28 #[.int .i64 i, .pointer (some ⟨g1, 0, none⟩), .pointer (some ⟨g2, 0, none⟩)] W fun e w' => e = .returned (.bool (p i)) ∧ w' = W) :
    Calls Try.prog 19 #[.slice a n c, .func (.func 28) #[] #[.pointer (some ⟨g1, 0, none⟩), .pointer (some ⟨g2, 0, none⟩)]] w fun e w' => ∃ v, e = .returned v ∧ w'.ownsRow w.heap.size 9 1 v (pkd p xs).length (sv (pkd p xs)) ∧ Below w.heap.size w w' := by
  have HX : Hid (TxL w a xs) := hx
  have NX : Hid (xs.length = n) := nx
  have HF : Hid _ := hf
  have hmk := make_cap n hn
  obtain ⟨i0, hi, hz0, hz1, hz2⟩ := info_parts inf_str
  clear hx nx hf
  have HO0 : Hid ((w.alloc (.cells (txc (List.replicate n (mkT []))) 9)).ownsRow w.heap.size 9 1 (.slice (some ⟨w.heap.size, 0, none⟩) 0 n) 0 []) := World.ownsRow_made (size := 1) w _ n (Nat.le_refl _) (by unfold maxLen; omega) (by rw [txc_size, List.length_replicate, Nat.mul_one])
  go_enter Try.func19, Try.ntmps19
  go_wp2_with fail
  go_loopw [5, 13] (fun v t wr => ∃ i m : Nat, i ≤ n ∧ t = .int .i64 i ∧ m ≤ 64 ∧ Hid ((pkK p xs i).length = m) ∧ Hid (wr.ownsRow w.heap.size 9 1 v m (sv (pkK p xs i))) ∧ Hid (Below w.heap.size w wr)) (fun _ t _ => n - (intOf t).toNat)
  case atStart => exact ⟨0, 0, by omega, rfl, by omega, rfl, HO0.out, (Below.refl _ _).alloc (Nat.le_refl _) _⟩
  case round =>
    clear HO0
    obtain ⟨i, m, hin, rfl, hm, HL, HO, HB⟩ := hrel
    have hzr : w.heap.size ≤ wr.heap.size := HB.out.size
    by_cases hlt : i < n
    · have hiz : (i : Int) < (n : Nat) := by omega
      obtain ⟨x, hx⟩ : ∃ x, xs[i]? = some x := ⟨_, List.getElem?_eq_getElem (by rw [NX.out]; exact hlt)⟩
      have HXI : Hid (xs[i]? = some x) := hx
      obtain ⟨ga, oa, rfl, hga, hc⟩ := (HX.out.below HB.out) i x hx
      clear hx
      go_wp2_with fail
      refine Calls.mono (HF.out wr HB.out i hlt) ?_
      rintro e w1 ⟨rfl, hw⟩
      subst hw
      have hcl := pkK_len p xs i
      have hcn := pkK_len p xs (i + 1)
      have hcb := cnt_le p (i + 1)
      rw [HL.out] at hcl
      cases hp : p i with
      | true =>
        have HN : Hid (sv (pkK p xs (i + 1)) = sv (pkK p xs i) ++ [.string x]) := by show _ = _; rw [pkK_yes p xs i x HXI.out hp, sv_append]; rfl
        have HLn : Hid ((pkK p xs (i + 1)).length = m + 1) := by show _ = m + 1; rw [pkK_yes p xs i x HXI.out hp, List.length_append, HL.out]; rfl
        have hm1 : m + 1 ≤ 64 := by have := HLn.out; omega
        clear hcl hcn hcb hp
        go_wp2_with (at_builtin; refine wpList_append_own _ rfl _ _ 23 rfl w.heap.size 9 i0 (.string ⟨#[]⟩) 1 16 Try.underlying23 hi hz0 hz1 hz2 rfl (by decide) _ _ _ rfl (HO.out.alloc _) ⟨w1.heap.size, 0, none⟩ 1 1 [.string x] rfl rfl (news_one _ _ _) (one_str _) (by unfold maxLen; omega) (by omega) (by simp; omega) ?_)
        intro v' w7 hown1 hgrow _
        have HO7 : Hid (w7.ownsRow w.heap.size 9 1 v' (m + 1) (sv (pkK p xs (i + 1)))) := by
          show World.ownsRow _ _ _ _ _ _ _
          rw [HN.out]; exact hown1
        have HB7 : Hid (Below w.heap.size w w7) := apn_bel HB.out hzr HO.out hgrow
        clear hown1 hgrow HO HB
        go_wp2
        go_roundw
        case rel => exact ⟨i + 1, m + 1, by omega, by go_num, hm1, HLn.out, HO7.out, HB7.out⟩
        case measure => simp [intOf]; omega
      | false =>
        have HN : Hid (pkK p xs (i + 1) = pkK p xs i) := pkK_no p xs i hp
        have HO7 : Hid (w1.ownsRow w.heap.size 9 1 u5 m (sv (pkK p xs (i + 1)))) := by
          show World.ownsRow _ _ _ _ _ _ _
          rw [HN.out]; exact HO.out
        have HLn : Hid ((pkK p xs (i + 1)).length = m) := by show _ = m; rw [HN.out, HL.out]
        clear hcl hcn hcb hp
        go_wp2
        go_roundw
        case rel => exact ⟨i + 1, m, by omega, by go_num, hm, HLn.out, HO7.out, HB.out⟩
        case measure => simp [intOf]; omega
    · have hiz : ¬ (i : Int) < (n : Nat) := by omega
      have hin2 : i = n := by omega
      have HOn : Hid (wr.ownsRow w.heap.size 9 1 u5 (pkd p xs).length (sv (pkd p xs))) := by
        have h := HO.out
        rw [← HL.out, hin2, ← NX.out, pkK_all] at h
        exact h
      clear hin2
      go_wp2
      go_ret
      exact ⟨_, rfl, HOn.out, HB.out⟩
end Go.Proofs.Ytecpcocnoengiaa
/- shards.firstOf: the first k that are not missing. -/
namespace Go.Proofs.Ytecpcocnoengiaa
open Go.RowKit
set_option linter.unusedSimpArgs false
set_option linter.unusedVariables false
structure Fo (w : World) (l : List Bool) (e : Nat) (wr : World) : Prop where
  t : Bk wr w.heap.size (bs l) 45
  c : Bk wr (w.heap.size + 1) #[.int .i64 (e : Int)] 3
  b : Below w.heap.size w wr
theorem Fo.step {w wr : World} {l : List Bool} {e : Nat} (h : Fo w l e wr) : Fo w l (e + 1) (wr.setCell ⟨w.heap.size + 1, 0, none⟩ (.int .i64 ((e : Int) + 1))) := by
  refine ⟨h.t.grown (Lib.grownBy_setB (World.grownBy.refl _ _) 0 _) (by simp), ?_, below_own h.b h.b.size (Lib.grownBy_setB (World.grownBy.refl _ _) _ _) (by omega)⟩
  have := h.c.set 0 (.int .i64 ((e : Int) + 1))
  exact this
set_option maxHeartbeats 1000000 in
set_option maxRecDepth 100000 in
theorem firstOf_any (l : List Bool) (k : Nat) (w : World) (hl : l.length = 64) (hk : k ≤ 64) :
    Calls Try.prog 22 #[.agg (bs l), .int .i64 k] w fun e2 w' => ∃ e : Nat, e2 = .returned (.func (.func 28) #[] #[.pointer (some ⟨w.heap.size + 1, 0, none⟩), .pointer (some ⟨w.heap.size, 0, none⟩)]) ∧ Fo w l e w' ∧ e ≤ 64 ∧ (k ≤ cnt (nt l) 64 → cnt (nt l) e = k) := by
  have HL : Hid (l.length = 64) := hl
  clear hl
  have HF0 : Hid (Fo w l 0 ((w.alloc (.cells (bs l) 45)).alloc (.cells #[.int .i64 0] 3))) := by
    refine ⟨(bk_new w _ _).alloc _, ?_, ((Below.refl _ _).alloc (Nat.le_refl _) _).alloc (by simp) _⟩
    have := bk_new (w.alloc (.cells (bs l) 45)) #[.int .i64 0] 3
    rw [al_size] at this
    exact this
  go_enter Try.func22, Try.ntmps22
  go_wp2_with fail
  go_loopw [6] (fun t wr => ∃ e m : Nat, e ≤ 64 ∧ m ≤ 64 ∧ t = .int .i64 m ∧ Hid (cnt (nt l) e + m = k) ∧ Hid (Fo w l e wr)) (fun t wr => (intOf t).toNat + (64 - (match wr.cell? ⟨w.heap.size + 1, 0, none⟩ with | some v => (intOf v).toNat | none => 0)))
  case atStart => exact ⟨0, k, by omega, hk, rfl, by show cnt (nt l) 0 + k = k; simp [cnt], HF0.out⟩
  case round =>
    clear HF0
    obtain ⟨e, m, he, hm, rfl, HC, HF⟩ := hrel
    have hce : wr.cell? ⟨w.heap.size + 1, 0, none⟩ = some (.int .i64 (e : Int)) := by rw [HF.out.c.cell]; rfl
    have hfe := HF.out.c.frozen 0
    by_cases hm0 : 0 < m
    · have hmz : (m : Int) > 0 := by omega
      by_cases he6 : e < 64
      · have hez : (e : Int) < 64 := by omega
        have hct := bs_cell HF.out.t HL.out e he6
        have hcn := cnt_next (nt l) e
        have hce2 : (wr.setCell ⟨w.heap.size + 1, 0, none⟩ (.int .i64 ((e : Int) + 1))).cell? ⟨w.heap.size + 1, 0, none⟩ = some (.int .i64 ((e : Int) + 1)) := by rw [HF.out.step.c.cell]; rfl
        have HFn : Hid _ := HF.out.step
        cases hb : nt l e with
        | true =>
          rw [hb] at hct hcn
          have HCn : Hid (cnt (nt l) (e + 1) + (m - 1) = k) := by
            have := HC.out
            show _ = k
            rw [hcn]
            simp
            omega
          have hm1z : (m : Int) - 1 = ((m - 1 : Nat) : Int) := by omega
          clear hb hcn HF HC
          go_wp2
          go_roundw
          case rel => exact ⟨e + 1, m - 1, by omega, by omega, rfl, HCn.out, HFn.out⟩
          case measure => rw [hce, hce2]; simp [intOf]; omega
        | false =>
          rw [hb] at hct hcn
          have HCn : Hid (cnt (nt l) (e + 1) + m = k) := by
            have := HC.out
            show _ = k
            rw [hcn]
            simp
            omega
          clear hb hcn HF HC
          go_wp2
          go_roundw
          case rel => exact ⟨e + 1, m, by omega, by omega, rfl, HCn.out, HFn.out⟩
          case measure => rw [hce, hce2]; simp [intOf]; omega
      · have hez : ¬ (e : Int) < 64 := by omega
        have HE : Hid (k ≤ cnt (nt l) 64 → cnt (nt l) e = k) := fun h => by
          have := HC.out
          rw [show e = 64 by omega] at this ⊢
          omega
        go_wp2
        go_ret
        exact ⟨rfl, e, HF.out, he, HE.out⟩
    · have hmz : ¬ (m : Int) > 0 := by omega
      have HE : Hid (k ≤ cnt (nt l) 64 → cnt (nt l) e = k) := fun h => by
        have := HC.out
        omega
      go_wp2
      go_ret
      exact ⟨rfl, e, HF.out, he, HE.out⟩
end Go.Proofs.Ytecpcocnoengiaa
/- field.Product, where it refuses. -/
namespace Go.Proofs.Ytecpcocnoengiaa
open Go.RowKit
set_option linter.unusedSimpArgs false
set_option linter.unusedVariables false
set_option maxHeartbeats 1000000 in
set_option maxRecDepth 100000 in
theorem product_no (a b : Option Addr) (ca cb : Nat) (xs ys : List ByteArray) (w : World) (hx : TxL w a xs) (hy : TxL w b ys) (nx : xs.length ≤ 4611686018427387904) (sx : ∀ x ∈ xs, x.size ≤ 4611686018427387904) (ny : ys.length ≤ 4611686018427387904) (sy : ∀ x ∈ ys, x.size ≤ 4611686018427387904)
    (h : ¬ (isM xs = true ∧ isM ys = true ∧ wid xs = ys.length)) :
    Calls Try.prog 27 #[.slice a xs.length ca, .slice b ys.length cb] w fun e w' => e = .returned (.tuple #[.slice none 0 0, .int .i64 1]) ∧ Below w.heap.size w w' := by
  have hcx := check_any a ca xs w hx nx sx
  have hcy := fun W hW => check_any b cb ys W hW ny sy
  by_cases mx : isM xs = true
  · obtain ⟨k1, k2, k3⟩ := ck_yes xs mx
    rw [k1, k2, k3] at hcx
    by_cases my : isM ys = true
    · obtain ⟨l1, l2, l3⟩ := ck_yes ys my
      rw [l1, l2, l3] at hcy
      have hne : ((wid xs : Int) == (ys.length : Int)) = false := by
        rw [beq_eq_false_iff_ne]
        intro e
        exact h ⟨mx, my, by omega⟩
      have hnn : ((wid xs : Int) != (ys.length : Int)) = true := by rw [bne, hne]; rfl
      have HY : Hid (TxL w b ys) := hy
      have C1 : Hid _ := hcx
      have C2 : Hid _ := hcy
      clear hcx hcy hx hy h sx sy k1 k2 k3 l1 l2 l3
      generalize wid xs = wx at *
      generalize wid ys = wy at *
      go_enter Try.func27, Try.ntmps27
      go_wp2_with fail
      refine Calls.mono C1.out ?_
      rintro e w1 ⟨rfl, q1, hw1⟩
      subst hw1
      go_wp2_with fail
      refine Calls.mono (C2.out _ (HY.out.drewN q1)) ?_
      rintro e w1 ⟨rfl, q2, hw1⟩
      have HB1 : Hid (Below w.heap.size w w1) := by show Below _ _ _; rw [hw1]; exact below_drewN (below_drewN (Below.refl _ _) _) _
      clear hw1
      go_wp2
      go_ret2
      exact ⟨rfl, HB1.out⟩
    · obtain ⟨l1, l2, l3⟩ := ck_no ys (by simpa using my)
      rw [l1, l2, l3] at hcy
      have HY : Hid (TxL w b ys) := hy
      have C1 : Hid _ := hcx
      have C2 : Hid _ := hcy
      clear hcx hcy hx hy h sx sy k1 k2 k3 l1 l2 l3
      generalize wid xs = wx at *
      go_enter Try.func27, Try.ntmps27
      go_wp2_with fail
      refine Calls.mono C1.out ?_
      rintro e w1 ⟨rfl, q1, hw1⟩
      subst hw1
      go_wp2_with fail
      refine Calls.mono (C2.out _ (HY.out.drewN q1)) ?_
      rintro e w1 ⟨rfl, q2, hw1⟩
      have HB1 : Hid (Below w.heap.size w w1) := by show Below _ _ _; rw [hw1]; exact below_drewN (below_drewN (Below.refl _ _) _) _
      clear hw1
      go_wp2
      go_ret2
      exact ⟨rfl, HB1.out⟩
  · obtain ⟨k1, k2, k3⟩ := ck_no xs (by simpa using mx)
    rw [k1, k2, k3] at hcx
    have C1 : Hid _ := hcx
    clear hcx hcy hx hy h sx sy k1 k2 k3
    go_enter Try.func27, Try.ntmps27
    go_wp2_with fail
    refine Calls.mono C1.out ?_
    rintro e w1 ⟨rfl, q1, hw1⟩
    have HB1 : Hid (Below w.heap.size w w1) := by show Below _ _ _; rw [hw1]; exact below_drewN (Below.refl _ _) _
    clear hw1
    go_wp2
    go_ret2
    exact ⟨rfl, HB1.out⟩
end Go.Proofs.Ytecpcocnoengiaa
/- field.Product at all. -/
namespace Go.Proofs.Ytecpcocnoengiaa
open Go.RowKit
set_option linter.unusedSimpArgs false
set_option linter.unusedVariables false
def pdE (xs ys : List ByteArray) : Nat := if isM xs = true ∧ isM ys = true ∧ wid xs = ys.length then 0 else 1
theorem pdX_len (xs ys : List ByteArray) : (pdX xs ys).length ≤ 64 := by
  unfold pdX
  split
  · rename_i h
    rw [txtL_len, prodL_len, arrL, List.length_map]
    exact (isM_small xs h.1).1
  · simp
theorem fp_any (a b : Option Addr) (ca cb : Nat) (xs ys : List ByteArray) (w : World) (hx : TxL w a xs) (hy : TxL w b ys) (nx : xs.length ≤ 4611686018427387904) (sx : ∀ x ∈ xs, x.size ≤ 4611686018427387904) (ny : ys.length ≤ 4611686018427387904) (sy : ∀ x ∈ ys, x.size ≤ 4611686018427387904) :
    Calls Try.prog 27 #[.slice a xs.length ca, .slice b ys.length cb] w fun e w' => ∃ ao, e = .returned (.tuple #[.slice ao (pdX xs ys).length (pdX xs ys).length, .int .i64 (pdE xs ys)]) ∧ Mad w ao (pdX xs ys) w' ∧ Below w.heap.size w w' := by
  by_cases h : isM xs = true ∧ isM ys = true ∧ wid xs = ys.length
  · have e1 : pdX xs ys = txtL (wid ys) (prodL (arrL xs) (arrL ys)) := if_pos h
    have e2 : pdE xs ys = 0 := if_pos h
    have e3 : (txtL (wid ys) (prodL (arrL xs) (arrL ys))).length = xs.length := by rw [txtL_len, prodL_len, arrL, List.length_map]
    rw [e1, e2, e3]
    refine (product_yes a b ca cb xs ys w hx hy h.1 h.2.1 h.2.2).mono ?_
    rintro e w' ⟨g, rfl, hg, hB, hb⟩
    exact ⟨_, rfl, .inr ⟨g, rfl, hg, hB⟩, hb⟩
  · have e1 : pdX xs ys = [] := if_neg h
    have e2 : pdE xs ys = 1 := if_neg h
    rw [e1, e2]
    refine (product_no a b ca cb xs ys w hx hy nx sx ny sy h).mono ?_
    rintro e w' ⟨rfl, hb⟩
    exact ⟨none, rfl, .inl ⟨rfl, rfl⟩, hb⟩
end Go.Proofs.Ytecpcocnoengiaa
/- shards.rebuildRows. -/
namespace Go.Proofs.Ytecpcocnoengiaa
open Go.RowKit
set_option linter.unusedSimpArgs false
set_option linter.unusedVariables false
theorem Fo.kept {w wr w' : World} {l : List Bool} {e : Nat} (h : Fo w l e wr) (hb : Below wr.heap.size wr w') : Fo w l e w' :=
  ⟨h.t.grown (gr_of_below hb none) (by simp), h.c.grown (gr_of_below hb none) (by simp), h.b.trans (hb.mono h.b.size)⟩
/-- A list that was made, as a row of the call's own. -/
theorem Mad.own {w w' : World} {ao : Option Addr} {xs : List ByteArray} (h : Mad w ao xs w') (hl : xs.length ≤ 64) : w'.ownsRow w.heap.size 9 1 (.slice ao xs.length xs.length) xs.length (sv xs) := by
  refine ⟨by simp [sv], ?_⟩
  rcases h with ⟨rfl, h0⟩ | ⟨g, rfl, hg, hB⟩
  · exact .inl ⟨by rw [h0], h0⟩
  · exact .inr ⟨g, _, _, rfl, hg, hB, Nat.le_refl _, by unfold maxLen; omega, by rw [txc_size, Nat.mul_one], by
      rw [Nat.mul_one]
      show (txc xs).toList.take _ = _
      simp only [txc, sv]
      rw [List.take_of_length_le (by simp)]⟩
set_option maxHeartbeats 2000000 in
set_option maxRecDepth 100000 in
theorem rebuildRows_any (n k e : Nat) (l : List Bool) (w0 w : World) (h1 : 1 ≤ k) (h2 : k ≤ n) (h3 : n ≤ 64) (hl : l.length = 64) (hF : Fo w0 l e w) (he : e ≤ 64) (hc : cnt (nt l) e = k) (hn : k ≤ cnt (nt l) n) :
    Calls Try.prog 21 #[.int .i64 n, .int .i64 k, .func (.func 28) #[] #[.pointer (some ⟨w0.heap.size + 1, 0, none⟩), .pointer (some ⟨w0.heap.size, 0, none⟩)]] w fun e2 w' =>
      ∃ ao, e2 = .returned (.slice ao n n) ∧ Mad w ao (pdX (ofD n k) (ivX (usd n k (idxU (nt l) n k)))) w' ∧ Below w.heap.size w w' := by
  have HF : Hid (Fo w0 l e w) := hF
  have HL : Hid (l.length = 64) := hl
  have c1 := fun W => fu_any (k : Int) W
  have e1 : unX (k : Int) = txtL k (unL k) := by unfold unX; rw [if_pos (by omega), Int.toNat_natCast]
  have e2 : unE (k : Int) = 0 := by unfold unE; rw [if_pos (by omega)]
  have e3 : (txtL k (unL k)).length = k := by rw [txtL_len, unL_len]
  rw [e1, e2, e3] at c1
  have c2 := fun W => parity_any (n - k) k W (by omega) h1 (by omega)
  obtain ⟨U, hU⟩ : ∃ U, usd n k (idxU (nt l) n k) = U := ⟨_, rfl⟩
  have hpk := pkd_used (nt l) e n k h1 h2 h3 hc hn
  rw [hU] at hpk
  obtain ⟨hsq, hE⟩ := used_inv (nt l) n k h1 h2 h3 hn
  have hUsq := usd_sq n k (idxU (nt l) n k) h1 h2 h3 (idx_ris (nt l) n k) (idx_len (nt l) n k hn)
  rw [hU] at hsq hE hUsq ⊢
  obtain ⟨om, ow⟩ := ofD_isM n k h1 h2 h3
  obtain ⟨vm, vw⟩ := hsq.isM h1 (by omega)
  have c4 := fun a c W hW => invert_any a c U W hW (by rw [hUsq.1]; omega) (fun x hx => by rw [hUsq.2 x hx]; omega)
  rw [hE, hUsq.1] at c4
  obtain ⟨V, hV⟩ : ∃ V, ivX U = V := ⟨_, rfl⟩
  rw [hV] at c4 hsq vm vw ⊢
  rw [hsq.1] at c4
  have ol := ofD_len n k h1 h2 h3
  have c5 := fun a b ca cb W hW hY => fp_any a b ca cb (ofD n k) V W hW hY (by rw [ol]; omega) (fun x hx => by rw [ofD_size n k h1 h2 h3 x hx]; omega) (by rw [hsq.1]; omega) (fun x hx => by rw [hsq.2 x hx]; omega)
  have e5 : (pdX (ofD n k) V).length = n := by
    unfold pdX
    rw [if_pos ⟨om, vm, by rw [ow, hsq.1]⟩, txtL_len, prodL_len, arrL, List.length_map, ol]
  have e6 : pdE (ofD n k) V = 0 := by unfold pdE; rw [if_pos ⟨om, vm, by rw [ow, hsq.1]⟩]
  rw [ol, hsq.1, e5, e6] at c5
  have hnk : (n : Int) - (k : Int) = ((n - k : Nat) : Int) := by omega
  have hof : txtL k (unL k) ++ cyX (n - k) k = ofD n k := rfl
  have HOF : Hid (txtL k (unL k) ++ cyX (n - k) k = ofD n k) := hof
  have C1 : Hid _ := c1
  have C2 : Hid _ := c2
  have C4 : Hid _ := c4
  have C5 : Hid _ := c5
  have HPK : Hid (pkd (fun i => decide (i < e) && nt l i) (ofD n k) = U) := hpk
  have NU : Hid (U.length = k) := hUsq.1
  have NV : Hid (V.length = k) := hsq.1
  have NO : Hid ((ofD n k).length = n) := ol
  have N3 : Hid ((txtL k (unL k)).length = k) := e3
  have NC : Hid ((cyX (n - k) k).length = n - k) := cyX_len (n - k) k (by omega) h1 (by omega)
  clear c1 c2 c4 c5 hpk hUsq hsq ol e1 e2 e3 e5 e6 hE hU hV om ow vm vw hof hF hl
  obtain ⟨m, hm⟩ : ∃ m, n - k = m := ⟨_, rfl⟩
  rw [hm] at hnk C2 NC HOF
  have hmk : k + m = n := by omega
  clear hm
  go_enter Try.func21, Try.ntmps21
  go_wp2_with fail
  refine Calls.mono (C1.out _) ?_
  rintro e w1 ⟨au, rfl, hM, hb1⟩
  have MU1 : Hid (Mad w au (txtL k (unL k)) w1) := hM
  have B1 : Hid (Below w.heap.size w w1) := hb1
  clear hM hb1
  go_wp2_with fail
  refine Calls.mono (C2.out _) ?_
  rintro e w2 ⟨ac, rfl, hM, hb2⟩
  have MC2 : Hid (TxL w2 ac (cyX m k)) := hM.txl
  have B2 : Hid (Below w.heap.size w w2) := B1.out.trans (hb2.mono B1.out.size)
  have HO2 : Hid (w2.ownsRow w.heap.size 9 1 (.slice au k k) k (sv (txtL k (unL k)))) := by
    have h := (MU1.out.below hb2).own (by rw [N3.out]; omega)
    rw [N3.out] at h
    exact h
  have hz2 : w.heap.size ≤ w2.heap.size := B2.out.size
  clear hM hb2 MU1 B1
  go_wp2_with (at_builtin; refine wpList_append_txts _ rfl _ _ rfl w.heap.size _ (txtL k (unL k)) (cyX m k) k m m rfl N3.out NC.out HO2.out hz2 ac rfl MC2.out (by omega) ?_)
  intro v3 w3 ho3 hg3
  rw [HOF.out] at ho3
  obtain ⟨ao3, co3, hv3, ht3, _⟩ := own_txl (xs := ofD n k) (by rw [NO.out]; exact ho3)
  rw [NO.out] at hv3
  subst hv3
  have TO3 : Hid (TxL w3 ao3 (ofD n k)) := ht3
  have B3 : Hid (Below w.heap.size w w3) := B2.out.grown hg3 hz2 (fun g hg => (HO2.out.lt g hg).1)
  clear ho3 hg3 ht3 HO2 MC2 B2
  have hpc := picked2_any ao3 co3 n (ofD n k) (fun i => decide (i < e) && nt l i) (w0.heap.size + 1) w0.heap.size w3 TO3.out NO.out h3 (fun W hW i hi => by
    have hF3 := (HF.out.kept B3.out).kept hW
    exact used_any w0.heap.size (w0.heap.size + 1) i e l 45 W hF3.t HL.out (by omega) (by rw [hF3.c.cell]; rfl) he)
  rw [HPK.out] at hpc
  have HPC : Hid _ := hpc
  clear hpc
  go_wp2_with fail
  refine Calls.mono HPC.out ?_
  rintro e w4 ⟨v4, rfl, ho4, hb4⟩
  obtain ⟨ap, cp, rfl, ht4, _⟩ := own_txl ho4
  rw [NU.out]
  have TU4 : Hid (TxL w4 ap U) := ht4
  have B4 : Hid (Below w.heap.size w w4) := B3.out.trans (hb4.mono B3.out.size)
  have TO4 : Hid (TxL w4 ao3 (ofD n k)) := TO3.out.below hb4
  clear ho4 ht4 hb4 HPC TO3 B3
  go_wp2_with fail
  refine Calls.mono (C4.out _ _ _ TU4.out) ?_
  rintro e w5 ⟨av, rfl, hM, hb5⟩
  have TV5 : Hid (TxL w5 av V) := hM.txl
  have B5 : Hid (Below w.heap.size w w5) := B4.out.trans (hb5.mono B4.out.size)
  have TO5 : Hid (TxL w5 ao3 (ofD n k)) := TO4.out.below hb5
  clear hM hb5 TO4 B4
  go_wp2_with fail
  refine Calls.mono (C5.out _ _ _ _ _ TO5.out TV5.out) ?_
  rintro e w6 ⟨aq, rfl, hM, hb6⟩
  have MQ : Hid (Mad w aq (pdX (ofD n k) V) w6) := by
    rcases hM with h | ⟨g, h1, h2, h3⟩
    · exact .inl h
    · exact .inr ⟨g, h1, Nat.le_trans B5.out.size h2, h3⟩
  have B6 : Hid (Below w.heap.size w w6) := B5.out.trans (hb6.mono B5.out.size)
  clear hM hb6
  go_wp2
  go_ret
  exact ⟨aq, rfl, MQ.out, B6.out⟩
end Go.Proofs.Ytecpcocnoengiaa
