/- munimentlaw11.PackSpans: records stand in a pack one behind the other from the Mark on, and a pack of more objects begins with the records of a pack of the first ones: for every two lists of objects of a bulk of at most 1048576 together the law returns true, and its arguments read afterwards as they read before; the two listed tables of the program start as the program's text lays them. -/
import Derived.Test.YtkmbhenneadclaaDoorY5
import Derived.Test.YtkmbhenneadclaaDoorY14
import Derived.ProofKit
import Derived.SizedLaws
import Derived.OpenShut
namespace Go.Proofs.YtkmbhenneadclaaDoor
open Go.ChangeShapes Go.WideShapes Go.ChangeAt Go.RowKit
open Go.ChangeMaps (open_string shut_string)
set_option linter.unusedSimpArgs false
set_option linter.unusedVariables false
theorem blk_len11 {H : Type} (hpos : ∀ d : DataW H, 1 ≤ Rows.uptoBulk d) : ∀ (l : List (DataW H)), l.length ≤ Rows.uptoBulkAll l
  | [] => by simp
  | x :: l => by
    rw [Rows.uptoBulkAll, List.length_cons]
    have := blk_len11 hpos l
    have := hpos x
    omega
theorem blk_pos11 {H : Type} (d : DataW H) : 1 ≤ Rows.uptoBulk d := by
  cases d with
  | lit l => cases l <;> simp [Rows.uptoBulk]
  | nil => simp [Rows.uptoBulk]
  | ptr d => simp [Rows.uptoBulk]
  | slice e s => simp [Rows.uptoBulk]
  | agg p => simp [Rows.uptoBulk]
  | iface t d => simp [Rows.uptoBulk]
  | map e => simp [Rows.uptoBulk]
  | held h => simp [Rows.uptoBulk]
/-- A slice has no more elements than its bulk. -/
theorem bulk_len {H : Type} {enc : TypeId × Value → H} {w : World} {d : DataW H} {ps : List MemPlace} {a0 : Option Addr} {len cap : Nat} (h : DataW.Trod enc Tryd.prog w 0 (fun _ => true) true 22 (.slice a0 len cap) d ps) : len ≤ Rows.uptoBulk d := by
  obtain ⟨fuel, hf⟩ := h
  have hcs : (Value.slice a0 len cap).cells.toList = [.slice a0 len cap] := by simp [Value.cells]
  rw [hcs] at hf
  rcases Go.Deep.open_slice Tryd.underlying22 hf with ⟨h1, _⟩ | ⟨a, l, c, m, n, D, Pl, h1, _, hl, hm, hmm, hx, hi⟩
  · simp only [List.cons.injEq, Value.slice.injEq, and_true] at h1
    obtain ⟨rfl, rfl, rfl⟩ := h1
    exact Nat.zero_le _
  · simp only [List.cons.injEq, Value.slice.injEq, and_true] at h1
    obtain ⟨rfl, rfl, rfl⟩ := h1
    simp only [Prod.mk.injEq] at hx
    rw [hx.1, Rows.uptoBulk]
    have hlen := blk_len11 blk_pos11 ((List.range len).map D)
    rw [List.length_map, List.length_range] at hlen
    omega
theorem laid_two {W : World} (h : laidMet Tryd.prog [("muniment/digest.firstNumbers", Lib.tabData .u32 tab8), ("muniment/digest.constants", Lib.tabData .u32 tab64)] W) : Lst W := by
  obtain ⟨ps, h, _⟩ := h
  obtain ⟨h2, qs2, h⟩ := laid_next gH tH Tryd.underlying96 Tryd.underlying65 c32' cH h
  obtain ⟨h3, qs3, h⟩ := laid_next gK tK Tryd.underlying98 Tryd.underlying65 c32' cK h
  refine ⟨?_, ?_⟩
  · intro v hv
    rw [h3.cell gK v (by simpa [tab64] using hv)]
    have : ∀ v : Fin 64, tab64.getD v.val 0 = ((KT v.val).toNat : Int) := by decide +kernel
    rw [this ⟨v, hv⟩]
  · intro v hv
    rw [h2.cell gH v (by simpa [tab8] using hv)]
    have : ∀ v : Fin 8, tab8.getD v.val 0 = ((H0.list.getD v.val 0).toNat : Int) := by decide +kernel
    rw [this ⟨v, hv⟩]
set_option maxRecDepth 100000 in
theorem spans11_contract (H : Type) (enc : TypeId × Value → H) (W : World) (base : Nat) (args : Array Value) (ds gs : List (DataW H)) (before : List MemPlace)
    (hval : ∀ (j : Nat) t v, Tryd.f6.params[j]? = some t → args[j]? = some v → Value.okWide Tryd.prog W .any base t v)
    (hW : DataW.Whole enc Tryd.prog Tryd.f6.params.toList Rows.packSpansSpec.vars false W args.toList ds gs before)
    (hsz : (DataW.weightsEach Tryd.prog (Tryd.f6.params.toList ++ Rows.packSpansSpec.plain.varTypes Tryd.prog) (ds ++ gs)).all (· ≤ reachBytes) = true)
    (hk : Rows.uptoSmall H (ds ++ gs) = true) (hL : laidMetH Tryd.prog Rows.packSpansUptoRow.laid W) :
    Calls Tryd.prog 6 args W fun e W' => ∃ v, e = .returned v ∧ Rows.packSpansSpec.post enc Tryd.prog Tryd.f6 false true false false W args v W' := by
  have hW' := hW
  obtain ⟨p, q, hA0, hV, rfl, hfz, hnd⟩ := hW
  have hA : DataW.TrodAll enc Tryd.prog W 0 (fun _ => true) true Tryd.f6.params.toList args.toList ds p := hA0
  rw [Tryd.params6] at hA hval hsz
  obtain ⟨v0, vs0, d0, ds0, p0, q0, hargs, rfl, rfl, h0, r0⟩ := trodAll_cons hA
  obtain ⟨v1, vs1, d1, ds1, p1, q1, rfl, rfl, rfl, h1, r1⟩ := trodAll_cons r0
  obtain ⟨rfl, rfl, rfl⟩ := trodAll_nil r1
  obtain rfl : args = #[v0, v1] := by cases args; simp_all
  obtain ⟨rfl, rfl⟩ := trodVars_none hV
  obtain ⟨a0, n0, c0, rfl⟩ := okWide_slice Tryd.underlying22 (hval 0 22 v0 rfl rfl)
  obtain ⟨a1, n1, c1, rfl⟩ := okWide_slice Tryd.underlying22 (hval 1 22 v1 rfl rfl)
  have k0 := h0
  have k1 := h1
  have lt0 : ∀ x ∈ p0, x.block < W.heap.size := by obtain ⟨m, hm⟩ := k0; exact DataW.trod_lt m _ _ _ hm
  have lt1 : ∀ x ∈ p1, x.block < W.heap.size := by obtain ⟨m, hm⟩ := k1; exact DataW.trod_lt m _ _ _ hm
  obtain ⟨l, hll, hA0', hn0⟩ := open_obs h0 (fun q hq => of_decide_eq_true (List.all_eq_true.1 hsz q (DataW.weights_mem_each (j := 0) (by rfl) (by rfl) q hq)))
  obtain ⟨m, hmm, hA1', hn1⟩ := open_obs h1 (fun q hq => of_decide_eq_true (List.all_eq_true.1 hsz q (DataW.weights_mem_each (j := 1) (by rfl) (by rfl) q hq)))
  have hb0 := bulk_len h0
  have hb1 := bulk_len h1
  have hbb : Rows.uptoBulkAll ([d0, d1] ++ []) ≤ 1048576 := of_decide_eq_true hk
  simp only [List.append_nil, Rows.uptoBulkAll, Nat.add_zero] at hbb
  have hnn : (n0 + n1 + 1) * 24 ≤ 140737488355328 := Nat.le_trans (Nat.mul_le_mul_right 24 (Nat.succ_le_succ (Nat.le_trans (Nat.add_le_add hb0 hb1) hbb))) (by decide)
  clear hbb hb0 hb1 hk
  have hLs : Lst W := laid_two hL
  clear hA0
  have hwalk : Calls Tryd.prog 6 #[.slice a0 n0 c0, .slice a1 n1 c1] W fun e w' => e = .returned (.bool true) ∧ Below W.heap.size W w' := by
    by_cases hE : buE l = 0 ∧ buE (l ++ m) = 0
    · exact spans_yes l m a0 a1 n0 n1 c0 c1 W hA0' hA1' hll hmm hnn hLs hE.1 hE.2
    · exact spans_no l m a0 a1 n0 n1 c0 c1 W hA0' hA1' hll hmm hnn hLs hE
  refine hwalk.mono fun e W' ⟨he, hg⟩ => ?_
  subst he
  exact ⟨_, rfl, _, _, _, [], _, [], hW', trodAll_mk1 (shut_bool Tryd.underlying4 _), (trodAll_cons_mk (Below.trod laidOut (by kernel_rfl) (of_decide_eq_true (by kernel_rfl)) k0 hg lt0) (trodAll_cons_mk (Below.trod laidOut (by kernel_rfl) (of_decide_eq_true (by kernel_rfl)) k1 hg lt1) trodAll_mk0)), rfl, hg.frame _, fun h => by cases h⟩
theorem spans11_laid_met (os : Os) : laidMet Tryd.prog Rows.packSpansUptoRow.laid ((laidW os).forCall (fun _ _ => 0) ⟨#[], #[.slice none 0 0, .slice none 0 0], []⟩).memory :=
  laidMet_of_run' 8 (by kernel_rfl) (by kernel_rfl)
theorem spans11_reads (os : Os) {H : Type} (enc : TypeId × Value → H) : ∃ places, DataW.whole enc Tryd.prog ((laidW os).forCall (fun _ _ => 0) ⟨#[], #[.slice none 0 0, .slice none 0 0], []⟩).memory Tryd.f6.params.toList Rows.packSpansSpec.vars false #[.slice none 0 0, .slice none 0 0].toList 8 = some ([.nil, .nil], [], places) :=
  ⟨[], by kernel_rfl⟩
set_option maxRecDepth 100000 in
theorem spans11_lifted (os : Os) (started : os.Started) (H : Type) (enc : TypeId × Value → H) (F : Stop.Interp) :
    ReturnsInHanded {} Tryd.checked os 6 .any ((Rows.OpenSpec.upto Rows.packSpansSpec).preRow enc Tryd.prog Tryd.f6 Rows.packSpansUptoRow.domain false Rows.packSpansUptoRow.laid) (((Rows.OpenSpec.upto Rows.packSpansSpec).at F).post enc Tryd.prog Tryd.f6 false true false false) := by
  obtain ⟨places, hx⟩ := spans11_reads os enc
  refine returnsInHanded_of_row (C := Tryd.checked) (s := Rows.OpenSpec.upto Rows.packSpansSpec) own started (by kernel_rfl) Tryd.func6
    (witness_row_at (enc := enc) (C := Tryd.checked) false (laidW os) #[.slice none 0 0, .slice none 0 0] rfl (by kernel_rfl) (by kernel_rfl) (by kernel_rfl)
      (OpenSpec.preRow_of_cond 8 hx (by kernel_rfl) (fun k hk => by cases hk; kernel_rfl) (by kernel_rfl) (spans11_laid_met os))) ?_
  intro W base args ds gs before hval hW _ hcond hsz hL _ _
  exact spans11_contract H enc W base args ds gs before hval hW hsz (hcond _ rfl) hL
theorem spans11_said : Rows.PackSpansUptoSaid :=
  OpenClaim.holds_of_cond 6 Tryd.f6 rfl rfl rfl rfl rfl rfl rfl ⟨rfl, rfl, rfl, rfl, rfl⟩ rfl rfl rfl rfl rfl (by kernel_rfl) Tryd.func6 (by kernel_rfl)
    (of_decide_eq_true (by kernel_rfl)) (by unfold Func.isWrapper; first | (rw [if_pos (by decide +kernel)]; kernel_rfl) | (rw [if_neg (by decide +kernel)]; exact ⟨rfl, rfl⟩))
    (fun os started H enc _ F => by rw [OpenClaim.pre_eq_preRow]; exact spans11_lifted os started H enc F)
theorem spans11_plain (f : FuncId) (fn : Func) (hf : Tryd.pinned.checked.prog.funcNamed "muniment/munimentlaw11.PackSpans" = some f) (hfn : Tryd.pinned.checked.prog.funcs[f]? = some fn) :
    false = Tryd.pinned.checked.prog.looks [] ∧ ∀ (j : Nat) t, fn.params[j]? = some t → Tryd.pinned.checked.prog.wantsStandIn t = false := by
  obtain rfl : f = 6 := Option.some.inj ((show Tryd.prog.funcNamed "muniment/munimentlaw11.PackSpans" = some 6 by kernel_rfl).symm.trans hf) |>.symm
  obtain rfl : fn = Tryd.f6 := (Option.some.inj (Tryd.func6.symm.trans hfn)).symm
  refine ⟨by kernel_rfl, fun j t ht => ?_⟩
  rw [Tryd.params6] at ht
  have hm : t = 22 := by simpa using Array.mem_of_getElem? ht
  subst hm
  exact (show Tryd.prog.wantsStandIn 22 = false by kernel_rfl)
theorem spans11_card : Rows.PackSpansUptoCardSaid :=
  Claim7.holds_tied_plain_at .later [] _ _ _ _ spans11_said (fun _ h => by cases h) (by kernel_rfl) (fun _ h => by cases h) packSpansUpto_row_tie rfl ⟨rfl, rfl⟩ (by kernel_rfl) rfl spans11_plain (by kernel_rfl)
end Go.Proofs.YtkmbhenneadclaaDoor
