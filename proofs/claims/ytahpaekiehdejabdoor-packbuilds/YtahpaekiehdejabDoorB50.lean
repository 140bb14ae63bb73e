/- munimentlaw11.PackBuilds: the pack that the program builds of objects, and what it finds wrong with them, is what the document tells, object by object, and the objects stay as they are: for every list of objects the law returns true, and its argument reads afterwards as it read before; the two listed tables of the program start as the program's text lays them. -/
import Derived.Test.YtahpaekiehdejabDoorY5
import Derived.Test.YtahpaekiehdejabDoorY17
import Derived.ProofKit
import Derived.SizedLaws
import Derived.OpenShut
namespace Go.Proofs.YtahpaekiehdejabDoor
open Go.ChangeShapes Go.WideShapes Go.ChangeAt Go.RowKit
open Go.ChangeMaps (open_string shut_string)
set_option linter.unusedSimpArgs false
set_option linter.unusedVariables false
theorem laid_two {W : World} (h : laidMet Tryd.prog [("muniment/digest.firstNumbers", Lib.tabData .u32 tab8), ("muniment/digest.constants", Lib.tabData .u32 tab64)] W) : Lst W := by
  obtain ⟨ps, h, _⟩ := h
  obtain ⟨h2, qs2, h⟩ := laid_next gH tH Tryd.underlying134 Tryd.underlying133 c32' cH h
  obtain ⟨h3, qs3, h⟩ := laid_next gK tK Tryd.underlying136 Tryd.underlying133 c32' cK h
  refine ⟨?_, ?_⟩
  · intro v hv
    rw [h3.cell gK v (by simpa [tab64] using hv)]
    have : ∀ v : Fin 64, tab64.getD v.val 0 = ((KT v.val).toNat : Int) := by decide +kernel
    rw [this ⟨v, hv⟩]
  · intro v hv
    rw [h2.cell gH v (by simpa [tab8] using hv)]
    have : ∀ v : Fin 8, tab8.getD v.val 0 = ((H0.list.getD v.val 0).toNat : Int) := by decide +kernel
    rw [this ⟨v, hv⟩]
set_option maxRecDepth 100000 in
theorem builds11f_contract (H : Type) (enc : TypeId × Value → H) (W : World) (base : Nat) (args : Array Value) (ds gs : List (DataW H)) (before : List MemPlace)
    (hval : ∀ (j : Nat) t v, Tryd.f4.params[j]? = some t → args[j]? = some v → Value.okWide Tryd.prog W .any base t v)
    (hW : DataW.Whole enc Tryd.prog Tryd.f4.params.toList Rows.packBuildsSpec.vars false W args.toList ds gs before)
    (hsz : (DataW.weightsEach Tryd.prog (Tryd.f4.params.toList ++ Rows.packBuildsSpec.plain.varTypes Tryd.prog) (ds ++ gs)).all (· ≤ reachBytes) = true)
    (hL : laidMetH Tryd.prog Rows.packBuildsRow.laid W) :
    Calls Tryd.prog 4 args W fun e W' => ∃ v, e = .returned v ∧ Rows.packBuildsSpec.post enc Tryd.prog Tryd.f4 false true false false W args v W' := by
  have hW' := hW
  obtain ⟨p, q, hA0, hV, rfl, hfz, hnd⟩ := hW
  have hA : DataW.TrodAll enc Tryd.prog W 0 (fun _ => true) true Tryd.f4.params.toList args.toList ds p := hA0
  rw [Tryd.params4] at hA hval hsz
  obtain ⟨v0, vs0, d0, ds0, p0, q0, hargs, rfl, rfl, h0, r0⟩ := trodAll_cons hA
  obtain ⟨rfl, rfl, rfl⟩ := trodAll_nil r0
  obtain rfl : args = #[v0] := by cases args; simp_all
  obtain ⟨rfl, rfl⟩ := trodVars_none hV
  obtain ⟨a0, n0, c0, rfl⟩ := okWide_slice Tryd.underlying47 (hval 0 47 v0 rfl rfl)
  have k0 := h0
  have lt0 : ∀ x ∈ p0, x.block < W.heap.size := by obtain ⟨m, hm⟩ := k0; exact DataW.trod_lt m _ _ _ hm
  obtain ⟨l, hll, hA0', hn0⟩ := open_obs h0 (fun q hq => of_decide_eq_true (List.all_eq_true.1 hsz q (DataW.weights_mem_each (j := 0) (by rfl) (by rfl) q hq)))
  have hLs : Lst W := laid_two hL
  clear hA0
  have hwalk : Calls Tryd.prog 4 #[.slice a0 n0 c0] W fun e w' => e = .returned (.bool true) ∧ Below W.heap.size W w' := builds11 l a0 n0 c0 W hA0' hll hn0 hLs
  refine hwalk.mono fun e W' ⟨he, hg⟩ => ?_
  subst he
  exact ⟨_, rfl, _, _, _, [], _, [], hW', trodAll_mk1 (shut_bool Tryd.underlying4 _), (trodAll_cons_mk (Below.trod laidOut (by kernel_rfl) (of_decide_eq_true (by kernel_rfl)) k0 hg lt0) trodAll_mk0), rfl, hg.frame _, fun h => by cases h⟩
theorem builds11f_laid_met (os : Os) : laidMet Tryd.prog Rows.packBuildsRow.laid ((laidW os).forCall (fun _ _ => 0) ⟨#[], #[.slice none 0 0], []⟩).memory :=
  laidMet_of_run' 8 (by kernel_rfl) (by kernel_rfl)
theorem builds11f_reads (os : Os) {H : Type} (enc : TypeId × Value → H) : ∃ places, DataW.whole enc Tryd.prog ((laidW os).forCall (fun _ _ => 0) ⟨#[], #[.slice none 0 0], []⟩).memory Tryd.f4.params.toList Rows.packBuildsSpec.vars false #[.slice none 0 0].toList 8 = some ([.nil], [], places) :=
  ⟨[], by kernel_rfl⟩
set_option maxRecDepth 100000 in
theorem builds11f_lifted (os : Os) (started : os.Started) (H : Type) (enc : TypeId × Value → H) (F : Stop.Interp) :
    ReturnsInHanded {} Tryd.checked os 4 .any ((OpenSpec.ofChange Rows.packBuildsSpec).preRow enc Tryd.prog Tryd.f4 Rows.packBuildsRow.domain false Rows.packBuildsRow.laid) (((OpenSpec.ofChange Rows.packBuildsSpec).at F).post enc Tryd.prog Tryd.f4 false true false false) := by
  obtain ⟨places, hx⟩ := builds11f_reads os enc
  refine returnsInHanded_of_row (C := Tryd.checked) (s := OpenSpec.ofChange Rows.packBuildsSpec) own started (by kernel_rfl) Tryd.func4
    (witness_row_at (enc := enc) (C := Tryd.checked) false (laidW os) #[.slice none 0 0] rfl (by kernel_rfl) (by kernel_rfl) (by kernel_rfl)
      (OpenSpec.preRow_of_cond 8 hx (by kernel_rfl) (fun k hk => by cases hk) (by kernel_rfl) (builds11f_laid_met os))) ?_
  intro W base args ds gs before hval hW _ _ hsz hL _ _
  exact builds11f_contract H enc W base args ds gs before hval hW hsz hL
theorem builds11f_said : Rows.PackBuildsSaid :=
  OpenClaim.holds_of_cond 4 Tryd.f4 rfl rfl rfl rfl rfl rfl rfl ⟨rfl, rfl, rfl, rfl, rfl⟩ rfl rfl rfl rfl rfl (by kernel_rfl) Tryd.func4 (by kernel_rfl)
    (of_decide_eq_true (by kernel_rfl)) (by unfold Func.isWrapper; first | (rw [if_pos (by decide +kernel)]; kernel_rfl) | (rw [if_neg (by decide +kernel)]; exact ⟨rfl, rfl⟩))
    (fun os started H enc _ F => by rw [OpenClaim.pre_eq_preRow]; exact builds11f_lifted os started H enc F)
theorem builds11f_plain (f : FuncId) (fn : Func) (hf : Tryd.pinned.checked.prog.funcNamed "muniment/munimentlaw11.PackBuilds" = some f) (hfn : Tryd.pinned.checked.prog.funcs[f]? = some fn) :
    true = Tryd.pinned.checked.prog.looks [] ∧ ∀ (j : Nat) t, fn.params[j]? = some t → Tryd.pinned.checked.prog.wantsStandIn t = false := by
  obtain rfl : f = 4 := Option.some.inj ((show Tryd.prog.funcNamed "muniment/munimentlaw11.PackBuilds" = some 4 by kernel_rfl).symm.trans hf) |>.symm
  obtain rfl : fn = Tryd.f4 := (Option.some.inj (Tryd.func4.symm.trans hfn)).symm
  refine ⟨by kernel_rfl, fun j t ht => ?_⟩
  rw [Tryd.params4] at ht
  have hm : t = 47 := by simpa using Array.mem_of_getElem? ht
  subst hm
  exact (show Tryd.prog.wantsStandIn 47 = false by kernel_rfl)
theorem builds11f_card : Rows.PackBuildsCardSaid :=
  Claim7.holds_tied_plain_at .later [] _ _ _ _ builds11f_said (fun _ h => by cases h) (by kernel_rfl) (fun _ h => by cases h) packBuilds_row_tie rfl ⟨rfl, rfl⟩ (by kernel_rfl) rfl builds11f_plain (by kernel_rfl)
end Go.Proofs.YtahpaekiehdejabDoor
