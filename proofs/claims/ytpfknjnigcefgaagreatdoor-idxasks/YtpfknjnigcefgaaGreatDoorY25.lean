import Derived.Test.YtpfknjnigcefgaaGreatDoorY12
import Derived.Test.YtpfknjnigcefgaaGreatDoorY24
import Derived.Test.YtpfknjnigcefgaaGreatDoorY13
import Derived.Test.YtpfknjnigcefgaaGreatDoorRows
import Derived.ProofKit
import Derived.Deep.Slices
import Derived.Lib.SmallJoins
import Derived.SizedLaws
import Derived.Test.YtpfknjnigcefgaaGreatDoorY8
import Derived.OpenShut
import Derived.Deep.Strs
/- The law's same, at lists that are alike. -/
namespace Go.Proofs.YtpfknjnigcefgaaGreatDoor
open Go.RowKit
set_option linter.unusedSimpArgs false
set_option linter.unusedVariables false
set_option maxHeartbeats 4000000 in
set_option maxRecDepth 100000 in
theorem same13 (l : List Xe) (a b : Option Addr) (n c d : Nat) (w : World) (hA : XeL w a l) (hB : XeL w b l) (hl : l.length = n) (hn : n ≤ 1000000000000000) :
    Calls Tryz.prog 10 #[.slice a n c, .slice b n d] w fun e w' => e = .returned (.bool true) ∧ Below w.heap.size w w' := by
  have HA : Hid (XeL w a l ∧ XeL w b l) := ⟨hA, hB⟩
  have HL : Hid (l.length = n) := hl
  clear hA hB hl
  go_enter Tryz.func10, Tryz.ntmps10
  go_wp2
  go_loopw [5] (fun v wr => ∃ k : Nat, v = .int .i64 k ∧ k ≤ n ∧ Hid (Below w.heap.size w wr)) (fun v _ => n - (intOf v).toNat)
  case atStart => exact ⟨0, rfl, Nat.zero_le _, Below.refl _ _⟩
  case round =>
    obtain ⟨k, rfl, hk, HB⟩ := hrel
    by_cases hlt : k < n
    · have hkz : (k : Int) < (n : Int) := by omega
      obtain ⟨e, he⟩ : ∃ e, l[k]? = some e := ⟨_, List.getElem?_eq_getElem (by rw [HL.out]; exact hlt)⟩
      obtain ⟨hid, g1, o1, ea, hg1, hc1⟩ := (HA.out.1.below HB.out) k e he
      obtain ⟨_, g2, o2, eb, hg2, hc2⟩ := (HA.out.2.below HB.out) k e he
      obtain ⟨X, hX⟩ : ∃ X, xeC e = X := ⟨_, rfl⟩
      have CX1 : Hid (∀ W, Below wr.heap.size wr W → ∀ j v, X[j]? = some v → W.cell? ⟨g1, o1 + k * 35 + j, none⟩ = some v) := fun W hW j v hv => by rw [hW.cell (p := ⟨g1, o1 + k * 35 + j, none⟩) hg1]; exact hc1 j v (by rw [hX]; exact hv)
      have CX2 : Hid (∀ W, Below wr.heap.size wr W → ∀ j v, X[j]? = some v → W.cell? ⟨g2, o2 + k * 35 + j, none⟩ = some v) := fun W hW j v hv => by rw [hW.cell (p := ⟨g2, o2 + k * 35 + j, none⟩) hg2]; exact hc2 j v (by rw [hX]; exact hv)
      have HOW : Hid (∀ W, Below wr.heap.size wr W → Calls Tryz.prog 23 #[.agg X] W fun r w' => r = .returned (.agg X) ∧ Below wr.heap.size wr w') := fun W hW => by
        rw [← hX]; exact (own13 e W hid).mono fun r w' q => ⟨q.1, hW.trans (q.2.mono hW.size)⟩
      have HNE : Hid (∀ W, (binOp .neq 34 (.agg X) (.agg X)).run Tryz.prog W = .ok (.bool false) W) := fun W => by rw [← hX, neq_xe e e hid hid W, xeQ_self]; rfl
      have HI1 : Hid ((Tryz.prog.info? 34).map (·.size) = some X.size) := by show _ = _; rw [← hX]; exact info_xe (xeC_size e hid)
      have HI2 : Hid ((Tryz.prog.info? 56).map (·.size) = some X.size) := by show _ = _; rw [← hX, xeC_size e hid]; kernel_rfl
      subst ea
      subst eb
      clear hX hc1 hc2 he hid
      go_wp2
      have hNE := HNE.out
      refine region_class10 (fun W => Below wr.heap.size wr W) (by kernel_rfl) (by kernel_rfl) ((Below.refl _ _).drew) ?_
      try simp only [Act.put, List.setIfInBounds_toArray, List.set_cons_zero, List.set_cons_succ]
      repeat (first
        | go_big_quiet_skip
        | (go_big_quiet_want
           first
             | (refine quiet_rowc 34 _ rfl g1 (o1 + k * 35) X _ rfl CX1.out Tryz.underlying34 rfl HI1.out ?_; go_big_quiet_on; simp only [Act.put, List.setIfInBounds_toArray, List.set_cons_zero, List.set_cons_succ])
             | (refine quiet_rowc 56 _ rfl g2 (o2 + k * 35) X _ rfl CX2.out Tryz.underlying56 rfl HI2.out ?_; go_big_quiet_on; simp only [Act.put, List.setIfInBounds_toArray, List.set_cons_zero, List.set_cons_succ])
             | (refine quiet_call10 (.agg X) 23 #[.agg X] ?_ ?_ ?_; (focus (intro W hW; go_simp; done)); (focus (intro W hW; exact HOW.out W hW)); go_big_quiet_on; simp only [Act.put, List.setIfInBounds_toArray, List.set_cons_zero, List.set_cons_succ])
             | (refine quiet_val10 (.bool false) ?_ ?_; (focus (intro W hW; go_simp; done)); go_big_quiet_on; simp only [Act.put, List.setIfInBounds_toArray, List.set_cons_zero, List.set_cons_succ])
             | (refine quiet_val10 (.pointer (some ⟨g1, o1 + k * 35, none⟩)) ?_ ?_; (focus (intro W hW; go_simp; done)); go_big_quiet_on; simp only [Act.put, List.setIfInBounds_toArray, List.set_cons_zero, List.set_cons_succ])
             | (refine quiet_val10 (.pointer (some ⟨g2, o2 + k * 35, none⟩)) ?_ ?_; (focus (intro W hW; go_simp; done)); go_big_quiet_on; simp only [Act.put, List.setIfInBounds_toArray, List.set_cons_zero, List.set_cons_succ])
             | (go_big_quiet_op; go_big_quiet_on)))
      refine wpQuiet_nil ?_
      intro w9 hw9
      have H9 : Hid (Below w.heap.size w w9) := HB.out.trans (Below.mono hw9 HB.out.size)
      clear hw9 HB CX1 CX2 HOW HNE HI1 HI2 hNE
      go_wp2
      go_roundw
      case rel => exact ⟨k + 1, by go_num, by omega, H9.out⟩
      case measure => simp [intOf]; omega
    · have hkz : ¬ (k : Int) < (n : Int) := by omega
      go_wp2
      go_ret
      exact ⟨rfl, HB.out⟩
end Go.Proofs.YtpfknjnigcefgaaGreatDoor
/- A slice of structs that came in, opened at an index: plain laws on readings, over any program. -/
namespace Go.Proofs.YtpfknjnigcefgaaGreatDoor
open Go.ChangeShapes Go.WideShapes Go.ChangeAt Go.RowKit
set_option linter.unusedSimpArgs false
set_option linter.unusedVariables false
theorem weightsAll_mem {H : Type} {P : Program} {e : TypeId} : ∀ {l : List (DataW H)} {d : DataW H}, d ∈ l → ∀ n ∈ d.weights P e, n ∈ DataW.weightsAll P e l
  | [], _, h, _, _ => by simp at h
  | x :: l, d, hd, n, hn => by
    simp only [DataW.weightsAll, List.mem_append]
    rcases List.mem_cons.1 hd with rfl | h
    · exact Or.inl hn
    · exact Or.inr (weightsAll_mem h n hn)
theorem open_elem {H : Type} {enc : TypeId × Value → H} {P : Program} {w : World} {t e : TypeId} {d : DataW H} {ps : List MemPlace} {a0 : Option Addr} {len cap : Nat}
    (ht : P.underlying t = some (.slice e)) (hce : 0 < P.cellsOf e) (h : DataW.Trod enc P w 0 (fun _ => true) true t (.slice a0 len cap) d ps) :
    len ≤ maxLen ∧ ∀ i, i < len → ∃ (b off : Nat) (cs : List Value) (D : DataW H) (Pl : List MemPlace) (n : Nat), a0 = some ⟨b, off, none⟩ ∧ b < w.heap.size ∧ cs.length = P.cellsOf e ∧
      (∀ j, j < P.cellsOf e → w.cell? ⟨b, off + i * P.cellsOf e + j, none⟩ = cs[j]?) ∧ DataW.trod enc P w 0 (fun _ => true) true n e cs = some (D, Pl) ∧ ∀ q ∈ D.weights P e, q ∈ d.weights P t := by
  obtain ⟨fuel, hf⟩ := h
  have hcs : (Value.slice a0 len cap).cells.toList = [.slice a0 len cap] := by simp [Value.cells]
  rw [hcs] at hf
  rcases Go.Deep.open_slice ht hf with ⟨h1, _⟩ | ⟨a, l, c, m, n, D, Pl, h1, _, hl, hm, hmm, hx, hi⟩
  · simp only [List.cons.injEq, Value.slice.injEq, and_true] at h1
    obtain ⟨rfl, rfl, rfl⟩ := h1
    exact ⟨by unfold maxLen; omega, fun i hi => by omega⟩
  · simp only [List.cons.injEq, Value.slice.injEq, and_true] at h1
    obtain ⟨rfl, rfl, rfl⟩ := h1
    have hmc : m = cap := by simpa using hmm
    refine ⟨by omega, fun i hil => ?_⟩
    obtain ⟨cs, h2, h3⟩ := hi i (by omega)
    obtain ⟨_, hlen, hcell⟩ := World.cells?_some h2
    obtain ⟨b, off, spot⟩ := a
    have hsp : spot = none := by
      obtain ⟨cs0, k2, _⟩ := hi 0 (by omega)
      obtain ⟨_, klen, kcell⟩ := World.cells?_some k2
      have kc := kcell 0 hce
      rw [Go.Deep.add_add, Nat.zero_mul, Nat.zero_add, show (⟨b, off, spot⟩ : Addr).add 0 = ⟨b, off, spot⟩ from rfl, List.getElem?_eq_getElem (by omega)] at kc
      exact World.cell?_spot kc
    subst hsp
    have hc0 := hcell 0 hce
    rw [Go.Deep.add_add, add_plain, List.getElem?_eq_getElem (by omega)] at hc0
    refine ⟨b, off, cs, D i, Pl i, n, rfl, block_lt_of_cell hc0, hlen, fun j hj => ?_, h3, fun q hq => ?_⟩
    · have := hcell j hj
      rw [Go.Deep.add_add, add_plain, ← Nat.add_assoc] at this
      exact this
    · simp only [Prod.mk.injEq] at hx
      rw [hx.1]
      simp only [DataW.weights, ht, List.mem_cons, List.mem_append]
      exact Or.inr (Or.inl (weightsAll_mem (List.mem_map.2 ⟨i, by simpa using hil, rfl⟩) q hq))
theorem open_cap {H : Type} {enc : TypeId × Value → H} {P : Program} {w : World} {t e : TypeId} {d : DataW H} {ps : List MemPlace} {a0 : Option Addr} {len cap : Nat}
    (ht : P.underlying t = some (.slice e)) (h : DataW.Trod enc P w 0 (fun _ => true) true t (.slice a0 len cap) d ps) : len ≤ cap ∧ cap ≤ maxLen := by
  obtain ⟨fuel, hf⟩ := h
  have hcs : (Value.slice a0 len cap).cells.toList = [.slice a0 len cap] := by simp [Value.cells]
  rw [hcs] at hf
  rcases Go.Deep.open_slice ht hf with ⟨h1, _⟩ | ⟨a, l, c, m, n, D, Pl, h1, _, hl, hm, hmm, hx, hi⟩
  · simp only [List.cons.injEq, Value.slice.injEq, and_true] at h1
    obtain ⟨rfl, rfl, rfl⟩ := h1
    exact ⟨Nat.le_refl _, by unfold maxLen; omega⟩
  · simp only [List.cons.injEq, Value.slice.injEq, and_true] at h1
    obtain ⟨rfl, rfl, rfl⟩ := h1
    have hmc : m = cap := by simpa using hmm
    omega
end Go.Proofs.YtpfknjnigcefgaaGreatDoor
/- Lists of the document's entries, and of names, that came in, opened. -/
namespace Go.Proofs.YtpfknjnigcefgaaGreatDoor
open Go.ChangeShapes Go.WideShapes Go.ChangeAt Go.RowKit Go.Joins
set_option linter.unusedSimpArgs false
set_option linter.unusedVariables false
section
variable {H : Type} {enc : TypeId × Value → H} {P : Program} {w : World} {base : Nat} {spare : Nat → Bool} {held : Bool}
theorem trod4x {t : TypeId} {f0 f1 f2 f3 : Field} {fuel : Nat} {cs : List Value} {x : DataW H × List MemPlace} (ht : P.underlying t = some (.struct #[f0, f1, f2, f3])) (h : DataW.trod enc P w base spare held fuel t cs = some x) :
    ∃ y0 y1 y2 y3 n, x.1 = .agg [y0.1, y1.1, y2.1, y3.1] ∧ cs.length = P.cellsOf t ∧ DataW.trod enc P w base spare held n f0.type ((cs.drop f0.offset).take (P.cellsOf f0.type)) = some y0 ∧
      DataW.trod enc P w base spare held n f1.type ((cs.drop f1.offset).take (P.cellsOf f1.type)) = some y1 ∧ DataW.trod enc P w base spare held n f2.type ((cs.drop f2.offset).take (P.cellsOf f2.type)) = some y2 ∧
      DataW.trod enc P w base spare held n f3.type ((cs.drop f3.offset).take (P.cellsOf f3.type)) = some y3 := by
  obtain ⟨xs, n, _, rfl, hl, hlen, hf⟩ := DataW.trod_struct ht h
  match xs, hlen with
  | [y0, y1, y2, y3], _ => exact ⟨y0, y1, y2, y3, n, by simp, hl, by simpa using hf 0 f0 rfl, by simpa using hf 1 f1 rfl, by simpa using hf 2 f2 rfl, by simpa using hf 3 f3 rfl⟩
theorem open_lenx {t e : TypeId} {d : DataW H} {ps : List MemPlace} {a0 : Option Addr} {len cap : Nat} (ht : P.underlying t = some (.slice e)) (h : DataW.Trod enc P w 0 (fun _ => true) true t (.slice a0 len cap) d ps)
    (hsz : ∀ q ∈ d.weights P t, q ≤ reachBytes) : len * P.bytesOf e ≤ reachBytes := by
  obtain ⟨fuel, hf⟩ := h
  have hcs : (Value.slice a0 len cap).cells.toList = [.slice a0 len cap] := by simp [Value.cells]
  rw [hcs] at hf
  rcases Go.Deep.open_slice ht hf with ⟨h1, _⟩ | ⟨a, l, c, m, n, D, Pl, h1, _, hl, hm, hmm, hx, hi⟩
  · simp only [List.cons.injEq, Value.slice.injEq, and_true] at h1
    obtain ⟨rfl, rfl, rfl⟩ := h1
    simp
  · simp only [List.cons.injEq, Value.slice.injEq, and_true] at h1
    obtain ⟨rfl, rfl, rfl⟩ := h1
    simp only [Prod.mk.injEq] at hx
    have := hsz _ (by rw [hx.1]; simp only [DataW.weights, ht]; exact List.mem_cons_self ..)
    refine Nat.le_trans ?_ this
    simp only [List.length_map, List.length_range]
    exact Nat.mul_le_mul_right _ (by omega)
end
theorem u8_valx (a : Int) (h : (Lit.int .u8 a).wf = true) : ∃ x : UInt8, a = (x.toNat : Int) := by
  have h' : 0 ≤ a ∧ a ≤ 255 := by simpa [Lit.wf, IntKind.min, IntKind.max, IntKind.signed, IntKind.bits] using h
  refine ⟨UInt8.ofNat a.toNat, ?_⟩
  simp
  omega
theorem cells_idx (cs : List Value) (hsz : cs.length = 32) (h : ∀ i, i < 32 → ∃ n : Nat, cs[i]? = some (.int .u8 (n : Int)) ∧ n < 256) : ∃ s : ByteArray, s.size = 32 ∧ cs = (idc s).toList := by
  obtain ⟨f, hf⟩ := Go.Deep.choose_lt h
  have hl : ∀ x ∈ (List.range 32).map f, x < 256 := by
    intro x hx
    simp only [List.mem_map, List.mem_range] at hx
    obtain ⟨i, hi, rfl⟩ := hx
    exact (hf i hi).2
  refine ⟨sb ((List.range 32).map f), by rw [sb_size]; simp, ?_⟩
  unfold idc
  rw [byl_sb _ hl]
  apply List.ext_getElem?
  intro i
  by_cases hi : i < 32
  · rw [(hf i hi).1]
    simp [bvc, hi]
  · rw [List.getElem?_eq_none (by omega), List.getElem?_eq_none (by simp [bvc]; omega)]
/-- The cells of a name. -/
theorem trod_idx {H : Type} {enc : TypeId × Value → H} {w : World} {base : Nat} {spare : Nat → Bool} {held : Bool} {fuel : Nat} {cs : List Value} {x : DataW H × List MemPlace}
    (h : DataW.trod enc Tryz.prog w base spare held fuel 23 cs = some x) : ∃ s : ByteArray, s.size = 32 ∧ cs = (idc s).toList := by
  have hu : Tryz.prog.underlying 23 = some (.array 32 5) := Tryz.underlying23
  have hc : Tryz.prog.cellsOf 5 = 1 := by kernel_rfl
  have hct : Tryz.prog.cellsOf 23 = 32 := by kernel_rfl
  obtain ⟨xs, m, _, _, hl, hn, hi⟩ := DataW.trod_array hu h
  rw [hct] at hl
  refine cells_idx cs hl (fun i hlt => ?_)
  have := hi i hlt
  rw [hc, Nat.mul_one, List.getElem?_eq_getElem (by omega)] at this
  have e1 : (cs.drop i).take 1 = [cs[i]'(by omega)] := by
    rw [List.drop_eq_getElem_cons (by omega), List.take_succ_cons, List.take_zero]
  rw [e1] at this
  obtain ⟨n, e, _, wn⟩ := DataW.trod_int Tryz.underlying5 this
  have hb : 0 ≤ n ∧ n ≤ 255 := by simpa [Lit.wf, IntKind.min, IntKind.max, IntKind.signed, IntKind.bits] using wn
  simp at e
  refine ⟨n.toNat, ?_, by omega⟩
  rw [List.getElem?_eq_getElem (by omega), e, show ((n.toNat : Nat) : Int) = n from by omega]
set_option maxRecDepth 100000 in
theorem open_xes {H : Type} {enc : TypeId × Value → H} {w : World} {d : DataW H} {ps : List MemPlace} {a0 : Option Addr} {len cap : Nat}
    (h : DataW.Trod enc Tryz.prog w 0 (fun _ => true) true 24 (.slice a0 len cap) d ps) (hsz : ∀ q ∈ d.weights Tryz.prog 24, q ≤ reachBytes) :
    ∃ l, l.length = len ∧ XeL w a0 l ∧ (len + 1) * 56 ≤ 140737488355328 ∧ ∀ e ∈ l, -9223372036854775808 ≤ e.off ∧ e.off ≤ 9223372036854775807 ∧ -9223372036854775808 ≤ e.sz ∧ e.sz ≤ 9223372036854775807 := by
  have ce : Tryz.prog.cellsOf 56 = 35 := by kernel_rfl
  have be : Tryz.prog.bytesOf 56 = 56 := by kernel_rfl
  have c9 : Tryz.prog.cellsOf 3 = 1 := by kernel_rfl
  have c5 : Tryz.prog.cellsOf 5 = 1 := by kernel_rfl
  have c32 : Tryz.prog.cellsOf 23 = 32 := by kernel_rfl
  have hl := open_lenx Tryz.underlying24 h hsz
  rw [be] at hl
  unfold reachBytes at hl
  obtain ⟨_, hall⟩ := open_elem Tryz.underlying24 (by rw [ce]; omega) h
  have one : ∀ i, i < len → ∃ x : Xe, (x.id.size = 32 ∧ ∃ g o, a0 = some ⟨g, o, none⟩ ∧ g < w.heap.size ∧ ∀ j v, (xeC x)[j]? = some v → w.cell? ⟨g, o + i * 35 + j, none⟩ = some v) ∧ -9223372036854775808 ≤ x.off ∧ x.off ≤ 9223372036854775807 ∧ -9223372036854775808 ≤ x.sz ∧ x.sz ≤ 9223372036854775807 := by
    intro i hi
    obtain ⟨b, off, cs, D, Pl, n, ha, hb, hlen, hcell, htrod, hw⟩ := hall i hi
    rw [ce] at hlen hcell
    obtain ⟨y0, y1, y2, y3, m, hx, _, t0, t1, t2, t3⟩ := trod4x Tryz.underlying56 htrod
    simp only [c9, c5, c32] at t0 t1 t2 t3
    obtain ⟨s, hs, e0⟩ := trod_idx t0
    obtain ⟨k1, e1, _, w1⟩ := DataW.trod_int Tryz.underlying5 t1
    obtain ⟨k2, e2, _, w2⟩ := DataW.trod_int Tryz.underlying3 t2
    obtain ⟨k3, e3, _, w3⟩ := DataW.trod_int Tryz.underlying3 t3
    obtain ⟨kk, rfl⟩ := u8_valx k1 w1
    have b2 : -9223372036854775808 ≤ k2 ∧ k2 ≤ 9223372036854775807 := by simpa [Lit.wf, IntKind.min, IntKind.max, IntKind.signed, IntKind.bits] using w2
    have b3 : -9223372036854775808 ≤ k3 ∧ k3 ≤ 9223372036854775807 := by simpa [Lit.wf, IntKind.min, IntKind.max, IntKind.signed, IntKind.bits] using w3
    have hcs : cs = (xeC ⟨s, kk, k2, k3⟩).toList := by
      have q : cs = (cs.take 32) ++ ((cs.drop 32).take 1 ++ ((cs.drop 33).take 1 ++ (cs.drop 34).take 1)) := by
        have r1 : (cs.drop 34).take 1 = cs.drop 34 := List.take_of_length_le (by rw [List.length_drop]; omega)
        rw [r1]
        conv => lhs; rw [← List.take_append_drop 32 cs]
        congr 1
        conv => lhs; rw [← List.take_append_drop 1 (cs.drop 32), List.drop_drop]
        congr 1
        conv => lhs; rw [← List.take_append_drop 1 (cs.drop 33), List.drop_drop]
      refine q.trans ?_
      rw [e1, e2, e3]
      have e0' : cs.take 32 = (idc s).toList := by simpa using e0
      rw [e0']
      simp [xeC]
    exact ⟨⟨s, kk, k2, k3⟩, ⟨hs, b, off, ha, hb, fun j v hv => by
      have hj : j < 35 := by
        have := (Array.getElem?_eq_some_iff.1 hv).1
        rw [xeC_size _ hs] at this
        exact this
      rw [hcell j hj, hcs, Array.getElem?_toList, hv]⟩, b2.1, b2.2, b3.1, b3.2⟩
  haveI : Inhabited Xe := ⟨⟨⟨#[]⟩, 0, 0, 0⟩⟩
  obtain ⟨q, hq⟩ := Go.Deep.choose_lt one
  refine ⟨(List.range len).map q, by simp, fun i x hx => ?_, by omega, fun e he => ?_⟩
  · rw [List.getElem?_map] at hx
    obtain ⟨j, hj, rfl⟩ := Option.map_eq_some_iff.1 hx
    have hi : i < len := by have := (List.getElem?_eq_some_iff.1 hj).1; simpa using this
    have : j = i := by rw [List.getElem?_range hi] at hj; cases hj; rfl
    subst this
    exact (hq j hi).1
  · obtain ⟨j, hj, rfl⟩ := List.mem_map.1 he
    exact (hq j (List.mem_range.1 hj)).2
/-- Names of a slice. -/
def NmL (w : World) (a : Option Addr) (l : List ByteArray) : Prop := ∀ i s, l[i]? = some s → s.size = 32 ∧ ∃ g o, a = some ⟨g, o, none⟩ ∧ g < w.heap.size ∧ ∀ j v, (idc s)[j]? = some v → w.cell? ⟨g, o + i * 32 + j, none⟩ = some v
theorem NmL.below {w w' : World} {a : Option Addr} {l : List ByteArray} (h : NmL w a l) (hb : Below w.heap.size w w') : NmL w' a l := fun i s hs => by
  obtain ⟨h1, g, o, h2, h3, h4⟩ := h i s hs
  exact ⟨h1, g, o, h2, Nat.lt_of_lt_of_le h3 hb.size, fun j v hv => by rw [hb.cell h3]; exact h4 j v hv⟩
theorem open_nms {H : Type} {enc : TypeId × Value → H} {w : World} {d : DataW H} {ps : List MemPlace} {a0 : Option Addr} {len cap : Nat}
    (h : DataW.Trod enc Tryz.prog w 0 (fun _ => true) true 37 (.slice a0 len cap) d ps) :
    ∃ l, l.length = len ∧ NmL w a0 l ∧ len ≤ maxLen := by
  have ce : Tryz.prog.cellsOf 23 = 32 := by kernel_rfl
  obtain ⟨hl, hall⟩ := open_elem Tryz.underlying37 (by rw [ce]; omega) h
  have one : ∀ i, i < len → ∃ x : ByteArray, x.size = 32 ∧ ∃ g o, a0 = some ⟨g, o, none⟩ ∧ g < w.heap.size ∧ ∀ j v, (idc x)[j]? = some v → w.cell? ⟨g, o + i * 32 + j, none⟩ = some v := by
    intro i hi
    obtain ⟨b, off, cs, D, Pl, n, ha, hb, hlen, hcell, htrod, hw⟩ := hall i hi
    rw [ce] at hlen hcell
    obtain ⟨s, hs, rfl⟩ := trod_idx htrod
    exact ⟨s, hs, b, off, ha, hb, fun j v hv => by
      have hj : j < 32 := by
        have := (Array.getElem?_eq_some_iff.1 hv).1
        rw [idc_size, hs] at this
        exact this
      rw [hcell j hj, Array.getElem?_toList, hv]⟩
  haveI : Inhabited ByteArray := ⟨⟨#[]⟩⟩
  obtain ⟨q, hq⟩ := Go.Deep.choose_lt one
  refine ⟨(List.range len).map q, by simp, fun i x hx => ?_, hl⟩
  rw [List.getElem?_map] at hx
  obtain ⟨j, hj, rfl⟩ := Option.map_eq_some_iff.1 hx
  have hi : i < len := by have := (List.getElem?_eq_some_iff.1 hj).1; simpa using this
  have : j = i := by rw [List.getElem?_range hi] at hj; cases hj; rfl
  subst this
  exact hq j hi
end Go.Proofs.YtpfknjnigcefgaaGreatDoor
/- The law's asked: what it holds. -/
namespace Go.Proofs.YtpfknjnigcefgaaGreatDoor
open Go.RowKit
set_option linter.unusedSimpArgs false
set_option linter.unusedVariables false
/-- Places of a slice. -/
def IpL (w : World) (a : Option Addr) (n : Nat) : Prop := ∀ i, i < n → ∃ g o, ∃ x : Int, a = some ⟨g, o, none⟩ ∧ g < w.heap.size ∧ w.cell? ⟨g, o + i, none⟩ = some (.int .i64 x)
theorem IpL.below {w w' : World} {a : Option Addr} {n : Nat} (h : IpL w a n) (hb : Below w.heap.size w w') : IpL w' a n := fun i hi => by
  obtain ⟨g, o, x, h1, h2, h3⟩ := h i hi
  exact ⟨g, o, x, h1, Nat.lt_of_lt_of_le h2 hb.size, by rw [hb.cell (p := ⟨g, o + i, none⟩) h2]; exact h3⟩
/-- What is asked of an index. -/
structure AkS (w0 : World) (ga : Nat) (gX gY : Nat) (s : ByteArray) (l : List Xe) (ay : Option Addr) (ny cy : Nat) (ai : Option Addr) (ni ci : Nat) (ids : List ByteArray) (ap : Option Addr) (np cp : Nat) (F : Nat) (lb : ByteArray) (W : World) : Prop where
  x : IxS W gX s l
  y : RIx W gY s l
  yb : Bk W gY (rixC s (.slice ay ny cy)) 81
  yx : XeL W ay l
  bx : Bk W ga #[.slice ai ni ci, .slice ap np cp, .int .u8 (F : Int), .string lb] 40
  ni : NmL W ai ids
  np : IpL W ap np
  bel : Below w0.heap.size w0 W
section
variable {w0 W W' : World} {ga gX gY : Nat} {s : ByteArray} {l : List Xe} {ay ai : Option Addr} {ny cy ni ci : Nat} {ids : List ByteArray} {ap : Option Addr} {np cp F : Nat} {lb : ByteArray}
theorem AkS.next (h : AkS w0 ga gX gY s l ay ny cy ai ni ci ids ap np cp F lb W) (hb : Below W.heap.size W W') : AkS w0 ga gX gY s l ay ny cy ai ni ci ids ap np cp F lb W' := ⟨h.x.below hb, h.y.below hb, h.yb.below hb h.yb.lt, h.yx.below hb, h.bx.below hb h.bx.lt, h.ni.below hb, h.np.below hb, h.bel.trans (hb.mono h.bel.size)⟩
theorem AkS.c0 (h : AkS w0 ga gX gY s l ay ny cy ai ni ci ids ap np cp F lb W) : W.cell? ⟨ga, 0, none⟩ = some (.slice ai ni ci) ∧ W.cell? ⟨ga, 1, none⟩ = some (.slice ap np cp) ∧ W.cell? ⟨ga, 2, none⟩ = some (.int .u8 (F : Int)) ∧ W.cell? ⟨ga, 3, none⟩ = some (.string lb) :=
  ⟨by rw [h.bx.cell]; rfl, by rw [h.bx.cell]; rfl, by rw [h.bx.cell]; rfl, by rw [h.bx.cell]; rfl⟩
end
/-- What two of a kind hold: the answers of the two sides. -/
structure TwE (w0 : World) (b1 b2 : Nat) (X : Array Value) (W : World) : Prop where
  k1 : Bk W b1 X 34
  k2 : Bk W b2 X 56
  bel : Below w0.heap.size w0 W
theorem TwE.next {w0 W W' : World} {b1 b2 : Nat} {X : Array Value} (h : TwE w0 b1 b2 X W) (hb : Below W.heap.size W W') : TwE w0 b1 b2 X W' := ⟨h.k1.below hb h.k1.lt, h.k2.below hb h.k2.lt, h.bel.trans (hb.mono h.bel.size)⟩
end Go.Proofs.YtpfknjnigcefgaaGreatDoor
