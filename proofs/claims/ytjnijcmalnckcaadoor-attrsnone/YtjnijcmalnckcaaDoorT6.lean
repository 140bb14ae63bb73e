/- The listed variables of AttrsNone's row: the two tables of the Go library and attrs.threes; a world for the witness that holds them. -/
import Derived.Test.YtjnijcmalnckcaaDoorT5
import Derived.Test.YtjnijcmalnckcaaDoorI20
import Derived.Lib.LaidU8
namespace Go.Proofs.YtjnijcmalnckcaaDoor
open Go.ChangeShapes Go.WideShapes Go.ChangeAt Go.RowKit
set_option linter.unusedSimpArgs false
set_option linter.unusedVariables false
noncomputable def laidW3 (os : Os) : World := { World.holding Tryd.prog os ⟨#[], #[], []⟩ with heap := (((World.holding Tryd.prog os ⟨#[], #[], []⟩).heap.modify 2 (layC (cells2 Rows.laid_unicode_utf8_first))).modify 3 (layC (cells2 Rows.laid_unicode_utf8_acceptRanges))).modify 0 (layC thc.toArray) }
theorem u8_none10 {W : World} (h : laidMet Tryd.prog Rows.attrsNoneRow.laid W) : U8 W := by
  have h3 := Lib.laidMet.reads h (.tail _ (.tail _ (.head _)))
  have h4 := Lib.laidMet.reads h (.head _)
  rw [first_eq] at h3
  rw [accept_eq] at h4
  exact utf8Tabs_of_readsT (U8Types.of196 lays196) u8_extra h3 h4
theorem gTh : Tryd.prog.globalNamed "muniment/attrs.threes" = some 0 := by kernel_rfl
theorem tTh : (Tryd.prog.globals[0]?).map (·.type) = some 94 := by kernel_rfl
theorem cThr : Tryd.prog.cellsOf 93 = 5 := by kernel_rfl
theorem cInt : Tryd.prog.cellsOf 3 = 1 := by kernel_rfl
theorem cStr : Tryd.prog.cellsOf 9 = 1 := by kernel_rfl
set_option maxRecDepth 100000 in
theorem three_of {W : World} {fuel : Nat} {cs : List Value} {p : List MemPlace} {a b c d : Int} {L : List UInt8}
    (h : DataW.trod (fun _ => ()) Tryd.prog W 0 (fun _ => true) false fuel 93 cs = some (.agg [.lit (.int .i64 a), .lit (.int .i64 b), .lit (.int .i64 c), .lit (.int .i64 d), .lit (.string L)], p)) : cs = [.int .i64 a, .int .i64 b, .int .i64 c, .int .i64 d, .string ⟨L.toArray⟩] := by
  obtain ⟨xs, n, rfl, hx, hl, hxl, hall⟩ := DataW.trod_struct Tryd.underlying93 h
  rw [cThr] at hl
  match cs, hl with
  | [u0, u1, u2, u3, u4], _ =>
  match xs, hxl with
  | [y0, y1, y2, y3, y4], _ =>
  have e0 := hall 0 _ rfl
  have e1 := hall 1 _ rfl
  have e2 := hall 2 _ rfl
  have e3 := hall 3 _ rfl
  have e4 := hall 4 _ rfl
  simp only [cInt, cStr, List.drop_zero, List.drop_succ_cons, List.take_succ_cons, List.take_zero, List.getElem?_cons_zero, List.getElem?_cons_succ] at e0 e1 e2 e3 e4
  obtain ⟨z0, q0, r0, _⟩ := DataW.trod_int Tryd.underlying3 e0
  obtain ⟨z1, q1, r1, _⟩ := DataW.trod_int Tryd.underlying3 e1
  obtain ⟨z2, q2, r2, _⟩ := DataW.trod_int Tryd.underlying3 e2
  obtain ⟨z3, q3, r3, _⟩ := DataW.trod_int Tryd.underlying3 e3
  obtain ⟨z4, q4, r4, _⟩ := DataW.trod_string Tryd.underlying9 e4
  subst r0 r1 r2 r3 r4
  have hx' := congrArg Prod.fst hx
  simp only [List.map_cons, List.map_nil, DataW.agg.injEq, List.cons.injEq, DataW.lit.injEq, Lit.int.injEq, Lit.string.injEq, true_and, and_true] at hx'
  obtain ⟨rfl, rfl, rfl, rfl, rfl⟩ := hx'
  cases q0; cases q1; cases q2; cases q3; cases q4
  rfl
set_option maxRecDepth 100000 in
theorem th_none10 {W : World} (h : laidMet Tryd.prog Rows.attrsNoneRow.laid W) : Th W := by
  obtain ⟨g, t, cs, fuel, p, hg, ht, hv, hd⟩ := Lib.laidMet.reads h (n := "muniment/attrs.threes") (.tail _ (.head _))
  obtain rfl := Option.some.inj (gTh.symm.trans hg)
  obtain rfl := Option.some.inj (tTh.symm.trans ht)
  unfold Rows.laid_muniment_attrs_threes at hd
  obtain ⟨f0, d0, p0, x0, h0⟩ := Lib.array_elem Tryd.underlying94 hd 0 (by decide)
  obtain ⟨f1, d1, p1, x1, h1⟩ := Lib.array_elem Tryd.underlying94 hd 1 (by decide)
  obtain ⟨f2, d2, p2, x2, h2⟩ := Lib.array_elem Tryd.underlying94 hd 2 (by decide)
  simp only [List.getElem?_cons_zero, List.getElem?_cons_succ, Option.some.injEq] at x0 x1 x2
  subst x0 x1 x2
  have k0 := three_of h0
  have k1 := three_of h1
  have k2 := three_of h2
  rw [cThr] at k0 k1 k2
  have key : ∀ j v, thc[j]? = some v → cs.toList[j]? = some v := fun j v hj => by
    have hjl : j < 15 := (List.getElem?_eq_some_iff.1 hj).1
    have q : ∀ i m, m < 5 → ((cs.toList.drop (i * 5)).take 5)[m]? = cs.toList[i * 5 + m]? := fun i m hm => by
      rw [List.getElem?_take, if_pos hm, List.getElem?_drop]
    by_cases a : j < 5
    · have := q 0 j a
      rw [k0] at this
      rw [show j = 0 * 5 + j from by omega, ← this]
      revert hj; revert v
      rcases j with _ | _ | _ | _ | _ | j <;> first | (exact fun v hj => hj) | omega
    · by_cases b : j < 10
      · obtain ⟨m, rfl⟩ : ∃ m, j = 5 + m := ⟨j - 5, by omega⟩
        have := q 1 m (by omega)
        rw [k1] at this
        rw [show 5 + m = 1 * 5 + m from by omega, ← this]
        revert hj; revert v
        rcases m with _ | _ | _ | _ | _ | j <;> first | (exact fun v hj => hj) | omega
      · obtain ⟨m, rfl⟩ : ∃ m, j = 10 + m := ⟨j - 10, by omega⟩
        have := q 2 m (by omega)
        rw [k2] at this
        rw [show 10 + m = 2 * 5 + m from by omega, ← this]
        revert hj; revert v
        rcases m with _ | _ | _ | _ | _ | j <;> first | (exact fun v hj => hj) | omega
  have hc : ∀ j v, thc[j]? = some v → W.cell? ⟨0, j, none⟩ = some v := fun j v hj => by
    rw [World.var?_cell hg hv j, ← Array.getElem?_toList]
    exact key j v hj
  exact ⟨World.block_lt_of_cell? W _ (hc 0 _ rfl), hc⟩
end Go.Proofs.YtjnijcmalnckcaaDoor
