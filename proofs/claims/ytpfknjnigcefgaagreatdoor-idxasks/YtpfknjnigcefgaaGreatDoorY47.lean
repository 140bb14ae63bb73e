import Derived.Test.YtpfknjnigcefgaaGreatDoorY25
/- What was asked of an index, as it came in, opened. -/
namespace Go.Proofs.YtpfknjnigcefgaaGreatDoor
open Go.ChangeShapes Go.WideShapes Go.ChangeAt Go.RowKit Go.Joins
set_option linter.unusedSimpArgs false
set_option linter.unusedVariables false
section
variable {H : Type} {enc : TypeId × Value → H} {P : Program} {w : World} {base : Nat} {spare : Nat → Bool} {held : Bool}
theorem slice_cellX {t e : TypeId} {fuel : Nat} {v : Value} {x : DataW H × List MemPlace} (ht : P.underlying t = some (.slice e)) (h : DataW.trod enc P w 0 (fun _ => true) true fuel t [v] = some x) : ∃ a l c, v = .slice a l c ∧ DataW.Trod enc P w 0 (fun _ => true) true t (.slice a l c) x.1 x.2 := by
  rcases Go.Deep.open_slice ht h with ⟨h1, _⟩ | ⟨a, l, c, m, n, D, Pl, h1, _⟩
  · simp only [List.cons.injEq, and_true] at h1
    subst h1
    exact ⟨none, 0, 0, rfl, fuel, h⟩
  · simp only [List.cons.injEq, and_true] at h1
    subst h1
    exact ⟨some a, l, c, rfl, fuel, h⟩
end
theorem len4X {α : Type} : ∀ {l : List α}, l.length = 4 → ∃ a b c d, l = [a, b, c, d]
  | [a, b, c, d], _ => ⟨a, b, c, d, rfl⟩
  | [], h => by simp at h
  | [_], h => by simp at h
  | [_, _], h => by simp at h
  | [_, _, _], h => by simp at h
  | _ :: _ :: _ :: _ :: _ :: _, h => by simp at h
/-- Places of a slice. -/
theorem open_ips {H : Type} {enc : TypeId × Value → H} {w : World} {d : DataW H} {ps : List MemPlace} {a0 : Option Addr} {len cap : Nat}
    (h : DataW.Trod enc Tryz.prog w 0 (fun _ => true) true 38 (.slice a0 len cap) d ps) : IpL w a0 len := by
  have ce : Tryz.prog.cellsOf 3 = 1 := by kernel_rfl
  obtain ⟨hl, hall⟩ := open_elem Tryz.underlying38 (by rw [ce]; omega) h
  intro i hi
  obtain ⟨b, off, cs, D, Pl, n, ha, hb, hlen, hcell, htrod, hw⟩ := hall i hi
  rw [ce] at hlen hcell
  obtain ⟨k, e1, _, _⟩ := DataW.trod_int Tryz.underlying3 htrod
  subst e1
  refine ⟨b, off, k, ha, hb, ?_⟩
  have := hcell 0 (by omega)
  simpa using this
set_option maxRecDepth 100000 in
theorem open_ask {H : Type} {enc : TypeId × Value → H} {w : World} {fuel : Nat} {cs : List Value} {x : DataW H × List MemPlace} (h : DataW.trod enc Tryz.prog w 0 (fun _ => true) true fuel 40 cs = some x)
    (hsz : ∀ q ∈ x.1.weights Tryz.prog 40, q ≤ reachBytes) :
    ∃ (ai : Option Addr) (ni ci : Nat) (ids : List ByteArray) (ap : Option Addr) (np cp F : Nat) (lb : ByteArray), cs = [.slice ai ni ci, .slice ap np cp, .int .u8 (F : Int), .string lb] ∧ F < 256 ∧ lb.size ≤ 140737488351232 ∧ NmL w ai ids ∧ ids.length = ni ∧ IpL w ap np ∧ ni ≤ 1000000000000000 ∧ np ≤ 1000000000000000 := by
  have ce : Tryz.prog.cellsOf 40 = 4 := by kernel_rfl
  have k1 : Tryz.prog.cellsOf 5 = 1 := by kernel_rfl
  have k4 : Tryz.prog.cellsOf 9 = 1 := by kernel_rfl
  have k5 : Tryz.prog.cellsOf 37 = 1 := by kernel_rfl
  have k6 : Tryz.prog.cellsOf 38 = 1 := by kernel_rfl
  have b5 : Tryz.prog.bytesOf 23 = 32 := by kernel_rfl
  have b6 : Tryz.prog.bytesOf 3 = 8 := by kernel_rfl
  obtain ⟨y0, y1, y2, y3, m, hx, hlen, t0, t1, t2, t3⟩ := trod4x Tryz.underlying40 h
  rw [ce] at hlen
  obtain ⟨v0, v1, v2, v3, rfl⟩ := len4X hlen
  simp only [k1, k4, k5, k6] at t0 t1 t2 t3
  obtain ⟨n2, e2, _, w2⟩ := DataW.trod_int Tryz.underlying5 t2
  obtain ⟨s3, e3, hy3, w3⟩ := DataW.trod_string Tryz.underlying9 t3
  simp at e2 e3
  subst e2 e3
  simp only [List.drop_succ_cons, List.drop_zero, List.take_succ_cons, List.take_zero] at t0 t1
  obtain ⟨ai, ni, ci, rfl, ht0⟩ := slice_cellX Tryz.underlying37 t0
  obtain ⟨ap, np, cp, rfl, ht1⟩ := slice_cellX Tryz.underlying38 t1
  have hw3 := hsz s3.data.toList.length (by rw [hx, hy3]; simp [DataW.weights, Tryz.underlying40, DataW.weightsEach])
  have hw0 : ∀ q ∈ y0.1.weights Tryz.prog 37, q ≤ reachBytes := fun q hq => hsz q (by rw [hx]; simp [DataW.weights, Tryz.underlying40, DataW.weightsEach, hq])
  have hw1 : ∀ q ∈ y1.1.weights Tryz.prog 38, q ≤ reachBytes := fun q hq => hsz q (by rw [hx]; simp [DataW.weights, Tryz.underlying40, DataW.weightsEach, hq])
  have l0 := open_lenx Tryz.underlying37 ht0 hw0
  have l1 := open_lenx Tryz.underlying38 ht1 hw1
  rw [b5] at l0
  rw [b6] at l1
  unfold reachBytes at hw3 l0 l1
  have e : s3.data.toList.length = s3.size := Array.length_toList
  have hb : 0 ≤ n2 ∧ n2 ≤ 255 := by simpa [Lit.wf, IntKind.min, IntKind.max, IntKind.signed, IntKind.bits] using w2
  obtain ⟨ids, q1, q2, _⟩ := open_nms ht0
  exact ⟨ai, ni, ci, ids, ap, np, cp, n2.toNat, s3, by rw [show ((n2.toNat : Nat) : Int) = n2 from by omega], by omega, by omega, q2, q1, open_ips ht1, by omega, by omega⟩
end Go.Proofs.YtpfknjnigcefgaaGreatDoor
