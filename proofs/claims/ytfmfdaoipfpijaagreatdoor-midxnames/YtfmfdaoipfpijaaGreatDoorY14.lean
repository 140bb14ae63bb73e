import Derived.Test.YtfmfdaoipfpijaaGreatDoorY13
import Derived.Test.YtfmfdaoipfpijaaGreatDoorChecked
import Derived.Shelf.SlSortCmp.WholeK
import Derived.Shelf.SlSorted.Search
import Derived.Shelf.SlicesE.Clone
import Derived.Test.YtfmfdaoipfpijaaGreatDoorY9
import Derived.Sort.OwnSorted
import Derived.Test.YtfmfdaoipfpijaaGreatDoorY10
import Derived.Test.YtfmfdaoipfpijaaGreatDoorY11
/- midx.Index.mayBe. -/
namespace Go.Proofs.YtfmfdaoipfpijaaGreatDoor
open Go.RowKit
set_option linter.unusedSimpArgs false
set_option linter.unusedVariables false
/-- What a search for a bad row answers. -/
def IfE (l : List Mr) (e : Ending) : Prop := ∃ K : Int, e = .returned (.int .i64 K) ∧ (0 ≤ K ↔ ∃ r ∈ l, okX r.e = false)
def CfE (l : List Mr) (e : Ending) : Prop := ∃ b, e = .returned (.bool b) ∧ (b = true ↔ ∃ r ∈ l, okX r.e = false)
set_option maxHeartbeats 4000000 in
set_option maxRecDepth 100000 in
theorem index_bad (gr n : Nat) (l : List Mr) (w : World) (h : MrL w (some ⟨gr, 0, none⟩) l) (hl : l.length = n) (hn : n ≤ 1048576) :
    Calls Tryz.prog 79 #[.slice (some ⟨gr, 0, none⟩) n n, .func (.func 49) #[] #[]] w fun e w' => IfE l e ∧ Below w.heap.size w w' := by
  have H : Hid (∀ W, Below w.heap.size w W → MrL W (some ⟨gr, 0, none⟩) l) := fun W hW => h.below hW
  have HL : Hid (l.length = n) := hl
  clear h hl
  go_enter Tryz.func79, Tryz.ntmps79
  go_wp2
  go_loopw [8] (fun v wr => ∃ k : Nat, v = .int .i64 k ∧ k ≤ n ∧ Hid (Below w.heap.size w wr) ∧ Hid (∀ j r, j < k → l[j]? = some r → okX r.e = true)) (fun v _ => n - (intOf v).toNat)
  case atStart => exact ⟨0, rfl, Nat.zero_le _, Below.refl _ _, fun j r hj => by omega⟩
  case round =>
    obtain ⟨k, rfl, hk, HB, HC⟩ := hrel
    by_cases hlt : k < n
    · have hz : (k : Int) < (n : Int) := by omega
      obtain ⟨r, hr⟩ : ∃ r, l[k]? = some r := ⟨_, List.getElem?_eq_getElem (by have := HL.out; omega)⟩
      have HR : Hid (l[k]? = some r) := hr
      obtain ⟨⟨hp32, h32⟩, g', o', k1, k2, k3⟩ := H.out wr HB.out k r hr
      simp only [Option.some.injEq, Addr.mk.injEq] at k1
      obtain ⟨rfl, rfl, _⟩ := k1
      have HBD : Hid (∀ W, Calls Tryz.prog 49 #[.agg (mrC r)] W fun e w' => e = .returned (.bool (!okX r.e)) ∧ Below W.heap.size W w') := fun W => bad_any r W hp32 h32
      have C3 : Hid (∀ j v, (mrC r).toList[j]? = some v → wr.cell? ⟨gr, k * 67 + j, none⟩ = some v) := fun j v hv => by
        have := k3 j v (by rwa [Array.getElem?_toList] at hv)
        rwa [Nat.zero_add] at this
      have HI : Hid ((Tryz.prog.info? 28).map (·.size) = some (mrC r).toList.length) := by
        show _ = _
        rw [Array.length_toList]; exact info_mr (mrC_size r hp32 h32)
      obtain ⟨X, hX⟩ : ∃ X, mrC r = X := ⟨_, rfl⟩
      rw [hX] at HBD C3 HI
      clear hX k2 k3 hp32 h32 hr
      go_wp2_with (first
        | (refine wpList_load_mid rfl 28 (.tmp 14) rfl gr (k * 67) rfl X.toList _ C3.out Tryz.underlying28 rfl HI.out ?_)
        | fail)
      refine Calls.mono (HBD.out wr) ?_
      rintro e w3 ⟨rfl, hb3⟩
      have HB3 : Hid (Below w.heap.size w w3) := HB.out.trans (hb3.mono HB.out.size)
      clear hb3 C3 HBD HI
      cases hq : okX r.e with
      | true =>
        have HQ : Hid (okX r.e = true) := hq
        clear hq
        go_wp2
        go_roundw
        case rel =>
          refine ⟨k + 1, by go_num, by omega, HB3.out, fun j x hj hx => ?_⟩
          by_cases he : j = k
          · subst he
            have e1 := HR.out
            rw [hx] at e1
            injection e1 with e1
            rw [e1]
            exact HQ.out
          · exact HC.out j x (by omega) hx
        case measure => simp [intOf]; omega
      | false =>
        have HQ : Hid (okX r.e = false) := hq
        clear hq
        go_wp2
        go_ret
        exact ⟨⟨(k : Int), rfl, ⟨fun _ => ⟨r, List.mem_of_getElem? HR.out, HQ.out⟩, fun _ => by omega⟩⟩, HB3.out⟩
    · have hz : ¬ (k : Int) < (n : Int) := by omega
      have HK : Hid (k = n) := by show k = n; omega
      go_wp2
      go_ret
      refine ⟨⟨-1, rfl, ⟨fun q => absurd q (by decide), fun ⟨r, h1, h2⟩ => ?_⟩⟩, HB.out⟩
      obtain ⟨j, hj⟩ := List.getElem?_of_mem h1
      have := HC.out j r (by have := (List.getElem?_eq_some_iff.1 hj).1; have := HL.out; have := HK.out; omega) hj
      rw [h2] at this
      cases this
set_option maxHeartbeats 4000000 in
set_option maxRecDepth 100000 in
theorem contains_bad (gr n : Nat) (l : List Mr) (w : World) (h : MrL w (some ⟨gr, 0, none⟩) l) (hl : l.length = n) (hn : n ≤ 1048576) :
    Calls Tryz.prog 54 #[.slice (some ⟨gr, 0, none⟩) n n, .func (.func 49) #[] #[]] w fun e w' => CfE l e ∧ Below w.heap.size w w' := by
  have H : Hid (Calls Tryz.prog 79 #[.slice (some ⟨gr, 0, none⟩) n n, .func (.func 49) #[] #[]] w fun e w' => IfE l e ∧ Below w.heap.size w w') := index_bad gr n l w h hl hn
  clear h hl
  go_enter Tryz.func54, Tryz.ntmps54
  go_wp2_with fail
  refine H.out.mono ?_
  rintro e w2 ⟨⟨K, rfl, hK⟩, hb⟩
  have HK : Hid ((0 ≤ K ↔ ∃ r ∈ l, okX r.e = false) ∧ Below w.heap.size w w2) := ⟨hK, hb⟩
  clear hK hb H
  go_wp2
  go_ret
  refine ⟨⟨decide (0 ≤ K), rfl, ?_⟩, HK.out.2⟩
  rw [decide_eq_true_iff]
  exact HK.out.1
/-- What mayBe answers. -/
def MbE (ps : List ByteArray) (l : List Mr) (e : Ending) : Prop := ∃ b, e = .returned (.bool b) ∧ (b = true ↔ RiN ps ∧ RiM l ∧ ∀ r ∈ l, okX r.e = true)
theorem rim_rin {l : List Mr} : RiN (l.map (fun r => r.e.id)) ↔ RiM l := by
  unfold RiN RiM Rise
  rw [List.pairwise_map, List.pairwise_map]
set_option maxHeartbeats 4000000 in
set_option maxRecDepth 100000 in
theorem mmayBe_any (g : Nat) (ps : List ByteArray) (l : List Mr) (w : World) (h : MxS w g ps l) :
    Calls Tryz.prog 19 #[.pointer (some ⟨g, 0, none⟩)] w fun e w' => MbE ps l e ∧ Below w.heap.size w w' := by
  have hbx := bk_new w #[.pointer (some ⟨g, 0, none⟩)] 22
  have hal : Below w.heap.size w (w.alloc (.cells #[.pointer (some ⟨g, 0, none⟩)] 22)) := (Below.refl _ _).alloc (Nat.le_refl _) _
  obtain ⟨w0, hw0⟩ : ∃ w0, w.alloc (.cells #[.pointer (some ⟨g, 0, none⟩)] 22) = w0 := ⟨_, rfl⟩
  rw [hw0] at hbx hal
  have HX : Hid (∀ W, Below w0.heap.size w0 W → W.cell? ⟨w.heap.size, 0, none⟩ = some (.pointer (some ⟨g, 0, none⟩)) ∧ MxS W g ps l) := fun W hW => ⟨by rw [(hbx.below hW hbx.lt).cell]; rfl, (h.below hal).below hW⟩
  have HAL : Hid (w.alloc (.cells #[.pointer (some ⟨g, 0, none⟩)] 22) = w0 ∧ Below w.heap.size w w0) := ⟨hw0, hal⟩
  obtain ⟨gp, gr, h1, h2, h3⟩ := h.row
  have HCC : Hid (∀ W, Below w0.heap.size w0 W → W.cell? ⟨g, 0, none⟩ = some (.slice (some ⟨gp, 0, none⟩) ps.length ps.length) ∧ W.cell? ⟨g, 1, none⟩ = some (.slice (some ⟨gr, 0, none⟩) l.length l.length)) := fun W hW => by
    have hb := (h1.below hal h1.lt).below hW (h1.below hal h1.lt).lt
    exact ⟨by rw [hb.cell]; rfl, by rw [hb.cell]; rfl⟩
  have HN : Hid ((∀ s ∈ ps, s.size = 32) ∧ ∀ s ∈ l.map (fun r => r.e.id), s.size = 32) := ⟨fun s hs => by obtain ⟨i, hi⟩ := List.getElem?_of_mem hs; exact (h2 i s hi).1, fun s hs => by
    obtain ⟨r, hr, rfl⟩ := List.mem_map.1 hs
    exact (h3.ids r hr).2⟩
  have HM : Hid (∀ W, Below w0.heap.size w0 W → MrL W (some ⟨gr, 0, none⟩) l) := fun W hW => (h3.below hal).below hW
  have hpl := h.pl
  have hll := h.ll
  obtain ⟨n, hn⟩ : ∃ n, ps.length = n := ⟨_, rfl⟩
  obtain ⟨m, hm⟩ : ∃ m, l.length = m := ⟨_, rfl⟩
  have HLN : Hid (ps.length = n ∧ l.length = m) := ⟨hn, hm⟩
  rw [hn] at hpl HCC
  rw [hm] at hll HCC
  have HR1 : Hid (∀ W, Below w0.heap.size w0 W → Calls Tryz.prog 51 #[.int .i64 (n : Int), .func (.func 52) #[] #[.pointer (some ⟨w.heap.size, 0, none⟩)]] W fun e w' => RsE ps e ∧ Below W.heap.size W w') := fun W hW => by
    have := rise_any ps 52 #[.pointer (some ⟨w.heap.size, 0, none⟩)] W (by rw [HLN.out.1]; omega) HN.out.1 enter_may2 (fun i s V hi hV => by
      have hq := HX.out V (hW.trans (hV.mono hW.size))
      exact pkAt_any w.heap.size g i ps l s V hq.1 hq.2 hi)
    rwa [HLN.out.1] at this
  have HR2 : Hid (∀ W, Below w0.heap.size w0 W → Calls Tryz.prog 51 #[.int .i64 (m : Int), .func (.func 53) #[] #[.pointer (some ⟨w.heap.size, 0, none⟩)]] W fun e w' => RsE (l.map (fun r => r.e.id)) e ∧ Below W.heap.size W w') := fun W hW => by
    have := rise_any (l.map (fun r => r.e.id)) 53 #[.pointer (some ⟨w.heap.size, 0, none⟩)] W (by rw [List.length_map, HLN.out.2]; omega) HN.out.2 enter_may3 (fun i s V hi hV => by
      have hq := HX.out V (hW.trans (hV.mono hW.size))
      rw [List.getElem?_map] at hi
      cases hr : l[i]? with
      | none => rw [hr] at hi; cases hi
      | some r =>
        rw [hr] at hi
        injection hi with hi
        rw [← hi]
        exact rwAt_any w.heap.size g i ps l r V hq.1 hq.2 hr)
    rwa [List.length_map, HLN.out.2] at this
  have HCF : Hid (∀ W, Below w0.heap.size w0 W → Calls Tryz.prog 54 #[.slice (some ⟨gr, 0, none⟩) m m, .func (.func 49) #[] #[]] W fun e w' => CfE l e ∧ Below W.heap.size W w') := fun W hW => contains_bad gr m l W (HM.out W hW) HLN.out.2 hll
  have hmf : ∀ (fn : Fn) (first cap : Array Value) (w : World), (Instr.makeFunc fn first cap).run Tryz.prog w = .ok (.func fn first cap) w := fun _ _ _ _ => rfl
  have c1 := (HX.out w0 (Below.refl _ _)).1
  have c2 := (HCC.out w0 (Below.refl _ _)).1
  have HEQ : Hid (∀ b1 : Bool, (b1 = true ↔ RiN (l.map (fun r => r.e.id))) → (b1 = true ↔ RiM l)) := fun b1 q => q.trans rim_rin
  clear hbx hal h h1 h2 h3 hn hm HN HM
  rw [← hw0] at c1 c2
  clear hw0
  go_enter Tryz.func19, Tryz.ntmps19
  go_wp2_with fail
  rw [show w.alloc (.cells #[.pointer (some ⟨g, 0, none⟩)] 22) = w0 from HAL.out.1]
  refine (HR1.out w0 (Below.refl _ _)).mono ?_
  rintro e w2 ⟨⟨b1, rfl, hb1⟩, hbw⟩
  have H2 : Hid ((b1 = true ↔ RiN ps) ∧ Below w0.heap.size w0 w2) := ⟨hb1, hbw⟩
  clear hb1 hbw c1 c2 HR1
  cases b1 with
  | false =>
    go_wp2
    go_ret
    exact ⟨⟨false, rfl, ⟨fun q => (by cases q), fun q => H2.out.1.2 q.1⟩⟩, HAL.out.2.trans (H2.out.2.mono HAL.out.2.size)⟩
  | true =>
    have c1 := (HX.out w2 H2.out.2).1
    have c3 := (HCC.out w2 H2.out.2).2
    go_wp2_with fail
    refine (HR2.out w2 H2.out.2).mono ?_
    rintro e w3 ⟨⟨b2, rfl, hb2⟩, hbw⟩
    have H3 : Hid ((b2 = true ↔ RiM l) ∧ Below w0.heap.size w0 w3) := ⟨HEQ.out b2 hb2, H2.out.2.trans (hbw.mono H2.out.2.size)⟩
    clear hb2 hbw c1 c3 HR2
    cases b2 with
    | false =>
      go_wp2
      go_ret
      exact ⟨⟨false, rfl, ⟨fun q => (by cases q), fun q => H3.out.1.2 q.2.1⟩⟩, HAL.out.2.trans (H3.out.2.mono HAL.out.2.size)⟩
    | true =>
      have c1 := (HX.out w3 H3.out.2).1
      have c3 := (HCC.out w3 H3.out.2).2
      go_wp2_with fail
      refine (HCF.out w3 H3.out.2).mono ?_
      rintro e w4 ⟨⟨b3, rfl, hb3⟩, hbw⟩
      have H4 : Hid ((b3 = true ↔ ∃ r ∈ l, okX r.e = false) ∧ Below w0.heap.size w0 w4) := ⟨hb3, H3.out.2.trans (hbw.mono H3.out.2.size)⟩
      clear hb3 hbw c1 c3 HCF
      go_wp2
      go_ret
      refine ⟨⟨!b3, rfl, ?_⟩, HAL.out.2.trans (H4.out.2.mono HAL.out.2.size)⟩
      have h1 := H2.out.1.1 (by simp)
      have h2 := H3.out.1.1 (by simp)
      cases b3 with
      | true =>
        obtain ⟨r, k1, k2⟩ := H4.out.1.1 rfl
        exact ⟨fun q => (by cases q), fun q => (by have := q.2.2 r k1; rw [k2] at this; cases this)⟩
      | false =>
        refine ⟨fun _ => ⟨h1, h2, fun r hr => ?_⟩, fun _ => rfl⟩
        cases hq : okX r.e with
        | true => rfl
        | false => exact absurd (H4.out.1.2 ⟨r, hr, hq⟩) (by decide)
end Go.Proofs.YtfmfdaoipfpijaaGreatDoor
/- The layings of slices.SortFunc, slices.Clone at entries, of sort.Search. -/
namespace Go.Proofs.YtfmfdaoipfpijaaGreatDoor
open Go.Shelf
def laysO16_ren : Go.Shelf.Ren := ⟨fun | 16 => 14 | n => n, fun | 3 => 3 | 35 => 48 | 4 => 4 | 38 => 66 | n => n, fun | n => n⟩
theorem laysO16 : Go.Proofs.SlLaysO.n16 Tryz.prog laysO16_ren := {
  mixed := by kernel_rfl
  f16 := Tryz.func14.trans (congrArg some (by kernel_rfl))
  t3 := Tryz.underlying3
  a3 := Tryz.isAgg3
  z3 := Tryz.sizeOf3
  v3 := Tryz.zeroValue3
  t4 := Tryz.underlying4
  a4 := Tryz.isAgg4
  z4 := Tryz.sizeOf4
  v4 := Tryz.zeroValue4
  t35 := Tryz.underlying48
  a35 := Tryz.isAgg48
  z35 := Tryz.sizeOf48
  v35 := Tryz.zeroValue48
  t38 := Tryz.underlying66
  a38 := Tryz.isAgg66
  z38 := Tryz.sizeOf66
  v38 := Tryz.zeroValue66 }
def laysE41_ren : Go.Shelf.Ren := ⟨fun | 41 => 67 | n => n, fun | 22 => 74 | 23 => 26 | 4 => 4 | n => n, fun | n => n⟩
theorem laysE41 : Go.Proofs.SlLaysE0.n41 Tryz.prog laysE41_ren := {
  mixed := by kernel_rfl
  f41 := ⟨Tryz.f67.name, by decide, Tryz.func67.trans (congrArg some (by kernel_rfl))⟩
  t4 := Tryz.underlying4
  a4 := Tryz.isAgg4
  z4 := Tryz.sizeOf4
  v4 := Tryz.zeroValue4
  t22 := Tryz.underlying74
  a22 := Tryz.isAgg74
  z22 := Tryz.sizeOf74
  v22 := Tryz.zeroValue74 }
end Go.Proofs.YtfmfdaoipfpijaaGreatDoor
/- Entries copied (slices.Clone) and sorted (slices.SortFunc). -/
namespace Go.Proofs.YtfmfdaoipfpijaaGreatDoor
open Go.RowKit Go.Sort
set_option linter.unusedSimpArgs false
set_option linter.unusedVariables false
/-- An entry whose name has 32 bytes. -/
abbrev Xf := { e : Xe // e.id.size = 32 }
instance : Inhabited Xf := ⟨⟨⟨⟨(List.replicate 32 (0 : UInt8)).toArray⟩, 0, 0, 0⟩, rfl⟩⟩
def encX (e : Xf) : List Value := (xeC e.1).toList
def cfX (a b : Xf) : Int := ordI a.1 b.1
theorem ltX (a b : Xf) : ltOf cfX a b = ltN a.1.id b.1.id := by
  unfold ltOf cfX ordI
  by_cases h : a.1.id = b.1.id
  · rw [if_pos h, h, ltN_irr]; rfl
  · rw [if_neg h]
    cases hl : ltN a.1.id b.1.id <;> rfl
theorem swoX : SWO (ltOf cfX) where
  irrefl x := by rw [ltX]; exact ltN_irr _
  trans x y z h1 h2 := by rw [ltX] at *; exact ltN_trans h1 h2
  ntrans x y z h1 h2 := by
    rw [ltX] at *
    rw [Bool.eq_false_iff]
    intro h3
    cases q : ltN z.1.id y.1.id with
    | true => rw [ltN_trans h3 q] at h1; cases h1
    | false =>
      have := ltN_tri h2 q
      rw [this] at h1
      rw [h1] at h3; cases h3
def toX (l : List Xe) (hs : ∀ e ∈ l, e.id.size = 32) : List Xf := l.pmap (fun e h => ⟨e, h⟩) hs
theorem toX_val : ∀ (l : List Xe) (hs : ∀ e ∈ l, e.id.size = 32), (toX l hs).map (fun x : Xf => x.1) = l
  | [], _ => rfl
  | e :: l, hs => by
    have ih := toX_val l (fun x hx => hs x (List.mem_cons_of_mem _ hx))
    show e :: (toX l _).map (fun x : Xf => x.1) = e :: l
    rw [ih]
theorem toX_len (l : List Xe) (hs : ∀ e ∈ l, e.id.size = 32) : (toX l hs).length = l.length := by simp [toX]
/-- The cells of a row of entries, flat. -/
theorem flat_xvs (d : List Xf) : (flatK encX 35 d.toArray).toList = xvs (d.map (fun x : Xf => x.1)) := by
  have hs : ∀ e ∈ d.map (fun x : Xf => x.1), e.id.size = 32 := fun e he => by
    obtain ⟨x, _, rfl⟩ := List.mem_map.1 he
    exact x.2
  apply List.ext_getElem
  · rw [Array.length_toList, size_flatK, xvs_len hs, List.length_map, List.size_toArray]
  · intro t h1 h2
    have ht : t < d.length * 35 := by rw [Array.length_toList, size_flatK, List.size_toArray] at h1; exact h1
    have hq : t / 35 < d.length := by omega
    have e1 : (flatK encX 35 d.toArray).toList[t] = (flatK encX 35 d.toArray)[t]! := by
      rw [Array.getElem_toList, getElem!_pos _ t (by rw [size_flatK, List.size_toArray]; exact ht)]
    rw [e1, get_flatK _ _ _ _ (by rw [List.size_toArray]; exact ht)]
    have e2 : (d.map (fun x : Xf => x.1))[t / 35]? = some (d[t / 35]).1 := by rw [List.getElem?_map, List.getElem?_eq_getElem hq]; rfl
    have e3 := xvs_get hs e2 (t % 35) (Nat.mod_lt _ (by decide))
    rw [show t / 35 * 35 + t % 35 = t from by omega, List.getElem?_eq_getElem h2] at e3
    have e4 : d.toArray[t / 35]! = d[t / 35] := by rw [getElem!_pos _ _ (by rw [List.size_toArray]; exact hq), List.getElem_toArray]
    rw [e4]
    have hz : t % 35 < (encX d[t / 35]).length := by
      unfold encX
      rw [Array.length_toList, xeC_size _ (d[t / 35]).2]
      exact Nat.mod_lt _ (by decide)
    rw [getElem!_pos (encX d[t / 35]) (t % 35) hz]
    have e5 : (xeC (d[t / 35]).1)[t % 35]? = some ((encX d[t / 35])[t % 35]) := by
      rw [← Array.getElem?_toList]
      exact List.getElem?_eq_getElem hz
    rw [e5] at e3
    exact (Option.some.inj e3).symm
theorem heap_sortX {w : World} {g n : Nat} {os : Array Obj} {cur : Array Value} {e : TypeId} (F : Array Value) (hb : w.heap[g]? = some (.cells cur e (0, 0))) :
    (grow (putRow id (Sort.ahead w n) g 0 F) os).heap[g]? = some (.cells (putCells id 0 F cur) e (0, 0)) := by
  have hg : g < w.heap.size := (Array.getElem?_eq_some_iff.1 hb).1
  rw [heap_grow_old _ _ (by simpa using hg)]
  simp [putRow, mapBlock, Sort.ahead, Array.getElem?_modify, hb, onCells]
theorem grown_sortX {w : World} {g n : Nat} {os : Array Obj} (F : Array Value) : w.grownBy (grow (putRow id (Sort.ahead w n) g 0 F) os) (some g) := by
  refine ⟨rfl, rfl, rfl, by simp, fun k hk hne => ?_⟩
  rw [heap_grow_old _ _ (by simpa using hk)]
  have : g ≠ k := fun e => hne (by rw [e])
  simp [putRow, mapBlock, Sort.ahead, Array.getElem?_modify, this]
theorem take_putX (cur F : Array Value) (h : F.size ≤ cur.size) : (putCells id 0 F cur).toList.take F.size = F.toList := by
  apply List.ext_getElem?
  intro j
  by_cases hj : j < F.size
  · rw [List.getElem?_take_of_lt hj, Array.getElem?_toList, Array.getElem?_toList]
    simp [putCells, hj, show j < cur.size by omega]
  · rw [List.getElem?_take_eq_none (by omega), List.getElem?_eq_none (by simp; omega)]
theorem cmpX (blk off size : Nat) (w : World) : CmpLays Tryz.prog 86 #[] encX 35 cfX blk off size w := fun _ _ _ _ x y => order_any x.1 y.1 _ x.2 y.2
set_option maxRecDepth 100000 in
/-- Entries copied. -/
theorem clone_any (a : Option Addr) (n c : Nat) (l : List Xe) (w : World) (hX : XeL w a l) (hl : l.length = n) (hA : a = none ∨ ∃ g o, a = some ⟨g, o, none⟩) (hn : n ≤ 2000000000) :
    Calls Tryz.prog 67 #[.slice a n c] w fun e w' => ∃ v, e = .returned v ∧ w'.ownsRow w.heap.size 26 35 v n (xvs l) ∧ Below w.heap.size w w' := by
  rcases hA with rfl | ⟨g, o, rfl⟩
  · have h0 : l = [] := by
      cases l with
      | nil => rfl
      | cons e l =>
        obtain ⟨_, g, o, h, _⟩ := hX 0 e rfl
        cases h
    subst h0
    subst hl
    refine (AnyE.slices_Clone_nil laysE41 _ c w).mono ?_
    rintro e w' ⟨rfl, rfl⟩
    exact ⟨_, rfl, ⟨rfl, .inl ⟨rfl, rfl⟩⟩, Below.refl _ _⟩
  · obtain ⟨i0, hi, hz0, hz1, hz2⟩ := info_parts inf_xe
    have hs := hX.ids
    refine (AnyE.slices_Clone laysE41 i0 (.agg z35X) 35 56 hi hz0 hz1 hz2 rfl (by decide) Tryz.sizeOf26 g o n c (xvs l) w (by rw [xvs_len hs, hl]) (by unfold maxLen; omega) (by omega) (fun j u hu => ?_) (xvs_one l)).mono ?_
    · have hj : j < l.length * 35 := by
        have := (List.getElem?_eq_some_iff.1 hu).1
        rwa [xvs_len hs] at this
      have hq : j / 35 < l.length := by omega
      obtain ⟨_, g', o', h, _, hc⟩ := hX (j / 35) (l[j / 35]) (List.getElem?_eq_getElem hq)
      injection h with h
      injection h with h1 h2
      subst h1
      subst h2
      have := xvs_get hs (List.getElem?_eq_getElem hq) (j % 35) (Nat.mod_lt _ (by decide))
      rw [show j / 35 * 35 + j % 35 = j from by omega, hu] at this
      have q := hc (j % 35) u this.symm
      rwa [show o + j / 35 * 35 + j % 35 = o + j from by omega] at q
    · rintro e w' ⟨v, rfl, ho, _, hb⟩
      exact ⟨v, rfl, ho, hb⟩
end Go.Proofs.YtfmfdaoipfpijaaGreatDoor
/- idx.Index: Pack, Len, At, Range, All. -/
namespace Go.Proofs.YtfmfdaoipfpijaaGreatDoor
open Go.RowKit
set_option linter.unusedSimpArgs false
set_option linter.unusedVariables false
theorem fanB_succ (l : List Xe) (b : Nat) : fanB l (b + 1) = fanL l b := by
  unfold fanB fanL
  congr 1
  funext e
  exact decide_eq_decide.2 (by omega)
theorem fanB_zero (l : List Xe) : fanB l 0 = 0 := by
  unfold fanB
  rw [List.countP_eq_zero]
  intro e _
  simp
theorem iall_any (g : Nat) (s : ByteArray) (l : List Xe) (w : World) (h : IxS w g s l) (hn : l.length ≤ 65536) : Calls Tryz.prog 28 #[.pointer (some ⟨g, 0, none⟩)] w fun e w' => ∃ v, e = .returned v ∧ w'.ownsRow w.heap.size 26 35 v l.length (xvs l) ∧ Below w.heap.size w w' := by
  obtain ⟨a, n, c, hB, hX, hl, hc, hA⟩ := h.row
  have hq : w.cell? ⟨g, 288, none⟩ = some (.slice a n c) := by rw [hB.cell]; exact ixC_row s _ _ h.id
  have HC : Hid (Calls Tryz.prog 67 #[.slice a n c] w fun e w' => ∃ v, e = .returned v ∧ w'.ownsRow w.heap.size 26 35 v n (xvs l) ∧ Below w.heap.size w w') := clone_any a n c l w hX hl hA (by omega)
  rw [hl]
  clear h hB hX hl hA
  go_enter Tryz.func28, Tryz.ntmps28
  go_wp2_with fail
  refine HC.out.mono ?_
  rintro e w1 ⟨v, rfl, ho, hb⟩
  have HE : Hid (w1.ownsRow w.heap.size 26 35 v n (xvs l) ∧ Below w.heap.size w w1) := ⟨ho, hb⟩
  obtain ⟨va, vc, hvv⟩ : ∃ va vc, v = .slice va n vc := by
    rcases ho.2 with ⟨h1, h0⟩ | ⟨g, cap, cur, h1, _⟩
    · exact ⟨none, 0, by rw [h1, h0]⟩
    · exact ⟨_, _, h1⟩
  subst hvv
  clear ho hb
  go_wp2
  go_ret
  exact ⟨_, rfl, HE.out⟩
end Go.Proofs.YtfmfdaoipfpijaaGreatDoor
/- idx.Index.Find: its closure. -/
namespace Go.Proofs.YtfmfdaoipfpijaaGreatDoor
open Go.RowKit
set_option linter.unusedSimpArgs false
set_option linter.unusedVariables false
/-- Worlds that have grown out of this one. -/
def Grw (W0 W : World) : Prop := ∃ q os, W = Sort.grow (W0.drewN q) os
theorem Grw.drew (W0 : World) : Grw W0 W0.drew := ⟨1, #[], by rw [Sort.grow_empty]; rfl⟩
theorem Grw.next {W0 W W' : World} (h : Grw W0 W) (h' : Grw W W') : Grw W0 W' := by
  obtain ⟨q, os, rfl⟩ := h
  obtain ⟨q', os', rfl⟩ := h'
  refine ⟨q + q', os ++ os', ?_⟩
  show Sort.grow (Sort.grow ((W0.drewN q).drewN q') os) os' = _
  rw [Sort.grow_grow, World.drewN_drewN]
theorem Grw.below {W0 W : World} (h : Grw W0 W) : Below W0.heap.size W0 W := by
  obtain ⟨q, os, rfl⟩ := h
  exact grow_below _ _ _
theorem ret_bX {a b : Bool} (h : b = a) : Ending.returned (.bool a) = .returned (.bool b) := by rw [h]
end Go.Proofs.YtfmfdaoipfpijaaGreatDoor
/- midx.Index.bytes: its closure isAbove, and the search with it: how many names' first byte is not above. -/
namespace Go.Proofs.YtfmfdaoipfpijaaGreatDoor
open Go.RowKit
set_option linter.unusedSimpArgs false
set_option linter.unusedVariables false
/-- An index in memory, its rows wherever, with whatever room. -/
structure MxW (w : World) (g : Nat) (ps : List ByteArray) (l : List Mr) : Prop where
  row : ∃ ap ar cp cr, Bk w g #[.slice ap ps.length cp, .slice ar l.length cr] 47 ∧ NmL w ap ps ∧ MrL w ar l
  pl : ps.length ≤ 4096
  ll : l.length ≤ 1048576
theorem MxW.below {w w' : World} {g : Nat} {ps : List ByteArray} {l : List Mr} (h : MxW w g ps l) (hb : Below w.heap.size w w') : MxW w' g ps l := by
  obtain ⟨ap, ar, cp, cr, h1, h2, h3⟩ := h.row
  exact ⟨⟨ap, ar, cp, cr, h1.below hb h1.lt, h2.below hb, h3.below hb⟩, h.pl, h.ll⟩
theorem MxS.w {w : World} {g : Nat} {ps : List ByteArray} {l : List Mr} (h : MxS w g ps l) : MxW w g ps l := by
  obtain ⟨gp, gr, h1, h2, h3⟩ := h.row
  exact ⟨⟨_, _, _, _, h1, h2, h3⟩, h.pl, h.ll⟩
theorem range_ltF (F : Nat) : ∀ N, (List.range N).countP (fun i => decide (i < F)) = min N F
  | 0 => by simp
  | N + 1 => by
    rw [List.range_succ, List.countP_append, range_ltF F N]
    by_cases h : N < F
    · simp [h]; omega
    · simp [h]; omega
theorem range_cntF {N F : Nat} {q : Nat → Bool} (h : ∀ i, i < N → q i = decide (i < F)) (hF : F ≤ N) : (List.range N).countP q = F := by
  have e : (List.range N).countP q = (List.range N).countP (fun i => decide (i < F)) := List.countP_congr (fun i hi => by rw [h i (List.mem_range.1 hi)])
  rw [e, range_ltF]
  omega
set_option maxHeartbeats 4000000 in
set_option maxRecDepth 100000 in
theorem above_any (bx bf g i f : Nat) (ps : List ByteArray) (l : List Mr) (r : Mr) (w : World) (hx : w.cell? ⟨bx, 0, none⟩ = some (.pointer (some ⟨g, 0, none⟩))) (hf : w.cell? ⟨bf, 0, none⟩ = some (.int .i64 (f : Int))) (h : MxW w g ps l) (hr : l[i]? = some r) :
    Calls Tryz.prog 40 (#[.int .i64 (i : Int)] ++ #[.pointer (some ⟨bx, 0, none⟩), .pointer (some ⟨bf, 0, none⟩)]) w fun e w' => e = .returned (.bool (decide (f < fst8 r.e))) ∧ Grw w w' := by
  obtain ⟨ap, ar, cp, cr, h1, h2, h3⟩ := h.row
  have hll := h.ll
  have hil : i < l.length := (List.getElem?_eq_some_iff.1 hr).1
  obtain ⟨⟨hp32, h32⟩, gr, ro, rfl, k2, k3⟩ := h3 i r hr
  have lx := block_lt_of_cell hx
  have lf := block_lt_of_cell hf
  obtain ⟨n, hn⟩ : ∃ n, l.length = n := ⟨_, rfl⟩
  have C1 : Hid (∀ W, Grw w W → W.cell? ⟨bx, 0, none⟩ = some (.pointer (some ⟨g, 0, none⟩))) := fun W hW => by rw [hW.below.cell lx]; exact hx
  have C2 : Hid (∀ W, Grw w W → W.cell? ⟨bf, 0, none⟩ = some (.int .i64 (f : Int))) := fun W hW => by rw [hW.below.cell lf]; exact hf
  have C4 : Hid (∀ W, Grw w W → W.cell? ⟨g, 1, none⟩ = some (.slice (some ⟨gr, ro, none⟩) n cr)) := fun W hW => by
    rw [(h1.below hW.below h1.lt).cell, ← hn]; rfl
  have C5 : Hid (∀ W, Grw w W → W.cell? ⟨gr, ro + i * 67 + 32, none⟩ = some (.int .u8 (fst8 r.e : Int))) := fun W hW => by
    rw [hW.below.cell (p := ⟨gr, ro + i * 67 + 32, none⟩) k2]
    exact k3 (32 + 0) _ (mrC_e r hp32 0 _ (fst8_cell r.e h32))
  rw [hn] at hll hil
  obtain ⟨k, hk⟩ : ∃ k, fst8 r.e = k := ⟨_, rfl⟩
  have hk8 : k < 256 := by rw [← hk]; exact fst8_lt _
  rw [hk] at C5 ⊢
  have hiz : (i : Int) < (n : Int) := by omega
  have hwr : IntKind.i64.wrap (k : Int) = (k : Int) := by rw [IntKind.wrap_i64]; omega
  clear hx hf h h1 h2 h3 k2 k3 hr hn hk lx lf hp32 h32
  show Calls Tryz.prog 40 #[.int .i64 (i : Int), .pointer (some ⟨bx, 0, none⟩), .pointer (some ⟨bf, 0, none⟩)] w _
  go_enter Tryz.func40, Tryz.ntmps40
  go_wp2_with fail
  refine region_class10 (Grw w) (by kernel_rfl) (by kernel_rfl) (Grw.drew w) ?_
  try simp only [Act.put, List.setIfInBounds_toArray, List.set_cons_zero, List.set_cons_succ]
  repeat (first
    | go_big_quiet_skip
    | (go_big_quiet_want
       first
         | (refine quiet_one 22 _ rfl bx 0 (.pointer (some ⟨g, 0, none⟩)) rfl (fun _ => by kernel_rfl) C1.out ?_; go_big_quiet_on; simp only [Act.put, List.setIfInBounds_toArray, List.set_cons_zero, List.set_cons_succ])
         | (refine quiet_one 3 _ rfl bf 0 (.int .i64 (f : Int)) rfl (fun _ => by kernel_rfl) C2.out ?_; go_big_quiet_on; simp only [Act.put, List.setIfInBounds_toArray, List.set_cons_zero, List.set_cons_succ])
         | (refine quiet_one 40 _ rfl g 1 (.slice (some ⟨gr, ro, none⟩) n cr) rfl (fun _ => by kernel_rfl) C4.out ?_; go_big_quiet_on; simp only [Act.put, List.setIfInBounds_toArray, List.set_cons_zero, List.set_cons_succ])
         | (refine quiet_one 5 _ rfl gr (ro + i * 67 + 32) (.int .u8 (k : Int)) rfl (fun _ => by kernel_rfl) C5.out ?_; go_big_quiet_on; simp only [Act.put, List.setIfInBounds_toArray, List.set_cons_zero, List.set_cons_succ])
         | (refine quiet_val10 (.pointer (some ⟨g, 0, none⟩)) ?_ ?_; (focus (intro W hW; go_simp; done)); go_big_quiet_on; simp only [Act.put, List.setIfInBounds_toArray, List.set_cons_zero, List.set_cons_succ])
         | (refine quiet_val10 (.pointer (some ⟨g, 1, none⟩)) ?_ ?_; (focus (intro W hW; go_simp; done)); go_big_quiet_on; simp only [Act.put, List.setIfInBounds_toArray, List.set_cons_zero, List.set_cons_succ])
         | (refine quiet_val10 (.pointer (some ⟨gr, ro + i * 67, none⟩)) ?_ ?_; (focus (intro W hW; go_simp; done)); go_big_quiet_on; simp only [Act.put, List.setIfInBounds_toArray, List.set_cons_zero, List.set_cons_succ])
         | (refine quiet_val10 (.pointer (some ⟨gr, ro + i * 67 + 32, none⟩)) ?_ ?_; (focus (intro W hW; go_simp; done)); go_big_quiet_on; simp only [Act.put, List.setIfInBounds_toArray, List.set_cons_zero, List.set_cons_succ])
         | (refine quiet_val10 (.int .i64 (k : Int)) ?_ ?_; (focus (intro W hW; go_simp; done)); go_big_quiet_on; simp only [Act.put, List.setIfInBounds_toArray, List.set_cons_zero, List.set_cons_succ])
         | (refine quiet_val10 (.bool (decide (f < k))) ?_ ?_; (focus (intro W hW; go_simp; done)); go_big_quiet_on; simp only [Act.put, List.setIfInBounds_toArray, List.set_cons_zero, List.set_cons_succ])
         | (go_big_quiet_op; go_big_quiet_on)))
  refine wpQuiet_nil ?_
  intro w9 hw9
  have H9 : Hid (Grw w w9) := hw9
  clear hw9
  go_wp2
  go_ret
  exact ⟨rfl, H9.out⟩
set_option maxHeartbeats 4000000 in
set_option maxRecDepth 100000 in
theorem search_above (bx bf g f : Nat) (ps : List ByteArray) (l : List Mr) (w : World) (hx : w.cell? ⟨bx, 0, none⟩ = some (.pointer (some ⟨g, 0, none⟩))) (hf : w.cell? ⟨bf, 0, none⟩ = some (.int .i64 (f : Int))) (h : MxW w g ps l) (hri : RiM l) :
    Calls Tryz.prog 14 #[.int .i64 (l.length : Int), .func (.func 40) #[] #[.pointer (some ⟨bx, 0, none⟩), .pointer (some ⟨bf, 0, none⟩)]] w fun e w' => e = .returned (.int .i64 (fanL (l.map Mr.e) f : Int)) ∧ Grw w w' := by
  have hll := h.ll
  have lx := block_lt_of_cell hx
  have lf := block_lt_of_cell hf
  have hget : ∀ i, i < l.length → ∃ r, l[i]? = some r := fun i hi => ⟨_, List.getElem?_eq_getElem hi⟩
  have hmap : ∀ (i : Nat) (r : Mr), l[i]? = some r → (l.map Mr.e)[i]? = some r.e := fun i r hr => by rw [List.getElem?_map, hr]; rfl
  let p : Nat → Bool := fun i => match l[i]? with | some r => decide (f < fst8 r.e) | none => true
  have hp : ∀ (i : Nat) (r : Mr), l[i]? = some r → p i = decide (f < fst8 r.e) := fun i r hr => by simp only [p, hr]
  have hfan : ∀ (i : Nat) (r : Mr), l[i]? = some r → (p i = true ↔ ¬ i < fanL (l.map Mr.e) f) := fun i r hr => by
    rw [hp i r hr, decide_eq_true_iff]
    have := hri.fan (hmap i r hr) f
    constructor
    · intro q q2
      have := this.2 q2
      omega
    · intro q
      have h3 : ¬ fst8 r.e ≤ f := fun q2 => q (this.1 q2)
      omega
  have q := Any.sort_Search (P := Tryz.prog) laysO16 40 #[.pointer (some ⟨bx, 0, none⟩), .pointer (some ⟨bf, 0, none⟩)] l.length p w (fun _ _ => by kernel_rfl) (by omega) (fun m os i hi => ?_) (fun a b hab hb ha => ?_)
  · refine q.mono fun e w' ⟨q1, q2⟩ => ⟨?_, q2⟩
    rw [q1]
    have hF : fanL (l.map Mr.e) f ≤ l.length := by have := fanL_le (l.map Mr.e) f; rwa [List.length_map] at this
    rw [range_cntF (F := fanL (l.map Mr.e) f) (fun i hi => ?_) hF]
    obtain ⟨r, hr⟩ := hget i hi
    have := hfan i r hr
    by_cases h3 : i < fanL (l.map Mr.e) f
    · rw [decide_eq_true h3]
      cases hq : p i with
      | true => exact absurd h3 (this.1 hq)
      | false => rfl
    · rw [decide_eq_false h3, this.2 h3]; rfl
  · obtain ⟨r, hr⟩ := hget i hi
    have hG : Grw w (Sort.grow (w.drewN m) os) := ⟨m, os, rfl⟩
    rw [hp i r hr]
    exact above_any bx bf g i f ps l r _ (by rw [hG.below.cell lx]; exact hx) (by rw [hG.below.cell lf]; exact hf) (h.below hG.below) hr
  · obtain ⟨d, hd⟩ := hget a (by omega)
    obtain ⟨e, he⟩ := hget b (by omega)
    have h1 := (hfan a d hd).1 ha
    exact (hfan b e he).2 (by omega)
end Go.Proofs.YtfmfdaoipfpijaaGreatDoor
/- midx.Index.Find: its closure, and the search with it. -/
namespace Go.Proofs.YtfmfdaoipfpijaaGreatDoor
open Go.RowKit
set_option linter.unusedSimpArgs false
set_option linter.unusedVariables false
set_option maxHeartbeats 4000000 in
set_option maxRecDepth 100000 in
theorem mfind1_any (bx bi g i : Nat) (ps : List ByteArray) (l : List Mr) (r : Mr) (x : ByteArray) (w : World) (hx : w.cell? ⟨bx, 0, none⟩ = some (.pointer (some ⟨g, 0, none⟩))) (hi : Bk w bi (idc x) 24) (hx32 : x.size = 32) (h : MxS w g ps l) (hr : l[i]? = some r) :
    Calls Tryz.prog 12 (#[.int .i64 (i : Int)] ++ #[.pointer (some ⟨bx, 0, none⟩), .pointer (some ⟨bi, 0, none⟩)]) w fun e w' => e = .returned (.bool (!ltN r.e.id x)) ∧ Grw w w' := by
  obtain ⟨gp, gr, h1, h2, h3⟩ := h.row
  have hll := h.ll
  have hil : i < l.length := (List.getElem?_eq_some_iff.1 hr).1
  obtain ⟨⟨hp32, h32⟩, g', o', k1, k2, k3⟩ := h3 i r hr
  simp only [Option.some.injEq, Addr.mk.injEq] at k1
  obtain ⟨rfl, rfl, _⟩ := k1
  have lx := block_lt_of_cell hx
  obtain ⟨n, hn⟩ : ∃ n, l.length = n := ⟨_, rfl⟩
  have C1 : Hid (∀ W, Grw w W → W.cell? ⟨bx, 0, none⟩ = some (.pointer (some ⟨g, 0, none⟩))) := fun W hW => by rw [hW.below.cell lx]; exact hx
  have C3 : Hid (∀ W, Grw w W → Bk W bi (idc x) 24) := fun W hW => hi.below hW.below hi.lt
  have C4 : Hid (∀ W, Grw w W → W.cell? ⟨g, 1, none⟩ = some (.slice (some ⟨gr, 0, none⟩) n n)) := fun W hW => by
    rw [(h1.below hW.below h1.lt).cell, ← hn]; rfl
  have C5 : Hid (∀ W, Grw w W → ∀ j v, (idc r.e.id)[j]? = some v → W.cell? ⟨gr, i * 67 + 32 + j, none⟩ = some v) := fun W hW j v hv => by
    rw [hW.below.cell (p := ⟨gr, i * 67 + 32 + j, none⟩) k2]
    have := k3 (32 + j) _ (mrC_id r hp32 h32 j v hv)
    rwa [Nat.zero_add, ← Nat.add_assoc] at this
  have C6 : Hid (∀ W, Grw w W → Calls Tryz.prog 13 #[.agg (idc r.e.id), .agg (idc x)] W fun r' w' => r' = .returned (.bool (ltN r.e.id x)) ∧ Grw w w') := fun W hW => (less_grow r.e.id x W h32 hx32).mono fun r' w' ⟨q1, q2⟩ => ⟨q1, hW.next q2⟩
  have HI1 : Hid ((Tryz.prog.info? 24).map (·.size) = some (idc r.e.id).size ∧ (Tryz.prog.info? 24).map (·.size) = some (idc x).size) := ⟨info_32 (by rw [idc_size, h32]), info_32 (by rw [idc_size, hx32])⟩
  obtain ⟨L, hL⟩ : ∃ L, ltN r.e.id x = L := ⟨_, rfl⟩
  obtain ⟨D, hD⟩ : ∃ D, idc r.e.id = D := ⟨_, rfl⟩
  obtain ⟨Y, hY⟩ : ∃ Y, idc x = Y := ⟨_, rfl⟩
  rw [hL, hD, hY] at C6
  rw [hD] at C5
  rw [hY] at C3
  rw [hD, hY] at HI1
  rw [hL]
  rw [hn] at hll hil
  have hiz : (i : Int) < (n : Int) := by omega
  clear hx hi h h1 h2 h3 k2 k3 hr hn lx hp32 h32 hx32 hL hD hY
  show Calls Tryz.prog 12 #[.int .i64 (i : Int), .pointer (some ⟨bx, 0, none⟩), .pointer (some ⟨bi, 0, none⟩)] w _
  go_enter Tryz.func12, Tryz.ntmps12
  go_wp2_with fail
  refine region_class10 (Grw w) (by kernel_rfl) (by kernel_rfl) (Grw.drew w) ?_
  try simp only [Act.put, List.setIfInBounds_toArray, List.set_cons_zero, List.set_cons_succ]
  repeat (first
    | go_big_quiet_skip
    | (go_big_quiet_want
       first
         | (refine quiet_one 22 _ rfl bx 0 (.pointer (some ⟨g, 0, none⟩)) rfl (fun _ => by kernel_rfl) C1.out ?_; go_big_quiet_on; simp only [Act.put, List.setIfInBounds_toArray, List.set_cons_zero, List.set_cons_succ])
         | (refine quiet_one 40 _ rfl g 1 (.slice (some ⟨gr, 0, none⟩) n n) rfl (fun _ => by kernel_rfl) C4.out ?_; go_big_quiet_on; simp only [Act.put, List.setIfInBounds_toArray, List.set_cons_zero, List.set_cons_succ])
         | (refine quiet_row 24 _ rfl bi 0 Y Y 24 _ rfl C3.out (fun j v hv => by rw [Nat.zero_add]; exact hv) Tryz.underlying24 rfl HI1.out.2 ?_; go_big_quiet_on; simp only [Act.put, List.setIfInBounds_toArray, List.set_cons_zero, List.set_cons_succ])
         | (refine quiet_rowc 24 _ rfl gr (i * 67 + 32) D _ rfl C5.out Tryz.underlying24 rfl HI1.out.1 ?_; go_big_quiet_on; simp only [Act.put, List.setIfInBounds_toArray, List.set_cons_zero, List.set_cons_succ])
         | (refine quiet_call10 (.bool L) 13 #[.agg D, .agg Y] ?_ ?_ ?_; (focus (intro W hW; go_simp; done)); (focus (intro W hW; exact C6.out W hW)); go_big_quiet_on; simp only [Act.put, List.setIfInBounds_toArray, List.set_cons_zero, List.set_cons_succ])
         | (refine quiet_val10 (.pointer (some ⟨g, 0, none⟩)) ?_ ?_; (focus (intro W hW; go_simp; done)); go_big_quiet_on; simp only [Act.put, List.setIfInBounds_toArray, List.set_cons_zero, List.set_cons_succ])
         | (refine quiet_val10 (.pointer (some ⟨g, 1, none⟩)) ?_ ?_; (focus (intro W hW; go_simp; done)); go_big_quiet_on; simp only [Act.put, List.setIfInBounds_toArray, List.set_cons_zero, List.set_cons_succ])
         | (refine quiet_val10 (.pointer (some ⟨gr, i * 67, none⟩)) ?_ ?_; (focus (intro W hW; go_simp; done)); go_big_quiet_on; simp only [Act.put, List.setIfInBounds_toArray, List.set_cons_zero, List.set_cons_succ])
         | (refine quiet_val10 (.pointer (some ⟨gr, i * 67 + 32, none⟩)) ?_ ?_; (focus (intro W hW; go_simp; done)); go_big_quiet_on; simp only [Act.put, List.setIfInBounds_toArray, List.set_cons_zero, List.set_cons_succ])
         | (refine quiet_val10 (.bool !L) ?_ ?_; (focus (intro W hW; go_simp; done)); go_big_quiet_on; simp only [Act.put, List.setIfInBounds_toArray, List.set_cons_zero, List.set_cons_succ])
         | (go_big_quiet_op; go_big_quiet_on)))
  refine wpQuiet_nil ?_
  intro w9 hw9
  have H9 : Hid (Grw w w9) := hw9
  clear hw9
  go_wp2
  go_ret
  exact ⟨rfl, H9.out⟩
set_option maxHeartbeats 4000000 in
set_option maxRecDepth 100000 in
theorem search_name (bx bi g : Nat) (ps : List ByteArray) (l : List Mr) (x : ByteArray) (w : World) (hx : w.cell? ⟨bx, 0, none⟩ = some (.pointer (some ⟨g, 0, none⟩))) (hi : Bk w bi (idc x) 24) (hx32 : x.size = 32) (h : MxS w g ps l) (hri : RiM l) :
    Calls Tryz.prog 14 #[.int .i64 (l.length : Int), .func (.func 12) #[] #[.pointer (some ⟨bx, 0, none⟩), .pointer (some ⟨bi, 0, none⟩)]] w fun e w' => e = .returned (.int .i64 (cntN (l.map Mr.e) x : Int)) ∧ Grw w w' := by
  have hll := h.ll
  have lx := block_lt_of_cell hx
  have hget : ∀ i, i < l.length → ∃ r, l[i]? = some r := fun i hi => ⟨_, List.getElem?_eq_getElem hi⟩
  have hmap : ∀ (i : Nat) (r : Mr), l[i]? = some r → (l.map Mr.e)[i]? = some r.e := fun i r hr => by rw [List.getElem?_map, hr]; rfl
  let p : Nat → Bool := fun i => match l[i]? with | some r => !ltN r.e.id x | none => true
  have hp : ∀ (i : Nat) (r : Mr), l[i]? = some r → p i = !ltN r.e.id x := fun i r hr => by simp only [p, hr]
  have hfan : ∀ (i : Nat) (r : Mr), l[i]? = some r → (p i = true ↔ ¬ i < cntN (l.map Mr.e) x) := fun i r hr => by
    rw [hp i r hr]
    have := Rise.cnt hri (hmap i r hr) x
    cases hq : ltN r.e.id x with
    | true => simp; exact Nat.not_le.2 (this.1 hq) |> Nat.lt_of_not_le
    | false =>
      constructor
      · intro _ q
        have := this.2 q
        rw [hq] at this; cases this
      · intro _; rfl
  have q := Any.sort_Search (P := Tryz.prog) laysO16 12 #[.pointer (some ⟨bx, 0, none⟩), .pointer (some ⟨bi, 0, none⟩)] l.length p w (fun _ _ => by kernel_rfl) (by omega) (fun m os i hi' => ?_) (fun a b hab hb ha => ?_)
  · refine q.mono fun e w' ⟨q1, q2⟩ => ⟨?_, q2⟩
    rw [q1]
    have hF : cntN (l.map Mr.e) x ≤ l.length := by
      have : cntN (l.map Mr.e) x ≤ (l.map Mr.e).length := List.countP_le_length
      rwa [List.length_map] at this
    rw [range_cntF (F := cntN (l.map Mr.e) x) (fun i hi => ?_) hF]
    obtain ⟨r, hr⟩ := hget i hi
    have := hfan i r hr
    by_cases h3 : i < cntN (l.map Mr.e) x
    · rw [decide_eq_true h3]
      cases hq : p i with
      | true => exact absurd h3 (this.1 hq)
      | false => rfl
    · rw [decide_eq_false h3, this.2 h3]; rfl
  · obtain ⟨r, hr⟩ := hget i hi'
    have hG : Grw w (Sort.grow (w.drewN m) os) := ⟨m, os, rfl⟩
    rw [hp i r hr]
    exact mfind1_any bx bi g i ps l r x _ (by rw [hG.below.cell lx]; exact hx) (hi.below hG.below hi.lt) hx32 (h.below hG.below) hr
  · obtain ⟨d, hd⟩ := hget a (by omega)
    obtain ⟨e, he⟩ := hget b (by omega)
    have h1 := (hfan a d hd).1 ha
    exact (hfan b e he).2 (by omega)
end Go.Proofs.YtfmfdaoipfpijaaGreatDoor
