import Derived.Test.YtbfoiocbmhhdbaaGreatY9
import Derived.Test.YtbfoiocbmhhdbaaGreatChecked
import Derived.Shelf.SlSortCmp.WholeK
import Derived.Shelf.SlSorted.Search
import Derived.Shelf.SlicesE.Clone
import Derived.Test.YtbfoiocbmhhdbaaGreatY6
import Derived.Sort.OwnSorted
import Derived.Test.YtbfoiocbmhhdbaaGreatY7
/- The closures of midx.Index.mayBe. -/
namespace Go.Proofs.YtbfoiocbmhhdbaaGreat
open Go.RowKit
set_option linter.unusedSimpArgs false
set_option linter.unusedVariables false
theorem enter_may1 : ∀ args u, (callFunc 79 args).run Tryz.prog u = .ok (.enter 79 args) u := fun args u => by kernel_rfl
theorem enter_may2 : ∀ args u, (callFunc 82 args).run Tryz.prog u = .ok (.enter 82 args) u := fun args u => by kernel_rfl
theorem enter_may3 : ∀ args u, (callFunc 83 args).run Tryz.prog u = .ok (.enter 83 args) u := fun args u => by kernel_rfl
set_option maxHeartbeats 4000000 in
set_option maxRecDepth 100000 in
theorem bad_any (r : Mr) (w : World) (hp : r.p.size = 32) (h : r.e.id.size = 32) : Calls Tryz.prog 79 #[.agg (mrC r)] w fun e w' => e = .returned (.bool (!okX r.e)) ∧ Below w.heap.size w w' := by
  have HB : Hid (Bk (w.alloc (.cells (mrC r) 52)) w.heap.size (mrC r) 52 ∧ Below w.heap.size w (w.alloc (.cells (mrC r) 52))) := ⟨bk_new _ _ _, (Below.refl _ _).alloc (Nat.le_refl _) _⟩
  have HM : Hid (∀ W, Calls Tryz.prog 80 #[.agg (xeC r.e)] W fun e w' => e = .returned (.bool (okX r.e)) ∧ w' = W.alloc (.cells (xeC r.e) 50)) := fun W => mmay_any r.e W h
  have HI : Hid ((Tryz.prog.info? 50).map (·.size) = some (xeC r.e).size) := info_xe (xeC_size _ h)
  have HC : Hid (∀ j v, (xeC r.e)[j]? = some v → (mrC r)[32 + j]? = some v) := fun j v hv => mrC_e r hp j v hv
  obtain ⟨O, hO⟩ : ∃ O, okX r.e = O := ⟨_, rfl⟩
  obtain ⟨X, hX⟩ : ∃ X, xeC r.e = X := ⟨_, rfl⟩
  obtain ⟨R, hR⟩ : ∃ R, mrC r = R := ⟨_, rfl⟩
  rw [hX, hO] at HM
  rw [hX] at HI
  rw [hX, hR] at HC
  rw [hR] at HB ⊢
  rw [hO]
  clear hX hR hO h hp
  go_enter Tryz.func79, Tryz.ntmps79
  go_wp2_with (first
    | (refine wpList_get rfl 50 (.tmp 3) rfl w.heap.size 32 R X 52 _ rfl HB.out.1 HC.out Tryz.underlying50 rfl HI.out ?_)
    | fail)
  refine (HM.out _).mono ?_
  rintro e w2 ⟨rfl, rfl⟩
  go_wp2
  go_ret
  exact ⟨rfl, HB.out.2.alloc HB.out.2.size _⟩
theorem z32_lit : z32c = #[.int .u8 0, .int .u8 0, .int .u8 0, .int .u8 0, .int .u8 0, .int .u8 0, .int .u8 0, .int .u8 0, .int .u8 0, .int .u8 0, .int .u8 0, .int .u8 0, .int .u8 0, .int .u8 0, .int .u8 0, .int .u8 0, .int .u8 0, .int .u8 0, .int .u8 0, .int .u8 0, .int .u8 0, .int .u8 0, .int .u8 0, .int .u8 0, .int .u8 0, .int .u8 0, .int .u8 0, .int .u8 0, .int .u8 0, .int .u8 0, .int .u8 0, .int .u8 0] := by kernel_rfl
set_option maxHeartbeats 4000000 in
set_option maxRecDepth 100000 in
/-- The pack of a number. -/
theorem pkAt_any (bx g i : Nat) (ps : List ByteArray) (l : List Mr) (p : ByteArray) (w : World) (hx : w.cell? ⟨bx, 0, none⟩ = some (.pointer (some ⟨g, 0, none⟩))) (h : MxS w g ps l) (hp : ps[i]? = some p) :
    Calls Tryz.prog 82 (#[.int .i64 (i : Int)] ++ #[.pointer (some ⟨bx, 0, none⟩)]) w fun e w' => e = .returned (.agg (idc p)) ∧ Below w.heap.size w w' := by
  obtain ⟨gp, gr, h1, h2, h3⟩ := h.row
  have hpl := h.pl
  have hil : i < ps.length := (List.getElem?_eq_some_iff.1 hp).1
  obtain ⟨h32, g', o', k1, k2, k3⟩ := h2 i p hp
  simp only [Option.some.injEq, Addr.mk.injEq] at k1
  obtain ⟨rfl, rfl, _⟩ := k1
  have lx := block_lt_of_cell hx
  have hal : Below w.heap.size w (w.alloc (.cells z32c 48)) := (Below.refl _ _).alloc (Nat.le_refl _) _
  have c1 : (w.alloc (.cells z32c 48)).cell? ⟨bx, 0, none⟩ = some (.pointer (some ⟨g, 0, none⟩)) := by rw [hal.cell lx]; exact hx
  have c2 : (w.alloc (.cells z32c 48)).cell? ⟨g, 0, none⟩ = some (.slice (some ⟨gp, 0, none⟩) ps.length ps.length) := by rw [(h1.below hal h1.lt).cell]; rfl
  have c3 : ∀ j v, (idc p)[j]? = some v → (w.alloc (.cells z32c 48)).cell? ⟨gp, 0 + i * 32 + j, none⟩ = some v := fun j v hv => by rw [hal.cell (p := ⟨gp, 0 + i * 32 + j, none⟩) k2]; exact k3 j v hv
  have HI : Hid ((Tryz.prog.info? 48).map (·.size) = some (idc p).size ∧ (idc p).all (·.oneCell') = true ∧ (idc p).size = 32 ∧ Bk (w.alloc (.cells z32c 48)) w.heap.size z32c 48 ∧ Below w.heap.size w (w.alloc (.cells z32c 48))) := ⟨info_32 (by rw [idc_size, h32]), idc_allX p, by rw [idc_size, h32], bk_new _ _ _, hal⟩
  obtain ⟨X, hX⟩ : ∃ X, idc p = X := ⟨_, rfl⟩
  rw [hX] at HI c3 ⊢
  obtain ⟨n, hn⟩ : ∃ n, ps.length = n := ⟨_, rfl⟩
  rw [hn] at c2 hil hpl
  have hiz : (i : Int) < (n : Int) := by omega
  have C3 : Hid (∀ j v, X.toList[j]? = some v → (w.alloc (.cells z32c 48)).cell? ⟨gp, i * 32 + j, none⟩ = some v) := fun j v hv => by
    have := c3 j v (by rwa [Array.getElem?_toList] at hv)
    rwa [Nat.zero_add] at this
  clear hx h h1 h2 h3 k2 k3 hp hX hn lx hal c3 h32
  rw [z32_lit] at c1 c2
  show Calls Tryz.prog 82 #[.int .i64 (i : Int), .pointer (some ⟨bx, 0, none⟩)] w _
  go_enter Tryz.func82, Tryz.ntmps82
  go_wp2_with (first
    | (refine wpList_load_mid rfl 48 (.tmp 9) rfl gp (i * 32) rfl X.toList _ C3.out Tryz.underlying48 rfl (by rw [HI.out.1]; simp) ?_)
    | (refine wpList_stoX rfl 48 (.tmp 3) (.tmp 10) rfl w.heap.size X z32c 48 rfl rfl HI.out.2.2.2.1 HI.out.1 (by rw [HI.out.2.2.1]; exact z32c_size.symm) HI.out.2.1 ?_; intro w7 HB7 HG7)
    | fail)
  refine bodyPost_ret (results_cell_row rfl _ _ w.heap.size 48 X (0, 0) _ rfl HB7.out Tryz.underlying48 rfl HI.out.1) rfl ⟨rfl, ?_⟩
  exact below_own HI.out.2.2.2.2 HI.out.2.2.2.2.size HG7.out (Nat.le_refl _)
set_option maxHeartbeats 4000000 in
set_option maxRecDepth 100000 in
/-- The name of a row. -/
theorem rwAt_any (bx g i : Nat) (ps : List ByteArray) (l : List Mr) (r : Mr) (w : World) (hx : w.cell? ⟨bx, 0, none⟩ = some (.pointer (some ⟨g, 0, none⟩))) (h : MxS w g ps l) (hp : l[i]? = some r) :
    Calls Tryz.prog 83 (#[.int .i64 (i : Int)] ++ #[.pointer (some ⟨bx, 0, none⟩)]) w fun e w' => e = .returned (.agg (idc r.e.id)) ∧ Below w.heap.size w w' := by
  obtain ⟨gp, gr, h1, h2, h3⟩ := h.row
  have hpl := h.ll
  have hil : i < l.length := (List.getElem?_eq_some_iff.1 hp).1
  obtain ⟨⟨hp32, h32⟩, g', o', k1, k2, k3⟩ := h3 i r hp
  simp only [Option.some.injEq, Addr.mk.injEq] at k1
  obtain ⟨rfl, rfl, _⟩ := k1
  have lx := block_lt_of_cell hx
  have hal : Below w.heap.size w (w.alloc (.cells z32c 48)) := (Below.refl _ _).alloc (Nat.le_refl _) _
  have c1 : (w.alloc (.cells z32c 48)).cell? ⟨bx, 0, none⟩ = some (.pointer (some ⟨g, 0, none⟩)) := by rw [hal.cell lx]; exact hx
  have c2 : (w.alloc (.cells z32c 48)).cell? ⟨g, 1, none⟩ = some (.slice (some ⟨gr, 0, none⟩) l.length l.length) := by rw [(h1.below hal h1.lt).cell]; rfl
  have c3 : ∀ j v, (idc r.e.id)[j]? = some v → (w.alloc (.cells z32c 48)).cell? ⟨gr, i * 67 + 32 + j, none⟩ = some v := fun j v hv => by
    rw [hal.cell (p := ⟨gr, i * 67 + 32 + j, none⟩) k2]
    have := k3 (32 + j) v (mrC_id r hp32 h32 j v hv)
    rwa [Nat.zero_add, ← Nat.add_assoc] at this
  have HI : Hid ((Tryz.prog.info? 48).map (·.size) = some (idc r.e.id).size ∧ (idc r.e.id).all (·.oneCell') = true ∧ (idc r.e.id).size = 32 ∧ Bk (w.alloc (.cells z32c 48)) w.heap.size z32c 48 ∧ Below w.heap.size w (w.alloc (.cells z32c 48))) := ⟨info_32 (by rw [idc_size, h32]), idc_allX r.e.id, by rw [idc_size, h32], bk_new _ _ _, hal⟩
  obtain ⟨X, hX⟩ : ∃ X, idc r.e.id = X := ⟨_, rfl⟩
  rw [hX] at HI c3 ⊢
  obtain ⟨n, hn⟩ : ∃ n, l.length = n := ⟨_, rfl⟩
  rw [hn] at c2 hil hpl
  have hiz : (i : Int) < (n : Int) := by omega
  have C3 : Hid (∀ j v, X.toList[j]? = some v → (w.alloc (.cells z32c 48)).cell? ⟨gr, i * 67 + 32 + j, none⟩ = some v) := fun j v hv => c3 j v (by rwa [Array.getElem?_toList] at hv)
  clear hx h h1 h2 h3 k2 k3 hp hX hn lx hal c3 h32 hp32
  rw [z32_lit] at c1 c2
  show Calls Tryz.prog 83 #[.int .i64 (i : Int), .pointer (some ⟨bx, 0, none⟩)] w _
  go_enter Tryz.func83, Tryz.ntmps83
  go_wp2_with (first
    | (refine wpList_load_mid rfl 48 (.tmp 11) rfl gr (i * 67 + 32) rfl X.toList _ C3.out Tryz.underlying48 rfl (by rw [HI.out.1]; simp) ?_)
    | (refine wpList_stoX rfl 48 (.tmp 3) (.tmp 12) rfl w.heap.size X z32c 48 rfl rfl HI.out.2.2.2.1 HI.out.1 (by rw [HI.out.2.2.1]; exact z32c_size.symm) HI.out.2.1 ?_; intro w7 HB7 HG7)
    | fail)
  refine bodyPost_ret (results_cell_row rfl _ _ w.heap.size 48 X (0, 0) _ rfl HB7.out Tryz.underlying48 rfl HI.out.1) rfl ⟨rfl, ?_⟩
  exact below_own HI.out.2.2.2.2 HI.out.2.2.2.2.size HG7.out (Nat.le_refl _)
end Go.Proofs.YtbfoiocbmhhdbaaGreat
/- midx.Index.mayBe. -/
namespace Go.Proofs.YtbfoiocbmhhdbaaGreat
open Go.RowKit
set_option linter.unusedSimpArgs false
set_option linter.unusedVariables false
/-- What a search for a bad row answers. -/
def IfE (l : List Mr) (e : Ending) : Prop := ∃ K : Int, e = .returned (.int .i64 K) ∧ (0 ≤ K ↔ ∃ r ∈ l, okX r.e = false)
def CfE (l : List Mr) (e : Ending) : Prop := ∃ b, e = .returned (.bool b) ∧ (b = true ↔ ∃ r ∈ l, okX r.e = false)
set_option maxHeartbeats 4000000 in
set_option maxRecDepth 100000 in
theorem index_bad (gr n : Nat) (l : List Mr) (w : World) (h : MrL w (some ⟨gr, 0, none⟩) l) (hl : l.length = n) (hn : n ≤ 1048576) :
    Calls Tryz.prog 107 #[.slice (some ⟨gr, 0, none⟩) n n, .func (.func 79) #[] #[]] w fun e w' => IfE l e ∧ Below w.heap.size w w' := by
  have H : Hid (∀ W, Below w.heap.size w W → MrL W (some ⟨gr, 0, none⟩) l) := fun W hW => h.below hW
  have HL : Hid (l.length = n) := hl
  clear h hl
  go_enter Tryz.func107, Tryz.ntmps107
  go_wp2
  go_loopw [8] (fun v wr => ∃ k : Nat, v = .int .i64 k ∧ k ≤ n ∧ Hid (Below w.heap.size w wr) ∧ Hid (∀ j r, j < k → l[j]? = some r → okX r.e = true)) (fun v _ => n - (intOf v).toNat)
  case atStart => exact ⟨0, rfl, Nat.zero_le _, Below.refl _ _, fun j r hj => by omega⟩
  case round =>
    obtain ⟨k, rfl, hk, HB, HC⟩ := hrel
    by_cases hlt : k < n
    · have hz : (k : Int) < (n : Int) := by omega
      obtain ⟨r, hr⟩ : ∃ r, l[k]? = some r := ⟨_, List.getElem?_eq_getElem (by have := HL.out; omega)⟩
      have HR : Hid (l[k]? = some r) := hr
      obtain ⟨⟨hp32, h32⟩, g', o', k1, k2, k3⟩ := H.out wr HB.out k r hr
      simp only [Option.some.injEq, Addr.mk.injEq] at k1
      obtain ⟨rfl, rfl, _⟩ := k1
      have HBD : Hid (∀ W, Calls Tryz.prog 79 #[.agg (mrC r)] W fun e w' => e = .returned (.bool (!okX r.e)) ∧ Below W.heap.size W w') := fun W => bad_any r W hp32 h32
      have C3 : Hid (∀ j v, (mrC r).toList[j]? = some v → wr.cell? ⟨gr, k * 67 + j, none⟩ = some v) := fun j v hv => by
        have := k3 j v (by rwa [Array.getElem?_toList] at hv)
        rwa [Nat.zero_add] at this
      have HI : Hid ((Tryz.prog.info? 52).map (·.size) = some (mrC r).toList.length) := by
        show _ = _
        rw [Array.length_toList]; exact info_mr (mrC_size r hp32 h32)
      obtain ⟨X, hX⟩ : ∃ X, mrC r = X := ⟨_, rfl⟩
      rw [hX] at HBD C3 HI
      clear hX k2 k3 hp32 h32 hr
      go_wp2_with (first
        | (refine wpList_load_mid rfl 52 (.tmp 14) rfl gr (k * 67) rfl X.toList _ C3.out Tryz.underlying52 rfl HI.out ?_)
        | fail)
      refine Calls.mono (HBD.out wr) ?_
      rintro e w3 ⟨rfl, hb3⟩
      have HB3 : Hid (Below w.heap.size w w3) := HB.out.trans (hb3.mono HB.out.size)
      clear hb3 C3 HBD HI
      cases hq : okX r.e with
      | true =>
        have HQ : Hid (okX r.e = true) := hq
        clear hq
        go_wp2
        go_roundw
        case rel =>
          refine ⟨k + 1, by go_num, by omega, HB3.out, fun j x hj hx => ?_⟩
          by_cases he : j = k
          · subst he
            have e1 := HR.out
            rw [hx] at e1
            injection e1 with e1
            rw [e1]
            exact HQ.out
          · exact HC.out j x (by omega) hx
        case measure => simp [intOf]; omega
      | false =>
        have HQ : Hid (okX r.e = false) := hq
        clear hq
        go_wp2
        go_ret
        exact ⟨⟨(k : Int), rfl, ⟨fun _ => ⟨r, List.mem_of_getElem? HR.out, HQ.out⟩, fun _ => by omega⟩⟩, HB3.out⟩
    · have hz : ¬ (k : Int) < (n : Int) := by omega
      have HK : Hid (k = n) := by show k = n; omega
      go_wp2
      go_ret
      refine ⟨⟨-1, rfl, ⟨fun q => absurd q (by decide), fun ⟨r, h1, h2⟩ => ?_⟩⟩, HB.out⟩
      obtain ⟨j, hj⟩ := List.getElem?_of_mem h1
      have := HC.out j r (by have := (List.getElem?_eq_some_iff.1 hj).1; have := HL.out; have := HK.out; omega) hj
      rw [h2] at this
      cases this
set_option maxHeartbeats 4000000 in
set_option maxRecDepth 100000 in
theorem contains_bad (gr n : Nat) (l : List Mr) (w : World) (h : MrL w (some ⟨gr, 0, none⟩) l) (hl : l.length = n) (hn : n ≤ 1048576) :
    Calls Tryz.prog 84 #[.slice (some ⟨gr, 0, none⟩) n n, .func (.func 79) #[] #[]] w fun e w' => CfE l e ∧ Below w.heap.size w w' := by
  have H : Hid (Calls Tryz.prog 107 #[.slice (some ⟨gr, 0, none⟩) n n, .func (.func 79) #[] #[]] w fun e w' => IfE l e ∧ Below w.heap.size w w') := index_bad gr n l w h hl hn
  clear h hl
  go_enter Tryz.func84, Tryz.ntmps84
  go_wp2_with fail
  refine H.out.mono ?_
  rintro e w2 ⟨⟨K, rfl, hK⟩, hb⟩
  have HK : Hid ((0 ≤ K ↔ ∃ r ∈ l, okX r.e = false) ∧ Below w.heap.size w w2) := ⟨hK, hb⟩
  clear hK hb H
  go_wp2
  go_ret
  refine ⟨⟨decide (0 ≤ K), rfl, ?_⟩, HK.out.2⟩
  rw [decide_eq_true_iff]
  exact HK.out.1
/-- What mayBe answers. -/
def MbE (ps : List ByteArray) (l : List Mr) (e : Ending) : Prop := ∃ b, e = .returned (.bool b) ∧ (b = true ↔ RiN ps ∧ RiM l ∧ ∀ r ∈ l, okX r.e = true)
theorem rim_rin {l : List Mr} : RiN (l.map (fun r => r.e.id)) ↔ RiM l := by
  unfold RiN RiM Rise
  rw [List.pairwise_map, List.pairwise_map]
set_option maxHeartbeats 4000000 in
set_option maxRecDepth 100000 in
theorem mmayBe_any (g : Nat) (ps : List ByteArray) (l : List Mr) (w : World) (h : MxS w g ps l) :
    Calls Tryz.prog 33 #[.pointer (some ⟨g, 0, none⟩)] w fun e w' => MbE ps l e ∧ Below w.heap.size w w' := by
  have hbx := bk_new w #[.pointer (some ⟨g, 0, none⟩)] 28
  have hal : Below w.heap.size w (w.alloc (.cells #[.pointer (some ⟨g, 0, none⟩)] 28)) := (Below.refl _ _).alloc (Nat.le_refl _) _
  obtain ⟨w0, hw0⟩ : ∃ w0, w.alloc (.cells #[.pointer (some ⟨g, 0, none⟩)] 28) = w0 := ⟨_, rfl⟩
  rw [hw0] at hbx hal
  have HX : Hid (∀ W, Below w0.heap.size w0 W → W.cell? ⟨w.heap.size, 0, none⟩ = some (.pointer (some ⟨g, 0, none⟩)) ∧ MxS W g ps l) := fun W hW => ⟨by rw [(hbx.below hW hbx.lt).cell]; rfl, (h.below hal).below hW⟩
  have HAL : Hid (w.alloc (.cells #[.pointer (some ⟨g, 0, none⟩)] 28) = w0 ∧ Below w.heap.size w w0) := ⟨hw0, hal⟩
  obtain ⟨gp, gr, h1, h2, h3⟩ := h.row
  have HCC : Hid (∀ W, Below w0.heap.size w0 W → W.cell? ⟨g, 0, none⟩ = some (.slice (some ⟨gp, 0, none⟩) ps.length ps.length) ∧ W.cell? ⟨g, 1, none⟩ = some (.slice (some ⟨gr, 0, none⟩) l.length l.length)) := fun W hW => by
    have hb := (h1.below hal h1.lt).below hW (h1.below hal h1.lt).lt
    exact ⟨by rw [hb.cell]; rfl, by rw [hb.cell]; rfl⟩
  have HN : Hid ((∀ s ∈ ps, s.size = 32) ∧ ∀ s ∈ l.map (fun r => r.e.id), s.size = 32) := ⟨fun s hs => by obtain ⟨i, hi⟩ := List.getElem?_of_mem hs; exact (h2 i s hi).1, fun s hs => by
    obtain ⟨r, hr, rfl⟩ := List.mem_map.1 hs
    exact (h3.ids r hr).2⟩
  have HM : Hid (∀ W, Below w0.heap.size w0 W → MrL W (some ⟨gr, 0, none⟩) l) := fun W hW => (h3.below hal).below hW
  have hpl := h.pl
  have hll := h.ll
  obtain ⟨n, hn⟩ : ∃ n, ps.length = n := ⟨_, rfl⟩
  obtain ⟨m, hm⟩ : ∃ m, l.length = m := ⟨_, rfl⟩
  have HLN : Hid (ps.length = n ∧ l.length = m) := ⟨hn, hm⟩
  rw [hn] at hpl HCC
  rw [hm] at hll HCC
  have HR1 : Hid (∀ W, Below w0.heap.size w0 W → Calls Tryz.prog 81 #[.int .i64 (n : Int), .func (.func 82) #[] #[.pointer (some ⟨w.heap.size, 0, none⟩)]] W fun e w' => RsE ps e ∧ Below W.heap.size W w') := fun W hW => by
    have := rise_any ps 82 #[.pointer (some ⟨w.heap.size, 0, none⟩)] W (by rw [HLN.out.1]; omega) HN.out.1 enter_may2 (fun i s V hi hV => by
      have hq := HX.out V (hW.trans (hV.mono hW.size))
      exact pkAt_any w.heap.size g i ps l s V hq.1 hq.2 hi)
    rwa [HLN.out.1] at this
  have HR2 : Hid (∀ W, Below w0.heap.size w0 W → Calls Tryz.prog 81 #[.int .i64 (m : Int), .func (.func 83) #[] #[.pointer (some ⟨w.heap.size, 0, none⟩)]] W fun e w' => RsE (l.map (fun r => r.e.id)) e ∧ Below W.heap.size W w') := fun W hW => by
    have := rise_any (l.map (fun r => r.e.id)) 83 #[.pointer (some ⟨w.heap.size, 0, none⟩)] W (by rw [List.length_map, HLN.out.2]; omega) HN.out.2 enter_may3 (fun i s V hi hV => by
      have hq := HX.out V (hW.trans (hV.mono hW.size))
      rw [List.getElem?_map] at hi
      cases hr : l[i]? with
      | none => rw [hr] at hi; cases hi
      | some r =>
        rw [hr] at hi
        injection hi with hi
        rw [← hi]
        exact rwAt_any w.heap.size g i ps l r V hq.1 hq.2 hr)
    rwa [List.length_map, HLN.out.2] at this
  have HCF : Hid (∀ W, Below w0.heap.size w0 W → Calls Tryz.prog 84 #[.slice (some ⟨gr, 0, none⟩) m m, .func (.func 79) #[] #[]] W fun e w' => CfE l e ∧ Below W.heap.size W w') := fun W hW => contains_bad gr m l W (HM.out W hW) HLN.out.2 hll
  have hmf : ∀ (fn : Fn) (first cap : Array Value) (w : World), (Instr.makeFunc fn first cap).run Tryz.prog w = .ok (.func fn first cap) w := fun _ _ _ _ => rfl
  have c1 := (HX.out w0 (Below.refl _ _)).1
  have c2 := (HCC.out w0 (Below.refl _ _)).1
  have HEQ : Hid (∀ b1 : Bool, (b1 = true ↔ RiN (l.map (fun r => r.e.id))) → (b1 = true ↔ RiM l)) := fun b1 q => q.trans rim_rin
  clear hbx hal h h1 h2 h3 hn hm HN HM
  rw [← hw0] at c1 c2
  clear hw0
  go_enter Tryz.func33, Tryz.ntmps33
  go_wp2_with fail
  rw [show w.alloc (.cells #[.pointer (some ⟨g, 0, none⟩)] 28) = w0 from HAL.out.1]
  refine (HR1.out w0 (Below.refl _ _)).mono ?_
  rintro e w2 ⟨⟨b1, rfl, hb1⟩, hbw⟩
  have H2 : Hid ((b1 = true ↔ RiN ps) ∧ Below w0.heap.size w0 w2) := ⟨hb1, hbw⟩
  clear hb1 hbw c1 c2 HR1
  cases b1 with
  | false =>
    go_wp2
    go_ret
    exact ⟨⟨false, rfl, ⟨fun q => (by cases q), fun q => H2.out.1.2 q.1⟩⟩, HAL.out.2.trans (H2.out.2.mono HAL.out.2.size)⟩
  | true =>
    have c1 := (HX.out w2 H2.out.2).1
    have c3 := (HCC.out w2 H2.out.2).2
    go_wp2_with fail
    refine (HR2.out w2 H2.out.2).mono ?_
    rintro e w3 ⟨⟨b2, rfl, hb2⟩, hbw⟩
    have H3 : Hid ((b2 = true ↔ RiM l) ∧ Below w0.heap.size w0 w3) := ⟨HEQ.out b2 hb2, H2.out.2.trans (hbw.mono H2.out.2.size)⟩
    clear hb2 hbw c1 c3 HR2
    cases b2 with
    | false =>
      go_wp2
      go_ret
      exact ⟨⟨false, rfl, ⟨fun q => (by cases q), fun q => H3.out.1.2 q.2.1⟩⟩, HAL.out.2.trans (H3.out.2.mono HAL.out.2.size)⟩
    | true =>
      have c1 := (HX.out w3 H3.out.2).1
      have c3 := (HCC.out w3 H3.out.2).2
      go_wp2_with fail
      refine (HCF.out w3 H3.out.2).mono ?_
      rintro e w4 ⟨⟨b3, rfl, hb3⟩, hbw⟩
      have H4 : Hid ((b3 = true ↔ ∃ r ∈ l, okX r.e = false) ∧ Below w0.heap.size w0 w4) := ⟨hb3, H3.out.2.trans (hbw.mono H3.out.2.size)⟩
      clear hb3 hbw c1 c3 HCF
      go_wp2
      go_ret
      refine ⟨⟨!b3, rfl, ?_⟩, HAL.out.2.trans (H4.out.2.mono HAL.out.2.size)⟩
      have h1 := H2.out.1.1 (by simp)
      have h2 := H3.out.1.1 (by simp)
      cases b3 with
      | true =>
        obtain ⟨r, k1, k2⟩ := H4.out.1.1 rfl
        exact ⟨fun q => (by cases q), fun q => (by have := q.2.2 r k1; rw [k2] at this; cases this)⟩
      | false =>
        refine ⟨fun _ => ⟨h1, h2, fun r hr => ?_⟩, fun _ => rfl⟩
        cases hq : okX r.e with
        | true => rfl
        | false => exact absurd (H4.out.1.2 ⟨r, hr, hq⟩) (by decide)
end Go.Proofs.YtbfoiocbmhhdbaaGreat
/- The layings of slices.SortFunc, slices.Clone at entries, of sort.Search. -/
namespace Go.Proofs.YtbfoiocbmhhdbaaGreat
open Go.Shelf
def laysF6_ren : Go.Shelf.Ren := ⟨fun | 6 => 52 | 15 => 93 | 14 => 92 | 28 => 116 | 29 => 105 | 20 => 108 | 21 => 109 | 22 => 110 | 23 => 111 | 24 => 112 | 25 => 113 | 26 => 114 | 27 => 115 | 46 => 125 | 47 => 126 | 48 => 127 | 49 => 128 | 50 => 129 | 57 => 146 | n => n, fun | 22 => 66 | 24 => 50 | 25 => 120 | 3 => 3 | 39 => 169 | 0 => 0 | 53 => 194 | 55 => 85 | 4 => 4 | 46 => 188 | 45 => 187 | 50 => 128 | 5 => 5 | 9 => 9 | 66 => 203 | 70 => 207 | 76 => 219 | 77 => 167 | n => n, fun | n => n⟩
theorem laysF6 : Go.Proofs.SlLaysF0.n6 Tryz.prog laysF6_ren := {
  mixed := by kernel_rfl
  f6 := ⟨Tryz.f52.name, by decide, Tryz.func52.trans (congrArg some (by kernel_rfl))⟩
  f14 := ⟨Tryz.f92.name, by decide, Tryz.func92.trans (congrArg some (by kernel_rfl))⟩
  f15 := Tryz.func93.trans (congrArg some (by kernel_rfl))
  f20 := ⟨Tryz.f108.name, by decide, Tryz.func108.trans (congrArg some (by kernel_rfl))⟩
  f21 := ⟨Tryz.f109.name, by decide, Tryz.func109.trans (congrArg some (by kernel_rfl))⟩
  f22 := ⟨Tryz.f110.name, by decide, Tryz.func110.trans (congrArg some (by kernel_rfl))⟩
  f23 := ⟨Tryz.f111.name, by decide, Tryz.func111.trans (congrArg some (by kernel_rfl))⟩
  f24 := ⟨Tryz.f112.name, by decide, Tryz.func112.trans (congrArg some (by kernel_rfl))⟩
  f25 := ⟨Tryz.f113.name, by decide, Tryz.func113.trans (congrArg some (by kernel_rfl))⟩
  f26 := ⟨Tryz.f114.name, by decide, Tryz.func114.trans (congrArg some (by kernel_rfl))⟩
  f27 := ⟨Tryz.f115.name, by decide, Tryz.func115.trans (congrArg some (by kernel_rfl))⟩
  f28 := Tryz.func116.trans (congrArg some (by kernel_rfl))
  f29 := Tryz.func105.trans (congrArg some (by kernel_rfl))
  f46 := ⟨Tryz.f125.name, by decide, Tryz.func125.trans (congrArg some (by kernel_rfl))⟩
  f47 := Tryz.func126.trans (congrArg some (by kernel_rfl))
  f48 := Tryz.func127.trans (congrArg some (by kernel_rfl))
  f49 := ⟨Tryz.f128.name, by decide, Tryz.func128.trans (congrArg some (by kernel_rfl))⟩
  f50 := ⟨Tryz.f129.name, by decide, Tryz.func129.trans (congrArg some (by kernel_rfl))⟩
  f57 := ⟨Tryz.f146.name, by decide, Tryz.func146.trans (congrArg some (by kernel_rfl))⟩
  t0 := Tryz.underlying0
  a0 := Tryz.isAgg0
  z0 := Tryz.sizeOf0
  v0 := Tryz.zeroValue0
  t3 := Tryz.underlying3
  a3 := Tryz.isAgg3
  z3 := Tryz.sizeOf3
  v3 := Tryz.zeroValue3
  t4 := Tryz.underlying4
  a4 := Tryz.isAgg4
  z4 := Tryz.sizeOf4
  v4 := Tryz.zeroValue4
  t5 := Tryz.underlying5
  a5 := Tryz.isAgg5
  z5 := Tryz.sizeOf5
  v5 := Tryz.zeroValue5
  t9 := Tryz.underlying9
  a9 := Tryz.isAgg9
  z9 := Tryz.sizeOf9
  v9 := Tryz.zeroValue9
  t22 := Tryz.underlying66
  a22 := Tryz.isAgg66
  z22 := Tryz.sizeOf66
  v22 := Tryz.zeroValue66
  t25 := Tryz.underlying120
  a25 := Tryz.isAgg120
  z25 := Tryz.sizeOf120
  v25 := Tryz.zeroValue120
  t39 := Tryz.underlying169
  a39 := Tryz.isAgg169
  z39 := Tryz.sizeOf169
  v39 := Tryz.zeroValue169
  t45 := Tryz.underlying187
  a45 := Tryz.isAgg187
  z45 := Tryz.sizeOf187
  v45 := Tryz.zeroValue187
  t46 := Tryz.underlying188
  a46 := Tryz.isAgg188
  z46 := Tryz.sizeOf188
  v46 := Tryz.zeroValue188
  t50 := Tryz.underlying128
  a50 := Tryz.isAgg128
  z50 := Tryz.sizeOf128
  v50 := Tryz.zeroValue128
  t53 := Tryz.underlying194
  a53 := Tryz.isAgg194
  z53 := Tryz.sizeOf194
  v53 := Tryz.zeroValue194
  t55 := Tryz.underlying85
  a55 := Tryz.isAgg85
  z55 := Tryz.sizeOf85
  v55 := Tryz.zeroValue85
  t66 := Tryz.underlying203
  a66 := Tryz.isAgg203
  z66 := Tryz.sizeOf203
  v66 := Tryz.zeroValue203
  t70 := Tryz.underlying207
  a70 := Tryz.isAgg207
  z70 := Tryz.sizeOf207
  v70 := Tryz.zeroValue207
  t76 := Tryz.underlying219
  a76 := Tryz.isAgg219
  z76 := Tryz.sizeOf219
  v76 := Tryz.zeroValue219
  t77 := Tryz.underlying167
  a77 := Tryz.isAgg167
  z77 := Tryz.sizeOf167
  v77 := Tryz.zeroValue167 }
def laysO16_ren : Go.Shelf.Ren := ⟨fun | 16 => 44 | n => n, fun | 3 => 3 | 35 => 105 | 4 => 4 | 38 => 169 | n => n, fun | n => n⟩
theorem laysO16 : Go.Proofs.SlLaysO.n16 Tryz.prog laysO16_ren := {
  mixed := by kernel_rfl
  f16 := Tryz.func44.trans (congrArg some (by kernel_rfl))
  t3 := Tryz.underlying3
  a3 := Tryz.isAgg3
  z3 := Tryz.sizeOf3
  v3 := Tryz.zeroValue3
  t4 := Tryz.underlying4
  a4 := Tryz.isAgg4
  z4 := Tryz.sizeOf4
  v4 := Tryz.zeroValue4
  t35 := Tryz.underlying105
  a35 := Tryz.isAgg105
  z35 := Tryz.sizeOf105
  v35 := Tryz.zeroValue105
  t38 := Tryz.underlying169
  a38 := Tryz.isAgg169
  z38 := Tryz.sizeOf169
  v38 := Tryz.zeroValue169 }
def laysE41_ren : Go.Shelf.Ren := ⟨fun | 41 => 50 | n => n, fun | 22 => 66 | 23 => 50 | 4 => 4 | n => n, fun | n => n⟩
theorem laysE41 : Go.Proofs.SlLaysE0.n41 Tryz.prog laysE41_ren := {
  mixed := by kernel_rfl
  f41 := ⟨Tryz.f50.name, by decide, Tryz.func50.trans (congrArg some (by kernel_rfl))⟩
  t4 := Tryz.underlying4
  a4 := Tryz.isAgg4
  z4 := Tryz.sizeOf4
  v4 := Tryz.zeroValue4
  t22 := Tryz.underlying66
  a22 := Tryz.isAgg66
  z22 := Tryz.sizeOf66
  v22 := Tryz.zeroValue66 }
end Go.Proofs.YtbfoiocbmhhdbaaGreat
/- Entries copied (slices.Clone) and sorted (slices.SortFunc). -/
namespace Go.Proofs.YtbfoiocbmhhdbaaGreat
open Go.RowKit Go.Sort
set_option linter.unusedSimpArgs false
set_option linter.unusedVariables false
/-- An entry whose name has 32 bytes. -/
abbrev Xf := { e : Xe // e.id.size = 32 }
instance : Inhabited Xf := ⟨⟨⟨⟨(List.replicate 32 (0 : UInt8)).toArray⟩, 0, 0, 0⟩, rfl⟩⟩
def encX (e : Xf) : List Value := (xeC e.1).toList
def cfX (a b : Xf) : Int := ordI a.1 b.1
theorem ltX (a b : Xf) : ltOf cfX a b = ltN a.1.id b.1.id := by
  unfold ltOf cfX ordI
  by_cases h : a.1.id = b.1.id
  · rw [if_pos h, h, ltN_irr]; rfl
  · rw [if_neg h]
    cases hl : ltN a.1.id b.1.id <;> rfl
theorem swoX : SWO (ltOf cfX) where
  irrefl x := by rw [ltX]; exact ltN_irr _
  trans x y z h1 h2 := by rw [ltX] at *; exact ltN_trans h1 h2
  ntrans x y z h1 h2 := by
    rw [ltX] at *
    rw [Bool.eq_false_iff]
    intro h3
    cases q : ltN z.1.id y.1.id with
    | true => rw [ltN_trans h3 q] at h1; cases h1
    | false =>
      have := ltN_tri h2 q
      rw [this] at h1
      rw [h1] at h3; cases h3
def toX (l : List Xe) (hs : ∀ e ∈ l, e.id.size = 32) : List Xf := l.pmap (fun e h => ⟨e, h⟩) hs
theorem toX_val : ∀ (l : List Xe) (hs : ∀ e ∈ l, e.id.size = 32), (toX l hs).map (fun x : Xf => x.1) = l
  | [], _ => rfl
  | e :: l, hs => by
    have ih := toX_val l (fun x hx => hs x (List.mem_cons_of_mem _ hx))
    show e :: (toX l _).map (fun x : Xf => x.1) = e :: l
    rw [ih]
theorem toX_len (l : List Xe) (hs : ∀ e ∈ l, e.id.size = 32) : (toX l hs).length = l.length := by simp [toX]
/-- The cells of a row of entries, flat. -/
theorem flat_xvs (d : List Xf) : (flatK encX 35 d.toArray).toList = xvs (d.map (fun x : Xf => x.1)) := by
  have hs : ∀ e ∈ d.map (fun x : Xf => x.1), e.id.size = 32 := fun e he => by
    obtain ⟨x, _, rfl⟩ := List.mem_map.1 he
    exact x.2
  apply List.ext_getElem
  · rw [Array.length_toList, size_flatK, xvs_len hs, List.length_map, List.size_toArray]
  · intro t h1 h2
    have ht : t < d.length * 35 := by rw [Array.length_toList, size_flatK, List.size_toArray] at h1; exact h1
    have hq : t / 35 < d.length := by omega
    have e1 : (flatK encX 35 d.toArray).toList[t] = (flatK encX 35 d.toArray)[t]! := by
      rw [Array.getElem_toList, getElem!_pos _ t (by rw [size_flatK, List.size_toArray]; exact ht)]
    rw [e1, get_flatK _ _ _ _ (by rw [List.size_toArray]; exact ht)]
    have e2 : (d.map (fun x : Xf => x.1))[t / 35]? = some (d[t / 35]).1 := by rw [List.getElem?_map, List.getElem?_eq_getElem hq]; rfl
    have e3 := xvs_get hs e2 (t % 35) (Nat.mod_lt _ (by decide))
    rw [show t / 35 * 35 + t % 35 = t from by omega, List.getElem?_eq_getElem h2] at e3
    have e4 : d.toArray[t / 35]! = d[t / 35] := by rw [getElem!_pos _ _ (by rw [List.size_toArray]; exact hq), List.getElem_toArray]
    rw [e4]
    have hz : t % 35 < (encX d[t / 35]).length := by
      unfold encX
      rw [Array.length_toList, xeC_size _ (d[t / 35]).2]
      exact Nat.mod_lt _ (by decide)
    rw [getElem!_pos (encX d[t / 35]) (t % 35) hz]
    have e5 : (xeC (d[t / 35]).1)[t % 35]? = some ((encX d[t / 35])[t % 35]) := by
      rw [← Array.getElem?_toList]
      exact List.getElem?_eq_getElem hz
    rw [e5] at e3
    exact (Option.some.inj e3).symm
theorem heap_sortX {w : World} {g n : Nat} {os : Array Obj} {cur : Array Value} {e : TypeId} (F : Array Value) (hb : w.heap[g]? = some (.cells cur e (0, 0))) :
    (grow (putRow id (Sort.ahead w n) g 0 F) os).heap[g]? = some (.cells (putCells id 0 F cur) e (0, 0)) := by
  have hg : g < w.heap.size := (Array.getElem?_eq_some_iff.1 hb).1
  rw [heap_grow_old _ _ (by simpa using hg)]
  simp [putRow, mapBlock, Sort.ahead, Array.getElem?_modify, hb, onCells]
theorem grown_sortX {w : World} {g n : Nat} {os : Array Obj} (F : Array Value) : w.grownBy (grow (putRow id (Sort.ahead w n) g 0 F) os) (some g) := by
  refine ⟨rfl, rfl, rfl, by simp, fun k hk hne => ?_⟩
  rw [heap_grow_old _ _ (by simpa using hk)]
  have : g ≠ k := fun e => hne (by rw [e])
  simp [putRow, mapBlock, Sort.ahead, Array.getElem?_modify, this]
theorem take_putX (cur F : Array Value) (h : F.size ≤ cur.size) : (putCells id 0 F cur).toList.take F.size = F.toList := by
  apply List.ext_getElem?
  intro j
  by_cases hj : j < F.size
  · rw [List.getElem?_take_of_lt hj, Array.getElem?_toList, Array.getElem?_toList]
    simp [putCells, hj, show j < cur.size by omega]
  · rw [List.getElem?_take_eq_none (by omega), List.getElem?_eq_none (by simp; omega)]
theorem cmpX (blk off size : Nat) (w : World) : CmpLays Tryz.prog 53 #[] encX 35 cfX blk off size w := fun _ _ _ _ x y => order_any x.1 y.1 _ x.2 y.2
set_option maxHeartbeats 1000000 in
/-- A row of entries of the call's own, sorted. -/
theorem sort_any (B g n c : Nat) (l : List Xe) (w : World) (h : w.ownsRow B 50 35 (.slice (some ⟨g, 0, none⟩) n c) n (xvs l)) (hl : l.length = n) (hs : ∀ e ∈ l, e.id.size = 32) (hn : n < 4611686018427387904) (hB : B ≤ w.heap.size) :
    Calls Tryz.prog 52 #[.slice (some ⟨g, 0, none⟩) n c, .func (.func 53) #[] #[]] w fun e w' => e = .returned (.tuple #[]) ∧ ∃ L : List Xe, L.Perm l ∧ (L.Pairwise fun a b => ltN b.id a.id = false) ∧ w'.ownsRow B 50 35 (.slice (some ⟨g, 0, none⟩) n c) n (xvs L) ∧ Below B w w' := by
  rcases h.2 with ⟨h1, _⟩ | ⟨g', cap, cur, h1, hle, hg, hnc, hcm, hsz, ht⟩
  · cases h1
  injection h1 with h1 _ h3
  injection h1 with h1
  injection h1 with h1
  subst h1
  subst h3
  have hg2 : w.heap[g]? = some (.cells cur 50 (0, 0)) := hg
  obtain ⟨d, hd⟩ : ∃ d, toX l hs = d := ⟨_, rfl⟩
  have hdl : d.length = n := by rw [← hd, toX_len, hl]
  have hdv : d.map (fun x : Xf => x.1) = l := by rw [← hd]; exact toX_val l hs
  have hH : HoldsK encX 35 w g 0 d.toArray := by
    intro j hj
    rw [size_flatK, List.size_toArray, hdl] at hj
    have hb : Bk w g cur 50 := hg
    refine ⟨?_, hb.frozen _⟩
    rw [hb.cell, Nat.zero_add]
    have q : (cur.toList.take (n * 35))[j]? = (xvs l)[j]? := by rw [ht]
    rw [List.getElem?_take_of_lt hj, Array.getElem?_toList] at q
    rw [q, ← hdv, ← flat_xvs, Array.getElem?_toList]
    rw [Array.getElem?_eq_getElem (by rw [size_flatK, List.size_toArray, hdl]; exact hj), getElem!_pos _ _ (by rw [size_flatK, List.size_toArray, hdl]; exact hj)]
    rfl
  have hcon := AnyQ.slices_SortFunc laysF6 35 Tryz.isAgg50 Tryz.sizeOf50 encX (fun x => by unfold encX; rw [Array.length_toList, xeC_size _ x.2]) (fun x v hv => xeC_one x.1 v hv) cfX swoX 53 #[] g 0 c d.toArray w (enters_of Tryz.func53 (by kernel_rfl) rfl) (cmpX _ _ _ _) hH (Array.getElem?_eq_some_iff.1 hg2).1 (by rw [List.size_toArray, hdl]; exact hn)
  rw [List.size_toArray, hdl] at hcon
  refine hcon.mono ?_
  rintro e w' ⟨rfl, d', m, os, hp, hso, rfl⟩
  have hps : d'.size = n := by rw [hp.1, List.size_toArray, hdl]
  have hperm : (d'.toList).Perm d := by
    have := hp.2.2
    rw [show d'.extract 0 n = d' from by rw [← hps]; simp, show d.toArray.extract 0 n = d.toArray from by rw [← hdl]; simp] at this
    exact this
  refine ⟨rfl, d'.toList.map (fun x : Xf => x.1), ?_, ?_, ?_, ?_⟩
  · rw [← hdv]; exact hperm.map _
  · rw [List.pairwise_map, List.pairwise_iff_getElem]
    intro i j hi hj hij
    rw [Array.length_toList, hps] at hi hj
    have := hso i j (Nat.zero_le _) hij hj
    rw [ltX, getElem!_pos _ _ (by omega), getElem!_pos _ _ (by omega)] at this
    rw [Array.getElem_toList, Array.getElem_toList]
    exact this
  · have hF : (flatK encX 35 d').toList = xvs (d'.toList.map (fun x : Xf => x.1)) := by
      have := flat_xvs d'.toList
      rwa [Array.toArray_toList] at this
    have hFs : (flatK encX 35 d').size = n * 35 := by rw [size_flatK, hps]
    refine ⟨by rw [← hF, Array.length_toList, hFs], .inr ⟨g, c, _, rfl, hle, heap_sortX _ hg2, hnc, hcm, by simp [putCells, hsz], ?_⟩⟩
    rw [← hF, ← hFs]
    exact take_putX cur _ (by rw [hFs, hsz]; exact Nat.mul_le_mul_right _ hnc)
  · exact below_own (Below.refl _ _) hB (grown_sortX _) hle
/-- Sorting nothing does nothing. -/
def SNone : Prop := ∀ (p : Option Addr) (cap : Nat) (fv : Value) (w : World), Calls Tryz.prog 52 #[.slice p 0 cap, fv] w fun e w' => e = .returned (.tuple #[]) ∧ w' = w
set_option maxRecDepth 100000 in
/-- Entries copied. -/
theorem clone_any (a : Option Addr) (n c : Nat) (l : List Xe) (w : World) (hX : XeL w a l) (hl : l.length = n) (hA : a = none ∨ ∃ g o, a = some ⟨g, o, none⟩) (hn : n ≤ 2000000000) :
    Calls Tryz.prog 50 #[.slice a n c] w fun e w' => ∃ v, e = .returned v ∧ w'.ownsRow w.heap.size 50 35 v n (xvs l) ∧ Below w.heap.size w w' := by
  rcases hA with rfl | ⟨g, o, rfl⟩
  · have h0 : l = [] := by
      cases l with
      | nil => rfl
      | cons e l =>
        obtain ⟨_, g, o, h, _⟩ := hX 0 e rfl
        cases h
    subst h0
    subst hl
    refine (AnyE.slices_Clone_nil laysE41 _ c w).mono ?_
    rintro e w' ⟨rfl, rfl⟩
    exact ⟨_, rfl, ⟨rfl, .inl ⟨rfl, rfl⟩⟩, Below.refl _ _⟩
  · obtain ⟨i0, hi, hz0, hz1, hz2⟩ := info_parts inf_xe
    have hs := hX.ids
    refine (AnyE.slices_Clone laysE41 i0 (.agg z35X) 35 56 hi hz0 hz1 hz2 rfl (by decide) Tryz.sizeOf50 g o n c (xvs l) w (by rw [xvs_len hs, hl]) (by unfold maxLen; omega) (by omega) (fun j u hu => ?_) (xvs_one l)).mono ?_
    · have hj : j < l.length * 35 := by
        have := (List.getElem?_eq_some_iff.1 hu).1
        rwa [xvs_len hs] at this
      have hq : j / 35 < l.length := by omega
      obtain ⟨_, g', o', h, _, hc⟩ := hX (j / 35) (l[j / 35]) (List.getElem?_eq_getElem hq)
      injection h with h
      injection h with h1 h2
      subst h1
      subst h2
      have := xvs_get hs (List.getElem?_eq_getElem hq) (j % 35) (Nat.mod_lt _ (by decide))
      rw [show j / 35 * 35 + j % 35 = j from by omega, hu] at this
      have q := hc (j % 35) u this.symm
      rwa [show o + j / 35 * 35 + j % 35 = o + j from by omega] at q
    · rintro e w' ⟨v, rfl, ho, _, hb⟩
      exact ⟨v, rfl, ho, hb⟩
end Go.Proofs.YtbfoiocbmhhdbaaGreat
/- idx.Index: Pack, Len, At, Range, All. -/
namespace Go.Proofs.YtbfoiocbmhhdbaaGreat
open Go.RowKit
set_option linter.unusedSimpArgs false
set_option linter.unusedVariables false
theorem fanB_succ (l : List Xe) (b : Nat) : fanB l (b + 1) = fanL l b := by
  unfold fanB fanL
  congr 1
  funext e
  exact decide_eq_decide.2 (by omega)
theorem fanB_zero (l : List Xe) : fanB l 0 = 0 := by
  unfold fanB
  rw [List.countP_eq_zero]
  intro e _
  simp
set_option maxHeartbeats 2000000 in
set_option maxRecDepth 100000 in
theorem irange_any (g : Nat) (s : ByteArray) (l : List Xe) (b : Nat) (hb : b < 256) (w : World) (h : IxS w g s l) : Calls Tryz.prog 88 #[.pointer (some ⟨g, 0, none⟩), .int .u8 (b : Int)] w fun e w' => e = .returned (.tuple #[.int .i64 (fanB l b : Int), .int .i64 (fanL l b : Int)]) ∧ ∃ q, w' = w.drewN q := by
  obtain ⟨a, n, c, hB, hX, hl, hc, hA⟩ := h.row
  have hq : w.cell? ⟨g, 32 + b, none⟩ = some (.int .i64 (fanL l b : Int)) := by rw [hB.cell]; exact ixC_fan s _ _ h.id b hb
  obtain ⟨u, hu⟩ : ∃ u, fanL l b = u := ⟨_, rfl⟩
  rw [hu] at hq ⊢
  have h0 : (0 : Int) ≤ b := by omega
  have h1 : (b : Int) < 256 := by omega
  by_cases hz : b = 0
  · subst hz
    rw [fanB_zero]
    clear h hB hX hl hu
    go_enter Tryz.func88, Tryz.ntmps88
    go_wp2
    go_region
    go_wp2
    go_ret2
    exact ⟨rfl, 1, rfl⟩
  · obtain ⟨d, rfl⟩ : ∃ d, b = d + 1 := ⟨b - 1, by omega⟩
    rw [fanB_succ]
    have hq2 : w.cell? ⟨g, 32 + d, none⟩ = some (.int .i64 (fanL l d : Int)) := by rw [hB.cell]; exact ixC_fan s _ _ h.id d (by omega)
    obtain ⟨v, hv⟩ : ∃ v, fanL l d = v := ⟨_, rfl⟩
    rw [hv] at hq2 ⊢
    obtain ⟨f, hf⟩ : ∃ f, d + 1 = f := ⟨_, rfl⟩
    rw [hf] at hq h0 h1 ⊢
    have h3 : (0 : Int) < f := by omega
    have h4 : (f : Int) - 1 = d := by omega
    have h5 : IntKind.u8.wrap (d : Int) = (d : Int) := by
      simp [IntKind.wrap, IntKind.bits, IntKind.signed]; omega
    have h6 : (0 : Int) ≤ d := by omega
    have h7 : (d : Int) < 256 := by omega
    clear h hB hX hl hu hv hf hz hb
    go_enter Tryz.func88, Tryz.ntmps88
    go_wp2
    go_region
    go_wp2
    go_ret2
    exact ⟨rfl, 1, rfl⟩
theorem irange_nil (b : Nat) (w : World) : Calls Tryz.prog 88 #[.pointer none, .int .u8 (b : Int)] w fun e w' => e = .returned (.tuple #[.int .i64 0, .int .i64 0]) ∧ w' = w := by
  go_enter Tryz.func88, Tryz.ntmps88
  go_wp2
  go_ret2
  exact ⟨rfl, rfl⟩
theorem iall_any (g : Nat) (s : ByteArray) (l : List Xe) (w : World) (h : IxS w g s l) (hn : l.length ≤ 65536) : Calls Tryz.prog 24 #[.pointer (some ⟨g, 0, none⟩)] w fun e w' => ∃ v, e = .returned v ∧ w'.ownsRow w.heap.size 50 35 v l.length (xvs l) ∧ Below w.heap.size w w' := by
  obtain ⟨a, n, c, hB, hX, hl, hc, hA⟩ := h.row
  have hq : w.cell? ⟨g, 288, none⟩ = some (.slice a n c) := by rw [hB.cell]; exact ixC_row s _ _ h.id
  have HC : Hid (Calls Tryz.prog 50 #[.slice a n c] w fun e w' => ∃ v, e = .returned v ∧ w'.ownsRow w.heap.size 50 35 v n (xvs l) ∧ Below w.heap.size w w') := clone_any a n c l w hX hl hA (by omega)
  rw [hl]
  clear h hB hX hl hA
  go_enter Tryz.func24, Tryz.ntmps24
  go_wp2_with fail
  refine HC.out.mono ?_
  rintro e w1 ⟨v, rfl, ho, hb⟩
  have HE : Hid (w1.ownsRow w.heap.size 50 35 v n (xvs l) ∧ Below w.heap.size w w1) := ⟨ho, hb⟩
  obtain ⟨va, vc, hvv⟩ : ∃ va vc, v = .slice va n vc := by
    rcases ho.2 with ⟨h1, h0⟩ | ⟨g, cap, cur, h1, _⟩
    · exact ⟨none, 0, by rw [h1, h0]⟩
    · exact ⟨_, _, h1⟩
  subst hvv
  clear ho hb
  go_wp2
  go_ret
  exact ⟨_, rfl, HE.out⟩
end Go.Proofs.YtbfoiocbmhhdbaaGreat
