import Derived.Test.YtbfoiocbmhhdbaaGreatY26
import Derived.Deep.Upon
import Derived.ArgAppend
import Derived.Test.YtbfoiocbmhhdbaaGreatY21
import Derived.Test.YtbfoiocbmhhdbaaGreatY20
import Derived.Maps.AppendAt
/- A list of texts appended to a row of texts of the call's own; such a row as a block. -/
namespace Go.Proofs.YtbfoiocbmhhdbaaGreat
open Go.RowKit Go.Deep
set_option linter.unusedSimpArgs false
set_option linter.unusedVariables false
theorem one_sv (l : List ByteArray) : ∀ u ∈ sv l, u.oneCell' = true := by
  intro u hu
  obtain ⟨x, _, rfl⟩ := List.mem_map.1 hu
  rfl
theorem gr_refl (w : World) (r : Option Nat) : w.grownBy w r := ⟨rfl, rfl, rfl, Nat.le_refl _, fun _ _ _ => rfl⟩
theorem app_txts (w : World) (B : Nat) (v : Value) (ks xs : List ByteArray) (k n c : Nat) (hk : ks.length = k) (hn : xs.length = n) (hown : w.ownsRow B 9 1 v k (sv ks)) (hB : B ≤ w.heap.size)
    (ad : Option Addr) (ht : TxL w ad xs) (hb : (k + n) * 16 ≤ 140737488355328) (ty : TypeId) :
    ∃ v' w', (Builtin.append_ #[23, 23] ty #[v, .slice ad n c]).run Tryz.prog w = .ok v' w' ∧ w'.ownsRow B 9 1 v' (k + n) (sv (ks ++ xs)) ∧ w.grownBy w' v.ownBlock := by
  obtain ⟨i0, hi, hz0, hz1, hz2⟩ := info_parts inf_str
  cases xs with
  | nil =>
    obtain rfl : n = 0 := by simpa using hn.symm
    obtain ⟨a, cp, rfl, hle⟩ : ∃ a cp, v = .slice a k cp ∧ k ≤ cp := by
      rcases hown.2 with ⟨rfl, h0⟩ | ⟨g, cap, cur, rfl, _, _, h, _⟩
      · exact ⟨none, 0, by rw [h0], by omega⟩
      · exact ⟨_, _, rfl, h⟩
    have hsrc : Src Tryz.prog i0.size 23 (.slice ad 0 c) 0 [] w := by
      cases ad with
      | none => exact Src.ofNil w Tryz.underlying23 c
      | some q => exact Src.ofSlice w Tryz.underlying23 q 0 c [] (by simp) (fun j u h => by simp at h) (fun _ h => by cases h)
    have h := run_append_nothing (P := Tryz.prog) w 23 23 ty 9 i0 Tryz.underlying23 hi a k cp hle (.slice ad 0 c) hsrc
    exact ⟨_, _, h, by rw [List.append_nil]; exact hown, gr_refl _ _⟩
  | cons x0 xs0 =>
    obtain ⟨g, o, rfl, hlt, _⟩ := ht 0 x0 rfl
    have hnews : ∀ j u, (sv (x0 :: xs0))[j]? = some u → w.cell? ((⟨g, o, none⟩ : Addr).add j) = some u := by
      intro j u hj
      rw [sv, List.getElem?_map] at hj
      obtain ⟨x, hx, rfl⟩ := Option.map_eq_some_iff.1 hj
      obtain ⟨g', o', e, _, hc⟩ := ht j x hx
      cases e
      rw [WideShapes.add_plain]
      exact hc
    obtain ⟨v', w', h1, h2, h3, _⟩ := run_append_own (P := Tryz.prog) (w := w) B 23 ty 9 i0 (.string ⟨#[]⟩) 1 16 Tryz.underlying23 hi hz0 hz1 hz2 rfl (by decide) v k (sv ks) hown ⟨g, o, none⟩ n c (sv (x0 :: xs0)) (by rw [sv, List.length_map, hn, Nat.mul_one]) hnews (one_sv _) (by unfold maxLen; omega) hb hB
    exact ⟨v', w', h1, by rw [sv_append]; exact h2, h3⟩
theorem wpList_append_txts {ops : Array Oper} {rest : List Oper} {o : Oper} {a : Act} {Q : Exit → Act → World → Prop} (w : World)
    (hg : o.guard = none) (s x : Operand) (hop : o.op = Op.call { callee := Callee.builtin Builtin.append, args := #[s, x], argTypes := #[23, 23] })
    (B : Nat) (v : Value) (ks xs : List ByteArray) (k n c : Nat) (hs : a.eval s = v) (hk : ks.length = k) (hn : xs.length = n) (hown : w.ownsRow B 9 1 v k (sv ks)) (hB : B ≤ w.heap.size)
    (ad : Option Addr) (hx : a.eval x = .slice ad n c) (ht : TxL w ad xs) (hb : (k + n) * 16 ≤ 140737488355328)
    (hK : ∀ v' w', w'.ownsRow B 9 1 v' (k + n) (sv (ks ++ xs)) → w.grownBy w' v.ownBlock → wpList Tryz.prog ops Q rest (a.put o.dst v') w') :
    wpList Tryz.prog ops Q (o :: rest) a w := by
  refine wpList_plain hg fun K hK' => ?_
  obtain ⟨v', w', hrun, r1, r2⟩ := app_txts w B v ks xs k n c hk hn hown hB ad ht hb o.type
  unfold Oper.wp
  simp [execOp, hop, resolve, invoke, builtin, hs, hx, hrun, Result.andThen]
  exact hK' _ _ (hK v' w' r1 r2)
/-- A row of texts of the call's own, once one lies in it. -/
theorem own_block_at {w : World} {B k : Nat} {v : Value} {xs : List ByteArray} (h : w.ownsRow B 9 1 v (k + 1) (sv xs)) :
    ∃ g cap cur, v = .slice (some ⟨g, 0, none⟩) (k + 1) cap ∧ B ≤ g ∧ Bk w g cur 9 ∧ k + 1 ≤ cap ∧ cap ≤ maxLen ∧ ∀ (j : Nat) (x : ByteArray), xs[j]? = some x → cur[j]? = some (.string x) := by
  rcases h.2 with ⟨_, h0⟩ | ⟨g, cap, cur, rfl, hle, hgc, h1, h2, h3, h4⟩
  · omega
  · refine ⟨g, cap, cur, rfl, hle, hgc, h1, h2, fun j x hx => ?_⟩
    have hl := h.1
    rw [sv, List.length_map] at hl
    have hj : j < k + 1 := by have := (List.getElem?_eq_some_iff.1 hx).1; omega
    have e := congrArg (·[j]?) h4
    rw [Nat.mul_one] at e
    simp only [List.getElem?_take, if_pos hj, sv, List.getElem?_map, hx, Option.map_some] at e
    rw [← Array.getElem?_toList]; exact e
end Go.Proofs.YtbfoiocbmhhdbaaGreat
/- The law's back: the walk. -/
namespace Go.Proofs.YtbfoiocbmhhdbaaGreat
open Go.RowKit
set_option linter.unusedSimpArgs false
set_option linter.unusedVariables false
/-- While the packs' indexes are made. -/
structure BkU (w w2 : World) (ps : List ByteArray) (l : List Mr) (i : Nat) (v : Value) (W : World) : Prop where
  bel : Below w.heap.size w W
  bel2 : Below w2.heap.size w2 W
  tx : ∃ ts xs, W.ownsRow w2.heap.size 9 1 v i (sv ts) ∧ ts.length = i ∧ Bks (ps.take i) l ts xs
theorem BkU.next {w w2 W W' : World} {ps : List ByteArray} {l : List Mr} {i : Nat} {v : Value} (h : BkU w w2 ps l i v W) (hb : Below W.heap.size W W') : BkU w w2 ps l i v W' := by
  obtain ⟨ts, xs, h1, h2, h3⟩ := h.tx
  exact ⟨h.bel.trans (hb.mono h.bel.size), h.bel2.trans (hb.mono h.bel2.size), ts, xs, own_kept h1 hb, h2, h3⟩
theorem es_snoc (l : List Mr) (k : Nat) (r : Mr) (p : ByteArray) (h : l[k]? = some r) : esOf (l.take (k + 1)) p = if r.p = p then esOf (l.take k) p ++ [r.e] else esOf (l.take k) p := by
  rw [List.take_add_one, h]
  unfold esOf
  rw [List.filter_append, List.map_append]
  by_cases e : r.p = p
  · rw [if_pos e]; simp [e]
  · rw [if_neg e]; simp [e]
theorem own_nms {w : World} {B n : Nat} {v : Value} {l : List ByteArray} (hs : ∀ s ∈ l, s.size = 32) (hn : l.length = n) (h : w.ownsRow B 48 32 v n (nvs l)) : ∃ a c, v = .slice a n c ∧ NmL w a l := by
  rcases h.2 with ⟨h1, h0⟩ | ⟨g, cap, cur, h1, _⟩
  · exact ⟨none, 0, by rw [h1, h0], fun i s hi => by rw [List.length_eq_zero_iff.1 (hn.trans h0)] at hi; simp at hi⟩
  · subst h1
    exact ⟨_, _, rfl, nml_own hs hn h⟩
theorem own_mrs {w : World} {B n : Nat} {v : Value} {l : List Mr} (hs : ∀ r ∈ l, r.p.size = 32 ∧ r.e.id.size = 32) (hn : l.length = n) (h : w.ownsRow B 52 67 v n (mvs l)) : ∃ a c, v = .slice a n c ∧ MrL w a l := by
  rcases h.2 with ⟨h1, h0⟩ | ⟨g, cap, cur, h1, _⟩
  · exact ⟨none, 0, by rw [h1, h0], fun i s hi => by rw [List.length_eq_zero_iff.1 (hn.trans h0)] at hi; simp at hi⟩
  · subst h1
    exact ⟨_, _, rfl, mrl_own hs hn h⟩
theorem own_txl15 {w : World} {B n : Nat} {v : Value} {xs : List ByteArray} (hn : xs.length = n) (h : w.ownsRow B 9 1 v n (sv xs)) : ∃ a c, v = .slice a n c ∧ TxL w a xs := by
  rcases h.2 with ⟨h1, h0⟩ | ⟨g, cap, cur, h1, hle, hg, hnc, hcm, hsz, ht⟩
  · exact ⟨none, 0, by rw [h1, h0], fun i s hi => by rw [List.length_eq_zero_iff.1 (hn.trans h0)] at hi; simp at hi⟩
  · subst h1
    refine ⟨_, _, rfl, fun i x hx => ⟨g, 0, rfl, ?_, ?_⟩⟩
    · rcases Nat.lt_or_ge g w.heap.size with hlt | hge
      · exact hlt
      · rw [Array.getElem?_eq_none hge] at hg; cases hg
    · have hi : i < xs.length := (List.getElem?_eq_some_iff.1 hx).1
      rw [Nat.zero_add, h.cellAt i (by omega), sv, List.getElem?_map, hx]; rfl
set_option maxHeartbeats 16000000 in
set_option maxRecDepth 100000 in
theorem back15 (g : Nat) (s : ByteArray) (ps : List ByteArray) (l : List Mr) (w : World) (h : MxS w g ps l) (hs : IsMx s ps l) :
    Calls Tryz.prog 26 #[.pointer (some ⟨g, 0, none⟩), .string s] w fun e w' => e = .returned (.bool true) ∧ Below w.heap.size w w' := by
  have HM : Hid (MxS w g ps l ∧ IsMx s ps l) := ⟨h, hs⟩
  have HR : Hid ((∀ p ∈ ps, p.size = 32) ∧ ∀ r ∈ l, r.p.size = 32 ∧ r.e.id.size = 32) := ⟨hs.ok.psz, fun r hr => ⟨hs.ok.psz _ (hs.ok.mem r hr), hs.ok.id r hr⟩⟩
  have HOK : Hid (OkM ps l) := hs.ok
  have hpl : ps.length ≤ 4096 := hs.ok.pln
  have hll : l.length ≤ 1048576 := hs.ok.len
  obtain ⟨np, hnp⟩ : ∃ n, ps.length = n := ⟨_, rfl⟩
  obtain ⟨nr, hnr⟩ : ∃ n, l.length = n := ⟨_, rfl⟩
  have HN : Hid (ps.length = np ∧ l.length = nr) := ⟨hnp, hnr⟩
  rw [hnp] at hpl
  rw [hnr] at hll
  clear h hs hnp hnr
  go_enter Tryz.func26, Tryz.ntmps26
  go_wp2_with fail
  refine (mpacks_any g ps l w HM.out.1).mono ?_
  rintro e w1 ⟨v1, rfl, ho1, b1⟩
  obtain ⟨a1, c1, rfl, hn1⟩ := own_nms HR.out.1 HN.out.1 (by rw [← HN.out.1]; exact ho1)
  have H1 : Hid (NmL w1 a1 ps ∧ MxS w1 g ps l ∧ Below w.heap.size w w1) := ⟨hn1, HM.out.1.below b1, b1⟩
  clear ho1 hn1 b1
  go_wp2_with fail
  refine (mall_any g ps l w1 H1.out.2.1).mono ?_
  rintro e w2 ⟨v2, rfl, ho2, b2⟩
  obtain ⟨a2, c2, rfl, hn2⟩ := own_mrs HR.out.2 HN.out.2 (by rw [← HN.out.2]; exact ho2)
  have H2 : Hid (NmL w2 a1 ps ∧ MrL w2 a2 l ∧ Below w.heap.size w w2) := ⟨H1.out.1.below b2, hn2, H1.out.2.2.trans (b2.mono H1.out.2.2.size)⟩
  clear ho2 hn2 b2 H1
  have HU0 : Hid (BkU w w2 ps l 0 (.slice none 0 0) w2) := ⟨H2.out.2.2, Below.refl _ _, [], [], World.ownsRow_nil _ _ _ _, rfl, by rw [List.take_zero]; exact Bks.nil l⟩
  go_wp2
  go_loopw [7, 8] (fun v u W => ∃ i : Nat, u = .int .i64 i ∧ i ≤ np ∧ Hid (BkU w w2 ps l i v W)) (fun _ u _ => np - (intOf u).toNat)
  case atStart => exact ⟨0, rfl, Nat.zero_le _, HU0.out⟩
  case round =>
    clear HU0
    obtain ⟨i, rfl, hi, HU⟩ := hrel
    by_cases hlt : i < np
    · have hiz : (i : Int) < (np : Nat) := by omega
      obtain ⟨p, hp⟩ : ∃ p, ps[i]? = some p := ⟨_, List.getElem?_eq_getElem (by rw [HN.out.1]; exact hlt)⟩
      obtain ⟨hp32, g1, o1, rfl, hg1, hc1⟩ := H2.out.1 i p hp
      have HP : Hid (ps[i]? = some p ∧ p.size = 32 ∧ ps.take (i + 1) = ps.take i ++ [p]) := ⟨hp, hp32, by rw [List.take_add_one, hp]; rfl⟩
      have CP : Hid (∀ W, Below w2.heap.size w2 W → ∀ j v, (idc p)[j]? = some v → W.cell? ⟨g1, o1 + i * 32 + j, none⟩ = some v) := fun W hW j v hv => by
        rw [hW.cell (p := ⟨g1, o1 + i * 32 + j, none⟩) hg1]; exact hc1 j v hv
      clear hp hp32 hg1 hc1
      have HO0 : Hid (OwX wr (esOf (l.take 0) p) (.slice none 0 0) wr) := ⟨rows_none, (fun e he => by simp [esOf] at he), Below.refl _ _⟩
      obtain ⟨wi, hwi⟩ : ∃ W, wr = W := ⟨_, rfl⟩
      rw [hwi] at HU HO0 ⊢
      clear hwi
      go_wp2
      go_loopw [9, 10] (fun v u W => ∃ k : Nat, u = .int .i64 k ∧ k ≤ nr ∧ Hid (OwX wi (esOf (l.take k) p) v W)) (fun _ u _ => nr - (intOf u).toNat)
      case atStart => exact ⟨0, rfl, Nat.zero_le _, HO0.out⟩
      case round =>
        clear HO0
        obtain ⟨k, rfl, hk, HO⟩ := hrel
        by_cases hlk : k < nr
        · have hkz : (k : Int) < (nr : Nat) := by omega
          obtain ⟨r, hr⟩ : ∃ r, l[k]? = some r := ⟨_, List.getElem?_eq_getElem (by rw [HN.out.2]; exact hlk)⟩
          obtain ⟨⟨hrp, hrid⟩, g2, o2, rfl, hg2, hc2⟩ := H2.out.2.1 k r hr
          have HB2 : Hid (Below w2.heap.size w2 wr) := HU.out.bel2.trans (HO.out.bel.mono HU.out.bel2.size)
          have CR : Hid (∀ W, Below wr.heap.size wr W → ∀ (j : Nat) (v : Value), (mrC r)[j]? = some v → W.cell? ⟨g2, o2 + k * 67 + j, none⟩ = some v) := fun W hW j v hv => by
            rw [(HB2.out.trans (hW.mono HB2.out.size)).cell (p := ⟨g2, o2 + k * 67 + j, none⟩) hg2]; exact hc2 j v hv
          have C1 : Hid (∀ W, Below wr.heap.size wr W → ∀ (j : Nat) (v : Value), (idc r.p)[j]? = some v → W.cell? ⟨g2, o2 + k * 67 + j, none⟩ = some v) := fun W hW j v hv => CR.out W hW j v (by have := mrC_p r hrp j v hv; rwa [Nat.zero_add] at this)
          have C2 : Hid (∀ W, Below wr.heap.size wr W → ∀ (j : Nat) (v : Value), (idc p)[j]? = some v → W.cell? ⟨g1, o1 + i * 32 + j, none⟩ = some v) := fun W hW j v hv => CP.out W (HB2.out.trans (hW.mono HB2.out.size)) j v hv
          have CE : Hid (∀ W, Below wr.heap.size wr W → ∀ (j : Nat) (v : Value), (xeC r.e).toList[j]? = some v → W.cell? ⟨g2, o2 + k * 67 + 32 + j, none⟩ = some v) := fun W hW j v hv => by
            have := CR.out W hW (32 + j) v (mrC_e r hrp j v (by rwa [Array.getElem?_toList] at hv))
            rwa [← Nat.add_assoc] at this
          have HI12 : Hid ((Tryz.prog.info? 48).map (·.size) = some (idc r.p).size ∧ (Tryz.prog.info? 48).map (·.size) = some (idc p).size) := ⟨info_32 (by rw [idc_size, hrp]), info_32 (by rw [idc_size, HP.out.2.1])⟩
          have hEQ := eql_ids r.p p hrp HP.out.2.1
          have HES : Hid (esOf (l.take (k + 1)) p = if r.p = p then esOf (l.take k) p ++ [r.e] else esOf (l.take k) p) := es_snoc l k r p hr
          have HEL : Hid ((esOf (l.take k) p).length ≤ 1048576) := by
            show _ ≤ _
            unfold esOf
            rw [List.length_map]
            refine Nat.le_trans (List.length_filter_le _ _) ?_
            rw [List.length_take, HN.out.2]; omega
          have HRI : Hid (r.e.id.size = 32) := hrid
          obtain ⟨D1, hD1⟩ : ∃ D, idc r.p = D := ⟨_, rfl⟩
          obtain ⟨D2, hD2⟩ : ∃ D, idc p = D := ⟨_, rfl⟩
          rw [hD1] at C1
          rw [hD2] at C2
          rw [hD1, hD2] at HI12 hEQ
          clear hr hrp hrid hg2 hc2 hD1 hD2 CR
          by_cases hpe : r.p = p
          · have HEE : Hid (esOf (l.take (k + 1)) p = esOf (l.take k) p ++ [r.e]) := by
              show _ = _
              rw [HES.out, if_pos hpe]
            have hEQ2 : ∀ u, (binOp .eql 48 (.agg D1) (.agg D2)).run Tryz.prog u = .ok (.bool true) u := fun u => by rw [hEQ u]; simp [hpe]
            clear hEQ HES hpe
            go_wp2_with fail
            refine region_class10 (fun W => Below wr.heap.size wr W) (by kernel_rfl) (by kernel_rfl) ((Below.refl _ _).drew) ?_
            try simp only [Act.put, List.setIfInBounds_toArray, List.set_cons_zero, List.set_cons_succ]
            repeat (first
              | go_big_quiet_skip
              | (go_big_quiet_want
                 first
               | (refine quiet_rowc 48 _ rfl g2 (o2 + k * 67) D1 _ rfl C1.out Tryz.underlying48 rfl HI12.out.1 ?_; go_big_quiet_on; simp only [Act.put, List.setIfInBounds_toArray, List.set_cons_zero, List.set_cons_succ])
               | (refine quiet_rowc 48 _ rfl g1 (o1 + i * 32) D2 _ rfl C2.out Tryz.underlying48 rfl HI12.out.2 ?_; go_big_quiet_on; simp only [Act.put, List.setIfInBounds_toArray, List.set_cons_zero, List.set_cons_succ])
               | (refine quiet_val10 (.pointer (some ⟨g2, o2 + k * 67, none⟩)) ?_ ?_; (focus (intro W hW; go_simp; done)); go_big_quiet_on; simp only [Act.put, List.setIfInBounds_toArray, List.set_cons_zero, List.set_cons_succ])
               | (refine quiet_val10 (.pointer (some ⟨g1, o1 + i * 32, none⟩)) ?_ ?_; (focus (intro W hW; go_simp; done)); go_big_quiet_on; simp only [Act.put, List.setIfInBounds_toArray, List.set_cons_zero, List.set_cons_succ])
               | (refine quiet_val10 (.bool true) ?_ ?_; (focus (intro W hW; go_simp; done)); go_big_quiet_on; simp only [Act.put, List.setIfInBounds_toArray, List.set_cons_zero, List.set_cons_succ])
               | (go_big_quiet_op; go_big_quiet_on)))
            refine wpQuiet_nil ?_
            intro w6 hw6
            have H6 : Hid (Below wr.heap.size wr w6) := hw6
            clear hw6
            obtain ⟨m, hm⟩ : ∃ m, (esOf (l.take k) p).length = m := ⟨_, rfl⟩
            have HOX : Hid (OwX wi (esOf (l.take k) p) u9 w6) := HO.out.next H6.out
            have hmb : m ≤ 1048576 := by rw [← hm]; exact HEL.out
            obtain ⟨g7, cp7, w7, hrun, hO7, _⟩ := HOX.out.app r.e HRI.out (by rw [hm]; omega)
            rw [hm] at hrun hO7
            have HN2 : Hid (OwX wi (esOf (l.take (k + 1)) p) (.slice (some ⟨g7, 0, none⟩) (m + 1) cp7) w7) := by
              show OwX _ _ _ _
              rw [HEE.out]
              exact hO7
            have HSL : Hid (∀ w, (Instr.buildSlice 66 1 #[(0, .agg (xeC r.e))]).run Tryz.prog w = .ok (.slice (some ⟨w.heap.size, 0, none⟩) 1 1) (w.alloc (.cells (xeC r.e) 50))) := slice_xe r.e HRI.out
            have HXI : Hid ((Tryz.prog.info? 50).map (·.size) = some (xeC r.e).toList.length) := by show _ = _; rw [Array.length_toList]; exact info_xe (xeC_size _ HRI.out)
            have HCX : Hid (∀ (j : Nat) (v : Value), (xeC r.e).toList[j]? = some v → w6.cell? ⟨g2, o2 + k * 67 + 32 + j, none⟩ = some v) := CE.out w6 H6.out
            obtain ⟨X, hX⟩ : ∃ X, xeC r.e = X := ⟨_, rfl⟩
            rw [hX] at hrun HSL HXI HCX
            clear hX hm hO7 CE HEL
            go_wp2_with (first
              | (refine wpList_load_mid rfl 50 (.tmp 45) rfl g2 (o2 + k * 67 + 32) rfl X.toList _ HCX.out Tryz.underlying50 rfl HXI.out ?_)
              | (refine wpList_bsX rfl 66 (.tmp 46) rfl (.agg X) (.slice (some ⟨w6.heap.size, 0, none⟩) 1 1) (w6.alloc (.cells X 50)) rfl (HSL.out _) ?_)
              | (refine wpList_appX rfl (.tmp 41) (.tmp 47) 66 66 rfl u9 (.slice (some ⟨w6.heap.size, 0, none⟩) 1 1) (.slice (some ⟨g7, 0, none⟩) (m + 1) cp7) w7 rfl rfl hrun ?_)
              | fail)
            clear hrun
            go_wp2
            go_roundw
            case rel => exact ⟨k + 1, by go_num, by omega, HN2.out⟩
            case measure => simp [intOf]; omega
          · have HEE : Hid (esOf (l.take (k + 1)) p = esOf (l.take k) p) := by
              show _ = _
              rw [HES.out, if_neg hpe]
            have hEQ2 : ∀ u, (binOp .eql 48 (.agg D1) (.agg D2)).run Tryz.prog u = .ok (.bool false) u := fun u => by rw [hEQ u]; simp [hpe]
            clear hEQ HES hpe
            go_wp2_with fail
            refine region_class10 (fun W => Below wr.heap.size wr W) (by kernel_rfl) (by kernel_rfl) ((Below.refl _ _).drew) ?_
            try simp only [Act.put, List.setIfInBounds_toArray, List.set_cons_zero, List.set_cons_succ]
            repeat (first
              | go_big_quiet_skip
              | (go_big_quiet_want
                 first
               | (refine quiet_rowc 48 _ rfl g2 (o2 + k * 67) D1 _ rfl C1.out Tryz.underlying48 rfl HI12.out.1 ?_; go_big_quiet_on; simp only [Act.put, List.setIfInBounds_toArray, List.set_cons_zero, List.set_cons_succ])
               | (refine quiet_rowc 48 _ rfl g1 (o1 + i * 32) D2 _ rfl C2.out Tryz.underlying48 rfl HI12.out.2 ?_; go_big_quiet_on; simp only [Act.put, List.setIfInBounds_toArray, List.set_cons_zero, List.set_cons_succ])
               | (refine quiet_val10 (.pointer (some ⟨g2, o2 + k * 67, none⟩)) ?_ ?_; (focus (intro W hW; go_simp; done)); go_big_quiet_on; simp only [Act.put, List.setIfInBounds_toArray, List.set_cons_zero, List.set_cons_succ])
               | (refine quiet_val10 (.pointer (some ⟨g1, o1 + i * 32, none⟩)) ?_ ?_; (focus (intro W hW; go_simp; done)); go_big_quiet_on; simp only [Act.put, List.setIfInBounds_toArray, List.set_cons_zero, List.set_cons_succ])
               | (refine quiet_val10 (.bool false) ?_ ?_; (focus (intro W hW; go_simp; done)); go_big_quiet_on; simp only [Act.put, List.setIfInBounds_toArray, List.set_cons_zero, List.set_cons_succ])
               | (go_big_quiet_op; go_big_quiet_on)))
            refine wpQuiet_nil ?_
            intro w6 hw6
            have H6 : Hid (Below wr.heap.size wr w6) := hw6
            clear hw6
            have HN2 : Hid (OwX wi (esOf (l.take (k + 1)) p) u9 w6) := by
              show OwX _ _ _ _
              rw [HEE.out]
              exact HO.out.next H6.out
            go_wp2
            go_roundw
            case rel => exact ⟨k + 1, by go_num, by omega, HN2.out⟩
            case measure => simp [intOf]; omega
        · have hkz : ¬ (k : Int) < (nr : Nat) := by omega
          have HX : Hid (OwX wi (esOf l p) u9 wr) := by
            have := HO.out
            rwa [List.take_of_length_le (by rw [HN.out.2]; omega)] at this
          have HEL : Hid ((esOf l p).length ≤ 1048576) := by
            show _ ≤ _
            unfold esOf
            rw [List.length_map]
            refine Nat.le_trans (List.length_filter_le _ _) ?_
            rw [HN.out.2]; omega
          obtain ⟨a9, c9, rfl, hx9, hc9, ha9⟩ := own_xel HX.out.ow rfl HX.out.ids
          have HXE : Hid (XeL wr a9 (esOf l p) ∧ (a9 = none ∨ ∃ g o, a9 = some ⟨g, o, none⟩)) := ⟨hx9, by rcases ha9 with ⟨h, _⟩ | ⟨g, h, _⟩; exact .inl h; exact .inr ⟨g, 0, h⟩⟩
          have HBU : Hid (BkU w w2 ps l i u7 wr) := HU.out.next HX.out.bel
          have HD : Hid (∀ (j : Nat) (v : Value), (idc p).toList[j]? = some v → wr.cell? ⟨g1, o1 + i * 32 + j, none⟩ = some v) := fun j v hv => CP.out wr HBU.out.bel2 j v (by rwa [Array.getElem?_toList] at hv)
          have HDI : Hid ((Tryz.prog.info? 48).map (·.size) = some (idc p).toList.length) := inf_id32 p HP.out.2.1
          obtain ⟨m, hm⟩ : ∃ m, (esOf l p).length = m := ⟨_, rfl⟩
          have HML : Hid ((esOf l p).length = m ∧ m ≤ 1048576) := ⟨hm, by rw [← hm]; exact HEL.out⟩
          have HBD : Hid (Calls Tryz.prog 25 #[.agg (idc p), .slice a9 m c9] wr fun e w' => ∃ R, e = .returned (.tuple #[.string R, .int .i64 (bE (esOf l p))]) ∧ BdX p (esOf l p) R ∧ Below wr.heap.size wr w') := ibuild_any sort_none p (esOf l p) a9 m c9 wr HP.out.2.1 HXE.out.1 hm HXE.out.2 (by have := HML.out.2; omega)
          obtain ⟨D2, hD2⟩ : ∃ D, idc p = D := ⟨_, rfl⟩
          rw [hD2] at HD HDI HBD
          rw [hm]
          clear hx9 hc9 ha9 hm hD2 HO
          go_wp2_with (first
            | (refine wpList_load_mid rfl 48 (.tmp 52) rfl g1 (o1 + i * 32) rfl D2.toList _ HD.out Tryz.underlying48 rfl HDI.out ?_)
            | fail)
          refine HBD.out.mono ?_
          rintro e w9 ⟨R, rfl, hR, b9⟩
          have HB9 : Hid (BkU w w2 ps l i u7 w9) := HBU.out.next b9
          have HR9 : Hid (BdX p (esOf l p) R) := hR
          clear hR b9 HBD
          have hbe := es_bE HOK.out p
          obtain ⟨B, hB⟩ : ∃ B, bE (esOf l p) = B := ⟨_, rfl⟩
          have HB : Hid (bE (esOf l p) = B) := hB
          rw [hB, HML.out.1] at hbe
          rw [hB]
          clear hB
          rcases hbe with rfl | ⟨rfl, hbig⟩
          · obtain ⟨ts, xs, ho, htl, hbk⟩ := HB9.out.tx
            have HTS : Hid (w9.ownsRow w2.heap.size 9 1 u7 i (sv ts) ∧ ts.length = i ∧ Bks (ps.take i) l ts xs) := ⟨ho, htl, hbk⟩
            have HIX : Hid (∃ M, M.Perm (esOf l p) ∧ IsIx R p M) := by
              obtain ⟨M, m1, m2, m3⟩ := HR9.out.2 HB.out
              exact ⟨M, m1, HP.out.2.1, m2, by rw [m3]; rfl⟩
            have HTX : Hid (TxL (w9.alloc (.cells #[.string R] 9)) (some ⟨w9.heap.size, 0, none⟩) [R]) := Bk.txl (xs := [R]) (bk_new _ _ _)
            clear ho htl hbk
            go_wp2_with (first
              | (at_builtin; refine wpList_append_txts _ rfl _ _ rfl w2.heap.size u7 ts [R] i 1 1 rfl HTS.out.2.1 rfl (HTS.out.1.alloc _) (by rw [al_size]; have := HB9.out.bel2.size; omega) (some ⟨w9.heap.size, 0, none⟩) rfl HTX.out (by omega) ?_
                 intro v10 w10 ho10 hg10
                 have H10 : Hid (w10.ownsRow w2.heap.size 9 1 v10 (i + 1) (sv (ts ++ [R])) ∧ (w9.alloc (.cells #[.string R] 9)).grownBy w10 u7.ownBlock) := ⟨ho10, hg10⟩
                 clear ho10 hg10)
              | fail)
            have HN2 : Hid (BkU w w2 ps l (i + 1) v10 w10) := by
              have k2 : Below w2.heap.size w2 w10 := apn_bel HB9.out.bel2 HB9.out.bel2.size HTS.out.1 H10.out.2
              obtain ⟨M, m1, m2⟩ := HIX.out
              exact ⟨H2.out.2.2.trans (k2.mono H2.out.2.2.size), k2, ts ++ [R], xs ++ [(p, M)], H10.out.1, by rw [List.length_append, HTS.out.2.1]; rfl, by rw [HP.out.2.2]; exact HTS.out.2.2.snoc m1 m2⟩
            clear H10
            try go_wp2
            go_roundw
            case rel => exact ⟨i + 1, by go_num, by omega, HN2.out⟩
            case measure => simp [intOf]; omega
          · have hbz : (65536 : Int) < (m : Int) := by omega
            go_wp2
            go_ret
            exact ⟨rfl, HB9.out.bel⟩
    · have hiz : ¬ (i : Int) < (np : Nat) := by omega
      obtain ⟨ts, xs, ho, htl, hbk⟩ := HU.out.tx
      have HBK : Hid (Bks ps l ts xs) := by rwa [List.take_of_length_le (by rw [HN.out.1]; omega)] at hbk
      obtain ⟨a7, c7, rfl, hx7⟩ := own_txl15 htl ho
      have hz : ∀ t ∈ ts, t.size ≤ 4611686018427387904 := fun t ht => by
        obtain ⟨j, hj⟩ := List.getElem?_of_mem ht
        have hjl : j < xs.length := by rw [← HBK.out.ix.len]; exact (List.getElem?_eq_some_iff.1 hj).1
        have := isIx_size (HBK.out.ix.ix j t _ hj (List.getElem?_eq_getElem hjl))
        omega
      have HMG : Hid (Calls Tryz.prog 9 #[.slice a7 i c7] wr fun e w' => e = .returned (.tuple #[.string s, .int .i64 0]) ∧ Below wr.heap.size wr w') := (merge_any a7 i c7 ts wr hx7 htl (by omega) hz).mono fun e w' q => ⟨HBK.out.back HM.out.2 q.1, q.2⟩
      have HBW : Hid (Below w.heap.size w wr) := HU.out.bel
      clear ho htl hbk hx7 hz HU
      go_wp2_with fail
      refine HMG.out.mono ?_
      rintro e w9 ⟨rfl, b9⟩
      have H9 : Hid (Below w.heap.size w w9) := HBW.out.trans (b9.mono HBW.out.size)
      clear b9 HMG
      go_wp2
      go_ret
      exact ⟨rfl, H9.out⟩
end Go.Proofs.YtbfoiocbmhhdbaaGreat
/- Law 15's unlike. -/
namespace Go.Proofs.YtbfoiocbmhhdbaaGreat
open Go.RowKit
set_option linter.unusedSimpArgs false
set_option linter.unusedVariables false
set_option maxHeartbeats 16000000 in
set_option maxRecDepth 100000 in
theorem unlike_any (a : Option Addr) (n c : Nat) (ps : List Pk) (w : World) (hp : PkL w a ps) (hn : ps.length = n) (hn2 : n ≤ 4611686018427387904) :
    Calls Tryz.prog 14 #[.slice a n c] w fun e w' => ∃ v, e = .returned v ∧ OwP w (unP ps) v w' := by
  have HP : Hid (PkL w a ps ∧ ps.length = n ∧ n ≤ 4611686018427387904) := ⟨hp, hn, hn2⟩
  have HID : Hid (∀ x u, Calls Tryz.prog 18 #[.string x] u fun e w' => e = .returned (.agg (idc (idF x))) ∧ Below u.heap.size u w') := fun x u => id_any15 x u
  have HO0 : Hid (OwP w ((ps.take 0).foldl unS []) (.slice none 0 0) w) := ⟨rows_none, Below.refl _ _⟩
  clear hp hn hn2
  go_enter Tryz.func14, Tryz.ntmps14
  go_wp2
  go_loopw [3, 4] (fun v u W => ∃ i : Nat, u = .int .i64 i ∧ i ≤ n ∧ i ≤ 30 ∧ Hid (OwP w ((ps.take i).foldl unS []) v W)) (fun _ u _ => 30 - (intOf u).toNat)
  case atStart => exact ⟨0, rfl, Nat.zero_le _, by omega, HO0.out⟩
  case round =>
    clear HO0
    obtain ⟨i, rfl, hin, hi30, HO⟩ := hrel
    by_cases hlt : i < n
    · have hiz : (i : Int) < (n : Nat) := by omega
      by_cases hl3 : i < 30
      · have hi3 : (i : Int) < 30 := by omega
        obtain ⟨p, hp⟩ : ∃ p, ps[i]? = some p := ⟨_, List.getElem?_eq_getElem (by rw [HP.out.2.1]; exact hlt)⟩
        obtain ⟨g2, o2, rfl, hg2, hc2⟩ := HP.out.1 i p hp
        obtain ⟨out, hout⟩ : ∃ o, (ps.take i).foldl unS [] = o := ⟨_, rfl⟩
        have HNX : Hid ((ps.take (i + 1)).foldl unS [] = unS out p ∧ out.length ≤ 30) := by
          refine ⟨by rw [← unP_take ps i hl3 hp, hout], ?_⟩
          have := (foldl_unr (ps.take i) [] [] .nil).len
          rw [hout] at this
          simp at this
          omega
        rw [hout] at HO
        obtain ⟨m, hm⟩ : ∃ m, out.length = m := ⟨_, rfl⟩
        obtain ⟨ao, co, rfl, hxo, _, hao⟩ := own_pkl HO.out.ow rfl
        rw [hm] at HO
        rw [hm]
        have HX : Hid (PkL wr ao out ∧ out.length = m ∧ m ≤ 30) := ⟨hxo, hm, by rw [← hm]; exact HNX.out.2⟩
        have CP0 : Hid (∀ W, Below w.heap.size w W → ∀ j v, (pkC p)[j]? = some v → W.cell? ⟨g2, o2 + i * 3 + j, none⟩ = some v) := fun W hW j v hv => by
          rw [hW.cell (p := ⟨g2, o2 + i * 3 + j, none⟩) hg2]; exact hc2 j v hv
        have CP : Hid (∀ W, Below wr.heap.size wr W → ∀ j v, (pkC p)[j]? = some v → W.cell? ⟨g2, o2 + i * 3 + j, none⟩ = some v) := fun W hW j v hv => by
          rw [(HO.out.bel.trans (hW.mono HO.out.bel.size)).cell (p := ⟨g2, o2 + i * 3 + j, none⟩) hg2]; exact hc2 j v hv
        have HB0 : Hid (Below wr.heap.size wr wr) := Below.refl _ _
        obtain ⟨wi, hwi⟩ : ∃ W, wr = W := ⟨_, rfl⟩
        rw [hwi] at HO HX CP HB0 ⊢
        clear hwi hp hg2 hc2 hout hm hxo hao
        go_wp2
        go_loopw [5, 6] (fun v u W => ∃ k : Nat, u = .int .i64 k ∧ k ≤ m ∧ v = .bool (unT (out.take k) p) ∧ Hid (Below wi.heap.size wi W)) (fun _ u _ => m - (intOf u).toNat)
        case atStart => exact ⟨0, rfl, Nat.zero_le _, rfl, HB0.out⟩
        case round =>
          clear HB0
          obtain ⟨k, rfl, hk, rfl, HB⟩ := hrel
          have hm30 : m ≤ 30 := HX.out.2.2
          by_cases hlk : k < m
          · have hkz : (k : Int) < (m : Nat) := by omega
            obtain ⟨q, hq⟩ : ∃ q, out[k]? = some q := ⟨_, List.getElem?_eq_getElem (by rw [HX.out.2.1]; exact hlk)⟩
            obtain ⟨g1, o1, rfl, hg1, hc1⟩ := HX.out.1 k q hq
            have HT : Hid (unT (out.take (k + 1)) p = (unT (out.take k) p || decide (idF q.s = idF p.s))) := unT_take hq
            have C1 : Hid (∀ W, Below wr.heap.size wr W → W.cell? ⟨g1, o1 + k * 3, none⟩ = some (.string q.s)) := fun W hW => by
              rw [(HB.out.trans (hW.mono HB.out.size)).cell (p := ⟨g1, o1 + k * 3, none⟩) hg1]; exact hc1 0 _ rfl
            have C2 : Hid (∀ W, Below wr.heap.size wr W → W.cell? ⟨g2, o2 + i * 3, none⟩ = some (.string p.s)) := fun W hW => CP.out W (HB.out.trans (hW.mono HB.out.size)) 0 _ rfl
            have hEQ := eql_ids (idF q.s) (idF p.s) (idF_size _) (idF_size _)
            have HI1 : Hid (∀ W, Below wr.heap.size wr W → Calls Tryz.prog 18 #[.string q.s] W fun e w' => e = .returned (.agg (idc (idF q.s))) ∧ Below wr.heap.size wr w') := fun W hW => (HID.out q.s W).mono fun e w' q => ⟨q.1, hW.trans (q.2.mono hW.size)⟩
            have HI2 : Hid (∀ W, Below wr.heap.size wr W → Calls Tryz.prog 18 #[.string p.s] W fun e w' => e = .returned (.agg (idc (idF p.s))) ∧ Below wr.heap.size wr w') := fun W hW => (HID.out p.s W).mono fun e w' q => ⟨q.1, hW.trans (q.2.mono hW.size)⟩
            obtain ⟨E, hE⟩ : ∃ E, decide (idF q.s = idF p.s) = E := ⟨_, rfl⟩
            rw [hE] at HT hEQ
            obtain ⟨D1, hD1⟩ : ∃ D, idc (idF q.s) = D := ⟨_, rfl⟩
            obtain ⟨D2, hD2⟩ : ∃ D, idc (idF p.s) = D := ⟨_, rfl⟩
            rw [hD1] at HI1 hEQ
            rw [hD2] at HI2 hEQ
            obtain ⟨s1, hs1⟩ : ∃ s, q.s = s := ⟨_, rfl⟩
            obtain ⟨s2, hs2⟩ : ∃ s, p.s = s := ⟨_, rfl⟩
            rw [hs1] at C1 HI1
            rw [hs2] at C2 HI2
            obtain ⟨β, hβ⟩ : ∃ β, unT (out.take k) p = β := ⟨_, rfl⟩
            rw [hβ] at HT
            rw [hβ]
            clear hq hg1 hc1 hE hD1 hD2 hs1 hs2 hβ
            go_wp2_with fail
            cases β with
            | true =>
              refine region_class10 (fun W => Below wr.heap.size wr W) (by kernel_rfl) (by kernel_rfl) ((Below.refl _ _).drew) ?_
              try simp only [Act.put, List.setIfInBounds_toArray, List.set_cons_zero, List.set_cons_succ]
              repeat (first
                | go_big_quiet_skip
                | (go_big_quiet_want
                   first
                     | (refine quiet_val10 (.bool true) ?_ ?_; (focus (intro W hW; go_simp; done)); go_big_quiet_on; simp only [Act.put, List.setIfInBounds_toArray, List.set_cons_zero, List.set_cons_succ])
                     | (go_big_quiet_op; go_big_quiet_on)))
              refine wpQuiet_nil ?_
              intro w10 hw10
              have HB2 : Hid (Below wi.heap.size wi w10) := HB.out.trans (Below.mono hw10 HB.out.size)
              clear hw10 hEQ
              go_wp2
              go_roundw
              case rel => exact ⟨k + 1, by go_num, by omega, by rw [HT.out]; rfl, HB2.out⟩
              case measure => simp [intOf]; omega
            | false =>
              refine region_class10 (fun W => Below wr.heap.size wr W) (by kernel_rfl) (by kernel_rfl) ((Below.refl _ _).drew) ?_
              try simp only [Act.put, List.setIfInBounds_toArray, List.set_cons_zero, List.set_cons_succ]
              repeat (first
                | go_big_quiet_skip
                | (go_big_quiet_want
                   first
                     | (refine quiet_str10 _ rfl g1 (o1 + k * 3) s1 rfl C1.out ?_; go_big_quiet_on; simp only [Act.put, List.setIfInBounds_toArray, List.set_cons_zero, List.set_cons_succ])
                     | (refine quiet_str10 _ rfl g2 (o2 + i * 3) s2 rfl C2.out ?_; go_big_quiet_on; simp only [Act.put, List.setIfInBounds_toArray, List.set_cons_zero, List.set_cons_succ])
                     | (refine quiet_call10 (.agg D1) 18 #[.string s1] ?_ ?_ ?_; (focus (intro W hW; go_simp; done)); (focus (intro W hW; exact HI1.out W hW)); go_big_quiet_on; simp only [Act.put, List.setIfInBounds_toArray, List.set_cons_zero, List.set_cons_succ])
                     | (refine quiet_call10 (.agg D2) 18 #[.string s2] ?_ ?_ ?_; (focus (intro W hW; go_simp; done)); (focus (intro W hW; exact HI2.out W hW)); go_big_quiet_on; simp only [Act.put, List.setIfInBounds_toArray, List.set_cons_zero, List.set_cons_succ])
                     | (refine quiet_val10 (.pointer (some ⟨g1, o1 + k * 3, none⟩)) ?_ ?_; (focus (intro W hW; go_simp; done)); go_big_quiet_on; simp only [Act.put, List.setIfInBounds_toArray, List.set_cons_zero, List.set_cons_succ])
                     | (refine quiet_val10 (.pointer (some ⟨g2, o2 + i * 3, none⟩)) ?_ ?_; (focus (intro W hW; go_simp; done)); go_big_quiet_on; simp only [Act.put, List.setIfInBounds_toArray, List.set_cons_zero, List.set_cons_succ])
                     | (refine quiet_val10 (.bool E) ?_ ?_; (focus (intro W hW; go_simp; done)); go_big_quiet_on; simp only [Act.put, List.setIfInBounds_toArray, List.set_cons_zero, List.set_cons_succ])
                     | (go_big_quiet_op; go_big_quiet_on)))
              refine wpQuiet_nil ?_
              intro w10 hw10
              have HB2 : Hid (Below wi.heap.size wi w10) := HB.out.trans (Below.mono hw10 HB.out.size)
              clear hw10 hEQ
              go_wp2
              go_roundw
              case rel => exact ⟨k + 1, by go_num, by omega, by rw [HT.out]; rfl, HB2.out⟩
              case measure => simp [intOf]; omega
          · have hkz : ¬ (k : Int) < (m : Nat) := by omega
            have HTK : Hid (unT (out.take k) p = unT out p) := by
              show _ = _
              rw [List.take_of_length_le (by rw [HX.out.2.1]; omega)]
            have HOW : Hid (OwP w out (.slice ao m co) wr) := HO.out.next HB.out
            obtain ⟨β, hβ⟩ : ∃ β, unT (out.take k) p = β := ⟨_, rfl⟩
            rw [hβ] at HTK
            rw [hβ]
            clear hβ
            cases β with
            | true =>
              have HN2 : Hid (OwP w ((ps.take (i + 1)).foldl unS []) (.slice ao m co) wr) := by
                show OwP _ _ _ _
                rw [HNX.out.1, unS, if_pos HTK.out.symm]
                exact HOW.out
              go_wp2
              go_roundw
              case rel => exact ⟨i + 1, by go_num, by omega, by omega, HN2.out⟩
              case measure => simp [intOf]; omega
            | false =>
              have HNE : Hid (unS out p = out ++ [bare p]) := by
                show _ = _
                rw [unS, if_neg (by rw [← HTK.out]; simp)]
              obtain ⟨s2, hs2⟩ : ∃ s, p.s = s := ⟨_, rfl⟩
              obtain ⟨a2, ha2⟩ : ∃ s, p.a = s := ⟨_, rfl⟩
              obtain ⟨n2, hn2⟩ : ∃ s, p.n = s := ⟨_, rfl⟩
              obtain ⟨c2, hc2⟩ : ∃ s, p.c = s := ⟨_, rfl⟩
              have HC : Hid (pkC (bare p) = [.string s2, .slice a2 n2 c2, .string ⟨#[]⟩]) := by show _ = _; rw [← hs2, ← ha2, ← hn2, ← hc2]; rfl
              have HS : Hid (∀ W, Below w.heap.size w W → W.cell? ⟨g2, o2 + i * 3, none⟩ = some (.string s2) ∧ W.cell? ⟨g2, o2 + i * 3 + 1, none⟩ = some (.slice a2 n2 c2)) := fun W hW => by
                rw [← hs2, ← ha2, ← hn2, ← hc2]
                exact ⟨CP0.out W hW 0 _ rfl, CP0.out W hW 1 _ rfl⟩
              have HBD : Hid (Below w.heap.size w wr.drew) := HOW.out.bel.trans ((Below.refl _ _).drew.mono HOW.out.bel.size)
              have HAP : Hid (∃ g cp w7, (Builtin.append_ #[22, 22] 22 #[.slice ao m co, .slice (some ⟨wr.drew.heap.size, 0, none⟩) 1 1]).run Tryz.prog (wr.drew.alloc (.cells #[.string s2, .slice a2 n2 c2, .string ⟨#[]⟩] 41)) = .ok (.slice (some ⟨g, 0, none⟩) (m + 1) cp) w7 ∧
                  OwP w ((ps.take (i + 1)).foldl unS []) (.slice (some ⟨g, 0, none⟩) (m + 1) cp) w7) := by
                obtain ⟨g, cp, w7, h1, h2, _⟩ := (HOW.out.next ((Below.refl _ _).drew)).app (bare p) (by have := HX.out; omega)
                rw [HX.out.2.1, HC.out] at h1
                rw [HX.out.2.1, ← HNE.out, ← HNX.out.1] at h2
                exact ⟨g, cp, w7, h1, h2⟩
              have hs0 := HS.out wr.drew HBD.out
              clear hs2 ha2 hn2 hc2
              go_wp2_with fail
              go_region_held3 (fun W => W.cell? ⟨g2, o2 + i * 3, none⟩ = some (.string s2) ∧ W.cell? ⟨g2, o2 + i * 3 + 1, none⟩ = some (.slice a2 n2 c2)) (first | exact hs0 | exact HS.out _ (HBD.out.alloc HBD.out.size _) | exact HS.out _ HN2.out.bel) (first
                | (obtain ⟨g7, cp7, w7, hr7, hO7⟩ := HAP.out
                   refine step_appX (by rfl) (.tmp 41) (.tmp 53) 22 22 (by rfl) _ _ (.slice (some ⟨g7, 0, none⟩) (m + 1) cp7) w7 (by rfl) (by rfl) hr7 ?_
                   have HN2 : Hid (OwP w ((ps.take (i + 1)).foldl unS []) (.slice (some ⟨g7, 0, none⟩) (m + 1) cp7) w7) := hO7
                   clear hr7 hO7)
                | fail)
              go_wp2
              go_roundw
              case rel => exact ⟨i + 1, by go_num, by omega, by omega, HN2.out⟩
              case measure => simp [intOf]; omega
      · have hi3 : ¬ (i : Int) < 30 := by omega
        have HE : Hid ((ps.take i).foldl unS [] = unP ps) := by
          show _ = _
          rw [unP, show i = 30 from by omega]
        rw [HE.out] at HO
        go_wp2
        go_ret
        exact ⟨_, rfl, HO.out⟩
    · have hiz : ¬ (i : Int) < (n : Nat) := by omega
      have HE : Hid ((ps.take i).foldl unS [] = unP ps) := by
        show _ = _
        rw [unP, List.take_of_length_le (by rw [HP.out.2.1]; omega), List.take_of_length_le (by rw [HP.out.2.1]; omega)]
      rw [HE.out] at HO
      go_wp2
      go_ret
      exact ⟨_, rfl, HO.out⟩
end Go.Proofs.YtbfoiocbmhhdbaaGreat
/- Rows of the call's own: where they lie, and that they lie apart. -/
namespace Go.Proofs.YtbfoiocbmhhdbaaGreat
open Go.RowKit
set_option linter.unusedSimpArgs false
set_option linter.unusedVariables false
/-- A list of the call's own: where it lies. -/
theorem own_at {w : World} {B : Nat} {v : Value} {xs : List ByteArray} {e : TypeId} (h : w.ownsRow B e 1 v xs.length (sv xs)) : ∃ a c, v = .slice a xs.length c ∧ TxL w a xs ∧ xs.length ≤ c := by
  obtain ⟨a, c, rfl, ht, _⟩ := own_txl h
  refine ⟨a, c, rfl, ht, ?_⟩
  rcases h.2 with ⟨e, h0⟩ | ⟨g, cap, cur, e, _, _, h4, _⟩
  · omega
  · simp only [Value.slice.injEq] at e
    rw [e.2.2]; exact h4
/-- Two rows of the call's own, in two blocks. -/
def Apt (v u : Value) : Prop := v.ownBlock = none ∨ v.ownBlock ≠ u.ownBlock
/-- The one grows, the other stays apart. -/
theorem apt_grow {W : World} {B r : Nat} {v u v' : Value} {ys : List Value} {e : TypeId} (hu : W.ownsRow B e 1 u r ys) (ha : Apt v u ∧ Apt u v) (hat : v'.ownBlock = v.ownBlock ∨ v'.ownBlock = some (W.heap.size + 1)) : Apt v' u ∧ Apt u v' := by
  unfold Apt at *
  rcases hat with h | h
  · rw [h]; exact ha
  · rw [h]
    cases hb : u.ownBlock with
    | none => exact ⟨.inr (by simp), .inl rfl⟩
    | some g =>
      have := (hu.lt g hb).2
      exact ⟨.inr (by simp; omega), .inr (by simp; omega)⟩
end Go.Proofs.YtbfoiocbmhhdbaaGreat
