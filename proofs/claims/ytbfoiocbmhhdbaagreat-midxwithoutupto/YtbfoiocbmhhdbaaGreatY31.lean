import Derived.Test.YtbfoiocbmhhdbaaGreatY25
import Derived.Test.YtbfoiocbmhhdbaaGreatY29
import Derived.Test.YtbfoiocbmhhdbaaGreatY22
import Derived.Test.YtbfoiocbmhhdbaaGreatY30
import Derived.Test.YtbfoiocbmhhdbaaGreatY13
import Derived.Test.YtbfoiocbmhhdbaaGreatY8
/- Law 15's first. -/
namespace Go.Proofs.YtbfoiocbmhhdbaaGreat
open Go.RowKit
set_option linter.unusedSimpArgs false
set_option linter.unusedVariables false
/-- The first row so far, as cells. -/
def rowC : Option Mr → Array Value
  | none => z67
  | some r => mrC r
def okB (b : Option Mr) : Prop := ∀ r, b = some r → r.p.size = 32 ∧ r.e.id.size = 32
theorem okB.sz {b : Option Mr} (h : okB b) : (rowC b).size = 67 := by
  cases b with
  | none => show z67.size = 67; rw [z67_is]; exact mrC_size _ (by rfl) (by rfl)
  | some r => exact mrC_size r (h r rfl).1 (h r rfl).2
theorem rowC_all (b : Option Mr) : (rowC b).all (·.oneCell') = true := by
  cases b with
  | none => show z67.all _ = true; rw [z67_is]; exact mrC_all _
  | some r => exact mrC_all r
/-- While the first row of a name is sought. -/
structure FrT (w : World) (x : ByteArray) (b : Option Mr) (W : World) : Prop where
  bx : Bk W w.heap.size (idc x) 48
  br : Bk W (w.heap.size + 1) z67 52
  bb : Bk W (w.heap.size + 1 + 1) (rowC b) 52
  bel : Below w.heap.size w W
  ok : okB b
theorem FrT.next {w W W' : World} {x : ByteArray} {b : Option Mr} (h : FrT w x b W) (hb : Below W.heap.size W W') : FrT w x b W' :=
  ⟨h.bx.below hb h.bx.lt, h.br.below hb h.br.lt, h.bb.below hb h.bb.lt, h.bel.trans (hb.mono h.bel.size), h.ok⟩
structure FcT (w : World) (x : ByteArray) (b : Option Mr) (gn : Nat) (s : ByteArray) (M : List Xe) (g : Nat) (E : Array Value) (W : World) : Prop where
  fr : FrT w x b W
  ix : IxS W gn s M
  en : Bk W g E 50
theorem FcT.next {w W W' : World} {x : ByteArray} {b : Option Mr} {gn : Nat} {s : ByteArray} {M : List Xe} {g : Nat} {E : Array Value} (h : FcT w x b gn s M g E W) (hb : Below W.heap.size W W') : FcT w x b gn s M g E W' :=
  ⟨h.fr.next hb, h.ix.below hb, h.en.below hb h.en.lt⟩
set_option maxHeartbeats 16000000 in
set_option maxRecDepth 100000 in
theorem first_any (a : Option Addr) (n c : Nat) (ts : List ByteArray) (xs : List (ByteArray × List Xe)) (x : ByteArray) (w : World) (ht : TxL w a ts) (hn : ts.length = n) (hxs : Ixs ts xs) (hx : x.size = 32) (hn2 : n ≤ 4611686018427387904) :
    Calls Tryz.prog 17 #[.slice a n c, .agg (idc x)] w fun e w' => ∃ b, e = .returned (.tuple #[.agg (rowC b), .bool b.isSome]) ∧ Bst xs x b ∧ okB b ∧ Below w.heap.size w w' := by
  have HT : Hid (TxL w a ts ∧ ts.length = n ∧ Ixs ts xs ∧ x.size = 32 ∧ xs.length = n) := ⟨ht, hn, hxs, hx, by rw [← hxs.len, hn]⟩
  have HE : Hid (Bk ((w.alloc (.cells (idc x) 48)).alloc (.cells Tryz.zeroCells52 52)) w.heap.size (idc x) 48 ∧ Bk ((w.alloc (.cells (idc x) 48)).alloc (.cells Tryz.zeroCells52 52)) (w.heap.size + 1) z67 52 ∧
      Below w.heap.size w ((w.alloc (.cells (idc x) 48)).alloc (.cells Tryz.zeroCells52 52)) ∧ ((w.alloc (.cells (idc x) 48)).alloc (.cells Tryz.zeroCells52 52)).heap.size = w.heap.size + 1 + 1) := by
    have q1 := bk_new w (idc x) 48
    have q3 := bk_new (w.alloc (.cells (idc x) 48)) Tryz.zeroCells52 52
    rw [al_size] at q3
    refine ⟨q1.alloc _, ?_, ((Below.refl _ _).alloc (Nat.le_refl _) _).alloc (by rw [al_size]; omega) _, by rw [al_size, al_size]⟩
    rw [← zc67]
    exact q3
  have HI : Hid ((Tryz.prog.info? 48).map (·.size) = some (idc x).size) := info_32 (by rw [idc_size, hx])
  have HXX : Hid (∀ b W, FrT w x b W → FrT w x b W) := fun _ _ h => h
  have hbz := build_mz
  obtain ⟨X, hX⟩ : ∃ X, idc x = X := ⟨_, rfl⟩
  have HX : Hid (idc x = X) := hX
  have HFB : Hid (∀ b W, FrT w x b W → Bk W w.heap.size X 48) := fun b W h => by rw [← hX]; exact h.bx
  rw [hX] at HE HI ⊢
  obtain ⟨W2, hW2⟩ : ∃ W, (w.alloc (.cells X 48)).alloc (.cells Tryz.zeroCells52 52) = W := ⟨_, rfl⟩
  have HW2 : Hid ((w.alloc (.cells X 48)).alloc (.cells Tryz.zeroCells52 52) = W2) := hW2
  rw [hW2] at HE
  clear ht hn hxs hx hX hW2 HXX
  go_enter Tryz.func17, Tryz.ntmps17
  go_upto_region 1 with fail
  rw [HW2.out]
  have H0 : Hid (FrT w x none (W2.alloc (.cells z67 52))) := by
    have q := bk_new W2 z67 52
    rw [HE.out.2.2.2] at q
    exact ⟨by rw [HX.out]; exact HE.out.1.alloc _, HE.out.2.1.alloc _, q, HE.out.2.2.1.alloc HE.out.2.2.1.size _, fun r h => (by cases h)⟩
  have hsz : W2.heap.size = w.heap.size + 1 + 1 := HE.out.2.2.2
  clear HW2
  go_wp2_with (first
    | (refine wpList_bdX0 rfl 52 rfl (.agg z67) (hbz _) ?_)
    | (refine wpList_store_new rfl 52 (.tmp 6) (.tmp 13) rfl z67 _ 52 (w.heap.size + 1 + 1) hsz rfl rfl inf_mr67 (by rfl) (by rw [z67_is]; exact mrC_all _) ?_)
    | fail)
  obtain ⟨W3, hW3⟩ : ∃ W, W2.alloc (.cells z67 52) = W := ⟨_, rfl⟩
  rw [hW3] at H0
  try rw [hW3]
  clear hsz HE hW3
  go_loopw [7, 8] (fun v u W => ∃ (i : Nat) (b : Option Mr), u = .int .i64 i ∧ i ≤ n ∧ v = .bool b.isSome ∧ Hid (FrT w x b W ∧ Bst (xs.take i) x b)) (fun _ u _ => n - (intOf u).toNat)
  case atStart => exact ⟨0, none, rfl, Nat.zero_le _, rfl, H0.out, by rw [List.take_zero]; exact Bst.nil x⟩
  case round =>
    clear H0
    obtain ⟨i, b, rfl, hi, rfl, HF⟩ := hrel
    by_cases hlt : i < n
    · have hiz : (i : Int) < (n : Nat) := by omega
      obtain ⟨t, ht⟩ : ∃ t, ts[i]? = some t := ⟨_, List.getElem?_eq_getElem (by rw [HT.out.2.1]; exact hlt)⟩
      obtain ⟨q, hq⟩ : ∃ q, xs[i]? = some q := ⟨_, List.getElem?_eq_getElem (by rw [HT.out.2.2.2.2]; exact hlt)⟩
      have HIX : Hid (IsIx t q.1 q.2) := HT.out.2.2.1.ix i t q ht hq
      have HTK : Hid (xs.take (i + 1) = xs.take i ++ [q]) := by show _ = _; rw [List.take_add_one, hq]; rfl
      obtain ⟨g, o, rfl, hg, hc⟩ := HT.out.1 i t ht
      have ct : wr.cell? ⟨g, o + i, none⟩ = some (.string t) := by rw [HF.out.1.bel.cell (p := ⟨g, o + i, none⟩) hg]; exact hc
      clear ht hq hg hc
      go_wp2_with fail
      refine (open_any t wr (by have := isIx_size HIX.out; omega)).mono ?_
      rintro e w1 ⟨hO, b1⟩
      obtain ⟨gn, rfl, hN⟩ := hO.yes15 HIX.out
      have H1 : Hid (FrT w x b w1 ∧ IxS w1 gn q.1 q.2) := ⟨HF.out.1.next b1, hN⟩
      have HB : Hid (Bst (xs.take i) x b) := HF.out.2
      clear hO hN b1 ct HF
      have hxb := HFB.out b w1 H1.out.1
      have HPK : Hid (∀ W, IxS W gn q.1 q.2 → Calls Tryz.prog 41 #[.pointer (some ⟨gn, 0, none⟩)] W fun e w' => e = .returned (.agg (idc q.1)) ∧ Below W.heap.size W w') := fun W hW => pack_any gn q.1 q.2 W hW
      cases hfd : fnd q.2 x with
      | none =>
        have HFD : Hid (Calls Tryz.prog 40 #[.pointer (some ⟨gn, 0, none⟩), .agg X] w1 fun r w' => r = .returned (.tuple #[.agg z35X, .int .i64 6]) ∧ Below w1.heap.size w1 w') := by
          have := find_any gn q.1 x q.2 w1 H1.out.2 HIX.out.2.1.ri HT.out.2.2.2.1 HIX.out.2.1.len
          rw [hfd, HX.out] at this
          exact this
        have HBN : Hid (Bst (xs.take (i + 1)) x b) := by
          have := HB.out.snoc q
          rw [hfd] at this
          show Bst _ _ _
          rw [HTK.out]
          exact this
        clear hfd
        go_wp2_with (first
          | (refine wpList_get rfl 48 (.tmp 3) rfl w.heap.size 0 X X 48 _ rfl hxb (fun j v hv => by rw [Nat.zero_add]; exact hv) Tryz.underlying48 rfl HI.out ?_)
          | fail)
        refine HFD.out.mono ?_
        rintro e w2 ⟨rfl, b2⟩
        have H2 : Hid (FrT w x b (w2.alloc (.cells z35X 50))) := (H1.out.1.next b2).next ((Below.refl _ _).alloc (Nat.le_refl _) _)
        clear b2 H1 hxb HFD
        go_wp2_with (first
          | (refine wpList_store_new rfl 50 (.tmp 11) (.tmp 35) rfl z35X _ 50 w2.heap.size rfl rfl rfl inf_xe35 (by rfl) z35_all ?_)
          | fail)
        refine region_class10 (fun W => FrT w x b W) (by kernel_rfl) (by kernel_rfl) (H2.out.next ((Below.refl _ _).drew)) ?_
        try simp only [Act.put, List.setIfInBounds_toArray, List.set_cons_zero, List.set_cons_succ]
        repeat (first
          | go_big_quiet_skip
          | (go_big_quiet_want
             first
               | (refine quiet_val10 (.bool false) ?_ ?_; (focus (intro W hW; go_simp; done)); go_big_quiet_on; simp only [Act.put, List.setIfInBounds_toArray, List.set_cons_zero, List.set_cons_succ])
               | (refine quiet_val10 (.bool true) ?_ ?_; (focus (intro W hW; go_simp; done)); go_big_quiet_on; simp only [Act.put, List.setIfInBounds_toArray, List.set_cons_zero, List.set_cons_succ])
               | (go_big_quiet_op; go_big_quiet_on)))
        refine wpQuiet_nil ?_
        intro w10 hw10
        have H10 : Hid (FrT w x b w10 ∧ Bst (xs.take (i + 1)) x b) := ⟨hw10, HBN.out⟩
        clear hw10
        go_wp2
        go_roundw
        case rel => exact ⟨i + 1, b, by go_num, by omega, rfl, H10.out⟩
        case measure => simp [intOf]; omega
      | some e =>
        obtain ⟨he, hex⟩ := fnd_some hfd
        have HES : Hid (q.1.size = 32 ∧ e.id.size = 32) := ⟨HIX.out.1, HIX.out.2.1.id e he⟩
        have HBS : Hid (Bst (xs.take (i + 1)) x (bstN b q.1 (some e))) := by
          have := HB.out.snoc q
          rw [hfd] at this
          show Bst _ _ _
          rw [HTK.out]
          exact this
        have HFD : Hid (Calls Tryz.prog 40 #[.pointer (some ⟨gn, 0, none⟩), .agg X] w1 fun r w' => r = .returned (.tuple #[.agg (xeC e), .int .i64 0]) ∧ Below w1.heap.size w1 w') := by
          have := find_any gn q.1 x q.2 w1 H1.out.2 HIX.out.2.1.ri HT.out.2.2.2.1 HIX.out.2.1.len
          rw [hfd, HX.out] at this
          exact this
        have HEI : Hid ((Tryz.prog.info? 50).map (·.size) = some (xeC e).size ∧ (xeC e).all (·.oneCell') = true ∧ (xeC e).size = 35) := ⟨info_xe (xeC_size _ HES.out.2), xeC_all e, xeC_size _ HES.out.2⟩
        have HBM : Hid (∀ w, (Instr.build 52 #[(0, .agg (idc q.1)), (1, .agg (xeC e))]).run Tryz.prog w = .ok (.agg (mrC ⟨q.1, e⟩)) w) := fun w => build_mr ⟨q.1, e⟩ HES.out.1 HES.out.2 w
        have HYI : Hid ((Tryz.prog.info? 52).map (·.size) = some (mrC ⟨q.1, e⟩).size ∧ (mrC ⟨q.1, e⟩).all (·.oneCell') = true ∧ (mrC ⟨q.1, e⟩).size = 67) := ⟨info_mr (mrC_size _ HES.out.1 HES.out.2), mrC_all _, mrC_size _ HES.out.1 HES.out.2⟩
        have HPC : Hid (∀ (E : Array Value) (W : World), FcT w x b gn q.1 q.2 w1.heap.size E W → True) := fun _ _ _ => trivial
        obtain ⟨E, hE⟩ : ∃ E, xeC e = E := ⟨_, rfl⟩
        obtain ⟨D, hD⟩ : ∃ D, idc q.1 = D := ⟨_, rfl⟩
        obtain ⟨Y, hY⟩ : ∃ Y, mrC ⟨q.1, e⟩ = Y := ⟨_, rfl⟩
        have HYE : Hid (mrC ⟨q.1, e⟩ = Y) := hY
        have HDE : Hid (idc q.1 = D) := hD
        rw [hE] at HFD HEI HBM
        rw [hD] at HBM HPK
        rw [hY] at HBM HYI
        clear HPC hfd he hex hE hD hY
        go_wp2_with (first
          | (refine wpList_get rfl 48 (.tmp 3) rfl w.heap.size 0 X X 48 _ rfl hxb (fun j v hv => by rw [Nat.zero_add]; exact hv) Tryz.underlying48 rfl HI.out ?_)
          | fail)
        refine HFD.out.mono ?_
        rintro e' w2 ⟨rfl, b2⟩
        have H2 : Hid (FcT w x b gn q.1 q.2 w2.heap.size E (w2.alloc (.cells E 50))) := ⟨(H1.out.1.next b2).next ((Below.refl _ _).alloc (Nat.le_refl _) _), (H1.out.2.below b2).below ((Below.refl _ _).alloc (Nat.le_refl _) _), bk_new _ _ _⟩
        have HPC : Hid (∀ b' W, FcT w x b' gn q.1 q.2 w2.heap.size E W → Calls Tryz.prog 41 #[.pointer (some ⟨gn, 0, none⟩)] W fun e w' => e = .returned (.agg D) ∧ FcT w x b' gn q.1 q.2 w2.heap.size E w') := fun b' W hW => (HPK.out W hW.ix).mono fun e w' h => ⟨h.1, hW.next h.2⟩
        clear b2 H1 hxb HFD HPK
        go_wp2_with (first
          | (refine wpList_store_new rfl 50 (.tmp 11) (.tmp 35) rfl E _ 50 w2.heap.size rfl rfl rfl HEI.out.1 (by rw [HEI.out.2.2]; rfl) HEI.out.2.1 ?_)
          | fail)
        cases b with
        | none =>
          have HBN : Hid (Bst (xs.take (i + 1)) x (some ⟨q.1, e⟩)) := HBS.out
          clear HBS HB
          refine region_class10 (FcT w x none gn q.1 q.2 w2.heap.size E) (by kernel_rfl) (by kernel_rfl) (H2.out.next ((Below.refl _ _).drew)) ?_
          try simp only [Act.put, List.setIfInBounds_toArray, List.set_cons_zero, List.set_cons_succ]
          repeat (first
            | go_big_quiet_skip
            | (go_big_quiet_want
               first
                 | (refine quiet_val10 (.bool true) ?_ ?_; (focus (intro W hW; go_simp; done)); go_big_quiet_on; simp only [Act.put, List.setIfInBounds_toArray, List.set_cons_zero, List.set_cons_succ])
                 | (refine quiet_val10 (.bool false) ?_ ?_; (focus (intro W hW; go_simp; done)); go_big_quiet_on; simp only [Act.put, List.setIfInBounds_toArray, List.set_cons_zero, List.set_cons_succ])
                 | (go_big_quiet_op; go_big_quiet_on)))
          refine wpQuiet_nil ?_
          intro w10 hw10
          have H10 : Hid (FcT w x none gn q.1 q.2 w2.heap.size E w10) := hw10
          clear hw10 H2
          go_wp2_with fail
          refine wp_region_tail (FcT w x none gn q.1 q.2 w2.heap.size E) 4 (by kernel_rfl) (by kernel_rfl) (H10.out.next ((Below.refl _ _).drew)) ?_
          simp only [List.take_succ_cons, List.take_zero, List.drop_succ_cons, List.drop_zero]
          repeat (first
            | go_big_quiet_skip
            | (go_big_quiet_want
               first
                 | (refine quiet_call10 (.agg D) 41 #[.pointer (some ⟨gn, 0, none⟩)] ?_ ?_ ?_; (focus (intro W hW; go_simp; done)); (focus (intro W hW; exact HPC.out _ W hW)); go_big_quiet_on; simp only [Act.put, List.setIfInBounds_toArray, List.set_cons_zero, List.set_cons_succ])
                 | (refine quiet_row 50 _ rfl w2.heap.size 0 E E 50 _ rfl (fun W hW => hW.en) (fun j v hv => by rw [Nat.zero_add]; exact hv) Tryz.underlying50 rfl HEI.out.1 ?_; go_big_quiet_on; simp only [Act.put, List.setIfInBounds_toArray, List.set_cons_zero, List.set_cons_succ])
                 | (refine quiet_bd2 52 _ _ rfl (.agg D) (.agg E) (.agg Y) rfl rfl HBM.out ?_; go_big_quiet_on; simp only [Act.put, List.setIfInBounds_toArray, List.set_cons_zero, List.set_cons_succ])
                 | (go_big_quiet_op; go_big_quiet_on)))
          refine wpQuiet_nil ?_
          intro w11 hw11
          have H11 : Hid (FcT w x none gn q.1 q.2 w2.heap.size E w11) := hw11
          clear hw11 H10
          go_wp2_with (first
            | (refine wpList_stoX rfl 52 (.tmp 6) (.tmp 53) rfl (w.heap.size + 1 + 1) Y (rowC none) 52 rfl rfl H11.out.fr.bb HYI.out.1 (by rw [HYI.out.2.2, H11.out.fr.ok.sz]) HYI.out.2.1 ?_; intro w12 HB12 HG12)
            | fail)
          have H12 : Hid (FrT w x (some ⟨q.1, e⟩) w12 ∧ Bst (xs.take (i + 1)) x (some ⟨q.1, e⟩)) := by
            refine ⟨⟨H11.out.fr.bx.grown HG12.out (by simp; omega), H11.out.fr.br.grown HG12.out (by simp), ?_, below_own H11.out.fr.bel H11.out.fr.bel.size HG12.out (by omega), fun r' h => by injection h with h; subst h; exact HES.out⟩, HBN.out⟩
            have := HB12.out
            rw [← HYE.out] at this
            exact this
          clear HB12 HG12 H11
          go_roundw
          case rel => exact ⟨i + 1, some ⟨q.1, e⟩, by go_num, by omega, rfl, H12.out⟩
          case measure => simp [intOf]; omega
        | some r =>
          have HRK : Hid (r.p.size = 32 ∧ r.e.id.size = 32) := H2.out.fr.ok r rfl
          have CP : Hid (∀ W, FcT w x (some r) gn q.1 q.2 w2.heap.size E W → ∀ (j : Nat) (v : Value), (idc r.p)[j]? = some v → W.cell? ⟨w.heap.size + 1 + 1, 0 + j, none⟩ = some v) := fun W hW j v hv => by
            rw [hW.fr.bb.cell]
            exact mrC_p r HRK.out.1 j v hv
          have HIP : Hid ((Tryz.prog.info? 48).map (·.size) = some (idc r.p).size) := info_32 (by rw [idc_size, HRK.out.1])
          have HLS : Hid (∀ W, FcT w x (some r) gn q.1 q.2 w2.heap.size E W → Calls Tryz.prog 21 #[.agg D, .agg (idc r.p)] W fun e w' => e = .returned (.bool (ltN q.1 r.p)) ∧ FcT w x (some r) gn q.1 q.2 w2.heap.size E w') := fun W hW => by
            rw [← HDE.out]
            exact (rless13 q.1 r.p W HES.out.1 HRK.out.1).mono fun e w' h => ⟨h.1, hW.next h.2⟩
          obtain ⟨P, hP⟩ : ∃ P, idc r.p = P := ⟨_, rfl⟩
          rw [hP] at CP HIP HLS
          clear hP HB
          cases hlt2 : ltN q.1 r.p with
          | true =>
            rw [hlt2] at HLS
            have HBN : Hid (Bst (xs.take (i + 1)) x (some ⟨q.1, e⟩)) := by
              have := HBS.out
              rw [bstN, if_pos hlt2] at this
              exact this
            clear HBS hlt2
            refine region_class10 (FcT w x (some r) gn q.1 q.2 w2.heap.size E) (by kernel_rfl) (by kernel_rfl) (H2.out.next ((Below.refl _ _).drew)) ?_
            try simp only [Act.put, List.setIfInBounds_toArray, List.set_cons_zero, List.set_cons_succ]
            repeat (first
              | go_big_quiet_skip
              | (go_big_quiet_want
                 first
                   | (refine quiet_call10 (.agg D) 41 #[.pointer (some ⟨gn, 0, none⟩)] ?_ ?_ ?_; (focus (intro W hW; go_simp; done)); (focus (intro W hW; exact HPC.out _ W hW)); go_big_quiet_on; simp only [Act.put, List.setIfInBounds_toArray, List.set_cons_zero, List.set_cons_succ])
                   | (refine quiet_call10 (.bool true) 21 #[.agg D, .agg P] ?_ ?_ ?_; (focus (intro W hW; go_simp; done)); (focus (intro W hW; exact HLS.out W hW)); go_big_quiet_on; simp only [Act.put, List.setIfInBounds_toArray, List.set_cons_zero, List.set_cons_succ])
                   | (refine quiet_rowc 48 _ rfl (w.heap.size + 1 + 1) 0 P _ rfl CP.out Tryz.underlying48 rfl HIP.out ?_; go_big_quiet_on; simp only [Act.put, List.setIfInBounds_toArray, List.set_cons_zero, List.set_cons_succ])
                   | (refine quiet_val10 (.pointer (some ⟨w.heap.size + 1 + 1, 0, none⟩)) ?_ ?_; (focus (intro W hW; go_simp; done)); go_big_quiet_on; simp only [Act.put, List.setIfInBounds_toArray, List.set_cons_zero, List.set_cons_succ])
                   | (refine quiet_val10 (.bool true) ?_ ?_; (focus (intro W hW; go_simp; done)); go_big_quiet_on; simp only [Act.put, List.setIfInBounds_toArray, List.set_cons_zero, List.set_cons_succ])
                   | (refine quiet_val10 (.bool false) ?_ ?_; (focus (intro W hW; go_simp; done)); go_big_quiet_on; simp only [Act.put, List.setIfInBounds_toArray, List.set_cons_zero, List.set_cons_succ])
                   | (go_big_quiet_op; go_big_quiet_on)))
            refine wpQuiet_nil ?_
            intro w10 hw10
            have H10 : Hid (FcT w x (some r) gn q.1 q.2 w2.heap.size E w10) := hw10
            clear hw10 H2
            go_wp2_with fail
            refine wp_region_tail (FcT w x (some r) gn q.1 q.2 w2.heap.size E) 4 (by kernel_rfl) (by kernel_rfl) (H10.out.next ((Below.refl _ _).drew)) ?_
            simp only [List.take_succ_cons, List.take_zero, List.drop_succ_cons, List.drop_zero]
            repeat (first
              | go_big_quiet_skip
              | (go_big_quiet_want
                 first
                   | (refine quiet_call10 (.agg D) 41 #[.pointer (some ⟨gn, 0, none⟩)] ?_ ?_ ?_; (focus (intro W hW; go_simp; done)); (focus (intro W hW; exact HPC.out _ W hW)); go_big_quiet_on; simp only [Act.put, List.setIfInBounds_toArray, List.set_cons_zero, List.set_cons_succ])
                   | (refine quiet_row 50 _ rfl w2.heap.size 0 E E 50 _ rfl (fun W hW => hW.en) (fun j v hv => by rw [Nat.zero_add]; exact hv) Tryz.underlying50 rfl HEI.out.1 ?_; go_big_quiet_on; simp only [Act.put, List.setIfInBounds_toArray, List.set_cons_zero, List.set_cons_succ])
                   | (refine quiet_bd2 52 _ _ rfl (.agg D) (.agg E) (.agg Y) rfl rfl HBM.out ?_; go_big_quiet_on; simp only [Act.put, List.setIfInBounds_toArray, List.set_cons_zero, List.set_cons_succ])
                   | (go_big_quiet_op; go_big_quiet_on)))
            refine wpQuiet_nil ?_
            intro w11 hw11
            have H11 : Hid (FcT w x (some r) gn q.1 q.2 w2.heap.size E w11) := hw11
            clear hw11 H10
            go_wp2_with (first
              | (refine wpList_stoX rfl 52 (.tmp 6) (.tmp 53) rfl (w.heap.size + 1 + 1) Y (rowC (some r)) 52 rfl rfl H11.out.fr.bb HYI.out.1 (by rw [HYI.out.2.2, H11.out.fr.ok.sz]) HYI.out.2.1 ?_; intro w12 HB12 HG12)
              | fail)
            have H12 : Hid (FrT w x (some ⟨q.1, e⟩) w12 ∧ Bst (xs.take (i + 1)) x (some ⟨q.1, e⟩)) := by
              refine ⟨⟨H11.out.fr.bx.grown HG12.out (by simp; omega), H11.out.fr.br.grown HG12.out (by simp), ?_, below_own H11.out.fr.bel H11.out.fr.bel.size HG12.out (by omega), fun r' h => by injection h with h; subst h; exact HES.out⟩, HBN.out⟩
              have := HB12.out
              rw [← HYE.out] at this
              exact this
            clear HB12 HG12 H11
            go_roundw
            case rel => exact ⟨i + 1, some ⟨q.1, e⟩, by go_num, by omega, rfl, H12.out⟩
            case measure => simp [intOf]; omega
          | false =>
            rw [hlt2] at HLS
            have HBN : Hid (Bst (xs.take (i + 1)) x (some r)) := by
              have := HBS.out
              rw [bstN, if_neg (by rw [hlt2]; simp)] at this
              exact this
            clear HBS hlt2
            refine region_class10 (FcT w x (some r) gn q.1 q.2 w2.heap.size E) (by kernel_rfl) (by kernel_rfl) (H2.out.next ((Below.refl _ _).drew)) ?_
            try simp only [Act.put, List.setIfInBounds_toArray, List.set_cons_zero, List.set_cons_succ]
            repeat (first
              | go_big_quiet_skip
              | (go_big_quiet_want
                 first
                   | (refine quiet_call10 (.agg D) 41 #[.pointer (some ⟨gn, 0, none⟩)] ?_ ?_ ?_; (focus (intro W hW; go_simp; done)); (focus (intro W hW; exact HPC.out _ W hW)); go_big_quiet_on; simp only [Act.put, List.setIfInBounds_toArray, List.set_cons_zero, List.set_cons_succ])
                   | (refine quiet_call10 (.bool false) 21 #[.agg D, .agg P] ?_ ?_ ?_; (focus (intro W hW; go_simp; done)); (focus (intro W hW; exact HLS.out W hW)); go_big_quiet_on; simp only [Act.put, List.setIfInBounds_toArray, List.set_cons_zero, List.set_cons_succ])
                   | (refine quiet_rowc 48 _ rfl (w.heap.size + 1 + 1) 0 P _ rfl CP.out Tryz.underlying48 rfl HIP.out ?_; go_big_quiet_on; simp only [Act.put, List.setIfInBounds_toArray, List.set_cons_zero, List.set_cons_succ])
                   | (refine quiet_val10 (.pointer (some ⟨w.heap.size + 1 + 1, 0, none⟩)) ?_ ?_; (focus (intro W hW; go_simp; done)); go_big_quiet_on; simp only [Act.put, List.setIfInBounds_toArray, List.set_cons_zero, List.set_cons_succ])
                   | (refine quiet_val10 (.bool true) ?_ ?_; (focus (intro W hW; go_simp; done)); go_big_quiet_on; simp only [Act.put, List.setIfInBounds_toArray, List.set_cons_zero, List.set_cons_succ])
                   | (refine quiet_val10 (.bool false) ?_ ?_; (focus (intro W hW; go_simp; done)); go_big_quiet_on; simp only [Act.put, List.setIfInBounds_toArray, List.set_cons_zero, List.set_cons_succ])
                   | (go_big_quiet_op; go_big_quiet_on)))
            refine wpQuiet_nil ?_
            intro w10 hw10
            have H10 : Hid (FrT w x (some r) w10 ∧ Bst (xs.take (i + 1)) x (some r)) := ⟨hw10.fr, HBN.out⟩
            clear hw10 H2
            go_wp2
            go_roundw
            case rel => exact ⟨i + 1, some r, by go_num, by omega, rfl, H10.out⟩
            case measure => simp [intOf]; omega
    · have hiz : ¬ (i : Int) < (n : Nat) := by omega
      have HB : Hid (Bst xs x b) := by
        have := HF.out.2
        rwa [List.take_of_length_le (by rw [HT.out.2.2.2.2]; omega)] at this
      have HR : Hid (Bk wr (w.heap.size + 1) z67 52 ∧ Bk wr (w.heap.size + 1 + 1) (rowC b) 52) := ⟨HF.out.1.br, HF.out.1.bb⟩
      have HIB : Hid ((Tryz.prog.info? 52).map (·.size) = some (rowC b).size ∧ (rowC b).all (·.oneCell') = true ∧ (rowC b).size = 67) := ⟨info_mr HF.out.1.ok.sz, rowC_all b, HF.out.1.ok.sz⟩
      obtain ⟨R, hR⟩ : ∃ R, rowC b = R := ⟨_, rfl⟩
      have HRE : Hid (rowC b = R) := hR
      rw [hR] at HR HIB
      clear hR
      go_wp2_with (first
        | (refine wpList_get rfl 52 (.tmp 6) rfl (w.heap.size + 1 + 1) 0 R R 52 _ rfl HR.out.2 (fun j v hv => by rw [Nat.zero_add]; exact hv) Tryz.underlying52 rfl HIB.out.1 ?_)
        | (refine wpList_stoX rfl 52 (.tmp 4) (.tmp 54) rfl (w.heap.size + 1) R z67 52 rfl rfl HR.out.1 HIB.out.1 (by rw [HIB.out.2.2]; rfl) HIB.out.2.1 ?_; intro w7 HB7 HG7)
        | fail)
      refine bodyPost_ret (results_cell_tmp_row rfl _ _ (w.heap.size + 1) 52 R (0, 0) _ rfl HB7.out Tryz.underlying52 rfl HIB.out.1) rfl ⟨b, by rw [HRE.out]; rfl, HB.out, HF.out.1.ok, ?_⟩
      exact below_own HF.out.1.bel HF.out.1.bel.size HG7.out (by omega)
end Go.Proofs.YtbfoiocbmhhdbaaGreat
