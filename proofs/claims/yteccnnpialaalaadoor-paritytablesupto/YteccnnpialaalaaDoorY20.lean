import Derived.Test.YteccnnpialaalaaDoorY14
import Derived.Test.YteccnnpialaalaaDoorY15
import Derived.Test.YteccnnpialaalaaDoorY16
import Derived.Test.YteccnnpialaalaaDoorY19
import Derived.Deep.Cut
import Derived.Deep.CutRange
/- Law 17: ParityTables. -/
namespace Go.Proofs.YteccnnpialaalaaDoor
open Go.RowKit
set_option linter.unusedSimpArgs false
set_option linter.unusedVariables false
set_option maxHeartbeats 16000000 in
set_option maxRecDepth 100000 in
theorem tables17 (d p z : Int) (a3 : Option Addr) (n3 c3 : Nat) (xs : List ByteArray) (s whole sum name : ByteArray) (w : World) (hX : TxL w a3 xs) (hn : xs.length = n3) (hn2 : n3 ≤ 1048576) (hs : s.size ≤ 140737488351232) (hnm : name.size ≤ 140737488351232) (hA : Dig w) :
    Calls Tryd.prog 3 #[.int .i64 d, .int .i64 p, .int .i64 z, .slice a3 n3 c3, .string s, .string whole, .string sum, .string name] w fun e w' => e = .returned (.bool true) ∧ Below w.heap.size w w' := by
  have HX : Hid (TxL w a3 xs ∧ xs.length = n3) := ⟨hX, hn⟩
  have HA : Hid (Dig w) := hA
  have HID : Hid (∀ x u, Calls Tryd.prog 4 #[.string x] u fun e w' => e = .returned (.agg (idc (idF x))) ∧ Below u.heap.size u w') := fun x u => id_any17 x u
  have HI4 : Hid ((Tryd.prog.info? 25).map (·.size) = some 4) := inf_tbR
  have HI4P : Hid ((Tryd.prog.info? 29).map (·.size) = some 4) := inf_tb
  have H0 : Hid (LwA w d p z (.slice none 0 0) ((xs.take 0).map idF) (w.alloc (.cells #[.int .i64 d, .int .i64 p, .int .i64 z, .slice none 0 0] 25))) := LwA.new w d p z
  clear hX hn hA
  go_enter Tryd.func3, Tryd.ntmps3
  go_wp2_with (first
    | (refine wpList_buildX rfl 25 _ rfl (.agg #[.int .i64 d, .int .i64 p, .int .i64 z, .slice none 0 0]) (bd_tbR _ _ _ _) ?_)
    | (refine wpList_store_new rfl 25 (.tmp 17) (.tmp 46) rfl #[.int .i64 d, .int .i64 p, .int .i64 z, .slice none 0 0] _ 25 w.heap.size rfl rfl rfl HI4.out rfl (by simp [Value.oneCell']) ?_)
    | fail)
  try simp only [Act.put]
  go_loopw [18] (fun v wr => ∃ (i : Nat) (vv : Value), v = .int .i64 i ∧ i ≤ n3 ∧ Hid (LwA w d p z vv ((xs.take i).map idF) wr)) (fun v _ => n3 - (intOf v).toNat)
  case atStart => exact ⟨0, _, rfl, by omega, H0.out⟩
  case round =>
    clear H0
    obtain ⟨i, v, rfl, hi, HV⟩ := hrel
    by_cases hlt : i < n3
    · have hiz : (i : Int) < (n3 : Int) := by omega
      have hi0 : (0 : Int) ≤ (i : Int) := by omega
      obtain ⟨x, hx⟩ : ∃ x, xs[i]? = some x := ⟨_, List.getElem?_eq_getElem (by rw [HX.out.2]; exact hlt)⟩
      obtain ⟨g3, o3, rfl, hg3, hcx⟩ := HX.out.1 i x hx
      have HCX : Hid (∀ W, Below w.heap.size w W → W.cell? ⟨g3, o3 + i, none⟩ = some (.string x)) := fun W hW => by rw [hW.cell hg3]; exact hcx
      have HTK : Hid ((xs.take (i + 1)).map idF = (xs.take i).map idF ++ [idF x] ∧ ((xs.take i).map idF).length = i) := by
        refine ⟨?_, ?_⟩
        · rw [List.take_add_one, hx]; simp
        · rw [List.length_map, List.length_take, HX.out.2]; omega
      obtain ⟨X, hX⟩ : ∃ X, idc (idF x) = X := ⟨_, rfl⟩
      have HXX : Hid (idc (idF x) = X ∧ X.size = 32) := ⟨hX, by rw [← hX, idc_size, idF_size]⟩
      have HCI : Hid (∀ u, Calls Tryd.prog 4 #[.string x] u fun e w' => e = .returned (.agg X) ∧ Below u.heap.size u w') := fun u => by rw [← hX]; exact HID.out x u
      have c0 : wr.drew.cell? ⟨w.heap.size, 3, none⟩ = some v := (HV.out.next ((Below.refl _ _).drew)).cell.1
      have HV0 : Hid (LwA w d p z v ((xs.take i).map idF) wr.drew) := HV.out.next ((Below.refl _ _).drew)
      have x0 := HCX.out _ HV0.out.bel
      clear hx hX hcx hg3 HV
      go_wp2_with fail
      obtain ⟨w0, hw0⟩ : ∃ W, wr.drew = W := ⟨_, rfl⟩
      refine wpBut.region (fun W => W.cell? ⟨w.heap.size, 3, none⟩ = some v ∧ W.cell? ⟨g3, o3 + i, none⟩ = some (.string x)) 10 (by kernel_rfl) ?_
      rw [hw0] at c0 x0 HV0
      rw [hw0]
      clear hw0
      show wpBut _ _ _ _ _ 11 #[false, false, false, false, false, false, false, false, false, false, false] _ _
      refine wpBut.take (i := 0) (v := .pointer (some ⟨w.heap.size, 3, none⟩)) rfl rfl (by kernel_rfl) rfl (by kernel_rfl) (by kernel_rfl) (by kernel_rfl) (fun _ _ _ h => h) (yld_if rfl (fun W hW => by go_simp)) ⟨c0, x0⟩ ?_
      simp only [List.getElem_toArray, List.getElem_cons_zero, List.getElem_cons_succ, Act.put, List.setIfInBounds_toArray, List.set_cons_zero, List.set_cons_succ]
      refine wpBut.take (i := 1) (v := v) rfl rfl (by kernel_rfl) rfl (by kernel_rfl) (by kernel_rfl) (by kernel_rfl) (fun _ _ _ h => h) (yld_if rfl (fun W hW => by have h1 := hW.1; go_simp)) ⟨c0, x0⟩ ?_
      simp only [List.getElem_toArray, List.getElem_cons_zero, List.getElem_cons_succ, Act.put, List.setIfInBounds_toArray, List.set_cons_zero, List.set_cons_succ]
      refine wpBut.take (i := 2) (v := .slice (some ⟨g3, o3, none⟩) n3 c3) rfl rfl (by kernel_rfl) rfl (by kernel_rfl) (by kernel_rfl) (by kernel_rfl) (fun _ _ _ h => h) (yld_if rfl (fun W hW => by go_simp)) ⟨c0, x0⟩ ?_
      simp only [List.getElem_toArray, List.getElem_cons_zero, List.getElem_cons_succ, Act.put, List.setIfInBounds_toArray, List.set_cons_zero, List.set_cons_succ]
      refine wpBut.take (i := 3) (v := .int .i64 (i : Int)) rfl rfl (by kernel_rfl) rfl (by kernel_rfl) (by kernel_rfl) (by kernel_rfl) (fun _ _ _ h => h) (yld_if rfl (fun W hW => by go_simp)) ⟨c0, x0⟩ ?_
      simp only [List.getElem_toArray, List.getElem_cons_zero, List.getElem_cons_succ, Act.put, List.setIfInBounds_toArray, List.set_cons_zero, List.set_cons_succ]
      refine wpBut.take (i := 4) (v := .pointer (some ⟨g3, o3 + i, none⟩)) rfl rfl (by kernel_rfl) rfl (by kernel_rfl) (by kernel_rfl) (by kernel_rfl) (fun _ _ _ h => h) (yld_if rfl (fun W hW => by go_simp)) ⟨c0, x0⟩ ?_
      simp only [List.getElem_toArray, List.getElem_cons_zero, List.getElem_cons_succ, Act.put, List.setIfInBounds_toArray, List.set_cons_zero, List.set_cons_succ]
      refine wpBut.take (i := 5) (v := .string x) rfl rfl (by kernel_rfl) rfl (by kernel_rfl) (by kernel_rfl) (by kernel_rfl) (fun _ _ _ h => h) (yld_if rfl (fun W hW => by have h1 := hW.2; go_simp)) ⟨c0, x0⟩ ?_
      simp only [List.getElem_toArray, List.getElem_cons_zero, List.getElem_cons_succ, Act.put, List.setIfInBounds_toArray, List.set_cons_zero, List.set_cons_succ]
      refine wpBut.one (i := 6) (by kernel_rfl) rfl (fun K hK => ?_)
      refine at_call (by rfl) 4 #[.string x] (.agg X) (fun W => Below w0.heap.size w0 W) (by go_simp) (HCI.out w0) (fun W1 hb1 => ?_)
      have V1 := HV0.out.next hb1
      have c1 := V1.cell.1
      have x1 := HCX.out _ V1.bel
      have hbs := build1_17 X HXX.out.2 W1
      have hk2 := bk_new W1 X 27
      have V2 := V1.next ((Below.refl _ _).alloc (Nat.le_refl _) (.cells X 27))
      have c2 := V2.cell.1
      have x2 := HCX.out _ V2.bel
      obtain ⟨g9, cp9, W3, hrn, hU⟩ := V2.app (k := W1.heap.size) (o := 0) (idF_size x) (fun j u hu => by rw [Nat.zero_add, hk2.cell, ← HXX.out.1]; exact hu) (by rw [HTK.out.2]; omega)
      have c3' : W3.cell? ⟨w.heap.size, 3, none⟩ = some v := by rw [hU.b.cell]; rfl
      have f3 : W3.frozen? ⟨w.heap.size, 3, none⟩ = false := hU.b.frozen 3
      have x3 := HCX.out _ hU.bel
      have HUP : Hid (LwA w d p z (.slice (some ⟨g9, 0, none⟩) (((xs.take i).map idF).length + 1) cp9) ((xs.take (i + 1)).map idF) (W3.setCell ⟨w.heap.size, 3, none⟩ (.slice (some ⟨g9, 0, none⟩) (((xs.take i).map idF).length + 1) cp9))) := by
        show LwA _ _ _ _ _ _ _
        rw [HTK.out.1]
        exact hU.put
      have hst : (storeVar 23 ⟨w.heap.size, 3, none⟩ (.slice (some ⟨g9, 0, none⟩) (((xs.take i).map idF).length + 1) cp9)).run Tryd.prog W3 = .ok () (W3.setCell ⟨w.heap.size, 3, none⟩ (.slice (some ⟨g9, 0, none⟩) (((xs.take i).map idF).length + 1) cp9)) := store_sl17 c3' f3
      obtain ⟨W2, hW2⟩ : ∃ W, W1.alloc (.cells X 27) = W := ⟨_, rfl⟩
      rw [hW2] at hbs c2 x2 hrn
      obtain ⟨gb, hgb⟩ : ∃ g, W1.heap.size = g := ⟨_, rfl⟩
      rw [hgb] at hbs hrn
      obtain ⟨v9, hv9⟩ : ∃ u, Value.slice (some ⟨g9, 0, none⟩) (((xs.take i).map idF).length + 1) cp9 = u := ⟨_, rfl⟩
      rw [hv9] at hrn hst HUP
      obtain ⟨W4, hW4⟩ : ∃ W, W3.setCell ⟨w.heap.size, 3, none⟩ v9 = W := ⟨_, rfl⟩
      rw [hW4] at hst HUP
      clear V1 V2 hk2 hU hb1 hW2 hgb hv9 hW4 f3
      refine hK _ _ (.inr ⟨c1, x1⟩) ?_
      clear hK K
      simp only [List.getElem_toArray, List.getElem_cons_zero, List.getElem_cons_succ, Act.put, List.setIfInBounds_toArray, List.set_cons_zero, List.set_cons_succ]
      refine wpBut.one (i := 7) (by kernel_rfl) rfl (fun K hK => ?_)
      refine at_bs (by rfl) 23 (.tmp 59) (by rfl) (.agg X) (.slice (some ⟨gb, 0, none⟩) 1 1) (by rfl) hbs (hK _ _ (.inr ⟨c2, x2⟩) ?_)
      clear hK K
      simp only [List.getElem_toArray, List.getElem_cons_zero, List.getElem_cons_succ, Act.put, List.setIfInBounds_toArray, List.set_cons_zero, List.set_cons_succ]
      refine wpBut.one (i := 8) (by kernel_rfl) rfl (fun K hK => ?_)
      refine at_app (by rfl) (.tmp 54) (.tmp 60) 23 23 (by rfl) v (.slice (some ⟨gb, 0, none⟩) 1 1) v9 (by rfl) (by rfl) hrn (hK _ _ (.inr ⟨c3', x3⟩) ?_)
      clear hK K
      simp only [List.getElem_toArray, List.getElem_cons_zero, List.getElem_cons_succ, Act.put, List.setIfInBounds_toArray, List.set_cons_zero, List.set_cons_succ]
      refine wpBut.take (i := 9) (v := .pointer (some ⟨w.heap.size, 3, none⟩)) rfl rfl (by kernel_rfl) rfl (by kernel_rfl) (by kernel_rfl) (by kernel_rfl) (fun _ _ _ h => h) (yld_if rfl (fun W hW => by go_simp)) ⟨c3', x3⟩ ?_
      simp only [List.getElem_toArray, List.getElem_cons_zero, List.getElem_cons_succ, Act.put, List.setIfInBounds_toArray, List.set_cons_zero, List.set_cons_succ]
      refine wpBut.one (i := 10) (by kernel_rfl) rfl (fun K hK => ?_)
      refine at_st (by rfl) 23 (.tmp 62) (.tmp 61) (by rfl) ⟨w.heap.size, 3, none⟩ v9 (by rfl) (by rfl) hst (hK _ _ (.inl rfl) ?_)
      clear hK K
      simp only [List.getElem_toArray, List.getElem_cons_zero, List.getElem_cons_succ, Act.put, List.setIfInBounds_toArray, List.set_cons_zero, List.set_cons_succ]
      refine wpBut.done (by kernel_rfl) ?_ _
      clear c0 c1 c2 c3' x0 x1 x2 x3 hst hrn hbs
      try go_wp2
      go_roundw
      case rel => exact ⟨i + 1, v9, by go_num, by omega, HUP.out⟩
      case measure => simp [intOf]; omega
    · obtain rfl : i = n3 := by omega
      have hiz : ¬ (i : Int) < (i : Int) := by omega
      obtain ⟨l, hl⟩ : ∃ l, xs.map idF = l := ⟨_, rfl⟩
      have HL : Hid (l.length = i ∧ ∀ x ∈ l, x.size = 32) := ⟨by rw [← hl, List.length_map, HX.out.2], fun x hx => by
        rw [← hl] at hx
        obtain ⟨y, _, rfl⟩ := List.mem_map.1 hx
        exact idF_size y⟩
      have hA1 : LwA w d p z v l wr := by
        have h := HV.out
        rw [List.take_of_length_le (by rw [HX.out.2]; exact Nat.le_refl _), hl] at h
        exact h
      clear HV hl HX
      obtain ⟨a, c, hva, hnm1, hnc, _⟩ := own_ids hA1.ow rfl HL.out.2
      rw [HL.out.1] at hva hnc
      subst hva
      obtain ⟨v1, W2, hr1, ho1, hb2⟩ := app0_17 hA1.ow HL.out.2 (by rw [HL.out.1]; omega)
      have hbs0 := bs0_17 wr
      have c0 := hA1.cell.1
      have c1 := (hA1.next ((Below.refl _ _).alloc (Nat.le_refl _) (.cells #[] 27))).cell.1
      obtain ⟨W1, hW1⟩ : ∃ W, wr.alloc (.cells #[] 27) = W := ⟨_, rfl⟩
      rw [hW1] at hr1 hbs0 c1
      have HO1 : Hid (W2.ownsRow wr.heap.size 27 32 v1 l.length (ivs l) ∧ Below wr.heap.size wr W2) := ⟨ho1, hb2⟩
      have HA1 : Hid (LwA w d p z (.slice a i c) l wr ∧ NmL wr a l) := ⟨hA1, hnm1⟩
      obtain ⟨gw, hgw⟩ : ∃ g, wr.heap.size = g := ⟨_, rfl⟩
      rw [hgw] at hr1 hbs0
      clear hA1 hnm1 ho1 hb2 hW1 hgw
      go_wp2_with (first
        | (refine wpList_bs0X rfl 23 rfl (.slice (some ⟨gw, 0, none⟩) 0 0) W1 hbs0 ?_)
        | (refine wpList_appX rfl (.tmp 66) (.tmp 68) 23 23 rfl (.slice (some ⟨gw, 0, none⟩) 0 0) (.slice a i c) v1 W2 rfl rfl hr1 ?_)
        | fail)
      clear hbs0 hr1 c0 c1
      have hcm := HID.out ⟨#[109, 97, 114, 107]⟩ W2
      obtain ⟨mk, hmk⟩ : ∃ m, idF ⟨#[109, 97, 114, 107]⟩ = m := ⟨_, rfl⟩
      rw [hmk] at hcm
      have hms : mk.size = 32 := by rw [← hmk]; exact idF_size _
      obtain ⟨M, hM⟩ : ∃ M, idc mk = M := ⟨_, rfl⟩
      rw [hM] at hcm
      have HMK : Hid (idc mk = M ∧ mk.size = 32 ∧ M.size = 32 ∧ idF ⟨#[109, 97, 114, 107]⟩ = mk) := ⟨hM, hms, by rw [← hM, idc_size]; exact hms, hmk⟩
      clear hmk hms hM
      refine hcm.mono ?_
      rintro e W3 ⟨rfl, hb3⟩
      clear hcm
      have hbs := build1_17 M HMK.out.2.2.1 W3
      have hk4 := bk_new W3 M 27
      have hal4 : Below W3.heap.size W3 (W3.alloc (.cells M 27)) := (Below.refl _ _).alloc (Nat.le_refl _) _
      have hb24 : Below W2.heap.size W2 (W3.alloc (.cells M 27)) := hb3.trans (hal4.mono hb3.size)
      have ho4 := rows_keep HO1.out.1 (fun g _ hg => hb24.block g hg)
      have hbw4 : Below wr.heap.size wr (W3.alloc (.cells M 27)) := HO1.out.2.trans (hb24.mono HO1.out.2.size)
      obtain ⟨g2, cp2, W5, hr5, ho5, hcp5, hg5⟩ := ids_app (k := W3.heap.size) (o := 0) (x := mk) ho4 hbw4.size HMK.out.2.1 (fun j u hu => by rw [Nat.zero_add, hk4.cell, ← HMK.out.1]; exact hu) (by rw [HL.out.1]; omega)
      have hbw5 : Below wr.heap.size wr W5 := rows_bel hbw4 hbw4.size ho4 (Nat.le_refl _) hg5
      obtain ⟨a5, c5, hv5, hnm5, _, _⟩ := own_ids ho5 (by simp) (fun x hx => by
        rcases List.mem_append.1 hx with hx | hx
        · exact HL.out.2 x hx
        · rw [List.mem_singleton.1 hx]; exact HMK.out.2.1)
      injection hv5 with hv5a hv5b hv5c
      subst hv5a
      rw [HL.out.1] at hr5 hcp5
      obtain ⟨n9, hn9⟩ : ∃ n, i + 1 = n := ⟨_, rfl⟩
      have HN9 : Hid (i + 1 = n9) := hn9
      rw [hn9] at hr5
      clear hn9
      have HB5 : Hid (LwB w d p z a i c l g2 cp2 mk W5) := ⟨HA1.out.1.b.below hbw5 HA1.out.1.b.lt, HA1.out.2.below hbw5, hnm5, HA1.out.1.bel.trans (hbw5.mono HA1.out.1.bel.size)⟩
      obtain ⟨gb, hgb⟩ : ∃ g, W3.heap.size = g := ⟨_, rfl⟩
      obtain ⟨W4, hW4⟩ : ∃ W, W3.alloc (.cells M 27) = W := ⟨_, rfl⟩
      rw [hgb, hW4] at hbs
      rw [hgb, hW4] at hr5
      clear hk4 hal4 hb24 ho4 hbw4 ho5 hg5 hbw5 hnm5 hv5b hv5c hgb hW4 hb3 HA1 HO1
      have HCP : Hid (i + 1 ≤ cp2) := hcp5
      have hcpz : (i : Int) ≤ (cp2 : Int) := by omega
      have hbd4 : ∀ u, (Instr.build 29 #[(0, .int .i64 d), (1, .int .i64 p), (2, .int .i64 z), (3, .slice (some ⟨g2, 0, none⟩) i cp2)]).run Tryd.prog u = .ok (.agg #[.int .i64 d, .int .i64 p, .int .i64 z, .slice (some ⟨g2, 0, none⟩) i cp2]) u := fun u => bd_tb4 d p z _ rfl _ _ _ rfl u
      have H6 : Hid (Bk (W5.alloc (.cells #[.int .i64 d, .int .i64 p, .int .i64 z, .slice (some ⟨g2, 0, none⟩) i cp2] 29)) W5.heap.size #[.int .i64 d, .int .i64 p, .int .i64 z, .slice (some ⟨g2, 0, none⟩) i cp2] 29 ∧ LwB w d p z a i c l g2 cp2 mk (W5.alloc (.cells #[.int .i64 d, .int .i64 p, .int .i64 z, .slice (some ⟨g2, 0, none⟩) i cp2] 29))) :=
        ⟨bk_new _ _ _, HB5.out.next ((Below.refl _ _).alloc (Nat.le_refl _) _)⟩
      obtain ⟨g6, hg6⟩ : ∃ g, W5.heap.size = g := ⟨_, rfl⟩
      have HG6 : Hid (W5.heap.size = g6) := hg6
      obtain ⟨W6, hW6⟩ : ∃ W, W5.alloc (.cells #[.int .i64 d, .int .i64 p, .int .i64 z, .slice (some ⟨g2, 0, none⟩) i cp2] 29) = W := ⟨_, rfl⟩
      have HW6 : Hid (W5.alloc (.cells #[.int .i64 d, .int .i64 p, .int .i64 z, .slice (some ⟨g2, 0, none⟩) i cp2] 29) = W6) := hW6
      rw [hg6, hW6] at H6
      clear hg6 hW6 HB5
      go_upto_region 9 with (first
        | (refine wpList_bsX rfl 23 (.tmp 70) rfl (.agg M) (.slice (some ⟨gb, 0, none⟩) 1 1) W4 rfl hbs ?_)
        | (refine wpList_appX rfl (.tmp 69) (.tmp 71) 23 23 rfl v1 (.slice (some ⟨gb, 0, none⟩) 1 1) (.slice (some ⟨g2, 0, none⟩) n9 cp2) W5 rfl rfl hr5 ?_)
        | (refine wpList_bdX4 rfl 29 (.tmp 73) (.tmp 74) (.tmp 75) (.tmp 78) rfl (.int .i64 d) (.int .i64 p) (.int .i64 z) (.slice (some ⟨g2, 0, none⟩) i cp2) _ rfl rfl rfl rfl (hbd4 _) ?_)
        | (refine wpList_store_new rfl 29 (.tmp 21) (.tmp 79) rfl #[.int .i64 d, .int .i64 p, .int .i64 z, .slice (some ⟨g2, 0, none⟩) i cp2] _ 29 W5.heap.size rfl rfl rfl HI4P.out rfl (by simp [Value.oneCell']) ?_; rw [HW6.out])
        | fail)
      try rw [HG6.out]
      clear HW6 hbs hr5 hbd4 hcpz
      have H7 : Hid (LwC w d p z a i c l g2 cp2 mk g6 W6) := ⟨H6.out.1, H6.out.2⟩
      obtain ⟨Wt, e0, hEn, hWz, he0⟩ := enc_gen d p z l i HL.out.1 HL.out.2
      have HWZ : Hid (Wt.size ≤ 140737488351232) := hWz
      have HE0 : Hid (e0 = ckE17 d p z i) := he0
      have HRE : Hid (∀ W, LwC w d p z a i c l g2 cp2 mk g6 W → Calls Tryd.prog 5 #[.agg #[.int .i64 d, .int .i64 p, .int .i64 z, .slice a i c]] W fun e w' => e = .returned (.tuple #[.string Wt, .int .i64 e0]) ∧ LwC w d p z a i c l g2 cp2 mk g6 w') := fun W hW =>
        (rencode17 d p z a i c l W hW.b.nm HL.out.1).mono fun e w' ⟨q1, q2⟩ => ⟨q1.trans hEn, hW.next q2⟩
      have HPE : Hid (∀ W, LwC w d p z a i c l g2 cp2 mk g6 W → Calls Tryd.prog 6 #[.agg #[.int .i64 d, .int .i64 p, .int .i64 z, .slice (some ⟨g2, 0, none⟩) i cp2]] W fun e w' => e = .returned (.tuple #[.string Wt, .int .i64 e0]) ∧ LwC w d p z a i c l g2 cp2 mk g6 w') := fun W hW =>
        (encode17 d p z (some ⟨g2, 0, none⟩) i cp2 l W hW.b.nm2.front HL.out.1).mono fun e w' ⟨q1, q2⟩ => ⟨q1.trans hEn, hW.next q2⟩
      have HCK : Hid (∀ W, LwC w d p z a i c l g2 cp2 mk g6 W → Calls Tryd.prog 8 #[.agg #[.int .i64 d, .int .i64 p, .int .i64 z, .slice (some ⟨g2, 0, none⟩) i cp2]] W fun e w' => e = .returned (.int .i64 e0) ∧ LwC w d p z a i c l g2 cp2 mk g6 w') := fun W hW =>
        (check17 d p z (some ⟨g2, 0, none⟩) i cp2 W).mono fun e w' ⟨q1, q2⟩ => ⟨by rw [q1, HE0.out], hW.next q2⟩
      have HMY : Hid (∀ W, LwC w d p z a i c l g2 cp2 mk g6 W → Calls Tryd.prog 7 #[.agg #[.int .i64 d, .int .i64 p, .int .i64 z, .slice a i c]] W fun e w' => e = .returned (.bool (okT d p z i)) ∧ LwC w d p z a i c l g2 cp2 mk g6 w') := fun W hW =>
        (rmay17 d p z a i c W).mono fun e w' ⟨q1, q2⟩ => ⟨q1, hW.next q2⟩
      have HDS : Hid (∀ W, LwC w d p z a i c l g2 cp2 mk g6 W → Calls Tryd.prog 9 #[.slice (some ⟨g2, 0, none⟩) i cp2, .slice a i c] W fun e w' => e = .returned (.bool true) ∧ LwC w d p z a i c l g2 cp2 mk g6 w') := fun W hW =>
        (rids17 l l _ _ i i cp2 c W hW.b.nm2.front hW.b.nm HL.out.1 HL.out.1 (by omega) (by omega)).mono fun e w' ⟨q1, q2⟩ => ⟨by rw [q1]; simp, hW.next q2⟩
      have HIM : Hid (∀ W, LwC w d p z a i c l g2 cp2 mk g6 W → Calls Tryd.prog 4 #[.string ⟨#[109, 97, 114, 107]⟩] W fun e w' => e = .returned (.agg M) ∧ LwC w d p z a i c l g2 cp2 mk g6 w') := fun W hW =>
        (HID.out ⟨#[109, 97, 114, 107]⟩ W).mono fun e w' ⟨q1, q2⟩ => ⟨by rw [q1, HMK.out.2.2.2, HMK.out.1], hW.next q2⟩
      have HLA : Hid (∀ W, LwC w d p z a i c l g2 cp2 mk g6 W → ∀ j v, M[j]? = some v → W.cell? ⟨g2, i * 32 + j, none⟩ = some v) := fun W hW j v hv => hW.last HL.out.1 j v (by rw [HMK.out.1]; exact hv)
      clear hEn hWz he0 H6 HG6
      go_wp2_with (first
        | (refine wpList_get rfl 25 (.tmp 17) rfl w.heap.size 0 #[.int .i64 d, .int .i64 p, .int .i64 z, .slice a i c] #[.int .i64 d, .int .i64 p, .int .i64 z, .slice a i c] 25 _ rfl H7.out.b.b (fun j v hv => by rw [Nat.zero_add]; exact hv) Tryd.underlying25 rfl HI4.out ?_)
        | fail)
      refine (HRE.out _ H7.out).mono ?_
      rintro e W7 ⟨rfl, h8⟩
      have H8 : Hid (LwC w d p z a i c l g2 cp2 mk g6 W7) := h8
      clear h8 H7 HRE
      go_wp2_with (first
        | (refine wpList_get rfl 29 (.tmp 21) rfl g6 0 #[.int .i64 d, .int .i64 p, .int .i64 z, .slice (some ⟨g2, 0, none⟩) i cp2] #[.int .i64 d, .int .i64 p, .int .i64 z, .slice (some ⟨g2, 0, none⟩) i cp2] 29 _ rfl H8.out.t (fun j v hv => by rw [Nat.zero_add]; exact hv) Tryd.underlying29 rfl HI4P.out ?_)
        | fail)
      refine (HPE.out _ H8.out).mono ?_
      rintro e W8 ⟨rfl, h9⟩
      have H9 : Hid (LwC w d p z a i c l g2 cp2 mk g6 W8) := h9
      clear h9 H8 HPE
      go_wp2_with (first
        | (refine wpList_get rfl 25 (.tmp 17) rfl w.heap.size 0 #[.int .i64 d, .int .i64 p, .int .i64 z, .slice a i c] #[.int .i64 d, .int .i64 p, .int .i64 z, .slice a i c] 25 _ rfl H9.out.b.b (fun j v hv => by rw [Nat.zero_add]; exact hv) Tryd.underlying25 rfl HI4.out ?_)
        | fail)
      refine (HMY.out _ H9.out).mono ?_
      rintro e W9 ⟨rfl, h10⟩
      have H10 : Hid (LwC w d p z a i c l g2 cp2 mk g6 W9) := h10
      clear h10
      go_upto_if 92 with fail
      go_cut [26] from 90 to 92 (fun x wx => x = .int .i64 e0 ∧ Hid (LwC w d p z a i c l g2 cp2 mk g6 wx))
      case first =>
        cases hok : okT d p z i with
        | true =>
          have he : Hid (e0 = 0) := by show _ = _; rw [HE0.out, ckE17, hok]; rfl
          clear hok
          go_wp2
          go_meet
          exact ⟨by rw [he.out], H10.out⟩
        | false =>
          have he : Hid (e0 = 1) := by show _ = _; rw [HE0.out, ckE17, hok]; rfl
          clear hok
          go_wp2
          go_meet
          exact ⟨by rw [he.out], H10.out⟩
      case rest =>
      obtain ⟨rfl, HC⟩ := hcut
      clear H9 H10 HMY
      have HMI : Hid ((Tryd.prog.info? 27).map (·.size) = some M.size) := info_32 HMK.out.2.2.1
      have hNEM : ∀ u, (binOp .neq 27 (.agg M) (.agg M)).run Tryd.prog u = .ok (.bool false) u := fun u => by rw [← HMK.out.1, neq_ids mk mk HMK.out.2.1 HMK.out.2.1]; simp
      have hcpz : (i : Int) ≤ (cp2 : Int) := by have := HCP.out; omega
      have hcpn : i ≤ cp2 := by have := HCP.out; omega
      have hii : (i : Int) < (n9 : Int) := by have := HN9.out; omega
      have hiin : i < n9 := by have := HN9.out; omega
      have hi0 : (0 : Int) ≤ (i : Int) := by omega
      clear hcp5
      go_wp2_with fail
      refine region_class10 (LwC w d p z a i c l g2 cp2 mk g6) (by kernel_rfl) (by kernel_rfl) (HC.out.next ((Below.refl _ _).drew)) ?_
      try simp only [Act.put, List.setIfInBounds_toArray, List.set_cons_zero, List.set_cons_succ]
      repeat (first
        | go_big_quiet_skip
        | (go_big_quiet_want
           first
             | (refine quiet_row 29 _ rfl g6 0 #[.int .i64 d, .int .i64 p, .int .i64 z, .slice (some ⟨g2, 0, none⟩) i cp2] #[.int .i64 d, .int .i64 p, .int .i64 z, .slice (some ⟨g2, 0, none⟩) i cp2] 29 _ rfl (fun _ h => h.t) (fun j v hv => by rw [Nat.zero_add]; exact hv) Tryd.underlying29 rfl HI4P.out ?_; go_big_quiet_on; simp only [Act.put, List.setIfInBounds_toArray, List.set_cons_zero, List.set_cons_succ])
             | (refine quiet_one 23 _ rfl w.heap.size 3 (.slice a i c) rfl (fun u => Tryd.isAgg23 u) (fun _ h => by rw [h.b.b.cell]; rfl) ?_; go_big_quiet_on; simp only [Act.put, List.setIfInBounds_toArray, List.set_cons_zero, List.set_cons_succ])
             | (refine quiet_rowc17 27 _ rfl g2 (i * 32) M _ rfl HLA.out Tryd.underlying27 rfl HMI.out ?_; go_big_quiet_on; simp only [Act.put, List.setIfInBounds_toArray, List.set_cons_zero, List.set_cons_succ])
             | (refine quiet_call10 (.int .i64 e0) 8 #[.agg #[.int .i64 d, .int .i64 p, .int .i64 z, .slice (some ⟨g2, 0, none⟩) i cp2]] ?_ ?_ ?_; (focus (intro W hW; go_simp; done)); (focus (intro W hW; exact HCK.out W hW)); go_big_quiet_on; simp only [Act.put, List.setIfInBounds_toArray, List.set_cons_zero, List.set_cons_succ])
             | (refine quiet_call10 (.bool true) 9 #[.slice (some ⟨g2, 0, none⟩) i cp2, .slice a i c] ?_ ?_ ?_; (focus (intro W hW; go_simp; done)); (focus (intro W hW; exact HDS.out W hW)); go_big_quiet_on; simp only [Act.put, List.setIfInBounds_toArray, List.set_cons_zero, List.set_cons_succ])
             | (refine quiet_call10 (.agg M) 4 #[.string ⟨#[109, 97, 114, 107]⟩] ?_ ?_ ?_; (focus (intro W hW; go_simp; done)); (focus (intro W hW; exact HIM.out W hW)); go_big_quiet_on; simp only [Act.put, List.setIfInBounds_toArray, List.set_cons_zero, List.set_cons_succ])
             | (refine quiet_val10 (.slice (some ⟨g2, 0, none⟩) i cp2) ?_ ?_; (focus (intro W hW; go_simp; done)); go_big_quiet_on; simp only [Act.put, List.setIfInBounds_toArray, List.set_cons_zero, List.set_cons_succ])
             | (refine quiet_val10 (.pointer (some ⟨w.heap.size, 3, none⟩)) ?_ ?_; (focus (intro W hW; go_simp; done)); go_big_quiet_on; simp only [Act.put, List.setIfInBounds_toArray, List.set_cons_zero, List.set_cons_succ])
             | (refine quiet_val10 (.pointer (some ⟨g2, i * 32, none⟩)) ?_ ?_; (focus (intro W hW; go_simp; done)); go_big_quiet_on; simp only [Act.put, List.setIfInBounds_toArray, List.set_cons_zero, List.set_cons_succ])
             | (refine quiet_val10 (.bool false) ?_ ?_; (focus (intro W hW; go_simp; done)); go_big_quiet_on; simp only [Act.put, List.setIfInBounds_toArray, List.set_cons_zero, List.set_cons_succ])
             | (go_big_quiet_op; go_big_quiet_on)))
      refine wpQuiet_nil ?_
      intro w14 hw14
      have H14 : Hid (Below w.heap.size w w14) := hw14.b.bel
      clear hw14 HC HCK HDS HIM HLA hNEM hcpz hcpn hii hiin HMI
      go_wp2_with fail
      try simp only [Act.put]
      clear hlt hiz hi
      go_loopw [4, 27] (fun sv v wr => ∃ (t : ByteArray) (r : Nat), sv = .string t ∧ v = .int .i64 r ∧ r ≤ 2 ∧ t.size ≤ 140737488351232 ∧ Hid (Below w.heap.size w wr)) (fun _ v _ => 2 - (intOf v).toNat)
      case atStart => exact ⟨s, 0, rfl, rfl, by omega, hs, H14.out⟩
      case round =>
        clear H14
        obtain ⟨t, r, rfl, rfl, hr2, htz, HB⟩ := hrel
        by_cases hlt : r < 2
        · have hrz : (r : Int) < 2 := by omega
          obtain ⟨wo, rfl⟩ : ∃ W : World, W = wr := ⟨_, rfl⟩
          obtain ⟨d', p', z', l', E', hsz', hln', hE', hgen⟩ := dc_gen t (by unfold maxLen; omega)
          obtain ⟨n', hn'⟩ : ∃ n, l'.length = n := ⟨_, rfl⟩
          have HN' : Hid (l'.length = n' ∧ n' ≤ 2097153 ∧ (∀ x ∈ l', x.size = 32)) := ⟨hn', by omega, hsz'⟩
          have HRD : Hid (∀ W, Calls Tryd.prog 10 #[.string t] W fun e w' => ∃ a c, e = .returned (.tuple #[.agg #[.int .i64 d', .int .i64 p', .int .i64 z', .slice a n' c], .int .i64 E']) ∧ NmL w' a l' ∧ w'.ownsRow W.heap.size 27 32 (.slice a n' c) n' (ivs l') ∧ Below W.heap.size W w') := fun W =>
            (rdecode17 t W (by unfold maxLen; omega)).mono fun e w' ⟨C, E, q1, q2, q3⟩ => by
              obtain ⟨e1, e2⟩ := hgen _ _ _ _ q2
              obtain ⟨a, c, e3, e4, e5⟩ := e2.shape hsz'
              rw [hn'] at e3 e5
              exact ⟨a, c, by rw [q1, e1, e3], e4, e5, q3⟩
          have HPD : Hid (∀ W, Calls Tryd.prog 11 #[.string t] W fun e w' => ∃ a c, e = .returned (.tuple #[.agg #[.int .i64 d', .int .i64 p', .int .i64 z', .slice a n' c], .int .i64 E']) ∧ NmL w' a l' ∧ w'.ownsRow W.heap.size 27 32 (.slice a n' c) n' (ivs l') ∧ Below W.heap.size W w') := fun W =>
            (decode17 t W (by unfold maxLen; omega)).mono fun e w' ⟨C, E, q1, q2, q3⟩ => by
              obtain ⟨e1, e2⟩ := hgen _ _ _ _ q2
              obtain ⟨a, c, e3, e4, e5⟩ := e2.shape hsz'
              rw [hn'] at e3 e5
              exact ⟨a, c, by rw [q1, e1, e3], e4, e5, q3⟩
          clear hgen hsz' hln' hn' hE'
          go_wp2_with fail
          refine (HRD.out wo).mono ?_
          rintro e W1 ⟨a1, c1, rfl, m1, o1, b1⟩
          have HR1 : Hid (NmL W1 a1 l' ∧ W1.ownsRow wo.heap.size 27 32 (.slice a1 n' c1) n' (ivs l') ∧ Below wo.heap.size wo W1) := ⟨m1, o1, b1⟩
          clear m1 o1 b1 HRD
          go_wp2_with (first
            | (refine wpList_store_new rfl 25 (.tmp 28) (.tmp 131) rfl #[.int .i64 d', .int .i64 p', .int .i64 z', .slice a1 n' c1] _ 25 W1.heap.size rfl rfl rfl HI4.out rfl (by simp [Value.oneCell']) ?_)
            | fail)
          refine (HPD.out _).mono ?_
          rintro e W2 ⟨a2, c2, rfl, m2, o2, b2⟩
          rw [al_size] at o2 b2
          have HR2 : Hid (NmL W2 a2 l' ∧ W2.ownsRow (W1.heap.size + 1) 27 32 (.slice a2 n' c2) n' (ivs l') ∧ Below (W1.heap.size + 1) (W1.alloc (.cells #[.int .i64 d', .int .i64 p', .int .i64 z', .slice a1 n' c1] 25)) W2) := ⟨m2, o2, b2⟩
          clear m2 o2 b2
          go_wp2_with (first
            | (refine wpList_store_new rfl 29 (.tmp 30) (.tmp 136) rfl #[.int .i64 d', .int .i64 p', .int .i64 z', .slice a2 n' c2] _ 29 W2.heap.size rfl rfl rfl HI4P.out rfl (by simp [Value.oneCell']) ?_)
            | fail)
          refine (HPD.out _).mono ?_
          rintro e W3 ⟨a3', c3', rfl, m3, o3, b3⟩
          rw [al_size] at o3 b3
          have HR3 : Hid (NmL W3 a3' l' ∧ W3.ownsRow (W2.heap.size + 1) 27 32 (.slice a3' n' c3') n' (ivs l') ∧ Below (W2.heap.size + 1) (W2.alloc (.cells #[.int .i64 d', .int .i64 p', .int .i64 z', .slice a2 n' c2] 29)) W3) := ⟨m3, o3, b3⟩
          clear m3 o3 b3 HPD
          have HE := LwE.mk17 HN'.out.1 HB.out HR1.out.1 HR1.out.2.1 HR1.out.2.2 HR2.out.1 HR2.out.2.1 HR2.out.2.2 HR3.out.1 HR3.out.2.1 HR3.out.2.2
          obtain ⟨W4, hW4⟩ : ∃ W, W3.alloc (.cells #[.int .i64 d', .int .i64 p', .int .i64 z', .slice a3' n' c3'] 29) = W := ⟨_, rfl⟩
          have HW4 : Hid (W3.alloc (.cells #[.int .i64 d', .int .i64 p', .int .i64 z', .slice a3' n' c3'] 29) = W4) := hW4
          rw [hW4] at HE
          obtain ⟨g1, hg1⟩ : ∃ g, W1.heap.size = g := ⟨_, rfl⟩
          obtain ⟨gg, hgg⟩ : ∃ g, W2.heap.size = g := ⟨_, rfl⟩
          obtain ⟨g3, hg3⟩ : ∃ g, W3.heap.size = g := ⟨_, rfl⟩
          have HG3 : Hid (W3.heap.size = g3) := hg3
          rw [hg1, hgg, hg3] at HE
          obtain ⟨B, hB⟩ : ∃ B, g1 + 1 = B := ⟨_, rfl⟩
          obtain ⟨T1, hT1⟩ : ∃ B, gg + 1 = B := ⟨_, rfl⟩
          rw [hB, hT1] at HE
          have HLE : Hid (LwE w d' p' z' l' n' a1 c1 g1 a2 c2 gg a3' c3' g3 B T1 W4) := HE
          clear HE HR1 HR2 HR3 hW4 hg3 hB hT1
          go_upto_region 22 with (first
            | (refine wpList_store_new rfl 29 (.tmp 32) (.tmp 141) rfl #[.int .i64 d', .int .i64 p', .int .i64 z', .slice a3' n' c3'] _ 29 W3.heap.size rfl rfl rfl HI4P.out rfl (by simp [Value.oneCell']) ?_; rw [HW4.out])
            | fail)
          try rw [hg1]
          try rw [hgg]
          try rw [HG3.out]
          clear hg1 hgg HG3 HW4
          have HAL : Hid (∀ W, LwE w d' p' z' l' n' a1 c1 g1 a2 c2 gg a3' c3' g3 B T1 W → Calls Tryd.prog 12 #[.agg #[.int .i64 d', .int .i64 p', .int .i64 z', .slice a2 n' c2], .agg #[.int .i64 d', .int .i64 p', .int .i64 z', .slice a1 n' c1]] W fun e w' => e = .returned (.bool true) ∧ LwE w d' p' z' l' n' a1 c1 g1 a2 c2 gg a3' c3' g3 B T1 w') := fun W hW =>
            (alike17 d' p' z' l' a2 a1 n' c2 c1 W hW.n2 hW.dd.n1 HN'.out.1 (by have := HN'.out.2.1; omega)).mono fun e w' ⟨q1, q2⟩ => ⟨q1, hW.next q2⟩
          have HAL3 : Hid (∀ W, LwE w d' p' z' l' n' a1 c1 g1 a2 c2 gg a3' c3' g3 B T1 W → Calls Tryd.prog 12 #[.agg #[.int .i64 d', .int .i64 p', .int .i64 z', .slice a3' n' c3'], .agg #[.int .i64 d', .int .i64 p', .int .i64 z', .slice a1 n' c1]] W fun e w' => e = .returned (.bool true) ∧ LwE w d' p' z' l' n' a1 c1 g1 a2 c2 gg a3' c3' g3 B T1 w') := fun W hW =>
            (alike17 d' p' z' l' a3' a1 n' c3' c1 W hW.dd.n3 hW.dd.n1 HN'.out.1 (by have := HN'.out.2.1; omega)).mono fun e w' ⟨q1, q2⟩ => ⟨q1, hW.next q2⟩
          have hB1 : ∀ W, LwE w d' p' z' l' n' a1 c1 g1 a2 c2 gg a3' c3' g3 B T1 W → Bk W g1 #[.int .i64 d', .int .i64 p', .int .i64 z', .slice a1 n' c1] 25 ∧ Bk W g3 #[.int .i64 d', .int .i64 p', .int .i64 z', .slice a3' n' c3'] 29 := fun W hW => by
            have q1 := hW.dd.b1
            have q3 := hW.dd.b3
            rw [hW.len] at q1 q3
            exact ⟨q1, q3⟩
          have HB1 : Hid (∀ W, LwE w d' p' z' l' n' a1 c1 g1 a2 c2 gg a3' c3' g3 B T1 W → Bk W g1 #[.int .i64 d', .int .i64 p', .int .i64 z', .slice a1 n' c1] 25 ∧ Bk W g3 #[.int .i64 d', .int .i64 p', .int .i64 z', .slice a3' n' c3'] 29) := hB1
          clear hB1
          go_wp2_with (first
            | (refine wpList_getG rfl 29 (.tmp 30) rfl gg 0 #[.int .i64 d', .int .i64 p', .int .i64 z', .slice a2 n' c2] #[.int .i64 d', .int .i64 p', .int .i64 z', .slice a2 n' c2] 29 _ rfl HLE.out.b2 (fun j v hv => by rw [Nat.zero_add]; exact hv) Tryd.underlying29 rfl HI4P.out ?_)
            | (refine wpList_getG rfl 25 (.tmp 28) rfl g1 0 #[.int .i64 d', .int .i64 p', .int .i64 z', .slice a1 n' c1] #[.int .i64 d', .int .i64 p', .int .i64 z', .slice a1 n' c1] 25 _ rfl (HB1.out _ HLE.out).1 (fun j v hv => by rw [Nat.zero_add]; exact hv) Tryd.underlying25 rfl HI4.out ?_)
            | fail)
          refine (HAL.out _ HLE.out).mono ?_
          rintro e W5 ⟨rfl, h5⟩
          have HL5 : Hid (LwE w d' p' z' l' n' a1 c1 g1 a2 c2 gg a3' c3' g3 B T1 W5) := h5
          clear h5 HLE HAL
          go_wp2_with (first
            | (refine wpList_getG rfl 29 (.tmp 32) rfl g3 0 #[.int .i64 d', .int .i64 p', .int .i64 z', .slice a3' n' c3'] #[.int .i64 d', .int .i64 p', .int .i64 z', .slice a3' n' c3'] 29 _ rfl (HB1.out _ HL5.out).2 (fun j v hv => by rw [Nat.zero_add]; exact hv) Tryd.underlying29 rfl HI4P.out ?_)
            | (refine wpList_getG rfl 25 (.tmp 28) rfl g1 0 #[.int .i64 d', .int .i64 p', .int .i64 z', .slice a1 n' c1] #[.int .i64 d', .int .i64 p', .int .i64 z', .slice a1 n' c1] 25 _ rfl (HB1.out _ HL5.out).1 (fun j v hv => by rw [Nat.zero_add]; exact hv) Tryd.underlying25 rfl HI4.out ?_)
            | fail)
          refine (HAL3.out _ HL5.out).mono ?_
          rintro e W6 ⟨rfl, h6⟩
          have HL6 : Hid (LwE w d' p' z' l' n' a1 c1 g1 a2 c2 gg a3' c3' g3 B T1 W6) := h6
          clear h6 HL5
          have y3 : W6.cell? ⟨gg, 3, none⟩ = some (.slice a2 n' c2) := by rw [HL6.out.b2.cell]; rfl
          have HS0 : Hid (SpV w W6 B T1 (.slice a2 n' c2) n' W6) := HL6.out.spoil
          go_wp2_with fail
          clear y3
          try simp only [Act.put]
          go_loopw [35] (fun v wr => ∃ j : Nat, v = .int .i64 j ∧ j ≤ n' ∧ Hid (SpV w W6 B T1 (.slice a2 n' c2) n' wr)) (fun v _ => n' - (intOf v).toNat)
          case atStart => exact ⟨0, rfl, by omega, HS0.out⟩
          case round =>
            clear HS0
            obtain ⟨j, rfl, hj, HS⟩ := hrel
            by_cases hjl : j < n'
            · have hjz : (j : Int) < (n' : Int) := by omega
              have hnb : n' ≤ 2097153 := HN'.out.2.1
              have hj0 : (0 : Int) ≤ (j : Int) := by omega
              obtain ⟨gs, cap, cur, hv, hbk, hmc, hcm, hcz⟩ := HS.out.blk (by omega)
              injection hv with hv1 hv2 hv3
              subst hv1
              subst hv3
              have hSP := HID.out ⟨#[115, 112, 111, 105, 108, 116]⟩ wr
              obtain ⟨sp, hsp⟩ : ∃ m, idF ⟨#[115, 112, 111, 105, 108, 116]⟩ = m := ⟨_, rfl⟩
              rw [hsp] at hSP
              have hspz : sp.size = 32 := by rw [← hsp]; exact idF_size _
              obtain ⟨SP, hSPe⟩ : ∃ M, idc sp = M := ⟨_, rfl⟩
              rw [hSPe] at hSP
              have HSPZ : Hid (SP.size = 32 ∧ SP.all (·.oneCell') = true ∧ (Tryd.prog.info? 27).map (·.size) = some SP.size) := by
                have : SP.size = 32 := by rw [← hSPe, idc_size]; exact hspz
                exact ⟨this, by rw [← hSPe]; exact idc_all17 sp, info_32 this⟩
              clear hsp hspz hSPe
              go_wp2_with fail
              refine hSP.mono ?_
              rintro e W7 ⟨rfl, hb7⟩
              have HS7 : Hid (SpV w W6 B T1 (.slice (some ⟨gs, 0, none⟩) n' c2) n' W7) := HS.out.call hb7
              have HK7 : Hid (Bk W7 gs cur 27 ∧ n' ≤ c2 ∧ c2 ≤ maxLen ∧ cur.size = c2 * 32) := ⟨hbk.below hb7 hbk.lt, hmc, hcm, hcz⟩
              clear hSP hb7 hbk hmc hcm hcz HS
              go_wp2_with (first
                | (refine wpList_put rfl 27 (.tmp 169) (.tmp 168) rfl gs (j * 32) cur SP 27 rfl rfl HK7.out.1 HSPZ.out.2.2 (by rw [HSPZ.out.1, HK7.out.2.2.2]; have := HK7.out.2.1; omega) HSPZ.out.2.1 ?_; intro W8 HB8 HG8 hsz8)
                | fail)
              have HS8 : Hid (SpV w W6 B T1 (.slice (some ⟨gs, 0, none⟩) n' c2) n' W8) := HS7.out.store HK7.out.2.1 HK7.out.2.2.1 (by rw [putC_size]; exact HK7.out.2.2.2) HB8.out HG8.out
              clear HB8 HG8 hsz8 HS7 HK7
              go_roundw
              case rel => exact ⟨j + 1, by go_num, by omega, HS8.out⟩
              case measure => simp [intOf]; omega
            · obtain rfl : j = n' := by omega
              have hjz : ¬ (j : Int) < (j : Int) := by omega
              go_wp2_with fail
              try simp only [Act.put]
              go_loopw [34, 36] (fun lv kv wr => ∃ (q : Nat) (vv : Value), vv = lv ∧ kv = .int .i64 q ∧ q ≤ 20 ∧ Hid (SpV w W6 B T1 vv (j + q) wr)) (fun _ kv _ => 20 - (intOf kv).toNat)
              case atStart => exact ⟨0, _, rfl, rfl, by omega, HS.out⟩
              case round =>
                clear HS
                obtain ⟨q, v, rfl, rfl, hq, HS⟩ := hrel
                by_cases hql : q < 20
                · have hqz : (q : Int) < 20 := by omega
                  have hSP := HID.out ⟨#[98, 101, 104, 105, 110, 100]⟩ wr
                  obtain ⟨sp, hsp⟩ : ∃ m, idF ⟨#[98, 101, 104, 105, 110, 100]⟩ = m := ⟨_, rfl⟩
                  rw [hsp] at hSP
                  have hspz : sp.size = 32 := by rw [← hsp]; exact idF_size _
                  obtain ⟨SP, hSPe⟩ : ∃ M, idc sp = M := ⟨_, rfl⟩
                  rw [hSPe] at hSP
                  have HSPZ : Hid (idc sp = SP ∧ SP.size = 32 ∧ sp.size = 32) := ⟨hSPe, by rw [← hSPe, idc_size]; exact hspz, hspz⟩
                  clear hsp hspz hSPe
                  go_wp2_with fail
                  refine hSP.mono ?_
                  rintro e W7 ⟨rfl, hb7⟩
                  have hS7 := HS.out.call hb7
                  have hbs := build1_17 SP HSPZ.out.2.1 W7
                  have hal : Below W7.heap.size W7 (W7.alloc (.cells SP 27)) := (Below.refl _ _).alloc (Nat.le_refl _) _
                  have hbk := bk_new W7 SP 27
                  have hS8 := hS7.call hal
                  obtain ⟨g9, cp9, W9, hr9, hS9⟩ := hS8.app (k := W7.heap.size) (x := sp) (Nat.le_trans HL6.out.Bs hS8.sz) HSPZ.out.2.2 (by rw [HSPZ.out.1]; exact hbk) (by have := HN'.out.2.1; omega)
                  have HS9 : Hid (SpV w W6 B T1 (.slice (some ⟨g9, 0, none⟩) (j + q + 1) cp9) (j + q + 1) W9) := hS9
                  obtain ⟨W8, hW8⟩ : ∃ W, W7.alloc (.cells SP 27) = W := ⟨_, rfl⟩
                  obtain ⟨gb, hgb⟩ : ∃ g, W7.heap.size = g := ⟨_, rfl⟩
                  rw [hW8, hgb] at hbs hr9
                  obtain ⟨v9, hv9⟩ : ∃ u, Value.slice (some ⟨g9, 0, none⟩) (j + q + 1) cp9 = u := ⟨_, rfl⟩
                  rw [hv9] at hr9 HS9
                  clear hSP hb7 hS7 hal hbk hS8 hS9 hW8 hgb hv9 HS
                  go_wp2_with (first
                    | (refine wpList_bsX rfl 23 (.tmp 175) rfl (.agg SP) (.slice (some ⟨gb, 0, none⟩) 1 1) W8 rfl hbs ?_)
                    | (refine wpList_appX rfl (.tmp 174) (.tmp 176) 23 23 rfl v (.slice (some ⟨gb, 0, none⟩) 1 1) v9 W9 rfl rfl hr9 ?_)
                    | fail)
                  clear hbs hr9
                  go_roundw
                  case rel => exact ⟨q + 1, v9, rfl, by go_num, by omega, HS9.out⟩
                  case measure => simp [intOf]; omega
                · obtain rfl : q = 20 := by omega
                  have hqz : ¬ (20 : Int) < 20 := by omega
                  obtain ⟨gs, cap, cur, rfl, _, _, _, _⟩ := HS.out.blk (by omega)
                  obtain ⟨n20, h20⟩ : ∃ n, j + 20 = n := ⟨_, rfl⟩
                  have h20z : ¬ (n20 : Int) < 20 := by omega
                  have hAF := HL6.out.after HS.out
                  have q1 := hAF.b1
                  have q3 := hAF.b3
                  rw [HN'.out.1] at q1 q3
                  have HAF : Hid (Bk wr g1 #[.int .i64 d', .int .i64 p', .int .i64 z', .slice a1 j c1] 25 ∧ Bk wr g3 #[.int .i64 d', .int .i64 p', .int .i64 z', .slice a3' j c3'] 29) := ⟨q1, q3⟩
                  have HAL : Hid (Calls Tryd.prog 12 #[.agg #[.int .i64 d', .int .i64 p', .int .i64 z', .slice a3' j c3'], .agg #[.int .i64 d', .int .i64 p', .int .i64 z', .slice a1 j c1]] wr fun e w' => e = .returned (.bool true) ∧ Below w.heap.size w w') :=
                    (alike17 d' p' z' l' a3' a1 j c3' c1 wr hAF.n3 hAF.n1 HN'.out.1 (by have := HN'.out.2.1; omega)).mono fun e w' ⟨r1, r2⟩ => ⟨r1, HS.out.bel.trans (r2.mono HS.out.bel.size)⟩
                  rw [h20]
                  clear hAF q1 q3 h20 HS
                  go_wp2_with (first
                    | (refine wpList_get rfl 29 (.tmp 32) rfl g3 0 #[.int .i64 d', .int .i64 p', .int .i64 z', .slice a3' j c3'] #[.int .i64 d', .int .i64 p', .int .i64 z', .slice a3' j c3'] 29 _ rfl HAF.out.2 (fun j v hv => by rw [Nat.zero_add]; exact hv) Tryd.underlying29 rfl HI4P.out ?_)
                    | (refine wpList_get rfl 25 (.tmp 28) rfl g1 0 #[.int .i64 d', .int .i64 p', .int .i64 z', .slice a1 j c1] #[.int .i64 d', .int .i64 p', .int .i64 z', .slice a1 j c1] 25 _ rfl HAF.out.1 (fun j v hv => by rw [Nat.zero_add]; exact hv) Tryd.underlying25 rfl HI4.out ?_)
                    | fail)
                  refine HAL.out.mono ?_
                  rintro e W10 ⟨rfl, h10⟩
                  have H10 : Hid (Below w.heap.size w W10) := h10
                  clear h10 HAL HAF
                  go_wp2
                  go_roundw
                  case rel => exact ⟨Wt, r + 1, rfl, by go_num, by omega, HWZ.out, H10.out⟩
                  case measure => simp [intOf]; omega
        · obtain rfl : r = 2 := by omega
          have hrz : ¬ (2 : Int) < 2 := by omega
          have HNR : Hid (∀ W, Calls Tryd.prog 13 #[.string name] W fun e w' => PnR name e ∧ Below W.heap.size W w') := fun W => rnamed17 name W
          have HNP : Hid (∀ W, Below w.heap.size w W → Calls Tryd.prog 14 #[.string name] W fun e w' => PnR name e ∧ Below W.heap.size W w') := fun W hW => named17 name W hnm (HA.out.below hW)
          have HIW : Hid (∀ u, Calls Tryd.prog 4 #[.string whole] u fun e w' => e = .returned (.agg (idc (idF whole))) ∧ Below u.heap.size u w') := fun u => HID.out whole u
          have HIS : Hid (∀ u, Calls Tryd.prog 4 #[.string sum] u fun e w' => e = .returned (.agg (idc (idF sum))) ∧ Below u.heap.size u w') := fun u => HID.out sum u
          have HNM : Hid (∀ W, Below w.heap.size w W → Calls Tryd.prog 15 #[.agg (idc (idF whole)), .agg (idc (idF sum))] W fun e w' => e = .returned (.string (pnN (idF whole) (idF sum))) ∧ Below W.heap.size W w') := fun W hW => name17 _ _ W (idF_size _) (idF_size _) (HA.out.below hW)
          have HRN : Hid (∀ W, Calls Tryd.prog 16 #[.agg (idc (idF whole)), .agg (idc (idF sum))] W fun e w' => e = .returned (.string (pnN (idF whole) (idF sum))) ∧ Below W.heap.size W w') := fun W => rname17 _ _ W (idF_size _) (idF_size _)
          obtain ⟨P, hP⟩ : ∃ P, idc (idF whole) = P := ⟨_, rfl⟩
          obtain ⟨Q, hQ⟩ : ∃ P, idc (idF sum) = P := ⟨_, rfl⟩
          obtain ⟨R, hR⟩ : ∃ P, pnN (idF whole) (idF sum) = P := ⟨_, rfl⟩
          rw [hP] at HIW
          rw [hQ] at HIS
          rw [hP, hQ, hR] at HNM HRN
          clear hP hQ hR HID hnm
          go_wp2_with fail
          refine (HNR.out _).mono ?_
          rintro e W1 ⟨hp, hb1⟩
          obtain ⟨x, y, E, hx, hy, rfl⟩ := pn_gen hp
          have HP : Hid (PnR name (.returned (.tuple #[.agg (idc x), .agg (idc y), .int .i64 E]))) := hp
          have hEX : ∀ u, (binOp .eql 27 (.agg (idc x)) (.agg (idc x))).run Tryd.prog u = .ok (.bool true) u := fun u => by rw [eql_ids x x hx hx]; simp
          have hEY : ∀ u, (binOp .eql 27 (.agg (idc y)) (.agg (idc y))).run Tryd.prog u = .ok (.bool true) u := fun u => by rw [eql_ids y y hy hy]; simp
          have hXs : (idc x).size = 32 := by rw [idc_size, hx]
          have hYs : (idc y).size = 32 := by rw [idc_size, hy]
          have hXa := idc_all17 x
          have hYa := idc_all17 y
          obtain ⟨X, hX⟩ : ∃ P, idc x = P := ⟨_, rfl⟩
          obtain ⟨Y, hY⟩ : ∃ P, idc y = P := ⟨_, rfl⟩
          rw [hX] at hEX hXs hXa
          rw [hY] at hEY hYs hYa
          rw [hX, hY] at HP
          rw [hX, hY]
          have HXY : Hid (X.size = 32 ∧ X.all (·.oneCell') = true ∧ Y.size = 32 ∧ Y.all (·.oneCell') = true) := ⟨hXs, hXa, hYs, hYa⟩
          have HB1 : Hid (Below w.heap.size w W1) := HB.out.trans (hb1.mono HB.out.size)
          have S1 : Hid (SU17 W1 z32c z32c ((W1.alloc (.cells z32c 27)).alloc (.cells z32c 27))) := by
            have := bk_new (W1.alloc (.cells z32c 27)) z32c 27
            rw [al_size] at this
            exact ⟨(bk_new _ _ _).alloc _, this, ((Below.refl _ _).alloc (Nat.le_refl _) _).alloc (by rw [al_size]; omega) _⟩
          clear hX hY hx hy hp hb1 hXs hXa hYs hYa HB HNR
          go_wp2_with (first
            | (refine wpList_stoX rfl 27 (.tmp 37) (.tmp 191) rfl W1.heap.size X z32c 27 rfl rfl S1.out.b2 (info_32 HXY.out.1) (by rw [HXY.out.1, z32c_size]) HXY.out.2.1 ?_; intro w7 HB7 HG7; have S2 : Hid (SU17 W1 X z32c w7) := S1.out.put2 HG7.out HB7.out)
            | (refine wpList_stoX rfl 27 (.tmp 38) (.tmp 192) rfl (W1.heap.size + 1) Y z32c 27 rfl rfl S2.out.b3 (info_32 HXY.out.2.2.1) (by rw [HXY.out.2.2.1, z32c_size]) HXY.out.2.2.2 ?_; intro w8 HB8 HG8; have S3 : Hid (SU17 W1 X Y w8) := S2.out.put3 HG8.out HB8.out)
            | fail)
          have HB8 : Hid (Below w.heap.size w w8) := HB1.out.trans (S3.out.bel.mono HB1.out.size)
          refine (HNP.out _ HB8.out).mono ?_
          rintro e W4 ⟨hp2, hb4⟩
          obtain rfl := HP.out.one hp2
          have S4 : Hid (SU17 W1 X Y W4 ∧ Below w.heap.size w W4) := ⟨S3.out.next hb4, HB8.out.trans (hb4.mono HB8.out.size)⟩
          have R1 : Hid (SU17 W4 z32c z32c ((W4.alloc (.cells z32c 27)).alloc (.cells z32c 27))) := by
            have := bk_new (W4.alloc (.cells z32c 27)) z32c 27
            rw [al_size] at this
            exact ⟨(bk_new _ _ _).alloc _, this, ((Below.refl _ _).alloc (Nat.le_refl _) _).alloc (by rw [al_size]; omega) _⟩
          clear hp2 hb4 S1 S2 S3 HB7 HG7 HG8 HB8 HNP
          go_upto_region 38 with (first
            | (refine wpList_stoX rfl 27 (.tmp 40) (.tmp 197) rfl W4.heap.size X z32c 27 rfl rfl R1.out.b2 (info_32 HXY.out.1) (by rw [HXY.out.1, z32c_size]) HXY.out.2.1 ?_; intro w9 HB9 HG9; have R2 : Hid (SU17 W4 X z32c w9) := R1.out.put2 HG9.out HB9.out)
            | (refine wpList_stoX rfl 27 (.tmp 41) (.tmp 198) rfl (W4.heap.size + 1) Y z32c 27 rfl rfl R2.out.b3 (info_32 HXY.out.2.2.1) (by rw [HXY.out.2.2.1, z32c_size]) HXY.out.2.2.2 ?_; intro w10 HB10 HG10; have R3 : Hid (SU17 W4 X Y w10) := R2.out.put3 HG10.out HB10.out)
            | fail)
          have S10 : Hid (SU17 W1 X Y w10 ∧ Below w.heap.size w w10) := ⟨S4.out.1.next R3.out.bel, S4.out.2.trans (R3.out.bel.mono S4.out.2.size)⟩
          clear R1 R2 S4 HB9 HG9 HB10 HG10
          have HIX : Hid ((Tryd.prog.info? 27).map (·.size) = some X.size ∧ (Tryd.prog.info? 27).map (·.size) = some Y.size) := ⟨info_32 HXY.out.1, info_32 HXY.out.2.2.1⟩
          go_wp2_with (first
            | (refine wpList_get rfl 27 (.tmp 37) rfl W1.heap.size 0 X X 27 _ rfl S10.out.1.b2 (fun j v hv => by rw [Nat.zero_add]; exact hv) Tryd.underlying27 rfl HIX.out.1 ?_)
            | (refine wpList_get rfl 27 (.tmp 40) rfl W4.heap.size 0 X X 27 _ rfl R3.out.b2 (fun j v hv => by rw [Nat.zero_add]; exact hv) Tryd.underlying27 rfl HIX.out.1 ?_)
            | (refine wpList_getG rfl 27 (.tmp 38) rfl (W1.heap.size + 1) 0 Y Y 27 _ rfl S10.out.1.b3 (fun j v hv => by rw [Nat.zero_add]; exact hv) Tryd.underlying27 rfl HIX.out.2 ?_)
            | (refine wpList_getG rfl 27 (.tmp 41) rfl (W4.heap.size + 1) 0 Y Y 27 _ rfl R3.out.b3 (fun j v hv => by rw [Nat.zero_add]; exact hv) Tryd.underlying27 rfl HIX.out.2 ?_)
            | fail)
          refine (HIW.out _).mono ?_
          rintro e W11 ⟨rfl, hb11⟩
          have HB11 : Hid (Below w.heap.size w W11) := S10.out.2.trans (hb11.mono S10.out.2.size)
          clear hb11 S10 R3 hEX hEY
          go_wp2_with fail
          refine (HIS.out _).mono ?_
          rintro e W12 ⟨rfl, hb12⟩
          have HB12 : Hid (Below w.heap.size w W12) := HB11.out.trans (hb12.mono HB11.out.size)
          clear hb12 HB11
          go_wp2_with fail
          refine (HNM.out _ HB12.out).mono ?_
          rintro e W13 ⟨rfl, hb13⟩
          have HB13 : Hid (Below w.heap.size w W13) := HB12.out.trans (hb13.mono HB12.out.size)
          clear hb13 HB12 HNM
          go_wp2_with fail
          refine (HIW.out _).mono ?_
          rintro e W14 ⟨rfl, hb14⟩
          have HB14 : Hid (Below w.heap.size w W14) := HB13.out.trans (hb14.mono HB13.out.size)
          clear hb14 HB13
          go_wp2_with fail
          refine (HIS.out _).mono ?_
          rintro e W15 ⟨rfl, hb15⟩
          have HB15 : Hid (Below w.heap.size w W15) := HB14.out.trans (hb15.mono HB14.out.size)
          clear hb15 HB14
          go_wp2_with fail
          refine (HRN.out _).mono ?_
          rintro e W16 ⟨rfl, hb16⟩
          have HB16 : Hid (Below w.heap.size w W16) := HB15.out.trans (hb16.mono HB15.out.size)
          clear hb16 HB15
          go_wp2
          go_ret
          exact ⟨rfl, HB16.out⟩
end Go.Proofs.YteccnnpialaalaaDoor
