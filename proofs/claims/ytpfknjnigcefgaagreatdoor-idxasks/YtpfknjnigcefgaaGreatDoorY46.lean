import Derived.Test.YtpfknjnigcefgaaGreatDoorY26
import Derived.Test.YtpfknjnigcefgaaGreatDoorY43
import Derived.Test.YtpfknjnigcefgaaGreatDoorY45
/- IdxAsks: the walk. -/
namespace Go.Proofs.YtpfknjnigcefgaaGreatDoor
open Go.RowKit
set_option linter.unusedSimpArgs false
set_option linter.unusedVariables false
/-- What both Fits tell, as one truth. -/
noncomputable def ftB (lb S : ByteArray) : Bool := @decide (∃ f g, IsLb lb f g ∧ uhS g = sb (sha (byl S))) (Classical.propDecidable _)
theorem FtS.is {lb S : ByteArray} {e : Ending} (h : FtS lb S e) : e = .returned (.bool (ftB lb S)) := by
  obtain ⟨b, rfl, h2⟩ := h
  have : b = ftB lb S := by
    rw [Bool.eq_iff_iff, h2]
    exact (@decide_eq_true_iff _ (Classical.propDecidable _)).symm
  rw [this]
/-- What Sums tells, whatever the label. -/
theorem z32_is : z32c = idc ⟨(List.replicate 32 (0 : UInt8)).toArray⟩ := by kernel_rfl
theorem SmI.form {lb : ByteArray} {e : Ending} (h : SmI lb e) : ∃ a b E, e = .returned (.tuple #[.agg (idc a), .agg (idc b), .int .i64 E]) ∧ a.size = 32 ∧ b.size = 32 ∧ ∀ e', SmI lb e' → e' = .returned (.tuple #[.agg (idc a), .agg (idc b), .int .i64 E]) := by
  rcases h with ⟨f, g, h1, rfl⟩ | ⟨h1, rfl⟩
  · obtain ⟨k1, k2, k3, k4⟩ := h1.uh
    refine ⟨uhS f, uhS g, 0, by rw [k3, k4], k1, k2, fun e' h' => ?_⟩
    rcases h' with ⟨f', g', q1, rfl⟩ | ⟨q1, _⟩
    · obtain ⟨rfl, rfl⟩ := q1.same h1
      rw [k3, k4]
    · exact absurd h1 (q1 f g)
  · refine ⟨_, _, 10, by rw [← z32_is], by decide, by decide, fun e' h' => ?_⟩
    rcases h' with ⟨f', g', q1, _⟩ | ⟨_, rfl⟩
    · exact absurd q1 (h1 f' g')
    · rw [← z32_is]
/-- The four names in memory. -/
structure QfS (w3 w7 : World) (A B : Array Value) (W : World) : Prop where
  k1 : Bk W w3.heap.size A 23
  k2 : Bk W (w3.heap.size + 1) B 23
  k3 : Bk W w7.heap.size A 23
  k4 : Bk W (w7.heap.size + 1) B 23
  bel : Below w3.heap.size w3 W
theorem QfS.next {w3 w7 W W' : World} {A B : Array Value} (h : QfS w3 w7 A B W) (hb : Below W.heap.size W W') : QfS w3 w7 A B W' := ⟨h.k1.below hb h.k1.lt, h.k2.below hb h.k2.lt, h.k3.below hb h.k3.lt, h.k4.below hb h.k4.lt, h.bel.trans (hb.mono h.bel.size)⟩
theorem inf_ask : (Tryz.prog.info? 40).map (·.size) = some 8 ∨ (Tryz.prog.info? 40).map (·.size) = some 4 := by first | (right; kernel_rfl) | (left; kernel_rfl)
set_option maxHeartbeats 32000000 in
set_option maxRecDepth 100000 in
theorem asks13 (S : ByteArray) (ai : Option Addr) (ni ci : Nat) (ids : List ByteArray) (ap : Option Addr) (np cp F : Nat) (lb : ByteArray) (w : World) (hS : S.size ≤ 140737488351232) (hlb : lb.size ≤ 140737488351232) (hni : NmL w ai ids) (hil : ids.length = ni) (hnp : IpL w ap np) (hF : F < 256) (hn1 : ni ≤ 1000000000000000) (hn2 : np ≤ 1000000000000000) (hA : All w) :
    Calls Tryz.prog 4 #[.string S, .agg #[.slice ai ni ci, .slice ap np cp, .int .u8 (F : Int), .string lb]] w fun e w' => e = .returned (.bool true) ∧ Below w.heap.size w w' := by
  obtain ⟨Z, hZ⟩ : ∃ Z : Array Value, #[.slice ai ni ci, .slice ap np cp, .int .u8 (F : Int), .string lb] = Z := ⟨_, rfl⟩
  have HZ : Hid (#[.slice ai ni ci, .slice ap np cp, .int .u8 (F : Int), .string lb] = Z) := hZ
  have HLB : Hid (lb.size ≤ 140737488351232) := hlb
  have HA : Hid (∀ W, Below w.heap.size w W → All W) := fun W hW => hA.below hW
  obtain ⟨X, hX⟩ : ∃ X, sb (sha (byl S)) = X := ⟨_, rfl⟩
  have HXX : Hid (sb (sha (byl S)) = X ∧ X.size = 32) := ⟨hX, by rw [← hX]; exact sha_size _⟩
  obtain ⟨t, ht⟩ : ∃ t, ftB lb S = t := ⟨_, rfl⟩
  have HFX : Hid (∀ W, All W → Calls Tryz.prog 16 #[.string lb, .string S] W fun e w' => e = .returned (.bool t) ∧ Below W.heap.size W w') := fun W hW => (fits13 lb S W hlb hS hW).mono fun e w' q => ⟨by rw [q.1.is, ht], q.2⟩
  have HFY : Hid (∀ W, Calls Tryz.prog 17 #[.string lb, .string S] W fun e w' => e = .returned (.bool t) ∧ Below W.heap.size W w') := fun W => (rfits13 lb S W hlb hS).mono fun e w' q => ⟨by rw [q.1.is, ht], q.2⟩
  have HQK : Hid (∀ W, Calls Tryz.prog 19 #[.string S] W fun e w' => e = .returned (.agg (idc X)) ∧ Below W.heap.size W w') := fun W => by rw [← hX]; exact quick_id11 S W hS
  obtain ⟨V, hV⟩ : ∃ V, w.alloc (.cells Z 40) = V := ⟨_, rfl⟩
  have HB0 : Hid (Bk V w.heap.size Z 40 ∧ Below w.heap.size w V) := by rw [← hV]; exact ⟨bk_new _ _ _, (Below.refl _ _).alloc (Nat.le_refl _) _⟩
  have HNI : Hid (∀ W, Below w.heap.size w W → NmL W ai ids ∧ IpL W ap np) := fun W hW => ⟨hni.below hW, hnp.below hW⟩
  have HAR : Hid (ids.length = ni ∧ F < 256 ∧ ni ≤ 1000000000000000 ∧ np ≤ 1000000000000000 ∧ S.size ≤ 140737488351232) := ⟨hil, hF, hn1, hn2, hS⟩
  have hz := zero_id
  rw [hZ]
  clear hZ hX ht hA hni hil hnp hF hn1 hn2 hlb hS
  go_enter Tryz.func4, Tryz.ntmps4
  go_wp2_with fail
  try rw [hV]
  clear hV
  refine (open_any S V (by have := HAR.out.2.2.2.2; omega)).mono ?_
  rintro e w1 ⟨hO1, hb1⟩
  have HB1 : Hid (Bk w1 w.heap.size Z 40 ∧ Below w.heap.size w w1) := ⟨HB0.out.1.below hb1 HB0.out.1.lt, HB0.out.2.trans (hb1.mono HB0.out.2.size)⟩
  clear hb1 HB0
  rcases hO1 with ⟨rfl, hno⟩ | ⟨gX, s, l, rfl, hix, hxs⟩
  · have HNO : Hid (∀ s l, ¬ IsIx S s l) := hno
    clear hno
    go_wp2_with fail
    refine (ropen_any S w1 (by have := HAR.out.2.2.2.2; omega)).mono ?_
    rintro e w2 ⟨hO2, hb2⟩
    have HB2' : Hid (Bk w2 w.heap.size Z 40 ∧ Below w.heap.size w w2) := ⟨HB1.out.1.below hb2 HB1.out.1.lt, HB1.out.2.trans (hb2.mono HB1.out.2.size)⟩
    have HB2 : Hid (Bk w2 w.heap.size #[.slice ai ni ci, .slice ap np cp, .int .u8 (F : Int), .string lb] 40 ∧ Below w.heap.size w w2) := by rw [HZ.out]; exact HB2'.out
    obtain rfl : e = .returned (.tuple #[.pointer none, .int .i64 4]) := by
      rcases hO2 with ⟨q, _⟩ | ⟨_, s, l, _, q, _⟩
      · exact q
      · exact absurd q (HNO.out s l)
    clear hO2 hb2 HB1 HB2'
    have HBX2 : Hid (∀ W, Below w2.heap.size w2 W → W.cell? ⟨w.heap.size, 3, none⟩ = some (.string lb)) := fun W hW => by rw [(HB2.out.1.below hW HB2.out.1.lt).cell]; rfl
    have cl2 := HBX2.out w2 (Below.refl _ _)
    have HA2 : Hid (∀ W, Below w2.heap.size w2 W → All W) := fun W hW => HA.out W (HB2.out.2.trans (hW.mono HB2.out.2.size))
    go_wp2_with fail
    refine (sums13 lb w2 HLB.out (HA2.out w2 (Below.refl _ _))).mono ?_
    rintro e w3 ⟨hSm, hb3⟩
    obtain ⟨a, b, E, rfl, ha32, hb32, hone⟩ := hSm.form
    have HONE : Hid (∀ e', SmI lb e' → e' = .returned (.tuple #[.agg (idc a), .agg (idc b), .int .i64 E])) := hone
    have H3 : Hid (Below w2.heap.size w2 w3) := hb3
    have S0 : Hid (SU w3 z32c z32c ((w3.alloc (.cells z32c 23)).alloc (.cells z32c 23))) := by
      have := bk_new (w3.alloc (.cells z32c 23)) z32c 23
      rw [al_size] at this
      exact ⟨(bk_new _ _ _).alloc _, this, ((Below.refl _ _).alloc (Nat.le_refl _) _).alloc (by rw [al_size]; omega) _⟩
    have HI : Hid ((Tryz.prog.info? 23).map (·.size) = some (idc a).size ∧ (idc a).all (·.oneCell') = true ∧ (idc a).size = 32 ∧ (Tryz.prog.info? 23).map (·.size) = some (idc b).size ∧ (idc b).all (·.oneCell') = true ∧ (idc b).size = 32) := ⟨info_32 (by rw [idc_size, ha32]), idc_allX _, by rw [idc_size, ha32], info_32 (by rw [idc_size, hb32]), idc_allX _, by rw [idc_size, hb32]⟩
    have HNA : Hid (∀ u, (binOp .neq 23 (.agg (idc a)) (.agg (idc a))).run Tryz.prog u = .ok (.bool false) u) := fun u => by rw [neq_ids a a ha32 ha32 u]; simp
    have HNB : Hid (∀ u, (binOp .neq 23 (.agg (idc b)) (.agg (idc b))).run Tryz.prog u = .ok (.bool false) u) := fun u => by rw [neq_ids b b hb32 hb32 u]; simp
    have HLX : Hid (∀ W, All W → Calls Tryz.prog 18 #[.agg (idc a), .agg (idc X)] W fun e w' => e = .returned (.string (ilb a X)) ∧ Below W.heap.size W w') := fun W hW => label13 a X W ha32 HXX.out.2 hW
    have HLY : Hid (∀ W, Calls Tryz.prog 20 #[.agg (idc a), .agg (idc X)] W fun e w' => e = .returned (.string (ilb a X)) ∧ Below W.heap.size W w') := fun W => rlabel13 a X W ha32 HXX.out.2
    obtain ⟨T, hT⟩ : ∃ T, ilb a X = T := ⟨_, rfl⟩
    obtain ⟨A, hA'⟩ : ∃ A, idc a = A := ⟨_, rfl⟩
    obtain ⟨B, hB'⟩ : ∃ B, idc b = B := ⟨_, rfl⟩
    rw [hA', hB'] at HI
    rw [hA', hB'] at HONE
    rw [hA'] at HNA
    rw [hB'] at HNB
    rw [hA', hT] at HLX HLY
    rw [hA', hB']
    clear hSm hb3 ha32 hb32 hone hT hA' hB' cl2
    go_wp2_with (first
      | (refine wpList_stoX rfl 23 (.tmp 9) (.tmp 39) rfl w3.heap.size A z32c 23 rfl rfl S0.out.b2 HI.out.1 (by rw [HI.out.2.2.1]; exact z32c_size) HI.out.2.1 ?_; intro w5 HB5 HG5; have S5 : Hid (SU w3 A z32c w5) := S0.out.put2 HG5.out HB5.out)
      | (refine wpList_stoX rfl 23 (.tmp 10) (.tmp 40) rfl (w3.heap.size + 1) B z32c 23 rfl rfl S5.out.b3 HI.out.2.2.2.1 (by rw [HI.out.2.2.2.2.2]; exact z32c_size) HI.out.2.2.2.2.1 ?_; intro w6 HB6 HG6; have S6 : Hid (SU w3 A B w6) := S5.out.put3 HG6.out HB6.out; have cl6 := HBX2.out w6 (H3.out.trans (S6.out.bel.mono H3.out.size)))
      | fail)
    refine (rsums13 lb w6 HLB.out).mono ?_
    rintro e w7 ⟨hSm, hb7⟩
    obtain rfl := HONE.out _ hSm
    have S7 : Hid (SU w3 A B w7) := S6.out.next hb7
    have T0 : Hid (SU w7 z32c z32c ((w7.alloc (.cells z32c 23)).alloc (.cells z32c 23))) := by
      have := bk_new (w7.alloc (.cells z32c 23)) z32c 23
      rw [al_size] at this
      exact ⟨(bk_new _ _ _).alloc _, this, ((Below.refl _ _).alloc (Nat.le_refl _) _).alloc (by rw [al_size]; omega) _⟩
    clear hSm hb7 HONE HB5 HG5 HB6 HG6 cl6 S5 S0 S6
    go_wp2_with (first
      | (refine wpList_stoX rfl 23 (.tmp 12) (.tmp 46) rfl w7.heap.size A z32c 23 rfl rfl T0.out.b2 HI.out.1 (by rw [HI.out.2.2.1]; exact z32c_size) HI.out.2.1 ?_; intro w8 HB8 HG8; have T5 : Hid (SU w7 A z32c w8) := T0.out.put2 HG8.out HB8.out)
      | (refine wpList_stoX rfl 23 (.tmp 13) (.tmp 47) rfl (w7.heap.size + 1) B z32c 23 rfl rfl T5.out.b3 HI.out.2.2.2.1 (by rw [HI.out.2.2.2.2.2]; exact z32c_size) HI.out.2.2.2.2.1 ?_; intro w9 HB9 HG9; have T6 : Hid (SU w7 A B w9) := T5.out.put3 HG9.out HB9.out)
      | fail)
    have Q9 : Hid (QfS w3 w7 A B w9) := ⟨S7.out.b2.below T6.out.bel S7.out.b2.lt, S7.out.b3.below T6.out.bel S7.out.b3.lt, T6.out.b2, T6.out.b3, S7.out.bel.trans (T6.out.bel.mono S7.out.bel.size)⟩
    clear HB8 HG8 HB9 HG9 T0 T5 T6 S7
    have QB : Hid (∀ W, QfS w3 w7 A B W → Below w2.heap.size w2 W) := fun W hW => H3.out.trans (hW.bel.mono H3.out.size)
    have CF : Hid (∀ W, QfS w3 w7 A B W → Calls Tryz.prog 16 #[.string lb, .string S] W fun e w' => e = .returned (.bool t) ∧ QfS w3 w7 A B w') := fun W hW => (HFX.out W (HA2.out W (QB.out W hW))).mono fun e w' q => ⟨q.1, hW.next q.2⟩
    have CG : Hid (∀ W, QfS w3 w7 A B W → Calls Tryz.prog 17 #[.string lb, .string S] W fun e w' => e = .returned (.bool t) ∧ QfS w3 w7 A B w') := fun W hW => (HFY.out W).mono fun e w' q => ⟨q.1, hW.next q.2⟩
    have CQ : Hid (∀ W, QfS w3 w7 A B W → Calls Tryz.prog 19 #[.string S] W fun e w' => e = .returned (.agg (idc X)) ∧ QfS w3 w7 A B w') := fun W hW => (HQK.out W).mono fun e w' q => ⟨q.1, hW.next q.2⟩
    have CL : Hid (∀ W, QfS w3 w7 A B W → Calls Tryz.prog 18 #[.agg A, .agg (idc X)] W fun e w' => e = .returned (.string T) ∧ QfS w3 w7 A B w') := fun W hW => (HLX.out W (HA2.out W (QB.out W hW))).mono fun e w' q => ⟨q.1, hW.next q.2⟩
    have CM : Hid (∀ W, QfS w3 w7 A B W → Calls Tryz.prog 20 #[.agg A, .agg (idc X)] W fun e w' => e = .returned (.string T) ∧ QfS w3 w7 A B w') := fun W hW => (HLY.out W).mono fun e w' q => ⟨q.1, hW.next q.2⟩
    have CC : Hid (∀ W, QfS w3 w7 A B W → W.cell? ⟨w.heap.size, 3, none⟩ = some (.string lb)) := fun W hW => HBX2.out W (QB.out W hW)
    have hNA := HNA.out
    have hNB := HNB.out
    go_wp2_with fail
    refine region_class10 (QfS w3 w7 A B) (by kernel_rfl) (by kernel_rfl) (Q9.out.next (Below.refl _ _).drew) ?_
    try simp only [Act.put, List.setIfInBounds_toArray, List.set_cons_zero, List.set_cons_succ]
    repeat (first
      | go_big_quiet_skip
      | (go_big_quiet_want
         first
           | (refine quiet_row 23 _ rfl (w3.heap.size) 0 A A 23 _ rfl (fun _ h => h.k1) (fun j v hv => by rw [Nat.zero_add]; exact hv) Tryz.underlying23 rfl HI.out.1 ?_; go_big_quiet_on; simp only [Act.put, List.setIfInBounds_toArray, List.set_cons_zero, List.set_cons_succ])
           | (refine quiet_row 23 _ rfl (w3.heap.size + 1) 0 B B 23 _ rfl (fun _ h => h.k2) (fun j v hv => by rw [Nat.zero_add]; exact hv) Tryz.underlying23 rfl HI.out.2.2.2.1 ?_; go_big_quiet_on; simp only [Act.put, List.setIfInBounds_toArray, List.set_cons_zero, List.set_cons_succ])
           | (refine quiet_row 23 _ rfl (w7.heap.size) 0 A A 23 _ rfl (fun _ h => h.k3) (fun j v hv => by rw [Nat.zero_add]; exact hv) Tryz.underlying23 rfl HI.out.1 ?_; go_big_quiet_on; simp only [Act.put, List.setIfInBounds_toArray, List.set_cons_zero, List.set_cons_succ])
           | (refine quiet_row 23 _ rfl (w7.heap.size + 1) 0 B B 23 _ rfl (fun _ h => h.k4) (fun j v hv => by rw [Nat.zero_add]; exact hv) Tryz.underlying23 rfl HI.out.2.2.2.1 ?_; go_big_quiet_on; simp only [Act.put, List.setIfInBounds_toArray, List.set_cons_zero, List.set_cons_succ])
           | (refine quiet_call10 (.bool t) 16 #[.string lb, .string S] ?_ ?_ ?_; (focus (intro W hW; go_simp; done)); (focus (intro W hW; exact CF.out W hW)); go_big_quiet_on; simp only [Act.put, List.setIfInBounds_toArray, List.set_cons_zero, List.set_cons_succ])
           | (refine quiet_call10 (.bool t) 17 #[.string lb, .string S] ?_ ?_ ?_; (focus (intro W hW; go_simp; done)); (focus (intro W hW; exact CG.out W hW)); go_big_quiet_on; simp only [Act.put, List.setIfInBounds_toArray, List.set_cons_zero, List.set_cons_succ])
           | (refine quiet_call10 (.string T) 18 #[.agg A, .agg (idc X)] ?_ ?_ ?_; (focus (intro W hW; go_simp; done)); (focus (intro W hW; exact CL.out W hW)); go_big_quiet_on; simp only [Act.put, List.setIfInBounds_toArray, List.set_cons_zero, List.set_cons_succ])
           | (refine quiet_call10 (.string T) 20 #[.agg A, .agg (idc X)] ?_ ?_ ?_; (focus (intro W hW; go_simp; done)); (focus (intro W hW; exact CM.out W hW)); go_big_quiet_on; simp only [Act.put, List.setIfInBounds_toArray, List.set_cons_zero, List.set_cons_succ])
           | (refine quiet_call10 (.agg (idc X)) 19 #[.string S] ?_ ?_ ?_; (focus (intro W hW; go_simp; done)); (focus (intro W hW; exact CQ.out W hW)); go_big_quiet_on; simp only [Act.put, List.setIfInBounds_toArray, List.set_cons_zero, List.set_cons_succ])
           | (refine quiet_one 9 _ rfl w.heap.size 3 (.string lb) rfl (fun _ => by kernel_rfl) (fun W hW => CC.out W hW) ?_; go_big_quiet_on; simp only [Act.put, List.setIfInBounds_toArray, List.set_cons_zero, List.set_cons_succ])
           | (refine quiet_val10 (.pointer (some ⟨w.heap.size, 3, none⟩)) ?_ ?_; (focus (intro W hW; go_simp; done)); go_big_quiet_on; simp only [Act.put, List.setIfInBounds_toArray, List.set_cons_zero, List.set_cons_succ])
           | (refine quiet_val10 (.bool false) ?_ ?_; (focus (intro W hW; go_simp; done)); go_big_quiet_on; simp only [Act.put, List.setIfInBounds_toArray, List.set_cons_zero, List.set_cons_succ])
           | (go_big_quiet_op; go_big_quiet_on)))
    refine wpQuiet_nil ?_
    intro w12 hw12
    have H12 : Hid (Below w2.heap.size w2 w12) := QB.out w12 hw12
    clear hw12 hNA hNB CF CG CQ CL CM CC QB Q9 HNA HNB HLX HLY HI H3
    go_wp2_with fail
    refine (ilen_nil w12).mono ?_
    rintro e w13 ⟨rfl, hw13⟩
    obtain rfl := hw13.symm
    go_wp2_with fail
    refine (awake13 w12).mono ?_
    rintro e w14 ⟨rfl, hb14⟩
    go_wp2
    go_ret
    have q := HB2.out.2.trans (H12.out.mono HB2.out.2.size)
    exact ⟨rfl, q.trans (hb14.mono q.size)⟩
  · have HIX : Hid (IsIx S s l ∧ IxS w1 gX s l) := ⟨hix, hxs⟩
    clear hix hxs
    go_wp2_with fail
    refine (ropen_any S w1 (by have := HAR.out.2.2.2.2; omega)).mono ?_
    rintro e w2 ⟨hO2, hb2⟩
    have HB2' : Hid (Bk w2 w.heap.size Z 40 ∧ Below w.heap.size w w2) := ⟨HB1.out.1.below hb2 HB1.out.1.lt, HB1.out.2.trans (hb2.mono HB1.out.2.size)⟩
    have HB2 : Hid (Bk w2 w.heap.size #[.slice ai ni ci, .slice ap np cp, .int .u8 (F : Int), .string lb] 40 ∧ Below w.heap.size w w2) := by rw [HZ.out]; exact HB2'.out
    obtain ⟨gY, rfl, hys⟩ : ∃ gY, e = .returned (.tuple #[.pointer (some ⟨gY, 0, none⟩), .int .i64 0]) ∧ RIx w2 gY s l := by
      rcases hO2 with ⟨_, q⟩ | ⟨gY, s', l', q1, q2, q3⟩
      · exact absurd HIX.out.1 (q s l)
      · obtain ⟨r1, r2⟩ := q2.take
        obtain ⟨r3, r4⟩ := HIX.out.1.take
        rw [r1] at r3
        rw [r2] at r4
        subst r3
        subst r4
        exact ⟨gY, q1, q3⟩
    have HXY : Hid (IxS w2 gX s l ∧ RIx w2 gY s l ∧ OkL l) := ⟨HIX.out.2.below hb2, hys, HIX.out.1.2.1⟩
    clear hO2 hb2 HB1 HB2' hys HIX
    have HBX2 : Hid (∀ W, Below w2.heap.size w2 W → W.cell? ⟨w.heap.size, 3, none⟩ = some (.string lb)) := fun W hW => by rw [(HB2.out.1.below hW HB2.out.1.lt).cell]; rfl
    have cl2 := HBX2.out w2 (Below.refl _ _)
    have HA2 : Hid (∀ W, Below w2.heap.size w2 W → All W) := fun W hW => HA.out W (HB2.out.2.trans (hW.mono HB2.out.2.size))
    go_wp2_with fail
    refine (sums13 lb w2 HLB.out (HA2.out w2 (Below.refl _ _))).mono ?_
    rintro e w3 ⟨hSm, hb3⟩
    obtain ⟨a, b, E, rfl, ha32, hb32, hone⟩ := hSm.form
    have HONE : Hid (∀ e', SmI lb e' → e' = .returned (.tuple #[.agg (idc a), .agg (idc b), .int .i64 E])) := hone
    have H3 : Hid (Below w2.heap.size w2 w3) := hb3
    have S0 : Hid (SU w3 z32c z32c ((w3.alloc (.cells z32c 23)).alloc (.cells z32c 23))) := by
      have := bk_new (w3.alloc (.cells z32c 23)) z32c 23
      rw [al_size] at this
      exact ⟨(bk_new _ _ _).alloc _, this, ((Below.refl _ _).alloc (Nat.le_refl _) _).alloc (by rw [al_size]; omega) _⟩
    have HI : Hid ((Tryz.prog.info? 23).map (·.size) = some (idc a).size ∧ (idc a).all (·.oneCell') = true ∧ (idc a).size = 32 ∧ (Tryz.prog.info? 23).map (·.size) = some (idc b).size ∧ (idc b).all (·.oneCell') = true ∧ (idc b).size = 32) := ⟨info_32 (by rw [idc_size, ha32]), idc_allX _, by rw [idc_size, ha32], info_32 (by rw [idc_size, hb32]), idc_allX _, by rw [idc_size, hb32]⟩
    have HNA : Hid (∀ u, (binOp .neq 23 (.agg (idc a)) (.agg (idc a))).run Tryz.prog u = .ok (.bool false) u) := fun u => by rw [neq_ids a a ha32 ha32 u]; simp
    have HNB : Hid (∀ u, (binOp .neq 23 (.agg (idc b)) (.agg (idc b))).run Tryz.prog u = .ok (.bool false) u) := fun u => by rw [neq_ids b b hb32 hb32 u]; simp
    have HLX : Hid (∀ W, All W → Calls Tryz.prog 18 #[.agg (idc a), .agg (idc X)] W fun e w' => e = .returned (.string (ilb a X)) ∧ Below W.heap.size W w') := fun W hW => label13 a X W ha32 HXX.out.2 hW
    have HLY : Hid (∀ W, Calls Tryz.prog 20 #[.agg (idc a), .agg (idc X)] W fun e w' => e = .returned (.string (ilb a X)) ∧ Below W.heap.size W w') := fun W => rlabel13 a X W ha32 HXX.out.2
    obtain ⟨T, hT⟩ : ∃ T, ilb a X = T := ⟨_, rfl⟩
    obtain ⟨A, hA'⟩ : ∃ A, idc a = A := ⟨_, rfl⟩
    obtain ⟨B, hB'⟩ : ∃ B, idc b = B := ⟨_, rfl⟩
    rw [hA', hB'] at HI
    rw [hA', hB'] at HONE
    rw [hA'] at HNA
    rw [hB'] at HNB
    rw [hA', hT] at HLX HLY
    rw [hA', hB']
    clear hSm hb3 ha32 hb32 hone hT hA' hB' cl2
    go_wp2_with (first
      | (refine wpList_stoX rfl 23 (.tmp 9) (.tmp 39) rfl w3.heap.size A z32c 23 rfl rfl S0.out.b2 HI.out.1 (by rw [HI.out.2.2.1]; exact z32c_size) HI.out.2.1 ?_; intro w5 HB5 HG5; have S5 : Hid (SU w3 A z32c w5) := S0.out.put2 HG5.out HB5.out)
      | (refine wpList_stoX rfl 23 (.tmp 10) (.tmp 40) rfl (w3.heap.size + 1) B z32c 23 rfl rfl S5.out.b3 HI.out.2.2.2.1 (by rw [HI.out.2.2.2.2.2]; exact z32c_size) HI.out.2.2.2.2.1 ?_; intro w6 HB6 HG6; have S6 : Hid (SU w3 A B w6) := S5.out.put3 HG6.out HB6.out; have cl6 := HBX2.out w6 (H3.out.trans (S6.out.bel.mono H3.out.size)))
      | fail)
    refine (rsums13 lb w6 HLB.out).mono ?_
    rintro e w7 ⟨hSm, hb7⟩
    obtain rfl := HONE.out _ hSm
    have S7 : Hid (SU w3 A B w7) := S6.out.next hb7
    have T0 : Hid (SU w7 z32c z32c ((w7.alloc (.cells z32c 23)).alloc (.cells z32c 23))) := by
      have := bk_new (w7.alloc (.cells z32c 23)) z32c 23
      rw [al_size] at this
      exact ⟨(bk_new _ _ _).alloc _, this, ((Below.refl _ _).alloc (Nat.le_refl _) _).alloc (by rw [al_size]; omega) _⟩
    clear hSm hb7 HONE HB5 HG5 HB6 HG6 cl6 S5 S0 S6
    go_wp2_with (first
      | (refine wpList_stoX rfl 23 (.tmp 12) (.tmp 46) rfl w7.heap.size A z32c 23 rfl rfl T0.out.b2 HI.out.1 (by rw [HI.out.2.2.1]; exact z32c_size) HI.out.2.1 ?_; intro w8 HB8 HG8; have T5 : Hid (SU w7 A z32c w8) := T0.out.put2 HG8.out HB8.out)
      | (refine wpList_stoX rfl 23 (.tmp 13) (.tmp 47) rfl (w7.heap.size + 1) B z32c 23 rfl rfl T5.out.b3 HI.out.2.2.2.1 (by rw [HI.out.2.2.2.2.2]; exact z32c_size) HI.out.2.2.2.2.1 ?_; intro w9 HB9 HG9; have T6 : Hid (SU w7 A B w9) := T5.out.put3 HG9.out HB9.out)
      | fail)
    have Q9 : Hid (QfS w3 w7 A B w9) := ⟨S7.out.b2.below T6.out.bel S7.out.b2.lt, S7.out.b3.below T6.out.bel S7.out.b3.lt, T6.out.b2, T6.out.b3, S7.out.bel.trans (T6.out.bel.mono S7.out.bel.size)⟩
    clear HB8 HG8 HB9 HG9 T0 T5 T6 S7
    have QB : Hid (∀ W, QfS w3 w7 A B W → Below w2.heap.size w2 W) := fun W hW => H3.out.trans (hW.bel.mono H3.out.size)
    have CF : Hid (∀ W, QfS w3 w7 A B W → Calls Tryz.prog 16 #[.string lb, .string S] W fun e w' => e = .returned (.bool t) ∧ QfS w3 w7 A B w') := fun W hW => (HFX.out W (HA2.out W (QB.out W hW))).mono fun e w' q => ⟨q.1, hW.next q.2⟩
    have CG : Hid (∀ W, QfS w3 w7 A B W → Calls Tryz.prog 17 #[.string lb, .string S] W fun e w' => e = .returned (.bool t) ∧ QfS w3 w7 A B w') := fun W hW => (HFY.out W).mono fun e w' q => ⟨q.1, hW.next q.2⟩
    have CQ : Hid (∀ W, QfS w3 w7 A B W → Calls Tryz.prog 19 #[.string S] W fun e w' => e = .returned (.agg (idc X)) ∧ QfS w3 w7 A B w') := fun W hW => (HQK.out W).mono fun e w' q => ⟨q.1, hW.next q.2⟩
    have CL : Hid (∀ W, QfS w3 w7 A B W → Calls Tryz.prog 18 #[.agg A, .agg (idc X)] W fun e w' => e = .returned (.string T) ∧ QfS w3 w7 A B w') := fun W hW => (HLX.out W (HA2.out W (QB.out W hW))).mono fun e w' q => ⟨q.1, hW.next q.2⟩
    have CM : Hid (∀ W, QfS w3 w7 A B W → Calls Tryz.prog 20 #[.agg A, .agg (idc X)] W fun e w' => e = .returned (.string T) ∧ QfS w3 w7 A B w') := fun W hW => (HLY.out W).mono fun e w' q => ⟨q.1, hW.next q.2⟩
    have CC : Hid (∀ W, QfS w3 w7 A B W → W.cell? ⟨w.heap.size, 3, none⟩ = some (.string lb)) := fun W hW => HBX2.out W (QB.out W hW)
    have hNA := HNA.out
    have hNB := HNB.out
    go_wp2_with fail
    refine region_class10 (QfS w3 w7 A B) (by kernel_rfl) (by kernel_rfl) (Q9.out.next (Below.refl _ _).drew) ?_
    try simp only [Act.put, List.setIfInBounds_toArray, List.set_cons_zero, List.set_cons_succ]
    repeat (first
      | go_big_quiet_skip
      | (go_big_quiet_want
         first
           | (refine quiet_row 23 _ rfl (w3.heap.size) 0 A A 23 _ rfl (fun _ h => h.k1) (fun j v hv => by rw [Nat.zero_add]; exact hv) Tryz.underlying23 rfl HI.out.1 ?_; go_big_quiet_on; simp only [Act.put, List.setIfInBounds_toArray, List.set_cons_zero, List.set_cons_succ])
           | (refine quiet_row 23 _ rfl (w3.heap.size + 1) 0 B B 23 _ rfl (fun _ h => h.k2) (fun j v hv => by rw [Nat.zero_add]; exact hv) Tryz.underlying23 rfl HI.out.2.2.2.1 ?_; go_big_quiet_on; simp only [Act.put, List.setIfInBounds_toArray, List.set_cons_zero, List.set_cons_succ])
           | (refine quiet_row 23 _ rfl (w7.heap.size) 0 A A 23 _ rfl (fun _ h => h.k3) (fun j v hv => by rw [Nat.zero_add]; exact hv) Tryz.underlying23 rfl HI.out.1 ?_; go_big_quiet_on; simp only [Act.put, List.setIfInBounds_toArray, List.set_cons_zero, List.set_cons_succ])
           | (refine quiet_row 23 _ rfl (w7.heap.size + 1) 0 B B 23 _ rfl (fun _ h => h.k4) (fun j v hv => by rw [Nat.zero_add]; exact hv) Tryz.underlying23 rfl HI.out.2.2.2.1 ?_; go_big_quiet_on; simp only [Act.put, List.setIfInBounds_toArray, List.set_cons_zero, List.set_cons_succ])
           | (refine quiet_call10 (.bool t) 16 #[.string lb, .string S] ?_ ?_ ?_; (focus (intro W hW; go_simp; done)); (focus (intro W hW; exact CF.out W hW)); go_big_quiet_on; simp only [Act.put, List.setIfInBounds_toArray, List.set_cons_zero, List.set_cons_succ])
           | (refine quiet_call10 (.bool t) 17 #[.string lb, .string S] ?_ ?_ ?_; (focus (intro W hW; go_simp; done)); (focus (intro W hW; exact CG.out W hW)); go_big_quiet_on; simp only [Act.put, List.setIfInBounds_toArray, List.set_cons_zero, List.set_cons_succ])
           | (refine quiet_call10 (.string T) 18 #[.agg A, .agg (idc X)] ?_ ?_ ?_; (focus (intro W hW; go_simp; done)); (focus (intro W hW; exact CL.out W hW)); go_big_quiet_on; simp only [Act.put, List.setIfInBounds_toArray, List.set_cons_zero, List.set_cons_succ])
           | (refine quiet_call10 (.string T) 20 #[.agg A, .agg (idc X)] ?_ ?_ ?_; (focus (intro W hW; go_simp; done)); (focus (intro W hW; exact CM.out W hW)); go_big_quiet_on; simp only [Act.put, List.setIfInBounds_toArray, List.set_cons_zero, List.set_cons_succ])
           | (refine quiet_call10 (.agg (idc X)) 19 #[.string S] ?_ ?_ ?_; (focus (intro W hW; go_simp; done)); (focus (intro W hW; exact CQ.out W hW)); go_big_quiet_on; simp only [Act.put, List.setIfInBounds_toArray, List.set_cons_zero, List.set_cons_succ])
           | (refine quiet_one 9 _ rfl w.heap.size 3 (.string lb) rfl (fun _ => by kernel_rfl) (fun W hW => CC.out W hW) ?_; go_big_quiet_on; simp only [Act.put, List.setIfInBounds_toArray, List.set_cons_zero, List.set_cons_succ])
           | (refine quiet_val10 (.pointer (some ⟨w.heap.size, 3, none⟩)) ?_ ?_; (focus (intro W hW; go_simp; done)); go_big_quiet_on; simp only [Act.put, List.setIfInBounds_toArray, List.set_cons_zero, List.set_cons_succ])
           | (refine quiet_val10 (.bool false) ?_ ?_; (focus (intro W hW; go_simp; done)); go_big_quiet_on; simp only [Act.put, List.setIfInBounds_toArray, List.set_cons_zero, List.set_cons_succ])
           | (go_big_quiet_op; go_big_quiet_on)))
    refine wpQuiet_nil ?_
    intro w12 hw12
    have H12 : Hid (Below w2.heap.size w2 w12) := QB.out w12 hw12
    clear hw12 hNA hNB CF CG CQ CL CM CC QB Q9 HNA HNB HLX HLY HI H3
    have HBZ : Hid (Bk w12 w.heap.size Z 40) := by rw [← HZ.out]; exact HB2.out.1.below H12.out HB2.out.1.lt
    have HIZ : Hid ((Tryz.prog.info? 40).map (·.size) = some Z.size) := by show _ = _; rw [← HZ.out]; kernel_rfl
    have HB12 : Hid (Below w.heap.size w w12) := HB2.out.2.trans (H12.out.mono HB2.out.2.size)
    have HAS : Hid (Calls Tryz.prog 22 #[.pointer (some ⟨gX, 0, none⟩), .pointer (some ⟨gY, 0, none⟩), .agg Z] w12 fun e w' => e = .returned (.bool true) ∧ Below w12.heap.size w12 w') := by
      rw [← HZ.out]
      exact asked13 gX gY s l ai ni ci ids ap np cp F lb w12 (HXY.out.1.below H12.out) HXY.out.2.2 (HXY.out.2.1.below H12.out) (HNI.out w12 HB12.out).1 HAR.out.1 (HNI.out w12 HB12.out).2 HAR.out.2.1 HAR.out.2.2.1 HAR.out.2.2.2.1
    go_wp2_with (first
      | (refine wpList_get rfl 40 (.tmp 3) rfl w.heap.size 0 Z Z 40 _ rfl HBZ.out (fun j v hv => by rw [Nat.zero_add]; exact hv) Tryz.underlying40 rfl HIZ.out ?_)
      | fail)
    refine HAS.out.mono ?_
    rintro e w13 ⟨rfl, hb13⟩
    have H13 : Hid (Below w.heap.size w w13) := HB12.out.trans (hb13.mono HB12.out.size)
    clear hb13 HAS
    go_wp2_with fail
    refine (awake13 w13).mono ?_
    rintro e w14 ⟨rfl, hb14⟩
    go_wp2
    go_ret
    exact ⟨rfl, H13.out.trans (hb14.mono H13.out.size)⟩
end Go.Proofs.YtpfknjnigcefgaaGreatDoor
