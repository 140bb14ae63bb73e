import Derived.Test.YtbdkacfpeokggaaGreatDoorY13
import Derived.Test.YtbdkacfpeokggaaGreatDoorChecked
import Derived.Shelf.Strings.Builder1
import Derived.Lib.OthersKept
import Derived.WalkKit
import Derived.BigCall
import Derived.Shelf.Strings.BuilderK
import Derived.OwnWalk
import Derived.Shelf.Strings.Builder2
import Derived.Test.YtbdkacfpeokggaaGreatDoorY5
import Derived.Test.YtbdkacfpeokggaaGreatDoorY3
import Derived.Test.YtbdkacfpeokggaaGreatDoorY12
/- idx.Sums. -/
namespace Go.Proofs.YtbdkacfpeokggaaGreatDoor
open Go.RowKit
set_option linter.unusedSimpArgs false
set_option linter.unusedVariables false
set_option maxHeartbeats 4000000 in
set_option maxRecDepth 100000 in
theorem sums13 (s : ByteArray) (w : World) (hs : s.size ≤ 140737488351232) (hA : All w) :
    Calls Tryz.prog 15 #[.string s] w fun e w' => SmI s e ∧ Below w.heap.size w w' := by
  have HA : Hid (All w) := hA
  have h1 : (⟨#[105, 100, 120, 45]⟩ : ByteArray) = xF := rfl
  have h3 : (⟨#[46, 105, 120]⟩ : ByteArray) = xE := rfl
  have hz := zero_id
  have hbz : ∀ w, (Instr.build 23 #[]).run Tryz.prog w = .ok (.agg z32c) w := fun w => by kernel_rfl
  have z1 := cpX_size s xF
  have z2 := csX_size (cpX s xF) xE
  obtain ⟨d1, hd1⟩ : ∃ d, cpX s xF = d := ⟨_, rfl⟩
  obtain ⟨p1, hp1⟩ : ∃ p, pfB s xF = p := ⟨_, rfl⟩
  obtain ⟨d2, hd2⟩ : ∃ d, csX d1 xE = d := ⟨_, rfl⟩
  obtain ⟨p2, hp2⟩ : ∃ p, sfB d1 xE = p := ⟨_, rfl⟩
  have HP : Hid (∀ W, Calls Tryz.prog 46 #[.string s, .string xF] W fun e w' => e = .returned (.tuple #[.string d1, .bool p1]) ∧ w' = W) := fun W => by rw [← hd1, ← hp1]; exact cutP s xF W (by omega) (by decide)
  have HS : Hid (∀ W, Calls Tryz.prog 47 #[.string d1, .string xE] W fun e w' => e = .returned (.tuple #[.string d2, .bool p2]) ∧ w' = W) := fun W => by rw [← hd2, ← hp2]; exact cutS d1 xE W (by rw [← hd1]; omega) (by decide)
  have hz2 : d2.size ≤ 140737488351232 := by rw [← hd2, ← hd1]; omega
  have HC : Hid (∀ W, Calls Tryz.prog 48 #[.string d2, .string ⟨#[45]⟩] W fun e w' => CutD d2 e ∧ Below W.heap.size W w') := fun W => cutD d2 W (by omega)
  -- what must hold of a label
  have HNO : Hid ((p1 = false ∨ p2 = false ∨ (45 : UInt8) ∉ bl d2) → ∀ f g, ¬ IsLb s f g) := fun h f g hl => by
    obtain ⟨q1, q2, q3⟩ := lbI_parts f g
    rw [← hl.1] at q1 q2 q3
    rw [hp1] at q1
    rw [hd1, hp2] at q2
    rw [hd1, hd2] at q3
    rcases h with h | h | h
    · rw [h] at q1; cases q1
    · rw [h] at q2; cases q2
    · apply h
      rw [q3, bl_append, bl_append]
      simp [xD, bl]
  have HYES : Hid (p1 = true → p2 = true → ∀ i, i < d2.size → (45 : UInt8) ∉ (bl d2).take i → (bl d2)[i]? = some 45 → s = lbI (d2.extract 0 i) (d2.extract (i + 1) d2.size) ∧ ∀ f g, IsLb s f g → f = d2.extract 0 i ∧ g = d2.extract (i + 1) d2.size) := fun q1 q2 i hi h4 h5 => by
    have e := lbI_of (s := s) (d := d2) (i := i) (by rw [hp1]; exact q1) (by rw [hd1, hp2]; exact q2) (by rw [hd1]; exact hd2) h5 hi
    refine ⟨e, fun f g hl => ?_⟩
    exact lbI_one (hl.1.symm.trans e) hl.dash (by rw [extract_take _ _ (by omega)]; exact h4)
  have HPA : Hid (∀ t W, t.size ≤ 140737488351232 → All W → Calls Tryz.prog 49 #[.string t] W fun e w' => e = .returned (.tuple #[.agg (prA t), .int .i64 (prE t)]) ∧ Below W.heap.size W w') := fun t W ht hW => parse11 t W ht hW
  have S0 : Hid (SU w z32c z32c ((w.alloc (.cells z32c 23)).alloc (.cells z32c 23))) := by
    have := bk_new (w.alloc (.cells z32c 23)) z32c 23
    rw [al_size] at this
    exact ⟨(bk_new _ _ _).alloc _, this, ((Below.refl _ _).alloc (Nat.le_refl _) _).alloc (by rw [al_size]; omega) _⟩
  clear hA hd1 hp1 hd2 hp2 z1 z2
  go_enter Tryz.func15, Tryz.ntmps15
  go_wp2_with (first
    | (go_at_call 46; refine (HP.out _).mono ?_; rintro e w1 ⟨rfl, hw⟩; obtain rfl := hw.symm)
    | (go_at_call 47; refine (HS.out _).mono ?_; rintro e w1 ⟨rfl, hw⟩; obtain rfl := hw.symm)
    | fail)
  refine (HC.out _).mono ?_
  rintro e w3 ⟨hC, hb3⟩
  have S3 : Hid (SU w z32c z32c w3) := S0.out.next hb3
  clear hb3 S0 HC HP HS
  rcases hC with ⟨rfl, hn⟩ | ⟨i, hi, rfl, hn1, hn2⟩
  · have HN : Hid (∀ f g, ¬ IsLb s f g) := HNO.out (.inr (.inr hn))
    clear hn HNO HYES
    cases p1 <;> cases p2
    · go_wp2_with (first
        | (refine wpList_bdX0 rfl 23 rfl (.agg z32c) (hbz _) ?_)
        | (refine wpList_stoX rfl 23 (.tmp 2) (.tmp 39) rfl w.heap.size z32c z32c 23 rfl rfl S3.out.b2 (info_32 z32c_size) rfl z32c_one ?_; intro w7 HB7 HG7; have S7 : Hid (SU w z32c z32c w7) := S3.out.put2 HG7.out HB7.out)
        | (refine wpList_stoX rfl 23 (.tmp 3) (.tmp 40) rfl (w.heap.size + 1) z32c z32c 23 rfl rfl S7.out.b3 (info_32 z32c_size) rfl z32c_one ?_; intro w8 HB8 HG8; have S8 : Hid (SU w z32c z32c w8) := S7.out.put3 HG8.out HB8.out)
        | fail)
      refine bodyPost_ret (results_cct rfl _ _ w.heap.size (w.heap.size + 1) 23 z32c z32c (0, 0) _ rfl rfl S8.out.b2 S8.out.b3 Tryz.underlying23 rfl (info_32 z32c_size) (info_32 z32c_size)) rfl ⟨.inr ⟨HN.out, rfl⟩, S8.out.bel⟩
    · go_wp2_with (first
        | (refine wpList_bdX0 rfl 23 rfl (.agg z32c) (hbz _) ?_)
        | (refine wpList_stoX rfl 23 (.tmp 2) (.tmp 39) rfl w.heap.size z32c z32c 23 rfl rfl S3.out.b2 (info_32 z32c_size) rfl z32c_one ?_; intro w7 HB7 HG7; have S7 : Hid (SU w z32c z32c w7) := S3.out.put2 HG7.out HB7.out)
        | (refine wpList_stoX rfl 23 (.tmp 3) (.tmp 40) rfl (w.heap.size + 1) z32c z32c 23 rfl rfl S7.out.b3 (info_32 z32c_size) rfl z32c_one ?_; intro w8 HB8 HG8; have S8 : Hid (SU w z32c z32c w8) := S7.out.put3 HG8.out HB8.out)
        | fail)
      refine bodyPost_ret (results_cct rfl _ _ w.heap.size (w.heap.size + 1) 23 z32c z32c (0, 0) _ rfl rfl S8.out.b2 S8.out.b3 Tryz.underlying23 rfl (info_32 z32c_size) (info_32 z32c_size)) rfl ⟨.inr ⟨HN.out, rfl⟩, S8.out.bel⟩
    · go_wp2_with (first
        | (refine wpList_bdX0 rfl 23 rfl (.agg z32c) (hbz _) ?_)
        | (refine wpList_stoX rfl 23 (.tmp 2) (.tmp 39) rfl w.heap.size z32c z32c 23 rfl rfl S3.out.b2 (info_32 z32c_size) rfl z32c_one ?_; intro w7 HB7 HG7; have S7 : Hid (SU w z32c z32c w7) := S3.out.put2 HG7.out HB7.out)
        | (refine wpList_stoX rfl 23 (.tmp 3) (.tmp 40) rfl (w.heap.size + 1) z32c z32c 23 rfl rfl S7.out.b3 (info_32 z32c_size) rfl z32c_one ?_; intro w8 HB8 HG8; have S8 : Hid (SU w z32c z32c w8) := S7.out.put3 HG8.out HB8.out)
        | fail)
      refine bodyPost_ret (results_cct rfl _ _ w.heap.size (w.heap.size + 1) 23 z32c z32c (0, 0) _ rfl rfl S8.out.b2 S8.out.b3 Tryz.underlying23 rfl (info_32 z32c_size) (info_32 z32c_size)) rfl ⟨.inr ⟨HN.out, rfl⟩, S8.out.bel⟩
    · go_wp2_with (first
        | (refine wpList_bdX0 rfl 23 rfl (.agg z32c) (hbz _) ?_)
        | (refine wpList_stoX rfl 23 (.tmp 2) (.tmp 39) rfl w.heap.size z32c z32c 23 rfl rfl S3.out.b2 (info_32 z32c_size) rfl z32c_one ?_; intro w7 HB7 HG7; have S7 : Hid (SU w z32c z32c w7) := S3.out.put2 HG7.out HB7.out)
        | (refine wpList_stoX rfl 23 (.tmp 3) (.tmp 40) rfl (w.heap.size + 1) z32c z32c 23 rfl rfl S7.out.b3 (info_32 z32c_size) rfl z32c_one ?_; intro w8 HB8 HG8; have S8 : Hid (SU w z32c z32c w8) := S7.out.put3 HG8.out HB8.out)
        | fail)
      refine bodyPost_ret (results_cct rfl _ _ w.heap.size (w.heap.size + 1) 23 z32c z32c (0, 0) _ rfl rfl S8.out.b2 S8.out.b3 Tryz.underlying23 rfl (info_32 z32c_size) (info_32 z32c_size)) rfl ⟨.inr ⟨HN.out, rfl⟩, S8.out.bel⟩
  · obtain ⟨f, hf⟩ : ∃ f, d2.extract 0 i = f := ⟨_, rfl⟩
    obtain ⟨g, hg⟩ : ∃ g, d2.extract (i + 1) d2.size = g := ⟨_, rfl⟩
    rw [hf, hg]
    by_cases hpp : p1 = true ∧ p2 = true
    · obtain ⟨rfl, rfl⟩ := hpp
      have hyy := HYES.out rfl rfl i hi hn1 hn2
      rw [hf, hg] at hyy
      have HY : Hid (s = lbI f g ∧ ∀ f' g', IsLb s f' g' → f' = f ∧ g' = g) := hyy
      have hfz : f.size ≤ 140737488351232 := by rw [← hf, ← bl_length, extract_take _ _ (by omega), List.length_take, bl_length]; omega
      have hgz : g.size ≤ 140737488351232 := by rw [← hg, ← bl_length, bl_ex, List.length_drop, bl_length]; omega
      have HQ1 : Hid (∀ W, All W → Calls Tryz.prog 49 #[.string f] W fun e w' => e = .returned (.tuple #[.agg (prA f), .int .i64 (prE f)]) ∧ Below W.heap.size W w') := fun W => HPA.out f W hfz
      have HQ2 : Hid (∀ W, All W → Calls Tryz.prog 49 #[.string g] W fun e w' => e = .returned (.tuple #[.agg (prA g), .int .i64 (prE g)]) ∧ Below W.heap.size W w') := fun W => HPA.out g W hgz
      have hF1 := prA_size f
      have hF2 := prA_one f
      have hG1 := prA_size g
      have hG2 := prA_one g
      obtain ⟨F, hFe⟩ : ∃ F, prA f = F := ⟨_, rfl⟩
      obtain ⟨G, hGe⟩ : ∃ G, prA g = G := ⟨_, rfl⟩
      obtain ⟨e1, he1⟩ : ∃ e, prE f = e := ⟨_, rfl⟩
      obtain ⟨e2, he2⟩ : ∃ e, prE g = e := ⟨_, rfl⟩
      have HRES : Hid ((e1 = 0 ∧ e2 = 0 ∧ IsLb s f g ∧ F = pid f ∧ G = pid g) ∨ ((e1 = 4 ∨ (e1 = 0 ∧ e2 = 4)) ∧ ∀ f' g', ¬ IsLb s f' g')) := by
        have no : (¬ (f.size = 64 ∧ uhE f = 0 ∧ g.size = 64 ∧ uhE g = 0)) → ∀ f' g', ¬ IsLb s f' g' := fun q f' g' hl => by
          obtain ⟨rfl, rfl⟩ := HY.out.2 f' g' hl
          exact q ⟨hl.2.1, hl.2.2.2.1, hl.2.2.1, hl.2.2.2.2⟩
        rcases prE_val f with q | q
        · rcases prE_val g with q2 | q2
          · have r1 := (prE_cases f).resolve_right (fun h => h q)
            have r2 := (prE_cases g).resolve_right (fun h => h q2)
            exact .inl ⟨by rw [← he1]; exact q, by rw [← he2]; exact q2, ⟨HY.out.1, r1.2.1, r2.2.1, r1.2.2, r2.2.2⟩, by rw [← hFe, prA, if_pos r1.2.1], by rw [← hGe, prA, if_pos r2.2.1]⟩
          · refine .inr ⟨.inr ⟨by rw [← he1]; exact q, by rw [← he2]; exact q2⟩, no (fun h => ?_)⟩
            rw [prE, if_pos h.2.2.1, h.2.2.2] at q2; omega
        · refine .inr ⟨.inl (by rw [← he1]; exact q), no (fun h => ?_)⟩
          rw [prE, if_pos h.1, h.2.1] at q; omega
      rw [hFe, he1] at HQ1
      rw [hGe, he2] at HQ2
      have HFF : Hid (F.size = 32 ∧ F.all (·.oneCell') = true ∧ G.size = 32 ∧ G.all (·.oneCell') = true) := by rw [← hFe, ← hGe]; exact ⟨hF1, hF2, hG1, hG2⟩
      clear hyy HYES HNO HPA hFe hGe he1 he2 hF1 hF2 hG1 hG2 hn1 hn2 hf hg
      have HAL : Hid (∀ W, Below w.heap.size w W → All W) := fun W hW => HA.out.below hW
      go_wp2_with fail
      refine (HQ1.out w3 (HAL.out _ S3.out.bel)).mono ?_
      rintro e w4 ⟨rfl, hb4⟩
      have S4 : Hid (SU w z32c z32c w4) := S3.out.next hb4
      clear hb4 HQ1 S3
      go_wp2_with (first
        | (refine wpList_stoX rfl 23 (.tmp 2) (.tmp 44) rfl w.heap.size F z32c 23 rfl rfl S4.out.b2 (info_32 HFF.out.1) (by rw [HFF.out.1, z32c_size]) HFF.out.2.1 ?_; intro w5 HB5 HG5; have S5 : Hid (SU w F z32c w5) := S4.out.put2 HG5.out HB5.out)
        | fail)
      refine (HQ2.out w5 (HAL.out _ S5.out.bel)).mono ?_
      rintro e w6 ⟨rfl, hb6⟩
      have S6 : Hid (SU w F z32c w6) := S5.out.next hb6
      clear hb6 HQ2 HB5 HG5 S4
      have hres := HRES.out
      clear HRES
      rcases hres with ⟨rfl, rfl, hIL, hFp, hGp⟩ | ⟨h12, hNo⟩
      · have HIL : Hid (IsLb s f g ∧ F = pid f ∧ G = pid g) := ⟨hIL, hFp, hGp⟩
        clear hIL hFp hGp
        go_wp2_with (first
          | (refine wpList_stoX rfl 23 (.tmp 3) (.tmp 49) rfl (w.heap.size + 1) G z32c 23 rfl rfl S6.out.b3 (info_32 HFF.out.2.2.1) (by rw [HFF.out.2.2.1, z32c_size]) HFF.out.2.2.2 ?_; intro w9 HB9 HG9; have S9 : Hid (SU w F G w9) := S6.out.put3 HG9.out HB9.out)
          | fail)
        have S9d : Hid (SU w F G w9.drew) := S9.out.next ((Below.refl _ _).drew)
        clear HB9 HG9
        refine region_class10 (SU w F G) (by kernel_rfl) (by kernel_rfl) S9d.out ?_
        try simp only [Act.put, List.setIfInBounds_toArray, List.set_cons_zero, List.set_cons_succ]
        repeat (first
          | go_big_quiet_skip
          | (go_big_quiet_want
             first
               | (refine quiet_row 23 _ rfl w.heap.size 0 F F 23 _ rfl (fun _ h => h.b2) (fun j v hv => by rw [Nat.zero_add]; exact hv) Tryz.underlying23 rfl (info_32 HFF.out.1) ?_; go_big_quiet_on; simp only [Act.put, List.setIfInBounds_toArray, List.set_cons_zero, List.set_cons_succ])
               | (refine quiet_row 23 _ rfl (w.heap.size + 1) 0 G G 23 _ rfl (fun _ h => h.b3) (fun j v hv => by rw [Nat.zero_add]; exact hv) Tryz.underlying23 rfl (info_32 HFF.out.2.2.1) ?_; go_big_quiet_on; simp only [Act.put, List.setIfInBounds_toArray, List.set_cons_zero, List.set_cons_succ])
               | (refine quiet_again 23 _ _ rfl w.heap.size F 23 rfl rfl (fun _ h => h.b2) (info_32 HFF.out.1) HFF.out.2.1 ?_; go_big_quiet_on; simp only [Act.put, List.setIfInBounds_toArray, List.set_cons_zero, List.set_cons_succ])
               | (refine quiet_again 23 _ _ rfl (w.heap.size + 1) G 23 rfl rfl (fun _ h => h.b3) (info_32 HFF.out.2.2.1) HFF.out.2.2.2 ?_; go_big_quiet_on; simp only [Act.put, List.setIfInBounds_toArray, List.set_cons_zero, List.set_cons_succ])
               | (go_big_quiet_op; go_big_quiet_on)))
        refine wpQuiet_nil ?_
        intro w12 hw12
        have S12 : Hid (SU w F G w12) := hw12
        clear hw12
        go_wp2
        refine bodyPost_ret (results_cct rfl _ _ w.heap.size (w.heap.size + 1) 23 F G (0, 0) _ rfl rfl S12.out.b2 S12.out.b3 Tryz.underlying23 rfl (info_32 HFF.out.1) (info_32 HFF.out.2.2.1)) rfl ⟨.inl ⟨f, g, HIL.out.1, by rw [← HIL.out.2.1, ← HIL.out.2.2]; rfl⟩, S12.out.bel⟩
      · have HN : Hid (∀ f g, ¬ IsLb s f g) := hNo
        clear hNo
        rcases h12 with rfl | ⟨rfl, rfl⟩
        · go_wp2_with (first
            | (refine wpList_stoX rfl 23 (.tmp 3) (.tmp 49) rfl (w.heap.size + 1) G z32c 23 rfl rfl S6.out.b3 (info_32 HFF.out.2.2.1) (by rw [HFF.out.2.2.1, z32c_size]) HFF.out.2.2.2 ?_; intro w9 HB9 HG9; have S9 : Hid (SU w F G w9) := S6.out.put3 HG9.out HB9.out)
            | (refine wpList_bdX0 rfl 23 rfl (.agg z32c) (hbz _) ?_)
            | (refine wpList_stoX rfl 23 (.tmp 2) (.tmp 57) rfl w.heap.size z32c F 23 rfl rfl S9.out.b2 (info_32 z32c_size) (by rw [HFF.out.1, z32c_size]) z32c_one ?_; intro w7 HB7 HG7; have S7 : Hid (SU w z32c G w7) := S9.out.put2 HG7.out HB7.out)
            | (refine wpList_stoX rfl 23 (.tmp 3) (.tmp 58) rfl (w.heap.size + 1) z32c G 23 rfl rfl S7.out.b3 (info_32 z32c_size) (by rw [HFF.out.2.2.1, z32c_size]) z32c_one ?_; intro w8 HB8 HG8; have S8 : Hid (SU w z32c z32c w8) := S7.out.put3 HG8.out HB8.out)
            | fail)
          refine bodyPost_ret (results_cct rfl _ _ w.heap.size (w.heap.size + 1) 23 z32c z32c (0, 0) _ rfl rfl S8.out.b2 S8.out.b3 Tryz.underlying23 rfl (info_32 z32c_size) (info_32 z32c_size)) rfl ⟨.inr ⟨HN.out, rfl⟩, S8.out.bel⟩
        · go_wp2_with (first
            | (refine wpList_stoX rfl 23 (.tmp 3) (.tmp 49) rfl (w.heap.size + 1) G z32c 23 rfl rfl S6.out.b3 (info_32 HFF.out.2.2.1) (by rw [HFF.out.2.2.1, z32c_size]) HFF.out.2.2.2 ?_; intro w9 HB9 HG9; have S9 : Hid (SU w F G w9) := S6.out.put3 HG9.out HB9.out)
            | (refine wpList_bdX0 rfl 23 rfl (.agg z32c) (hbz _) ?_)
            | (refine wpList_stoX rfl 23 (.tmp 2) (.tmp 57) rfl w.heap.size z32c F 23 rfl rfl S9.out.b2 (info_32 z32c_size) (by rw [HFF.out.1, z32c_size]) z32c_one ?_; intro w7 HB7 HG7; have S7 : Hid (SU w z32c G w7) := S9.out.put2 HG7.out HB7.out)
            | (refine wpList_stoX rfl 23 (.tmp 3) (.tmp 58) rfl (w.heap.size + 1) z32c G 23 rfl rfl S7.out.b3 (info_32 z32c_size) (by rw [HFF.out.2.2.1, z32c_size]) z32c_one ?_; intro w8 HB8 HG8; have S8 : Hid (SU w z32c z32c w8) := S7.out.put3 HG8.out HB8.out)
            | fail)
          refine bodyPost_ret (results_cct rfl _ _ w.heap.size (w.heap.size + 1) 23 z32c z32c (0, 0) _ rfl rfl S8.out.b2 S8.out.b3 Tryz.underlying23 rfl (info_32 z32c_size) (info_32 z32c_size)) rfl ⟨.inr ⟨HN.out, rfl⟩, S8.out.bel⟩
    · have HN : Hid (∀ f g, ¬ IsLb s f g) := by
        refine HNO.out ?_
        cases p1
        · exact .inl rfl
        · cases p2
          · exact .inr (.inl rfl)
          · exact absurd ⟨rfl, rfl⟩ hpp
      clear HNO HYES hn1 hn2 hf hg
      cases p1 <;> cases p2
      · go_wp2_with (first
          | (refine wpList_bdX0 rfl 23 rfl (.agg z32c) (hbz _) ?_)
          | (refine wpList_stoX rfl 23 (.tmp 2) (.tmp 39) rfl w.heap.size z32c z32c 23 rfl rfl S3.out.b2 (info_32 z32c_size) rfl z32c_one ?_; intro w7 HB7 HG7; have S7 : Hid (SU w z32c z32c w7) := S3.out.put2 HG7.out HB7.out)
          | (refine wpList_stoX rfl 23 (.tmp 3) (.tmp 40) rfl (w.heap.size + 1) z32c z32c 23 rfl rfl S7.out.b3 (info_32 z32c_size) rfl z32c_one ?_; intro w8 HB8 HG8; have S8 : Hid (SU w z32c z32c w8) := S7.out.put3 HG8.out HB8.out)
          | fail)
        refine bodyPost_ret (results_cct rfl _ _ w.heap.size (w.heap.size + 1) 23 z32c z32c (0, 0) _ rfl rfl S8.out.b2 S8.out.b3 Tryz.underlying23 rfl (info_32 z32c_size) (info_32 z32c_size)) rfl ⟨.inr ⟨HN.out, rfl⟩, S8.out.bel⟩
      · go_wp2_with (first
          | (refine wpList_bdX0 rfl 23 rfl (.agg z32c) (hbz _) ?_)
          | (refine wpList_stoX rfl 23 (.tmp 2) (.tmp 39) rfl w.heap.size z32c z32c 23 rfl rfl S3.out.b2 (info_32 z32c_size) rfl z32c_one ?_; intro w7 HB7 HG7; have S7 : Hid (SU w z32c z32c w7) := S3.out.put2 HG7.out HB7.out)
          | (refine wpList_stoX rfl 23 (.tmp 3) (.tmp 40) rfl (w.heap.size + 1) z32c z32c 23 rfl rfl S7.out.b3 (info_32 z32c_size) rfl z32c_one ?_; intro w8 HB8 HG8; have S8 : Hid (SU w z32c z32c w8) := S7.out.put3 HG8.out HB8.out)
          | fail)
        refine bodyPost_ret (results_cct rfl _ _ w.heap.size (w.heap.size + 1) 23 z32c z32c (0, 0) _ rfl rfl S8.out.b2 S8.out.b3 Tryz.underlying23 rfl (info_32 z32c_size) (info_32 z32c_size)) rfl ⟨.inr ⟨HN.out, rfl⟩, S8.out.bel⟩
      · go_wp2_with (first
          | (refine wpList_bdX0 rfl 23 rfl (.agg z32c) (hbz _) ?_)
          | (refine wpList_stoX rfl 23 (.tmp 2) (.tmp 39) rfl w.heap.size z32c z32c 23 rfl rfl S3.out.b2 (info_32 z32c_size) rfl z32c_one ?_; intro w7 HB7 HG7; have S7 : Hid (SU w z32c z32c w7) := S3.out.put2 HG7.out HB7.out)
          | (refine wpList_stoX rfl 23 (.tmp 3) (.tmp 40) rfl (w.heap.size + 1) z32c z32c 23 rfl rfl S7.out.b3 (info_32 z32c_size) rfl z32c_one ?_; intro w8 HB8 HG8; have S8 : Hid (SU w z32c z32c w8) := S7.out.put3 HG8.out HB8.out)
          | fail)
        refine bodyPost_ret (results_cct rfl _ _ w.heap.size (w.heap.size + 1) 23 z32c z32c (0, 0) _ rfl rfl S8.out.b2 S8.out.b3 Tryz.underlying23 rfl (info_32 z32c_size) (info_32 z32c_size)) rfl ⟨.inr ⟨HN.out, rfl⟩, S8.out.bel⟩
      · exact absurd ⟨rfl, rfl⟩ hpp
end Go.Proofs.YtbdkacfpeokggaaGreatDoor
/- idx.Fits of a label that fits. -/
namespace Go.Proofs.YtbdkacfpeokggaaGreatDoor
open Go.RowKit
set_option linter.unusedSimpArgs false
set_option linter.unusedVariables false
set_option maxHeartbeats 2000000 in
set_option maxRecDepth 100000 in
theorem fits_yes (a x S : ByteArray) (w : World) (ha : a.size = 32) (hx : x = sb (sha (byl S))) (hS : S.size ≤ 140737488355328) (hA : All w) :
    Calls Tryz.prog 17 #[.string (ilb a x), .string S] w fun e w' => e = .returned (.bool true) ∧ Below w.heap.size w w' := by
  have hx32 : x.size = 32 := by rw [hx]; exact sha_size _
  have HA : Hid (All w) := hA
  have hls : (ilb a x).size ≤ 140737488351232 := by
    rw [ilb, lbI, ByteArray.size_append, ByteArray.size_append, ByteArray.size_append, ByteArray.size_append, tx32_size ha, tx32_size hx32]
    decide
  have HSU : Hid (Calls Tryz.prog 15 #[.string (ilb a x)] w fun e w' => e = .returned (.tuple #[.agg (idc a), .agg (idc x), .int .i64 0]) ∧ Below w.heap.size w w') := (sums13 (ilb a x) w hls hA).mono fun e w' q => ⟨q.1.ilb ha hx32, q.2⟩
  have HSM : Hid (∀ W, All W → Calls Tryz.prog 26 #[.string S] W fun e w' => e = .returned (.agg (idc x)) ∧ Below W.heap.size W w') := fun W hW => by rw [hx]; exact sum_id S W hW.l (by omega)
  have hEQ := eql_ids x x hx32 hx32
  have hdx : decide (x = x) = true := decide_eq_true rfl
  rw [hdx] at hEQ
  have HI : Hid ((Tryz.prog.info? 23).map (·.size) = some (idc a).size ∧ (idc a).all (·.oneCell') = true ∧ (idc a).size = 32 ∧ (Tryz.prog.info? 23).map (·.size) = some (idc x).size ∧ (idc x).all (·.oneCell') = true ∧ (idc x).size = 32) := ⟨info_32 (by rw [idc_size, ha]), idc_allX a, by rw [idc_size, ha], info_32 (by rw [idc_size, hx32]), idc_allX x, by rw [idc_size, hx32]⟩
  obtain ⟨A, hAe⟩ : ∃ A, idc a = A := ⟨_, rfl⟩
  obtain ⟨X, hXe⟩ : ∃ X, idc x = X := ⟨_, rfl⟩
  obtain ⟨L, hL⟩ : ∃ L, ilb a x = L := ⟨_, rfl⟩
  rw [hAe, hXe, hL] at HSU
  rw [hXe] at HSM hEQ
  rw [hAe, hXe] at HI
  rw [hL]
  have hz := zero_id
  clear hA hx hx32 hls hAe hXe hL hdx ha
  go_enter Tryz.func17, Tryz.ntmps17
  go_wp2_with fail
  refine HSU.out.mono ?_
  rintro e w1 ⟨rfl, hb1⟩
  have H1 : Hid (Below w.heap.size w w1) := hb1
  have R0 : Hid (Bk (w1.alloc (.cells z32c 23)) w1.heap.size z32c 23) := bk_new _ _ _
  have S0 : Hid (SU w1 z32c z32c ((w1.alloc (.cells z32c 23)).alloc (.cells z32c 23))) := by
    have := bk_new (w1.alloc (.cells z32c 23)) z32c 23
    rw [al_size] at this
    exact ⟨(bk_new _ _ _).alloc _, this, ((Below.refl _ _).alloc (Nat.le_refl _) _).alloc (by rw [al_size]; omega) _⟩
  clear hb1 HSU
  go_wp2_with (first
    | (refine wpList_stoX rfl 23 (.tmp 5) (.tmp 11) rfl w1.heap.size A z32c 23 rfl rfl S0.out.b2 HI.out.1 (by rw [HI.out.2.2.1]; exact z32c_size) HI.out.2.1 ?_; intro w5 HB5 HG5; have S5 : Hid (SU w1 A z32c w5) := S0.out.put2 HG5.out HB5.out)
    | (refine wpList_stoX rfl 23 (.tmp 6) (.tmp 12) rfl (w1.heap.size + 1) X z32c 23 rfl rfl S5.out.b3 HI.out.2.2.2.1 (by rw [HI.out.2.2.2.2.2]; exact z32c_size) HI.out.2.2.2.2.1 ?_; intro w6 HB6 HG6; have S6 : Hid (SU w1 A X w6) := S5.out.put3 HG6.out HB6.out)
    | fail)
  clear HB5 HG5 HB6 HG6
  have C1 : Hid (∀ W, SU w1 A X W → Calls Tryz.prog 26 #[.string S] W fun e w' => e = .returned (.agg X) ∧ SU w1 A X w') := fun W hW => (HSM.out W (HA.out.below (H1.out.trans (hW.bel.mono H1.out.size)))).mono fun e w' q => ⟨q.1, hW.next q.2⟩
  refine region_class10 (SU w1 A X) (by kernel_rfl) (by kernel_rfl) (S6.out.next ((Below.refl _ _).drew)) ?_
  try simp only [Act.put, List.setIfInBounds_toArray, List.set_cons_zero, List.set_cons_succ]
  repeat (first
    | go_big_quiet_skip
    | (go_big_quiet_want
       first
         | (refine quiet_row 23 _ rfl (w1.heap.size + 1) 0 X X 23 _ rfl (fun _ h => h.b3) (fun j v hv => by rw [Nat.zero_add]; exact hv) Tryz.underlying23 rfl HI.out.2.2.2.1 ?_; go_big_quiet_on; simp only [Act.put, List.setIfInBounds_toArray, List.set_cons_zero, List.set_cons_succ])
         | (refine quiet_call10 (.agg X) 26 #[.string S] ?_ ?_ ?_; (focus (intro W hW; go_simp; done)); (focus (intro W hW; exact C1.out W hW)); go_big_quiet_on; simp only [Act.put, List.setIfInBounds_toArray, List.set_cons_zero, List.set_cons_succ])
         | (refine quiet_val10 (.bool true) ?_ ?_; (focus (intro W hW; go_simp; done)); go_big_quiet_on; simp only [Act.put, List.setIfInBounds_toArray, List.set_cons_zero, List.set_cons_succ])
         | (go_big_quiet_op; go_big_quiet_on)))
  refine wpQuiet_nil ?_
  intro w9 hw9
  have H9 : Hid (Below w1.heap.size w1 w9) := hw9.bel
  clear hw9
  go_wp2
  go_ret
  exact ⟨rfl, H1.out.trans (H9.out.mono H1.out.size)⟩
end Go.Proofs.YtbdkacfpeokggaaGreatDoor
/- The layings of strings.Builder. -/
namespace Go.Proofs.YtbdkacfpeokggaaGreatDoor
open Go.Shelf
def lays169_ren : Go.Shelf.Ren := ⟨fun | 169 => 66 | n => n, fun | 70 => 123 | 9 => 9 | 0 => 0 | 72 => 125 | 37 => 93 | 127 => 158 | 3 => 3 | 5 => 5 | n => n, fun | n => n⟩
theorem lays169 : Go.Proofs.Lays.n169 Tryz.prog lays169_ren := {
  mixed := by kernel_rfl
  f169 := Tryz.func66.trans (congrArg some (by kernel_rfl))
  t0 := Tryz.underlying0
  a0 := Tryz.isAgg0
  z0 := Tryz.sizeOf0
  v0 := Tryz.zeroValue0
  t3 := Tryz.underlying3
  a3 := Tryz.isAgg3
  z3 := Tryz.sizeOf3
  v3 := Tryz.zeroValue3
  t9 := Tryz.underlying9
  a9 := Tryz.isAgg9
  z9 := Tryz.sizeOf9
  v9 := Tryz.zeroValue9
  t37 := Tryz.underlying93
  a37 := Tryz.isAgg93
  z37 := Tryz.sizeOf93
  v37 := Tryz.zeroValue93
  t70 := Tryz.underlying123
  a70 := Tryz.isAgg123
  z70 := Tryz.sizeOf123
  v70 := Tryz.zeroValue123
  t72 := Tryz.underlying125
  a72 := Tryz.isAgg125
  z72 := Tryz.sizeOf125
  v72 := Tryz.zeroValue125
  t127 := Tryz.underlying158
  a127 := Tryz.isAgg158
  z127 := Tryz.sizeOf158
  v127 := Tryz.zeroValue158 }
def lays166_ren : Go.Shelf.Ren := ⟨fun | 166 => 61 | 240 => 99 | 276 => 129 | n => n, fun | 0 => 0 | 3 => 3 | 4 => 4 | 5 => 5 | 9 => 9 | 20 => 20 | 37 => 93 | 70 => 123 | 72 => 125 | 75 => 127 | 164 => 183 | 80 => 78 | n => n, fun | n => n⟩
theorem lays166 : Go.Proofs.Lays.n166 Tryz.prog lays166_ren := {
  mixed := by kernel_rfl
  f166 := Tryz.func61.trans (congrArg some (by kernel_rfl))
  f240 := Tryz.func99.trans (congrArg some (by kernel_rfl))
  f276 := Tryz.func129.trans (congrArg some (by kernel_rfl))
  t0 := Tryz.underlying0
  a0 := Tryz.isAgg0
  z0 := Tryz.sizeOf0
  v0 := Tryz.zeroValue0
  t3 := Tryz.underlying3
  a3 := Tryz.isAgg3
  z3 := Tryz.sizeOf3
  v3 := Tryz.zeroValue3
  t4 := Tryz.underlying4
  a4 := Tryz.isAgg4
  z4 := Tryz.sizeOf4
  v4 := Tryz.zeroValue4
  t9 := Tryz.underlying9
  a9 := Tryz.isAgg9
  z9 := Tryz.sizeOf9
  v9 := Tryz.zeroValue9
  t20 := Tryz.underlying20
  a20 := Tryz.isAgg20
  z20 := Tryz.sizeOf20
  v20 := Tryz.zeroValue20
  t37 := Tryz.underlying93
  a37 := Tryz.isAgg93
  z37 := Tryz.sizeOf93
  v37 := Tryz.zeroValue93
  t70 := Tryz.underlying123
  a70 := Tryz.isAgg123
  z70 := Tryz.sizeOf123
  v70 := Tryz.zeroValue123
  t72 := Tryz.underlying125
  a72 := Tryz.isAgg125
  z72 := Tryz.sizeOf125
  v72 := Tryz.zeroValue125
  t75 := Tryz.underlying127
  a75 := Tryz.isAgg127
  z75 := Tryz.sizeOf127
  v75 := Tryz.zeroValue127
  t164 := Tryz.underlying183
  a164 := Tryz.isAgg183
  z164 := Tryz.sizeOf183
  v164 := Tryz.zeroValue183 }
theorem extra166 : Builder.Extra Tryz.prog lays166_ren := {
  sizeBuilder := by kernel_rfl
  liesBuilder := by kernel_rfl
  t5 := Tryz.underlying5
  a5 := Tryz.isAgg5
  z5 := Tryz.sizeOf5
  v5 := Tryz.zeroValue5
  infoByte := by kernel_rfl
  cellsByte := by kernel_rfl
  sizeByte := by kernel_rfl
  neB5 := by decide }
theorem extra169 : Builder.Extra Tryz.prog lays169_ren := {
  sizeBuilder := by kernel_rfl
  liesBuilder := by kernel_rfl
  t5 := Tryz.underlying5
  a5 := Tryz.isAgg5
  z5 := Tryz.sizeOf5
  v5 := Tryz.zeroValue5
  infoByte := by kernel_rfl
  cellsByte := by kernel_rfl
  sizeByte := by kernel_rfl
  neB5 := by decide }
end Go.Proofs.YtbdkacfpeokggaaGreatDoor
/- strings.Builder, all but WriteByte. -/
namespace Go.Proofs.YtbdkacfpeokggaaGreatDoor
open Go.RowKit
set_option linter.unusedSimpArgs false
set_option linter.unusedVariables false
/-- A builder that holds these bytes. -/
abbrev Bld (B b : Nat) (l : List UInt8) (w : World) : Prop := Lib.IsBuilderF 125 5 B b (Lib.byteCells l) w
abbrev Oth (b : Nat) (w w' : World) : Prop := Lib.OthersKept 5 (some b) w w'
theorem str_cells (s : ByteArray) : Lib.strCells s = Lib.byteCells s.data.toList := by
  unfold Lib.strCells Lib.byteCells
  rfl
theorem writeS (B b : Nat) (l : List UInt8) (s : ByteArray) (w : World) (h : Bld B b l w) (hlen : l.length + s.size ≤ 140737488355328) (hBw : B ≤ w.heap.size) :
    Calls Tryz.prog 61 #[.pointer (some ⟨b, 0, none⟩), .string s] w fun e w' => e = .returned (.tuple #[.int .i64 s.size, .nilIface]) ∧ Bld B b (l ++ s.data.toList) w' ∧ Below B w w' ∧ Oth b w w' :=
  (Any.Builder_WriteString_k lays166 extra166 B b (Lib.byteCells l) s w h (by rw [Lib.byteCells_length]; exact hlen) hBw).mono fun e w' ⟨he, h1, h2, h3⟩ =>
    ⟨he, by rw [Bld, Lib.byteCells_append, ← str_cells]; exact Or.inr h1, h2, h3⟩
theorem buildS (B b : Nat) (l : List UInt8) (w : World) (h : Bld B b l w) (hBw : B ≤ w.heap.size) :
    Calls Tryz.prog 66 #[.pointer (some ⟨b, 0, none⟩)] w fun e w' => e = .returned (.string ⟨l.toArray⟩) ∧ Bld B b l w' ∧ Below B w w' ∧ Oth b w w' :=
  Any.Builder_String_any_k lays169 extra169 B b l w h hBw
theorem fresh_bld (w : World) : Bld w.heap.size w.heap.size [] (w.alloc (.cells #[.pointer none, .slice none 0 0] 125)) := Lib.IsBuilderF.of (Lib.fresh_isBuilder _ _ w)
end Go.Proofs.YtbdkacfpeokggaaGreatDoor
/- The laying of strings.Builder.Grow. -/
namespace Go.Proofs.YtbdkacfpeokggaaGreatDoor
open Go.Shelf
def lays165_ren : Go.Shelf.Ren := ⟨fun | 165 => 77 | 240 => 99 | 241 => 116 | 276 => 129 | 277 => 141 | n => n, fun | 70 => 123 | 3 => 3 | 0 => 0 | 4 => 4 | 9 => 9 | 20 => 20 | 72 => 125 | 37 => 93 | 164 => 183 | 5 => 5 | n => n, fun | n => n⟩
theorem lays165 : Go.Proofs.Lays.n165 Tryz.prog lays165_ren := {
  mixed := by kernel_rfl
  f165 := Tryz.func77.trans (congrArg some (by kernel_rfl))
  f240 := Tryz.func99.trans (congrArg some (by kernel_rfl))
  f241 := Tryz.func116.trans (congrArg some (by kernel_rfl))
  f276 := Tryz.func129.trans (congrArg some (by kernel_rfl))
  f277 := Tryz.func141.trans (congrArg some (by kernel_rfl))
  t0 := Tryz.underlying0
  a0 := Tryz.isAgg0
  z0 := Tryz.sizeOf0
  v0 := Tryz.zeroValue0
  t3 := Tryz.underlying3
  a3 := Tryz.isAgg3
  z3 := Tryz.sizeOf3
  v3 := Tryz.zeroValue3
  t4 := Tryz.underlying4
  a4 := Tryz.isAgg4
  z4 := Tryz.sizeOf4
  v4 := Tryz.zeroValue4
  t9 := Tryz.underlying9
  a9 := Tryz.isAgg9
  z9 := Tryz.sizeOf9
  v9 := Tryz.zeroValue9
  t20 := Tryz.underlying20
  a20 := Tryz.isAgg20
  z20 := Tryz.sizeOf20
  v20 := Tryz.zeroValue20
  t37 := Tryz.underlying93
  a37 := Tryz.isAgg93
  z37 := Tryz.sizeOf93
  v37 := Tryz.zeroValue93
  t70 := Tryz.underlying123
  a70 := Tryz.isAgg123
  z70 := Tryz.sizeOf123
  v70 := Tryz.zeroValue123
  t72 := Tryz.underlying125
  a72 := Tryz.isAgg125
  z72 := Tryz.sizeOf125
  v72 := Tryz.zeroValue125
  t164 := Tryz.underlying183
  a164 := Tryz.isAgg183
  z164 := Tryz.sizeOf183
  v164 := Tryz.zeroValue183 }
end Go.Proofs.YtbdkacfpeokggaaGreatDoor
/- strings.Builder: Write of bytes that lie somewhere, Grow of a fresh one. -/
namespace Go.Proofs.YtbdkacfpeokggaaGreatDoor
open Go.RowKit
set_option linter.unusedSimpArgs false
set_option linter.unusedVariables false
set_option maxHeartbeats 2000000 in
set_option maxRecDepth 100000 in
theorem writeV (B b : Nat) (l L : List UInt8) (g o n c : Nat) (C : Array Value) (T : TypeId) (w : World) (h : Bld B b l w) (hB0 : Bk w g C T) (hT : T ≠ 5) (hgb : g ≠ b) (hL : L.length = n) (hc : ∀ j u, (Lib.byteCells L)[j]? = some u → C[o + j]? = some u) (hlen : l.length + n ≤ 140737488355328) (hBw : B ≤ w.heap.size) :
    Calls Tryz.prog 79 #[.pointer (some ⟨b, 0, none⟩), .slice (some ⟨g, o, none⟩) n c] w fun e w' => e = .returned (.tuple #[.int .i64 n, .nilIface]) ∧ Bld B b (l ++ L) w' ∧ Below B w w' ∧ Oth b w w' := by
  obtain ⟨i0, hi, hz0, hz1, hz2⟩ := info_parts extra166.infoByte
  have hi' : Tryz.prog.info? 5 = some i0 := hi
  have e240 : ∀ args w, (callFunc 99 args).run Tryz.prog w = .ok (.enter 99 args) w := enters_of Tryz.func99 (by kernel_rfl) rfl
  have HCK : Hid (Calls Tryz.prog 99 #[.pointer (some ⟨b, 0, none⟩)] w fun e w' => e = .returned (.tuple #[]) ∧ (Lib.BuilderAtF 125 5 B b (.pointer (some ⟨b, 0, none⟩)) (Lib.byteCells l) w' ∧ Below B w w' ∧ Lib.OthersKept 5 (some b) w w')) := Any.Builder_copyCheck_k { lays166 with } extra166.toX72 B b (Lib.byteCells l) w h
  have HB0 : Hid (Bk w g C T) := hB0
  have HC : Hid (∀ j u, (Lib.byteCells L)[j]? = some u → C[o + j]? = some u) := hc
  have HLL : Hid (L.length = n) := hL
  clear h hB0 hc hi
  have hbl := Lib.byteCells_length l
  have hbL := Lib.byteCells_length L
  go_enter Tryz.func79, Tryz.ntmps79
  go_wp2_with fail
  refine HCK.out.mono ?_
  rintro e w1 ⟨rfl, h1, hb1, hk1⟩
  obtain ⟨hB, v, hbk, hown, hne⟩ := h1
  have c0 : w1.cell? ⟨b, 0, none⟩ = some (.pointer (some ⟨b, 0, none⟩)) := by rw [Lib.cell_of_heap hbk]; rfl
  have c1 : w1.cell? ⟨b, 1, none⟩ = some v := by rw [Lib.cell_of_heap hbk]; rfl
  have HB1 : Hid (Bk w1 g C T) := hk1 g _ HB0.out (fun e => hgb (Option.some.inj e)) (fun c' fz e => by injection e with _ e2; exact hT e2)
  go_wp2_with (at_builtin; refine wpList_append_ownF _ rfl _ _ 93 rfl B 5 i0 (.int .u8 0) 1 1 Tryz.underlying93 hi' hz0 hz1 hz2 rfl (by decide) _ _ _ rfl hown ⟨g, o, none⟩ n c (Lib.byteCells L) rfl ?c0 ?c1 ?c2 ?c3 ?c4 ?c5 ?_)
  case c0 => rw [hbL, HLL.out, Nat.mul_one]
  case c1 =>
    intro j u hj
    rw [WideShapes.add_plain, HB1.out.cell]
    exact HC.out j u hj
  case c2 => exact Lib.byteCells_one L
  case c3 => rw [hbl]; unfold maxLen; omega
  case c4 => rw [hbl]; omega
  case c5 => have := hb1.size; omega
  intro v' w2 hown' hgrow _
  have hlt : b < w1.heap.size := by
    rcases Nat.lt_or_ge b w1.heap.size with h' | h'
    · exact h'
    · simp [Array.getElem?_eq_none h'] at hbk
  have hb2 : w2.heap[b]? = some (.cells #[.pointer (some ⟨b, 0, none⟩), v] 125 (0, 0)) := by
    rw [hgrow.block b hlt (fun e => hne e.symm)]
    exact hbk
  have d0 : w2.cell? ⟨b, 0, none⟩ = some (.pointer (some ⟨b, 0, none⟩)) := by rw [Lib.cell_of_heap hb2]; rfl
  have d1 : w2.cell? ⟨b, 1, none⟩ = some v := by rw [Lib.cell_of_heap hb2]; rfl
  have f1 : w2.frozen? ⟨b, 1, none⟩ = false := Lib.frozen_of_heap hb2 1
  obtain ⟨ao, n', cap, rfl⟩ : ∃ ao n' cap, v' = .slice ao n' cap := by
    rcases hown'.2 with ⟨hv, _⟩ | ⟨g, cap, cur, fz, hv, _⟩
    · exact ⟨_, _, _, hv⟩
    · exact ⟨_, _, _, hv⟩
  have HE : Hid (Bld B b (l ++ L) (w2.setCell ⟨b, 1, none⟩ (.slice ao n' cap)) ∧ Below B w (w2.setCell ⟨b, 1, none⟩ (.slice ao n' cap)) ∧ Oth b w (w2.setCell ⟨b, 1, none⟩ (.slice ao n' cap))) := by
    refine ⟨Or.inr ?_, ?_, (hk1.grown hgrow (Lib.ownsRowF_kind hown)).setCell ⟨b, 1, none⟩ rfl _⟩
    · rw [Lib.byteCells_append]
      exact Lib.BuilderAtF.put (T := 125) (e := 5) hB hb2 (bs' := Lib.byteCells l ++ Lib.byteCells L) (by rw [List.length_append, hbL, hbl, HLL.out]; exact hown') extra166.neB5
    · exact (hb1.grown hgrow (by have := hb1.size; omega) (fun k hk => (hown.lt k hk).1)).setCell (p := ⟨b, 1, none⟩) hB _
  clear hown hown' hgrow hk1 hb1 hbk hb2 hne
  go_wp2
  go_ret2
  exact ⟨rfl, HE.out⟩
theorem extra165 : Builder.Extra Tryz.prog lays165_ren := {
  sizeBuilder := by kernel_rfl
  liesBuilder := by kernel_rfl
  t5 := Tryz.underlying5
  a5 := Tryz.isAgg5
  z5 := Tryz.sizeOf5
  v5 := Tryz.zeroValue5
  infoByte := by kernel_rfl
  cellsByte := by kernel_rfl
  sizeByte := by kernel_rfl
  neB5 := by decide }
/-- Grow of a builder that was just made. -/
theorem growB (n : Nat) (w : World) (hn : n ≤ 281474976710656) :
    Calls Tryz.prog 77 #[.pointer (some ⟨w.heap.size, 0, none⟩), .int .i64 n] (w.alloc (.cells #[.pointer none, .slice none 0 0] 125)) fun e w' => e = .returned (.tuple #[]) ∧ Bld w.heap.size w.heap.size [] w' ∧ Below w.heap.size w w' := by
  refine (Any.Builder_Grow_fresh lays165 extra165 w.heap.size w.heap.size n (w.alloc (.cells #[.pointer none, .slice none 0 0] 125)) (Nat.le_refl _) (bk_new _ _ _) (by rw [al_size]; omega) hn).mono ?_
  rintro e w' ⟨he, h1, h2⟩
  exact ⟨he, .inr (Lib.BuilderAtF.of h1), ((Below.refl _ _).alloc (Nat.le_refl _) _).trans h2⟩
end Go.Proofs.YtbdkacfpeokggaaGreatDoor
/- The laying of strings.Builder.WriteByte. -/
namespace Go.Proofs.YtbdkacfpeokggaaGreatDoor
open Go.Shelf
def lays167_ren : Go.Shelf.Ren := ⟨fun | 167 => 80 | 240 => 99 | 276 => 129 | n => n, fun | 0 => 0 | 3 => 3 | 4 => 4 | 5 => 5 | 9 => 9 | 20 => 20 | 37 => 93 | 70 => 123 | 72 => 125 | 75 => 127 | 164 => 183 | 80 => 78 | n => n, fun | n => n⟩
theorem lays167 : Go.Proofs.Lays.n167 Tryz.prog lays167_ren := {
  mixed := by kernel_rfl
  f167 := Tryz.func80.trans (congrArg some (by kernel_rfl))
  f240 := Tryz.func99.trans (congrArg some (by kernel_rfl))
  f276 := Tryz.func129.trans (congrArg some (by kernel_rfl))
  t0 := Tryz.underlying0
  a0 := Tryz.isAgg0
  z0 := Tryz.sizeOf0
  v0 := Tryz.zeroValue0
  t4 := Tryz.underlying4
  a4 := Tryz.isAgg4
  z4 := Tryz.sizeOf4
  v4 := Tryz.zeroValue4
  t5 := Tryz.underlying5
  a5 := Tryz.isAgg5
  z5 := Tryz.sizeOf5
  v5 := Tryz.zeroValue5
  t9 := Tryz.underlying9
  a9 := Tryz.isAgg9
  z9 := Tryz.sizeOf9
  v9 := Tryz.zeroValue9
  t20 := Tryz.underlying20
  a20 := Tryz.isAgg20
  z20 := Tryz.sizeOf20
  v20 := Tryz.zeroValue20
  t37 := Tryz.underlying93
  a37 := Tryz.isAgg93
  z37 := Tryz.sizeOf93
  v37 := Tryz.zeroValue93
  t70 := Tryz.underlying123
  a70 := Tryz.isAgg123
  z70 := Tryz.sizeOf123
  v70 := Tryz.zeroValue123
  t72 := Tryz.underlying125
  a72 := Tryz.isAgg125
  z72 := Tryz.sizeOf125
  v72 := Tryz.zeroValue125
  t75 := Tryz.underlying127
  a75 := Tryz.isAgg127
  z75 := Tryz.sizeOf127
  v75 := Tryz.zeroValue127
  t164 := Tryz.underlying183
  a164 := Tryz.isAgg183
  z164 := Tryz.sizeOf183
  v164 := Tryz.zeroValue183 }
theorem extra167 : Builder.Extra Tryz.prog lays167_ren := {
  sizeBuilder := by kernel_rfl
  liesBuilder := by kernel_rfl
  t5 := Tryz.underlying5
  a5 := Tryz.isAgg5
  z5 := Tryz.sizeOf5
  v5 := Tryz.zeroValue5
  infoByte := by kernel_rfl
  cellsByte := by kernel_rfl
  sizeByte := by kernel_rfl
  neB5 := by decide }
end Go.Proofs.YtbdkacfpeokggaaGreatDoor
/- strings.Builder. -/
namespace Go.Proofs.YtbdkacfpeokggaaGreatDoor
open Go.RowKit
set_option linter.unusedSimpArgs false
set_option linter.unusedVariables false
theorem writeB (B b : Nat) (l : List UInt8) (c : UInt8) (w : World) (h : Bld B b l w) (hlen : l.length + 1 ≤ 140737488355328) (hBw : B ≤ w.heap.size) :
    Calls Tryz.prog 80 #[.pointer (some ⟨b, 0, none⟩), .int .u8 (c.toNat : Int)] w fun e w' => e = .returned .nilIface ∧ Bld B b (l ++ [c]) w' ∧ Below B w w' ∧ Oth b w w' :=
  (Any.Builder_WriteByte_k lays167 extra167 B b (Lib.byteCells l) (c.toNat : Int) w h (by rw [Lib.byteCells_length]; exact hlen) hBw).mono fun e w' ⟨he, h1, h2, h3⟩ =>
    ⟨he, by rw [Bld, Lib.byteCells_append]; exact Or.inr h1, h2, h3⟩
end Go.Proofs.YtbdkacfpeokggaaGreatDoor
/- strings.Builder: what is kept. -/
namespace Go.Proofs.YtbdkacfpeokggaaGreatDoor
open Go.RowKit
set_option linter.unusedSimpArgs false
set_option linter.unusedVariables false
theorem oth_bk11 {b k : Nat} {w w' : World} {C : Array Value} {T : TypeId} (h : Oth b w w') (hb : Bk w k C T) (hk : k ≠ b) (hT : T ≠ 5) : Bk w' k C T :=
  h k _ hb (by simpa using hk) (fun c fz e => hT (by injection e))
theorem grn_keep11 {w w' : World} (h : Below w.heap.size w w') : w.grownBy w' none := ⟨h.os, h.tape, h.output, h.size, fun i hi _ => h.block i hi⟩
theorem bldAt_keep11 {B b : Nat} {p : Value} {l : List Value} {w w' : World} (h : Lib.BuilderAtF 125 5 B b p l w) (hb : Below w.heap.size w w') : Lib.BuilderAtF 125 5 B b p l w' := by
  obtain ⟨h1, v, h2, h3, h4⟩ := h
  have hlt : b < w.heap.size := (Array.getElem?_eq_some_iff.1 h2).1
  exact ⟨h1, v, (hb.block b hlt).trans h2, h3.kept (grn_keep11 hb) (by cases v.ownBlock <;> simp), h4⟩
theorem bld_keep11 {B b : Nat} {l : List UInt8} {w w' : World} (h : Bld B b l w) (hb : Below w.heap.size w w') : Bld B b l w' := by
  rcases h with h | h
  · exact .inl (bldAt_keep11 h hb)
  · exact .inr (bldAt_keep11 h hb)
/-- A map's block is turned, or one of another type: the builder stays. -/
theorem bldAt_apart {B b m : Nat} {p : Value} {l : List Value} {w w' : World} (h : Lib.BuilderAtF 125 5 B b p l w) (hg : w.grownBy w' (some m)) (hm : ∀ C T F, w.heap[m]? = some (.cells C T F) → T ≠ 5 ∧ T ≠ 125) : Lib.BuilderAtF 125 5 B b p l w' := by
  obtain ⟨h1, v, h2, h3, h4⟩ := h
  have hlt : b < w.heap.size := (Array.getElem?_eq_some_iff.1 h2).1
  refine ⟨h1, v, (hg.block b hlt (fun e => by injection e with e; subst e; exact (hm _ _ _ h2).2 rfl)).trans h2, h3.kept hg ?_, h4⟩
  rcases h3.2 with ⟨rfl, _⟩ | ⟨g, cap, cur, fz, rfl, hb, hgg, _⟩
  · exact .inl rfl
  · refine .inr ?_
    simp only [Value.ownBlock]
    intro e
    injection e with e
    subst e
    exact (hm _ _ _ hgg).1 rfl
theorem bld_apart {B b m : Nat} {l : List UInt8} {w w' : World} (h : Bld B b l w) (hg : w.grownBy w' (some m)) (hm : ∀ C T F, w.heap[m]? = some (.cells C T F) → T ≠ 5 ∧ T ≠ 125) : Bld B b l w' := by
  rcases h with h | h
  · exact .inl (bldAt_apart h hg hm)
  · exact .inr (bldAt_apart h hg hm)
theorem bld_lt {B b : Nat} {l : List UInt8} {w : World} (h : Bld B b l w) : B ≤ b ∧ b < w.heap.size := by
  rcases h with ⟨h1, v, h2, _⟩ | ⟨h1, v, h2, _⟩ <;> exact ⟨h1, (Array.getElem?_eq_some_iff.1 h2).1⟩
/-- What a builder's cells are. -/
theorem bld_cells {B b : Nat} {l : List UInt8} {w : World} (h : Bld B b l w) : ∃ p a c, Bk w b #[p, .slice a l.length c] 125 := by
  have key : ∀ p, Lib.BuilderAtF 125 5 B b p (Lib.byteCells l) w → ∃ p a c, Bk w b #[p, .slice a l.length c] 125 := by
    rintro p ⟨h1, v, h2, h3, h4⟩
    rw [Lib.byteCells_length] at h3
    rcases h3.2 with ⟨rfl, h0⟩ | ⟨g, cap, cur, fz, rfl, hb, hgg, _⟩
    · have hl : l.length = 0 := h0
      exact ⟨p, none, 0, by rw [hl]; exact h2⟩
    · exact ⟨_, _, _, h2⟩
  rcases h with h | h
  · exact key _ h
  · exact key _ h
end Go.Proofs.YtbdkacfpeokggaaGreatDoor
/- idx.Index.bytes: an index's bytes. -/
namespace Go.Proofs.YtbdkacfpeokggaaGreatDoor
open Go.RowKit
set_option linter.unusedSimpArgs false
set_option linter.unusedVariables false
theorem ix_fan (i : Nat) (hi : i < 256) (cs : Array Value) (v : Value) (hc : cs[i]? = some v) (w : World) : (Instr.index 113 (.agg cs) (.int .i64 (i : Int))).run Tryz.prog w = .ok v w := by
  have h0 : (0 : Int) ≤ (i : Int) := by omega
  have h1 : (i : Int) < 256 := by omega
  have ha : (isAgg 3).run Tryz.prog w = .ok false w := by kernel_rfl
  have hs : (sizeOf 3).run Tryz.prog w = .ok 1 w := by kernel_rfl
  simp [Instr.index, run_underlying Tryz.underlying113, asIntOf, h0, h1, go_sem, part, ha, hs, hc]
  intro q
  omega
theorem oth_below {b : Nat} {w w' : World} (h : Below w.heap.size w w') : Oth b w w' := fun k o hk _ _ => (h.block k (Array.getElem?_eq_some_iff.1 hk).1).trans hk
set_option maxHeartbeats 1000000 in
set_option maxRecDepth 100000 in
/-- The closure putNumber. -/
theorem putN (B b n : Nat) (l : List UInt8) (w : World) (hn : n < 4294967296) (h : Bld B b l w) (hlen : l.length ≤ 100000000) (hBw : B ≤ w.heap.size) :
    Calls Tryz.prog 78 #[.int .i64 (n : Int), .pointer (some ⟨b, 0, none⟩)] w fun e w' => e = .returned (.tuple #[]) ∧ Bld B b (l ++ f4 n) w' ∧ Below B w w' ∧ Oth b w w' := by
  have HP : Hid (Calls Tryz.prog 73 #[.string ⟨#[]⟩, .int .u64 (n : Int), .int .i64 4] w fun e w' => e = .returned (.tuple #[.string (⟨#[]⟩ ++ sb (fixN 4 n)), .int .i64 0]) ∧ Below w.heap.size w w') := by
    have := putFixed_ok ⟨#[]⟩ (n : Int) 4 w (by omega) (by omega) (by decide) (by decide) (by rw [Int.toNat_natCast]; exact hn) (by decide)
    rw [Int.toNat_natCast] at this
    exact this
  obtain ⟨Q, hQ⟩ : ∃ Q : ByteArray, (⟨#[]⟩ ++ sb (fixN 4 n) : ByteArray) = Q := ⟨_, rfl⟩
  have hQb : Q.data.toList = f4 n := by
    show bl Q = f4 n
    rw [← hQ, bl_append, bl_sb]; rfl
  have hQs : Q.size = 4 := by rw [← bl_length]; show Q.data.toList.length = 4; rw [hQb, f4_len]
  rw [hQ] at HP
  have HH : Hid (Bld B b l w) := h
  have HQ : Hid (Q.data.toList = f4 n ∧ Q.size = 4) := ⟨hQb, hQs⟩
  have hw1 : IntKind.u64.wrap (n : Int) = (n : Int) := by
    simp [IntKind.wrap, IntKind.bits, IntKind.signed]; omega
  clear hQ hQb hQs h
  go_enter Tryz.func78, Tryz.ntmps78
  go_wp2_with fail
  refine HP.out.mono ?_
  rintro e w1 ⟨rfl, hb1⟩
  have H1 : Hid (Bld B b l w1) := bld_keep11 HH.out hb1
  have HB1 : Hid (Below w.heap.size w w1) := hb1
  clear hb1
  go_wp2_with fail
  refine (writeS B b l Q w1 H1.out (by rw [HQ.out.2]; omega) (Nat.le_trans hBw HB1.out.size)).mono ?_
  rintro e w2 ⟨rfl, h2, hb2, ho2⟩
  have HE : Hid (Bld B b (l ++ f4 n) w2 ∧ Below B w w2 ∧ Oth b w w2) := ⟨by rw [← HQ.out.1]; exact h2, (HB1.out.mono hBw).trans hb2, (oth_below HB1.out).trans ho2⟩
  clear h2 hb2 ho2
  go_wp2
  go_end0
  exact ⟨rfl, HE.out⟩
end Go.Proofs.YtbdkacfpeokggaaGreatDoor
