import Derived.Test.YtpfknjnigcefgaaGreatDoorY33
import Derived.Test.YtpfknjnigcefgaaGreatDoorY6
import Derived.Deep.AppendLies
import Derived.Test.YtpfknjnigcefgaaGreatDoorY7
/- idx.Sums. -/
namespace Go.Proofs.YtpfknjnigcefgaaGreatDoor
open Go.RowKit
set_option linter.unusedSimpArgs false
set_option linter.unusedVariables false
set_option maxHeartbeats 4000000 in
set_option maxRecDepth 100000 in
theorem sums13 (s : ByteArray) (w : World) (hs : s.size ≤ 140737488351232) (hA : All w) :
    Calls Tryz.prog 14 #[.string s] w fun e w' => SmI s e ∧ Below w.heap.size w w' := by
  have HA : Hid (All w) := hA
  have h1 : (⟨#[105, 100, 120, 45]⟩ : ByteArray) = xF := rfl
  have h3 : (⟨#[46, 105, 120]⟩ : ByteArray) = xE := rfl
  have hz := zero_id
  have hbz : ∀ w, (Instr.build 23 #[]).run Tryz.prog w = .ok (.agg z32c) w := fun w => by kernel_rfl
  have z1 := cpX_size s xF
  have z2 := csX_size (cpX s xF) xE
  obtain ⟨d1, hd1⟩ : ∃ d, cpX s xF = d := ⟨_, rfl⟩
  obtain ⟨p1, hp1⟩ : ∃ p, pfB s xF = p := ⟨_, rfl⟩
  obtain ⟨d2, hd2⟩ : ∃ d, csX d1 xE = d := ⟨_, rfl⟩
  obtain ⟨p2, hp2⟩ : ∃ p, sfB d1 xE = p := ⟨_, rfl⟩
  have HP : Hid (∀ W, Calls Tryz.prog 41 #[.string s, .string xF] W fun e w' => e = .returned (.tuple #[.string d1, .bool p1]) ∧ w' = W) := fun W => by rw [← hd1, ← hp1]; exact cutP s xF W (by omega) (by decide)
  have HS : Hid (∀ W, Calls Tryz.prog 42 #[.string d1, .string xE] W fun e w' => e = .returned (.tuple #[.string d2, .bool p2]) ∧ w' = W) := fun W => by rw [← hd2, ← hp2]; exact cutS d1 xE W (by rw [← hd1]; omega) (by decide)
  have hz2 : d2.size ≤ 140737488351232 := by rw [← hd2, ← hd1]; omega
  have HC : Hid (∀ W, Calls Tryz.prog 43 #[.string d2, .string ⟨#[45]⟩] W fun e w' => CutD d2 e ∧ Below W.heap.size W w') := fun W => cutD d2 W (by omega)
  -- what must hold of a label
  have HNO : Hid ((p1 = false ∨ p2 = false ∨ (45 : UInt8) ∉ bl d2) → ∀ f g, ¬ IsLb s f g) := fun h f g hl => by
    obtain ⟨q1, q2, q3⟩ := lbI_parts f g
    rw [← hl.1] at q1 q2 q3
    rw [hp1] at q1
    rw [hd1, hp2] at q2
    rw [hd1, hd2] at q3
    rcases h with h | h | h
    · rw [h] at q1; cases q1
    · rw [h] at q2; cases q2
    · apply h
      rw [q3, bl_append, bl_append]
      simp [xD, bl]
  have HYES : Hid (p1 = true → p2 = true → ∀ i, i < d2.size → (45 : UInt8) ∉ (bl d2).take i → (bl d2)[i]? = some 45 → s = lbI (d2.extract 0 i) (d2.extract (i + 1) d2.size) ∧ ∀ f g, IsLb s f g → f = d2.extract 0 i ∧ g = d2.extract (i + 1) d2.size) := fun q1 q2 i hi h4 h5 => by
    have e := lbI_of (s := s) (d := d2) (i := i) (by rw [hp1]; exact q1) (by rw [hd1, hp2]; exact q2) (by rw [hd1]; exact hd2) h5 hi
    refine ⟨e, fun f g hl => ?_⟩
    exact lbI_one (hl.1.symm.trans e) hl.dash (by rw [extract_take _ _ (by omega)]; exact h4)
  have HPA : Hid (∀ t W, t.size ≤ 140737488351232 → All W → Calls Tryz.prog 44 #[.string t] W fun e w' => e = .returned (.tuple #[.agg (prA t), .int .i64 (prE t)]) ∧ Below W.heap.size W w') := fun t W ht hW => parse11 t W ht hW
  have S0 : Hid (SU w z32c z32c ((w.alloc (.cells z32c 23)).alloc (.cells z32c 23))) := by
    have := bk_new (w.alloc (.cells z32c 23)) z32c 23
    rw [al_size] at this
    exact ⟨(bk_new _ _ _).alloc _, this, ((Below.refl _ _).alloc (Nat.le_refl _) _).alloc (by rw [al_size]; omega) _⟩
  clear hA hd1 hp1 hd2 hp2 z1 z2
  go_enter Tryz.func14, Tryz.ntmps14
  go_wp2_with (first
    | (go_at_call 41; refine (HP.out _).mono ?_; rintro e w1 ⟨rfl, hw⟩; obtain rfl := hw.symm)
    | (go_at_call 42; refine (HS.out _).mono ?_; rintro e w1 ⟨rfl, hw⟩; obtain rfl := hw.symm)
    | fail)
  refine (HC.out _).mono ?_
  rintro e w3 ⟨hC, hb3⟩
  have S3 : Hid (SU w z32c z32c w3) := S0.out.next hb3
  clear hb3 S0 HC HP HS
  rcases hC with ⟨rfl, hn⟩ | ⟨i, hi, rfl, hn1, hn2⟩
  · have HN : Hid (∀ f g, ¬ IsLb s f g) := HNO.out (.inr (.inr hn))
    clear hn HNO HYES
    cases p1 <;> cases p2
    · go_wp2_with (first
        | (refine wpList_bdX0 rfl 23 rfl (.agg z32c) (hbz _) ?_)
        | (refine wpList_stoX rfl 23 (.tmp 2) (.tmp 39) rfl w.heap.size z32c z32c 23 rfl rfl S3.out.b2 (info_32 z32c_size) rfl z32c_one ?_; intro w7 HB7 HG7; have S7 : Hid (SU w z32c z32c w7) := S3.out.put2 HG7.out HB7.out)
        | (refine wpList_stoX rfl 23 (.tmp 3) (.tmp 40) rfl (w.heap.size + 1) z32c z32c 23 rfl rfl S7.out.b3 (info_32 z32c_size) rfl z32c_one ?_; intro w8 HB8 HG8; have S8 : Hid (SU w z32c z32c w8) := S7.out.put3 HG8.out HB8.out)
        | fail)
      refine bodyPost_ret (results_cct rfl _ _ w.heap.size (w.heap.size + 1) 23 z32c z32c (0, 0) _ rfl rfl S8.out.b2 S8.out.b3 Tryz.underlying23 rfl (info_32 z32c_size) (info_32 z32c_size)) rfl ⟨.inr ⟨HN.out, rfl⟩, S8.out.bel⟩
    · go_wp2_with (first
        | (refine wpList_bdX0 rfl 23 rfl (.agg z32c) (hbz _) ?_)
        | (refine wpList_stoX rfl 23 (.tmp 2) (.tmp 39) rfl w.heap.size z32c z32c 23 rfl rfl S3.out.b2 (info_32 z32c_size) rfl z32c_one ?_; intro w7 HB7 HG7; have S7 : Hid (SU w z32c z32c w7) := S3.out.put2 HG7.out HB7.out)
        | (refine wpList_stoX rfl 23 (.tmp 3) (.tmp 40) rfl (w.heap.size + 1) z32c z32c 23 rfl rfl S7.out.b3 (info_32 z32c_size) rfl z32c_one ?_; intro w8 HB8 HG8; have S8 : Hid (SU w z32c z32c w8) := S7.out.put3 HG8.out HB8.out)
        | fail)
      refine bodyPost_ret (results_cct rfl _ _ w.heap.size (w.heap.size + 1) 23 z32c z32c (0, 0) _ rfl rfl S8.out.b2 S8.out.b3 Tryz.underlying23 rfl (info_32 z32c_size) (info_32 z32c_size)) rfl ⟨.inr ⟨HN.out, rfl⟩, S8.out.bel⟩
    · go_wp2_with (first
        | (refine wpList_bdX0 rfl 23 rfl (.agg z32c) (hbz _) ?_)
        | (refine wpList_stoX rfl 23 (.tmp 2) (.tmp 39) rfl w.heap.size z32c z32c 23 rfl rfl S3.out.b2 (info_32 z32c_size) rfl z32c_one ?_; intro w7 HB7 HG7; have S7 : Hid (SU w z32c z32c w7) := S3.out.put2 HG7.out HB7.out)
        | (refine wpList_stoX rfl 23 (.tmp 3) (.tmp 40) rfl (w.heap.size + 1) z32c z32c 23 rfl rfl S7.out.b3 (info_32 z32c_size) rfl z32c_one ?_; intro w8 HB8 HG8; have S8 : Hid (SU w z32c z32c w8) := S7.out.put3 HG8.out HB8.out)
        | fail)
      refine bodyPost_ret (results_cct rfl _ _ w.heap.size (w.heap.size + 1) 23 z32c z32c (0, 0) _ rfl rfl S8.out.b2 S8.out.b3 Tryz.underlying23 rfl (info_32 z32c_size) (info_32 z32c_size)) rfl ⟨.inr ⟨HN.out, rfl⟩, S8.out.bel⟩
    · go_wp2_with (first
        | (refine wpList_bdX0 rfl 23 rfl (.agg z32c) (hbz _) ?_)
        | (refine wpList_stoX rfl 23 (.tmp 2) (.tmp 39) rfl w.heap.size z32c z32c 23 rfl rfl S3.out.b2 (info_32 z32c_size) rfl z32c_one ?_; intro w7 HB7 HG7; have S7 : Hid (SU w z32c z32c w7) := S3.out.put2 HG7.out HB7.out)
        | (refine wpList_stoX rfl 23 (.tmp 3) (.tmp 40) rfl (w.heap.size + 1) z32c z32c 23 rfl rfl S7.out.b3 (info_32 z32c_size) rfl z32c_one ?_; intro w8 HB8 HG8; have S8 : Hid (SU w z32c z32c w8) := S7.out.put3 HG8.out HB8.out)
        | fail)
      refine bodyPost_ret (results_cct rfl _ _ w.heap.size (w.heap.size + 1) 23 z32c z32c (0, 0) _ rfl rfl S8.out.b2 S8.out.b3 Tryz.underlying23 rfl (info_32 z32c_size) (info_32 z32c_size)) rfl ⟨.inr ⟨HN.out, rfl⟩, S8.out.bel⟩
  · obtain ⟨f, hf⟩ : ∃ f, d2.extract 0 i = f := ⟨_, rfl⟩
    obtain ⟨g, hg⟩ : ∃ g, d2.extract (i + 1) d2.size = g := ⟨_, rfl⟩
    rw [hf, hg]
    by_cases hpp : p1 = true ∧ p2 = true
    · obtain ⟨rfl, rfl⟩ := hpp
      have hyy := HYES.out rfl rfl i hi hn1 hn2
      rw [hf, hg] at hyy
      have HY : Hid (s = lbI f g ∧ ∀ f' g', IsLb s f' g' → f' = f ∧ g' = g) := hyy
      have hfz : f.size ≤ 140737488351232 := by rw [← hf, ← bl_length, extract_take _ _ (by omega), List.length_take, bl_length]; omega
      have hgz : g.size ≤ 140737488351232 := by rw [← hg, ← bl_length, bl_ex, List.length_drop, bl_length]; omega
      have HQ1 : Hid (∀ W, All W → Calls Tryz.prog 44 #[.string f] W fun e w' => e = .returned (.tuple #[.agg (prA f), .int .i64 (prE f)]) ∧ Below W.heap.size W w') := fun W => HPA.out f W hfz
      have HQ2 : Hid (∀ W, All W → Calls Tryz.prog 44 #[.string g] W fun e w' => e = .returned (.tuple #[.agg (prA g), .int .i64 (prE g)]) ∧ Below W.heap.size W w') := fun W => HPA.out g W hgz
      have hF1 := prA_size f
      have hF2 := prA_one f
      have hG1 := prA_size g
      have hG2 := prA_one g
      obtain ⟨F, hFe⟩ : ∃ F, prA f = F := ⟨_, rfl⟩
      obtain ⟨G, hGe⟩ : ∃ G, prA g = G := ⟨_, rfl⟩
      obtain ⟨e1, he1⟩ : ∃ e, prE f = e := ⟨_, rfl⟩
      obtain ⟨e2, he2⟩ : ∃ e, prE g = e := ⟨_, rfl⟩
      have HRES : Hid ((e1 = 0 ∧ e2 = 0 ∧ IsLb s f g ∧ F = pid f ∧ G = pid g) ∨ ((e1 = 4 ∨ (e1 = 0 ∧ e2 = 4)) ∧ ∀ f' g', ¬ IsLb s f' g')) := by
        have no : (¬ (f.size = 64 ∧ uhE f = 0 ∧ g.size = 64 ∧ uhE g = 0)) → ∀ f' g', ¬ IsLb s f' g' := fun q f' g' hl => by
          obtain ⟨rfl, rfl⟩ := HY.out.2 f' g' hl
          exact q ⟨hl.2.1, hl.2.2.2.1, hl.2.2.1, hl.2.2.2.2⟩
        rcases prE_val f with q | q
        · rcases prE_val g with q2 | q2
          · have r1 := (prE_cases f).resolve_right (fun h => h q)
            have r2 := (prE_cases g).resolve_right (fun h => h q2)
            exact .inl ⟨by rw [← he1]; exact q, by rw [← he2]; exact q2, ⟨HY.out.1, r1.2.1, r2.2.1, r1.2.2, r2.2.2⟩, by rw [← hFe, prA, if_pos r1.2.1], by rw [← hGe, prA, if_pos r2.2.1]⟩
          · refine .inr ⟨.inr ⟨by rw [← he1]; exact q, by rw [← he2]; exact q2⟩, no (fun h => ?_)⟩
            rw [prE, if_pos h.2.2.1, h.2.2.2] at q2; omega
        · refine .inr ⟨.inl (by rw [← he1]; exact q), no (fun h => ?_)⟩
          rw [prE, if_pos h.1, h.2.1] at q; omega
      rw [hFe, he1] at HQ1
      rw [hGe, he2] at HQ2
      have HFF : Hid (F.size = 32 ∧ F.all (·.oneCell') = true ∧ G.size = 32 ∧ G.all (·.oneCell') = true) := by rw [← hFe, ← hGe]; exact ⟨hF1, hF2, hG1, hG2⟩
      clear hyy HYES HNO HPA hFe hGe he1 he2 hF1 hF2 hG1 hG2 hn1 hn2 hf hg
      have HAL : Hid (∀ W, Below w.heap.size w W → All W) := fun W hW => HA.out.below hW
      go_wp2_with fail
      refine (HQ1.out w3 (HAL.out _ S3.out.bel)).mono ?_
      rintro e w4 ⟨rfl, hb4⟩
      have S4 : Hid (SU w z32c z32c w4) := S3.out.next hb4
      clear hb4 HQ1 S3
      go_wp2_with (first
        | (refine wpList_stoX rfl 23 (.tmp 2) (.tmp 44) rfl w.heap.size F z32c 23 rfl rfl S4.out.b2 (info_32 HFF.out.1) (by rw [HFF.out.1, z32c_size]) HFF.out.2.1 ?_; intro w5 HB5 HG5; have S5 : Hid (SU w F z32c w5) := S4.out.put2 HG5.out HB5.out)
        | fail)
      refine (HQ2.out w5 (HAL.out _ S5.out.bel)).mono ?_
      rintro e w6 ⟨rfl, hb6⟩
      have S6 : Hid (SU w F z32c w6) := S5.out.next hb6
      clear hb6 HQ2 HB5 HG5 S4
      have hres := HRES.out
      clear HRES
      rcases hres with ⟨rfl, rfl, hIL, hFp, hGp⟩ | ⟨h12, hNo⟩
      · have HIL : Hid (IsLb s f g ∧ F = pid f ∧ G = pid g) := ⟨hIL, hFp, hGp⟩
        clear hIL hFp hGp
        go_wp2_with (first
          | (refine wpList_stoX rfl 23 (.tmp 3) (.tmp 49) rfl (w.heap.size + 1) G z32c 23 rfl rfl S6.out.b3 (info_32 HFF.out.2.2.1) (by rw [HFF.out.2.2.1, z32c_size]) HFF.out.2.2.2 ?_; intro w9 HB9 HG9; have S9 : Hid (SU w F G w9) := S6.out.put3 HG9.out HB9.out)
          | fail)
        have S9d : Hid (SU w F G w9.drew) := S9.out.next ((Below.refl _ _).drew)
        clear HB9 HG9
        refine region_class10 (SU w F G) (by kernel_rfl) (by kernel_rfl) S9d.out ?_
        try simp only [Act.put, List.setIfInBounds_toArray, List.set_cons_zero, List.set_cons_succ]
        repeat (first
          | go_big_quiet_skip
          | (go_big_quiet_want
             first
               | (refine quiet_row 23 _ rfl w.heap.size 0 F F 23 _ rfl (fun _ h => h.b2) (fun j v hv => by rw [Nat.zero_add]; exact hv) Tryz.underlying23 rfl (info_32 HFF.out.1) ?_; go_big_quiet_on; simp only [Act.put, List.setIfInBounds_toArray, List.set_cons_zero, List.set_cons_succ])
               | (refine quiet_row 23 _ rfl (w.heap.size + 1) 0 G G 23 _ rfl (fun _ h => h.b3) (fun j v hv => by rw [Nat.zero_add]; exact hv) Tryz.underlying23 rfl (info_32 HFF.out.2.2.1) ?_; go_big_quiet_on; simp only [Act.put, List.setIfInBounds_toArray, List.set_cons_zero, List.set_cons_succ])
               | (refine quiet_again 23 _ _ rfl w.heap.size F 23 rfl rfl (fun _ h => h.b2) (info_32 HFF.out.1) HFF.out.2.1 ?_; go_big_quiet_on; simp only [Act.put, List.setIfInBounds_toArray, List.set_cons_zero, List.set_cons_succ])
               | (refine quiet_again 23 _ _ rfl (w.heap.size + 1) G 23 rfl rfl (fun _ h => h.b3) (info_32 HFF.out.2.2.1) HFF.out.2.2.2 ?_; go_big_quiet_on; simp only [Act.put, List.setIfInBounds_toArray, List.set_cons_zero, List.set_cons_succ])
               | (go_big_quiet_op; go_big_quiet_on)))
        refine wpQuiet_nil ?_
        intro w12 hw12
        have S12 : Hid (SU w F G w12) := hw12
        clear hw12
        go_wp2
        refine bodyPost_ret (results_cct rfl _ _ w.heap.size (w.heap.size + 1) 23 F G (0, 0) _ rfl rfl S12.out.b2 S12.out.b3 Tryz.underlying23 rfl (info_32 HFF.out.1) (info_32 HFF.out.2.2.1)) rfl ⟨.inl ⟨f, g, HIL.out.1, by rw [← HIL.out.2.1, ← HIL.out.2.2]; rfl⟩, S12.out.bel⟩
      · have HN : Hid (∀ f g, ¬ IsLb s f g) := hNo
        clear hNo
        rcases h12 with rfl | ⟨rfl, rfl⟩
        · go_wp2_with (first
            | (refine wpList_stoX rfl 23 (.tmp 3) (.tmp 49) rfl (w.heap.size + 1) G z32c 23 rfl rfl S6.out.b3 (info_32 HFF.out.2.2.1) (by rw [HFF.out.2.2.1, z32c_size]) HFF.out.2.2.2 ?_; intro w9 HB9 HG9; have S9 : Hid (SU w F G w9) := S6.out.put3 HG9.out HB9.out)
            | (refine wpList_bdX0 rfl 23 rfl (.agg z32c) (hbz _) ?_)
            | (refine wpList_stoX rfl 23 (.tmp 2) (.tmp 57) rfl w.heap.size z32c F 23 rfl rfl S9.out.b2 (info_32 z32c_size) (by rw [HFF.out.1, z32c_size]) z32c_one ?_; intro w7 HB7 HG7; have S7 : Hid (SU w z32c G w7) := S9.out.put2 HG7.out HB7.out)
            | (refine wpList_stoX rfl 23 (.tmp 3) (.tmp 58) rfl (w.heap.size + 1) z32c G 23 rfl rfl S7.out.b3 (info_32 z32c_size) (by rw [HFF.out.2.2.1, z32c_size]) z32c_one ?_; intro w8 HB8 HG8; have S8 : Hid (SU w z32c z32c w8) := S7.out.put3 HG8.out HB8.out)
            | fail)
          refine bodyPost_ret (results_cct rfl _ _ w.heap.size (w.heap.size + 1) 23 z32c z32c (0, 0) _ rfl rfl S8.out.b2 S8.out.b3 Tryz.underlying23 rfl (info_32 z32c_size) (info_32 z32c_size)) rfl ⟨.inr ⟨HN.out, rfl⟩, S8.out.bel⟩
        · go_wp2_with (first
            | (refine wpList_stoX rfl 23 (.tmp 3) (.tmp 49) rfl (w.heap.size + 1) G z32c 23 rfl rfl S6.out.b3 (info_32 HFF.out.2.2.1) (by rw [HFF.out.2.2.1, z32c_size]) HFF.out.2.2.2 ?_; intro w9 HB9 HG9; have S9 : Hid (SU w F G w9) := S6.out.put3 HG9.out HB9.out)
            | (refine wpList_bdX0 rfl 23 rfl (.agg z32c) (hbz _) ?_)
            | (refine wpList_stoX rfl 23 (.tmp 2) (.tmp 57) rfl w.heap.size z32c F 23 rfl rfl S9.out.b2 (info_32 z32c_size) (by rw [HFF.out.1, z32c_size]) z32c_one ?_; intro w7 HB7 HG7; have S7 : Hid (SU w z32c G w7) := S9.out.put2 HG7.out HB7.out)
            | (refine wpList_stoX rfl 23 (.tmp 3) (.tmp 58) rfl (w.heap.size + 1) z32c G 23 rfl rfl S7.out.b3 (info_32 z32c_size) (by rw [HFF.out.2.2.1, z32c_size]) z32c_one ?_; intro w8 HB8 HG8; have S8 : Hid (SU w z32c z32c w8) := S7.out.put3 HG8.out HB8.out)
            | fail)
          refine bodyPost_ret (results_cct rfl _ _ w.heap.size (w.heap.size + 1) 23 z32c z32c (0, 0) _ rfl rfl S8.out.b2 S8.out.b3 Tryz.underlying23 rfl (info_32 z32c_size) (info_32 z32c_size)) rfl ⟨.inr ⟨HN.out, rfl⟩, S8.out.bel⟩
    · have HN : Hid (∀ f g, ¬ IsLb s f g) := by
        refine HNO.out ?_
        cases p1
        · exact .inl rfl
        · cases p2
          · exact .inr (.inl rfl)
          · exact absurd ⟨rfl, rfl⟩ hpp
      clear HNO HYES hn1 hn2 hf hg
      cases p1 <;> cases p2
      · go_wp2_with (first
          | (refine wpList_bdX0 rfl 23 rfl (.agg z32c) (hbz _) ?_)
          | (refine wpList_stoX rfl 23 (.tmp 2) (.tmp 39) rfl w.heap.size z32c z32c 23 rfl rfl S3.out.b2 (info_32 z32c_size) rfl z32c_one ?_; intro w7 HB7 HG7; have S7 : Hid (SU w z32c z32c w7) := S3.out.put2 HG7.out HB7.out)
          | (refine wpList_stoX rfl 23 (.tmp 3) (.tmp 40) rfl (w.heap.size + 1) z32c z32c 23 rfl rfl S7.out.b3 (info_32 z32c_size) rfl z32c_one ?_; intro w8 HB8 HG8; have S8 : Hid (SU w z32c z32c w8) := S7.out.put3 HG8.out HB8.out)
          | fail)
        refine bodyPost_ret (results_cct rfl _ _ w.heap.size (w.heap.size + 1) 23 z32c z32c (0, 0) _ rfl rfl S8.out.b2 S8.out.b3 Tryz.underlying23 rfl (info_32 z32c_size) (info_32 z32c_size)) rfl ⟨.inr ⟨HN.out, rfl⟩, S8.out.bel⟩
      · go_wp2_with (first
          | (refine wpList_bdX0 rfl 23 rfl (.agg z32c) (hbz _) ?_)
          | (refine wpList_stoX rfl 23 (.tmp 2) (.tmp 39) rfl w.heap.size z32c z32c 23 rfl rfl S3.out.b2 (info_32 z32c_size) rfl z32c_one ?_; intro w7 HB7 HG7; have S7 : Hid (SU w z32c z32c w7) := S3.out.put2 HG7.out HB7.out)
          | (refine wpList_stoX rfl 23 (.tmp 3) (.tmp 40) rfl (w.heap.size + 1) z32c z32c 23 rfl rfl S7.out.b3 (info_32 z32c_size) rfl z32c_one ?_; intro w8 HB8 HG8; have S8 : Hid (SU w z32c z32c w8) := S7.out.put3 HG8.out HB8.out)
          | fail)
        refine bodyPost_ret (results_cct rfl _ _ w.heap.size (w.heap.size + 1) 23 z32c z32c (0, 0) _ rfl rfl S8.out.b2 S8.out.b3 Tryz.underlying23 rfl (info_32 z32c_size) (info_32 z32c_size)) rfl ⟨.inr ⟨HN.out, rfl⟩, S8.out.bel⟩
      · go_wp2_with (first
          | (refine wpList_bdX0 rfl 23 rfl (.agg z32c) (hbz _) ?_)
          | (refine wpList_stoX rfl 23 (.tmp 2) (.tmp 39) rfl w.heap.size z32c z32c 23 rfl rfl S3.out.b2 (info_32 z32c_size) rfl z32c_one ?_; intro w7 HB7 HG7; have S7 : Hid (SU w z32c z32c w7) := S3.out.put2 HG7.out HB7.out)
          | (refine wpList_stoX rfl 23 (.tmp 3) (.tmp 40) rfl (w.heap.size + 1) z32c z32c 23 rfl rfl S7.out.b3 (info_32 z32c_size) rfl z32c_one ?_; intro w8 HB8 HG8; have S8 : Hid (SU w z32c z32c w8) := S7.out.put3 HG8.out HB8.out)
          | fail)
        refine bodyPost_ret (results_cct rfl _ _ w.heap.size (w.heap.size + 1) 23 z32c z32c (0, 0) _ rfl rfl S8.out.b2 S8.out.b3 Tryz.underlying23 rfl (info_32 z32c_size) (info_32 z32c_size)) rfl ⟨.inr ⟨HN.out, rfl⟩, S8.out.bel⟩
      · exact absurd ⟨rfl, rfl⟩ hpp
end Go.Proofs.YtpfknjnigcefgaaGreatDoor
/- The walks of the document's own Unhex and Hex (munimentref01), for texts of at most 1048576 bytes. -/
namespace Go.Proofs.YtpfknjnigcefgaaGreatDoor
open Go.RowKit
set_option linter.unusedSimpArgs false
set_option linter.unusedVariables false
theorem news_oneR (w : World) (a : Value) (T : TypeId) : ∀ (j : Nat) (u : Value), [a][j]? = some u → (w.alloc (.cells #[a] T)).cell? ((⟨w.heap.size, 0, none⟩ : Addr).add j) = some u := by
  intro j u h
  rw [WideShapes.add_plain, Nat.zero_add, World.cell?_alloc_new]
  simpa using h
theorem one_one (a : Int) : ∀ u ∈ [Value.int .u8 a], u.oneCell' = true := by
  intro u hu
  simp at hu
  subst hu; rfl
theorem app_below {B n : Nat} {w wr w1 : World} {o : Obj} {v : Value} {xs : List Value} {e : TypeId} (hb : Below B w wr) (hz : B ≤ wr.heap.size) (ho : wr.ownsRow B e 1 v n xs) (hg : (wr.alloc o).grownBy w1 v.ownBlock) : Below B w w1 := by
  refine (hb.alloc hz o).grown hg (by simp; omega) (fun k hk => ?_)
  rcases ho.2 with ⟨rfl, _⟩ | ⟨g, cap, cur, rfl, hle, _⟩
  · cases hk
  · simp [Value.ownBlock] at hk; omega
set_option maxHeartbeats 400000 in
theorem runhex_odd (s : ByteArray) (w : World) (hs : s.size ≤ 140737488351232) (ho : s.size % 2 = 1) :
    Calls Tryz.prog 87 #[.string s] w fun e w' => e = .returned (.tuple #[.string (uhS s), .int .i64 (uhE s)]) ∧ w' = w := by
  have HN := uh_none (unhexL_odd _ (bl s) (Nat.le_refl _) (by rw [bl_length]; exact ho))
  rw [HN.1, HN.2]
  clear HN
  have h1 : (((s.size : Int) % 2) == 1) = true := by rw [beq_iff_eq]; omega
  go_enter Tryz.func87, Tryz.ntmps87
  go_wp2
  go_ret2
  exact ⟨rfl, rfl⟩
set_option maxHeartbeats 800000 in
set_option maxRecDepth 100000 in
theorem runhex_even (s : ByteArray) (w : World) (n : Nat) (hs : s.size ≤ 140737488351232) (ho : s.size = 2 * n) :
    Calls Tryz.prog 87 #[.string s] w fun e w' => e = .returned (.tuple #[.string (uhS s), .int .i64 (uhE s)]) ∧ Below w.heap.size w w' := by
  have h1 : (((s.size : Int) % 2) == 1) = false := by rw [beq_eq_false_iff_ne]; omega
  have HO : Hid (s.size = 2 * n) := ho
  have hn2 : 2 * n ≤ 140737488351232 := by omega
  clear ho
  obtain ⟨i0, hi, hz0, hz1, hz2⟩ := info_parts info_u8
  go_enter Tryz.func87, Tryz.ntmps87
  go_wp2
  go_loopw [4, 5] (fun v i wr => ∃ (k : Nat) (m : List Nat), k ≤ n ∧ i = .int .i64 (2 * (k : Int)) ∧ wr.ownsRow w.heap.size 5 1 v k (bvX m) ∧ Hid (m.length = k ∧ unhexL (bl s) = (unhexL ((bl s).drop (2 * k))).map (m ++ ·)) ∧ Below w.heap.size w wr) (fun _ i _ => (2 * n - (intOf i).toNat))
  case atStart => exact ⟨0, [], by omega, rfl, World.ownsRow_nil _ _ _ _, ⟨rfl, by simp⟩, Below.refl _ _⟩
  case round =>
    obtain ⟨k, m, hk, rfl, hown, HR, hbel⟩ := hrel
    have hb0 := hbel.size
    by_cases hlt : k < n
    · have g1 : 2 * k < s.size := by have := HO.out; omega
      have g2 : 2 * k + 1 < s.size := by have := HO.out; omega
      cases ea : dvl s[2 * k].toNat with
      | none =>
        have HA : Hid (dvl s[2 * k].toNat = none) := ea
        clear ea
        go_wp2_with fail
        refine (digit_any _ _ (by exact s[2 * k].toNat_lt)).mono ?_
        rintro e w1 ⟨rfl, hw1⟩
        subst hw1
        rw [HA.out]
        go_wp2_with fail
        refine (digit_any _ _ (by exact s[2 * k + 1].toNat_lt)).mono ?_
        rintro e w1 ⟨rfl, hw1⟩
        subst hw1
        go_wp2
        go_ret2
        refine ⟨ret_uh ?_, hbel⟩
        have hn := uh_none (unhex_bad s (2 * k) m g2 HR.out.2 (Or.inl HA.out))
        exact ⟨hn.1.symm, hn.2.symm⟩
      | some x =>
        have HA : Hid (dvl s[2 * k].toNat = some x) := ea
        clear ea
        have hx := (dvl_some HA.out).1
        cases eb : dvl s[2 * k + 1].toNat with
        | none =>
          have HB : Hid (dvl s[2 * k + 1].toNat = none) := eb
          clear eb
          go_wp2_with fail
          refine (digit_any _ _ (by exact s[2 * k].toNat_lt)).mono ?_
          rintro e w1 ⟨rfl, hw1⟩
          subst hw1
          rw [HA.out]
          go_wp2_with fail
          refine (digit_any _ _ (by exact s[2 * k + 1].toNat_lt)).mono ?_
          rintro e w1 ⟨rfl, hw1⟩
          subst hw1
          rw [HB.out]
          go_wp2
          go_ret2
          refine ⟨ret_uh ?_, hbel⟩
          have hn := uh_none (unhex_bad s (2 * k) m g2 HR.out.2 (Or.inr HB.out))
          exact ⟨hn.1.symm, hn.2.symm⟩
        | some y =>
          have HB : Hid (dvl s[2 * k + 1].toNat = some y) := eb
          clear eb
          have hy := (dvl_some HB.out).1
          go_wp2_with fail
          refine (digit_any _ _ (by exact s[2 * k].toNat_lt)).mono ?_
          rintro e w1 ⟨rfl, hw1⟩
          subst hw1
          rw [HA.out]
          go_wp2_with fail
          refine (digit_any _ _ (by exact s[2 * k + 1].toNat_lt)).mono ?_
          rintro e w1 ⟨rfl, hw1⟩
          subst hw1
          rw [HB.out]
          go_wp2_with (at_builtin; refine wpList_append_own _ rfl _ _ 82 rfl w.heap.size 5 i0 (.int .u8 0) 1 1 Tryz.underlying82 hi hz0 hz1 hz2 rfl (by decide) _ _ _ rfl (hown.alloc _) ⟨w1.heap.size, 0, none⟩ 1 1 [.int .u8 (16 * (x : Int) + y)] rfl rfl ?c1 ?c2 ?c3 ?c4 ?c5 ?_)
          case c1 => exact news_oneR _ _ _
          case c2 => exact one_one _
          case c3 => unfold maxLen; omega
          case c4 => omega
          case c5 => simp; omega
          intro v' w7 hown1 hgrow _
          go_wp2
          go_roundw
          case rel =>
            obtain ⟨a2, a5⟩ := HR.out
            refine ⟨k + 1, m ++ [x * 16 + y], by omega, by go_num, ?_, ⟨by simp [a2], unhex_step s (2 * k) m x y g2 a5 HA.out HB.out⟩, ?_⟩
            · rw [bvX_append]
              have e : bvX [x * 16 + y] = [.int .u8 (16 * (x : Int) + y)] := by
                show [Value.int .u8 ((x * 16 + y : Nat) : Int)] = _
                congr 2; omega
              rw [e]; exact hown1
            · exact app_below hbel hb0 hown hgrow
          case measure => simp [intOf]; omega
    · have hkn : k = n := by omega
      subst hkn
      have hc := own_conv hown
      have hform : (∃ g c, u4 = .slice (some ⟨g, 0, none⟩) k c) ∨ u4 = .slice none 0 0 := by
        rcases hown.2 with ⟨h, _⟩ | ⟨g, c, _, h, _⟩
        · exact Or.inr h
        · exact Or.inl ⟨g, c, h⟩
      have HR2 : Hid (unhexL (bl s) = (unhexL ((bl s).drop (2 * k))).map (m ++ ·)) := HR.out.2
      have hend : (s.size : Int) ≤ 2 * (k : Int) := by have := HO.out; omega
      clear hown HR
      rcases hform with ⟨g, c, hv⟩ | hv
      · subst hv
        go_wp2
        go_ret2
        refine ⟨ret_uh ?_, hbel⟩
        have hn := uh_some (unhex_all s (2 * k) m (by have := HO.out; omega) HR2.out)
        exact ⟨hn.1.symm, hn.2.symm⟩
      · subst hv
        go_wp2
        go_ret2
        refine ⟨ret_uh ?_, hbel⟩
        have hn := uh_some (unhex_all s (2 * k) m (by have := HO.out; omega) HR2.out)
        exact ⟨hn.1.symm, hn.2.symm⟩
end Go.Proofs.YtpfknjnigcefgaaGreatDoor
/- The walk of the document's own Hex (munimentref01), for texts of at most 1048576 bytes. -/
namespace Go.Proofs.YtpfknjnigcefgaaGreatDoor
open Go.RowKit
set_option linter.unusedSimpArgs false
set_option linter.unusedVariables false
theorem tab_get (v : Nat) (h : v < (⟨#[48, 49, 50, 51, 52, 53, 54, 55, 56, 57, 97, 98, 99, 100, 101, 102]⟩ : ByteArray).size) : ((⟨#[48, 49, 50, 51, 52, 53, 54, 55, 56, 57, 97, 98, 99, 100, 101, 102]⟩ : ByteArray)[v]'h).toNat = dg v := by
  have : ∀ v : Fin 16, ((⟨#[48, 49, 50, 51, 52, 53, 54, 55, 56, 57, 97, 98, 99, 100, 101, 102]⟩ : ByteArray)[v.val]'v.isLt).toNat = dg v.val := by decide
  exact this ⟨v, h⟩
theorem rhex_own (s : ByteArray) (k : Nat) (hk : k < s.size) {w1 : World} {base : Nat} {v : Value} (h : w1.ownsRow base 5 1 v (2 * k + 2) (bvX (hexL ((bl s).take k)) ++ [.int .u8 (dg (s[k].toNat / 16) : Nat), .int .u8 (dg (s[k].toNat % 16) : Nat)])) :
    w1.ownsRow base 5 1 v (2 * (k + 1)) (bvX (hexL ((bl s).take (k + 1)))) := by
  have e : bvX (hexL ((bl s).take (k + 1))) = bvX (hexL ((bl s).take k)) ++ [.int .u8 (dg (s[k].toNat / 16) : Nat), .int .u8 (dg (s[k].toNat % 16) : Nat)] := by
    rw [take_snoc s k hk, hexL_append, bvX_append]; rfl
  rw [e, show 2 * (k + 1) = 2 * k + 2 from by omega]
  exact h
theorem app_below_drew {B n : Nat} {w wr w1 : World} {o : Obj} {v : Value} {xs : List Value} {e : TypeId} (hb : Below B w wr) (hz : B ≤ wr.heap.size) (ho : wr.ownsRow B e 1 v n xs) (hg : ((wr.alloc o).drew).grownBy w1 v.ownBlock) : Below B w w1 := by
  refine ((hb.alloc hz o).drew).grown hg (by show B ≤ (wr.alloc o).heap.size; simp; omega) (fun k hk => ?_)
  rcases ho.2 with ⟨rfl, _⟩ | ⟨g, cap, cur, rfl, hle, _⟩
  · cases hk
  · simp [Value.ownBlock] at hk; omega
set_option maxHeartbeats 800000 in
set_option maxRecDepth 100000 in
theorem rhex_any (s : ByteArray) (w : World) (hs : s.size ≤ 1048576) :
    Calls Tryz.prog 90 #[.string s] w fun e w' => e = .returned (.string (sb (hexL (bl s)))) ∧ Below w.heap.size w w' := by
  obtain ⟨i0, hi, hz0, hz1, hz2⟩ := info_parts info_u8
  have hsz16 : (⟨#[48, 49, 50, 51, 52, 53, 54, 55, 56, 57, 97, 98, 99, 100, 101, 102]⟩ : ByteArray).size = 16 := rfl
  go_enter Tryz.func90, Tryz.ntmps90
  go_wp2
  go_loopw [3, 4] (fun v i wr => ∃ k : Nat, k ≤ s.size ∧ i = .int .i64 k ∧ wr.ownsRow w.heap.size 5 1 v (2 * k) (bvX (hexL ((bl s).take k))) ∧ Below w.heap.size w wr) (fun _ i _ => s.size - (intOf i).toNat)
  case atStart => exact ⟨0, by omega, rfl, World.ownsRow_nil _ _ _ _, Below.refl _ _⟩
  case round =>
    obtain ⟨k, hk, rfl, hown, hbel⟩ := hrel
    have hb0 := hbel.size
    by_cases hlt : k < s.size
    · have hlt256 : s[k].toNat < 256 := s[k].toNat_lt
      have hq1 : IntKind.u8.wrap ((s[k].toNat : Int) / 16) = (s[k].toNat : Int) / 16 := by rw [IntKind.wrap_u8']; omega
      have hq2 : ((s[k].toNat : Int)).tmod 16 = (s[k].toNat : Int) % 16 := Int.tmod_eq_emod_of_nonneg (by omega)
      have hv1 : ((⟨#[48, 49, 50, 51, 52, 53, 54, 55, 56, 57, 97, 98, 99, 100, 101, 102]⟩ : ByteArray)[((s[k].toNat : Int) / 16).toNat]'(by show _ < 16; omega)).toNat = dg (s[k].toNat / 16) := by
        rw [tab_get]; congr 1
      have hv2 : ((⟨#[48, 49, 50, 51, 52, 53, 54, 55, 56, 57, 97, 98, 99, 100, 101, 102]⟩ : ByteArray)[((s[k].toNat : Int) % 16).toNat]'(by show _ < 16; omega)).toNat = dg (s[k].toNat % 16) := by
        rw [tab_get]; congr 1
      have b1 : (0 : Int) ≤ (s[k].toNat : Int) / 16 := by omega
      have b2 : (s[k].toNat : Int) / 16 < 16 := by have := s[k].toNat_lt; omega
      have b3 : (s[k].toNat : Int) % 16 < 16 := by omega
      have b4 : (0 : Int) ≤ (s[k].toNat : Int) % 16 := by omega
      go_wp2_with fail
      go_region_held3 (fun w' => True) (trivial)
        ((refine step_append_lies _ (by rfl) _ _ _ (by rfl) w.heap.size 5 i0 (.int .u8 0) 1 1 Tryz.underlying82 hi hz0 hz1 hz2 rfl (by decide) u3 (2 * k) _ (by rfl) (own_drew hown _) ⟨wr.heap.size, 0, none⟩ 2 2 [.int .u8 (dg (s[k].toNat / 16) : Nat), .int .u8 (dg (s[k].toNat % 16) : Nat)] (by rfl) rfl (news_two wr _ _ _) (one_two _ _) (by omega) (by unfold maxLen; omega) (by omega) (by show w.heap.size ≤ (wr.alloc _).heap.size; simp; omega) (wr.heap.size + 1) (by show (wr.alloc _).heap.size = _; simp) ?_; intro g cap w1 hown1 hgrow hat hlt1))
      all_goals go_wp2
      all_goals go_roundw
      all_goals first
        | exact ⟨k + 1, by omega, by go_num, rhex_own s k hlt hown1, app_below_drew hbel hb0 hown hgrow⟩
        | (simp [intOf]; omega)
    · have hke : k = s.size := by omega
      subst hke
      have hc := own_conv hown
      rw [List.take_of_length_le (by rw [bl_length]; exact Nat.le_refl _)] at hc
      have hform : (∃ g c, u3 = .slice (some ⟨g, 0, none⟩) (2 * s.size) c) ∨ u3 = .slice none 0 0 := by
        rcases hown.2 with ⟨h, _⟩ | ⟨g, c, _, h, _⟩
        · exact Or.inr h
        · exact Or.inl ⟨g, c, h⟩
      clear hown
      rcases hform with ⟨g, c, hv⟩ | hv
      · subst hv
        go_wp2
        go_ret
        exact ⟨rfl, hbel⟩
      · subst hv
        go_wp2
        go_ret
        exact ⟨rfl, hbel⟩
end Go.Proofs.YtpfknjnigcefgaaGreatDoor
/- The document's own Text (munimentref02). -/
namespace Go.Proofs.YtpfknjnigcefgaaGreatDoor
open Go.RowKit
set_option linter.unusedSimpArgs false
set_option linter.unusedVariables false
set_option maxHeartbeats 1000000 in
set_option maxRecDepth 100000 in
theorem rText_any (s : ByteArray) (w : World) (hs : s.size = 32) :
    Calls Tryz.prog 49 #[.agg (idc s)] w fun e w' => e = .returned (.string (sb (hexL (bl s)))) ∧ Below w.heap.size w w' := by
  have h1 := slice32 w.heap.size
  have h2 := conv32 s w.heap.size 23 (w.alloc (.cells (idc s) 23)) hs (blk_new _ _)
  go_enter Tryz.func49, Tryz.ntmps49
  go_wp2_with (go_at_call 90; refine (rhex_any s _ (by omega)).mono ?_; rintro e w1 ⟨rfl, hb1⟩)
  go_ret
  exact ⟨rfl, ((Below.refl _ _).alloc (Nat.le_refl _) _).trans (hb1.mono (by rw [alloc_size]; omega))⟩
end Go.Proofs.YtpfknjnigcefgaaGreatDoor
