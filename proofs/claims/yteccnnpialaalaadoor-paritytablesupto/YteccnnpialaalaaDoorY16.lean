import Derived.Test.YteccnnpialaalaaDoorY15
import Derived.Test.YteccnnpialaalaaDoorY8
import Derived.Test.YteccnnpialaalaaDoorY11
import Derived.Test.YteccnnpialaalaaDoorY12
import Derived.Test.YteccnnpialaalaaDoorY2
import Derived.Test.YteccnnpialaalaaDoorY1
import Derived.RegionTactic
import Derived.ChangeAlike
/- parity.Named. -/
namespace Go.Proofs.YteccnnpialaalaaDoor
open Go.RowKit
set_option linter.unusedSimpArgs false
set_option linter.unusedVariables false
set_option maxHeartbeats 4000000 in
set_option maxRecDepth 100000 in
theorem named17S (s : ByteArray) (w : World) (hs : s.size ≤ 140737488351232) (hA : Dig w) :
    Calls Tryd.prog 14 #[.string s] w fun e w' => SmP17 s e ∧ Below w.heap.size w w' := by
  have HA : Hid (Dig w) := hA
  have h1 : (⟨#[112, 97, 114, 45]⟩ : ByteArray) = pqF17 := rfl
  have h3 : (⟨#[46, 112, 120]⟩ : ByteArray) = pqE17 := rfl
  have hz := zero_id
  have hbz : ∀ w, (Instr.build 27 #[]).run Tryd.prog w = .ok (.agg z32c) w := fun w => by kernel_rfl
  have z1 := cpQ_size17 s pqF17
  have z2 := csQ_size17 (cpQ s pqF17) pqE17
  obtain ⟨d1, hd1⟩ : ∃ d, cpQ s pqF17 = d := ⟨_, rfl⟩
  obtain ⟨p1, hp1⟩ : ∃ p, pfQ s pqF17 = p := ⟨_, rfl⟩
  obtain ⟨d2, hd2⟩ : ∃ d, csQ d1 pqE17 = d := ⟨_, rfl⟩
  obtain ⟨p2, hp2⟩ : ∃ p, sfQ d1 pqE17 = p := ⟨_, rfl⟩
  have HP : Hid (∀ W, Calls Tryd.prog 31 #[.string s, .string pqF17] W fun e w' => e = .returned (.tuple #[.string d1, .bool p1]) ∧ w' = W) := fun W => by rw [← hd1, ← hp1]; exact cutPQ s pqF17 W (by omega) (by decide)
  have HS : Hid (∀ W, Calls Tryd.prog 32 #[.string d1, .string pqE17] W fun e w' => e = .returned (.tuple #[.string d2, .bool p2]) ∧ w' = W) := fun W => by rw [← hd2, ← hp2]; exact cutSQ d1 pqE17 W (by rw [← hd1]; omega) (by decide)
  have hz2 : d2.size ≤ 140737488351232 := by rw [← hd2, ← hd1]; omega
  have HC : Hid (∀ W, Calls Tryd.prog 33 #[.string d2, .string ⟨#[45]⟩] W fun e w' => CutD d2 e ∧ Below W.heap.size W w') := fun W => cutD d2 W (by omega)
  -- what must hold of a label
  have HNO : Hid ((p1 = false ∨ p2 = false ∨ (45 : UInt8) ∉ bl d2) → ∀ f g, ¬ IsLbP17 s f g) := fun h f g hl => by
    obtain ⟨q1, q2, q3⟩ := lbP17_parts f g
    rw [← hl.1] at q1 q2 q3
    rw [hp1] at q1
    rw [hd1, hp2] at q2
    rw [hd1, hd2] at q3
    rcases h with h | h | h
    · rw [h] at q1; cases q1
    · rw [h] at q2; cases q2
    · apply h
      rw [q3, bl_append, bl_append]
      simp [pqD17, bl]
  have HYES : Hid (p1 = true → p2 = true → ∀ i, i < d2.size → (45 : UInt8) ∉ (bl d2).take i → (bl d2)[i]? = some 45 → s = lbP17 (d2.extract 0 i) (d2.extract (i + 1) d2.size) ∧ ∀ f g, IsLbP17 s f g → f = d2.extract 0 i ∧ g = d2.extract (i + 1) d2.size) := fun q1 q2 i hi h4 h5 => by
    have e := lbP17_of (s := s) (d := d2) (i := i) (by rw [hp1]; exact q1) (by rw [hd1, hp2]; exact q2) (by rw [hd1]; exact hd2) h5 hi
    refine ⟨e, fun f g hl => ?_⟩
    exact lbP17_one (hl.1.symm.trans e) hl.dash (by rw [extract_take _ _ (by omega)]; exact h4)
  have HPA : Hid (∀ t W, t.size ≤ 140737488351232 → Dig W → Calls Tryd.prog 34 #[.string t] W fun e w' => e = .returned (.tuple #[.agg (ppA17 t), .int .i64 (ppE17 t)]) ∧ Below W.heap.size W w') := fun t W ht hW => pparse17 t W ht hW
  have S0 : Hid (SU17 w z32c z32c ((w.alloc (.cells z32c 27)).alloc (.cells z32c 27))) := by
    have := bk_new (w.alloc (.cells z32c 27)) z32c 27
    rw [al_size] at this
    exact ⟨(bk_new _ _ _).alloc _, this, ((Below.refl _ _).alloc (Nat.le_refl _) _).alloc (by rw [al_size]; omega) _⟩
  clear hA hd1 hp1 hd2 hp2 z1 z2
  go_enter Tryd.func14, Tryd.ntmps14
  go_wp2_with (first
    | (go_at_call 31; refine (HP.out _).mono ?_; rintro e w1 ⟨rfl, hw⟩; obtain rfl := hw.symm)
    | (go_at_call 32; refine (HS.out _).mono ?_; rintro e w1 ⟨rfl, hw⟩; obtain rfl := hw.symm)
    | fail)
  refine (HC.out _).mono ?_
  rintro e w3 ⟨hC, hb3⟩
  have S3 : Hid (SU17 w z32c z32c w3) := S0.out.next hb3
  clear hb3 S0 HC HP HS
  rcases hC with ⟨rfl, hn⟩ | ⟨i, hi, rfl, hn1, hn2⟩
  · have HN : Hid (∀ f g, ¬ IsLbP17 s f g) := HNO.out (.inr (.inr hn))
    clear hn HNO HYES
    cases p1 <;> cases p2
    · go_wp2_with (first
        | (refine wpList_bdX0 rfl 27 rfl (.agg z32c) (hbz _) ?_)
        | (refine wpList_stoX rfl 27 (.tmp 2) (.tmp 39) rfl w.heap.size z32c z32c 27 rfl rfl S3.out.b2 (info_32 z32c_size) rfl z32c_one ?_; intro w7 HB7 HG7; have S7 : Hid (SU17 w z32c z32c w7) := S3.out.put2 HG7.out HB7.out)
        | (refine wpList_stoX rfl 27 (.tmp 3) (.tmp 40) rfl (w.heap.size + 1) z32c z32c 27 rfl rfl S7.out.b3 (info_32 z32c_size) rfl z32c_one ?_; intro w8 HB8 HG8; have S8 : Hid (SU17 w z32c z32c w8) := S7.out.put3 HG8.out HB8.out)
        | fail)
      refine bodyPost_ret (results_cct17 rfl _ _ w.heap.size (w.heap.size + 1) 27 z32c z32c (0, 0) _ rfl rfl S8.out.b2 S8.out.b3 Tryd.underlying27 rfl (info_32 z32c_size) (info_32 z32c_size)) rfl ⟨.inr ⟨HN.out, rfl⟩, S8.out.bel⟩
    · go_wp2_with (first
        | (refine wpList_bdX0 rfl 27 rfl (.agg z32c) (hbz _) ?_)
        | (refine wpList_stoX rfl 27 (.tmp 2) (.tmp 39) rfl w.heap.size z32c z32c 27 rfl rfl S3.out.b2 (info_32 z32c_size) rfl z32c_one ?_; intro w7 HB7 HG7; have S7 : Hid (SU17 w z32c z32c w7) := S3.out.put2 HG7.out HB7.out)
        | (refine wpList_stoX rfl 27 (.tmp 3) (.tmp 40) rfl (w.heap.size + 1) z32c z32c 27 rfl rfl S7.out.b3 (info_32 z32c_size) rfl z32c_one ?_; intro w8 HB8 HG8; have S8 : Hid (SU17 w z32c z32c w8) := S7.out.put3 HG8.out HB8.out)
        | fail)
      refine bodyPost_ret (results_cct17 rfl _ _ w.heap.size (w.heap.size + 1) 27 z32c z32c (0, 0) _ rfl rfl S8.out.b2 S8.out.b3 Tryd.underlying27 rfl (info_32 z32c_size) (info_32 z32c_size)) rfl ⟨.inr ⟨HN.out, rfl⟩, S8.out.bel⟩
    · go_wp2_with (first
        | (refine wpList_bdX0 rfl 27 rfl (.agg z32c) (hbz _) ?_)
        | (refine wpList_stoX rfl 27 (.tmp 2) (.tmp 39) rfl w.heap.size z32c z32c 27 rfl rfl S3.out.b2 (info_32 z32c_size) rfl z32c_one ?_; intro w7 HB7 HG7; have S7 : Hid (SU17 w z32c z32c w7) := S3.out.put2 HG7.out HB7.out)
        | (refine wpList_stoX rfl 27 (.tmp 3) (.tmp 40) rfl (w.heap.size + 1) z32c z32c 27 rfl rfl S7.out.b3 (info_32 z32c_size) rfl z32c_one ?_; intro w8 HB8 HG8; have S8 : Hid (SU17 w z32c z32c w8) := S7.out.put3 HG8.out HB8.out)
        | fail)
      refine bodyPost_ret (results_cct17 rfl _ _ w.heap.size (w.heap.size + 1) 27 z32c z32c (0, 0) _ rfl rfl S8.out.b2 S8.out.b3 Tryd.underlying27 rfl (info_32 z32c_size) (info_32 z32c_size)) rfl ⟨.inr ⟨HN.out, rfl⟩, S8.out.bel⟩
    · go_wp2_with (first
        | (refine wpList_bdX0 rfl 27 rfl (.agg z32c) (hbz _) ?_)
        | (refine wpList_stoX rfl 27 (.tmp 2) (.tmp 39) rfl w.heap.size z32c z32c 27 rfl rfl S3.out.b2 (info_32 z32c_size) rfl z32c_one ?_; intro w7 HB7 HG7; have S7 : Hid (SU17 w z32c z32c w7) := S3.out.put2 HG7.out HB7.out)
        | (refine wpList_stoX rfl 27 (.tmp 3) (.tmp 40) rfl (w.heap.size + 1) z32c z32c 27 rfl rfl S7.out.b3 (info_32 z32c_size) rfl z32c_one ?_; intro w8 HB8 HG8; have S8 : Hid (SU17 w z32c z32c w8) := S7.out.put3 HG8.out HB8.out)
        | fail)
      refine bodyPost_ret (results_cct17 rfl _ _ w.heap.size (w.heap.size + 1) 27 z32c z32c (0, 0) _ rfl rfl S8.out.b2 S8.out.b3 Tryd.underlying27 rfl (info_32 z32c_size) (info_32 z32c_size)) rfl ⟨.inr ⟨HN.out, rfl⟩, S8.out.bel⟩
  · obtain ⟨f, hf⟩ : ∃ f, d2.extract 0 i = f := ⟨_, rfl⟩
    obtain ⟨g, hg⟩ : ∃ g, d2.extract (i + 1) d2.size = g := ⟨_, rfl⟩
    rw [hf, hg]
    by_cases hpp : p1 = true ∧ p2 = true
    · obtain ⟨rfl, rfl⟩ := hpp
      have hyy := HYES.out rfl rfl i hi hn1 hn2
      rw [hf, hg] at hyy
      have HY : Hid (s = lbP17 f g ∧ ∀ f' g', IsLbP17 s f' g' → f' = f ∧ g' = g) := hyy
      have hfz : f.size ≤ 140737488351232 := by rw [← hf, ← bl_length, extract_take _ _ (by omega), List.length_take, bl_length]; omega
      have hgz : g.size ≤ 140737488351232 := by rw [← hg, ← bl_length, bl_ex, List.length_drop, bl_length]; omega
      have HQ1 : Hid (∀ W, Dig W → Calls Tryd.prog 34 #[.string f] W fun e w' => e = .returned (.tuple #[.agg (ppA17 f), .int .i64 (ppE17 f)]) ∧ Below W.heap.size W w') := fun W => HPA.out f W hfz
      have HQ2 : Hid (∀ W, Dig W → Calls Tryd.prog 34 #[.string g] W fun e w' => e = .returned (.tuple #[.agg (ppA17 g), .int .i64 (ppE17 g)]) ∧ Below W.heap.size W w') := fun W => HPA.out g W hgz
      have hF1 := ppA17_size f
      have hF2 := ppA17_one f
      have hG1 := ppA17_size g
      have hG2 := ppA17_one g
      obtain ⟨F, hFe⟩ : ∃ F, ppA17 f = F := ⟨_, rfl⟩
      obtain ⟨G, hGe⟩ : ∃ G, ppA17 g = G := ⟨_, rfl⟩
      obtain ⟨e1, he1⟩ : ∃ e, ppE17 f = e := ⟨_, rfl⟩
      obtain ⟨e2, he2⟩ : ∃ e, ppE17 g = e := ⟨_, rfl⟩
      have HRES : Hid ((e1 = 0 ∧ e2 = 0 ∧ IsLbP17 s f g ∧ F = pid f ∧ G = pid g) ∨ ((e1 = 4 ∨ (e1 = 0 ∧ e2 = 4)) ∧ ∀ f' g', ¬ IsLbP17 s f' g')) := by
        have no : (¬ (f.size = 64 ∧ uhE f = 0 ∧ g.size = 64 ∧ uhE g = 0)) → ∀ f' g', ¬ IsLbP17 s f' g' := fun q f' g' hl => by
          obtain ⟨rfl, rfl⟩ := HY.out.2 f' g' hl
          exact q ⟨hl.2.1, hl.2.2.2.1, hl.2.2.1, hl.2.2.2.2⟩
        rcases ppE17_val f with q | q
        · rcases ppE17_val g with q2 | q2
          · have r1 := (ppE17_cases f).resolve_right (fun h => h q)
            have r2 := (ppE17_cases g).resolve_right (fun h => h q2)
            exact .inl ⟨by rw [← he1]; exact q, by rw [← he2]; exact q2, ⟨HY.out.1, r1.2.1, r2.2.1, r1.2.2, r2.2.2⟩, by rw [← hFe, ppA17, if_pos r1.2.1], by rw [← hGe, ppA17, if_pos r2.2.1]⟩
          · refine .inr ⟨.inr ⟨by rw [← he1]; exact q, by rw [← he2]; exact q2⟩, no (fun h => ?_)⟩
            rw [ppE17, if_pos h.2.2.1, h.2.2.2] at q2; omega
        · refine .inr ⟨.inl (by rw [← he1]; exact q), no (fun h => ?_)⟩
          rw [ppE17, if_pos h.1, h.2.1] at q; omega
      rw [hFe, he1] at HQ1
      rw [hGe, he2] at HQ2
      have HFF : Hid (F.size = 32 ∧ F.all (·.oneCell') = true ∧ G.size = 32 ∧ G.all (·.oneCell') = true) := by rw [← hFe, ← hGe]; exact ⟨hF1, hF2, hG1, hG2⟩
      clear hyy HYES HNO HPA hFe hGe he1 he2 hF1 hF2 hG1 hG2 hn1 hn2 hf hg
      have HAL : Hid (∀ W, Below w.heap.size w W → Dig W) := fun W hW => HA.out.below hW
      go_wp2_with fail
      refine (HQ1.out w3 (HAL.out _ S3.out.bel)).mono ?_
      rintro e w4 ⟨rfl, hb4⟩
      have S4 : Hid (SU17 w z32c z32c w4) := S3.out.next hb4
      clear hb4 HQ1 S3
      go_wp2_with (first
        | (refine wpList_stoX rfl 27 (.tmp 2) (.tmp 44) rfl w.heap.size F z32c 27 rfl rfl S4.out.b2 (info_32 HFF.out.1) (by rw [HFF.out.1, z32c_size]) HFF.out.2.1 ?_; intro w5 HB5 HG5; have S5 : Hid (SU17 w F z32c w5) := S4.out.put2 HG5.out HB5.out)
        | fail)
      refine (HQ2.out w5 (HAL.out _ S5.out.bel)).mono ?_
      rintro e w6 ⟨rfl, hb6⟩
      have S6 : Hid (SU17 w F z32c w6) := S5.out.next hb6
      clear hb6 HQ2 HB5 HG5 S4
      have hres := HRES.out
      clear HRES
      rcases hres with ⟨rfl, rfl, hIL, hFp, hGp⟩ | ⟨h12, hNo⟩
      · have HIL : Hid (IsLbP17 s f g ∧ F = pid f ∧ G = pid g) := ⟨hIL, hFp, hGp⟩
        clear hIL hFp hGp
        go_wp2_with (first
          | (refine wpList_stoX rfl 27 (.tmp 3) (.tmp 49) rfl (w.heap.size + 1) G z32c 27 rfl rfl S6.out.b3 (info_32 HFF.out.2.2.1) (by rw [HFF.out.2.2.1, z32c_size]) HFF.out.2.2.2 ?_; intro w9 HB9 HG9; have S9 : Hid (SU17 w F G w9) := S6.out.put3 HG9.out HB9.out)
          | fail)
        have S9d : Hid (SU17 w F G w9.drew) := S9.out.next ((Below.refl _ _).drew)
        clear HB9 HG9
        refine region_class10 (SU17 w F G) (by kernel_rfl) (by kernel_rfl) S9d.out ?_
        try simp only [Act.put, List.setIfInBounds_toArray, List.set_cons_zero, List.set_cons_succ]
        repeat (first
          | go_big_quiet_skip
          | (go_big_quiet_want
             first
               | (refine quiet_row 27 _ rfl w.heap.size 0 F F 27 _ rfl (fun _ h => h.b2) (fun j v hv => by rw [Nat.zero_add]; exact hv) Tryd.underlying27 rfl (info_32 HFF.out.1) ?_; go_big_quiet_on; simp only [Act.put, List.setIfInBounds_toArray, List.set_cons_zero, List.set_cons_succ])
               | (refine quiet_row 27 _ rfl (w.heap.size + 1) 0 G G 27 _ rfl (fun _ h => h.b3) (fun j v hv => by rw [Nat.zero_add]; exact hv) Tryd.underlying27 rfl (info_32 HFF.out.2.2.1) ?_; go_big_quiet_on; simp only [Act.put, List.setIfInBounds_toArray, List.set_cons_zero, List.set_cons_succ])
               | (refine quiet_again17 27 _ _ rfl w.heap.size F 27 rfl rfl (fun _ h => h.b2) (info_32 HFF.out.1) HFF.out.2.1 ?_; go_big_quiet_on; simp only [Act.put, List.setIfInBounds_toArray, List.set_cons_zero, List.set_cons_succ])
               | (refine quiet_again17 27 _ _ rfl (w.heap.size + 1) G 27 rfl rfl (fun _ h => h.b3) (info_32 HFF.out.2.2.1) HFF.out.2.2.2 ?_; go_big_quiet_on; simp only [Act.put, List.setIfInBounds_toArray, List.set_cons_zero, List.set_cons_succ])
               | (go_big_quiet_op; go_big_quiet_on)))
        refine wpQuiet_nil ?_
        intro w12 hw12
        have S12 : Hid (SU17 w F G w12) := hw12
        clear hw12
        go_wp2
        refine bodyPost_ret (results_cct17 rfl _ _ w.heap.size (w.heap.size + 1) 27 F G (0, 0) _ rfl rfl S12.out.b2 S12.out.b3 Tryd.underlying27 rfl (info_32 HFF.out.1) (info_32 HFF.out.2.2.1)) rfl ⟨.inl ⟨f, g, HIL.out.1, by rw [← HIL.out.2.1, ← HIL.out.2.2]; rfl⟩, S12.out.bel⟩
      · have HN : Hid (∀ f g, ¬ IsLbP17 s f g) := hNo
        clear hNo
        rcases h12 with rfl | ⟨rfl, rfl⟩
        · go_wp2_with (first
            | (refine wpList_stoX rfl 27 (.tmp 3) (.tmp 49) rfl (w.heap.size + 1) G z32c 27 rfl rfl S6.out.b3 (info_32 HFF.out.2.2.1) (by rw [HFF.out.2.2.1, z32c_size]) HFF.out.2.2.2 ?_; intro w9 HB9 HG9; have S9 : Hid (SU17 w F G w9) := S6.out.put3 HG9.out HB9.out)
            | (refine wpList_bdX0 rfl 27 rfl (.agg z32c) (hbz _) ?_)
            | (refine wpList_stoX rfl 27 (.tmp 2) (.tmp 57) rfl w.heap.size z32c F 27 rfl rfl S9.out.b2 (info_32 z32c_size) (by rw [HFF.out.1, z32c_size]) z32c_one ?_; intro w7 HB7 HG7; have S7 : Hid (SU17 w z32c G w7) := S9.out.put2 HG7.out HB7.out)
            | (refine wpList_stoX rfl 27 (.tmp 3) (.tmp 58) rfl (w.heap.size + 1) z32c G 27 rfl rfl S7.out.b3 (info_32 z32c_size) (by rw [HFF.out.2.2.1, z32c_size]) z32c_one ?_; intro w8 HB8 HG8; have S8 : Hid (SU17 w z32c z32c w8) := S7.out.put3 HG8.out HB8.out)
            | fail)
          refine bodyPost_ret (results_cct17 rfl _ _ w.heap.size (w.heap.size + 1) 27 z32c z32c (0, 0) _ rfl rfl S8.out.b2 S8.out.b3 Tryd.underlying27 rfl (info_32 z32c_size) (info_32 z32c_size)) rfl ⟨.inr ⟨HN.out, rfl⟩, S8.out.bel⟩
        · go_wp2_with (first
            | (refine wpList_stoX rfl 27 (.tmp 3) (.tmp 49) rfl (w.heap.size + 1) G z32c 27 rfl rfl S6.out.b3 (info_32 HFF.out.2.2.1) (by rw [HFF.out.2.2.1, z32c_size]) HFF.out.2.2.2 ?_; intro w9 HB9 HG9; have S9 : Hid (SU17 w F G w9) := S6.out.put3 HG9.out HB9.out)
            | (refine wpList_bdX0 rfl 27 rfl (.agg z32c) (hbz _) ?_)
            | (refine wpList_stoX rfl 27 (.tmp 2) (.tmp 57) rfl w.heap.size z32c F 27 rfl rfl S9.out.b2 (info_32 z32c_size) (by rw [HFF.out.1, z32c_size]) z32c_one ?_; intro w7 HB7 HG7; have S7 : Hid (SU17 w z32c G w7) := S9.out.put2 HG7.out HB7.out)
            | (refine wpList_stoX rfl 27 (.tmp 3) (.tmp 58) rfl (w.heap.size + 1) z32c G 27 rfl rfl S7.out.b3 (info_32 z32c_size) (by rw [HFF.out.2.2.1, z32c_size]) z32c_one ?_; intro w8 HB8 HG8; have S8 : Hid (SU17 w z32c z32c w8) := S7.out.put3 HG8.out HB8.out)
            | fail)
          refine bodyPost_ret (results_cct17 rfl _ _ w.heap.size (w.heap.size + 1) 27 z32c z32c (0, 0) _ rfl rfl S8.out.b2 S8.out.b3 Tryd.underlying27 rfl (info_32 z32c_size) (info_32 z32c_size)) rfl ⟨.inr ⟨HN.out, rfl⟩, S8.out.bel⟩
    · have HN : Hid (∀ f g, ¬ IsLbP17 s f g) := by
        refine HNO.out ?_
        cases p1
        · exact .inl rfl
        · cases p2
          · exact .inr (.inl rfl)
          · exact absurd ⟨rfl, rfl⟩ hpp
      clear HNO HYES hn1 hn2 hf hg
      cases p1 <;> cases p2
      · go_wp2_with (first
          | (refine wpList_bdX0 rfl 27 rfl (.agg z32c) (hbz _) ?_)
          | (refine wpList_stoX rfl 27 (.tmp 2) (.tmp 39) rfl w.heap.size z32c z32c 27 rfl rfl S3.out.b2 (info_32 z32c_size) rfl z32c_one ?_; intro w7 HB7 HG7; have S7 : Hid (SU17 w z32c z32c w7) := S3.out.put2 HG7.out HB7.out)
          | (refine wpList_stoX rfl 27 (.tmp 3) (.tmp 40) rfl (w.heap.size + 1) z32c z32c 27 rfl rfl S7.out.b3 (info_32 z32c_size) rfl z32c_one ?_; intro w8 HB8 HG8; have S8 : Hid (SU17 w z32c z32c w8) := S7.out.put3 HG8.out HB8.out)
          | fail)
        refine bodyPost_ret (results_cct17 rfl _ _ w.heap.size (w.heap.size + 1) 27 z32c z32c (0, 0) _ rfl rfl S8.out.b2 S8.out.b3 Tryd.underlying27 rfl (info_32 z32c_size) (info_32 z32c_size)) rfl ⟨.inr ⟨HN.out, rfl⟩, S8.out.bel⟩
      · go_wp2_with (first
          | (refine wpList_bdX0 rfl 27 rfl (.agg z32c) (hbz _) ?_)
          | (refine wpList_stoX rfl 27 (.tmp 2) (.tmp 39) rfl w.heap.size z32c z32c 27 rfl rfl S3.out.b2 (info_32 z32c_size) rfl z32c_one ?_; intro w7 HB7 HG7; have S7 : Hid (SU17 w z32c z32c w7) := S3.out.put2 HG7.out HB7.out)
          | (refine wpList_stoX rfl 27 (.tmp 3) (.tmp 40) rfl (w.heap.size + 1) z32c z32c 27 rfl rfl S7.out.b3 (info_32 z32c_size) rfl z32c_one ?_; intro w8 HB8 HG8; have S8 : Hid (SU17 w z32c z32c w8) := S7.out.put3 HG8.out HB8.out)
          | fail)
        refine bodyPost_ret (results_cct17 rfl _ _ w.heap.size (w.heap.size + 1) 27 z32c z32c (0, 0) _ rfl rfl S8.out.b2 S8.out.b3 Tryd.underlying27 rfl (info_32 z32c_size) (info_32 z32c_size)) rfl ⟨.inr ⟨HN.out, rfl⟩, S8.out.bel⟩
      · go_wp2_with (first
          | (refine wpList_bdX0 rfl 27 rfl (.agg z32c) (hbz _) ?_)
          | (refine wpList_stoX rfl 27 (.tmp 2) (.tmp 39) rfl w.heap.size z32c z32c 27 rfl rfl S3.out.b2 (info_32 z32c_size) rfl z32c_one ?_; intro w7 HB7 HG7; have S7 : Hid (SU17 w z32c z32c w7) := S3.out.put2 HG7.out HB7.out)
          | (refine wpList_stoX rfl 27 (.tmp 3) (.tmp 40) rfl (w.heap.size + 1) z32c z32c 27 rfl rfl S7.out.b3 (info_32 z32c_size) rfl z32c_one ?_; intro w8 HB8 HG8; have S8 : Hid (SU17 w z32c z32c w8) := S7.out.put3 HG8.out HB8.out)
          | fail)
        refine bodyPost_ret (results_cct17 rfl _ _ w.heap.size (w.heap.size + 1) 27 z32c z32c (0, 0) _ rfl rfl S8.out.b2 S8.out.b3 Tryd.underlying27 rfl (info_32 z32c_size) (info_32 z32c_size)) rfl ⟨.inr ⟨HN.out, rfl⟩, S8.out.bel⟩
      · exact absurd ⟨rfl, rfl⟩ hpp
theorem named17 (s : ByteArray) (w : World) (hs : s.size ≤ 140737488351232) (hA : Dig w) :
    Calls Tryd.prog 14 #[.string s] w fun e w' => PnR s e ∧ Below w.heap.size w w' :=
  (named17S s w hs hA).mono fun e w' h => ⟨h.1.to, h.2⟩
end Go.Proofs.YteccnnpialaalaaDoor
/- parity: the document's Named. -/
namespace Go.Proofs.YteccnnpialaalaaDoor
open Go.RowKit
set_option linter.unusedSimpArgs false
set_option linter.unusedVariables false
theorem rp_good {x : ByteArray} (hx : x.size = 32) : uhE (sb (hexL (bl x))) = 0 ∧ uhS (sb (hexL (bl x))) = x ∧ rpE17 (sb (hexL (bl x))) = 0 ∧ rpA17 (sb (hexL (bl x))) = idc x := by
  obtain ⟨a, b⟩ := uh_hex x
  refine ⟨b, a, ?_, ?_⟩
  · rw [rpE17, if_pos ⟨b, by rw [a]; exact hx⟩]
  · rw [rpA17, if_pos ⟨b, by rw [a]; exact hx⟩, a]
set_option maxHeartbeats 4000000 in
set_option maxRecDepth 100000 in
theorem rnamed17_no (s : ByteArray) (w : World) (h : s.size ≠ 136) : Calls Tryd.prog 13 #[.string s] w fun e w' => PnR s e ∧ Below w.heap.size w w' := by
  have HR : Hid (PnR s (.returned (.tuple #[.agg z32c, .agg z32c, .int .i64 10]))) := .inr ⟨fun x y hx hy e => h (by rw [e]; exact (pn_parts hx hy).1), rfl⟩
  have hz := zero_id
  have hbz : ∀ w, (Instr.build 27 #[]).run Tryd.prog w = .ok (.agg z32c) w := fun w => by kernel_rfl
  have S0 : Hid (SU17 w z32c z32c ((w.alloc (.cells z32c 27)).alloc (.cells z32c 27))) := by
    have := bk_new (w.alloc (.cells z32c 27)) z32c 27
    rw [al_size] at this
    exact ⟨(bk_new _ _ _).alloc _, this, ((Below.refl _ _).alloc (Nat.le_refl _) _).alloc (by rw [al_size]; omega) _⟩
  have e1 : ((s.size : Int) != 136) = true := by rw [bne_iff_ne]; omega
  clear h
  go_enter Tryd.func13, Tryd.ntmps13
  go_wp2_with (first
    | (refine wpList_bdX0 rfl 27 rfl (.agg z32c) (hbz _) ?_)
    | (refine wpList_stoX rfl 27 (.tmp 2) (.tmp 12) rfl w.heap.size z32c z32c 27 rfl rfl S0.out.b2 (info_32 z32c_size) rfl z32c_one ?_; intro w7 HB7 HG7; have S7 : Hid (SU17 w z32c z32c w7) := S0.out.put2 HG7.out HB7.out)
    | (refine wpList_stoX rfl 27 (.tmp 3) (.tmp 13) rfl (w.heap.size + 1) z32c z32c 27 rfl rfl S7.out.b3 (info_32 z32c_size) rfl z32c_one ?_; intro w8 HB8 HG8; have S8 : Hid (SU17 w z32c z32c w8) := S7.out.put3 HG8.out HB8.out)
    | fail)
  refine bodyPost_ret (results_cct17 rfl _ _ w.heap.size (w.heap.size + 1) 27 z32c z32c (0, 0) _ rfl rfl S8.out.b2 S8.out.b3 Tryd.underlying27 rfl (info_32 z32c_size) (info_32 z32c_size)) rfl ⟨by exact HR.out, by exact S8.out.bel⟩
set_option maxHeartbeats 8000000 in
set_option maxRecDepth 100000 in
theorem rnamed17_yes (s : ByteArray) (w : World) (h1 : s.size = 136) : Calls Tryd.prog 13 #[.string s] w fun e w' => PnR s e ∧ Below w.heap.size w w' := by
  obtain ⟨f, hf⟩ : ∃ f, s.extract 4 68 = f := ⟨_, rfl⟩
  obtain ⟨g, hg⟩ : ∃ g, s.extract 69 133 = g := ⟨_, rfl⟩
  have HNO : Hid ((¬ (rpE17 f = 0 ∧ rpE17 g = 0) ∨ pnN (uhS f) (uhS g) ≠ s) → PnR s (.returned (.tuple #[.agg z32c, .agg z32c, .int .i64 10]))) := fun q => by
    refine .inr ⟨fun x y hx hy e => ?_, rfl⟩
    obtain ⟨_, p1, p2⟩ := pn_parts hx hy
    rw [← e, hf] at p1
    rw [← e, hg] at p2
    obtain ⟨_, a2, a3, _⟩ := rp_good hx
    obtain ⟨_, b2, b3, _⟩ := rp_good hy
    rw [← p1] at a2 a3
    rw [← p2] at b2 b3
    rcases q with q | q
    · exact q ⟨a3, b3⟩
    · exact q (by rw [a2, b2, e])
  have HYES : Hid (rpE17 f = 0 → rpE17 g = 0 → (uhS f).size = 32 ∧ (uhS g).size = 32 ∧ rpA17 f = idc (uhS f) ∧ rpA17 g = idc (uhS g)) := fun q1 q2 => by
    have hh : ∀ t, rpE17 t = 0 → (uhS t).size = 32 ∧ rpA17 t = idc (uhS t) := fun t q => by
      unfold rpE17 at q
      split at q
      · rename_i hh; exact ⟨hh.2, by rw [rpA17, if_pos hh]⟩
      · omega
    exact ⟨(hh f q1).1, (hh g q2).1, (hh f q1).2, (hh g q2).2⟩
  have e1 : ((s.size : Int) != 136) = false := by rw [bne_eq_false_iff_eq]; omega
  have z68b : (68 : Int) ≤ (s.size : Int) := by omega
  have z133 : (133 : Int) ≤ (s.size : Int) := by omega
  have hfz : f.size ≤ 140737488351232 := by rw [← hf, ByteArray.size_extract]; omega
  have hgz : g.size ≤ 140737488351232 := by rw [← hg, ByteArray.size_extract]; omega
  have HPF : Hid (∀ W, Calls Tryd.prog 30 #[.string f] W fun e w' => e = .returned (.tuple #[.agg (rpA17 f), .int .i64 (rpE17 f)]) ∧ Below W.heap.size W w') := fun W => rparse17 f W hfz
  have HPG : Hid (∀ W, Calls Tryd.prog 30 #[.string g] W fun e w' => e = .returned (.tuple #[.agg (rpA17 g), .int .i64 (rpE17 g)]) ∧ Below W.heap.size W w') := fun W => rparse17 g W hgz
  have HAF : Hid ((rpA17 f).size = 32 ∧ (rpA17 f).all (·.oneCell') = true ∧ (rpA17 g).size = 32 ∧ (rpA17 g).all (·.oneCell') = true ∧ (rpE17 f = 0 ∨ rpE17 f = 4) ∧ (rpE17 g = 0 ∨ rpE17 g = 4)) := ⟨rpA17_size f, rpA17_one f, rpA17_size g, rpA17_one g, rpE_val17 f, rpE_val17 g⟩
  obtain ⟨A, hA⟩ : ∃ A, rpA17 f = A := ⟨_, rfl⟩
  obtain ⟨B, hB⟩ : ∃ B, rpA17 g = B := ⟨_, rfl⟩
  obtain ⟨E, hE⟩ : ∃ E, rpE17 f = E := ⟨_, rfl⟩
  obtain ⟨F, hF⟩ : ∃ F, rpE17 g = F := ⟨_, rfl⟩
  obtain ⟨x, hx⟩ : ∃ x, uhS f = x := ⟨_, rfl⟩
  obtain ⟨y, hy⟩ : ∃ x, uhS g = x := ⟨_, rfl⟩
  rw [hA, hE] at HPF
  rw [hB, hF] at HPG
  rw [hA, hB, hE, hF] at HAF
  rw [hE, hF, hx, hy] at HNO
  rw [hE, hF, hx, hy, hA, hB] at HYES
  have hz := zero_id
  have hbz : ∀ w, (Instr.build 27 #[]).run Tryd.prog w = .ok (.agg z32c) w := fun w => by kernel_rfl
  have S0 : Hid (SU17 w z32c z32c ((w.alloc (.cells z32c 27)).alloc (.cells z32c 27))) := by
    have := bk_new (w.alloc (.cells z32c 27)) z32c 27
    rw [al_size] at this
    exact ⟨(bk_new _ _ _).alloc _, this, ((Below.refl _ _).alloc (Nat.le_refl _) _).alloc (by rw [al_size]; omega) _⟩
  clear h1 hA hB hE hF hx hy hfz hgz
  go_enter Tryd.func13, Tryd.ntmps13
  go_wp2_with fail
  refine (HPF.out _).mono ?_
  rintro e w1 ⟨rfl, hb1⟩
  have S1 : Hid (SU17 w z32c z32c w1) := S0.out.next hb1
  clear hb1 HPF S0
  have hl1 : w.heap.size + 1 < w1.heap.size := S1.out.b3.lt
  go_wp2_with (first
    | (refine wpList_store_new rfl 27 (.tmp 5) (.tmp 18) rfl A _ 27 w1.heap.size rfl rfl rfl (info_32 HAF.out.1) (by rw [HAF.out.1, z32c_size]) HAF.out.2.1 ?_)
    | fail)
  refine (HPG.out _).mono ?_
  rintro e w2 ⟨rfl, hb2⟩
  have V2 : Hid (SV17 w z32c z32c w1.heap.size A w2.heap.size B (w2.alloc (.cells B 27))) := by
    have hb := (Below.refl w1.heap.size w1).alloc (Nat.le_refl _) (.cells A 27)
    have hba := (Below.refl w2.heap.size w2).alloc (Nat.le_refl _) (.cells B 27)
    have q := (bk_new w1 A 27).below hb2 (bk_new _ _ _).lt
    exact ⟨((S1.out.next hb).next hb2).next hba, q.below hba q.lt, bk_new _ _ _, hl1, by have := q.lt; omega⟩
  clear hb2 HPG S1
  have HI : Hid ((Tryd.prog.info? 27).map (·.size) = some A.size ∧ (Tryd.prog.info? 27).map (·.size) = some B.size) := ⟨info_32 HAF.out.1, info_32 HAF.out.2.2.1⟩
  by_cases hok : E = 0 ∧ F = 0
  · obtain ⟨rfl, rfl⟩ := hok
    obtain ⟨zx, zy, ax, ay⟩ := HYES.out rfl rfl
    have HNM : Hid (∀ W, Calls Tryd.prog 16 #[.agg A, .agg B] W fun e w' => e = .returned (.string (pnN x y)) ∧ Below W.heap.size W w') := fun W => by rw [ax, ay]; exact rname17 x y W zx zy
    have HXY : Hid (x.size = 32 ∧ y.size = 32 ∧ A = idc x ∧ B = idc y) := ⟨zx, zy, ax, ay⟩
    obtain ⟨W, hW⟩ : ∃ W, w2.alloc (.cells B 27) = W := ⟨_, rfl⟩
    rw [hW] at V2
    clear zx zy ax ay
    go_upto_region 5 with (first
      | (refine wpList_store_new rfl 27 (.tmp 7) (.tmp 24) rfl B _ 27 w2.heap.size rfl rfl rfl HI.out.2 (by rw [HAF.out.2.2.1, z32c_size]) HAF.out.2.2.2.1 ?_)
      | fail)
    try rw [hW]
    clear hW
    obtain ⟨N, hN⟩ : ∃ N, pnN x y = N := ⟨_, rfl⟩
    rw [hN] at HNM HNO
    have HNE : Hid (pnN x y = N) := hN
    clear hN
    by_cases hns : N = s
    · have hee : (N.toList != s.toList) = false := by rw [hns]; simp
      refine region_plain11 (SV17 w z32c z32c w1.heap.size A w2.heap.size B) V2.out ?_
      repeat (first
        | go_big_quiet_skip
        | (go_big_quiet_want
           first
             | (refine quiet_row 27 _ rfl w1.heap.size 0 A A 27 _ rfl (fun W hW => hW.a) (fun j v hv => by rw [Nat.zero_add]; exact hv) Tryd.underlying27 rfl HI.out.1 ?_; go_big_quiet_on; simp only [Act.put, List.setIfInBounds_toArray, List.set_cons_zero, List.set_cons_succ])
             | (refine quiet_row 27 _ rfl w2.heap.size 0 B B 27 _ rfl (fun W hW => hW.b) (fun j v hv => by rw [Nat.zero_add]; exact hv) Tryd.underlying27 rfl HI.out.2 ?_; go_big_quiet_on; simp only [Act.put, List.setIfInBounds_toArray, List.set_cons_zero, List.set_cons_succ])
             | (refine quiet_call10 (.string N) 16 #[.agg A, .agg B] ?_ ?_ ?_; (focus (intro W hW; go_simp; done)); (focus (intro W hW; exact (HNM.out W).mono fun e w' q => ⟨q.1, hW.next q.2⟩)); go_big_quiet_on; simp only [Act.put, List.setIfInBounds_toArray, List.set_cons_zero, List.set_cons_succ])
             | (refine quiet_val10 (.bool false) ?_ ?_; (focus (intro W hW; go_simp; done)); go_big_quiet_on; simp only [Act.put, List.setIfInBounds_toArray, List.set_cons_zero, List.set_cons_succ])
             | (refine quiet_val10 (.bool true) ?_ ?_; (focus (intro W hW; go_simp; done)); go_big_quiet_on; simp only [Act.put, List.setIfInBounds_toArray, List.set_cons_zero, List.set_cons_succ])
             | (go_big_quiet_op; go_big_quiet_on)))
      refine wpQuiet_nil ?_
      intro W9 hw9
      have HS : Hid (PnR s (.returned (.tuple #[.agg A, .agg B, .int .i64 0]))) := .inl ⟨x, y, HXY.out.1, HXY.out.2.1, by rw [HNE.out, hns], by rw [HXY.out.2.2.1, HXY.out.2.2.2]⟩
      have V3 : SV17 w z32c z32c w1.heap.size A w2.heap.size B W9.drew := hw9.next (Below.refl _ _).drew
      obtain ⟨W4, s4, q4, q5⟩ := row_stored (P := Tryd.prog) (ty := 27) V3.su.b2 HI.out.1 (by rw [HAF.out.1, z32c_size]) HAF.out.2.1
      have V4 := V3.put2 q5 q4
      obtain ⟨W5, s5, q6, q7⟩ := row_stored (P := Tryd.prog) (ty := 27) V4.su.b3 HI.out.2 (by rw [HAF.out.2.2.1, z32c_size]) HAF.out.2.2.2.1
      have V5 := V4.put3 q7 q6
      have V6 : Hid (SV17 w A B w1.heap.size A w2.heap.size B W5) := V5
      have HRUN : Hid ((storeVar 27 ⟨w.heap.size, 0, none⟩ (.agg A)).run Tryd.prog W9.drew = .ok () W4 ∧ (storeVar 27 ⟨w.heap.size + 1, 0, none⟩ (.agg B)).run Tryd.prog W4 = .ok () W5) := ⟨s4, s5⟩
      have HSS : Hid ((Bk W9.drew w1.heap.size A 27 ∧ Bk W9.drew w2.heap.size B 27) ∧ (Bk W4 w1.heap.size A 27 ∧ Bk W4 w2.heap.size B 27) ∧ (Bk W5 w1.heap.size A 27 ∧ Bk W5 w2.heap.size B 27)) := ⟨⟨V3.a, V3.b⟩, ⟨V4.a, V4.b⟩, ⟨V5.a, V5.b⟩⟩
      clear hw9 V2 V3 V4 V5 s4 s5 q4 q5 q6 q7 hee hns HNM HNO HNE
      go_upto_region 7 with fail
      refine wp_region_two (fun W' => Bk W' w1.heap.size A 27 ∧ Bk W' w2.heap.size B 27) (by kernel_rfl) ?hB ?g0 ?g1 ?g2 ?g3 ?g4 ?d2 ?d3 (.agg A) (.agg B) (.int .i64 0) W4 W5 HSS.out.1 HSS.out.2.1 HSS.out.2.2 ?h0 ?h1 ?h2 ?h3 ?h4 ?h5
      case hB => kernel_rfl
      case g0 => rfl
      case g1 => rfl
      case g2 => rfl
      case g3 => rfl
      case g4 => rfl
      case d2 => rfl
      case d3 => rfl
      case h0 => exact fun W' hW' => exec_load (t := 27) (x := .tmp 5) (b := ⟨w1.heap.size, 0, none⟩) rfl rfl (run_loadVar_row _ _ 27 _ _ _ _ hW'.1 Tryd.underlying27 rfl HI.out.1)
      case h1 => exact fun W' hW' => exec_load (t := 27) (x := .tmp 7) (b := ⟨w2.heap.size, 0, none⟩) rfl rfl (run_loadVar_row _ _ 27 _ _ _ _ hW'.2 Tryd.underlying27 rfl HI.out.2)
      case h2 => exact exec_store (t := 27) (x := .tmp 2) (y := .tmp 41) (b := ⟨w.heap.size, 0, none⟩) (v := .agg A) rfl rfl rfl HRUN.out.1
      case h3 => exact exec_store (t := 27) (x := .tmp 3) (y := .tmp 42) (b := ⟨w.heap.size + 1, 0, none⟩) (v := .agg B) rfl rfl rfl HRUN.out.2
      case h4 => exact exec_assign (x := .const (.int .i64 0)) rfl
      simp only [Act.put, List.setIfInBounds_toArray, List.set_cons_zero, List.set_cons_succ]
      go_wp2
      refine bodyPost_ret (results_cct17 rfl _ _ w.heap.size (w.heap.size + 1) 27 A B (0, 0) _ rfl rfl V6.out.su.b2 V6.out.su.b3 Tryd.underlying27 rfl HI.out.1 HI.out.2) rfl ⟨by exact HS.out, by exact V6.out.su.bel⟩
    · have hee : (N.toList != s.toList) = true := by rw [bne_iff_ne, Lib.toList_data, Lib.toList_data]; intro e; exact hns (bl_inj e)
      have HS : Hid (PnR s (.returned (.tuple #[.agg z32c, .agg z32c, .int .i64 10]))) := HNO.out (.inr hns)
      have hee2 : (N.toList == s.toList) = false := str_neQ hns
      refine region_plain11 (SV17 w z32c z32c w1.heap.size A w2.heap.size B) V2.out ?_
      repeat (first
        | go_big_quiet_skip
        | (go_big_quiet_want
           first
             | (refine quiet_row 27 _ rfl w1.heap.size 0 A A 27 _ rfl (fun W hW => hW.a) (fun j v hv => by rw [Nat.zero_add]; exact hv) Tryd.underlying27 rfl HI.out.1 ?_; go_big_quiet_on; simp only [Act.put, List.setIfInBounds_toArray, List.set_cons_zero, List.set_cons_succ])
             | (refine quiet_row 27 _ rfl w2.heap.size 0 B B 27 _ rfl (fun W hW => hW.b) (fun j v hv => by rw [Nat.zero_add]; exact hv) Tryd.underlying27 rfl HI.out.2 ?_; go_big_quiet_on; simp only [Act.put, List.setIfInBounds_toArray, List.set_cons_zero, List.set_cons_succ])
             | (refine quiet_call10 (.string N) 16 #[.agg A, .agg B] ?_ ?_ ?_; (focus (intro W hW; go_simp; done)); (focus (intro W hW; exact (HNM.out W).mono fun e w' q => ⟨q.1, hW.next q.2⟩)); go_big_quiet_on; simp only [Act.put, List.setIfInBounds_toArray, List.set_cons_zero, List.set_cons_succ])
             | (refine quiet_val10 (.bool false) ?_ ?_; (focus (intro W hW; go_simp; done)); go_big_quiet_on; simp only [Act.put, List.setIfInBounds_toArray, List.set_cons_zero, List.set_cons_succ])
             | (refine quiet_val10 (.bool true) ?_ ?_; (focus (intro W hW; go_simp; done)); go_big_quiet_on; simp only [Act.put, List.setIfInBounds_toArray, List.set_cons_zero, List.set_cons_succ])
             | (go_big_quiet_op; go_big_quiet_on)))
      refine wpQuiet_nil ?_
      intro W9 hw9
      have V9 : Hid (SV17 w z32c z32c w1.heap.size A w2.heap.size B W9) := hw9
      clear hw9 V2 hee hee2 hns HNM HNO HNE
      go_wp2_with (first
        | (refine wpList_bdX0 rfl 27 rfl (.agg z32c) (hbz _) ?_)
        | (refine wpList_stoX rfl 27 (.tmp 2) (.tmp 39) rfl w.heap.size z32c z32c 27 rfl rfl V9.out.su.b2 (info_32 z32c_size) rfl z32c_one ?_; intro w7 HB7 HG7; have S7 : Hid (SV17 w z32c z32c w1.heap.size A w2.heap.size B w7) := V9.out.put2 HG7.out HB7.out)
        | (refine wpList_stoX rfl 27 (.tmp 3) (.tmp 40) rfl (w.heap.size + 1) z32c z32c 27 rfl rfl S7.out.su.b3 (info_32 z32c_size) rfl z32c_one ?_; intro w8 HB8 HG8; have S8 : Hid (SV17 w z32c z32c w1.heap.size A w2.heap.size B w8) := S7.out.put3 HG8.out HB8.out)
        | fail)
      refine bodyPost_ret (results_cct17 rfl _ _ w.heap.size (w.heap.size + 1) 27 z32c z32c (0, 0) _ rfl rfl S8.out.su.b2 S8.out.su.b3 Tryd.underlying27 rfl (info_32 z32c_size) (info_32 z32c_size)) rfl ⟨by exact HS.out, by exact S8.out.su.bel⟩
  · have HS : Hid (PnR s (.returned (.tuple #[.agg z32c, .agg z32c, .int .i64 10]))) := HNO.out (.inl hok)
    rcases HAF.out.2.2.2.2.1 with rfl | rfl
    · obtain rfl : F = 4 := by
        rcases HAF.out.2.2.2.2.2 with h | h
        · exact absurd ⟨rfl, h⟩ hok
        · exact h
      clear hok HNO HYES
      go_wp2_with (first
        | (refine wpList_store_new rfl 27 (.tmp 7) (.tmp 24) rfl B _ 27 w2.heap.size rfl rfl rfl HI.out.2 (by rw [HAF.out.2.2.1, z32c_size]) HAF.out.2.2.2.1 ?_)
        | (refine wpList_bdX0 rfl 27 rfl (.agg z32c) (hbz _) ?_)
        | (refine wpList_stoX rfl 27 (.tmp 2) (.tmp 39) rfl w.heap.size z32c z32c 27 rfl rfl V2.out.su.b2 (info_32 z32c_size) rfl z32c_one ?_; intro w7 HB7 HG7; have S7 : Hid (SV17 w z32c z32c w1.heap.size A w2.heap.size B w7) := V2.out.put2 HG7.out HB7.out)
        | (refine wpList_stoX rfl 27 (.tmp 3) (.tmp 40) rfl (w.heap.size + 1) z32c z32c 27 rfl rfl S7.out.su.b3 (info_32 z32c_size) rfl z32c_one ?_; intro w8 HB8 HG8; have S8 : Hid (SV17 w z32c z32c w1.heap.size A w2.heap.size B w8) := S7.out.put3 HG8.out HB8.out)
        | fail)
      refine bodyPost_ret (results_cct17 rfl _ _ w.heap.size (w.heap.size + 1) 27 z32c z32c (0, 0) _ rfl rfl S8.out.su.b2 S8.out.su.b3 Tryd.underlying27 rfl (info_32 z32c_size) (info_32 z32c_size)) rfl ⟨by exact HS.out, by exact S8.out.su.bel⟩
    · clear hok HNO HYES
      go_wp2_with (first
        | (refine wpList_store_new rfl 27 (.tmp 7) (.tmp 24) rfl B _ 27 w2.heap.size rfl rfl rfl HI.out.2 (by rw [HAF.out.2.2.1, z32c_size]) HAF.out.2.2.2.1 ?_)
        | (refine wpList_bdX0 rfl 27 rfl (.agg z32c) (hbz _) ?_)
        | (refine wpList_stoX rfl 27 (.tmp 2) (.tmp 39) rfl w.heap.size z32c z32c 27 rfl rfl V2.out.su.b2 (info_32 z32c_size) rfl z32c_one ?_; intro w7 HB7 HG7; have S7 : Hid (SV17 w z32c z32c w1.heap.size A w2.heap.size B w7) := V2.out.put2 HG7.out HB7.out)
        | (refine wpList_stoX rfl 27 (.tmp 3) (.tmp 40) rfl (w.heap.size + 1) z32c z32c 27 rfl rfl S7.out.su.b3 (info_32 z32c_size) rfl z32c_one ?_; intro w8 HB8 HG8; have S8 : Hid (SV17 w z32c z32c w1.heap.size A w2.heap.size B w8) := S7.out.put3 HG8.out HB8.out)
        | fail)
      refine bodyPost_ret (results_cct17 rfl _ _ w.heap.size (w.heap.size + 1) 27 z32c z32c (0, 0) _ rfl rfl S8.out.su.b2 S8.out.su.b3 Tryd.underlying27 rfl (info_32 z32c_size) (info_32 z32c_size)) rfl ⟨by exact HS.out, by exact S8.out.su.bel⟩
theorem rnamed17 (s : ByteArray) (w : World) : Calls Tryd.prog 13 #[.string s] w fun e w' => PnR s e ∧ Below w.heap.size w w' := by
  by_cases h : s.size = 136
  · exact rnamed17_yes s w h
  · exact rnamed17_no s w h
end Go.Proofs.YteccnnpialaalaaDoor
/- Beside the reader's Fixed. -/
/- The walk of the law's own helper width; a reader's calls where what was put stands at the front. -/
namespace Go.Proofs.YteccnnpialaalaaDoor
open Go.RowKit
set_option linter.unusedSimpArgs false
set_option linter.unusedVariables false
theorem app_size {s a r : ByteArray} (h : s = a ++ r) : s.size = a.size + r.size := by subst h; simp
theorem app_take {s a r : ByteArray} (h : s = a ++ r) : (bl s).take a.size = bl a := by
  subst h; rw [bl_append, List.take_append_of_le_length (by rw [bl_length]; exact Nat.le_refl _), List.take_of_length_le (by rw [bl_length]; exact Nat.le_refl _)]
/-- Fixed, where a number of that width stands at the front. -/
theorem fixed_front (s r : ByteArray) (d n : Nat) (b : Nat) (w : World) (hf : w.frozen? ⟨b, 0, none⟩ = false) (hb : b < w.heap.size) (hs : s.size ≤ maxLen) (hc : w.cell? ⟨b, 0, none⟩ = some (.string s)) (hd1 : 1 ≤ d) (hd2 : d ≤ 8) (hn : n < 256 ^ d) (he : s = sb (fixN d n) ++ r) :
    Calls Tryd.prog 63 #[.pointer (some ⟨b, 0, none⟩), .int .i64 d] w fun e w' => e = .returned (.tuple #[.int .u64 n, .int .i64 0]) ∧ Step b w w' r := by
  have hz : (sb (fixN d n)).size = d := by rw [sb_size, fixN_length]
  have h := fixed_ok s b w hs hc hf hb d hd1 hd2 (by rw [app_size he, hz]; omega)
  have e1 := app_take he
  rw [hz] at e1
  have e2 := drop_front s _ r d he hz.symm
  rw [e1, bl_sb, fixV_fixN d n hn, e2] at h
  exact h
/-- Uint, where a short number stands at the front. -/
theorem uint_front (s r : ByteArray) (n : Nat) (b : Nat) (w : World) (hf : w.frozen? ⟨b, 0, none⟩ = false) (hb : b < w.heap.size) (hs : s.size ≤ maxLen) (hc : w.cell? ⟨b, 0, none⟩ = some (.string s)) (hn : n < 2 ^ 64) (he : s = sb (encS n) ++ r) :
    Calls Tryd.prog 65 #[.pointer (some ⟨b, 0, none⟩)] w fun e w' => e = .returned (.tuple #[.int .u64 n, .int .i64 0]) ∧ Step b w w' r := by
  obtain ⟨e1, e2⟩ := sh_enc n s r hn he
  have h := uint_ok s b w hs hc hf hb (by have := slen_pos n; omega)
  have hz : (sb (encS n)).size = slen n := by rw [sb_size, encS_length]
  rw [e1, e2, drop_front s _ r (slen n) he hz.symm] at h
  exact h
end Go.Proofs.YteccnnpialaalaaDoor
/- The walk of the document's own short (munimentref01). -/
namespace Go.Proofs.YteccnnpialaalaaDoor
open Go.RowKit
set_option linter.unusedSimpArgs false
set_option linter.unusedVariables false
theorem raccStep (acc b k : Nat) (hb : b < 256) (hacc : acc < 128 ^ k) (hk : k ≤ 8 ∨ (k = 9 ∧ b % 128 ≤ 1)) :
    IntKind.u64.wrap ((acc : Int) + IntKind.u64.wrap ((b : Int) % 128 * 2 ^ (7 * k))) = ((acc + b % 128 * 128 ^ k : Nat) : Int) ∧ acc + b % 128 * 128 ^ k < 2 ^ 64 := by
  have h2 := (accStep acc b k hb hacc hk).2
  refine ⟨?_, h2⟩
  have e2 : ((b : Int) % 128) * 2 ^ (7 * k) = ((b % 128 * 128 ^ k : Nat) : Int) := by
    rw [pow128, Int.natCast_mul, Int.natCast_pow]; rfl
  rw [e2, IntKind.wrap_u64, IntKind.wrap_u64]
  generalize b % 128 * 128 ^ k = q at h2 ⊢
  omega
theorem rsh_good (s : ByteArray) (k acc : Nat) (H : decS (bl s) = dec k acc ((bl s).drop k) ∧ (k ≤ 9 → acc < 128 ^ k)) (h : k < s.size) (hk : k < 10) (hb : s[k].toNat < 128)
    (hc : ¬ ((s[k].toNat = 0 ∧ 0 < k) ∨ (1 < s[k].toNat ∧ k = 9))) :
    IntKind.u64.wrap ((acc : Int) + IntKind.u64.wrap ((s[k].toNat : Int) % 128 * 2 ^ (7 * k))) = shN s ∧ (k : Int) + 1 = shK s := by
  obtain ⟨H1, H2⟩ := H
  rw [dec_good s k acc h hk hb hc] at H1
  have e := (raccStep acc s[k].toNat k (by omega) (H2 (by omega)) (by omega)).1
  refine sh_some s _ _ _ _ H1 ?_ (by omega)
  rw [e, Nat.mod_eq_of_lt hb]
theorem rsh_nine (s : ByteArray) (k acc : Nat) (H : decS (bl s) = dec k acc ((bl s).drop k) ∧ (k ≤ 9 → acc < 128 ^ k)) (h : k < s.size) (hk : k = 9) (hb : s[k].toNat ≤ 1) (hc : ¬ s[k].toNat = 0) :
    IntKind.u64.wrap ((acc : Int) + (s[k].toNat : Int) % 128 * 9223372036854775808) = shN s ∧ (10 : Int) = shK s := by
  have e := rsh_good s k acc H h (by omega) (by omega) (by omega)
  rw [show 7 * k = 63 from by omega, show (k : Int) + 1 = 10 from by omega] at e
  rw [← e.1, ← e.2]
  refine ⟨?_, rfl⟩
  congr 2
  rw [IntKind.wrap_u64]
  omega
theorem rsh_zero (s : ByteArray) (k acc : Nat) (H : decS (bl s) = dec k acc ((bl s).drop k) ∧ (k ≤ 9 → acc < 128 ^ k)) (h : k < s.size) (hk : ¬ 0 < k) (hb : s[k].toNat = 0) :
    IntKind.u64.wrap ((acc : Int) + IntKind.u64.wrap 0) = shN s ∧ (k : Int) + 1 = shK s := by
  have e := rsh_good s k acc H h (by omega) (by omega) (by omega)
  rw [hb] at e
  simpa using e
set_option maxHeartbeats 800000 in
set_option maxRecDepth 100000 in
theorem rshort_any (s : ByteArray) (w : World) (hs : s.size ≤ maxLen) :
    Calls Tryd.prog 62 #[.string s] w fun e w' => e = .returned (.tuple #[.int .u64 (shN s), .int .i64 (shK s)]) ∧ w' = w := by
  unfold maxLen at hs
  go_enter Tryd.func62, Tryd.ntmps62
  go_wp2
  go_loop [4, 5] (fun v i => ∃ (k acc : Nat), k ≤ s.size ∧ k ≤ 10 ∧ acc < 2 ^ 64 ∧ i = .int .i64 k ∧ v = .int .u64 acc ∧ Hid (decS (bl s) = dec k acc ((bl s).drop k) ∧ (k ≤ 9 → acc < 128 ^ k))) (fun _ i => 10 - (intOf i).toNat)
  case atStart => exact ⟨0, 0, by omega, by omega, by omega, rfl, rfl, ⟨rfl, fun _ => by omega⟩⟩
  case round =>
    obtain ⟨k, acc, hk1, hk2, hacc, rfl, rfl, HR⟩ := hrel
    by_cases hlt : k < s.size ∧ k < 10
    · obtain ⟨g1, g2⟩ := hlt
      have hB := s[k].toNat_lt
      by_cases hb : (128 : Int) ≤ s[k].toNat
      · by_cases h9 : k = 9
        · have h9' : ((k : Int) == 9) = true := by simp [h9]
          have H9 : Hid (k = 9) := h9
          clear h9
          go_wp2
          go_ret2
          refine ⟨ret_sh s _ _ (sh_none s ?_), rfl⟩
          rw [HR.out.1, dec_more s k acc g1 g2 (by omega), dec_ten _ _ _ (by have := H9.out; omega)]
        · have h9' : ((k : Int) == 9) = false := by rw [beq_eq_false_iff_ne]; omega
          have H9 : Hid (¬ k = 9) := h9
          clear h9
          go_wp2
          go_round
          case rel =>
            obtain ⟨R1, R2⟩ := HR.out
            rw [dec_more s k acc g1 g2 (by omega)] at R1
            have h9 := H9.out
            obtain ⟨e1, e2⟩ := raccStep acc s[k].toNat k hB (R2 (by omega)) (by omega)
            exact ⟨k + 1, _, by omega, by omega, e2, by go_num, by rw [e1], ⟨R1, fun _ => accNext _ _ _ (R2 (by omega))⟩⟩
          case measure => simp [intOf]; omega
      · have hb2 : (s[k].toNat : Int) < 128 := by omega
        go_wp2
        all_goals go_ret2
        all_goals refine ⟨ret_sh s _ _ ?_, rfl⟩
        all_goals first
          | exact rsh_good s k acc HR.out g1 g2 (by omega) (by omega)
          | exact sh_none s (by rw [HR.out.1]; exact dec_bad s k acc g1 g2 (by omega) (by omega))
          | exact rsh_nine s k acc HR.out g1 (by omega) (by omega) (by omega)
          | exact rsh_zero s k acc HR.out g1 (by omega) (by omega)
    · by_cases hl : k < s.size
      · go_wp2
        go_ret2
        refine ⟨ret_sh s _ _ (sh_none s ?_), rfl⟩
        rw [HR.out.1]
        exact dec_ten _ _ _ (by omega)
      · go_wp2
        go_ret2
        refine ⟨ret_sh s _ _ (sh_none s ?_), rfl⟩
        rw [HR.out.1, List.drop_of_length_le (by rw [bl_length]; omega)]; rfl
end Go.Proofs.YteccnnpialaalaaDoor
/- The walks of Reader.Left, Reader.End. -/
namespace Go.Proofs.YteccnnpialaalaaDoor
open Go.RowKit
set_option linter.unusedSimpArgs false
set_option linter.unusedVariables false
/-- What End answers. -/
def endE (s : ByteArray) : Int := if s.size = 0 then 0 else 4
end Go.Proofs.YteccnnpialaalaaDoor
