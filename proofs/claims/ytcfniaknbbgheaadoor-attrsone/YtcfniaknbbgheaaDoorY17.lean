import Derived.Test.YtcfniaknbbgheaaDoorY16
import Derived.Deep.RegionHeld3
import Derived.Test.YtcfniaknbbgheaaDoorY3
import Derived.Test.YtcfniaknbbgheaaDoorY4
/- The law's kept, on what is as it was. -/
namespace Go.Proofs.YtcfniaknbbgheaaDoor
open Go.RowKit
set_option linter.unusedSimpArgs false
set_option linter.unusedVariables false
set_option maxHeartbeats 8000000 in
set_option maxRecDepth 100000 in
theorem kept10 (nd md ui gi : Nat) (mt : Int) (tg : ByteArray) (xs : List (ByteArray × ByteArray)) (sl : Option Addr) (g n cp ca : Nat) (w : World) (hl : xs.length = n) (hn : n ≤ 4398046510976) (hX : XaL w sl xs) (hM : XaL w (some ⟨g, 0, none⟩) (xs ++ [mrk])) (hc : n + 1 ≤ cp) :
    Calls Tryd.prog 17 #[atV nd md ui gi mt tg (.slice (some ⟨g, 0, none⟩) n cp), atV nd md ui gi mt tg (.slice sl n ca)] w fun e w' => e = .returned (.bool true) ∧ Below w.heap.size w w' := by
  obtain ⟨g', o', hge, hgl, hmk, _⟩ := hM n mrk (by rw [List.getElem?_append_right (by omega), hl, Nat.sub_self]; rfl)
  cases hge
  rw [Nat.zero_add] at hmk
  have hX1 : XaL w (some ⟨g, 0, none⟩) xs := fun i x hx => hM i x (by rw [List.getElem?_append_left (List.getElem?_eq_some_iff.1 hx).1]; exact hx)
  have hcz : (n : Int) + 1 ≤ (cp : Nat) := by omega
  have hc0 : (0 : Int) ≤ (n : Int) + 1 := by omega
  have hc1 : (n : Int) < (n : Int) + 1 := by omega
  have hc2 : ((n : Int) + 1).toNat = n + 1 := by omega
  have hwr : IntKind.i64.wrap ((n : Int) + 1) = (n : Int) + 1 := by
    simp [IntKind.wrap, IntKind.bits, IntKind.signed]
    omega
  have hc3 : ¬ ((n : Int) + 1 < 0) := by omega
  have hc4 : ¬ ((cp : Int) < (n : Int) + 1) := by omega
  have HS : Hid (∀ x ∈ xs, x.1.size ≤ 140737488351232 ∧ x.2.size ≤ 140737488351232) := xal_small hX
  have B0 : Below w.heap.size w ((w.alloc (.cells (c7 nd md ui gi mt tg (.slice (some ⟨g, 0, none⟩) n cp)) 28)).alloc (.cells (c7 nd md ui gi mt tg (.slice sl n ca)) 25)) := ((Below.refl _ _).alloc (Nat.le_refl _) _).alloc (by simp) _
  have b1 : Bk ((w.alloc (.cells (c7 nd md ui gi mt tg (.slice (some ⟨g, 0, none⟩) n cp)) 28)).alloc (.cells (c7 nd md ui gi mt tg (.slice sl n ca)) 25)) w.heap.size (c7 nd md ui gi mt tg (.slice (some ⟨g, 0, none⟩) n cp)) 28 := (bk_new _ _ _).alloc _
  have b2 : Bk ((w.alloc (.cells (c7 nd md ui gi mt tg (.slice (some ⟨g, 0, none⟩) n cp)) 28)).alloc (.cells (c7 nd md ui gi mt tg (.slice sl n ca)) 25)) (w.heap.size + 1) (c7 nd md ui gi mt tg (.slice sl n ca)) 25 := by
    have h := bk_new (w.alloc (.cells (c7 nd md ui gi mt tg (.slice (some ⟨g, 0, none⟩) n cp)) 28)) (c7 nd md ui gi mt tg (.slice sl n ca)) 25
    rw [al_size] at h
    exact h
  have SK : Hid (∀ u, Below ((w.alloc (.cells (c7 nd md ui gi mt tg (.slice (some ⟨g, 0, none⟩) n cp)) 28)).alloc (.cells (c7 nd md ui gi mt tg (.slice sl n ca)) 25)).heap.size ((w.alloc (.cells (c7 nd md ui gi mt tg (.slice (some ⟨g, 0, none⟩) n cp)) 28)).alloc (.cells (c7 nd md ui gi mt tg (.slice sl n ca)) 25)) u → (u.cell? ⟨w.heap.size, 0, none⟩ = some (.int .u8 (nd : Int)) ∧ u.cell? ⟨w.heap.size, 1, none⟩ = some (.int .u32 (md : Int)) ∧ u.cell? ⟨w.heap.size, 2, none⟩ = some (.int .u32 (ui : Int)) ∧ u.cell? ⟨w.heap.size, 3, none⟩ = some (.int .u32 (gi : Int)) ∧ u.cell? ⟨w.heap.size, 4, none⟩ = some (.int .i64 mt) ∧ u.cell? ⟨w.heap.size, 5, none⟩ = some (.string tg) ∧ u.cell? ⟨w.heap.size, 6, none⟩ = some (.slice (some ⟨g, 0, none⟩) n cp)) ∧ (u.cell? ⟨w.heap.size + 1, 0, none⟩ = some (.int .u8 (nd : Int)) ∧ u.cell? ⟨w.heap.size + 1, 1, none⟩ = some (.int .u32 (md : Int)) ∧ u.cell? ⟨w.heap.size + 1, 2, none⟩ = some (.int .u32 (ui : Int)) ∧ u.cell? ⟨w.heap.size + 1, 3, none⟩ = some (.int .u32 (gi : Int)) ∧ u.cell? ⟨w.heap.size + 1, 4, none⟩ = some (.int .i64 mt) ∧ u.cell? ⟨w.heap.size + 1, 5, none⟩ = some (.string tg) ∧ u.cell? ⟨w.heap.size + 1, 6, none⟩ = some (.slice sl n ca)) ∧ u.cell? ⟨g, n * 2, none⟩ = some (.string ⟨#[35]⟩)) := fun u hu =>
    ⟨cells7 (b1.below hu b1.lt), cells7 (b2.below hu b2.lt), by rw [(B0.trans (hu.mono B0.size)).cell (p := ⟨g, n * 2, none⟩) hgl]; exact hmk⟩
  obtain ⟨s1, s2, s3⟩ := SK.out _ (Below.refl _ _)
  obtain ⟨p0, p1, p2, p3, p4, p5, p6⟩ := s1
  obtain ⟨q0, q1, q2, q3, q4, q5, q6⟩ := s2
  have HB0 : Hid (Below w.heap.size w ((w.alloc (.cells (c7 nd md ui gi mt tg (.slice (some ⟨g, 0, none⟩) n cp)) 28)).alloc (.cells (c7 nd md ui gi mt tg (.slice sl n ca)) 25))) := B0
  have C1 : Hid (Calls Tryd.prog 13 #[atV nd md ui gi mt tg (.slice (some ⟨g, 0, none⟩) n cp)] ((w.alloc (.cells (c7 nd md ui gi mt tg (.slice (some ⟨g, 0, none⟩) n cp)) 28)).alloc (.cells (c7 nd md ui gi mt tg (.slice sl n ca)) 25)).drew fun e w' => ∃ o c, e = .returned (.agg (c7 nd md ui gi mt tg (.slice o n c))) ∧ Hid (XaL w' o xs ∧ Below ((w.alloc (.cells (c7 nd md ui gi mt tg (.slice (some ⟨g, 0, none⟩) n cp)) 28)).alloc (.cells (c7 nd md ui gi mt tg (.slice sl n ca)) 25)).heap.size ((w.alloc (.cells (c7 nd md ui gi mt tg (.slice (some ⟨g, 0, none⟩) n cp)) 28)).alloc (.cells (c7 nd md ui gi mt tg (.slice sl n ca)) 25)) w') ∧ (w'.cell? ⟨w.heap.size, 0, none⟩ = some (.int .u8 (nd : Int)) ∧ w'.cell? ⟨w.heap.size, 1, none⟩ = some (.int .u32 (md : Int)) ∧ w'.cell? ⟨w.heap.size, 2, none⟩ = some (.int .u32 (ui : Int)) ∧ w'.cell? ⟨w.heap.size, 3, none⟩ = some (.int .u32 (gi : Int)) ∧ w'.cell? ⟨w.heap.size, 4, none⟩ = some (.int .i64 mt) ∧ w'.cell? ⟨w.heap.size, 5, none⟩ = some (.string tg) ∧ w'.cell? ⟨w.heap.size, 6, none⟩ = some (.slice (some ⟨g, 0, none⟩) n cp)) ∧ (w'.cell? ⟨w.heap.size + 1, 0, none⟩ = some (.int .u8 (nd : Int)) ∧ w'.cell? ⟨w.heap.size + 1, 1, none⟩ = some (.int .u32 (md : Int)) ∧ w'.cell? ⟨w.heap.size + 1, 2, none⟩ = some (.int .u32 (ui : Int)) ∧ w'.cell? ⟨w.heap.size + 1, 3, none⟩ = some (.int .u32 (gi : Int)) ∧ w'.cell? ⟨w.heap.size + 1, 4, none⟩ = some (.int .i64 mt) ∧ w'.cell? ⟨w.heap.size + 1, 5, none⟩ = some (.string tg) ∧ w'.cell? ⟨w.heap.size + 1, 6, none⟩ = some (.slice sl n ca)) ∧ w'.cell? ⟨g, n * 2, none⟩ = some (.string ⟨#[35]⟩)) := by
    refine (ref10 nd md ui gi mt tg xs (some ⟨g, 0, none⟩) n cp ((w.alloc (.cells (c7 nd md ui gi mt tg (.slice (some ⟨g, 0, none⟩) n cp)) 28)).alloc (.cells (c7 nd md ui gi mt tg (.slice sl n ca)) 25)).drew (hX1.below B0.drew) hl hn).mono ?_
    rintro e w' ⟨v, rfl, ho, hb⟩
    obtain ⟨o, c', rfl, hX'⟩ := own_xal ho hl HS.out
    have hb' : Below ((w.alloc (.cells (c7 nd md ui gi mt tg (.slice (some ⟨g, 0, none⟩) n cp)) 28)).alloc (.cells (c7 nd md ui gi mt tg (.slice sl n ca)) 25)).heap.size ((w.alloc (.cells (c7 nd md ui gi mt tg (.slice (some ⟨g, 0, none⟩) n cp)) 28)).alloc (.cells (c7 nd md ui gi mt tg (.slice sl n ca)) 25)) w' := (Below.refl _ _).drew.trans hb
    exact ⟨o, c', rfl, ⟨hX', hb'⟩, SK.out w' hb'⟩
  have C2 : Hid (∀ (o : Option Addr) (c' : Nat) (u : World), Below ((w.alloc (.cells (c7 nd md ui gi mt tg (.slice (some ⟨g, 0, none⟩) n cp)) 28)).alloc (.cells (c7 nd md ui gi mt tg (.slice sl n ca)) 25)).heap.size ((w.alloc (.cells (c7 nd md ui gi mt tg (.slice (some ⟨g, 0, none⟩) n cp)) 28)).alloc (.cells (c7 nd md ui gi mt tg (.slice sl n ca)) 25)) u → XaL u o xs → Calls Tryd.prog 12 #[atV nd md ui gi mt tg (.slice o n c'), atV nd md ui gi mt tg (.slice sl n ca)] u fun e w' => e = .returned (.bool true) ∧ Hid (Below ((w.alloc (.cells (c7 nd md ui gi mt tg (.slice (some ⟨g, 0, none⟩) n cp)) 28)).alloc (.cells (c7 nd md ui gi mt tg (.slice sl n ca)) 25)).heap.size ((w.alloc (.cells (c7 nd md ui gi mt tg (.slice (some ⟨g, 0, none⟩) n cp)) 28)).alloc (.cells (c7 nd md ui gi mt tg (.slice sl n ca)) 25)) w') ∧ (w'.cell? ⟨w.heap.size, 0, none⟩ = some (.int .u8 (nd : Int)) ∧ w'.cell? ⟨w.heap.size, 1, none⟩ = some (.int .u32 (md : Int)) ∧ w'.cell? ⟨w.heap.size, 2, none⟩ = some (.int .u32 (ui : Int)) ∧ w'.cell? ⟨w.heap.size, 3, none⟩ = some (.int .u32 (gi : Int)) ∧ w'.cell? ⟨w.heap.size, 4, none⟩ = some (.int .i64 mt) ∧ w'.cell? ⟨w.heap.size, 5, none⟩ = some (.string tg) ∧ w'.cell? ⟨w.heap.size, 6, none⟩ = some (.slice (some ⟨g, 0, none⟩) n cp)) ∧ (w'.cell? ⟨w.heap.size + 1, 0, none⟩ = some (.int .u8 (nd : Int)) ∧ w'.cell? ⟨w.heap.size + 1, 1, none⟩ = some (.int .u32 (md : Int)) ∧ w'.cell? ⟨w.heap.size + 1, 2, none⟩ = some (.int .u32 (ui : Int)) ∧ w'.cell? ⟨w.heap.size + 1, 3, none⟩ = some (.int .u32 (gi : Int)) ∧ w'.cell? ⟨w.heap.size + 1, 4, none⟩ = some (.int .i64 mt) ∧ w'.cell? ⟨w.heap.size + 1, 5, none⟩ = some (.string tg) ∧ w'.cell? ⟨w.heap.size + 1, 6, none⟩ = some (.slice sl n ca)) ∧ w'.cell? ⟨g, n * 2, none⟩ = some (.string ⟨#[35]⟩)) := fun o c' u hu hX' => by
    have h := rsame10 nd md ui gi mt tg xs o c' nd md ui gi mt tg xs sl ca u hX' (hX.below (B0.trans (hu.mono B0.size))) (by omega) (by omega)
    rw [(smB_iff _ _).2 rfl, hl] at h
    refine h.mono ?_
    rintro e w' ⟨rfl, hb⟩
    have hb' := hu.trans (hb.mono hu.size)
    exact ⟨rfl, hb', SK.out w' hb'⟩
  have hz0 : w.heap.size ≤ ((w.alloc (.cells (c7 nd md ui gi mt tg (.slice (some ⟨g, 0, none⟩) n cp)) 28)).alloc (.cells (c7 nd md ui gi mt tg (.slice sl n ca)) 25)).heap.size := B0.size
  clear hX hM hX1 hmk B0 b1 b2 SK HS
  go_enter Tryd.func17, Tryd.ntmps17
  go_wp2
  go_region_held3 (fun W => (W.cell? ⟨w.heap.size, 0, none⟩ = some (.int .u8 (nd : Int)) ∧ W.cell? ⟨w.heap.size, 1, none⟩ = some (.int .u32 (md : Int)) ∧ W.cell? ⟨w.heap.size, 2, none⟩ = some (.int .u32 (ui : Int)) ∧ W.cell? ⟨w.heap.size, 3, none⟩ = some (.int .u32 (gi : Int)) ∧ W.cell? ⟨w.heap.size, 4, none⟩ = some (.int .i64 mt) ∧ W.cell? ⟨w.heap.size, 5, none⟩ = some (.string tg) ∧ W.cell? ⟨w.heap.size, 6, none⟩ = some (.slice (some ⟨g, 0, none⟩) n cp)) ∧ (W.cell? ⟨w.heap.size + 1, 0, none⟩ = some (.int .u8 (nd : Int)) ∧ W.cell? ⟨w.heap.size + 1, 1, none⟩ = some (.int .u32 (md : Int)) ∧ W.cell? ⟨w.heap.size + 1, 2, none⟩ = some (.int .u32 (ui : Int)) ∧ W.cell? ⟨w.heap.size + 1, 3, none⟩ = some (.int .u32 (gi : Int)) ∧ W.cell? ⟨w.heap.size + 1, 4, none⟩ = some (.int .i64 mt) ∧ W.cell? ⟨w.heap.size + 1, 5, none⟩ = some (.string tg) ∧ W.cell? ⟨w.heap.size + 1, 6, none⟩ = some (.slice sl n ca)) ∧ W.cell? ⟨g, n * 2, none⟩ = some (.string ⟨#[35]⟩)) (first | go_keep | exact HS7 | exact HS8) (first
    | (go_at_call 12; refine (C2.out o7 c7' _ H7.out.2 H7.out.1).mono ?_; rintro e w8 ⟨rfl, H8, HS8⟩)
    | (go_at_call 13; refine C1.out.mono ?_; rintro e w7 ⟨o7, c7', rfl, H7, HS7⟩))
  all_goals (first | go_wp2 | skip)
  all_goals go_ret
  all_goals exact ⟨rfl, HB0.out.trans (H8.out.mono hz0)⟩
end Go.Proofs.YtcfniaknbbgheaaDoor
/- The walk of the document's own short (munimentref01). -/
namespace Go.Proofs.YtcfniaknbbgheaaDoor
open Go.RowKit
set_option linter.unusedSimpArgs false
set_option linter.unusedVariables false
theorem raccStep (acc b k : Nat) (hb : b < 256) (hacc : acc < 128 ^ k) (hk : k ≤ 8 ∨ (k = 9 ∧ b % 128 ≤ 1)) :
    IntKind.u64.wrap ((acc : Int) + IntKind.u64.wrap ((b : Int) % 128 * 2 ^ (7 * k))) = ((acc + b % 128 * 128 ^ k : Nat) : Int) ∧ acc + b % 128 * 128 ^ k < 2 ^ 64 := by
  have h2 := (accStep acc b k hb hacc hk).2
  refine ⟨?_, h2⟩
  have e2 : ((b : Int) % 128) * 2 ^ (7 * k) = ((b % 128 * 128 ^ k : Nat) : Int) := by
    rw [pow128, Int.natCast_mul, Int.natCast_pow]; rfl
  rw [e2, IntKind.wrap_u64, IntKind.wrap_u64]
  generalize b % 128 * 128 ^ k = q at h2 ⊢
  omega
theorem rsh_good (s : ByteArray) (k acc : Nat) (H : decS (bl s) = dec k acc ((bl s).drop k) ∧ (k ≤ 9 → acc < 128 ^ k)) (h : k < s.size) (hk : k < 10) (hb : s[k].toNat < 128)
    (hc : ¬ ((s[k].toNat = 0 ∧ 0 < k) ∨ (1 < s[k].toNat ∧ k = 9))) :
    IntKind.u64.wrap ((acc : Int) + IntKind.u64.wrap ((s[k].toNat : Int) % 128 * 2 ^ (7 * k))) = shN s ∧ (k : Int) + 1 = shK s := by
  obtain ⟨H1, H2⟩ := H
  rw [dec_good s k acc h hk hb hc] at H1
  have e := (raccStep acc s[k].toNat k (by omega) (H2 (by omega)) (by omega)).1
  refine sh_some s _ _ _ _ H1 ?_ (by omega)
  rw [e, Nat.mod_eq_of_lt hb]
theorem rsh_nine (s : ByteArray) (k acc : Nat) (H : decS (bl s) = dec k acc ((bl s).drop k) ∧ (k ≤ 9 → acc < 128 ^ k)) (h : k < s.size) (hk : k = 9) (hb : s[k].toNat ≤ 1) (hc : ¬ s[k].toNat = 0) :
    IntKind.u64.wrap ((acc : Int) + (s[k].toNat : Int) % 128 * 9223372036854775808) = shN s ∧ (10 : Int) = shK s := by
  have e := rsh_good s k acc H h (by omega) (by omega) (by omega)
  rw [show 7 * k = 63 from by omega, show (k : Int) + 1 = 10 from by omega] at e
  rw [← e.1, ← e.2]
  refine ⟨?_, rfl⟩
  congr 2
  rw [IntKind.wrap_u64]
  omega
theorem rsh_zero (s : ByteArray) (k acc : Nat) (H : decS (bl s) = dec k acc ((bl s).drop k) ∧ (k ≤ 9 → acc < 128 ^ k)) (h : k < s.size) (hk : ¬ 0 < k) (hb : s[k].toNat = 0) :
    IntKind.u64.wrap ((acc : Int) + IntKind.u64.wrap 0) = shN s ∧ (k : Int) + 1 = shK s := by
  have e := rsh_good s k acc H h (by omega) (by omega) (by omega)
  rw [hb] at e
  simpa using e
set_option maxHeartbeats 800000 in
set_option maxRecDepth 100000 in
theorem rshort_any (s : ByteArray) (w : World) (hs : s.size ≤ maxLen) :
    Calls Tryd.prog 53 #[.string s] w fun e w' => e = .returned (.tuple #[.int .u64 (shN s), .int .i64 (shK s)]) ∧ w' = w := by
  unfold maxLen at hs
  go_enter Tryd.func53, Tryd.ntmps53
  go_wp2
  go_loop [4, 5] (fun v i => ∃ (k acc : Nat), k ≤ s.size ∧ k ≤ 10 ∧ acc < 2 ^ 64 ∧ i = .int .i64 k ∧ v = .int .u64 acc ∧ Hid (decS (bl s) = dec k acc ((bl s).drop k) ∧ (k ≤ 9 → acc < 128 ^ k))) (fun _ i => 10 - (intOf i).toNat)
  case atStart => exact ⟨0, 0, by omega, by omega, by omega, rfl, rfl, ⟨rfl, fun _ => by omega⟩⟩
  case round =>
    obtain ⟨k, acc, hk1, hk2, hacc, rfl, rfl, HR⟩ := hrel
    by_cases hlt : k < s.size ∧ k < 10
    · obtain ⟨g1, g2⟩ := hlt
      have hB := s[k].toNat_lt
      by_cases hb : (128 : Int) ≤ s[k].toNat
      · by_cases h9 : k = 9
        · have h9' : ((k : Int) == 9) = true := by simp [h9]
          have H9 : Hid (k = 9) := h9
          clear h9
          go_wp2
          go_ret2
          refine ⟨ret_sh s _ _ (sh_none s ?_), rfl⟩
          rw [HR.out.1, dec_more s k acc g1 g2 (by omega), dec_ten _ _ _ (by have := H9.out; omega)]
        · have h9' : ((k : Int) == 9) = false := by rw [beq_eq_false_iff_ne]; omega
          have H9 : Hid (¬ k = 9) := h9
          clear h9
          go_wp2
          go_round
          case rel =>
            obtain ⟨R1, R2⟩ := HR.out
            rw [dec_more s k acc g1 g2 (by omega)] at R1
            have h9 := H9.out
            obtain ⟨e1, e2⟩ := raccStep acc s[k].toNat k hB (R2 (by omega)) (by omega)
            exact ⟨k + 1, _, by omega, by omega, e2, by go_num, by rw [e1], ⟨R1, fun _ => accNext _ _ _ (R2 (by omega))⟩⟩
          case measure => simp [intOf]; omega
      · have hb2 : (s[k].toNat : Int) < 128 := by omega
        go_wp2
        all_goals go_ret2
        all_goals refine ⟨ret_sh s _ _ ?_, rfl⟩
        all_goals first
          | exact rsh_good s k acc HR.out g1 g2 (by omega) (by omega)
          | exact sh_none s (by rw [HR.out.1]; exact dec_bad s k acc g1 g2 (by omega) (by omega))
          | exact rsh_nine s k acc HR.out g1 (by omega) (by omega) (by omega)
          | exact rsh_zero s k acc HR.out g1 (by omega) (by omega)
    · by_cases hl : k < s.size
      · go_wp2
        go_ret2
        refine ⟨ret_sh s _ _ (sh_none s ?_), rfl⟩
        rw [HR.out.1]
        exact dec_ten _ _ _ (by omega)
      · go_wp2
        go_ret2
        refine ⟨ret_sh s _ _ (sh_none s ?_), rfl⟩
        rw [HR.out.1, List.drop_of_length_le (by rw [bl_length]; omega)]; rfl
end Go.Proofs.YtcfniaknbbgheaaDoor
/- The walks of the document's own reader (munimentref01): Fixed. -/
namespace Go.Proofs.YtcfniaknbbgheaaDoor
open Go.RowKit
set_option linter.unusedSimpArgs false
set_option linter.unusedVariables false
theorem set_step {w : World} {b : Nat} {s s' : ByteArray} (hb : b < w.heap.size) (hc : w.cell? ⟨b, 0, none⟩ = some (.string s)) (hf : w.frozen? ⟨b, 0, none⟩ = false) :
    Step b w (w.setCell ⟨b, 0, none⟩ (.string s')) s' := Step.of_set (Below.refl _ _) hb hc hf
set_option maxHeartbeats 400000 in
theorem rfixed_arg (s : ByteArray) (b : Nat) (w : World) (hs : s.size ≤ maxLen) (hc : w.cell? ⟨b, 0, none⟩ = some (.string s)) (hf : w.frozen? ⟨b, 0, none⟩ = false) (hb : b < w.heap.size) (m : Int) (hm : isW m = false) :
    Calls Tryd.prog 30 #[.pointer (some ⟨b, 0, none⟩), .int .i64 m] w fun e w' => e = .returned (.tuple #[.int .u64 0, .int .i64 1]) ∧ Step b w w' s := by
  have HS := still hb hc hf
  have hm' : m < 1 ∨ ¬ m < 1 ∧ 8 < m := by
    rcases Int.lt_or_le m 1 with h | h
    · exact Or.inl h
    · rcases Int.lt_or_le 8 m with g | g
      · exact Or.inr ⟨by omega, g⟩
      · rw [isW_yes h g] at hm; cases hm
  clear hm
  rcases hm' with h | ⟨h, g⟩
  · go_enter Tryd.func30, Tryd.ntmps30
    go_wp2
    go_ret2
    exact ⟨rfl, HS⟩
  · go_enter Tryd.func30, Tryd.ntmps30
    go_wp2
    go_ret2
    exact ⟨rfl, HS⟩
set_option maxHeartbeats 400000 in
theorem rfixed_no (s : ByteArray) (b : Nat) (w : World) (hs : s.size ≤ maxLen) (hc : w.cell? ⟨b, 0, none⟩ = some (.string s)) (hf : w.frozen? ⟨b, 0, none⟩ = false) (hb : b < w.heap.size) (d : Nat) (hd1 : 1 ≤ d) (hd2 : d ≤ 8) (hl : s.size < d) :
    Calls Tryd.prog 30 #[.pointer (some ⟨b, 0, none⟩), .int .i64 d] w fun e w' => e = .returned (.tuple #[.int .u64 0, .int .i64 4]) ∧ Step b w w' s := by
  have HS := still hb hc hf
  go_enter Tryd.func30, Tryd.ntmps30
  go_wp2
  go_ret2
  exact ⟨rfl, HS⟩
theorem rfixStep (acc c k : Nat) (hc : c < 256) (hk : k ≤ 7) (ha : acc < 256 ^ k) :
    IntKind.u64.wrap (IntKind.u64.wrap ((acc : Int) * 256) + IntKind.u64.wrap (c : Int)) = ((acc * 256 + c : Nat) : Int) := by
  have h7 : 256 ^ k ≤ 256 ^ 7 := Nat.pow_le_pow_right (by omega) hk
  rw [IntKind.wrap_u64, IntKind.wrap_u64, IntKind.wrap_u64]
  omega
set_option maxHeartbeats 400000 in
set_option maxRecDepth 100000 in
theorem rfixed_ok (s : ByteArray) (b : Nat) (w : World) (hs : s.size ≤ maxLen) (hc : w.cell? ⟨b, 0, none⟩ = some (.string s)) (hf : w.frozen? ⟨b, 0, none⟩ = false) (hb : b < w.heap.size) (d : Nat) (hd1 : 1 ≤ d) (hd2 : d ≤ 8) (hl : d ≤ s.size) :
    Calls Tryd.prog 30 #[.pointer (some ⟨b, 0, none⟩), .int .i64 d] w fun e w' => e = .returned (.tuple #[.int .u64 (fixV ((bl s).take d)), .int .i64 0]) ∧ Step b w w' (s.extract d s.size) := by
  have hs' := hs
  unfold maxLen at hs'
  have HS : Hid (Step b w (w.setCell ⟨b, 0, none⟩ (.string (s.extract d s.size))) (s.extract d s.size)) := set_step hb hc hf
  go_enter Tryd.func30, Tryd.ntmps30
  go_wp2
  go_loop [6, 7] (fun v i => ∃ (k acc : Nat), k ≤ d ∧ acc < 2 ^ 64 ∧ i = .int .i64 k ∧ v = .int .u64 acc ∧ Hid (acc = fixV ((bl s).take k))) (fun _ i => 10 - (intOf i).toNat)
  case atStart => exact ⟨0, 0, by omega, by omega, rfl, rfl, rfl⟩
  case round =>
    obtain ⟨k, acc, hk1, hacc, rfl, rfl, HR⟩ := hrel
    by_cases hlt : k < d
    · have hkt : k < s.size := by omega
      go_wp2
      go_round
      case rel =>
        have hlt256 := s[k].toNat_lt
        have hl : acc < 256 ^ k := by
          have := fixV_lt ((bl s).take k)
          rw [← HR.out, List.length_take, bl_length, Nat.min_eq_left (by omega)] at this
          exact this
        have e1 := rfixStep acc s[k].toNat k hlt256 (by omega) hl
        have e2 := (fixStep acc s[k].toNat k hlt256 (by omega) hl).2
        refine ⟨k + 1, _, by omega, e2, by go_num, ?_, ?_⟩
        · rw [← e1]
        · rw [take_snoc s k hkt, fixV_snoc, ← HR.out]; rfl
      case measure => simp [intOf]; omega
    · go_wp2
      go_ret2
      refine ⟨ret_ue ?_, HS.out⟩
      have e : k = d := by omega
      rw [HR.out, e]
end Go.Proofs.YtcfniaknbbgheaaDoor
/- The walks of the document's own reader (munimentref01): Uint, Text. -/
namespace Go.Proofs.YtcfniaknbbgheaaDoor
open Go.RowKit
set_option linter.unusedSimpArgs false
set_option linter.unusedVariables false
set_option maxHeartbeats 400000 in
theorem ruint_no (s : ByteArray) (b : Nat) (w : World) (hs : s.size ≤ maxLen) (hc : w.cell? ⟨b, 0, none⟩ = some (.string s)) (hf : w.frozen? ⟨b, 0, none⟩ = false) (hb : b < w.heap.size) (hk : shK s = 0) :
    Calls Tryd.prog 31 #[.pointer (some ⟨b, 0, none⟩)] w fun e w' => e = .returned (.tuple #[.int .u64 0, .int .i64 4]) ∧ Step b w w' s := by
  have HS := still hb hc hf
  have hk' : ((shK s : Int) == 0) = true := by simp [hk]
  clear hk
  go_enter Tryd.func31, Tryd.ntmps31
  go_wp2_with (go_at_call 53; refine (rshort_any s _ hs).mono ?_; rintro e w' ⟨rfl, rfl⟩)
  go_ret2
  exact ⟨rfl, HS⟩
set_option maxHeartbeats 400000 in
theorem ruint_ok (s : ByteArray) (b : Nat) (w : World) (hs : s.size ≤ maxLen) (hc : w.cell? ⟨b, 0, none⟩ = some (.string s)) (hf : w.frozen? ⟨b, 0, none⟩ = false) (hb : b < w.heap.size) (hk : shK s ≠ 0) :
    Calls Tryd.prog 31 #[.pointer (some ⟨b, 0, none⟩)] w fun e w' => e = .returned (.tuple #[.int .u64 (shN s), .int .i64 0]) ∧ Step b w w' (s.extract (shK s) s.size) := by
  have hs' := hs
  unfold maxLen at hs'
  have hk2 := shK_le s
  have hk' : ((shK s : Int) == 0) = false := by simp [hk]
  have HS : Hid (Step b w (w.setCell ⟨b, 0, none⟩ (.string (s.extract (shK s) s.size))) (s.extract (shK s) s.size)) := set_step hb hc hf
  clear hk
  go_enter Tryd.func31, Tryd.ntmps31
  go_wp2_with (go_at_call 53; refine (rshort_any s _ hs).mono ?_; rintro e w' ⟨rfl, rfl⟩)
  go_ret2
  exact ⟨rfl, HS.out⟩
set_option maxHeartbeats 400000 in
theorem rtext_arg (s : ByteArray) (b : Nat) (w : World) (hs : s.size ≤ maxLen) (hc : w.cell? ⟨b, 0, none⟩ = some (.string s)) (hf : w.frozen? ⟨b, 0, none⟩ = false) (hb : b < w.heap.size) (m : Int) (hm : m < 0) :
    Calls Tryd.prog 32 #[.pointer (some ⟨b, 0, none⟩), .int .i64 m] w fun e w' => e = .returned (.tuple #[.string ⟨#[]⟩, .int .i64 1]) ∧ Step b w w' s := by
  have HS := still hb hc hf
  go_enter Tryd.func32, Tryd.ntmps32
  go_wp2
  go_ret2
  exact ⟨rfl, HS⟩
set_option maxHeartbeats 400000 in
theorem rtext_no1 (s : ByteArray) (b : Nat) (w : World) (hs : s.size ≤ maxLen) (hc : w.cell? ⟨b, 0, none⟩ = some (.string s)) (hf : w.frozen? ⟨b, 0, none⟩ = false) (hb : b < w.heap.size) (m : Nat) (hm : m ≤ 9223372036854775807) (hk : shK s = 0) :
    Calls Tryd.prog 32 #[.pointer (some ⟨b, 0, none⟩), .int .i64 m] w fun e w' => e = .returned (.tuple #[.string ⟨#[]⟩, .int .i64 4]) ∧ Step b w w' s := by
  have HS := still hb hc hf
  have hk' : ((shK s : Int) == 0) = true := by simp [hk]
  clear hk
  go_enter Tryd.func32, Tryd.ntmps32
  go_wp2_with (go_at_call 53; refine (rshort_any s _ hs).mono ?_; rintro e w' ⟨rfl, rfl⟩)
  go_ret2
  exact ⟨rfl, HS⟩
set_option maxHeartbeats 400000 in
theorem rtext_no2 (s : ByteArray) (b : Nat) (w : World) (hs : s.size ≤ maxLen) (hc : w.cell? ⟨b, 0, none⟩ = some (.string s)) (hf : w.frozen? ⟨b, 0, none⟩ = false) (hb : b < w.heap.size) (m : Nat) (hm : m ≤ 9223372036854775807) (hk : shK s ≠ 0) (hn : m < shN s) :
    Calls Tryd.prog 32 #[.pointer (some ⟨b, 0, none⟩), .int .i64 m] w fun e w' => e = .returned (.tuple #[.string ⟨#[]⟩, .int .i64 4]) ∧ Step b w w' s := by
  have HS := still hb hc hf
  have hk' : ((shK s : Int) == 0) = false := by simp [hk]
  have hN := shN_lt s
  clear hk
  go_enter Tryd.func32, Tryd.ntmps32
  go_wp2_with (go_at_call 53; refine (rshort_any s _ hs).mono ?_; rintro e w' ⟨rfl, rfl⟩)
  go_ret2
  exact ⟨rfl, HS⟩
set_option maxHeartbeats 400000 in
theorem rtext_no3 (s : ByteArray) (b : Nat) (w : World) (hs : s.size ≤ maxLen) (hc : w.cell? ⟨b, 0, none⟩ = some (.string s)) (hf : w.frozen? ⟨b, 0, none⟩ = false) (hb : b < w.heap.size) (m : Nat) (hm : m ≤ 9223372036854775807) (hk : shK s ≠ 0) (hn : shN s ≤ m) (hl : s.size - shK s < shN s) :
    Calls Tryd.prog 32 #[.pointer (some ⟨b, 0, none⟩), .int .i64 m] w fun e w' => e = .returned (.tuple #[.string ⟨#[]⟩, .int .i64 4]) ∧ Step b w w' s := by
  have HS := still hb hc hf
  have hs' := hs
  unfold maxLen at hs'
  have hk2 := shK_le s
  have hk' : ((shK s : Int) == 0) = false := by simp [hk]
  clear hk
  go_enter Tryd.func32, Tryd.ntmps32
  go_wp2_with (go_at_call 53; refine (rshort_any s _ hs).mono ?_; rintro e w' ⟨rfl, rfl⟩)
  go_ret2
  exact ⟨rfl, HS⟩
set_option maxHeartbeats 400000 in
theorem rtext_ok (s : ByteArray) (b : Nat) (w : World) (hs : s.size ≤ maxLen) (hc : w.cell? ⟨b, 0, none⟩ = some (.string s)) (hf : w.frozen? ⟨b, 0, none⟩ = false) (hb : b < w.heap.size) (m : Nat) (hm : m ≤ 9223372036854775807) (hk : shK s ≠ 0) (hn : shN s ≤ m) (hl : shK s + shN s ≤ s.size) :
    Calls Tryd.prog 32 #[.pointer (some ⟨b, 0, none⟩), .int .i64 m] w fun e w' => e = .returned (.tuple #[.string (s.extract (shK s) (shK s + shN s)), .int .i64 0]) ∧ Step b w w' (s.extract (shK s + shN s) s.size) := by
  have hs' := hs
  unfold maxLen at hs'
  have hk' : ((shK s : Int) == 0) = false := by simp [hk]
  have HS : Hid (Step b w (w.setCell ⟨b, 0, none⟩ (.string (s.extract (shK s + shN s) s.size))) (s.extract (shK s + shN s) s.size)) := set_step hb hc hf
  clear hk
  go_enter Tryd.func32, Tryd.ntmps32
  go_wp2_with (go_at_call 53; refine (rshort_any s _ hs).mono ?_; rintro e w' ⟨rfl, rfl⟩)
  go_ret2
  exact ⟨rfl, HS.out⟩
end Go.Proofs.YtcfniaknbbgheaaDoor
/- The document's own reader, as takers are told: what a number, a text, a byte taken tells. -/
namespace Go.Proofs.YtcfniaknbbgheaaDoor
open Go.RowKit
set_option linter.unusedSimpArgs false
set_option linter.unusedVariables false
/-- A reader of the document in block b. -/
structure RB (b : Nat) (s : ByteArray) (w : World) : Prop where
  rc : w.cell? ⟨b, 0, none⟩ = some (.string s)
  rf : w.frozen? ⟨b, 0, none⟩ = false
  rl : b < w.heap.size
theorem RB.step {b : Nat} {s s' : ByteArray} {w w' : World} (h : RB b s w) (hs : Step b w w' s') : RB b s' w' := ⟨hs.cell, hs.frozen, Nat.lt_of_lt_of_le h.rl hs.size⟩
/-- Behind so many errors as there were: does all fit? -/
def orE (u : Bool) (e : Int) : Bool := u || decide (e ≠ 0)
theorem orE_no (u : Bool) : orE u 4 = true := by unfold orE; cases u <;> rfl
theorem orE_ok (u : Bool) : orE u 0 = u := by unfold orE; cases u <;> rfl
theorem num_any {s : ByteArray} {u : Bool} {most : Nat} (hk : shK s ≠ 0) (h : shN s ≤ most) : NumS s u most (shN s) (s.extract (shK s) s.size) u :=
  ⟨h, ext_size10 _ _, fun hu => ⟨hu, num_split hk⟩, fun hu m r hmm hm he => ⟨hu, (num_front hm he).2.1, (num_front hm he).2.2⟩⟩
theorem txt_any10 {s : ByteArray} {u : Bool} {most : Nat} (hk : shK s ≠ 0) (hn : shN s ≤ most) (hl : shK s + shN s ≤ s.size) : TxtS s u most (s.extract (shK s) (shK s + shN s)) (s.extract (shK s + shN s) s.size) u :=
  ⟨by rw [(txt_split hk hl).2]; exact hn, ext_size10 _ _, fun hu => ⟨hu, (txt_split hk hl).1⟩, fun hu y r hmm hm he => ⟨hu, (txt_front hm he).2.2.2.1, (txt_front hm he).2.2.2.2⟩⟩
theorem ruintS (b : Nat) (s : ByteArray) (u : Bool) (w : World) (h : RB b s w) (hs : s.size ≤ 140737488351232) :
    Calls Tryd.prog 31 #[.pointer (some ⟨b, 0, none⟩)] w fun e w' => ∃ (n : Nat) (er : Int) (s' : ByteArray), e = .returned (.tuple #[.int .u64 (n : Int), .int .i64 er]) ∧ Step b w w' s' ∧ (er = 0 ∨ er = 4) ∧ NumS s u 18446744073709551615 n s' (orE u er) := by
  by_cases hk : shK s = 0
  · refine (ruint_no s b w (by unfold maxLen; omega) h.rc h.rf h.rl hk).mono ?_
    rintro e w' ⟨rfl, hst⟩
    exact ⟨0, 4, s, rfl, hst, .inr rfl, by rw [orE_no]; exact num_bad hk⟩
  · refine (ruint_ok s b w (by unfold maxLen; omega) h.rc h.rf h.rl hk).mono ?_
    rintro e w' ⟨rfl, hst⟩
    exact ⟨shN s, 0, _, rfl, hst, .inl rfl, by rw [orE_ok]; exact num_any hk (by have := shN_lt s; omega)⟩
theorem rtextS (b : Nat) (s : ByteArray) (u : Bool) (most : Nat) (w : World) (h : RB b s w) (hs : s.size ≤ 140737488351232) (hm : most ≤ 9223372036854775807) :
    Calls Tryd.prog 32 #[.pointer (some ⟨b, 0, none⟩), .int .i64 (most : Int)] w fun e w' => ∃ (x : ByteArray) (er : Int) (s' : ByteArray), e = .returned (.tuple #[.string x, .int .i64 er]) ∧ Step b w w' s' ∧ (er = 0 ∨ er = 4) ∧ TxtS s u most x s' (orE u er) := by
  have bad : shK s = 0 ∨ most < shN s ∨ s.size - shK s < shN s → Calls Tryd.prog 32 #[.pointer (some ⟨b, 0, none⟩), .int .i64 (most : Int)] w fun e w' => e = .returned (.tuple #[.string ⟨#[]⟩, .int .i64 4]) ∧ Step b w w' s := fun hh => by
    by_cases h1 : shK s = 0
    · exact rtext_no1 s b w (by unfold maxLen; omega) h.rc h.rf h.rl most hm h1
    · by_cases h2 : most < shN s
      · exact rtext_no2 s b w (by unfold maxLen; omega) h.rc h.rf h.rl most hm h1 h2
      · exact rtext_no3 s b w (by unfold maxLen; omega) h.rc h.rf h.rl most hm h1 (by omega) (by omega)
  by_cases hk : shK s = 0 ∨ most < shN s ∨ s.size - shK s < shN s
  · refine (bad hk).mono ?_
    rintro e w' ⟨rfl, hst⟩
    exact ⟨⟨#[]⟩, 4, s, rfl, hst, .inr rfl, by rw [orE_no]; exact txt_bad hk⟩
  · have g3 : shK s + shN s ≤ s.size := by have := shK_le s; omega
    refine (rtext_ok s b w (by unfold maxLen; omega) h.rc h.rf h.rl most hm (by omega) (by omega) g3).mono ?_
    rintro e w' ⟨rfl, hst⟩
    exact ⟨_, 0, _, rfl, hst, .inl rfl, by rw [orE_ok]; exact txt_any10 (by omega) (by omega) g3⟩
theorem rfixS (b : Nat) (s : ByteArray) (u : Bool) (w : World) (h : RB b s w) (hs : s.size ≤ 140737488351232) :
    Calls Tryd.prog 30 #[.pointer (some ⟨b, 0, none⟩), .int .i64 1] w fun e w' => ∃ (n : Nat) (er : Int) (s' : ByteArray), e = .returned (.tuple #[.int .u64 (n : Int), .int .i64 er]) ∧ Step b w w' s' ∧ (er = 0 ∨ er = 4) ∧ NodS s u n s' (orE u er) := by
  by_cases hk : s.size < 1
  · refine (rfixed_no s b w (by unfold maxLen; omega) h.rc h.rf h.rl 1 (by omega) (by omega) hk).mono ?_
    rintro e w' ⟨rfl, hst⟩
    exact ⟨0, 4, s, rfl, hst, .inr rfl, by rw [orE_no]; exact nod_bad hk⟩
  · refine (rfixed_ok s b w (by unfold maxLen; omega) h.rc h.rf h.rl 1 (by omega) (by omega) (by omega)).mono ?_
    rintro e w' ⟨rfl, hst⟩
    exact ⟨_, 0, _, rfl, hst, .inl rfl, by rw [orE_ok]; exact (nod_ok (by omega)).1⟩
end Go.Proofs.YtcfniaknbbgheaaDoor
