import Derived.Test.YtjnijcmalnckcaaDoorY14
import Derived.Test.YtjnijcmalnckcaaDoorY12
import Derived.Deep.RegionHeld3
import Derived.Test.YtjnijcmalnckcaaDoorY9
/- The law's all, on two lists that are alike. -/
namespace Go.Proofs.YtjnijcmalnckcaaDoor
open Go.RowKit
set_option linter.unusedSimpArgs false
set_option linter.unusedVariables false
set_option maxHeartbeats 8000000 in
set_option maxRecDepth 100000 in
theorem all10 (a b : Option Addr) (n c d : Nat) (l : List At) (w : World) (hA : AtL w a l) (hB : AtL w b l) (hl : l.length = n) (hn : n ≤ 4611686018427387904) (hx : ∀ a ∈ l, a.xs.length ≤ 4398046510976) :
    Calls Tryd.prog 25 #[.slice a n c, .slice b n d] w fun e w' => e = .returned (.bool true) ∧ Below w.heap.size w w' := by
  have HA : Hid (AtL w a l) := hA
  have HB0 : Hid (AtL w b l) := hB
  have HL : Hid (l.length = n) := hl
  have HXL : Hid (∀ a ∈ l, a.xs.length ≤ 4398046510976) := hx
  have hnz : ((n : Int) != n) = false := by simp
  clear hA hB hl hx
  go_enter Tryd.func25, Tryd.ntmps25
  go_wp2
  go_loopw [5] (fun v wr => ∃ k : Nat, v = .int .i64 k ∧ k ≤ n ∧ Hid (Below w.heap.size w wr)) (fun v _ => n - (intOf v).toNat)
  case atStart => exact ⟨0, rfl, Nat.zero_le _, Below.refl _ _⟩
  case round =>
    obtain ⟨k, rfl, hk, HB⟩ := hrel
    by_cases hlt : k < n
    · have hkz : (k : Int) < (n : Nat) := by omega
      obtain ⟨p, hp⟩ : ∃ p, l[k]? = some p := ⟨l[k]'(by rw [HL.out]; exact hlt), List.getElem?_eq_getElem _⟩
      obtain ⟨hpo, gm, om, slp, cpp, rfl, hgm, d0, d1, d2, d3, d4, d5, d6, hXp⟩ := HA.out.below HB.out k p hp
      obtain ⟨_, gn, on, sln, cpn, rfl, hgn, e0, e1, e2, e3, e4, e5, e6, hXn⟩ := HB0.out.below HB.out k p hp
      have hxl := HXL.out p (List.mem_of_getElem? hp)
      have hy := hpo.xs
      obtain ⟨nd, md, ui, gi, mt, tg, ys⟩ := p
      simp only at d0 d1 d2 d3 d4 d5 d6 e0 e1 e2 e3 e4 e5 e6 hXp hXn hy hxl
      have HSM : Hid (∀ x ∈ ys, x.1.size ≤ 140737488351232 ∧ x.2.size ≤ 140737488351232) := fun x hx => by
        obtain ⟨i, hi⟩ := List.getElem?_of_mem hx
        obtain ⟨_, _, _, _, _, _, h5, h6⟩ := hXp i x hi
        exact ⟨h5, h6⟩
      obtain ⟨my, hmy⟩ : ∃ my, ys.length = my := ⟨_, rfl⟩
      rw [hmy] at d6 e6 hy hxl
      have SK : Hid (∀ u, Below wr.heap.size wr u → (u.cell? ⟨gn, on + k * 7, none⟩ = some (.int .u8 (nd : Int)) ∧ u.cell? ⟨gn, on + k * 7 + 1, none⟩ = some (.int .u32 (md : Int)) ∧ u.cell? ⟨gn, on + k * 7 + 2, none⟩ = some (.int .u32 (ui : Int)) ∧ u.cell? ⟨gn, on + k * 7 + 3, none⟩ = some (.int .u32 (gi : Int)) ∧ u.cell? ⟨gn, on + k * 7 + 4, none⟩ = some (.int .i64 mt) ∧ u.cell? ⟨gn, on + k * 7 + 5, none⟩ = some (.string tg) ∧ u.cell? ⟨gn, on + k * 7 + 6, none⟩ = some (.slice sln my cpn)) ∧
          (u.cell? ⟨gm, om + k * 7, none⟩ = some (.int .u8 (nd : Int)) ∧ u.cell? ⟨gm, om + k * 7 + 1, none⟩ = some (.int .u32 (md : Int)) ∧ u.cell? ⟨gm, om + k * 7 + 2, none⟩ = some (.int .u32 (ui : Int)) ∧ u.cell? ⟨gm, om + k * 7 + 3, none⟩ = some (.int .u32 (gi : Int)) ∧ u.cell? ⟨gm, om + k * 7 + 4, none⟩ = some (.int .i64 mt) ∧ u.cell? ⟨gm, om + k * 7 + 5, none⟩ = some (.string tg) ∧ u.cell? ⟨gm, om + k * 7 + 6, none⟩ = some (.slice slp my cpp))) := fun u hu => by
        have q1 : ∀ j, u.cell? ⟨gn, j, none⟩ = wr.cell? ⟨gn, j, none⟩ := fun j => hu.cell (p := ⟨gn, j, none⟩) hgn
        have q2 : ∀ j, u.cell? ⟨gm, j, none⟩ = wr.cell? ⟨gm, j, none⟩ := fun j => hu.cell (p := ⟨gm, j, none⟩) hgm
        simp only [q1, q2]
        exact ⟨⟨e0, e1, e2, e3, e4, e5, e6⟩, d0, d1, d2, d3, d4, d5, d6⟩
      have C1 : Hid (Calls Tryd.prog 15 #[atV nd md ui gi mt tg (.slice slp my cpp)] wr.drew fun e w' => ∃ o c, e = .returned (.agg (c7 nd md ui gi mt tg (.slice o my c))) ∧ Hid (XaL w' o ys ∧ Below wr.heap.size wr w') ∧ ((w'.cell? ⟨gn, on + k * 7, none⟩ = some (.int .u8 (nd : Int)) ∧ w'.cell? ⟨gn, on + k * 7 + 1, none⟩ = some (.int .u32 (md : Int)) ∧ w'.cell? ⟨gn, on + k * 7 + 2, none⟩ = some (.int .u32 (ui : Int)) ∧ w'.cell? ⟨gn, on + k * 7 + 3, none⟩ = some (.int .u32 (gi : Int)) ∧ w'.cell? ⟨gn, on + k * 7 + 4, none⟩ = some (.int .i64 mt) ∧ w'.cell? ⟨gn, on + k * 7 + 5, none⟩ = some (.string tg) ∧ w'.cell? ⟨gn, on + k * 7 + 6, none⟩ = some (.slice sln my cpn)) ∧
          (w'.cell? ⟨gm, om + k * 7, none⟩ = some (.int .u8 (nd : Int)) ∧ w'.cell? ⟨gm, om + k * 7 + 1, none⟩ = some (.int .u32 (md : Int)) ∧ w'.cell? ⟨gm, om + k * 7 + 2, none⟩ = some (.int .u32 (ui : Int)) ∧ w'.cell? ⟨gm, om + k * 7 + 3, none⟩ = some (.int .u32 (gi : Int)) ∧ w'.cell? ⟨gm, om + k * 7 + 4, none⟩ = some (.int .i64 mt) ∧ w'.cell? ⟨gm, om + k * 7 + 5, none⟩ = some (.string tg) ∧ w'.cell? ⟨gm, om + k * 7 + 6, none⟩ = some (.slice slp my cpp)))) := by
        refine (ref10 nd md ui gi mt tg ys slp my cpp wr.drew (hXp.below (Below.refl _ _).drew) hmy hxl).mono ?_
        rintro e w' ⟨v, rfl, ho, hb⟩
        obtain ⟨o, c', rfl, hX⟩ := own_xal ho hmy HSM.out
        have hb' : Below wr.heap.size wr w' := (Below.refl _ _).drew.trans hb
        exact ⟨o, c', rfl, ⟨hX, hb'⟩, SK.out w' hb'⟩
      have C2 : Hid (∀ (o : Option Addr) (c' : Nat) (u : World), Below wr.heap.size wr u → XaL u o ys → Calls Tryd.prog 14 #[atV nd md ui gi mt tg (.slice o my c'), atV nd md ui gi mt tg (.slice sln my cpn)] u fun e w' => e = .returned (.bool true) ∧ Hid (Below wr.heap.size wr w') ∧ ((w'.cell? ⟨gn, on + k * 7, none⟩ = some (.int .u8 (nd : Int)) ∧ w'.cell? ⟨gn, on + k * 7 + 1, none⟩ = some (.int .u32 (md : Int)) ∧ w'.cell? ⟨gn, on + k * 7 + 2, none⟩ = some (.int .u32 (ui : Int)) ∧ w'.cell? ⟨gn, on + k * 7 + 3, none⟩ = some (.int .u32 (gi : Int)) ∧ w'.cell? ⟨gn, on + k * 7 + 4, none⟩ = some (.int .i64 mt) ∧ w'.cell? ⟨gn, on + k * 7 + 5, none⟩ = some (.string tg) ∧ w'.cell? ⟨gn, on + k * 7 + 6, none⟩ = some (.slice sln my cpn)) ∧
          (w'.cell? ⟨gm, om + k * 7, none⟩ = some (.int .u8 (nd : Int)) ∧ w'.cell? ⟨gm, om + k * 7 + 1, none⟩ = some (.int .u32 (md : Int)) ∧ w'.cell? ⟨gm, om + k * 7 + 2, none⟩ = some (.int .u32 (ui : Int)) ∧ w'.cell? ⟨gm, om + k * 7 + 3, none⟩ = some (.int .u32 (gi : Int)) ∧ w'.cell? ⟨gm, om + k * 7 + 4, none⟩ = some (.int .i64 mt) ∧ w'.cell? ⟨gm, om + k * 7 + 5, none⟩ = some (.string tg) ∧ w'.cell? ⟨gm, om + k * 7 + 6, none⟩ = some (.slice slp my cpp)))) := fun o c' u hu hX => by
        have h := rsame10 nd md ui gi mt tg ys o c' nd md ui gi mt tg ys sln cpn u hX (hXn.below hu) (by omega) (by omega)
        rw [(smB_iff _ _).2 rfl, hmy] at h
        refine h.mono ?_
        rintro e w' ⟨rfl, hb⟩
        have hb' := hu.trans (hb.mono hu.size)
        exact ⟨rfl, hb', SK.out w' hb'⟩
      clear hp hpo hXp hXn hmy SK
      go_wp2
      go_region_held3 (fun W => (W.cell? ⟨gn, on + k * 7, none⟩ = some (.int .u8 (nd : Int)) ∧ W.cell? ⟨gn, on + k * 7 + 1, none⟩ = some (.int .u32 (md : Int)) ∧ W.cell? ⟨gn, on + k * 7 + 2, none⟩ = some (.int .u32 (ui : Int)) ∧ W.cell? ⟨gn, on + k * 7 + 3, none⟩ = some (.int .u32 (gi : Int)) ∧ W.cell? ⟨gn, on + k * 7 + 4, none⟩ = some (.int .i64 mt) ∧ W.cell? ⟨gn, on + k * 7 + 5, none⟩ = some (.string tg) ∧ W.cell? ⟨gn, on + k * 7 + 6, none⟩ = some (.slice sln my cpn)) ∧
          (W.cell? ⟨gm, om + k * 7, none⟩ = some (.int .u8 (nd : Int)) ∧ W.cell? ⟨gm, om + k * 7 + 1, none⟩ = some (.int .u32 (md : Int)) ∧ W.cell? ⟨gm, om + k * 7 + 2, none⟩ = some (.int .u32 (ui : Int)) ∧ W.cell? ⟨gm, om + k * 7 + 3, none⟩ = some (.int .u32 (gi : Int)) ∧ W.cell? ⟨gm, om + k * 7 + 4, none⟩ = some (.int .i64 mt) ∧ W.cell? ⟨gm, om + k * 7 + 5, none⟩ = some (.string tg) ∧ W.cell? ⟨gm, om + k * 7 + 6, none⟩ = some (.slice slp my cpp))) (first | go_keep | exact HS7 | exact HS8) (first
        | (go_at_call 14; refine (C2.out o7 c7' _ H7.out.2 H7.out.1).mono ?_; rintro e w8 ⟨rfl, H8, HS8⟩)
        | (go_at_call 15; refine C1.out.mono ?_; rintro e w7 ⟨o7, c7', rfl, H7, HS7⟩))
      all_goals (first | go_wp2 | skip)
      all_goals go_roundw
      all_goals first
        | (case rel => exact ⟨k + 1, by go_num, by omega, HB.out.trans (H8.out.mono HB.out.size)⟩)
        | (case measure => simp [intOf]; omega)
    · have hkz : ¬ (k : Int) < (n : Nat) := by omega
      go_wp2
      go_ret
      exact ⟨rfl, HB.out⟩
end Go.Proofs.YtjnijcmalnckcaaDoor
/- The law's kept, on what is as it was. -/
namespace Go.Proofs.YtjnijcmalnckcaaDoor
open Go.RowKit
set_option linter.unusedSimpArgs false
set_option linter.unusedVariables false
set_option maxHeartbeats 8000000 in
set_option maxRecDepth 100000 in
theorem kept10 (nd md ui gi : Nat) (mt : Int) (tg : ByteArray) (xs : List (ByteArray × ByteArray)) (sl : Option Addr) (g n cp ca : Nat) (w : World) (hl : xs.length = n) (hn : n ≤ 4398046510976) (hX : XaL w sl xs) (hM : XaL w (some ⟨g, 0, none⟩) (xs ++ [mrk])) (hc : n + 1 ≤ cp) :
    Calls Tryd.prog 19 #[atV nd md ui gi mt tg (.slice (some ⟨g, 0, none⟩) n cp), atV nd md ui gi mt tg (.slice sl n ca)] w fun e w' => e = .returned (.bool true) ∧ Below w.heap.size w w' := by
  obtain ⟨g', o', hge, hgl, hmk, _⟩ := hM n mrk (by rw [List.getElem?_append_right (by omega), hl, Nat.sub_self]; rfl)
  cases hge
  rw [Nat.zero_add] at hmk
  have hX1 : XaL w (some ⟨g, 0, none⟩) xs := fun i x hx => hM i x (by rw [List.getElem?_append_left (List.getElem?_eq_some_iff.1 hx).1]; exact hx)
  have hcz : (n : Int) + 1 ≤ (cp : Nat) := by omega
  have hc0 : (0 : Int) ≤ (n : Int) + 1 := by omega
  have hc1 : (n : Int) < (n : Int) + 1 := by omega
  have hc2 : ((n : Int) + 1).toNat = n + 1 := by omega
  have hwr : IntKind.i64.wrap ((n : Int) + 1) = (n : Int) + 1 := by
    simp [IntKind.wrap, IntKind.bits, IntKind.signed]
    omega
  have hc3 : ¬ ((n : Int) + 1 < 0) := by omega
  have hc4 : ¬ ((cp : Int) < (n : Int) + 1) := by omega
  have HS : Hid (∀ x ∈ xs, x.1.size ≤ 140737488351232 ∧ x.2.size ≤ 140737488351232) := xal_small hX
  have B0 : Below w.heap.size w ((w.alloc (.cells (c7 nd md ui gi mt tg (.slice (some ⟨g, 0, none⟩) n cp)) 28)).alloc (.cells (c7 nd md ui gi mt tg (.slice sl n ca)) 25)) := ((Below.refl _ _).alloc (Nat.le_refl _) _).alloc (by simp) _
  have b1 : Bk ((w.alloc (.cells (c7 nd md ui gi mt tg (.slice (some ⟨g, 0, none⟩) n cp)) 28)).alloc (.cells (c7 nd md ui gi mt tg (.slice sl n ca)) 25)) w.heap.size (c7 nd md ui gi mt tg (.slice (some ⟨g, 0, none⟩) n cp)) 28 := (bk_new _ _ _).alloc _
  have b2 : Bk ((w.alloc (.cells (c7 nd md ui gi mt tg (.slice (some ⟨g, 0, none⟩) n cp)) 28)).alloc (.cells (c7 nd md ui gi mt tg (.slice sl n ca)) 25)) (w.heap.size + 1) (c7 nd md ui gi mt tg (.slice sl n ca)) 25 := by
    have h := bk_new (w.alloc (.cells (c7 nd md ui gi mt tg (.slice (some ⟨g, 0, none⟩) n cp)) 28)) (c7 nd md ui gi mt tg (.slice sl n ca)) 25
    rw [al_size] at h
    exact h
  have SK : Hid (∀ u, Below ((w.alloc (.cells (c7 nd md ui gi mt tg (.slice (some ⟨g, 0, none⟩) n cp)) 28)).alloc (.cells (c7 nd md ui gi mt tg (.slice sl n ca)) 25)).heap.size ((w.alloc (.cells (c7 nd md ui gi mt tg (.slice (some ⟨g, 0, none⟩) n cp)) 28)).alloc (.cells (c7 nd md ui gi mt tg (.slice sl n ca)) 25)) u → (u.cell? ⟨w.heap.size, 0, none⟩ = some (.int .u8 (nd : Int)) ∧ u.cell? ⟨w.heap.size, 1, none⟩ = some (.int .u32 (md : Int)) ∧ u.cell? ⟨w.heap.size, 2, none⟩ = some (.int .u32 (ui : Int)) ∧ u.cell? ⟨w.heap.size, 3, none⟩ = some (.int .u32 (gi : Int)) ∧ u.cell? ⟨w.heap.size, 4, none⟩ = some (.int .i64 mt) ∧ u.cell? ⟨w.heap.size, 5, none⟩ = some (.string tg) ∧ u.cell? ⟨w.heap.size, 6, none⟩ = some (.slice (some ⟨g, 0, none⟩) n cp)) ∧ (u.cell? ⟨w.heap.size + 1, 0, none⟩ = some (.int .u8 (nd : Int)) ∧ u.cell? ⟨w.heap.size + 1, 1, none⟩ = some (.int .u32 (md : Int)) ∧ u.cell? ⟨w.heap.size + 1, 2, none⟩ = some (.int .u32 (ui : Int)) ∧ u.cell? ⟨w.heap.size + 1, 3, none⟩ = some (.int .u32 (gi : Int)) ∧ u.cell? ⟨w.heap.size + 1, 4, none⟩ = some (.int .i64 mt) ∧ u.cell? ⟨w.heap.size + 1, 5, none⟩ = some (.string tg) ∧ u.cell? ⟨w.heap.size + 1, 6, none⟩ = some (.slice sl n ca)) ∧ u.cell? ⟨g, n * 2, none⟩ = some (.string ⟨#[35]⟩)) := fun u hu =>
    ⟨cells7 (b1.below hu b1.lt), cells7 (b2.below hu b2.lt), by rw [(B0.trans (hu.mono B0.size)).cell (p := ⟨g, n * 2, none⟩) hgl]; exact hmk⟩
  obtain ⟨s1, s2, s3⟩ := SK.out _ (Below.refl _ _)
  obtain ⟨p0, p1, p2, p3, p4, p5, p6⟩ := s1
  obtain ⟨q0, q1, q2, q3, q4, q5, q6⟩ := s2
  have HB0 : Hid (Below w.heap.size w ((w.alloc (.cells (c7 nd md ui gi mt tg (.slice (some ⟨g, 0, none⟩) n cp)) 28)).alloc (.cells (c7 nd md ui gi mt tg (.slice sl n ca)) 25))) := B0
  have C1 : Hid (Calls Tryd.prog 15 #[atV nd md ui gi mt tg (.slice (some ⟨g, 0, none⟩) n cp)] ((w.alloc (.cells (c7 nd md ui gi mt tg (.slice (some ⟨g, 0, none⟩) n cp)) 28)).alloc (.cells (c7 nd md ui gi mt tg (.slice sl n ca)) 25)).drew fun e w' => ∃ o c, e = .returned (.agg (c7 nd md ui gi mt tg (.slice o n c))) ∧ Hid (XaL w' o xs ∧ Below ((w.alloc (.cells (c7 nd md ui gi mt tg (.slice (some ⟨g, 0, none⟩) n cp)) 28)).alloc (.cells (c7 nd md ui gi mt tg (.slice sl n ca)) 25)).heap.size ((w.alloc (.cells (c7 nd md ui gi mt tg (.slice (some ⟨g, 0, none⟩) n cp)) 28)).alloc (.cells (c7 nd md ui gi mt tg (.slice sl n ca)) 25)) w') ∧ (w'.cell? ⟨w.heap.size, 0, none⟩ = some (.int .u8 (nd : Int)) ∧ w'.cell? ⟨w.heap.size, 1, none⟩ = some (.int .u32 (md : Int)) ∧ w'.cell? ⟨w.heap.size, 2, none⟩ = some (.int .u32 (ui : Int)) ∧ w'.cell? ⟨w.heap.size, 3, none⟩ = some (.int .u32 (gi : Int)) ∧ w'.cell? ⟨w.heap.size, 4, none⟩ = some (.int .i64 mt) ∧ w'.cell? ⟨w.heap.size, 5, none⟩ = some (.string tg) ∧ w'.cell? ⟨w.heap.size, 6, none⟩ = some (.slice (some ⟨g, 0, none⟩) n cp)) ∧ (w'.cell? ⟨w.heap.size + 1, 0, none⟩ = some (.int .u8 (nd : Int)) ∧ w'.cell? ⟨w.heap.size + 1, 1, none⟩ = some (.int .u32 (md : Int)) ∧ w'.cell? ⟨w.heap.size + 1, 2, none⟩ = some (.int .u32 (ui : Int)) ∧ w'.cell? ⟨w.heap.size + 1, 3, none⟩ = some (.int .u32 (gi : Int)) ∧ w'.cell? ⟨w.heap.size + 1, 4, none⟩ = some (.int .i64 mt) ∧ w'.cell? ⟨w.heap.size + 1, 5, none⟩ = some (.string tg) ∧ w'.cell? ⟨w.heap.size + 1, 6, none⟩ = some (.slice sl n ca)) ∧ w'.cell? ⟨g, n * 2, none⟩ = some (.string ⟨#[35]⟩)) := by
    refine (ref10 nd md ui gi mt tg xs (some ⟨g, 0, none⟩) n cp ((w.alloc (.cells (c7 nd md ui gi mt tg (.slice (some ⟨g, 0, none⟩) n cp)) 28)).alloc (.cells (c7 nd md ui gi mt tg (.slice sl n ca)) 25)).drew (hX1.below B0.drew) hl hn).mono ?_
    rintro e w' ⟨v, rfl, ho, hb⟩
    obtain ⟨o, c', rfl, hX'⟩ := own_xal ho hl HS.out
    have hb' : Below ((w.alloc (.cells (c7 nd md ui gi mt tg (.slice (some ⟨g, 0, none⟩) n cp)) 28)).alloc (.cells (c7 nd md ui gi mt tg (.slice sl n ca)) 25)).heap.size ((w.alloc (.cells (c7 nd md ui gi mt tg (.slice (some ⟨g, 0, none⟩) n cp)) 28)).alloc (.cells (c7 nd md ui gi mt tg (.slice sl n ca)) 25)) w' := (Below.refl _ _).drew.trans hb
    exact ⟨o, c', rfl, ⟨hX', hb'⟩, SK.out w' hb'⟩
  have C2 : Hid (∀ (o : Option Addr) (c' : Nat) (u : World), Below ((w.alloc (.cells (c7 nd md ui gi mt tg (.slice (some ⟨g, 0, none⟩) n cp)) 28)).alloc (.cells (c7 nd md ui gi mt tg (.slice sl n ca)) 25)).heap.size ((w.alloc (.cells (c7 nd md ui gi mt tg (.slice (some ⟨g, 0, none⟩) n cp)) 28)).alloc (.cells (c7 nd md ui gi mt tg (.slice sl n ca)) 25)) u → XaL u o xs → Calls Tryd.prog 14 #[atV nd md ui gi mt tg (.slice o n c'), atV nd md ui gi mt tg (.slice sl n ca)] u fun e w' => e = .returned (.bool true) ∧ Hid (Below ((w.alloc (.cells (c7 nd md ui gi mt tg (.slice (some ⟨g, 0, none⟩) n cp)) 28)).alloc (.cells (c7 nd md ui gi mt tg (.slice sl n ca)) 25)).heap.size ((w.alloc (.cells (c7 nd md ui gi mt tg (.slice (some ⟨g, 0, none⟩) n cp)) 28)).alloc (.cells (c7 nd md ui gi mt tg (.slice sl n ca)) 25)) w') ∧ (w'.cell? ⟨w.heap.size, 0, none⟩ = some (.int .u8 (nd : Int)) ∧ w'.cell? ⟨w.heap.size, 1, none⟩ = some (.int .u32 (md : Int)) ∧ w'.cell? ⟨w.heap.size, 2, none⟩ = some (.int .u32 (ui : Int)) ∧ w'.cell? ⟨w.heap.size, 3, none⟩ = some (.int .u32 (gi : Int)) ∧ w'.cell? ⟨w.heap.size, 4, none⟩ = some (.int .i64 mt) ∧ w'.cell? ⟨w.heap.size, 5, none⟩ = some (.string tg) ∧ w'.cell? ⟨w.heap.size, 6, none⟩ = some (.slice (some ⟨g, 0, none⟩) n cp)) ∧ (w'.cell? ⟨w.heap.size + 1, 0, none⟩ = some (.int .u8 (nd : Int)) ∧ w'.cell? ⟨w.heap.size + 1, 1, none⟩ = some (.int .u32 (md : Int)) ∧ w'.cell? ⟨w.heap.size + 1, 2, none⟩ = some (.int .u32 (ui : Int)) ∧ w'.cell? ⟨w.heap.size + 1, 3, none⟩ = some (.int .u32 (gi : Int)) ∧ w'.cell? ⟨w.heap.size + 1, 4, none⟩ = some (.int .i64 mt) ∧ w'.cell? ⟨w.heap.size + 1, 5, none⟩ = some (.string tg) ∧ w'.cell? ⟨w.heap.size + 1, 6, none⟩ = some (.slice sl n ca)) ∧ w'.cell? ⟨g, n * 2, none⟩ = some (.string ⟨#[35]⟩)) := fun o c' u hu hX' => by
    have h := rsame10 nd md ui gi mt tg xs o c' nd md ui gi mt tg xs sl ca u hX' (hX.below (B0.trans (hu.mono B0.size))) (by omega) (by omega)
    rw [(smB_iff _ _).2 rfl, hl] at h
    refine h.mono ?_
    rintro e w' ⟨rfl, hb⟩
    have hb' := hu.trans (hb.mono hu.size)
    exact ⟨rfl, hb', SK.out w' hb'⟩
  have hz0 : w.heap.size ≤ ((w.alloc (.cells (c7 nd md ui gi mt tg (.slice (some ⟨g, 0, none⟩) n cp)) 28)).alloc (.cells (c7 nd md ui gi mt tg (.slice sl n ca)) 25)).heap.size := B0.size
  clear hX hM hX1 hmk B0 b1 b2 SK HS
  go_enter Tryd.func19, Tryd.ntmps19
  go_wp2
  go_region_held3 (fun W => (W.cell? ⟨w.heap.size, 0, none⟩ = some (.int .u8 (nd : Int)) ∧ W.cell? ⟨w.heap.size, 1, none⟩ = some (.int .u32 (md : Int)) ∧ W.cell? ⟨w.heap.size, 2, none⟩ = some (.int .u32 (ui : Int)) ∧ W.cell? ⟨w.heap.size, 3, none⟩ = some (.int .u32 (gi : Int)) ∧ W.cell? ⟨w.heap.size, 4, none⟩ = some (.int .i64 mt) ∧ W.cell? ⟨w.heap.size, 5, none⟩ = some (.string tg) ∧ W.cell? ⟨w.heap.size, 6, none⟩ = some (.slice (some ⟨g, 0, none⟩) n cp)) ∧ (W.cell? ⟨w.heap.size + 1, 0, none⟩ = some (.int .u8 (nd : Int)) ∧ W.cell? ⟨w.heap.size + 1, 1, none⟩ = some (.int .u32 (md : Int)) ∧ W.cell? ⟨w.heap.size + 1, 2, none⟩ = some (.int .u32 (ui : Int)) ∧ W.cell? ⟨w.heap.size + 1, 3, none⟩ = some (.int .u32 (gi : Int)) ∧ W.cell? ⟨w.heap.size + 1, 4, none⟩ = some (.int .i64 mt) ∧ W.cell? ⟨w.heap.size + 1, 5, none⟩ = some (.string tg) ∧ W.cell? ⟨w.heap.size + 1, 6, none⟩ = some (.slice sl n ca)) ∧ W.cell? ⟨g, n * 2, none⟩ = some (.string ⟨#[35]⟩)) (first | go_keep | exact HS7 | exact HS8) (first
    | (go_at_call 14; refine (C2.out o7 c7' _ H7.out.2 H7.out.1).mono ?_; rintro e w8 ⟨rfl, H8, HS8⟩)
    | (go_at_call 15; refine C1.out.mono ?_; rintro e w7 ⟨o7, c7', rfl, H7, HS7⟩))
  all_goals (first | go_wp2 | skip)
  all_goals go_ret
  all_goals exact ⟨rfl, HB0.out.trans (H8.out.mono hz0)⟩
end Go.Proofs.YtjnijcmalnckcaaDoor
