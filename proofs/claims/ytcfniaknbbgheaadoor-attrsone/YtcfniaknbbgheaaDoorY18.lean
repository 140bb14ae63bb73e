import Derived.Test.YtcfniaknbbgheaaDoorY14
import Derived.Test.YtcfniaknbbgheaaDoorY15
import Derived.Test.YtcfniaknbbgheaaDoorY17
import Derived.Test.YtcfniaknbbgheaaDoorY16
/- The document's Read. -/
namespace Go.Proofs.YtcfniaknbbgheaaDoor
open Go.RowKit
set_option linter.unusedSimpArgs false
set_option linter.unusedVariables false
/-- What lies there while the document reads. -/
structure RQ (w0 : World) (ga : Nat) (s : ByteArray) (C : Array Value) (w : World) : Prop where
  rd : RB (w0.heap.size + 1) s w
  ab : Bk w ga C 25
  rb : Bk w w0.heap.size z7 25
  bel : Below w0.heap.size w0 w
  gl : w0.heap.size + 1 < ga
theorem RQ.next {w0 : World} {ga : Nat} {s s' : ByteArray} {C : Array Value} {w w' : World} (h : RQ w0 ga s C w) (hs : Step (w0.heap.size + 1) w w' s') : RQ w0 ga s' C w' :=
  ⟨h.rd.step hs, by (have := h.gl; unfold Bk; rw [hs.block ga h.ab.lt (by omega)]; exact h.ab), by (unfold Bk; rw [hs.block w0.heap.size h.rb.lt (by omega)]; exact h.rb), h.bel.trans (hs.below (by omega) h.bel.size), h.gl⟩
theorem RQ.set {w0 : World} {ga : Nat} {s : ByteArray} {C : Array Value} {w : World} (h : RQ w0 ga s C w) (j : Nat) (v : Value) : RQ w0 ga s (C.setIfInBounds j v) (w.setCell ⟨ga, j, none⟩ v) := by
  have hg : w.grownBy (w.setCell ⟨ga, j, none⟩ v) (some ga) := Lib.grownBy_setB (World.grownBy.refl _ _) j _
  have hgl := h.gl
  have q := cell_blk (j := 0) (hg.block (w0.heap.size + 1) h.rd.rl (fun e => by injection e with e; omega))
  exact ⟨⟨by rw [q.1]; exact h.rd.rc, by rw [q.2]; exact h.rd.rf, Nat.lt_of_lt_of_le h.rd.rl hg.size⟩, h.ab.set j v, h.rb.grown hg (fun e => by injection e with e; omega), below_own h.bel h.bel.size hg (by omega), hgl⟩
theorem RQ.own {w0 w w' : World} {s' : ByteArray} {B n k : Nat} {e : TypeId} {v : Value} {xs : List Value} (h : w.ownsRow B e k v n xs) (hs : Step (w0.heap.size + 1) w w' s') (hB : w0.heap.size + 1 < B) : w'.ownsRow B e k v n xs :=
  rows_keep h (fun g q1 q2 => hs.block g q2 (by omega))
theorem cellsz {w : World} {b : Nat} {T : TypeId} (h : Bk w b z7 T) : w.cell? ⟨b, 0, none⟩ = some (.int .u8 0) ∧ w.cell? ⟨b, 1, none⟩ = some (.int .u32 0) ∧ w.cell? ⟨b, 2, none⟩ = some (.int .u32 0) ∧ w.cell? ⟨b, 3, none⟩ = some (.int .u32 0) ∧ w.cell? ⟨b, 4, none⟩ = some (.int .i64 0) ∧ w.cell? ⟨b, 5, none⟩ = some (.string ⟨#[]⟩) ∧ w.cell? ⟨b, 6, none⟩ = some (.slice none 0 0) :=
  ⟨by rw [h.cell]; rfl, by rw [h.cell]; rfl, by rw [h.cell]; rfl, by rw [h.cell]; rfl, by rw [h.cell]; rfl, by rw [h.cell]; rfl, by rw [h.cell]; rfl⟩
theorem orE_out {u : Bool} {e : Int} (h : orE u e = false) : u = false ∧ e = 0 := by
  unfold orE at h
  rw [Bool.or_eq_false_iff] at h
  exact ⟨h.1, by have := of_decide_eq_false h.2; omega⟩
set_option maxHeartbeats 40000000 in
set_option maxRecDepth 100000 in
theorem rread10 (S : ByteArray) (w : World) (hs : S.size ≤ 140737488351232) (hT : U8 w) :
    Calls Tryd.prog 9 #[.string S] w fun e w' => ∃ (a : At) (v : Value) (er : Int), e = .returned (.tuple #[.agg (c7 a.nd a.md a.ui a.gi a.mt a.tg v), .int .i64 er]) ∧ RdS S a er ∧ AtOk a ∧ w'.ownsRow w.heap.size 55 2 v a.xs.length (xav a.xs) ∧ (∀ x ∈ a.xs, x.1.size ≤ 255 ∧ x.2.size ≤ 4096) ∧ Below w.heap.size w w' := by
  have HT : Hid (U8 w) := hT
  have b0 := (bk_new w z7 25).alloc (.cells #[.string S] 80)
  have b1 := bk_new (w.alloc (.cells z7 25)) #[.string S] 80
  rw [al_size] at b1
  have R0 : Hid (RB (w.heap.size + 1) S ((w.alloc (.cells z7 25)).alloc (.cells #[.string S] 80))) := ⟨by rw [b1.cell]; rfl, b1.frozen 0, b1.lt⟩
  have BZ : Hid (Bk ((w.alloc (.cells z7 25)).alloc (.cells #[.string S] 80)) w.heap.size z7 25) := b0
  have B0 : Hid (Below w.heap.size w ((w.alloc (.cells z7 25)).alloc (.cells #[.string S] 80))) := ((Below.refl _ _).alloc (Nat.le_refl _) _).alloc (by simp) _
  clear hT b0 b1
  go_enter Tryd.func9, Tryd.ntmps9
  go_wp2_with fail
  refine (rfixS (w.heap.size + 1) S false _ R0.out hs).mono ?_
  rintro e w2 ⟨n0, er0, s2, rfl, hst, he0, hN⟩
  have hb0 := hN.bd
  have P2 : Hid (Prs S [UInt8.ofNat n0] r1 (fun a => a.nd = n0) s2 (orE false er0)) := Prs.nod hN
  have hz2 : w.heap.size + 1 < w2.heap.size := Nat.lt_of_lt_of_le R0.out.rl hst.size
  have Q2 : Hid (RQ w w2.heap.size s2 (c7 n0 0 0 0 0 ⟨#[]⟩ (.slice none 0 0)) (w2.alloc (.cells (c7 n0 0 0 0 0 ⟨#[]⟩ (.slice none 0 0)) 25))) := by
    have h1 := R0.out.step hst
    have hb : Below w2.heap.size w2 (w2.alloc (.cells (c7 n0 0 0 0 0 ⟨#[]⟩ (.slice none 0 0)) 25)) := (Below.refl _ _).alloc (Nat.le_refl _) _
    refine ⟨⟨by rw [hb.cell (p := ⟨w.heap.size + 1, 0, none⟩) h1.rl]; exact h1.rc, by rw [hb.frozen (p := ⟨w.heap.size + 1, 0, none⟩) h1.rl]; exact h1.rf, Nat.lt_of_lt_of_le h1.rl hb.size⟩, bk_new _ _ _, ?_, ?_, hz2⟩
    · exact Bk.alloc (by unfold Bk; rw [hst.block w.heap.size BZ.out.lt (by omega)]; exact BZ.out) _
    · exact (B0.out.trans (hst.below (by omega) B0.out.size)).alloc (by omega) _
  have z2 : s2.size ≤ 140737488351232 := Nat.le_trans P2.out.sz hs
  clear hst hN R0 BZ B0
  go_wp2_with fail
  refine (ruintS (w.heap.size + 1) s2 (orE false er0) _ Q2.out.rd z2).mono ?_
  rintro e w3 ⟨n1, er1, s3, rfl, hst, he1, hN⟩
  have hb1 := hN.bd
  have P3 : Hid (Prs S ([UInt8.ofNat n0] ++ e8 n1) r2 (fun a => (a.nd = n0) ∧ a.md = n1) s3 (orE (orE false er0) er1)) := P2.out.num hN (fun a => a.md) r2 (fun a ha _ => ⟨by have := (okA_out ha.ok).2.1; omega, by have := (okA_out ha.ok).2.1; omega⟩) (fun a _ _ => rfl)
  have Q3 : Hid (RQ w w2.heap.size s3 (c7 n0 0 0 0 0 ⟨#[]⟩ (.slice none 0 0)) w3) := Q2.out.next hst
  have z3 : s3.size ≤ 140737488351232 := Nat.le_trans P3.out.sz hs
  clear hst hN P2 Q2
  go_wp2_with fail
  refine (ruintS (w.heap.size + 1) s3 (orE (orE false er0) er1) _ Q3.out.rd z3).mono ?_
  rintro e w4 ⟨n2, er2, s4, rfl, hst, he2, hN⟩
  have hb2 := hN.bd
  have P4 : Hid (Prs S ([UInt8.ofNat n0] ++ e8 n1 ++ e8 n2) r3 (fun a => ((a.nd = n0) ∧ a.md = n1) ∧ a.ui = n2) s4 (orE (orE (orE false er0) er1) er2)) := P3.out.num hN (fun a => a.ui) r3 (fun a ha _ => ⟨by have := ha.ui; omega, by have := ha.ui; omega⟩) (fun a _ _ => rfl)
  have Q4 : Hid (RQ w w2.heap.size s4 (c7 n0 0 0 0 0 ⟨#[]⟩ (.slice none 0 0)) w4) := Q3.out.next hst
  have z4 : s4.size ≤ 140737488351232 := Nat.le_trans P4.out.sz hs
  clear hst hN P3 Q3
  go_wp2_with fail
  refine (ruintS (w.heap.size + 1) s4 (orE (orE (orE false er0) er1) er2) _ Q4.out.rd z4).mono ?_
  rintro e w5 ⟨n3, er3, s5, rfl, hst, he3, hN⟩
  have hb3 := hN.bd
  have P5 : Hid (Prs S ([UInt8.ofNat n0] ++ e8 n1 ++ e8 n2 ++ e8 n3) r4 (fun a => (((a.nd = n0) ∧ a.md = n1) ∧ a.ui = n2) ∧ a.gi = n3) s5 (orE (orE (orE (orE false er0) er1) er2) er3)) := P4.out.num hN (fun a => a.gi) r4 (fun a ha _ => ⟨by have := ha.gi; omega, by have := ha.gi; omega⟩) (fun a _ _ => rfl)
  have Q5 : Hid (RQ w w2.heap.size s5 (c7 n0 0 0 0 0 ⟨#[]⟩ (.slice none 0 0)) w5) := Q4.out.next hst
  have z5 : s5.size ≤ 140737488351232 := Nat.le_trans P5.out.sz hs
  clear hst hN P4 Q4
  go_wp2_with fail
  refine (ruintS (w.heap.size + 1) s5 (orE (orE (orE (orE false er0) er1) er2) er3) _ Q5.out.rd z5).mono ?_
  rintro e w6 ⟨n4, er4, s6, rfl, hst, he4, hN⟩
  have hb4 := hN.bd
  have P6 : Hid (Prs S ([UInt8.ofNat n0] ++ e8 n1 ++ e8 n2 ++ e8 n3 ++ e8 n4) r5 (fun a => ((((a.nd = n0) ∧ a.md = n1) ∧ a.ui = n2) ∧ a.gi = n3) ∧ a.mt.toNat = n4) s6 (orE (orE (orE (orE (orE false er0) er1) er2) er3) er4)) := P5.out.num hN (fun a => a.mt.toNat) r5 (fun a ha _ => ⟨by have := (okA_out ha.ok).2.2.1; omega, by have := (okA_out ha.ok).2.2.1; omega⟩) (fun a _ _ => rfl)
  have Q6 : Hid (RQ w w2.heap.size s6 (c7 n0 0 0 0 0 ⟨#[]⟩ (.slice none 0 0)) w6) := Q5.out.next hst
  have z6 : s6.size ≤ 140737488351232 := Nat.le_trans P6.out.sz hs
  clear hst hN P5 Q5
  have hlt6 : w.heap.size < w6.heap.size := Q6.out.rb.lt
  have HBD : Hid (∀ a, Gd a → lay a = bl S → er0 = 0 ∧ er1 = 0 ∧ er2 = 0 ∧ er3 = 0 ∧ er4 = 0 ∧ n1 ≤ 4095 ∧ n2 ≤ 4294967295 ∧ n3 ≤ 4294967295 ∧ n4 ≤ 1099511627776) := fun a ha hl => by
    obtain ⟨h1, ⟨⟨⟨⟨f1, f2⟩, f3⟩, f4⟩, f5⟩, _⟩ := P6.out.no a ha hl
    obtain ⟨h2, i4⟩ := orE_out h1
    obtain ⟨h3, i3⟩ := orE_out h2
    obtain ⟨h4, i2⟩ := orE_out h3
    obtain ⟨h5, i1⟩ := orE_out h4
    obtain ⟨_, i0⟩ := orE_out h5
    obtain ⟨k1, k2, k3, k4, k5⟩ := okA_out ha.ok
    have := ha.ui
    have := ha.gi
    exact ⟨i0, i1, i2, i3, i4, by omega, by omega, by omega, by omega⟩
  rcases he0 with rfl | rfl
  rotate_left
  · have HNO : Hid (∀ a, Gd a → lay a ≠ bl S) := fun a ha hl => by have := (HBD.out a ha hl); omega
    have hrb := Q6.out.rb
    have HRB : Hid (Bk w6 w.heap.size z7 25) := hrb
    have HBE : Hid (Below w.heap.size w w6) := Q6.out.bel
    have hfz : ∀ j, w6.frozen? ⟨w.heap.size, j, none⟩ = false := fun j => hrb.frozen j
    obtain ⟨y0, y1, y2, y3, y4, y5, y6⟩ := cellsz hrb
    clear hrb
    go_wp2
    have q1 := bk_st7 HRB.out (.int .u8 0) (.int .u32 0) (.int .u32 0) (.int .u32 0) (.int .i64 0) (.string ⟨#[]⟩) (.slice none 0 0)
    have q2 := gr_st7 w6 w.heap.size (.int .u8 0) (.int .u32 0) (.int .u32 0) (.int .u32 0) (.int .i64 0) (.string ⟨#[]⟩) (.slice none 0 0)
    exact bodyPost_ret (res_cell_tmp rfl _ _ w.heap.size 25 z7 (0, 0) _ rfl q1 Tryd.underlying25 rfl inf_rattr) rfl ⟨⟨0, 0, 0, 0, 0, ⟨#[]⟩, []⟩, _, 4, rfl, .inr ⟨rfl, rfl, HNO.out⟩, zok, rows_none, (fun x hx => nomatch hx), below_own HBE.out HBE.out.size q2 (Nat.le_refl _)⟩
  rcases he1 with rfl | rfl
  rotate_left
  · have HNO : Hid (∀ a, Gd a → lay a ≠ bl S) := fun a ha hl => by have := (HBD.out a ha hl); omega
    have hrb := Q6.out.rb
    have HRB : Hid (Bk w6 w.heap.size z7 25) := hrb
    have HBE : Hid (Below w.heap.size w w6) := Q6.out.bel
    have hfz : ∀ j, w6.frozen? ⟨w.heap.size, j, none⟩ = false := fun j => hrb.frozen j
    obtain ⟨y0, y1, y2, y3, y4, y5, y6⟩ := cellsz hrb
    clear hrb
    go_wp2
    have q1 := bk_st7 HRB.out (.int .u8 0) (.int .u32 0) (.int .u32 0) (.int .u32 0) (.int .i64 0) (.string ⟨#[]⟩) (.slice none 0 0)
    have q2 := gr_st7 w6 w.heap.size (.int .u8 0) (.int .u32 0) (.int .u32 0) (.int .u32 0) (.int .i64 0) (.string ⟨#[]⟩) (.slice none 0 0)
    exact bodyPost_ret (res_cell_tmp rfl _ _ w.heap.size 25 z7 (0, 0) _ rfl q1 Tryd.underlying25 rfl inf_rattr) rfl ⟨⟨0, 0, 0, 0, 0, ⟨#[]⟩, []⟩, _, 4, rfl, .inr ⟨rfl, rfl, HNO.out⟩, zok, rows_none, (fun x hx => nomatch hx), below_own HBE.out HBE.out.size q2 (Nat.le_refl _)⟩
  rcases he2 with rfl | rfl
  rotate_left
  · have HNO : Hid (∀ a, Gd a → lay a ≠ bl S) := fun a ha hl => by have := (HBD.out a ha hl); omega
    have hrb := Q6.out.rb
    have HRB : Hid (Bk w6 w.heap.size z7 25) := hrb
    have HBE : Hid (Below w.heap.size w w6) := Q6.out.bel
    have hfz : ∀ j, w6.frozen? ⟨w.heap.size, j, none⟩ = false := fun j => hrb.frozen j
    obtain ⟨y0, y1, y2, y3, y4, y5, y6⟩ := cellsz hrb
    clear hrb
    go_wp2
    have q1 := bk_st7 HRB.out (.int .u8 0) (.int .u32 0) (.int .u32 0) (.int .u32 0) (.int .i64 0) (.string ⟨#[]⟩) (.slice none 0 0)
    have q2 := gr_st7 w6 w.heap.size (.int .u8 0) (.int .u32 0) (.int .u32 0) (.int .u32 0) (.int .i64 0) (.string ⟨#[]⟩) (.slice none 0 0)
    exact bodyPost_ret (res_cell_tmp rfl _ _ w.heap.size 25 z7 (0, 0) _ rfl q1 Tryd.underlying25 rfl inf_rattr) rfl ⟨⟨0, 0, 0, 0, 0, ⟨#[]⟩, []⟩, _, 4, rfl, .inr ⟨rfl, rfl, HNO.out⟩, zok, rows_none, (fun x hx => nomatch hx), below_own HBE.out HBE.out.size q2 (Nat.le_refl _)⟩
  rcases he3 with rfl | rfl
  rotate_left
  · have HNO : Hid (∀ a, Gd a → lay a ≠ bl S) := fun a ha hl => by have := (HBD.out a ha hl); omega
    have hrb := Q6.out.rb
    have HRB : Hid (Bk w6 w.heap.size z7 25) := hrb
    have HBE : Hid (Below w.heap.size w w6) := Q6.out.bel
    have hfz : ∀ j, w6.frozen? ⟨w.heap.size, j, none⟩ = false := fun j => hrb.frozen j
    obtain ⟨y0, y1, y2, y3, y4, y5, y6⟩ := cellsz hrb
    clear hrb
    go_wp2
    have q1 := bk_st7 HRB.out (.int .u8 0) (.int .u32 0) (.int .u32 0) (.int .u32 0) (.int .i64 0) (.string ⟨#[]⟩) (.slice none 0 0)
    have q2 := gr_st7 w6 w.heap.size (.int .u8 0) (.int .u32 0) (.int .u32 0) (.int .u32 0) (.int .i64 0) (.string ⟨#[]⟩) (.slice none 0 0)
    exact bodyPost_ret (res_cell_tmp rfl _ _ w.heap.size 25 z7 (0, 0) _ rfl q1 Tryd.underlying25 rfl inf_rattr) rfl ⟨⟨0, 0, 0, 0, 0, ⟨#[]⟩, []⟩, _, 4, rfl, .inr ⟨rfl, rfl, HNO.out⟩, zok, rows_none, (fun x hx => nomatch hx), below_own HBE.out HBE.out.size q2 (Nat.le_refl _)⟩
  rcases he4 with rfl | rfl
  rotate_left
  · have HNO : Hid (∀ a, Gd a → lay a ≠ bl S) := fun a ha hl => by have := (HBD.out a ha hl); omega
    have hrb := Q6.out.rb
    have HRB : Hid (Bk w6 w.heap.size z7 25) := hrb
    have HBE : Hid (Below w.heap.size w w6) := Q6.out.bel
    have hfz : ∀ j, w6.frozen? ⟨w.heap.size, j, none⟩ = false := fun j => hrb.frozen j
    obtain ⟨y0, y1, y2, y3, y4, y5, y6⟩ := cellsz hrb
    clear hrb
    go_wp2
    have q1 := bk_st7 HRB.out (.int .u8 0) (.int .u32 0) (.int .u32 0) (.int .u32 0) (.int .i64 0) (.string ⟨#[]⟩) (.slice none 0 0)
    have q2 := gr_st7 w6 w.heap.size (.int .u8 0) (.int .u32 0) (.int .u32 0) (.int .u32 0) (.int .i64 0) (.string ⟨#[]⟩) (.slice none 0 0)
    exact bodyPost_ret (res_cell_tmp rfl _ _ w.heap.size 25 z7 (0, 0) _ rfl q1 Tryd.underlying25 rfl inf_rattr) rfl ⟨⟨0, 0, 0, 0, 0, ⟨#[]⟩, []⟩, _, 4, rfl, .inr ⟨rfl, rfl, HNO.out⟩, zok, rows_none, (fun x hx => nomatch hx), below_own HBE.out HBE.out.size q2 (Nat.le_refl _)⟩
  by_cases hvn1 : (4095 : Int) < n1
  · have HNO : Hid (∀ a, Gd a → lay a ≠ bl S) := fun a ha hl => by have := (HBD.out a ha hl); omega
    have hrb := Q6.out.rb
    have HRB : Hid (Bk w6 w.heap.size z7 25) := hrb
    have HBE : Hid (Below w.heap.size w w6) := Q6.out.bel
    have hfz : ∀ j, w6.frozen? ⟨w.heap.size, j, none⟩ = false := fun j => hrb.frozen j
    obtain ⟨y0, y1, y2, y3, y4, y5, y6⟩ := cellsz hrb
    clear hrb
    go_wp2
    have q1 := bk_st7 HRB.out (.int .u8 0) (.int .u32 0) (.int .u32 0) (.int .u32 0) (.int .i64 0) (.string ⟨#[]⟩) (.slice none 0 0)
    have q2 := gr_st7 w6 w.heap.size (.int .u8 0) (.int .u32 0) (.int .u32 0) (.int .u32 0) (.int .i64 0) (.string ⟨#[]⟩) (.slice none 0 0)
    exact bodyPost_ret (res_cell_tmp rfl _ _ w.heap.size 25 z7 (0, 0) _ rfl q1 Tryd.underlying25 rfl inf_rattr) rfl ⟨⟨0, 0, 0, 0, 0, ⟨#[]⟩, []⟩, _, 4, rfl, .inr ⟨rfl, rfl, HNO.out⟩, zok, rows_none, (fun x hx => nomatch hx), below_own HBE.out HBE.out.size q2 (Nat.le_refl _)⟩
  by_cases hvn2 : (4294967295 : Int) < n2
  · have HNO : Hid (∀ a, Gd a → lay a ≠ bl S) := fun a ha hl => by have := (HBD.out a ha hl); omega
    have hrb := Q6.out.rb
    have HRB : Hid (Bk w6 w.heap.size z7 25) := hrb
    have HBE : Hid (Below w.heap.size w w6) := Q6.out.bel
    have hfz : ∀ j, w6.frozen? ⟨w.heap.size, j, none⟩ = false := fun j => hrb.frozen j
    obtain ⟨y0, y1, y2, y3, y4, y5, y6⟩ := cellsz hrb
    clear hrb
    go_wp2
    have q1 := bk_st7 HRB.out (.int .u8 0) (.int .u32 0) (.int .u32 0) (.int .u32 0) (.int .i64 0) (.string ⟨#[]⟩) (.slice none 0 0)
    have q2 := gr_st7 w6 w.heap.size (.int .u8 0) (.int .u32 0) (.int .u32 0) (.int .u32 0) (.int .i64 0) (.string ⟨#[]⟩) (.slice none 0 0)
    exact bodyPost_ret (res_cell_tmp rfl _ _ w.heap.size 25 z7 (0, 0) _ rfl q1 Tryd.underlying25 rfl inf_rattr) rfl ⟨⟨0, 0, 0, 0, 0, ⟨#[]⟩, []⟩, _, 4, rfl, .inr ⟨rfl, rfl, HNO.out⟩, zok, rows_none, (fun x hx => nomatch hx), below_own HBE.out HBE.out.size q2 (Nat.le_refl _)⟩
  by_cases hvn3 : (4294967295 : Int) < n3
  · have HNO : Hid (∀ a, Gd a → lay a ≠ bl S) := fun a ha hl => by have := (HBD.out a ha hl); omega
    have hrb := Q6.out.rb
    have HRB : Hid (Bk w6 w.heap.size z7 25) := hrb
    have HBE : Hid (Below w.heap.size w w6) := Q6.out.bel
    have hfz : ∀ j, w6.frozen? ⟨w.heap.size, j, none⟩ = false := fun j => hrb.frozen j
    obtain ⟨y0, y1, y2, y3, y4, y5, y6⟩ := cellsz hrb
    clear hrb
    go_wp2
    have q1 := bk_st7 HRB.out (.int .u8 0) (.int .u32 0) (.int .u32 0) (.int .u32 0) (.int .i64 0) (.string ⟨#[]⟩) (.slice none 0 0)
    have q2 := gr_st7 w6 w.heap.size (.int .u8 0) (.int .u32 0) (.int .u32 0) (.int .u32 0) (.int .i64 0) (.string ⟨#[]⟩) (.slice none 0 0)
    exact bodyPost_ret (res_cell_tmp rfl _ _ w.heap.size 25 z7 (0, 0) _ rfl q1 Tryd.underlying25 rfl inf_rattr) rfl ⟨⟨0, 0, 0, 0, 0, ⟨#[]⟩, []⟩, _, 4, rfl, .inr ⟨rfl, rfl, HNO.out⟩, zok, rows_none, (fun x hx => nomatch hx), below_own HBE.out HBE.out.size q2 (Nat.le_refl _)⟩
  by_cases hvn4 : (1099511627776 : Int) < n4
  · have HNO : Hid (∀ a, Gd a → lay a ≠ bl S) := fun a ha hl => by have := (HBD.out a ha hl); omega
    have hrb := Q6.out.rb
    have HRB : Hid (Bk w6 w.heap.size z7 25) := hrb
    have HBE : Hid (Below w.heap.size w w6) := Q6.out.bel
    have hfz : ∀ j, w6.frozen? ⟨w.heap.size, j, none⟩ = false := fun j => hrb.frozen j
    obtain ⟨y0, y1, y2, y3, y4, y5, y6⟩ := cellsz hrb
    clear hrb
    go_wp2
    have q1 := bk_st7 HRB.out (.int .u8 0) (.int .u32 0) (.int .u32 0) (.int .u32 0) (.int .i64 0) (.string ⟨#[]⟩) (.slice none 0 0)
    have q2 := gr_st7 w6 w.heap.size (.int .u8 0) (.int .u32 0) (.int .u32 0) (.int .u32 0) (.int .i64 0) (.string ⟨#[]⟩) (.slice none 0 0)
    exact bodyPost_ret (res_cell_tmp rfl _ _ w.heap.size 25 z7 (0, 0) _ rfl q1 Tryd.underlying25 rfl inf_rattr) rfl ⟨⟨0, 0, 0, 0, 0, ⟨#[]⟩, []⟩, _, 4, rfl, .inr ⟨rfl, rfl, HNO.out⟩, zok, rows_none, (fun x hx => nomatch hx), below_own HBE.out HBE.out.size q2 (Nat.le_refl _)⟩
  have hn1 : n1 ≤ 4095 := by omega
  have hn2 : n2 ≤ 4294967295 := by omega
  have hn3 : n3 ≤ 4294967295 := by omega
  have hn4 : n4 ≤ 1099511627776 := by omega
  have P6' : Hid (Prs S ([UInt8.ofNat n0] ++ e8 n1 ++ e8 n2 ++ e8 n3 ++ e8 n4) r5 (fun a => ((((a.nd = n0) ∧ a.md = n1) ∧ a.ui = n2) ∧ a.gi = n3) ∧ a.mt.toNat = n4) s6 false) := P6.out
  have d1 : w6.cell? ⟨w2.heap.size, 1, none⟩ = some (.int .u32 0) := by rw [Q6.out.ab.cell]; rfl
  have f1 : w6.frozen? ⟨w2.heap.size, 1, none⟩ = false := Q6.out.ab.frozen 1
  have R1 : Hid (RQ w w2.heap.size s6 (c7 n0 n1 0 0 0 ⟨#[]⟩ (.slice none 0 0)) (w6.setCell ⟨w2.heap.size, 1, none⟩ (.int .u32 (n1 : Int)))) := Q6.out.set 1 (.int .u32 (n1 : Int))
  have d2 : (w6.setCell ⟨w2.heap.size, 1, none⟩ (.int .u32 (n1 : Int))).cell? ⟨w2.heap.size, 2, none⟩ = some (.int .u32 0) := by rw [R1.out.ab.cell]; rfl
  have f2 : (w6.setCell ⟨w2.heap.size, 1, none⟩ (.int .u32 (n1 : Int))).frozen? ⟨w2.heap.size, 2, none⟩ = false := R1.out.ab.frozen 2
  have R2 : Hid (RQ w w2.heap.size s6 (c7 n0 n1 n2 0 0 ⟨#[]⟩ (.slice none 0 0)) ((w6.setCell ⟨w2.heap.size, 1, none⟩ (.int .u32 (n1 : Int))).setCell ⟨w2.heap.size, 2, none⟩ (.int .u32 (n2 : Int)))) := R1.out.set 2 (.int .u32 (n2 : Int))
  have d3 : ((w6.setCell ⟨w2.heap.size, 1, none⟩ (.int .u32 (n1 : Int))).setCell ⟨w2.heap.size, 2, none⟩ (.int .u32 (n2 : Int))).cell? ⟨w2.heap.size, 3, none⟩ = some (.int .u32 0) := by rw [R2.out.ab.cell]; rfl
  have f3 : ((w6.setCell ⟨w2.heap.size, 1, none⟩ (.int .u32 (n1 : Int))).setCell ⟨w2.heap.size, 2, none⟩ (.int .u32 (n2 : Int))).frozen? ⟨w2.heap.size, 3, none⟩ = false := R2.out.ab.frozen 3
  have R3 : Hid (RQ w w2.heap.size s6 (c7 n0 n1 n2 n3 0 ⟨#[]⟩ (.slice none 0 0)) (((w6.setCell ⟨w2.heap.size, 1, none⟩ (.int .u32 (n1 : Int))).setCell ⟨w2.heap.size, 2, none⟩ (.int .u32 (n2 : Int))).setCell ⟨w2.heap.size, 3, none⟩ (.int .u32 (n3 : Int)))) := R2.out.set 3 (.int .u32 (n3 : Int))
  have d4 : (((w6.setCell ⟨w2.heap.size, 1, none⟩ (.int .u32 (n1 : Int))).setCell ⟨w2.heap.size, 2, none⟩ (.int .u32 (n2 : Int))).setCell ⟨w2.heap.size, 3, none⟩ (.int .u32 (n3 : Int))).cell? ⟨w2.heap.size, 4, none⟩ = some (.int .i64 0) := by rw [R3.out.ab.cell]; rfl
  have f4 : (((w6.setCell ⟨w2.heap.size, 1, none⟩ (.int .u32 (n1 : Int))).setCell ⟨w2.heap.size, 2, none⟩ (.int .u32 (n2 : Int))).setCell ⟨w2.heap.size, 3, none⟩ (.int .u32 (n3 : Int))).frozen? ⟨w2.heap.size, 4, none⟩ = false := R3.out.ab.frozen 4
  have R4 : Hid (RQ w w2.heap.size s6 (c7 n0 n1 n2 n3 (n4 : Int) ⟨#[]⟩ (.slice none 0 0)) ((((w6.setCell ⟨w2.heap.size, 1, none⟩ (.int .u32 (n1 : Int))).setCell ⟨w2.heap.size, 2, none⟩ (.int .u32 (n2 : Int))).setCell ⟨w2.heap.size, 3, none⟩ (.int .u32 (n3 : Int))).setCell ⟨w2.heap.size, 4, none⟩ (.int .i64 (n4 : Int)))) := R3.out.set 4 (.int .i64 (n4 : Int))
  clear P6 HBD
  go_upto_if 102 with fail
  go_cut [6] from 101 to 108 (fun x6 wx => ∃ (tg : ByteArray) (er5 : Int) (s7 : ByteArray), x6 = .int .i64 er5 ∧ (er5 = 0 ∨ er5 = 4) ∧ tg.size ≤ 1024 ∧ s7.size ≤ 140737488351232 ∧ Hid (RQ w w2.heap.size s7 (c7 n0 n1 n2 n3 (n4 : Int) tg (.slice none 0 0)) wx) ∧ Hid (Prs S ([UInt8.ofNat n0] ++ e8 n1 ++ e8 n2 ++ e8 n3 ++ e8 n4 ++ ltg n0 tg) r6 (fun a => ((((((a.nd = n0) ∧ a.md = n1) ∧ a.ui = n2) ∧ a.gi = n3) ∧ a.mt.toNat = n4) ∧ (n0 = 3 → a.tg = tg))) s7 (orE false er5)) ∧ Hid (n0 ≠ 3 → tg = ⟨#[]⟩))
  case first =>
    by_cases h3 : n0 = 3
    · have h3z : ((n0 : Int) == 3) = true := by simp [h3]
      have H3 : Hid (n0 = 3) := h3
      clear h3
      go_wp2_with fail
      refine (rtextS (w.heap.size + 1) s6 false 1024 _ R4.out.rd z6 (by omega)).mono ?_
      rintro e w7 ⟨tg, er5, s7, rfl, hst, he5, hN⟩
      have htz : tg.size ≤ 1024 := hN.bd
      have PT : Hid (Prs S ([UInt8.ofNat n0] ++ e8 n1 ++ e8 n2 ++ e8 n3 ++ e8 n4 ++ ltg n0 tg) r6 (fun a => ((((((a.nd = n0) ∧ a.md = n1) ∧ a.ui = n2) ∧ a.gi = n3) ∧ a.mt.toNat = n4) ∧ (n0 = 3 → a.tg = tg))) s7 (orE false er5)) := by
        have q := (P6'.out.txt hN (fun a => a.tg) r6 (fun a ha q => ⟨tg_small (okA_out ha.ok).2.2.2.1, by have := tg_small (okA_out ha.ok).2.2.2.1; omega⟩) (fun a _ q => by
          have hq : a.nd = 3 := by rw [q.1.1.1.1]; exact H3.out
          simp [r5, ltg, hq])).same r6 (fun a => ((((((a.nd = n0) ∧ a.md = n1) ∧ a.ui = n2) ∧ a.gi = n3) ∧ a.mt.toNat = n4) ∧ (n0 = 3 → a.tg = tg))) (fun a _ q => ⟨rfl, q.1, fun _ => q.2⟩)
        show Prs _ _ _ _ _ _
        rw [show ltg n0 tg = tx tg from by rw [ltg, if_pos H3.out]]
        exact q
      have Q7 : Hid (RQ w w2.heap.size s7 (c7 n0 n1 n2 n3 (n4 : Int) ⟨#[]⟩ (.slice none 0 0)) w7) := R4.out.next hst
      have d7 : w7.cell? ⟨w2.heap.size, 5, none⟩ = some (.string ⟨#[]⟩) := by rw [Q7.out.ab.cell]; rfl
      have f7 := Q7.out.ab.frozen 5
      have R7 : Hid (RQ w w2.heap.size s7 (c7 n0 n1 n2 n3 (n4 : Int) tg (.slice none 0 0)) (w7.setCell ⟨w2.heap.size, 5, none⟩ (.string tg))) := Q7.out.set 5 (.string tg)
      have z7' : s7.size ≤ 140737488351232 := Nat.le_trans PT.out.sz hs
      clear hst hN P6'
      go_wp2_with fail
      go_meet
      exact ⟨tg, er5, s7, rfl, he5, htz, z7', R7.out, PT.out, fun h => absurd H3.out h⟩
    · have h3z : ((n0 : Int) == 3) = false := by simp; omega
      have H3 : Hid (¬ n0 = 3) := h3
      clear h3
      have PT : Hid (Prs S ([UInt8.ofNat n0] ++ e8 n1 ++ e8 n2 ++ e8 n3 ++ e8 n4 ++ ltg n0 ⟨#[]⟩) r6 (fun a => ((((((a.nd = n0) ∧ a.md = n1) ∧ a.ui = n2) ∧ a.gi = n3) ∧ a.mt.toNat = n4) ∧ (n0 = 3 → a.tg = ⟨#[]⟩))) s6 (orE false 0)) := by
        have q := P6'.out.same r6 (fun a => ((((((a.nd = n0) ∧ a.md = n1) ∧ a.ui = n2) ∧ a.gi = n3) ∧ a.mt.toNat = n4) ∧ (n0 = 3 → a.tg = ⟨#[]⟩))) (fun a _ q => ⟨by
          have hq : ¬ a.nd = 3 := by rw [q.1.1.1.1]; exact H3.out
          simp [r5, ltg, hq], q, fun h => absurd h H3.out⟩)
        show Prs _ _ _ _ _ _
        rw [show ltg n0 ⟨#[]⟩ = [] from by rw [ltg, if_neg H3.out], List.append_nil]
        exact q
      clear P6'
      go_wp2_with fail
      go_meet
      exact ⟨⟨#[]⟩, 0, s6, rfl, .inl rfl, Nat.zero_le _, z6, R4.out, PT.out, fun _ => rfl⟩
  case rest =>
  clear P6' R1 R2 R3 R4 Q6 d1 d2 d3 d4 f1 f2 f3 f4
  obtain ⟨tg, er5, s7, rfl, he5, htz, z7', R7, PT, HTG⟩ := hcut
  go_wp2_with fail
  refine (ruintS (w.heap.size + 1) s7 (orE false er5) _ R7.out.rd z7').mono ?_
  rintro e w8 ⟨n5, er6, s8, rfl, hst, he6, hN⟩
  have P8 : Hid (Prs S ([UInt8.ofNat n0] ++ e8 n1 ++ e8 n2 ++ e8 n3 ++ e8 n4 ++ ltg n0 tg ++ e8 n5) r7 (fun a => ((((((a.nd = n0) ∧ a.md = n1) ∧ a.ui = n2) ∧ a.gi = n3) ∧ a.mt.toNat = n4) ∧ (n0 = 3 → a.tg = tg)) ∧ a.xs.length = n5) s8 (orE (orE false er5) er6)) := PT.out.num hN (fun a => a.xs.length) r7 (fun a ha _ => ⟨by have := (xsB_out (okA_out ha.ok).2.2.2.2).1; omega, by have := (xsB_out (okA_out ha.ok).2.2.2.2).1; omega⟩) (fun a _ _ => rfl)
  have R8 : Hid (RQ w w2.heap.size s8 (c7 n0 n1 n2 n3 (n4 : Int) tg (.slice none 0 0)) w8) := R7.out.next hst
  have hb5' := hN.bd
  have HB2 : Hid (∀ a, Gd a → lay a = bl S → er5 = 0 ∧ er6 = 0 ∧ n5 ≤ 16) := fun a ha hl => by
    obtain ⟨h1, ⟨_, f7⟩, _⟩ := P8.out.no a ha hl
    obtain ⟨h2, i6⟩ := orE_out h1
    have := (xsB_out (okA_out ha.ok).2.2.2.2).1
    exact ⟨(orE_out h2).2, i6, by omega⟩
  clear hst hN R7 PT
  rcases he5 with rfl | rfl
  rotate_left
  · have HNO : Hid (∀ a, Gd a → lay a ≠ bl S) := fun a ha hl => by have := (HB2.out a ha hl); omega
    have hrb := R8.out.rb
    have HRB : Hid (Bk w8 w.heap.size z7 25) := hrb
    have HBE : Hid (Below w.heap.size w w8) := R8.out.bel
    have hfz : ∀ j, w8.frozen? ⟨w.heap.size, j, none⟩ = false := fun j => hrb.frozen j
    obtain ⟨y0, y1, y2, y3, y4, y5, y6⟩ := cellsz hrb
    clear hrb
    go_wp2
    have q1 := bk_st7 HRB.out (.int .u8 0) (.int .u32 0) (.int .u32 0) (.int .u32 0) (.int .i64 0) (.string ⟨#[]⟩) (.slice none 0 0)
    have q2 := gr_st7 w8 w.heap.size (.int .u8 0) (.int .u32 0) (.int .u32 0) (.int .u32 0) (.int .i64 0) (.string ⟨#[]⟩) (.slice none 0 0)
    exact bodyPost_ret (res_cell_tmp rfl _ _ w.heap.size 25 z7 (0, 0) _ rfl q1 Tryd.underlying25 rfl inf_rattr) rfl ⟨⟨0, 0, 0, 0, 0, ⟨#[]⟩, []⟩, _, 4, rfl, .inr ⟨rfl, rfl, HNO.out⟩, zok, rows_none, (fun x hx => nomatch hx), below_own HBE.out HBE.out.size q2 (Nat.le_refl _)⟩
  rcases he6 with rfl | rfl
  rotate_left
  · have HNO : Hid (∀ a, Gd a → lay a ≠ bl S) := fun a ha hl => by have := (HB2.out a ha hl); omega
    have hrb := R8.out.rb
    have HRB : Hid (Bk w8 w.heap.size z7 25) := hrb
    have HBE : Hid (Below w.heap.size w w8) := R8.out.bel
    have hfz : ∀ j, w8.frozen? ⟨w.heap.size, j, none⟩ = false := fun j => hrb.frozen j
    obtain ⟨y0, y1, y2, y3, y4, y5, y6⟩ := cellsz hrb
    clear hrb
    go_wp2
    have q1 := bk_st7 HRB.out (.int .u8 0) (.int .u32 0) (.int .u32 0) (.int .u32 0) (.int .i64 0) (.string ⟨#[]⟩) (.slice none 0 0)
    have q2 := gr_st7 w8 w.heap.size (.int .u8 0) (.int .u32 0) (.int .u32 0) (.int .u32 0) (.int .i64 0) (.string ⟨#[]⟩) (.slice none 0 0)
    exact bodyPost_ret (res_cell_tmp rfl _ _ w.heap.size 25 z7 (0, 0) _ rfl q1 Tryd.underlying25 rfl inf_rattr) rfl ⟨⟨0, 0, 0, 0, 0, ⟨#[]⟩, []⟩, _, 4, rfl, .inr ⟨rfl, rfl, HNO.out⟩, zok, rows_none, (fun x hx => nomatch hx), below_own HBE.out HBE.out.size q2 (Nat.le_refl _)⟩
  by_cases hv5 : (16 : Int) < n5
  · have HNO : Hid (∀ a, Gd a → lay a ≠ bl S) := fun a ha hl => by have := (HB2.out a ha hl); omega
    have hrb := R8.out.rb
    have HRB : Hid (Bk w8 w.heap.size z7 25) := hrb
    have HBE : Hid (Below w.heap.size w w8) := R8.out.bel
    have hfz : ∀ j, w8.frozen? ⟨w.heap.size, j, none⟩ = false := fun j => hrb.frozen j
    obtain ⟨y0, y1, y2, y3, y4, y5, y6⟩ := cellsz hrb
    clear hrb
    go_wp2
    have q1 := bk_st7 HRB.out (.int .u8 0) (.int .u32 0) (.int .u32 0) (.int .u32 0) (.int .i64 0) (.string ⟨#[]⟩) (.slice none 0 0)
    have q2 := gr_st7 w8 w.heap.size (.int .u8 0) (.int .u32 0) (.int .u32 0) (.int .u32 0) (.int .i64 0) (.string ⟨#[]⟩) (.slice none 0 0)
    exact bodyPost_ret (res_cell_tmp rfl _ _ w.heap.size 25 z7 (0, 0) _ rfl q1 Tryd.underlying25 rfl inf_rattr) rfl ⟨⟨0, 0, 0, 0, 0, ⟨#[]⟩, []⟩, _, 4, rfl, .inr ⟨rfl, rfl, HNO.out⟩, zok, rows_none, (fun x hx => nomatch hx), below_own HBE.out HBE.out.size q2 (Nat.le_refl _)⟩
  have hb5 : n5 ≤ 16 := by omega
  obtain ⟨p, hp⟩ : ∃ p, [UInt8.ofNat n0] ++ e8 n1 ++ e8 n2 ++ e8 n3 ++ e8 n4 ++ ltg n0 tg ++ e8 n5 = p := ⟨_, rfl⟩
  have HP : Hid ([UInt8.ofNat n0] ++ e8 n1 ++ e8 n2 ++ e8 n3 ++ e8 n4 ++ ltg n0 tg ++ e8 n5 = p) := hp
  rw [hp] at P8
  have L0 : Hid (Prs S (p ++ xsL []) (fun a => xsL (a.xs.drop 0)) (fun a => (((((((a.nd = n0) ∧ a.md = n1) ∧ a.ui = n2) ∧ a.gi = n3) ∧ a.mt.toNat = n4) ∧ (n0 = 3 → a.tg = tg)) ∧ a.xs.length = n5) ∧ a.xs.take 0 = []) s8 false) := by
    show Prs _ _ _ _ _ _
    rw [show xsL [] = [] from rfl, List.append_nil]
    exact Prs.same P8.out _ _ (fun a _ q => ⟨rfl, q, rfl⟩)
  clear P8 hp HB2 hb5'
  go_wp2
  go_loopw [18] (fun x wr => ∃ (k : Nat) (ys : List (ByteArray × ByteArray)) (v : Value) (s : ByteArray), x = .int .u64 (k : Int) ∧ k ≤ n5 ∧ Hid (ys.length = k) ∧ Hid (RQ w w2.heap.size s (c7 n0 n1 n2 n3 (n4 : Int) tg v) wr) ∧ Hid (wr.ownsRow (w2.heap.size + 1) 55 2 v k (xav ys)) ∧ Hid (Prs S (p ++ xsL ys) (fun a => xsL (a.xs.drop k)) (fun a => (((((((a.nd = n0) ∧ a.md = n1) ∧ a.ui = n2) ∧ a.gi = n3) ∧ a.mt.toNat = n4) ∧ (n0 = 3 → a.tg = tg)) ∧ a.xs.length = n5) ∧ a.xs.take k = ys) s false) ∧ Hid (∀ x ∈ ys, x.1.size ≤ 255 ∧ x.2.size ≤ 4096)) (fun x _ => n5 - (intOf x).toNat)
  case atStart => exact ⟨0, [], _, s8, rfl, Nat.zero_le _, rfl, R8.out, rows_none, L0.out, (fun x hx => nomatch hx)⟩
  case round =>
    obtain ⟨k, ys, v, s, rfl, hk, HY, RR, HO, HL, HZ⟩ := hrel
    have zr : s.size ≤ 140737488351232 := Nat.le_trans HL.out.sz hs
    clear R8 L0
    by_cases hlt : k < n5
    · have hkz : (k : Int) < (n5 : Nat) := by omega
      go_wp2_with fail
      refine (rtextS (w.heap.size + 1) s false 255 _ RR.out.rd zr (by omega)).mono ?_
      rintro e w9 ⟨x, e1, s9, rfl, hst9, h1, hN9⟩
      have R9 : Hid (RQ w w2.heap.size s9 (c7 n0 n1 n2 n3 (n4 : Int) tg v) w9) := RR.out.next hst9
      have O9 : Hid (w9.ownsRow (w2.heap.size + 1) 55 2 v k (xav ys)) := RQ.own HO.out hst9 (by omega)
      have N9 : Hid (TxtS s false 255 x s9 (orE false e1)) := hN9
      have z9 : s9.size ≤ 140737488351232 := Nat.le_trans hN9.sz zr
      clear hst9 hN9 RR HO
      go_wp2_with fail
      refine (rtextS (w.heap.size + 1) s9 (orE false e1) 4096 _ R9.out.rd z9 (by omega)).mono ?_
      rintro e w10 ⟨y, e2, s10, rfl, hst10, h2, hN10⟩
      have R10 : Hid (RQ w w2.heap.size s10 (c7 n0 n1 n2 n3 (n4 : Int) tg v) w10) := R9.out.next hst10
      have O10 : Hid (w10.ownsRow (w2.heap.size + 1) 55 2 v k (xav ys)) := RQ.own O9.out hst10 (by omega)
      have L10 : Hid (Prs S (p ++ xsL (ys ++ [(x, y)])) (fun a => xsL (a.xs.drop (k + 1))) (fun a => (((((((a.nd = n0) ∧ a.md = n1) ∧ a.ui = n2) ∧ a.gi = n3) ∧ a.mt.toNat = n4) ∧ (n0 = 3 → a.tg = tg)) ∧ a.xs.length = n5) ∧ a.xs.take (k + 1) = ys ++ [(x, y)]) s10 (orE (orE false e1) e2)) := HL.out.xat (F := fun a => ((((((a.nd = n0) ∧ a.md = n1) ∧ a.ui = n2) ∧ a.gi = n3) ∧ a.mt.toNat = n4) ∧ (n0 = 3 → a.tg = tg))) hlt N9.out hN10
      have Z10 : Hid (∀ z ∈ ys ++ [(x, y)], z.1.size ≤ 255 ∧ z.2.size ≤ 4096) := fun z hz => by
        rcases List.mem_append.1 hz with h | h
        · exact HZ.out z h
        · rw [List.mem_singleton] at h; subst h; exact ⟨N9.out.bd, hN10.bd⟩
      have HB3 : Hid (∀ a, Gd a → lay a = bl S → e1 = 0 ∧ e2 = 0) := fun a ha hl => by
        obtain ⟨q1, q2⟩ := orE_out (L10.out.no a ha hl).1
        exact ⟨(orE_out q1).2, q2⟩
      clear hst10 hN10 R9 O9 N9 HL HZ
      rcases h1 with rfl | rfl
      rotate_left
      · have HNO : Hid (∀ a, Gd a → lay a ≠ bl S) := fun a ha hl => by have := (HB3.out a ha hl); omega
        have hrb := R10.out.rb
        have HRB : Hid (Bk w10 w.heap.size z7 25) := hrb
        have HBE : Hid (Below w.heap.size w w10) := R10.out.bel
        have hfz : ∀ j, w10.frozen? ⟨w.heap.size, j, none⟩ = false := fun j => hrb.frozen j
        obtain ⟨y0, y1, y2, y3, y4, y5, y6⟩ := cellsz hrb
        clear hrb
        go_wp2
        have q1 := bk_st7 HRB.out (.int .u8 0) (.int .u32 0) (.int .u32 0) (.int .u32 0) (.int .i64 0) (.string ⟨#[]⟩) (.slice none 0 0)
        have q2 := gr_st7 w10 w.heap.size (.int .u8 0) (.int .u32 0) (.int .u32 0) (.int .u32 0) (.int .i64 0) (.string ⟨#[]⟩) (.slice none 0 0)
        exact bodyPost_ret (res_cell_tmp rfl _ _ w.heap.size 25 z7 (0, 0) _ rfl q1 Tryd.underlying25 rfl inf_rattr) rfl ⟨⟨0, 0, 0, 0, 0, ⟨#[]⟩, []⟩, _, 4, rfl, .inr ⟨rfl, rfl, HNO.out⟩, zok, rows_none, (fun x hx => nomatch hx), below_own HBE.out HBE.out.size q2 (Nat.le_refl _)⟩
      rcases h2 with rfl | rfl
      rotate_left
      · have HNO : Hid (∀ a, Gd a → lay a ≠ bl S) := fun a ha hl => by have := (HB3.out a ha hl); omega
        have hrb := R10.out.rb
        have HRB : Hid (Bk w10 w.heap.size z7 25) := hrb
        have HBE : Hid (Below w.heap.size w w10) := R10.out.bel
        have hfz : ∀ j, w10.frozen? ⟨w.heap.size, j, none⟩ = false := fun j => hrb.frozen j
        obtain ⟨y0, y1, y2, y3, y4, y5, y6⟩ := cellsz hrb
        clear hrb
        go_wp2
        have q1 := bk_st7 HRB.out (.int .u8 0) (.int .u32 0) (.int .u32 0) (.int .u32 0) (.int .i64 0) (.string ⟨#[]⟩) (.slice none 0 0)
        have q2 := gr_st7 w10 w.heap.size (.int .u8 0) (.int .u32 0) (.int .u32 0) (.int .u32 0) (.int .i64 0) (.string ⟨#[]⟩) (.slice none 0 0)
        exact bodyPost_ret (res_cell_tmp rfl _ _ w.heap.size 25 z7 (0, 0) _ rfl q1 Tryd.underlying25 rfl inf_rattr) rfl ⟨⟨0, 0, 0, 0, 0, ⟨#[]⟩, []⟩, _, 4, rfl, .inr ⟨rfl, rfl, HNO.out⟩, zok, rows_none, (fun x hx => nomatch hx), below_own HBE.out HBE.out.size q2 (Nat.le_refl _)⟩
      have c10 : w10.cell? ⟨w2.heap.size, 6, none⟩ = some v := by rw [R10.out.ab.cell]; rfl
      have hz10 : w2.heap.size < w10.heap.size := R10.out.ab.lt
      obtain ⟨i0, hi, hz0, hz1, hz2'⟩ := info_parts inf_rxattr
      go_wp2_with (at_builtin; refine wpList_append_own _ rfl _ _ 23 rfl (w2.heap.size + 1) 55 i0 (.agg #[.string ⟨#[]⟩, .string ⟨#[]⟩]) 2 32 Tryd.underlying23 hi hz0 hz1 hz2' rfl (by decide) _ _ _ rfl (O10.out.alloc _) ⟨w10.heap.size, 0, none⟩ 1 1 [.string x, .string y] rfl rfl (new_two _ _ _ _) (one_two_s _ _) (by unfold maxLen; omega) (by omega) (by simp; omega) ?_)
      intro v' w11 hown hgrow _
      have hgr : ∀ b, v.ownBlock = some b → w2.heap.size + 1 ≤ b := fun b hb => (rows_blk O10.out hb).1
      have R11 : Hid (RQ w w2.heap.size s10 (c7 n0 n1 n2 n3 (n4 : Int) tg v) w11) := by
        have h := R10.out
        have hrl := h.rd.rl
        have hb : Below w10.heap.size w10 (w10.alloc (.cells #[.string x, .string y] 55)) := (Below.refl _ _).alloc (Nat.le_refl _) _
        have q := cell_blk (j := 0) (hgrow.block (w.heap.size + 1) (by rw [al_size]; omega) (fun e => by have := hgr _ e.symm; omega))
        refine ⟨⟨by rw [q.1, hb.cell (p := ⟨w.heap.size + 1, 0, none⟩) hrl]; exact h.rd.rc, by rw [q.2, hb.frozen (p := ⟨w.heap.size + 1, 0, none⟩) hrl]; exact h.rd.rf, Nat.lt_of_lt_of_le (Nat.lt_of_lt_of_le hrl hb.size) hgrow.size⟩, (h.ab.alloc _).grown hgrow (fun e => ?_), (h.rb.alloc _).grown hgrow (fun e => ?_), rows_bel (h.bel.alloc h.bel.size _) (by simp; omega) (O10.out.alloc _) (by omega) hgrow, h.gl⟩
        all_goals (have := hgr _ e; omega)
      have O11 : Hid (w11.ownsRow (w2.heap.size + 1) 55 2 v' (k + 1) (xav (ys ++ [(x, y)]))) := by
        show World.ownsRow _ _ _ _ _ _ _
        rw [xav_app]; exact hown
      have c11 : w11.cell? ⟨w2.heap.size, 6, none⟩ = some v := by rw [R11.out.ab.cell]; rfl
      have f11 := R11.out.ab.frozen 6
      have R12 : Hid (RQ w w2.heap.size s10 (c7 n0 n1 n2 n3 (n4 : Int) tg v') (w11.setCell ⟨w2.heap.size, 6, none⟩ v')) := R11.out.set 6 v'
      have O12 : Hid ((w11.setCell ⟨w2.heap.size, 6, none⟩ v').ownsRow (w2.heap.size + 1) 55 2 v' (k + 1) (xav (ys ++ [(x, y)]))) := own_set O11.out (by omega)
      obtain ⟨g7, c7', hv⟩ : ∃ g7 c7, v' = .slice (some ⟨g7, 0, none⟩) (k + 1) c7 := by
        rcases hown.2 with ⟨_, h0⟩ | ⟨g7, c7, cur, h1, _⟩
        · omega
        · exact ⟨g7, c7, h1⟩
      subst hv
      clear hown hgrow hgr R10 O10 R11 O11 c10
      go_wp2
      go_roundw
      case rel => exact ⟨k + 1, ys ++ [(x, y)], _, s10, by go_num, by omega, by (show _ = _; rw [List.length_append, HY.out]; rfl), R12.out, O12.out, L10.out, Z10.out⟩
      case measure => simp [intOf]; omega
    · have hkz : ¬ (k : Int) < (n5 : Nat) := by omega
      obtain rfl : k = n5 := by omega
      obtain ⟨G1, G2⟩ := Prs.fin (tg := tg) HTG.out HY.out (show n2 < 4294967296 by omega) (show n3 < 4294967296 by omega) (by rw [HP.out]; exact HL.out)
      obtain ⟨at0, hat0⟩ : ∃ at0 : At, at0 = ⟨n0, n1, n2, n3, (n4 : Int), tg, ys⟩ := ⟨_, rfl⟩
      rw [← hat0] at G1 G2
      have HAT : Hid (at0 = ⟨n0, n1, n2, n3, (n4 : Int), tg, ys⟩) := hat0
      have HG : Hid ((s.size = 0 ∧ okA at0 = true → lay at0 = bl S) ∧ (¬ (s.size = 0 ∧ okA at0 = true) → ∀ a', Gd a' → lay a' ≠ bl S)) := by
        refine ⟨fun h => ?_, fun h => ?_⟩
        · rcases G1 ⟨⟨rfl, h.1⟩, h.2⟩ with ⟨_, _, q⟩ | ⟨q, _⟩
          · exact q
          · cases q
        · rcases G2 (fun q => h ⟨q.1.2, q.2⟩) with ⟨q, _⟩ | ⟨_, _, q⟩
          · cases q
          · exact q
      have ro := rows_low HO.out (show w.heap.size ≤ w2.heap.size + 1 by have := RR.out.gl; omega)
      obtain ⟨av, ca, hv, hX⟩ := own_xal ro HY.out (fun x hx => by have := HZ.out x hx; omega)
      subst hv
      have HO2 : Hid (wr.ownsRow (w2.heap.size + 1) 55 2 (.slice av k ca) k (xav ys)) := HO.out
      have CK : Hid (Calls Tryd.prog 15 #[atV n0 n1 n2 n3 (n4 : Int) tg (.slice av k ca)] wr fun e w' => e = .returned (.int .i64 (ckE at0)) ∧ Below wr.heap.size wr w') := by
        rw [hat0]; exact rcheck10 n0 n1 n2 n3 (n4 : Int) tg ys av k ca wr hX HY.out (by omega) (by omega) (HT.out.below RR.out.bel)
      have CL : Hid (okA at0 = true → ∀ W, Below wr.heap.size wr W → Calls Tryd.prog 24 #[atV n0 n1 n2 n3 (n4 : Int) tg (.slice av k ca)] W fun e w' => e = .returned (.string ⟨(lay at0).toArray⟩) ∧ Below W.heap.size W w') := fun hok W hW => by
        rw [hat0] at hok ⊢; exact rlaid10 n0 n1 n2 n3 (n4 : Int) tg ys av k ca W (hX.below hW) HY.out (by omega) (by omega) hok
      have HAO : Hid (AtOk at0) := by
        rw [hat0]
        exact ⟨by (show n0 < 256; omega), by (show n1 < 4294967296; omega), by (show n2 < 4294967296; omega), by (show n3 < 4294967296; omega), ⟨by (show _ ≤ (n4 : Int); omega), by (show (n4 : Int) ≤ _; omega)⟩, (by show tg.size ≤ _; omega), by (show ys.length ≤ _; rw [HY.out]; omega)⟩
      obtain ⟨e0, e1, e2, e3, e4, e5, e6⟩ := cells7 RR.out.ab
      clear ro hX G1 G2 HO HL hk hat0
      cases hok : okA at0 with
      | false =>
        have hc0 : ckE at0 = 1 := by unfold ckE; rw [hok]; rfl
        have HNO : Hid (∀ a, Gd a → lay a ≠ bl S) := HG.out.2 (fun h => by rw [hok] at h; cases h.2)
        rw [hc0] at CK
        clear hok hc0 CL HG
        go_wp2_with fail
        refine CK.out.mono ?_
        rintro e w13 ⟨rfl, hb13⟩
        have HBE : Hid (Below w.heap.size w w13) := RR.out.bel.trans (hb13.mono RR.out.bel.size)
        have hrb := RR.out.rb.below hb13 RR.out.rb.lt
        have HRB : Hid (Bk w13 w.heap.size z7 25) := hrb
        have hfz : ∀ j, w13.frozen? ⟨w.heap.size, j, none⟩ = false := fun j => hrb.frozen j
        obtain ⟨y0, y1, y2, y3, y4, y5, y6⟩ := cellsz hrb
        clear hrb
        go_wp2
        have q1 := bk_st7 HRB.out (.int .u8 0) (.int .u32 0) (.int .u32 0) (.int .u32 0) (.int .i64 0) (.string ⟨#[]⟩) (.slice none 0 0)
        have q2 := gr_st7 w13 w.heap.size (.int .u8 0) (.int .u32 0) (.int .u32 0) (.int .u32 0) (.int .i64 0) (.string ⟨#[]⟩) (.slice none 0 0)
        exact bodyPost_ret (res_cell_tmp rfl _ _ w.heap.size 25 z7 (0, 0) _ rfl q1 Tryd.underlying25 rfl inf_rattr) rfl ⟨⟨0, 0, 0, 0, 0, ⟨#[]⟩, []⟩, _, 4, rfl, .inr ⟨rfl, rfl, HNO.out⟩, zok, rows_none, (fun x hx => nomatch hx), below_own HBE.out HBE.out.size q2 (Nat.le_refl _)⟩
      | true =>
        have hc0 : ckE at0 = 0 := by unfold ckE; rw [hok]; rfl
        have HOK : Hid (okA at0 = true) := hok
        rw [hc0] at CK
        obtain ⟨X, hX⟩ : ∃ X : ByteArray, X = ⟨(lay at0).toArray⟩ := ⟨_, rfl⟩
        have HX : Hid (bl X = lay at0) := by rw [hX]; rfl
        have CL' : Hid (∀ W, Below wr.heap.size wr W → Calls Tryd.prog 24 #[atV n0 n1 n2 n3 (n4 : Int) tg (.slice av k ca)] W fun e w' => e = .returned (.string X) ∧ Below W.heap.size W w') := by rw [hX]; exact CL.out hok
        clear hok hc0 CL hX
        go_wp2_with fail
        refine CK.out.mono ?_
        rintro e w13 ⟨rfl, hb13⟩
        have B13 : Hid (Below wr.heap.size wr w13) := hb13
        have hab := RR.out.ab.below hb13 RR.out.ab.lt
        obtain ⟨i0, i1, i2, i3, i4, i5, i6⟩ := cells7 hab
        clear hb13 hab e0 e1 e2 e3 e4 e5 e6 CK
        go_wp2_with fail
        refine (CL'.out _ B13.out).mono ?_
        rintro e w14 ⟨rfl, hb14⟩
        have B14 : Hid (Below wr.heap.size wr w14) := B13.out.trans (hb14.mono B13.out.size)
        have HBE : Hid (Below w.heap.size w w14) := RR.out.bel.trans (B14.out.mono RR.out.bel.size)
        clear hb14 i0 i1 i2 i3 i4 i5 i6 CL' B13
        by_cases hXS : X = S
        · have HRD : Hid (RdS S at0 0) := .inl ⟨rfl, HOK.out, by rw [← HX.out, hXS]⟩
          have hq2 : (X.toList != S.toList) = false := by rw [hXS]; simp
          have HO3 : Hid (w14.ownsRow (w2.heap.size + 1) 55 2 (.slice av k ca) k (xav ys)) := rows_keep HO2.out (fun g _ h2 => B14.out.block g h2)
          have hgl := RR.out.gl
          have hab := RR.out.ab.below B14.out RR.out.ab.lt
          obtain ⟨i0, i1, i2, i3, i4, i5, i6⟩ := cells7 hab
          have hrb := RR.out.rb.below B14.out RR.out.rb.lt
          have HRB : Hid (Bk w14 w.heap.size z7 25) := hrb
          have hfz : ∀ j, w14.frozen? ⟨w.heap.size, j, none⟩ = false := fun j => hrb.frozen j
          obtain ⟨y0, y1, y2, y3, y4, y5, y6⟩ := cellsz hrb
          rw [hXS]
          clear hrb hab hXS hq2
          go_wp2
          have q1 := bk_st7 HRB.out (.int .u8 (n0 : Int)) (.int .u32 (n1 : Int)) (.int .u32 (n2 : Int)) (.int .u32 (n3 : Int)) (.int .i64 (n4 : Int)) (.string tg) (.slice av k ca)
          have q2 := gr_st7 w14 w.heap.size (.int .u8 (n0 : Int)) (.int .u32 (n1 : Int)) (.int .u32 (n2 : Int)) (.int .u32 (n3 : Int)) (.int .i64 (n4 : Int)) (.string tg) (.slice av k ca)
          refine bodyPost_ret (res_cell_tmp rfl _ _ w.heap.size 25 (c7 n0 n1 n2 n3 (n4 : Int) tg (.slice av k ca)) (0, 0) _ rfl q1 Tryd.underlying25 rfl inf_rattr) rfl ⟨at0, .slice av k ca, 0, (by rw [HAT.out]; rfl), HRD.out, HAO.out, ?_, ?_, below_own HBE.out HBE.out.size q2 (Nat.le_refl _)⟩
          · rw [HAT.out]
            show World.ownsRow _ _ _ _ _ ys.length _
            rw [HY.out]
            exact rows_low (rows_keep HO3.out (fun g h1 h2 => q2.block g h2 (by simp; omega))) (by omega)
          · rw [HAT.out]; exact HZ.out
        · have HNO : Hid (∀ a, Gd a → lay a ≠ bl S) := HG.out.2 (fun h => hXS (bl_inj (by rw [HX.out]; exact HG.out.1 h)))
          have hq1 : (X.toList == S.toList) = false := by
            rw [beq_eq_false_iff_ne]
            intro h
            exact hXS (bl_inj (by rw [bl, bl, ← Lib.toList_data, ← Lib.toList_data, h]))
          have hq2 : (X.toList != S.toList) = true := by simp [bne, hq1]
          have hq3 : ¬ X.toList = S.toList := by simpa using hq1
          clear hXS HG
          have hrb := RR.out.rb.below B14.out RR.out.rb.lt
          have HRB : Hid (Bk w14 w.heap.size z7 25) := hrb
          have hfz : ∀ j, w14.frozen? ⟨w.heap.size, j, none⟩ = false := fun j => hrb.frozen j
          obtain ⟨y0, y1, y2, y3, y4, y5, y6⟩ := cellsz hrb
          clear hrb
          go_wp2
          have q1 := bk_st7 HRB.out (.int .u8 0) (.int .u32 0) (.int .u32 0) (.int .u32 0) (.int .i64 0) (.string ⟨#[]⟩) (.slice none 0 0)
          have q2 := gr_st7 w14 w.heap.size (.int .u8 0) (.int .u32 0) (.int .u32 0) (.int .u32 0) (.int .i64 0) (.string ⟨#[]⟩) (.slice none 0 0)
          exact bodyPost_ret (res_cell_tmp rfl _ _ w.heap.size 25 z7 (0, 0) _ rfl q1 Tryd.underlying25 rfl inf_rattr) rfl ⟨⟨0, 0, 0, 0, 0, ⟨#[]⟩, []⟩, _, 4, rfl, .inr ⟨rfl, rfl, HNO.out⟩, zok, rows_none, (fun x hx => nomatch hx), below_own HBE.out HBE.out.size q2 (Nat.le_refl _)⟩
end Go.Proofs.YtcfniaknbbgheaaDoor
