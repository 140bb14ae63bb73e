import Derived.Test.YtjnijcmalnckcaaDoorY13
import Derived.Test.YtjnijcmalnckcaaDoorY8
import Derived.Test.YtjnijcmalnckcaaDoorY9
import Derived.Test.YtjnijcmalnckcaaDoorY10
import Derived.Test.YtjnijcmalnckcaaDoorY11
/- The document's ReadStream. -/
namespace Go.Proofs.YtjnijcmalnckcaaDoor
open Go.RowKit
set_option linter.unusedSimpArgs false
set_option linter.unusedVariables false
theorem inf_rattr3 : (Tryd.prog.info? 25).map (fun i => (i.zero, i.size, i.bytes)) = some (some (.agg z7), 7, 64) := by kernel_rfl
/-- The lists of these are rows of the call's own, of the document's. -/
def XrR (w : World) (B : Nat) (P : List (At × Value)) : Prop := ∀ p ∈ P, AtOk p.1 ∧ w.ownsRow B 61 2 p.2 p.1.xs.length (xav p.1.xs) ∧ ∀ x ∈ p.1.xs, x.1.size ≤ 255 ∧ x.2.size ≤ 4096
theorem XrR.keep {w w' : World} {B : Nat} {P : List (At × Value)} (h : XrR w B P) (hk : ∀ g, B ≤ g → g < w.heap.size → w'.heap[g]? = w.heap[g]?) : XrR w' B P := fun p hp => ⟨(h p hp).1, rows_keep (h p hp).2.1 hk, (h p hp).2.2⟩
theorem XrR.grow {w w' : World} {B B' m : Nat} {P : List (At × Value)} {v : Value} {ys : List Value} (h : XrR w B P) (hv : w.ownsRow B' 25 7 v m ys) (hg : w.grownBy w' v.ownBlock) : XrR w' B P := fun p hp => ⟨(h p hp).1, own_ty (h p hp).2.1 hv (by decide) hg, (h p hp).2.2⟩
/-- A text that is read, of a bound that all bytes of one keep. -/
theorem Prl.txt2 {S : ByteArray} {pre : List UInt8} {k n most : Nat} {ls : List At} {s : ByteArray} {x s' : ByteArray} {u' : Bool} (h : Prl S (pre ++ stF ls) (fun l => stF (l.drop k)) (fun l => l.length = n ∧ l.take k = ls) s false) (hk : k < n) (hn : TxtS s false most x s' u') (hm : 80000 ≤ most) (hm2 : most < 2 ^ 64) :
    (∀ a, AtOk a → RdS x a 0 → Prl S (pre ++ stF (ls ++ [a])) (fun l => stF (l.drop (k + 1))) (fun l => l.length = n ∧ l.take (k + 1) = ls ++ [a]) s' u') ∧ ((∀ a, Gd a → lay a ≠ bl x) → ∀ l, GdL l → stL l ≠ bl S) ∧ (u' = true → ∀ l, GdL l → stL l ≠ bl S) := by
  have key : ∀ l, GdL l → stL l = bl S → u' = false ∧ ∃ b, b ∈ l ∧ l.take (k + 1) = ls ++ [b] ∧ l.length = n ∧ lay b = bl x ∧ bl s' = stF (l.drop (k + 1)) := by
    intro l hl he
    obtain ⟨q1, ⟨q2, q3⟩, q4⟩ := h.no l hl he
    have hkl : k < l.length := by omega
    rw [List.drop_eq_getElem_cons hkl, stF_cons] at q4
    have hg := hl.get (List.getElem_mem hkl)
    have hsz : (⟨(lay l[k]).toArray⟩ : ByteArray).size ≤ most := by
      have := lay_len hg.ok (by have := hg.ui; omega) (by have := hg.gi; omega)
      rw [lay_size]; omega
    obtain ⟨p1, p2, p3⟩ := hn.no rfl _ _ hsz (by omega) q4
    refine ⟨p1, l[k], List.getElem_mem hkl, ?_, q2, ?_, p3⟩
    · rw [List.take_add_one, List.getElem?_eq_getElem hkl, Option.toList_some, q3]
    · rw [p2]; rfl
  refine ⟨?_, ?_, ?_⟩
  · intro a hao ha
    rcases ha with ⟨_, ha1, ha2⟩ | ⟨h4, _⟩
    · refine ⟨fun hu => ?_, fun l hl he => ?_, Nat.le_trans hn.sz h.sz⟩
      · obtain ⟨q1, q2⟩ := hn.yes hu
        rw [h.yes q1, q2]
        have e : stF (ls ++ [a]) = stF ls ++ tx x := by
          rw [stF_snoc]
          have : (⟨(lay a).toArray⟩ : ByteArray) = x := bl_inj ha2
          rw [this]
        rw [e]; simp
      · obtain ⟨p1, b, hb, p2, p3, p4, p5⟩ := key l hl he
        have : b = a := lay_inj (hl.get hb) ⟨ha1, hao.ui, hao.gi⟩ (p4.trans ha2.symm)
        rw [this] at p2
        exact ⟨p1, ⟨p3, p2⟩, p5⟩
    · cases h4
  · intro hno l hl he
    obtain ⟨p1, b, hb, p2, p3, p4, p5⟩ := key l hl he
    exact hno b (hl.get hb) p4
  · intro hu l hl he
    rw [(key l hl he).1] at hu; cases hu
theorem RB.keep {b : Nat} {s : ByteArray} {w w' : World} (h : RB b s w) (hb : Below w.heap.size w w') : RB b s w' :=
  ⟨by rw [hb.cell (p := ⟨b, 0, none⟩) h.rl]; exact h.rc, by rw [hb.frozen (p := ⟨b, 0, none⟩) h.rl]; exact h.rf, Nat.lt_of_lt_of_le h.rl hb.size⟩
theorem RB.grown {b : Nat} {s : ByteArray} {w w' : World} {r : Option Nat} (h : RB b s w) (hg : w.grownBy w' r) (hr : r ≠ some b) : RB b s w' := by
  have q := cell_blk (j := 0) (hg.block b h.rl (fun e => hr e.symm))
  exact ⟨by rw [q.1]; exact h.rc, by rw [q.2]; exact h.rf, Nat.lt_of_lt_of_le h.rl hg.size⟩
set_option maxHeartbeats 16000000 in
set_option maxRecDepth 100000 in
theorem rreadst (S : ByteArray) (w : World) (hs : S.size ≤ 140737488351232) (hT : U8 w) :
    Calls Tryd.prog 24 #[.string S] w fun e w' => ∃ (P : List (At × Value)) (v : Value) (er : Int), e = .returned (.tuple #[v, .int .i64 er]) ∧ SrS S (P.map Prod.fst) er ∧ w'.ownsRow w.heap.size 25 7 v P.length (atv P) ∧ XrR w' w.heap.size P ∧ P.length ≤ 257 ∧ Below w.heap.size w w' := by
  have HT : Hid (U8 w) := hT
  have b1 := bk_new w #[.string S] 84
  have R0 : Hid (RB w.heap.size S (w.alloc (.cells #[.string S] 84))) := ⟨by rw [b1.cell]; rfl, b1.frozen 0, b1.lt⟩
  have B0 : Hid (Below w.heap.size w (w.alloc (.cells #[.string S] 84))) := (Below.refl _ _).alloc (Nat.le_refl _) _
  clear hT b1
  go_enter Tryd.func24, Tryd.ntmps24
  go_wp2_with fail
  refine (ruintS w.heap.size S false _ R0.out hs).mono ?_
  rintro e w2 ⟨n, er0, s2, rfl, hst, he0, hN⟩
  have hbn := hN.bd
  have R2 : Hid (RB w.heap.size s2 w2) := R0.out.step hst
  have B2 : Hid (Below w.heap.size w w2) := B0.out.trans (hst.below (Nat.le_refl _) B0.out.size)
  have HN : Hid (NumS S false 18446744073709551615 n s2 (orE false er0)) := hN
  have HNO : Hid ((er0 = 4 ∨ n < 1 ∨ 257 < n) → SrS S [] 4) := fun h => .inr ⟨rfl, rfl, fun l hl he => by
    have hl1 := hl.len
    obtain ⟨p1, p2, p3⟩ := hN.no rfl l.length (stF l) (by omega) (by omega) he.symm
    have := (orE_out p1).2
    omega⟩
  clear hst hN R0 B0
  rcases he0 with rfl | rfl
  rotate_left
  · have HG : Hid (SrS S [] 4) := HNO.out (.inl rfl)
    clear HN HNO
    go_wp2
    go_ret2
    exact ⟨[], _, 4, rfl, HG.out, rows_none, (fun p hp => nomatch hp), Nat.zero_le _, B2.out⟩
  by_cases h1 : (n : Int) < 1
  · have HG : Hid (SrS S [] 4) := HNO.out (.inr (.inl (by omega)))
    clear HN HNO
    go_wp2
    go_ret2
    exact ⟨[], _, 4, rfl, HG.out, rows_none, (fun p hp => nomatch hp), Nat.zero_le _, B2.out⟩
  by_cases h2 : (257 : Int) < n
  · have HG : Hid (SrS S [] 4) := HNO.out (.inr (.inr (by omega)))
    clear HN HNO
    go_wp2
    go_ret2
    exact ⟨[], _, 4, rfl, HG.out, rows_none, (fun p hp => nomatch hp), Nat.zero_le _, B2.out⟩
  have hb : n ≤ 257 := by omega
  have hb1 : 1 ≤ n := by omega
  have P2 : Hid (Prl S (e8 n ++ stF []) (fun l => stF (l.drop 0)) (fun l => l.length = n ∧ l.take 0 = []) s2 false) := by
    refine Prl.start ⟨hb, HN.out.sz, fun hu => HN.out.yes hu, fun hu m r hm1 hm2 he => HN.out.no hu m r (by omega) hm2 he⟩
  clear HN HNO hbn
  go_wp2
  go_loopw [7, 8] (fun q x wr => ∃ (k : Nat) (P : List (At × Value)) (au : Option Addr) (cu : Nat) (s : ByteArray), q = .slice au k cu ∧ x = .int .u64 (k : Int) ∧ k ≤ n ∧ Hid (P.length = k) ∧ Hid (RB w.heap.size s wr) ∧ Hid (Below w.heap.size w wr) ∧ Hid (wr.ownsRow (w.heap.size + 1) 25 7 (.slice au k cu) k (atv P)) ∧ Hid (XrR wr (w.heap.size + 1) P) ∧ Hid (Prl S (e8 n ++ stF (P.map Prod.fst)) (fun l => stF (l.drop k)) (fun l => l.length = n ∧ l.take k = P.map Prod.fst) s false) ∧ Hid (∀ a ∈ P.map Prod.fst, okA a = true)) (fun q x _ => n - (intOf x).toNat)
  case atStart => exact ⟨0, [], none, 0, s2, rfl, rfl, Nat.zero_le _, rfl, R2.out, B2.out, rows_none, (fun p hp => nomatch hp), P2.out, (fun a ha => nomatch ha)⟩
  case round =>
    clear R2 B2 P2
    obtain ⟨k, P, au, cu, s, rfl, rfl, hk, HY, HRB, HB, HO, HXR, HL, HOK⟩ := hrel
    have zr : s.size ≤ 140737488351232 := Nat.le_trans HL.out.sz hs
    have zt := HRB.out.rl
    by_cases hlt : k < n
    · have hkz : (k : Int) < (n : Nat) := by omega
      go_wp2_with fail
      refine (rtextS w.heap.size s false 1048576 _ HRB.out zr (by omega)).mono ?_
      rintro e w4 ⟨x, ef, s4, rfl, hst4, hef, hN4⟩
      obtain ⟨hp1, hp2, hp3⟩ := HL.out.txt2 hlt hN4 (by omega) (by omega)
      have hxs : x.size ≤ 140737488351232 := Nat.le_trans hN4.bd (by omega)
      have R4 : Hid (RB w.heap.size s4 w4) := HRB.out.step hst4
      have B4 : Hid (Below w.heap.size w w4) := HB.out.trans (hst4.below (Nat.le_refl _) HB.out.size)
      have O4 : Hid (w4.ownsRow (w.heap.size + 1) 25 7 (.slice au k cu) k (atv P)) := rows_keep HO.out (fun g h1 h2 => hst4.block g h2 (by omega))
      have X4 : Hid (XrR w4 (w.heap.size + 1) P) := HXR.out.keep (fun g h1 h2 => hst4.block g h2 (by omega))
      have zt4 := R4.out.rl
      clear hst4 hN4 HRB HB HO HXR
      go_wp2_with fail
      refine (rread10 x _ hxs (HT.out.below B4.out)).mono ?_
      rintro e w5 ⟨a, va, er, rfl, hrd, hao, hao2, hxs2, hb5⟩
      have R5 : Hid (RB w.heap.size s4 w5) := R4.out.keep hb5
      have B5 : Hid (Below w.heap.size w w5) := B4.out.trans (hb5.mono (by omega))
      have O5 : Hid (w5.ownsRow (w.heap.size + 1) 25 7 (.slice au k cu) k (atv P)) := rows_keep O4.out (fun g _ h2 => hb5.block g h2)
      have X5 : Hid (XrR w5 (w.heap.size + 1) P) := X4.out.keep (fun g _ h2 => hb5.block g h2)
      have A5 : Hid (w5.ownsRow (w.heap.size + 1) 61 2 va a.xs.length (xav a.xs)) := rows_low hao2 (by omega)
      have hz5 := hb5.size
      obtain ⟨oa, na, ca, hva⟩ : ∃ o n c, va = .slice o n c := by
        rcases hao2.2 with ⟨h1, _⟩ | ⟨_, _, _, h1, _⟩
        · exact ⟨_, _, _, h1⟩
        · exact ⟨_, _, _, h1⟩
      subst hva
      rcases hef with rfl | rfl
      rotate_left
      · have HNO : Hid (∀ l, GdL l → stL l ≠ bl S) := hp3 (orE_no false)
        obtain ⟨nd, md, ui, gi, mt, tg, xs⟩ := a
        clear hp1 hp2 hp3 hrd hao hao2 hxs2 hb5 R4 B4 O4 X4
        dsimp only
        go_wp2
        go_ret2
        exact ⟨[], _, 4, rfl, .inr ⟨rfl, rfl, HNO.out⟩, rows_none, (fun p hp => nomatch hp), Nat.zero_le _, B5.out.trans (((Below.refl _ _).alloc (Nat.le_refl _) _).mono (by omega))⟩
      rcases hrd with ⟨rfl, hr1, hr2⟩ | ⟨rfl, _, hr2⟩
      · have L5 : Hid (Prl S (e8 n ++ stF (P.map Prod.fst ++ [a])) (fun l => stF (l.drop (k + 1))) (fun l => l.length = n ∧ l.take (k + 1) = P.map Prod.fst ++ [a]) s4 false) := hp1 a hao (.inl ⟨rfl, hr1, hr2⟩)
        have HAO : Hid (AtOk a ∧ (∀ x ∈ a.xs, x.1.size ≤ 255 ∧ x.2.size ≤ 4096) ∧ okA a = true) := ⟨hao, hxs2, hr1⟩
        obtain ⟨nd, md, ui, gi, mt, tg, xs⟩ := a
        clear hp1 hp2 hp3 hr1 hr2 hao hao2 hxs2 hb5 R4 B4 O4 X4
        dsimp only
        obtain ⟨i0, hi, hz0, hz1, hz2⟩ := info_parts inf_rattr3
        have O6 : Hid (((w5.alloc (.cells (c7 nd md ui gi mt tg (.slice oa na ca)) 25)).alloc (.cells (c7 nd md ui gi mt tg (.slice oa na ca)) 25)).ownsRow (w.heap.size + 1) 25 7 (.slice au k cu) k (atv P)) := (O5.out.alloc _).alloc _
        go_wp2_with (at_builtin; refine wpList_append_own _ rfl _ _ 47 rfl (w.heap.size + 1) 25 i0 (.agg z7) 7 64 Tryd.underlying47 hi hz0 hz1 hz2 rfl (by decide) _ _ _ rfl O6.out ⟨w5.heap.size + 1, 0, none⟩ 1 1 (c7 nd md ui gi mt tg (.slice oa na ca)).toList rfl rfl (by have := news_list (w5.alloc (.cells (c7 nd md ui gi mt tg (.slice oa na ca)) 25)) (c7 nd md ui gi mt tg (.slice oa na ca)) 25; rw [al_size] at this; exact this) (one_acl _ _ _ _ _ _ _ _ _) (by unfold maxLen; omega) (by omega) (by simp; omega) ?_)
        intro v' w7 hown hgrow _
        have hblk : ∀ b, (Value.slice au k cu).ownBlock = some b → w.heap.size + 1 ≤ b := fun b hb => (rows_blk O5.out hb).1
        have hbA : Below w5.heap.size w5 ((w5.alloc (.cells (c7 nd md ui gi mt tg (.slice oa na ca)) 25)).alloc (.cells (c7 nd md ui gi mt tg (.slice oa na ca)) 25)) := ((Below.refl _ _).alloc (Nat.le_refl _) _).alloc (by simp) _
        have R7 : Hid (RB w.heap.size s4 w7) := (R5.out.keep hbA).grown hgrow (fun e => by have := hblk _ e; omega)
        have B7 : Hid (Below w.heap.size w w7) := rows_bel (B5.out.trans (hbA.mono (by omega))) (by simp; omega) O6.out (by omega) hgrow
        have X7 : Hid (XrR w7 (w.heap.size + 1) (P ++ [(⟨nd, md, ui, gi, mt, tg, xs⟩, .slice oa na ca)])) := by
          intro p hp
          rcases List.mem_append.1 hp with h | h
          · exact (((X5.out.keep (fun g _ h2 => hbA.block g h2)).grow O6.out hgrow)) p h
          · rw [List.mem_singleton] at h
            subst h
            exact ⟨HAO.out.1, own_ty (rows_keep A5.out (fun g _ h2 => hbA.block g h2)) O6.out (by decide) hgrow, HAO.out.2.1⟩
        have O7 : Hid (w7.ownsRow (w.heap.size + 1) 25 7 v' (k + 1) (atv (P ++ [(⟨nd, md, ui, gi, mt, tg, xs⟩, .slice oa na ca)]))) := by
          show World.ownsRow _ _ _ _ _ _ _
          rw [atv_app, atv_one]; exact hown
        have L7 : Hid (Prl S (e8 n ++ stF ((P ++ [((⟨nd, md, ui, gi, mt, tg, xs⟩ : At), Value.slice oa na ca)]).map Prod.fst)) (fun l => stF (l.drop (k + 1))) (fun l => l.length = n ∧ l.take (k + 1) = (P ++ [((⟨nd, md, ui, gi, mt, tg, xs⟩ : At), Value.slice oa na ca)]).map Prod.fst) s4 false) := by
          rw [List.map_append]; exact L5.out
        have K7 : Hid (∀ a ∈ (P ++ [((⟨nd, md, ui, gi, mt, tg, xs⟩ : At), Value.slice oa na ca)]).map Prod.fst, okA a = true) := by
          intro a ha
          rw [List.map_append] at ha
          rcases List.mem_append.1 ha with h | h
          · exact HOK.out a h
          · simp at h
            subst h
            exact HAO.out.2.2
        obtain ⟨g7, cp7, hv⟩ : ∃ g7 c7, v' = .slice (some ⟨g7, 0, none⟩) (k + 1) c7 := by
          rcases hown.2 with ⟨_, h0⟩ | ⟨g7, c7, cur, h1, _⟩
          · omega
          · exact ⟨g7, c7, h1⟩
        subst hv
        clear hown hgrow hblk hbA R5 B5 O5 X5 A5 L5 O6 HAO HOK HL
        go_wp2
        go_roundw
        case rel => exact ⟨k + 1, _, some ⟨g7, 0, none⟩, cp7, s4, rfl, by go_num, by omega, by (show _ = _; rw [List.length_append, HY.out]; rfl), R7.out, B7.out, O7.out, X7.out, L7.out, K7.out⟩
        case measure => simp [intOf]; omega
      · have HNO : Hid (∀ l, GdL l → stL l ≠ bl S) := hp2 hr2
        obtain ⟨nd, md, ui, gi, mt, tg, xs⟩ := a
        clear hp1 hp2 hp3 hr2 hao hao2 hxs2 hb5 R4 B4 O4 X4
        dsimp only
        go_wp2
        go_ret2
        exact ⟨[], _, 4, rfl, .inr ⟨rfl, rfl, HNO.out⟩, rows_none, (fun p hp => nomatch hp), Nat.zero_le _, B5.out.trans (((Below.refl _ _).alloc (Nat.le_refl _) _).mono (by omega))⟩
    · have hkz : ¬ (k : Int) < (n : Nat) := by omega
      obtain rfl : k = n := by omega
      obtain ⟨G1, G2⟩ := Prl.fin (ls := P.map Prod.fst) (by rw [List.length_map]; exact HY.out) hb HOK.out HL.out
      have HEN := rend_any s w.heap.size wr (by unfold maxLen; omega) HRB.out.rc
      by_cases hz : s.size = 0
      · have he : endE s = 0 := if_pos hz
        rw [he] at HEN
        have HE' : Hid (Calls Tryd.prog 48 #[.pointer (some ⟨w.heap.size, 0, none⟩)] wr fun e w' => e = .returned (.int .i64 0) ∧ w' = wr) := HEN
        have HG : Hid (SrS S (P.map Prod.fst) 0) := G1 ⟨by omega, rfl, hz⟩
        clear G1 G2 HL HEN he hz
        go_wp2_with fail
        refine HE'.out.mono ?_
        rintro e w8 ⟨rfl, hw⟩
        rw [hw]
        clear hw
        go_wp2
        go_ret2
        refine ⟨P, _, 0, rfl, HG.out, ?_, (fun p hp => ⟨(HXR.out p hp).1, rows_low (HXR.out p hp).2.1 (by omega), (HXR.out p hp).2.2⟩), by rw [HY.out]; exact hb, HB.out⟩
        rw [HY.out]
        exact rows_low HO.out (by omega)
      · have he : endE s = 4 := if_neg hz
        rw [he] at HEN
        have HE' : Hid (Calls Tryd.prog 48 #[.pointer (some ⟨w.heap.size, 0, none⟩)] wr fun e w' => e = .returned (.int .i64 4) ∧ w' = wr) := HEN
        have HG : Hid (SrS S [] 4) := G2 (fun h => hz h.2.2)
        clear G1 G2 HL HEN he hz
        go_wp2_with fail
        refine HE'.out.mono ?_
        rintro e w8 ⟨rfl, hw⟩
        rw [hw]
        clear hw
        go_wp2
        go_ret2
        exact ⟨[], _, 4, rfl, HG.out, rows_none, (fun p hp => nomatch hp), Nat.zero_le _, HB.out⟩
end Go.Proofs.YtjnijcmalnckcaaDoor
/- What lies in memory while munimentlaw10.AttrsMany runs. -/
namespace Go.Proofs.YtjnijcmalnckcaaDoor
open Go.RowKit
set_option linter.unusedSimpArgs false
set_option linter.unusedVariables false
/-- Attributes with their marks so far. -/
structure MS (w0 : World) (P : List (At × Value)) (vm : Value) (w : World) : Prop where
  mo : w.ownsRow w0.heap.size 28 7 vm P.length (atv P)
  mq : MkO w w0.heap.size P
  bel : Below w0.heap.size w0 w
theorem MS.keep {w0 : World} {P : List (At × Value)} {vm : Value} {w w' : World} (h : MS w0 P vm w) (hb : Below w.heap.size w w') : MS w0 P vm w' :=
  ⟨rows_keep h.mo (fun g _ h2 => hb.block g h2), h.mq.keep (fun g _ h2 => hb.block g h2), h.bel.trans (hb.mono h.bel.size)⟩
theorem MS.start (w : World) : MS w [] (.slice none 0 0) w := ⟨rows_none, (fun p hp => nomatch hp), Below.refl _ _⟩
theorem srS_one {S : ByteArray} {l m : List At} {e f : Int} (h : SrS S l e) (g : SrS S m f) (hl : ∀ a ∈ l, AtOk a) (hm : ∀ a ∈ m, AtOk a) : l = m ∧ e = f := by
  have gd : ∀ {l : List At}, stB l = true → (∀ a ∈ l, AtOk a) → GdL l := fun h1 h2 => ⟨h1, fun a ha => ⟨(h2 a ha).ui, (h2 a ha).gi⟩⟩
  rcases h with ⟨rfl, h1, h2⟩ | ⟨rfl, rfl, h2⟩
  · rcases g with ⟨rfl, g1, g2⟩ | ⟨rfl, rfl, g2⟩
    · exact ⟨stL_inj (gd h1 hl) (gd g1 hm) (h2.trans g2.symm), rfl⟩
    · exact absurd h2 (g2 l (gd h1 hl))
  · rcases g with ⟨rfl, g1, g2⟩ | ⟨rfl, rfl, g2⟩
    · exact absurd g2 (h2 m (gd g1 hm))
    · exact ⟨rfl, rfl⟩
theorem srS_len {S : ByteArray} {l : List At} {e : Int} (h : SrS S l e) : ∀ a ∈ l, a.xs.length ≤ 4398046510976 := fun a ha => by
  rcases h with ⟨_, h1, _⟩ | ⟨_, rfl, _⟩
  · unfold stB at h1
    rw [Bool.and_eq_true] at h1
    have := (xsB_out (okA_out (List.all_eq_true.1 h1.2 a ha)).2.2.2.2).1
    omega
  · cases ha
theorem XrO.ok {w : World} {B : Nat} {P : List (At × Value)} (h : XrO w B P) : ∀ a ∈ P.map Prod.fst, AtOk a := fun a ha => by
  obtain ⟨p, hp, rfl⟩ := List.mem_map.1 ha
  exact (h p hp).1
theorem XrR.ok {w : World} {B : Nat} {P : List (At × Value)} (h : XrR w B P) : ∀ a ∈ P.map Prod.fst, AtOk a := fun a ha => by
  obtain ⟨p, hp, rfl⟩ := List.mem_map.1 ha
  exact (h p hp).1
theorem XrR.xv {w : World} {B : Nat} {P : List (At × Value)} (h : XrR w B P) : XvO w P := fun p hp => by
  obtain ⟨h1, h2, h3⟩ := h p hp
  obtain ⟨ad, c, hv, hX⟩ := own_xal h2 rfl (fun x hx => by have := h3 x hx; omega)
  exact ⟨h1, ad, c, hv, hX⟩
/-- A row is not touched by a store into a block of another type. -/
theorem rows_gr {B n k b : Nat} {w w' : World} {v : Value} {xs : List Value} {e T : TypeId} {C : Array Value} (h : w.ownsRow B e k v n xs) (hb : Bk w b C T) (hT : T ≠ e) (hg : w.grownBy w' (some b)) : w'.ownsRow B e k v n xs := by
  refine ⟨h.1, ?_⟩
  rcases h.2 with h1 | ⟨g, cap, cur, h1, h2, hc, h3⟩
  · exact .inl h1
  · refine .inr ⟨g, cap, cur, h1, h2, ?_, h3⟩
    refine (hg.block g (Array.getElem?_eq_some_iff.1 hc).1 (fun q => ?_)).trans hc
    injection q with q
    subst q
    have : some (Obj.cells cur e (0, 0)) = some (Obj.cells C T (0, 0)) := hc.symm.trans hb
    injection this with this
    injection this with _ this
    exact hT this.symm
/-- The document's answer, kept. -/
structure DcS (w0 : World) (Q : List (At × Value)) (v : Value) (w : World) : Prop where
  ow : w.ownsRow w0.heap.size 25 7 v Q.length (atv Q)
  xr : XrR w w0.heap.size Q
  bel : Below w0.heap.size w0 w
theorem DcS.keep {w0 w w' : World} {Q : List (At × Value)} {v : Value} (h : DcS w0 Q v w) (hb : Below w.heap.size w w') : DcS w0 Q v w' :=
  ⟨rows_keep h.ow (fun g _ h2 => hb.block g h2), h.xr.keep (fun g _ h2 => hb.block g h2), h.bel.trans (hb.mono h.bel.size)⟩
theorem DcS.put {w0 w w' : World} {Q : List (At × Value)} {v : Value} {b : Nat} {C : Array Value} {T : TypeId} (h : DcS w0 Q v w) (hb : Bk w b C T) (hT : T ≠ 25 ∧ T ≠ 61) (hg : w.grownBy w' (some b)) (hB : w0.heap.size ≤ b) : DcS w0 Q v w' :=
  ⟨rows_gr h.ow hb hT.1 hg, fun p hp => ⟨(h.xr p hp).1, rows_gr (h.xr p hp).2.1 hb hT.2 hg, (h.xr p hp).2.2⟩, below_own h.bel h.bel.size hg hB⟩
/-- The program's answer, being spoilt. -/
structure VSp (w0 : World) (gv : Nat) (P : List (At × Value)) (w : World) : Prop where
  blk : ∃ C, Bk w gv C 28 ∧ ∀ i p, P[i]? = some p → (∃ q : Int, C[i * 7]? = some (.int .u8 q)) ∧ C[i * 7 + 6]? = some p.2
  sl : ∀ p ∈ P, ∃ ad c, p.2 = .slice ad p.1.xs.length c
  rows : ∀ p ∈ P, ∀ k, k < p.1.xs.length → ∃ g c D y, p.2 = .slice (some ⟨g, 0, none⟩) p.1.xs.length c ∧ w0.heap.size ≤ g ∧ Bk w g D 57 ∧ D[k * 2 + 1]? = some (.string y)
  gl : w0.heap.size ≤ gv
theorem VSp.node {w0 w : World} {gv : Nat} {P : List (At × Value)} (h : VSp w0 gv P w) (i : Nat) (q : Int) : VSp w0 gv P (w.setCell ⟨gv, i * 7, none⟩ (.int .u8 q)) := by
  obtain ⟨C, hC, hc⟩ := h.blk
  have hg : w.grownBy (w.setCell ⟨gv, i * 7, none⟩ (.int .u8 q)) (some gv) := Lib.grownBy_setB (World.grownBy.refl _ _) _ _
  refine ⟨⟨_, hC.set (i * 7) _, fun j p hp => ?_⟩, h.sl, fun p hp k hk => ?_, h.gl⟩
  · obtain ⟨⟨q', h1⟩, h2⟩ := hc j p hp
    refine ⟨?_, ?_⟩
    · by_cases e : i = j
      · subst e
        refine ⟨q, ?_⟩
        rw [Array.getElem?_setIfInBounds_self_of_lt (Array.getElem?_eq_some_iff.1 h1).1]
      · exact ⟨q', by rw [Array.getElem?_setIfInBounds_ne (by omega)]; exact h1⟩
    · rw [Array.getElem?_setIfInBounds_ne (by omega)]; exact h2
  · obtain ⟨g, c, D, y, h1, h2, h3, h4⟩ := h.rows p hp k hk
    refine ⟨g, c, D, y, h1, h2, h3.grown hg (fun e => ?_), h4⟩
    injection e with e
    subst e
    have : some (Obj.cells D 57 (0, 0)) = some (Obj.cells C 28 (0, 0)) := h3.symm.trans hC
    injection this with this
    injection this with _ this
    exact absurd this (by decide)
theorem VSp.val {w0 w : World} {gv g j : Nat} {P : List (At × Value)} {D : Array Value} {t : ByteArray} (h : VSp w0 gv P w) (hD : Bk w g D 57) : VSp w0 gv P (w.setCell ⟨g, j, none⟩ (.string t)) := by
  obtain ⟨C, hC, hc⟩ := h.blk
  have hg : w.grownBy (w.setCell ⟨g, j, none⟩ (.string t)) (some g) := Lib.grownBy_setB (World.grownBy.refl _ _) _ _
  refine ⟨⟨C, hC.grown hg (fun e => ?_), hc⟩, h.sl, fun p hp k hk => ?_, h.gl⟩
  · injection e with e
    subst e
    have : some (Obj.cells D 57 (0, 0)) = some (Obj.cells C 28 (0, 0)) := hD.symm.trans hC
    injection this with this
    injection this with _ this
    exact absurd this (by decide)
  · obtain ⟨g', c, D', y, h1, h2, h3, h4⟩ := h.rows p hp k hk
    by_cases e : g' = g
    · subst e
      have hDD : D' = D := by
        have : some (Obj.cells D' 57 (0, 0)) = some (Obj.cells D 57 (0, 0)) := h3.symm.trans hD
        injection this with this
        injection this with this
      subst hDD
      by_cases ej : j = k * 2 + 1
      · exact ⟨g', c, _, t, h1, h2, h3.set j _, by rw [ej, Array.getElem?_setIfInBounds_self_of_lt (Array.getElem?_eq_some_iff.1 h4).1]⟩
      · exact ⟨g', c, _, y, h1, h2, h3.set j _, by rw [Array.getElem?_setIfInBounds_ne ej]; exact h4⟩
    · exact ⟨g', c, D', y, h1, h2, h3.grown hg (fun q => e (by injection q with q; exact q.symm)), h4⟩
theorem VSp.below {w0 w w' : World} {gv : Nat} {P : List (At × Value)} (h : VSp w0 gv P w) (hb : Below w.heap.size w w') : VSp w0 gv P w' := by
  obtain ⟨C, hC, hc⟩ := h.blk
  refine ⟨⟨C, hC.below hb hC.lt, hc⟩, h.sl, fun p hp k hk => ?_, h.gl⟩
  obtain ⟨g, c, D, y, h1, h2, h3, h4⟩ := h.rows p hp k hk
  exact ⟨g, c, D, y, h1, h2, h3.below hb h3.lt, h4⟩
/-- What ReadStream gave can be spoilt. -/
theorem vsp_of {w0 w : World} {n : Nat} {v : Value} {P : List (At × Value)} (h : w.ownsRow w0.heap.size 28 7 v n (atv P)) (hn : P.length = n) (hx : XrO w w0.heap.size P) : ∃ a c, v = .slice a n c ∧ (n = 0 ∨ ∃ gv, a = some ⟨gv, 0, none⟩ ∧ VSp w0 gv P w) := by
  rcases h.2 with ⟨rfl, h0⟩ | ⟨g, cap, cur, rfl, hle, hg, hnc, _, hc, ht⟩
  · exact ⟨none, 0, by rw [h0], .inl h0⟩
  · refine ⟨some ⟨g, 0, none⟩, cap, rfl, .inr ⟨g, rfl, ⟨⟨cur, hg, fun i p hp => ?_⟩, fun p hp => ?_, fun p hp k hk => ?_, hle⟩⟩⟩
    · have hl : i < P.length := (List.getElem?_eq_some_iff.1 hp).1
      have q : ∀ j, j < 7 → cur[i * 7 + j]? = (acl p)[j]? := fun j hj => by
        have := atv_get P i p hp j hj
        rw [← ht, List.getElem?_take, if_pos (by omega), Array.getElem?_toList] at this
        exact this
      have q0 := q 0 (by omega)
      rw [Nat.add_zero] at q0
      exact ⟨⟨_, q0⟩, q 6 (by omega)⟩
    · rcases (hx p hp).2.1.2 with ⟨h1, h2⟩ | ⟨g', cap', cur', h1, _⟩
      · exact ⟨none, 0, by rw [h1, h2]⟩
      · exact ⟨_, _, h1⟩
    · rcases (hx p hp).2.1.2 with ⟨h1, h2⟩ | ⟨g', cap', cur', h1, hle', hg', hnc', _, hc', ht'⟩
      · omega
      · obtain ⟨x, hxk⟩ : ∃ x, p.1.xs[k]? = some x := ⟨_, List.getElem?_eq_getElem hk⟩
        have q : (xav p.1.xs)[k * 2 + 1]? = some (.string x.2) := (xav_get p.1.xs k x hxk).2
        rw [← ht', List.getElem?_take, if_pos (by omega), Array.getElem?_toList] at q
        exact ⟨g', cap', cur', x.2, h1, hle', hg', q⟩
end Go.Proofs.YtjnijcmalnckcaaDoor
/- The document's Stream. -/
namespace Go.Proofs.YtjnijcmalnckcaaDoor
open Go.RowKit
set_option linter.unusedSimpArgs false
set_option linter.unusedVariables false
set_option maxHeartbeats 4000000 in
set_option maxRecDepth 100000 in
theorem rstream10 (ad : Option Addr) (n c : Nat) (l : List At) (w : World) (hL : AtL w ad l) (hl : l.length = n) (hn : n ≤ 4611686018427387904) (hT : U8 w) :
    Calls Tryd.prog 22 #[.slice ad n c] w fun e w' => e = .returned (.tuple #[.string ⟨(smL l).toArray⟩, .int .i64 (smE l)]) ∧ Below w.heap.size w w' := by
  have HA : Hid (AtL w ad l) := hL
  have HT : Hid (U8 w) := hT
  have HL : Hid (l.length = n) := hl
  have HW : Hid ((1 ≤ n ∧ n ≤ 257) → (∀ i, i < n → ∀ a, l[i]? = some a → okA a = true) → stB l = true) := fun h1 h2 => by
    unfold stB
    rw [decide_eq_true (by rw [hl]; exact h1), Bool.true_and, List.all_eq_true]
    intro a ha
    obtain ⟨i, hi⟩ := List.getElem?_of_mem ha
    exact h2 i (by rw [← hl]; exact (List.getElem?_eq_some_iff.1 hi).1) a hi
  have HN : Hid (¬ (1 ≤ n ∧ n ≤ 257) → stB l = false) := fun h1 => by
    unfold stB
    rw [decide_eq_false (by rw [hl]; exact h1)]; rfl
  clear hL hT hl
  by_cases h0 : (n : Int) < 1
  · obtain ⟨e1, e2⟩ := sm_no (HN.out (by omega))
    rw [e1, e2]
    clear e1 e2
    go_enter Tryd.func22, Tryd.ntmps22
    go_wp2
    go_ret2
    exact ⟨rfl, Below.refl _ _⟩
  by_cases h257 : (257 : Int) < n
  · obtain ⟨e1, e2⟩ := sm_no (HN.out (by omega))
    rw [e1, e2]
    clear e1 e2
    go_enter Tryd.func22, Tryd.ntmps22
    go_wp2
    go_ret2
    exact ⟨rfl, Below.refl _ _⟩
  · have q5 := e8_len n (by omega)
    go_enter Tryd.func22, Tryd.ntmps22
    go_wp2_with fail
    refine (rput_nat ⟨#[]⟩ n _ (by omega) (Nat.zero_le _)).mono ?_
    rintro e w1 ⟨s1, rfl, hs1, hb1⟩
    have HS1 : Hid (bl s1 = e8 n ++ stF (l.take 0)) := by
      show _ = _
      rw [hs1]; simp [stF]; rfl
    have HB1 : Hid (Below w.heap.size w w1) := hb1
    clear hs1 hb1
    go_wp2
    go_loopw [4, 5] (fun v4 v5 wr => ∃ (k : Nat) (s : ByteArray), v4 = .string s ∧ v5 = .int .i64 k ∧ k ≤ n ∧ Hid (Below w.heap.size w wr) ∧ Hid (bl s = e8 n ++ stF (l.take k)) ∧ Hid (∀ i, i < k → ∀ a, l[i]? = some a → okA a = true)) (fun _ v5 _ => n - (intOf v5).toNat)
    case atStart => exact ⟨0, s1, rfl, rfl, Nat.zero_le _, HB1.out, HS1.out, fun i hi => by omega⟩
    case round =>
      clear HB1 HS1
      obtain ⟨k, s, rfl, rfl, hk, HB, HS, HE⟩ := hrel
      have hzr : w.heap.size ≤ wr.heap.size := HB.out.size
      by_cases hlt : k < n
      · have hkz : (k : Int) < (n : Nat) := by omega
        obtain ⟨a, ha⟩ : ∃ a, l[k]? = some a := ⟨l[k]'(by rw [HL.out]; exact hlt), List.getElem?_eq_getElem _⟩
        obtain ⟨hao, g, o, sl, cp, rfl, hg2, c0, c1, c2, c3, c4, c5, c6, hx⟩ := HA.out.below HB.out k a ha
        have hlen : s.size ≤ 80010 * 257 + 10 := by
          have := stF_len (l.take k) (fun y hy => by
            obtain ⟨i, hi⟩ := List.getElem?_of_mem hy
            have hik : i < k := by have := (List.getElem?_eq_some_iff.1 hi).1; rw [List.length_take] at this; omega
            rw [List.getElem?_take, if_pos hik] at hi
            have hq := (HA.out i y hi).1
            exact ⟨HE.out i hik y hi, by have := hq.ui; omega, by have := hq.gi; omega⟩)
          have h2 : (l.take k).length ≤ 257 := by rw [List.length_take]; omega
          rw [← bl_length, HS.out, List.length_append]
          omega
        have HTK : Hid (stF (l.take (k + 1)) = stF (l.take k) ++ tx ⟨(lay a).toArray⟩) := by
          show _ = _
          rw [List.take_add_one, ha, Option.toList_some, stF_snoc]
        have H1 : Hid (l[k]? = some a) := ha
        obtain ⟨nd, md, ui, gi, mt, tg, xs⟩ := a
        have b1 := hao.nd; have b2 := hao.md; have b3 := hao.ui; have b4 := hao.gi; have b5 := hao.mt; have b6 := hao.tg; have b7 := hao.xs
        simp only at c0 c1 c2 c3 c4 c5 c6 hx b1 b2 b3 b4 b5 b6 b7
        obtain ⟨m, hm⟩ : ∃ m, xs.length = m := ⟨_, rfl⟩
        rw [hm] at c6 b7
        have C1 : Hid (Calls Tryd.prog 17 #[atV nd md ui gi mt tg (.slice sl m cp)] wr fun e w' => e = .returned (.int .i64 (ckE ⟨nd, md, ui, gi, mt, tg, xs⟩)) ∧ Below wr.heap.size wr w') := rcheck10 nd md ui gi mt tg xs sl m cp wr hx hm (by omega) b6 (HT.out.below HB.out)
        cases hok : okA ⟨nd, md, ui, gi, mt, tg, xs⟩ with
        | false =>
          have HF : Hid (stB l = false) := stB_bad H1.out hok
          rw [ck_bad hok] at C1
          clear hok hao hx hm ha
          go_wp2_with fail
          refine C1.out.mono ?_
          rintro e w2 ⟨rfl, hb⟩
          have HB2 : Hid (Below w.heap.size w w2) := HB.out.trans (hb.mono hzr)
          clear hb
          go_wp2
          go_ret2
          exact ⟨by rw [(sm_no HF.out).1, (sm_no HF.out).2]; rfl, HB2.out⟩
        | true =>
          have hc0 : ckE ⟨nd, md, ui, gi, mt, tg, xs⟩ = 0 := by unfold ckE; rw [hok]; rfl
          rw [hc0] at C1
          have C2 : Hid (∀ u, Below wr.heap.size wr u → Calls Tryd.prog 29 #[atV nd md ui gi mt tg (.slice sl m cp)] u fun e w' => e = .returned (.string ⟨(lay ⟨nd, md, ui, gi, mt, tg, xs⟩).toArray⟩) ∧ Below u.heap.size u w') := fun u hu => rlaid10 nd md ui gi mt tg xs sl m cp u (hx.below hu) hm b3 b4 hok
          have hll := lay_len hok (by show ui < 2 ^ 32; omega) (by show gi < 2 ^ 32; omega)
          obtain ⟨Q, hQ⟩ : ∃ Q : ByteArray, (⟨(lay ⟨nd, md, ui, gi, mt, tg, xs⟩).toArray⟩ : ByteArray) = Q := ⟨_, rfl⟩
          rw [← lay_size, hQ] at hll
          rw [hQ] at C2 HTK
          have HOK : Hid (okA ⟨nd, md, ui, gi, mt, tg, xs⟩ = true) := hok
          clear hok hQ hc0 hao hx hm ha
          go_wp2_with fail
          refine C1.out.mono ?_
          rintro e w2 ⟨rfl, hb⟩
          have B2 : Hid (Below wr.heap.size wr w2) := hb
          have e0 := hb.cell (p := ⟨g, o + k * 7, none⟩) hg2; have e1 := hb.cell (p := ⟨g, o + k * 7 + 1, none⟩) hg2; have e2 := hb.cell (p := ⟨g, o + k * 7 + 2, none⟩) hg2; have e3 := hb.cell (p := ⟨g, o + k * 7 + 3, none⟩) hg2
          have e4 := hb.cell (p := ⟨g, o + k * 7 + 4, none⟩) hg2; have e5 := hb.cell (p := ⟨g, o + k * 7 + 5, none⟩) hg2; have e6 := hb.cell (p := ⟨g, o + k * 7 + 6, none⟩) hg2
          rw [c0] at e0; rw [c1] at e1; rw [c2] at e2; rw [c3] at e3; rw [c4] at e4; rw [c5] at e5; rw [c6] at e6
          clear hb
          go_wp2_with fail
          refine (C2.out _ B2.out).mono ?_
          rintro e w3 ⟨rfl, hb⟩
          have B3 : Hid (Below wr.heap.size wr w3) := B2.out.trans (hb.mono B2.out.size)
          clear hb
          go_wp2_with fail
          refine (rputText_any s Q _ (by omega) (by omega)).mono ?_
          rintro e w4 ⟨rfl, hb⟩
          have B4 : Hid (Below wr.heap.size wr w4) := B3.out.trans (hb.mono B3.out.size)
          have HS4 : Hid (bl (s ++ sb (encS Q.size) ++ Q) = e8 n ++ stF (l.take (k + 1))) := by
            show _ = _
            rw [bl_txt, HS.out, HTK.out, List.append_assoc]
          clear hb
          go_wp2
          go_roundw
          case rel => exact ⟨k + 1, _, rfl, by go_num, by omega, HB.out.trans (B4.out.mono hzr), HS4.out, fun i hi y hy => by
            by_cases hik : i < k
            · exact HE.out i hik y hy
            · obtain rfl : i = k := by omega
              have := H1.out.symm.trans hy
              cases this
              exact HOK.out⟩
          case measure => simp [intOf]; omega
      · have hkz : ¬ (k : Int) < (n : Nat) := by omega
        have HY : Hid (stB l = true) := HW.out (by omega) (fun i hi => HE.out i (by omega))
        have HF : Hid (s = ⟨(stL l).toArray⟩) := bl_inj (by
          rw [HS.out, List.take_of_length_le (by rw [HL.out]; omega)]
          show _ = stL l
          unfold stL
          rw [HL.out])
        go_wp2
        go_ret2
        exact ⟨by rw [(sm_yes HY.out).1, (sm_yes HY.out).2, ← HF.out]; rfl, HB.out⟩
end Go.Proofs.YtjnijcmalnckcaaDoor
/- The document's Same. -/
namespace Go.Proofs.YtjnijcmalnckcaaDoor
open Go.RowKit
set_option linter.unusedSimpArgs false
set_option linter.unusedVariables false
theorem smB_ne {a b : At} (h : a ≠ b) : smB a b = false := by
  cases hh : smB a b with
  | false => rfl
  | true => exact absurd ((smB_iff a b).1 hh) h
set_option maxHeartbeats 16000000 in
set_option maxRecDepth 100000 in
theorem rsame10 (nd md ui gi : Nat) (mt : Int) (tg : ByteArray) (xs : List (ByteArray × ByteArray)) (ad : Option Addr) (c : Nat) (nd' md' ui' gi' : Nat) (mt' : Int) (tg' : ByteArray) (ys : List (ByteArray × ByteArray)) (bd : Option Addr) (d : Nat) (w : World)
    (hx : XaL w ad xs) (hy : XaL w bd ys) (nx : xs.length ≤ 4611686018427387904) (ny : ys.length ≤ 4611686018427387904) :
    Calls Tryd.prog 14 #[atV nd md ui gi mt tg (.slice ad xs.length c), atV nd' md' ui' gi' mt' tg' (.slice bd ys.length d)] w fun e w' => e = .returned (.bool (smB ⟨nd, md, ui, gi, mt, tg, xs⟩ ⟨nd', md', ui', gi', mt', tg', ys⟩)) ∧ Below w.heap.size w w' := by
  have HB0 : Hid (Below w.heap.size w ((w.alloc (.cells #[.int .u8 (nd : Int), .int .u32 (md : Int), .int .u32 (ui : Int), .int .u32 (gi : Int), .int .i64 mt, .string tg, .slice ad xs.length c] 25)).alloc (.cells #[.int .u8 (nd' : Int), .int .u32 (md' : Int), .int .u32 (ui' : Int), .int .u32 (gi' : Int), .int .i64 mt', .string tg', .slice bd ys.length d] 25))) := ((Below.refl _ _).alloc (Nat.le_refl _) _).alloc (by simp) _
  have HX : Hid (XaL w ad xs) := hx
  have HY : Hid (XaL w bd ys) := hy
  clear hx hy
  by_cases hf : ¬ nd = nd'
  · have hb : smB ⟨nd, md, ui, gi, mt, tg, xs⟩ ⟨nd', md', ui', gi', mt', tg', ys⟩ = false := smB_ne (fun h => hf (congrArg At.nd h))
    have hz : ((nd : Int) != nd') = true := by simp; omega
    rw [hb]
    clear hb hf
    go_enter Tryd.func14, Tryd.ntmps14
    go_wp2
    go_ret
    exact ⟨rfl, HB0.out⟩
  replace hf : nd = nd' := Classical.not_not.1 hf
  have znd : ((nd : Int) != nd') = false := by simp [hf]
  have Ends : Hid (nd = nd') := hf
  clear hf
  by_cases hf : ¬ md = md'
  · have hb : smB ⟨nd, md, ui, gi, mt, tg, xs⟩ ⟨nd', md', ui', gi', mt', tg', ys⟩ = false := smB_ne (fun h => hf (congrArg At.md h))
    have hz : ((md : Int) != md') = true := by simp; omega
    rw [hb]
    clear hb hf
    go_enter Tryd.func14, Tryd.ntmps14
    go_wp2
    go_ret
    exact ⟨rfl, HB0.out⟩
  replace hf : md = md' := Classical.not_not.1 hf
  have zmd : ((md : Int) != md') = false := by simp [hf]
  have Emd : Hid (md = md') := hf
  clear hf
  by_cases hf : ¬ ui = ui'
  · have hb : smB ⟨nd, md, ui, gi, mt, tg, xs⟩ ⟨nd', md', ui', gi', mt', tg', ys⟩ = false := smB_ne (fun h => hf (congrArg At.ui h))
    have hz : ((ui : Int) != ui') = true := by simp; omega
    rw [hb]
    clear hb hf
    go_enter Tryd.func14, Tryd.ntmps14
    go_wp2
    go_ret
    exact ⟨rfl, HB0.out⟩
  replace hf : ui = ui' := Classical.not_not.1 hf
  have zui : ((ui : Int) != ui') = false := by simp [hf]
  have Eui : Hid (ui = ui') := hf
  clear hf
  by_cases hf : ¬ gi = gi'
  · have hb : smB ⟨nd, md, ui, gi, mt, tg, xs⟩ ⟨nd', md', ui', gi', mt', tg', ys⟩ = false := smB_ne (fun h => hf (congrArg At.gi h))
    have hz : ((gi : Int) != gi') = true := by simp; omega
    rw [hb]
    clear hb hf
    go_enter Tryd.func14, Tryd.ntmps14
    go_wp2
    go_ret
    exact ⟨rfl, HB0.out⟩
  replace hf : gi = gi' := Classical.not_not.1 hf
  have zgi : ((gi : Int) != gi') = false := by simp [hf]
  have Egi : Hid (gi = gi') := hf
  clear hf
  by_cases hf : ¬ mt = mt'
  · have hb : smB ⟨nd, md, ui, gi, mt, tg, xs⟩ ⟨nd', md', ui', gi', mt', tg', ys⟩ = false := smB_ne (fun h => hf (congrArg At.mt h))
    have hz : (mt != mt') = true := by simpa using hf
    rw [hb]
    clear hb hf
    go_enter Tryd.func14, Tryd.ntmps14
    go_wp2
    go_ret
    exact ⟨rfl, HB0.out⟩
  replace hf : mt = mt' := Classical.not_not.1 hf
  have zmt : (mt != mt') = false := by simp [hf]
  have Emt : Hid (mt = mt') := hf
  clear hf
  by_cases hf : ¬ tg = tg'
  · have hb : smB ⟨nd, md, ui, gi, mt, tg, xs⟩ ⟨nd', md', ui', gi', mt', tg', ys⟩ = false := smB_ne (fun h => hf (congrArg At.tg h))
    have hz : (tg.toList != tg'.toList) = true := by simp only [bne, toL_eq, decide_eq_false hf]; rfl
    have hz1 : (tg.toList == tg'.toList) = false := by rw [toL_eq]; exact decide_eq_false hf
    have hz2 : ¬ tg.toList = tg'.toList := by simpa using hz1
    rw [hb]
    clear hb hf
    go_enter Tryd.func14, Tryd.ntmps14
    go_wp2
    go_ret
    exact ⟨rfl, HB0.out⟩
  replace hf : tg = tg' := Classical.not_not.1 hf
  subst hf
  have ztg : (tg.toList != tg.toList) = false := by simp
  have Etg : Hid (tg = tg) := rfl
  by_cases hl : ¬ xs.length = ys.length
  · have hb : smB ⟨nd, md, ui, gi, mt, tg, xs⟩ ⟨nd', md', ui', gi', mt', tg, ys⟩ = false := smB_ne (fun h => hl (congrArg (fun a : At => a.xs.length) h))
    have hz : ((xs.length : Int) != (ys.length : Int)) = true := by simp; omega
    rw [hb]
    clear hb hl
    go_enter Tryd.func14, Tryd.ntmps14
    go_wp2
    go_ret
    exact ⟨rfl, HB0.out⟩
  replace hl : xs.length = ys.length := Classical.not_not.1 hl
  obtain ⟨n, hn⟩ : ∃ n, xs.length = n := ⟨_, rfl⟩
  have hn2 : ys.length = n := by omega
  have HL : Hid (xs.length = n ∧ ys.length = n) := ⟨hn, hn2⟩
  rw [hn, hn2] at HB0 ⊢
  have hnz : ((n : Int) != (n : Int)) = false := by simp
  have hnn : n ≤ 4611686018427387904 := by omega
  have HS : Hid (xs = ys → smB ⟨nd, md, ui, gi, mt, tg, xs⟩ ⟨nd', md', ui', gi', mt', tg, ys⟩ = true) := fun h => (smB_iff _ _).2 (by rw [Ends.out, Emd.out, Eui.out, Egi.out, Emt.out, h])
  have HN : Hid (xs ≠ ys → smB ⟨nd, md, ui, gi, mt, tg, xs⟩ ⟨nd', md', ui', gi', mt', tg, ys⟩ = false) := fun h => smB_ne (fun e => h (congrArg At.xs e))
  obtain ⟨q, hq⟩ : ∃ q, smB ⟨nd, md, ui, gi, mt, tg, xs⟩ ⟨nd', md', ui', gi', mt', tg, ys⟩ = q := ⟨_, rfl⟩
  rw [hq] at HS HN ⊢
  have B1 : Hid (Bk ((w.alloc (.cells #[.int .u8 (nd : Int), .int .u32 (md : Int), .int .u32 (ui : Int), .int .u32 (gi : Int), .int .i64 mt, .string tg, .slice ad n c] 25)).alloc (.cells #[.int .u8 (nd' : Int), .int .u32 (md' : Int), .int .u32 (ui' : Int), .int .u32 (gi' : Int), .int .i64 mt', .string tg, .slice bd n d] 25)) w.heap.size #[.int .u8 (nd : Int), .int .u32 (md : Int), .int .u32 (ui : Int), .int .u32 (gi : Int), .int .i64 mt, .string tg, .slice ad n c] 25) := (bk_new _ _ _).alloc _
  have B2 : Hid (Bk ((w.alloc (.cells #[.int .u8 (nd : Int), .int .u32 (md : Int), .int .u32 (ui : Int), .int .u32 (gi : Int), .int .i64 mt, .string tg, .slice ad n c] 25)).alloc (.cells #[.int .u8 (nd' : Int), .int .u32 (md' : Int), .int .u32 (ui' : Int), .int .u32 (gi' : Int), .int .i64 mt', .string tg, .slice bd n d] 25)) (w.heap.size + 1) #[.int .u8 (nd' : Int), .int .u32 (md' : Int), .int .u32 (ui' : Int), .int .u32 (gi' : Int), .int .i64 mt', .string tg, .slice bd n d] 25) := by
    have h := bk_new (w.alloc (.cells #[.int .u8 (nd : Int), .int .u32 (md : Int), .int .u32 (ui : Int), .int .u32 (gi : Int), .int .i64 mt, .string tg, .slice ad n c] 25)) #[.int .u8 (nd' : Int), .int .u32 (md' : Int), .int .u32 (ui' : Int), .int .u32 (gi' : Int), .int .i64 mt', .string tg, .slice bd n d] 25
    rw [al_size] at h
    exact h
  clear hn hn2 hl nx ny hq Ends Emd Eui Egi Emt Etg
  go_enter Tryd.func14, Tryd.ntmps14
  go_wp2
  go_loopw [5] (fun v wr => ∃ k : Nat, v = .int .i64 k ∧ k ≤ n ∧ Hid (Below w.heap.size w wr) ∧ wr.cell? ⟨w.heap.size, 6, none⟩ = some (.slice ad n c) ∧ wr.cell? ⟨w.heap.size + 1, 6, none⟩ = some (.slice bd n d) ∧ Hid (∀ i, i < k → xs[i]? = ys[i]?)) (fun v _ => n - (intOf v).toNat)
  case atStart => exact ⟨0, rfl, Nat.zero_le _, HB0.out, by rw [B1.out.cell]; rfl, by rw [B2.out.cell]; rfl, fun i hi => by omega⟩
  case round =>
    clear HB0 B1 B2
    obtain ⟨k, rfl, hk, HB, a6, b6, HE⟩ := hrel
    by_cases hlt : k < n
    · obtain ⟨x, hx⟩ : ∃ x, xs[k]? = some x := ⟨xs[k]'(by rw [HL.out.1]; exact hlt), List.getElem?_eq_getElem _⟩
      obtain ⟨y, hy⟩ : ∃ y, ys[k]? = some y := ⟨ys[k]'(by rw [HL.out.2]; exact hlt), List.getElem?_eq_getElem _⟩
      obtain ⟨g, o, rfl, hg, hc1, hc2, _, _⟩ := HX.out.below HB.out k x hx
      obtain ⟨g2, o2, rfl, hg2, hd1, hd2, _, _⟩ := HY.out.below HB.out k y hy
      obtain ⟨x1, x2⟩ := x
      obtain ⟨y1, y2⟩ := y
      simp only at hc1 hc2 hd1 hd2
      have H1 : Hid (xs[k]? = some (x1, x2) ∧ ys[k]? = some (y1, y2)) := ⟨hx, hy⟩
      clear hx hy
      have hkz : (k : Int) < (n : Nat) := by omega
      have t1 := toL_eq x1 y1
      have t2 := toL_eq x2 y2
      by_cases he : x1 = y1 ∧ x2 = y2
      · obtain ⟨rfl, rfl⟩ := he
        simp only [decide_true] at t1 t2
        go_wp2
        go_quiet (fail)
        go_wp2
        go_roundw
        case rel =>
          refine ⟨k + 1, by go_num, by omega, below_drewN HB.out _, a6, b6, fun i hi => ?_⟩
          by_cases hik : i < k
          · exact HE.out i hik
          · obtain rfl : i = k := by omega
            rw [H1.out.1, H1.out.2]
        case measure => simp [intOf]; omega
      · have hfin : Hid (q = false) := HN.out fun e => he (by
          have := H1.out
          rw [e] at this
          have q := Option.some.inj (this.1.symm.trans this.2)
          exact ⟨congrArg Prod.fst q, congrArg Prod.snd q⟩)
        by_cases h1 : x1 = y1
        · subst h1
          have h2 : ¬ x2 = y2 := fun h => he ⟨rfl, h⟩
          simp only [decide_true] at t1
          simp only [h2, decide_false] at t2
          clear he
          go_wp2
          go_quiet (fail)
          go_wp2
          go_ret
          exact ⟨retB hfin.out.symm, below_drewN HB.out _⟩
        · simp only [h1, decide_false] at t1
          clear he
          go_wp2
          go_quiet (fail)
          go_wp2
          go_ret
          exact ⟨retB hfin.out.symm, below_drewN HB.out _⟩
    · have hkz : ¬ (k : Int) < (n : Nat) := by omega
      go_wp2
      go_ret
      refine ⟨retB (Eq.symm (HS.out (List.ext_getElem? fun i => ?_))), HB.out⟩
      by_cases hi : i < n
      · exact HE.out i (by omega)
      · rw [List.getElem?_eq_none (by rw [HL.out.1]; omega), List.getElem?_eq_none (by rw [HL.out.2]; omega)]
end Go.Proofs.YtjnijcmalnckcaaDoor
