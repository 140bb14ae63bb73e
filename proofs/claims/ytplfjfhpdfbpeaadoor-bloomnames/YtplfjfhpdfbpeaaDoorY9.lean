import Derived.Test.YtplfjfhpdfbpeaaDoorY8
import Derived.Test.YtplfjfhpdfbpeaaDoorY5
import Derived.Test.YtplfjfhpdfbpeaaDoorY7
import Derived.Test.YtplfjfhpdfbpeaaDoorY6
import Derived.OwnWalk
/- The names of a filter's file: bloom.Name, isName, Check. -/
namespace Go.Proofs.YtplfjfhpdfbpeaaDoor
open Go.RowKit
set_option linter.unusedSimpArgs false
set_option linter.unusedVariables false
/-- What Parse tells. -/
def prAQ (t : ByteArray) : Array Value := if t.size = 64 then pid t else z32c
def prEQ (t : ByteArray) : Int := if t.size = 64 then uhE t else 4
theorem prAQ_size (t : ByteArray) : (prAQ t).size = 32 := by unfold prAQ; split <;> first | exact pid_size t | exact z32c_size
theorem prAQ_one (t : ByteArray) : (prAQ t).all (·.oneCell') = true := by unfold prAQ; split <;> first | exact pid_one t | exact z32c_one
theorem parseQ (t : ByteArray) (w : World) (hm : t.size ≤ 140737488351232) (hA : All w) :
    Calls Tryd.prog 66 #[.string t] w fun e w' => e = .returned (.tuple #[.agg (prAQ t), .int .i64 (prEQ t)]) ∧ Below w.heap.size w w' := by
  by_cases h : t.size = 64
  · rw [prAQ, prEQ, if_pos h, if_pos h]; exact parse_64 t w h hA
  · rw [prAQ, prEQ, if_neg h, if_neg h]; exact parse_bad t w h hm
theorem cpQ_size (s q : ByteArray) : (cpQ s q).size ≤ s.size := by
  unfold cpQ
  split
  · rw [ByteArray.size_extract]; omega
  · exact Nat.le_refl _
theorem csQ_size (s q : ByteArray) : (csQ s q).size ≤ s.size := by
  unfold csQ
  split
  · rw [ByteArray.size_extract]; omega
  · exact Nat.le_refl _
def nmF : ByteArray := ⟨#[98, 108, 111, 111, 109, 45]⟩
def nmE : ByteArray := ⟨#[46, 98, 102]⟩
def nmD (s : ByteArray) : ByteArray := csQ (cpQ s nmF) nmE
/-- Whether a name has the form of a file's. -/
def nmB (s : ByteArray) : Bool := pfQ s nmF && sfQ (cpQ s nmF) nmE && decide (prEQ (nmD s) = 0)
set_option maxHeartbeats 2000000 in
set_option maxRecDepth 100000 in
theorem isName_any (s : ByteArray) (w : World) (hs : s.size ≤ 140737488351232) (hA : All w) :
    Calls Tryd.prog 50 #[.string s] w fun e w' => e = .returned (.bool (nmB s)) ∧ Below w.heap.size w w' := by
  have HA : Hid (All w) := hA
  have z1 := cpQ_size s nmF
  have z2 := csQ_size (cpQ s nmF) nmE
  have HP := fun W => cutPQ s nmF W (by omega) (by decide)
  have HS := fun W => cutSQ (cpQ s nmF) nmE W (by omega) (by decide)
  have HPa := fun W hW => parseQ (nmD s) W (by unfold nmD; omega) hW
  obtain ⟨d1, hd1⟩ : ∃ d, d = cpQ s nmF := ⟨_, rfl⟩
  obtain ⟨d2, hd2⟩ : ∃ d, d = csQ (cpQ s nmF) nmE := ⟨_, rfl⟩
  obtain ⟨bp, hbp⟩ : ∃ b, b = pfQ s nmF := ⟨_, rfl⟩
  obtain ⟨bs, hbs⟩ : ∃ b, b = sfQ (cpQ s nmF) nmE := ⟨_, rfl⟩
  have HB : Hid (nmB s = (bp && bs && decide (prEQ d2 = 0))) := by show _ = _; rw [nmB, nmD, hbp, hbs, hd2]
  have hnd : nmD s = d2 := by rw [nmD, hd2]
  rw [← hd2, ← hbs, ← hd1] at HS
  rw [← hd1, ← hbp] at HP
  rw [hnd] at HPa
  obtain ⟨A, hAd⟩ : ∃ A, A = prAQ d2 := ⟨_, rfl⟩
  obtain ⟨er, her⟩ : ∃ e, e = prEQ d2 := ⟨_, rfl⟩
  have hAz : A.size = 32 := by rw [hAd]; exact prAQ_size _
  have hA1 : A.all (·.oneCell') = true := by rw [hAd]; exact prAQ_one _
  rw [← hAd, ← her] at HPa
  rw [← her] at HB
  have HI : Hid ((Tryd.prog.info? 36).map (·.size) = some A.size) := info_32 hAz
  have HZ : Hid (z32c.size = A.size ∧ A.all (·.oneCell') = true) := ⟨by rw [hAz]; exact z32c_size, hA1⟩
  have HP' : Hid (∀ W, Calls Tryd.prog 64 #[.string s, .string ⟨#[98, 108, 111, 111, 109, 45]⟩] W fun e w' => e = .returned (.tuple #[.string d1, .bool bp]) ∧ w' = W) := HP
  have HS' : Hid (∀ W, Calls Tryd.prog 65 #[.string d1, .string ⟨#[46, 98, 102]⟩] W fun e w' => e = .returned (.tuple #[.string d2, .bool bs]) ∧ w' = W) := HS
  have HPP : Hid (∀ W, All W → Calls Tryd.prog 66 #[.string d2] W fun e w' => e = .returned (.tuple #[.agg A, .int .i64 er]) ∧ Below W.heap.size W w') := HPa
  obtain ⟨bo, hbo⟩ : ∃ b : Bool, (er == 0) = b := ⟨_, rfl⟩
  have HB2 : Hid (nmB s = (bp && bs && bo)) := by show _ = _; rw [HB.out, ← hbo]; congr 1
  clear hA z1 z2 HP HS HPa hd1 hd2 hbp hbs hnd hAd her hAz hA1 HB
  go_enter Tryd.func50, Tryd.ntmps50
  go_wp2_with fail
  refine (HP'.out _).mono ?_
  rintro e w1 ⟨rfl, hw⟩
  obtain rfl : w = w1 := hw.symm
  go_wp2_with fail
  refine (HS'.out _).mono ?_
  rintro e w1 ⟨rfl, hw⟩
  obtain rfl : w = w1 := hw.symm
  go_wp2_with fail
  refine (HPP.out _ HA.out).mono ?_
  rintro e w2 ⟨rfl, b2⟩
  have H2 : Hid (Below w.heap.size w w2) := b2
  clear b2 HP' HS' HPP HA
  cases bp
  · go_wp2_with (refine wpList_store_abs rfl 36 (.tmp 7) (.tmp 22) rfl A z32c 36 w2.heap.size rfl rfl rfl HI.out HZ.out.1 HZ.out.2 ?_; intro w3 HBk HG hsz3)
    go_ret
    exact ⟨ret_bQ HB2.out, H2.out.trans ((below_of_gr HG.out).mono H2.out.size)⟩
  · cases bs
    · go_wp2_with (refine wpList_store_abs rfl 36 (.tmp 7) (.tmp 22) rfl A z32c 36 w2.heap.size rfl rfl rfl HI.out HZ.out.1 HZ.out.2 ?_; intro w3 HBk HG hsz3)
      go_ret
      exact ⟨ret_bQ HB2.out, H2.out.trans ((below_of_gr HG.out).mono H2.out.size)⟩
    · cases bo
      · go_wp2_with (refine wpList_store_abs rfl 36 (.tmp 7) (.tmp 22) rfl A z32c 36 w2.heap.size rfl rfl rfl HI.out HZ.out.1 HZ.out.2 ?_; intro w3 HBk HG hsz3)
        go_ret
        exact ⟨ret_bQ HB2.out, H2.out.trans ((below_of_gr HG.out).mono H2.out.size)⟩
      · go_wp2_with (refine wpList_store_abs rfl 36 (.tmp 7) (.tmp 22) rfl A z32c 36 w2.heap.size rfl rfl rfl HI.out HZ.out.1 HZ.out.2 ?_; intro w3 HBk HG hsz3)
        go_ret
        exact ⟨ret_bQ HB2.out, H2.out.trans ((below_of_gr HG.out).mono H2.out.size)⟩
/-- The name of a filter's file. -/
def bnm (s : ByteArray) : ByteArray := nmF ++ sb (hexL (bl (sb (sha (byl s))))) ++ nmE
theorem ret_sQ {a b : ByteArray} (h : b = a) : Ending.returned (.string a) = .returned (.string b) := by rw [h]
set_option maxHeartbeats 1000000 in
set_option maxRecDepth 100000 in
theorem name_any (s : ByteArray) (w : World) (hs : s.size ≤ 140737488351232) (hA : All w) :
    Calls Tryd.prog 26 #[.string s] w fun e w' => e = .returned (.string (bnm s)) ∧ Below w.heap.size w w' := by
  obtain ⟨x, hx⟩ : ∃ x, x = sb (sha (byl s)) := ⟨_, rfl⟩
  have hxz : x.size = 32 := by rw [hx]; exact sha_size _
  obtain ⟨t, ht⟩ : ∃ t, t = sb (hexL (bl x)) := ⟨_, rfl⟩
  have htz : t.size = 64 := by rw [ht, sb_size, hexL_length, bl_length, hxz]
  have HS : Hid (Calls Tryd.prog 47 #[.string s] w fun e w' => e = .returned (.agg (idc x)) ∧ Below w.heap.size w w') := by rw [hx]; exact sum_id s w hA.l (by omega)
  have HT : Hid (∀ W, Below w.heap.size w W → Calls Tryd.prog 46 #[.agg (idc x)] W fun e w' => e = .returned (.string t) ∧ Below w.heap.size w w') := fun W hW => by
    rw [ht]
    exact (text_any x W hxz (hA.below hW)).mono fun e w' q => ⟨q.1, hW.trans (q.2.mono hW.size)⟩
  have HR : Hid (bnm s = nmF ++ t ++ nmE) := by show _ = _; rw [bnm, ht, hx]
  obtain ⟨D, hD⟩ : ∃ D, idc x = D := ⟨_, rfl⟩
  rw [hD] at HS HT
  have h1 : (⟨#[98, 108, 111, 111, 109, 45]⟩ : ByteArray) = nmF := rfl
  have h2 : (⟨#[46, 98, 102]⟩ : ByteArray) = nmE := rfl
  have z1 : nmF.size = 6 := rfl
  have z2 : nmE.size = 3 := rfl
  clear hx ht hD hA
  go_enter Tryd.func26, Tryd.ntmps26
  go_wp2_with fail
  refine HS.out.mono ?_
  rintro e w1 ⟨rfl, b1⟩
  go_wp2_with fail
  refine (HT.out _ b1).mono ?_
  rintro e w2 ⟨rfl, b2⟩
  go_wp2
  go_ret
  exact ⟨ret_sQ HR.out, b2⟩
/-- What Check tells. -/
def CkR (nm s : ByteArray) (e : Int) : Prop :=
  (nmB nm = false ∧ e = 10) ∨ (nmB nm = true ∧ nm ≠ bnm s ∧ e = 9) ∨ (nmB nm = true ∧ nm = bnm s ∧ ((∃ n k r, IsF s n k r) ∧ e = 0 ∨ (∀ n k r, ¬ IsF s n k r) ∧ e = 4))
set_option maxHeartbeats 1000000 in
set_option maxRecDepth 100000 in
theorem check14 (nm s : ByteArray) (w : World) (hn : nm.size ≤ 140737488351232) (hs : s.size ≤ 140737488351232) (hA : All w) (hm : MkS w) :
    Calls Tryd.prog 28 #[.string nm, .string s] w fun e w' => ∃ er, e = .returned (.int .i64 er) ∧ CkR nm s er ∧ Below w.heap.size w w' := by
  have HI : Hid (Calls Tryd.prog 50 #[.string nm] w fun e w' => e = .returned (.bool (nmB nm)) ∧ Below w.heap.size w w') := isName_any nm w hn hA
  have HN : Hid (∀ W, Below w.heap.size w W → Calls Tryd.prog 26 #[.string s] W fun e w' => e = .returned (.string (bnm s)) ∧ Below w.heap.size w w') := fun W hW => (name_any s W hs (hA.below hW)).mono fun e w' q => ⟨q.1, hW.trans (q.2.mono hW.size)⟩
  have HD : Hid (∀ W, Below w.heap.size w W → Calls Tryd.prog 16 #[.string s] W fun e w' => ∃ p er, e = .returned (.tuple #[.pointer p, .int .i64 er]) ∧ ((∃ n k r, IsF s n k r) ∧ er = 0 ∨ (∀ n k r, ¬ IsF s n k r) ∧ er = 4) ∧ Below w.heap.size w w') := fun W hW => by
    refine (dec_any14 s W (hm.below hW) (by unfold maxLen; omega)).mono ?_
    rintro e w' (⟨n, k, r, f, g, h1, h2⟩ | ⟨h1, h2, h3⟩)
    · exact ⟨_, _, h2.res, .inl ⟨⟨n, k, r, h1⟩, rfl⟩, hW.trans (h2.bel.mono hW.size)⟩
    · exact ⟨_, _, h2, .inr ⟨h1, rfl⟩, hW.trans (h3.mono hW.size)⟩
  obtain ⟨N, hN⟩ : ∃ N, bnm s = N := ⟨_, rfl⟩
  rw [hN] at HN
  clear hA hm
  cases hb : nmB nm with
  | false =>
    rw [hb] at HI
    have HR : Hid (CkR nm s 10) := .inl ⟨hb, rfl⟩
    clear hb hN
    go_enter Tryd.func28, Tryd.ntmps28
    go_wp2_with fail
    refine HI.out.mono ?_
    rintro e w1 ⟨rfl, b1⟩
    go_wp2
    go_ret
    exact ⟨10, rfl, HR.out, b1⟩
  | true =>
    rw [hb] at HI
    by_cases he : nm = N
    · have HR : Hid (∀ er, ((∃ n k r, IsF s n k r) ∧ er = 0 ∨ (∀ n k r, ¬ IsF s n k r) ∧ er = 4) → CkR nm s er) := fun er h => .inr (.inr ⟨hb, by rw [hN]; exact he, h⟩)
      subst he
      clear hb hN
      go_enter Tryd.func28, Tryd.ntmps28
      go_wp2_with fail
      refine HI.out.mono ?_
      rintro e w1 ⟨rfl, b1⟩
      go_wp2_with fail
      refine (HN.out _ b1).mono ?_
      rintro e w2 ⟨rfl, b2⟩
      go_wp2_with fail
      refine (HD.out _ b2).mono ?_
      rintro e w3 ⟨p, er, rfl, h3, b3⟩
      have H3 : Hid (CkR nm s er) := HR.out er h3
      clear h3
      go_wp2
      go_ret
      exact ⟨er, rfl, H3.out, b3⟩
    · have HR : Hid (CkR nm s 9) := .inr (.inl ⟨hb, by rw [hN]; exact he, rfl⟩)
      have hne := str_neQ he
      clear hb hN he
      go_enter Tryd.func28, Tryd.ntmps28
      go_wp2_with fail
      refine HI.out.mono ?_
      rintro e w1 ⟨rfl, b1⟩
      go_wp2_with fail
      refine (HN.out _ b1).mono ?_
      rintro e w2 ⟨rfl, b2⟩
      go_wp2
      go_ret
      exact ⟨9, rfl, HR.out, b2⟩
end Go.Proofs.YtplfjfhpdfbpeaaDoor
/- The form of a filter's file name: cut from both ends, or letter by letter. -/
namespace Go.Proofs.YtplfjfhpdfbpeaaDoor
open Go.RowKit
set_option linter.unusedSimpArgs false
set_option linter.unusedVariables false
theorem bl_exQ (s : ByteArray) (i j : Nat) : bl (s.extract i j) = ((bl s).drop i).take (j - i) := by
  unfold bl
  rw [ByteArray.data_extract, Array.toList_extract]
/-- Digits alone, an even number of them. -/
theorem unhexL_some : ∀ (n : Nat) (l : List UInt8), l.length ≤ n → ((unhexL l).isSome = true ↔ l.length % 2 = 0 ∧ ∀ c ∈ l, (dvl c.toNat).isSome = true)
  | _, [], _ => by simp [unhexL]
  | _, [a], _ => by simp [unhexL]
  | 0, a :: b :: r, h => by simp at h
  | 1, a :: b :: r, h => by simp at h
  | n + 2, a :: b :: r, h => by
    have ih := unhexL_some n r (by simp at h; omega)
    have e : (a :: b :: r).length % 2 = r.length % 2 := by simp only [List.length_cons]; omega
    rw [e, unhexL]
    cases ha : dvl a.toNat with
    | none => simp [ha]
    | some x =>
      cases hb : dvl b.toNat with
      | none => simp [ha, hb]
      | some y =>
        cases hr : unhexL r with
        | none =>
          rw [hr] at ih
          simp only [Option.isSome_none, Bool.false_eq_true, false_iff, not_and] at ih ⊢
          intro h1 h2
          exact ih h1 (fun c hc => h2 c (by simp [hc]))
        | some m =>
          rw [hr] at ih
          simp only [Option.isSome_some, true_iff] at ih ⊢
          refine ⟨ih.1, fun c hc => ?_⟩
          rcases List.mem_cons.1 hc with rfl | hc
          · rw [ha]; rfl
          · rcases List.mem_cons.1 hc with rfl | hc
            · rw [hb]; rfl
            · exact ih.2 c hc
/-- A name of the form, letter by letter. -/
structure NmS (s : ByteArray) : Prop where
  len : s.size = 73
  front : s.extract 0 6 = nmF
  back : s.extract 70 73 = nmE
  mid : ∀ c ∈ bl (s.extract 6 70), (dvl c.toNat).isSome = true
theorem nmF_size : nmF.size = 6 := rfl
theorem nmE_size : nmE.size = 3 := rfl
theorem nmB_iff (s : ByteArray) : nmB s = true ↔ NmS s := by
  have hl : (bl s).length = s.size := bl_length s
  constructor
  · intro h
    rw [nmB, Bool.and_eq_true, Bool.and_eq_true, decide_eq_true_eq] at h
    obtain ⟨⟨h1, h2⟩, h3⟩ := h
    have f1 : 6 ≤ s.size ∧ s.extract 0 6 = nmF := by
      rw [pfQ, Bool.and_eq_true, decide_eq_true_eq, beq_iff_eq] at h1
      exact ⟨h1.1, bl_inj h1.2⟩
    have eR : cpQ s nmF = s.extract 6 s.size := by rw [cpQ, if_pos h1]; rfl
    have zR : (s.extract 6 s.size).size = s.size - 6 := by rw [ByteArray.size_extract]; omega
    have f2 : 3 ≤ s.size - 6 ∧ (s.extract 6 s.size).extract (s.size - 6 - 3) (s.size - 6) = nmE := by
      have := h2
      rw [eR, sfQ, Bool.and_eq_true, decide_eq_true_eq, beq_iff_eq, zR] at this
      exact ⟨this.1, bl_inj this.2⟩
    have eD : nmD s = (s.extract 6 s.size).extract 0 (s.size - 6 - 3) := by rw [nmD, csQ, if_pos h2, eR, zR]; rfl
    have zD : (nmD s).size = s.size - 9 := by rw [eD, ByteArray.size_extract, zR]; omega
    have f3 : (nmD s).size = 64 ∧ uhE (nmD s) = 0 := by
      rw [prEQ] at h3
      by_cases h : (nmD s).size = 64
      · rw [if_pos h] at h3; exact ⟨h, h3⟩
      · rw [if_neg h] at h3; omega
    have h73 : s.size = 73 := by omega
    refine ⟨h73, f1.2, ?_, ?_⟩
    · rw [← f2.2, h73]
      apply bl_inj
      rw [bl_exQ, bl_exQ, bl_exQ, List.drop_take, List.drop_drop]
      simp only [List.take_take]
      rfl
    · have e1 : nmD s = s.extract 6 70 := by
        rw [eD, h73]
        apply bl_inj
        rw [bl_exQ, bl_exQ, bl_exQ, List.drop_zero, List.take_take]
        rfl
      rw [e1] at f3
      have : (unhexL (bl (s.extract 6 70))).isSome = true := by
        have := f3.2
        rw [uhE] at this
        by_cases h : (unhexL (bl (s.extract 6 70))).isSome = true
        · exact h
        · rw [if_neg h] at this; omega
      exact ((unhexL_some _ _ (Nat.le_refl _)).1 this).2
  · rintro ⟨h73, hf, hb, hm⟩
    have h1 : pfQ s nmF = true := by
      rw [pfQ, Bool.and_eq_true, decide_eq_true_eq, beq_iff_eq, nmF_size]
      exact ⟨by omega, by rw [hf]⟩
    have eR : cpQ s nmF = s.extract 6 s.size := by rw [cpQ, if_pos h1]; rfl
    have zR : (s.extract 6 s.size).size = s.size - 6 := by rw [ByteArray.size_extract]; omega
    have h2 : sfQ (cpQ s nmF) nmE = true := by
      rw [eR, sfQ, Bool.and_eq_true, decide_eq_true_eq, beq_iff_eq, zR, nmE_size]
      refine ⟨by omega, ?_⟩
      rw [← hb, h73, bl_exQ, bl_exQ, bl_exQ, List.drop_take, List.drop_drop]
      simp only [List.take_take]
      rfl
    have e1 : nmD s = s.extract 6 70 := by
      rw [nmD, csQ, if_pos h2, eR, zR, h73]
      apply bl_inj
      rw [bl_exQ, bl_exQ, bl_exQ, nmE_size, List.drop_zero, List.take_take]
      rfl
    have z : (s.extract 6 70).size = 64 := by rw [ByteArray.size_extract, h73]; rfl
    rw [nmB, h1, h2, Bool.and_true, Bool.true_and, decide_eq_true_eq, prEQ, e1, if_pos z, uhE, if_pos]
    exact (unhexL_some _ _ (Nat.le_refl _)).2 ⟨by rw [bl_length, z], hm⟩
theorem nmB_not {s : ByteArray} (h : ¬ NmS s) : nmB s = false := by
  rw [Bool.eq_false_iff]
  exact fun e => h ((nmB_iff s).1 e)
end Go.Proofs.YtplfjfhpdfbpeaaDoor
/- The document's filter in memory (its places as the bits of a row of bytes). -/
namespace Go.Proofs.YtplfjfhpdfbpeaaDoor
open Go.RowKit
set_option linter.unusedSimpArgs false
set_option linter.unusedVariables false
/-- So many truths, as cells. -/
def bbF (n : Nat) (p : Nat → Bool) : Array Value := ((List.range n).map fun j => Value.bool (p j)).toArray
theorem bbF_size (n : Nat) (p : Nat → Bool) : (bbF n p).size = n := by simp [bbF]
theorem bbF_get (n : Nat) (p : Nat → Bool) (j : Nat) (hj : j < n) : (bbF n p)[j]? = some (.bool (p j)) := by simp [bbF, hj]
theorem bbF_congr {n : Nat} {p q : Nat → Bool} (h : ∀ j, j < n → p j = q j) : bbF n p = bbF n q := by
  unfold bbF
  congr 1
  apply List.map_congr_left
  intro j hj
  rw [h j (List.mem_range.1 hj)]
theorem bbF_set (n : Nat) (p : Nat → Bool) (i : Nat) (b : Bool) (hi : i < n) : (bbF n p).setIfInBounds i (.bool b) = bbF n (fun j => if j = i then b else p j) := by
  apply Array.ext_getElem?
  intro j
  rw [Array.getElem?_setIfInBounds, bbF_size]
  by_cases e : i = j
  · subst e
    rw [if_pos rfl, if_pos hi, bbF_get _ _ _ hi, if_pos rfl]
  · rw [if_neg e]
    by_cases hj : j < n
    · rw [bbF_get _ _ _ hj, bbF_get _ _ _ hj, if_neg (fun h => e h.symm)]
    · rw [Array.getElem?_eq_none (by rw [bbF_size]; omega), Array.getElem?_eq_none (by rw [bbF_size]; omega)]
/-- The document's filter: its size, which places are set; the block f is its own, g has the places. -/
structure RfP (w : World) (f g n k : Nat) (p : Nat → Bool) : Prop where
  ok : okF n k
  top : ∃ c, Bk w f #[.int .i64 (n : Int), .int .i64 (k : Int), .slice (some ⟨g, 0, none⟩) n c] 51 ∧ n ≤ c
  row : Bk w g (bbF n p) 4
theorem RfP.lt {w : World} {f g n k : Nat} {p : Nat → Bool} (h : RfP w f g n k p) : f < w.heap.size := by
  obtain ⟨c, h, _⟩ := h.top
  exact h.lt
theorem bk_type {w : World} {f : Nat} {C D : Array Value} {S T : TypeId} (h1 : Bk w f C S) (h2 : Bk w f D T) : S = T := by
  unfold Bk at h1 h2
  rw [h1] at h2
  injection h2 with h2
  injection h2 with _ h2 _
theorem RfP.ne {w : World} {f g n k : Nat} {p : Nat → Bool} (h : RfP w f g n k p) : f ≠ g := by
  rintro rfl
  obtain ⟨c, h1, _⟩ := h.top
  exact absurd (bk_type h1 h.row) (by decide)
theorem RfP.grown {w w' : World} {f g n k : Nat} {p : Nat → Bool} {r : Option Nat} (h : RfP w f g n k p) (hg : w.grownBy w' r) (h1 : r ≠ some f) (h2 : r ≠ some g) : RfP w' f g n k p := by
  obtain ⟨c, ht, hc⟩ := h.top
  exact ⟨h.ok, ⟨c, ht.grown hg h1, hc⟩, h.row.grown hg h2⟩
theorem RfP.below {w w' : World} {f g n k : Nat} {p : Nat → Bool} (h : RfP w f g n k p) (hb : Below w.heap.size w w') : RfP w' f g n k p := h.grown (gr_of_below hb none) (by simp) (by simp)
theorem RfP.congr {w : World} {f g n k : Nat} {p q : Nat → Bool} (h : RfP w f g n k p) (e : ∀ j, j < n → p j = q j) : RfP w f g n k q := ⟨h.ok, h.top, by rw [← bbF_congr e]; exact h.row⟩
theorem RfP.set {w : World} {f g n k : Nat} {p : Nat → Bool} (h : RfP w f g n k p) (i : Nat) (b : Bool) (hi : i < n) : RfP (w.setCell ⟨g, i, none⟩ (.bool b)) f g n k (fun j => if j = i then b else p j) ∧ w.grownBy (w.setCell ⟨g, i, none⟩ (.bool b)) (some g) := by
  have hg := Lib.grownBy_setB (World.grownBy.refl w (some g)) i (.bool b)
  obtain ⟨c, ht, hc⟩ := h.top
  refine ⟨⟨h.ok, ⟨c, ht.grown hg (by have := h.ne; simp; omega), hc⟩, ?_⟩, hg⟩
  rw [← bbF_set n p i b hi]
  exact h.row.set i _
theorem RfP.cell {w : World} {f g n k : Nat} {p : Nat → Bool} (h : RfP w f g n k p) (j : Nat) (hj : j < n) : w.cell? ⟨g, j, none⟩ = some (.bool (p j)) := by rw [h.row.cell, bbF_get _ _ _ hj]
theorem RfP.cells {w : World} {f g n k : Nat} {p : Nat → Bool} (h : RfP w f g n k p) : w.cell? ⟨f, 0, none⟩ = some (.int .i64 (n : Int)) ∧ w.cell? ⟨f, 1, none⟩ = some (.int .i64 (k : Int)) ∧ ∃ c, w.cell? ⟨f, 2, none⟩ = some (.slice (some ⟨g, 0, none⟩) n c) ∧ n ≤ c := by
  obtain ⟨c, ht, hc⟩ := h.top
  exact ⟨by rw [ht.cell]; rfl, by rw [ht.cell]; rfl, c, by rw [ht.cell]; rfl, hc⟩
theorem RfP.pos {w : World} {f g n k : Nat} {p : Nat → Bool} (h : RfP w f g n k p) : 0 < n := by have := okF_pos h.ok; omega
/-- The same with the places as the bits of a row. -/
abbrev RfS (w : World) (f g n k : Nat) (s : List UInt8) : Prop := RfP w f g n k (btR s)
/-- How large a filter is for so many names: doubled until it is enough. -/
def dbF : Nat → Nat → Nat → Nat
  | 0, _, b => b
  | k + 1, m, b => if b < m then dbF k m (2 * b) else b
def fitN (n : Nat) : Nat := dbF 20 (10 * n) 64
theorem okF_not {m h j : Nat} (hj : j ≤ 18) (hb : ∀ i, i < j → 64 * 2 ^ i < m) (he : ¬ (64 * 2 ^ j < m ∧ j < 18)) (hne : 64 * 2 ^ j ≠ m) : ¬ okF m h := by
  rintro ⟨⟨e, he1, rfl⟩, _⟩
  rcases Nat.lt_or_ge e j with h1 | h1
  · have := hb e h1; omega
  · by_cases h2 : e = j
    · subst h2; exact hne rfl
    · have h3 : 2 ^ j < 2 ^ e := Nat.pow_lt_pow_right (by omega) (by omega)
      exact he ⟨by omega, by omega⟩
end Go.Proofs.YtplfjfhpdfbpeaaDoor
/- bloom.Fit; the document's Size, New, Fit, Ones. -/
namespace Go.Proofs.YtplfjfhpdfbpeaaDoor
open Go.RowKit
set_option linter.unusedSimpArgs false
set_option linter.unusedVariables false
/-- A size on its way. -/
structure Dbl (m b k r : Nat) : Prop where
  pr : b * 2 ^ k = 67108864
  val : dbF k m b = r
theorem Dbl.le {m b k r : Nat} (h : Dbl m b k r) : b ≤ 67108864 := by
  have := h.pr
  have h2 : 1 ≤ 2 ^ k := Nat.one_le_two_pow
  have h3 : b * 1 ≤ b * 2 ^ k := Nat.mul_le_mul_left b h2
  omega
theorem Dbl.next {m b k r : Nat} (h : Dbl m b k r) (hlt : b < m) (hm : m ≤ 10485760) : ∃ k', Dbl m (2 * b) k' r := by
  cases k with
  | zero => have := h.pr; simp at this; omega
  | succ k =>
    refine ⟨k, ?_, ?_⟩
    · rw [← h.pr, Nat.pow_succ]; simp [Nat.mul_comm, Nat.mul_left_comm, Nat.mul_assoc]
    · have := h.val
      rw [dbF, if_pos hlt] at this
      exact this
theorem Dbl.done {m b k r : Nat} (h : Dbl m b k r) (hge : ¬ b < m) : b = r := by
  have := h.val
  cases k with
  | zero => exact this
  | succ k => rw [dbF, if_neg hge] at this; exact this
theorem dbl_zero (n : Nat) : Dbl (10 * n) 64 20 (fitN n) := ⟨rfl, rfl⟩
set_option maxHeartbeats 1000000 in
theorem fit_any14 (n : Nat) (hn : n ≤ 1048576) (w : World) : Calls Tryd.prog 25 #[.int .i64 (n : Int)] w fun e w' => e = .returned (.tuple #[.int .i64 (fitN n : Int), .int .i64 7, .int .i64 0]) ∧ w' = w := by
  obtain ⟨r, hr⟩ : ∃ r, fitN n = r := ⟨_, rfl⟩
  have HD : Hid (Dbl (10 * n) 64 20 r) := by rw [← hr]; exact dbl_zero n
  rw [hr]
  clear hr
  go_enter Tryd.func25, Tryd.ntmps25
  go_wp2
  go_loopw [2] (fun v wr => ∃ b k : Nat, v = .int .i64 b ∧ 64 ≤ b ∧ Hid (Dbl (10 * n) b k r) ∧ wr = w) (fun v _ => 134217728 - (intOf v).toNat)
  case atStart => exact ⟨64, 20, rfl, Nat.le_refl _, HD.out, rfl⟩
  case round =>
    clear HD
    obtain ⟨b, k, rfl, hb, HD, rfl⟩ := hrel
    have hbl := HD.out.le
    by_cases hlt : b < 10 * n
    · obtain ⟨k', hk'⟩ := HD.out.next hlt (by omega)
      have HN : Hid (Dbl (10 * n) (2 * b) k' r) := hk'
      clear hk' HD
      go_wp2
      go_roundw
      case rel => exact ⟨2 * b, k', by go_num, by omega, HN.out, trivial⟩
      case measure => simp [intOf]; omega
    · have HE : Hid (b = r) := HD.out.done hlt
      go_wp2
      go_ret3
      exact ⟨by rw [HE.out]; rfl, rfl⟩
set_option maxHeartbeats 1000000 in
theorem rfit_any14 (n : Nat) (hn : n ≤ 1048576) (w : World) : Calls Tryd.prog 24 #[.int .i64 (n : Int)] w fun e w' => e = .returned (.tuple #[.int .i64 (fitN n : Int), .int .i64 7, .int .i64 0]) ∧ w' = w := by
  obtain ⟨r, hr⟩ : ∃ r, fitN n = r := ⟨_, rfl⟩
  have HD : Hid (Dbl (10 * n) 64 20 r) := by rw [← hr]; exact dbl_zero n
  rw [hr]
  clear hr
  go_enter Tryd.func24, Tryd.ntmps24
  go_wp2
  go_loopw [5] (fun v wr => ∃ b k : Nat, v = .int .i64 b ∧ 64 ≤ b ∧ Hid (Dbl (10 * n) b k r) ∧ wr = w) (fun v _ => 134217728 - (intOf v).toNat)
  case atStart => exact ⟨64, 20, rfl, Nat.le_refl _, HD.out, rfl⟩
  case round =>
    clear HD
    obtain ⟨b, k, rfl, hb, HD, rfl⟩ := hrel
    have hbl := HD.out.le
    by_cases hlt : b < 10 * n
    · obtain ⟨k', hk'⟩ := HD.out.next hlt (by omega)
      have HN : Hid (Dbl (10 * n) (2 * b) k' r) := hk'
      clear hk' HD
      go_wp2
      go_roundw
      case rel => exact ⟨2 * b, k', by go_num, by omega, HN.out, trivial⟩
      case measure => simp [intOf]; omega
    · have HE : Hid (b = r) := HD.out.done hlt
      go_wp2
      go_ret3
      exact ⟨by rw [HE.out]; rfl, rfl⟩
theorem fit_no14 (x : Int) (hx : x < 0 ∨ 1048576 < x) (w : World) : Calls Tryd.prog 25 #[.int .i64 x] w fun e w' => e = .returned (.tuple #[.int .i64 0, .int .i64 0, .int .i64 1]) ∧ w' = w := by
  rcases hx with h | h
  · go_enter Tryd.func25, Tryd.ntmps25
    go_wp2
    go_ret3
    exact ⟨rfl, rfl⟩
  · have h2 : ¬ x < 0 := by omega
    go_enter Tryd.func25, Tryd.ntmps25
    go_wp2
    go_ret3
    exact ⟨rfl, rfl⟩
theorem rfit_no14 (x : Int) (hx : x < 0 ∨ 1048576 < x) (w : World) : Calls Tryd.prog 24 #[.int .i64 x] w fun e w' => e = .returned (.tuple #[.int .i64 0, .int .i64 0, .int .i64 1]) ∧ w' = w := by
  rcases hx with h | h
  · go_enter Tryd.func24, Tryd.ntmps24
    go_wp2
    go_ret3
    exact ⟨rfl, rfl⟩
  · have h2 : ¬ x < 0 := by omega
    go_enter Tryd.func24, Tryd.ntmps24
    go_wp2
    go_ret3
    exact ⟨rfl, rfl⟩
/-- Whether a filter may have that size. -/
def SzB (x y : Int) (b : Bool) : Prop := b = true ↔ ∃ n k : Nat, x = n ∧ y = k ∧ okF n k
theorem szB_no {x y : Int} {m j : Nat} (hj : j ≤ 18) (hm : 64 * 2 ^ j = m) (hb : ∀ i, i < j → ((64 * 2 ^ i : Nat) : Int) < x) (he : ¬ ((m : Int) < x ∧ j < 18)) (hne : (m : Int) ≠ x) : SzB x y false := by
  refine ⟨fun h => (by cases h), ?_⟩
  rintro ⟨n, k, rfl, rfl, h⟩
  exact absurd h (okF_not (j := j) hj (fun i hi => by have := hb i hi; omega) (by rw [hm]; omega) (by rw [hm]; omega))
theorem szB_out {x y : Int} (h : y < 1 ∨ 8 < y) : SzB x y false := by
  refine ⟨fun h => (by cases h), ?_⟩
  rintro ⟨n, k, rfl, rfl, _, h1, h2⟩
  omega
theorem szB_yes {x y : Int} {m j : Nat} (hj : j ≤ 18) (hm : 64 * 2 ^ j = m) (hx : (m : Int) = x) (h1 : 1 ≤ y) (h2 : y ≤ 8) : SzB x y true :=
  ⟨fun _ => ⟨m, y.toNat, hx.symm, by omega, ⟨⟨j, hj, hm.symm⟩, by omega, by omega⟩⟩, fun _ => rfl⟩
/-- What Size answers. -/
def SzE (x y : Int) (e : Ending) : Prop := ∃ b : Bool, e = .returned (.bool b) ∧ SzB x y b
theorem SzE.mk {x y : Int} {e : Ending} (b : Bool) (h1 : e = .returned (.bool b)) (h2 : SzB x y b) : SzE x y e := ⟨b, h1, h2⟩
set_option maxHeartbeats 1000000 in
theorem rsize_any (x y : Int) (w : World) : Calls Tryd.prog 33 #[.int .i64 x, .int .i64 y] w fun e w' => SzE x y e ∧ w' = w := by
  go_enter Tryd.func33, Tryd.ntmps33
  go_wp2
  go_loopw [5] (fun v wr => ∃ m j : Nat, v = .int .i64 m ∧ 64 ≤ m ∧ m ≤ 16777216 ∧ Hid (j ≤ 18 ∧ 64 * 2 ^ j = m ∧ ∀ i, i < j → ((64 * 2 ^ i : Nat) : Int) < x) ∧ wr = w) (fun v _ => 134217728 - (intOf v).toNat)
  case atStart => exact ⟨64, 0, rfl, by omega, by omega, ⟨by omega, rfl, fun i hi => by omega⟩, rfl⟩
  case round =>
    obtain ⟨m, j, rfl, hm1, hm2, HJ, rfl⟩ := hrel
    by_cases h1 : (m : Int) < x
    · by_cases h2 : m < 16777216
      · have h2z : (m : Int) < 16777216 := by omega
        have hj : j < 18 := by
          obtain ⟨a, b, _⟩ := HJ.out
          rcases Nat.lt_or_ge j 18 with h | h
          · exact h
          · have : j = 18 := by omega
            subst this; omega
        have HN : Hid (j + 1 ≤ 18 ∧ 64 * 2 ^ (j + 1) = 2 * m ∧ ∀ i, i < j + 1 → ((64 * 2 ^ i : Nat) : Int) < x) := by
          obtain ⟨a, b, c⟩ := HJ.out
          refine ⟨by omega, by rw [Nat.pow_succ]; omega, fun i hi => ?_⟩
          by_cases e : i = j
          · subst e; rw [b]; exact h1
          · exact c i (by omega)
        have hm3 : m ≤ 8388608 := by
          obtain ⟨a, b, _⟩ := HJ.out
          have := Nat.pow_le_pow_right (n := 2) (by omega) (show j ≤ 17 by omega)
          omega
        clear HJ hj
        go_wp2
        go_roundw
        case rel => exact ⟨2 * m, j + 1, by go_num, by omega, by omega, HN.out, trivial⟩
        case measure => simp [intOf]; omega
      · have h2z : ¬ (m : Int) < 16777216 := by omega
        have hne : ((m : Int) == x) = false := by rw [beq_eq_false_iff_ne]; omega
        have HE : Hid (SzB x y false) := by
          obtain ⟨a, b, c⟩ := HJ.out
          refine szB_no a b c ?_ (by omega)
          rintro ⟨_, hc⟩
          have := Nat.pow_lt_pow_right (a := 2) (by omega) hc
          omega
        go_wp2
        go_ret
        exact ⟨SzE.mk _ rfl HE.out, rfl⟩
    · by_cases h2 : (m : Int) = x
      · have he : ((m : Int) == x) = true := by rw [beq_iff_eq]; exact h2
        by_cases h3 : 1 ≤ y
        · by_cases h4 : y ≤ 8
          · have HE : Hid (SzB x y true) := szB_yes HJ.out.1 HJ.out.2.1 h2 h3 h4
            clear h2
            go_wp2
            go_ret
            exact ⟨SzE.mk _ rfl HE.out, rfl⟩
          · have HE : Hid (SzB x y false) := szB_out (by omega)
            clear h2
            go_wp2
            go_ret
            exact ⟨SzE.mk _ rfl HE.out, rfl⟩
        · have HE : Hid (SzB x y false) := szB_out (by omega)
          clear h2
          go_wp2
          go_ret
          exact ⟨SzE.mk _ rfl HE.out, rfl⟩
      · have he : ((m : Int) == x) = false := by rw [beq_eq_false_iff_ne]; exact h2
        have HE : Hid (SzB x y false) := szB_no HJ.out.1 HJ.out.2.1 HJ.out.2.2 (by omega) h2
        go_wp2
        go_ret
        exact ⟨SzE.mk _ rfl HE.out, rfl⟩
theorem info_bo : (Tryd.prog.info? 4).map (fun i => (i.zero, i.size, i.bytes)) = some (some (.bool false), 1, 1) := by kernel_rfl
theorem made_bo (n : Nat) : madeCells #[Value.bool false] n = bbF n (fun _ => false) := by
  apply Array.ext_getElem?
  intro i
  simp only [madeCells]
  by_cases hi : i < n
  · rw [bbF_get _ _ _ hi]; simp [hi, Nat.mod_one]
  · rw [Array.getElem?_eq_none (by simp; omega), Array.getElem?_eq_none (by rw [bbF_size]; omega)]
theorem make_bo (n : Nat) (hn : n ≤ 281474976710656) (u : World) : (Instr.makeSlice 49 (.int .i64 n) (.int .i64 n)).run Tryd.prog u =
    .ok (.slice (some ⟨u.heap.size, 0, none⟩) n n) (u.alloc (.cells (bbF n (fun _ => false)) 4)) := by
  obtain ⟨i0, hi, hz0, hz1, hz2⟩ := info_parts info_bo
  have h := run_make (P := Tryd.prog) u 49 4 i0 (.bool false) Tryd.underlying49 hi hz0 .i64 .i64 (n : Int) (n : Int) (by omega) (Int.le_refl _) (by rw [hz2]; omega) (by omega)
  rw [Int.toNat_natCast] at h
  rw [← made_bo]
  simpa [hz1, Value.cells] using h
theorem rfs_new (n k : Nat) (w : World) (h : okF n k) : RfS ((w.alloc (.cells (bbF n (fun _ => false)) 4)).alloc (.cells #[.int .i64 (n : Int), .int .i64 (k : Int), .slice (some ⟨w.heap.size, 0, none⟩) n n] 51)) (w.heap.size + 1) w.heap.size n k (zrR (n / 8)) := by
  refine ⟨h, ⟨n, ?_, Nat.le_refl _⟩, ?_⟩
  · have := bk_new (w.alloc (.cells (bbF n (fun _ => false)) 4)) #[.int .i64 (n : Int), .int .i64 (k : Int), .slice (some ⟨w.heap.size, 0, none⟩) n n] 51
    rw [al_size] at this
    exact this
  · rw [← bbF_congr (p := fun _ => false) (fun j _ => (btR_zr (n / 8) j).symm)]
    exact (bk_new _ _ _).alloc _
/-- The document's filter, made in the call. -/
structure NwR (w : World) (e : Ending) (w' : World) (f g n k : Nat) (s : List UInt8) : Prop where
  res : e = .returned (.tuple #[.pointer (some ⟨f, 0, none⟩), .int .i64 0])
  fil : RfS w' f g n k s
  bel : Below w.heap.size w w'
  lf : w.heap.size ≤ f
  lg : w.heap.size ≤ g
set_option maxHeartbeats 1000000 in
set_option maxRecDepth 100000 in
theorem rnew_yes14 (n k : Nat) (w : World) (h : okF n k) : Calls Tryd.prog 9 #[.int .i64 (n : Int), .int .i64 (k : Int)] w fun e w' => ∃ f g, NwR w e w' f g n k (zrR (n / 8)) := by
  have HS : Hid (∀ u, Calls Tryd.prog 33 #[.int .i64 (n : Int), .int .i64 (k : Int)] u fun e w' => e = .returned (.bool true) ∧ w' = u) := fun u => (rsize_any n k u).mono fun e w' ⟨⟨b, h1, h3⟩, h2⟩ => ⟨by rw [h1, h3.2 ⟨n, k, rfl, rfl, h⟩], h2⟩
  have h2 := okF_le h
  have h1 := okF_pos h
  have HF : Hid _ := rfs_new n k w h
  have hmk := make_bo n (by omega)
  clear h
  go_enter Tryd.func9, Tryd.ntmps9
  go_wp2_with fail
  refine (HS.out _).mono ?_
  rintro e w1 ⟨rfl, hw⟩
  subst hw
  go_wp2
  go_ret2
  exact ⟨_, _, rfl, HF.out, ((Below.refl _ _).alloc (Nat.le_refl _) _).alloc (by simp) _, by omega, Nat.le_refl _⟩
theorem rnew_no14 (x y : Int) (w : World) (h : ∀ n k : Nat, x = n → y = k → ¬ okF n k) :
    Calls Tryd.prog 9 #[.int .i64 x, .int .i64 y] w fun e w' => e = .returned (.tuple #[.pointer none, .int .i64 1]) ∧ w' = w := by
  have HS : Hid (∀ u, Calls Tryd.prog 33 #[.int .i64 x, .int .i64 y] u fun e w' => e = .returned (.bool false) ∧ w' = u) := fun u => (rsize_any x y u).mono fun e w' ⟨⟨b, h1, h3⟩, h2⟩ => by
    refine ⟨?_, h2⟩
    cases b with
    | false => exact h1
    | true => obtain ⟨n, k, a, b, c⟩ := h3.1 rfl; exact absurd c (h n k a b)
  clear h
  go_enter Tryd.func9, Tryd.ntmps9
  go_wp2_with fail
  refine (HS.out _).mono ?_
  rintro e w1 ⟨rfl, hw⟩
  subst hw
  go_wp2
  go_ret2
  exact ⟨rfl, rfl⟩
end Go.Proofs.YtplfjfhpdfbpeaaDoor
/- The document's Places. -/
namespace Go.Proofs.YtplfjfhpdfbpeaaDoor
open Go.RowKit
set_option linter.unusedSimpArgs false
set_option linter.unusedVariables false
theorem inf_i14 : (Tryd.prog.info? 3).map (fun i => (i.zero, i.size, i.bytes)) = some (some (.int .i64 0), 1, 8) := by kernel_rfl
/-- Numbers as cells. -/
def ivN (l : List Nat) : List Value := l.map fun x : Nat => Value.int .i64 (x : Int)
theorem ivN_append (a b : List Nat) : ivN (a ++ b) = ivN a ++ ivN b := by simp [ivN]
/-- Numbers of a slice. -/
def NlL (w : World) (a : Option Addr) (xs : List Nat) : Prop :=
  ∀ (i x : Nat), xs[i]? = some x → ∃ g o, a = some ⟨g, o, none⟩ ∧ g < w.heap.size ∧ w.cell? ⟨g, o + i, none⟩ = some (.int .i64 (x : Int))
theorem NlL.below {w w' : World} {a : Option Addr} {xs : List Nat} (h : NlL w a xs) (hb : Below w.heap.size w w') : NlL w' a xs := by
  intro i x hx
  obtain ⟨g, o, e, hg, hc⟩ := h i x hx
  exact ⟨g, o, e, Nat.lt_of_lt_of_le hg hb.size, by rw [hb.cell (p := ⟨g, o + i, none⟩) hg]; exact hc⟩
theorem own_nl {w : World} {B : Nat} {v : Value} {xs : List Nat} {e : TypeId} (h : w.ownsRow B e 1 v xs.length (ivN xs)) : ∃ a c, v = .slice a xs.length c ∧ NlL w a xs ∧ (∀ b o s, a = some ⟨b, o, s⟩ → B ≤ b) := by
  rcases h.2 with ⟨rfl, h0⟩ | ⟨g, cap, cur, rfl, hle, hg, hn, _, hc, ht⟩
  · have : xs = [] := List.eq_nil_of_length_eq_zero h0
    subst this
    exact ⟨none, 0, rfl, fun i c hc => by simp at hc, fun b o s e => by cases e⟩
  · refine ⟨some ⟨g, 0, none⟩, cap, rfl, fun i c hi => ⟨g, 0, rfl, (Array.getElem?_eq_some_iff.1 hg).1, ?_⟩, fun b o s e => by cases e; exact hle⟩
    have hl : i < xs.length := (List.getElem?_eq_some_iff.1 hi).1
    have e := congrArg (·[i]?) ht
    rw [Nat.mul_one] at e
    simp only [List.getElem?_take, if_pos hl, ivN, List.getElem?_map, hi, Option.map_some] at e
    simp only [World.cell?, hg, Nat.zero_add]
    rw [← Array.getElem?_toList]; exact e
theorem one_i14 (n : Int) : ∀ u ∈ [Value.int .i64 n], u.oneCell' = true := by
  intro u hu
  simp at hu
  subst hu; rfl
/-- The places of a name. -/
def plL (n : Nat) (x : ByteArray) (k : Nat) : List Nat := (List.range k).map (plc n x)
theorem plL_len (n : Nat) (x : ByteArray) (k : Nat) : (plL n x k).length = k := by simp [plL]
theorem plL_succ (n : Nat) (x : ByteArray) (k : Nat) : plL n x (k + 1) = plL n x k ++ [plc n x k] := by simp [plL, List.range_succ]
theorem plL_get (n : Nat) (x : ByteArray) (k i : Nat) (hi : i < k) : (plL n x k)[i]? = some (plc n x i) := by simp [plL, hi]
/-- The number in the first bytes of four. -/
def pnK (x : ByteArray) (i : Nat) : Nat → Nat
  | 0 => 0
  | j + 1 => 256 * pnK x i j + (byl x).getD (4 * i + j) 0
theorem pnK_lt (x : ByteArray) (i : Nat) : ∀ j, pnK x i j < 256 ^ j
  | 0 => by simp [pnK]
  | j + 1 => by
    have h1 := pnK_lt x i j
    have h2 := byl_lt14 x (4 * i + j)
    rw [pnK, Nat.pow_succ]; omega
theorem pnK_four (x : ByteArray) (i : Nat) : pnK x i 4 = pnum x i := by simp only [pnK, pnum, Nat.mul_zero, Nat.zero_add, Nat.add_zero]; omega
theorem pnK_le {x : ByteArray} {i j : Nat} (h : j < 4) : pnK x i j < 16777216 := by
  have := pnK_lt x i j
  have h3 : 256 ^ j ≤ 256 ^ 3 := Nat.pow_le_pow_right (by omega) (by omega)
  omega
set_option maxHeartbeats 2000000 in
set_option maxRecDepth 100000 in
theorem rplaces_any (x : ByteArray) (n k : Nat) (w : World) (hx : x.size = 32) (ho : okF n k) :
    Calls Tryd.prog 34 #[.agg (idc x), .int .i64 (n : Int), .int .i64 (k : Int)] w fun e w' => ∃ a c, e = .returned (.slice a k c) ∧ NlL w' a (plL n x k) ∧ Below w.heap.size w w' ∧ (∀ b o s, a = some ⟨b, o, s⟩ → w.heap.size ≤ b) := by
  have HX : Hid (x.size = 32) := hx
  have h1 := okF_pos ho
  have h2 := okF_le ho
  have h3 := ho.2.2
  have HB0 : Hid (Below w.heap.size w (w.alloc (.cells (idc x) 36)) ∧ Bk (w.alloc (.cells (idc x) 36)) w.heap.size (idc x) 36) := ⟨(Below.refl _ _).alloc (Nat.le_refl _) _, bk_new _ _ _⟩
  have hsz := al_size w (.cells (idc x) 36)
  obtain ⟨D, hD⟩ : ∃ D, idc x = D := ⟨_, rfl⟩
  have HD : Hid (idc x = D) := hD
  rw [hD] at HB0 hsz ⊢
  obtain ⟨i0, hi, hz0, hz1, hz2⟩ := info_parts inf_i14
  clear hx ho hD
  go_enter Tryd.func34, Tryd.ntmps34
  go_wp2
  go_loopw [7, 8] (fun v t wr => ∃ i : Nat, i ≤ k ∧ t = .int .i64 i ∧ Hid (wr.ownsRow (w.heap.size + 1) 3 1 v i (ivN (plL n x i)) ∧ Below (w.heap.size + 1) (w.alloc (.cells D 36)) wr ∧ w.heap.size + 1 ≤ wr.heap.size)) (fun _ t _ => k - (intOf t).toNat)
  case atStart => exact ⟨0, Nat.zero_le _, rfl, World.ownsRow_nil _ _ _ _, Below.refl _ _, by rw [hsz]; exact Nat.le_refl _⟩
  case round =>
    obtain ⟨i, hik, rfl, HW⟩ := hrel
    by_cases hlt : i < k
    · have hltz : (i : Int) < (k : Int) := by omega
      go_wp2
      go_loopw [9, 10] (fun v t W => ∃ j N : Nat, j ≤ 4 ∧ t = .int .i64 j ∧ v = .int .i64 N ∧ Hid (N = pnK x i j) ∧ W = wr) (fun _ t _ => 4 - (intOf t).toNat)
      case atStart => exact ⟨0, 0, by omega, rfl, rfl, rfl, rfl⟩
      case round =>
        obtain ⟨j, N, hj, rfl, rfl, HN, rfl⟩ := hrel
        by_cases hj4 : j < 4
        · have hN : N < 16777216 := by rw [HN.out]; exact pnK_le hj4
          have HB : Hid (Bk wr w.heap.size (idc x) 36) := by rw [HD.out]; exact HB0.out.2.below HW.out.2.1 (by omega)
          have hc := idc_cell HB.out HX.out (4 * i + j) (by omega)
          have hb8 := byl_lt14 x (4 * i + j)
          have HN2 : Hid (256 * N + (byl x).getD (4 * i + j) 0 = pnK x i (j + 1)) := by show _ = _; rw [pnK, HN.out]
          obtain ⟨B, hB⟩ : ∃ B, (byl x).getD (4 * i + j) 0 = B := ⟨_, rfl⟩
          rw [hB] at hc hb8 HN2
          clear hB HB
          go_wp2
          go_roundw
          case rel => exact ⟨j + 1, 256 * N + B, by omega, by go_num, by go_num, HN2.out, trivial⟩
          case measure => simp [intOf]; omega
        · have HN2 : Hid (N % n = plc n x i) := by
            have e : j = 4 := by omega
            subst e
            show _ = _
            rw [HN.out, pnK_four]; rfl
          obtain ⟨Q, hQ⟩ : ∃ Q, N % n = Q := ⟨_, rfl⟩
          rw [hQ] at HN2
          have hqz : (N : Int) % (n : Int) = (Q : Int) := by rw [← hQ]; exact (Int.natCast_emod _ _).symm
          have hqt : (N : Int).tmod (n : Int) = (Q : Int) := by rw [Int.tmod_eq_emod_of_nonneg (by omega)]; exact hqz
          have hQn : Q < n := by rw [← hQ]; exact Nat.mod_lt _ (by omega)
          have hn0 : ((n : Int) == 0) = false := by rw [beq_eq_false_iff_ne]; omega
          have hzr := HW.out.2.2
          clear hQ
          have HC1 : Hid (∀ (j : Nat) (u : Value), [Value.int .i64 (Q : Int)][j]? = some u → (wr.alloc (.cells #[Value.int .i64 (Q : Int)] 3)).cell? ((⟨wr.heap.size, 0, none⟩ : Addr).add j) = some u) := news_one _ _ _
          go_wp2_with (at_builtin; refine wpList_append_own _ rfl _ _ 27 rfl (w.heap.size + 1) 3 i0 (.int .i64 0) 1 8 Tryd.underlying27 hi hz0 hz1 hz2 rfl (by decide) _ _ _ rfl (HW.out.1.alloc _) ⟨wr.heap.size, 0, none⟩ 1 1 [.int .i64 (Q : Int)] rfl rfl HC1.out (one_i14 _) (by unfold maxLen; omega) (by omega) (by simp; omega) ?_)
          intro v' w7 hown1 hgrow _
          have HO7 : Hid (w7.ownsRow (w.heap.size + 1) 3 1 v' (i + 1) (ivN (plL n x (i + 1))) ∧ Below (w.heap.size + 1) (w.alloc (.cells D 36)) w7 ∧ w.heap.size + 1 ≤ w7.heap.size) := by
            have hb := apn_bel HW.out.2.1 hzr HW.out.1 hgrow
            refine ⟨?_, hb, by have := hb.size; rw [hsz] at this; exact this⟩
            rw [plL_succ, ivN_append, ← HN2.out]; exact hown1
          clear hown1 hgrow HC1 HW
          go_wp2
          go_roundw
          case rel => exact ⟨i + 1, by omega, by go_num, HO7.out⟩
          case measure => simp [intOf]; omega
    · obtain rfl : i = k := by omega
      obtain ⟨a, c, hv, hnl, hlo⟩ := own_nl (xs := plL n x i) (by rw [plL_len]; exact HW.out.1)
      rw [plL_len] at hv
      have HE : Hid (NlL wr a (plL n x i) ∧ (∀ b o s, a = some ⟨b, o, s⟩ → w.heap.size ≤ b) ∧ Below w.heap.size w wr) := ⟨hnl, fun b o s e => by have := hlo b o s e; omega, HB0.out.1.trans (HW.out.2.1.mono (by omega))⟩
      subst hv
      clear hnl hlo
      go_wp2
      go_ret
      exact ⟨a, c, rfl, HE.out.1, HE.out.2.2, HE.out.2.1⟩
end Go.Proofs.YtplfjfhpdfbpeaaDoor
