/- The walks of the document's First and Cut of a text. -/
import Derived.Test.YtdinhnpobdfnoaaU6
import Derived.Test.YtdinhnpobdfnoaaV3A
namespace Go.Proofs.Ytdinhnpobdfnoaa
open Go.RowKit
set_option linter.unusedSimpArgs false
set_option linter.unusedVariables false
theorem tby_front (S : ByteArray) (n : Nat) (h : n ≤ S.size) : tby (S.extract 0 n) = (tby S).take n := by
  show (S.extract 0 n).data.toList = _
  rw [ByteArray.data_extract, Array.toList_extract, List.extract_eq_take_drop, List.drop_zero, Nat.sub_zero]
theorem tby_rest (S : ByteArray) (n : Nat) : tby (S.extract n S.size) = (tby S).drop n := by
  show (S.extract n S.size).data.toList = _
  rw [ByteArray.data_extract, Array.toList_extract, List.extract_eq_take_drop]
  exact List.take_of_length_le (by rw [List.length_drop, Array.length_toList]; exact Nat.le_refl _)
/-- What the document's First tells. -/
structure FiR (p : Pl) (s : List UInt8) (q v : Nat) (wh : Bool) : Prop where
  yes : wh = true → 1 ≤ q ∧ q ≤ s.length ∧ (∀ k, 1 ≤ k → k < q → ctA p (s.take k) = none) ∧ ctA p (s.take q) = some v
  no : wh = false → q = s.length ∧ v = 0 ∧ Opn (ctA p) s
theorem FiR.fi {p : Pl} {s : List UInt8} {q v : Nat} {wh : Bool} (h : FiR p s q v wh) (hs : s ≠ []) : Fi (ctA p) s q v := by
  cases wh with
  | true => obtain ⟨h1, h2, h3, h4⟩ := h.yes rfl; exact ⟨h1, h2, h3, .inl h4⟩
  | false =>
    obtain ⟨h1, h2, h3⟩ := h.no rfl
    have hl : 1 ≤ s.length := List.length_pos_iff.2 hs
    exact ⟨by omega, by omega, fun k a b => h3 k a (by omega), .inr ⟨h1, h3 _ (by omega) (by omega), h2⟩⟩
theorem FiR.bd {p : Pl} {s : List UInt8} {q v : Nat} {wh : Bool} (h : FiR p s q v wh) : q ≤ s.length ∧ v ≤ 32 := by
  cases wh with
  | true => obtain ⟨h1, h2, h3, h4⟩ := h.yes rfl; exact ⟨h2, (ctA_lev h4).2⟩
  | false => obtain ⟨h1, h2, h3⟩ := h.no rfl; omega
theorem inf_rch : (Try.prog.info? 80).map (·.size) = some 2 := by kernel_rfl
theorem res_first {fn : Func} (h : fn.results = #[.cell 4 80, .tmp 5]) (tmps : Array Value) (w : World) (g : Nat) (a b : Value) (x : Value) (hp : tmps.getD 4 undef = .pointer (some ⟨g, 0, none⟩)) (hx : tmps.getD 5 undef = x)
    (hb : Bk w g #[a, b] 80) : (results fn tmps).run Try.prog w = .ok (.tuple #[.agg #[a, b], x]) w := by
  have c0 : w.cell? ⟨g, 0, none⟩ = some a := by rw [hb.cell]; rfl
  have c1 : w.cell? ⟨g, 1, none⟩ = some b := by rw [hb.cell]; rfl
  rw [results_cell_tmp h, hp, hx]
  simp [asAddr, go_sem, c0, c1]
set_option maxHeartbeats 2000000 in
set_option maxRecDepth 100000 in
theorem rfirst_any (p : Pl) (hp : p.ok) (s : ByteArray) (hs : s.size ≤ 1048576) (w : World) :
    Calls Try.prog 27 #[plV p.B p.F p.M, .string s] w fun e w' => ∃ (q v : Nat) (wh : Bool), e = .returned (.tuple #[.agg #[.int .i64 (q : Int), .int .i64 (v : Int)], .bool wh]) ∧ FiR p (tby s) q v wh ∧ Below w.heap.size w w' := by
  have HP : Hid p.ok := hp
  obtain ⟨hb1, hb2, hf1, hf2, hm1, hm2⟩ := hp
  have hB : ∀ v, Below w.heap.size w ((w.alloc (.cells #[.int .i64 (p.B : Int), .int .i64 (p.F : Int), .int .i64 (p.M : Int)] 23)).alloc v) := fun v => ((Below.refl _ _).alloc (Nat.le_refl _) _).alloc (by simp) _
  have HB : Hid _ := hB
  obtain ⟨b, hb⟩ : ∃ b, p.B = b := ⟨_, rfl⟩
  obtain ⟨f, hf⟩ : ∃ b, p.F = b := ⟨_, rfl⟩
  obtain ⟨m, hm⟩ : ∃ b, p.M = b := ⟨_, rfl⟩
  have HE : Hid (p.B = b ∧ p.F = f ∧ p.M = m) := ⟨hb, hf, hm⟩
  rw [hb] at hb1 hb2
  rw [hf] at hf1 hf2
  rw [hm] at hm1 hm2
  rw [hb, hf, hm] at HB ⊢
  clear hb hf hm hB
  go_enter Try.func27, Try.ntmps27
  go_wp2
  go_loopw [6] (fun x wr => ∃ n : Nat, 1 ≤ n ∧ n ≤ s.size + 1 ∧ x = .int .i64 (n : Int) ∧ Hid (∀ k, 1 ≤ k → k < n → ctA p ((tby s).take k) = none) ∧ wr = (w.alloc (.cells #[.int .i64 (b : Int), .int .i64 (f : Int), .int .i64 (m : Int)] 23)).alloc (.cells #[.int .i64 0, .int .i64 0] 80)) (fun x _ => s.size + 1 - (intOf x).toNat)
  case atStart => exact ⟨1, by omega, by omega, rfl, fun k a b => by omega, rfl⟩
  case round =>
    obtain ⟨n, hn1, hn2, rfl, HO, rfl⟩ := hrel
    by_cases hlt : n ≤ s.size
    · have hnz : (n : Int) ≤ s.size := by omega
      obtain ⟨t, ht⟩ : ∃ t, s.extract 0 n = t := ⟨_, rfl⟩
      have htl : tby t = (tby s).take n := by rw [← ht]; exact tby_front s n hlt
      have hts : t.size ≤ maxLen := by
        have : t.size = n := by rw [← tby_len, htl, List.length_take, tby_len]; omega
        unfold maxLen; omega
      obtain ⟨k, hk⟩ : ∃ k, one (tby t) = k := ⟨_, rfl⟩
      have hk3 := one_le (tby t)
      rw [hk] at hk3
      have HK : Hid (one ((tby s).take n) = k) := by rw [← htl]; exact hk
      have HOF : Hid (∀ u, Calls Try.prog 39 #[.string t] u fun e w' => e = .returned (.int .u32 (dgR (tby t) : Int)) ∧ w' = u) := fun u => rOf_any t u hts
      have HON : Hid (∀ u, Calls Try.prog 38 #[.int .u32 (dgR (tby t) : Int)] u fun e w' => e = .returned (.int .i64 (k : Int)) ∧ w' = u) := fun u => by
        rw [← hk]; exact rOnes_any _ u (dgR_lt _)
      clear htl hts hk
      by_cases hkb : b ≤ k
      · have hct : ctA p ((tby s).take n) = some ((k - b) / f) := by
          have := ctA_ones (p := p) (l := (tby s).take n) (by rw [HK.out, HE.out.1]; exact hkb)
          rwa [HK.out, HE.out.1, HE.out.2.1] at this
        obtain ⟨D, hD⟩ : ∃ D, k - b = D := ⟨_, rfl⟩
        obtain ⟨Q, hQ⟩ : ∃ Q, D / f = Q := ⟨_, rfl⟩
        have hDz : (k : Int) - b = D := by omega
        have hDl : D ≤ 32 := by omega
        have hQl : Q ≤ 32 := by rw [← hQ]; exact Nat.le_trans (Nat.div_le_self _ _) hDl
        have q1 : (D : Int).tdiv f = Q := by rw [Int.tdiv_eq_ediv_of_nonneg (by omega), ← hQ]; rfl
        have q2 : (D : Int) / f = Q := by rw [← hQ]; rfl
        have hf0 : ((f : Int) == 0) = false := by simp; omega
        rw [hD, hQ] at hct
        have HR : Hid (FiR p (tby s) n Q true) := ⟨fun _ => ⟨hn1, by rw [tby_len]; exact hlt, HO.out, hct⟩, fun h => by cases h⟩
        have hkz : (k : Int) ≥ b := by omega
        clear hD hQ hct HO HK
        go_wp2_with fail
        refine (HOF.out _).mono ?_
        rintro e w1 ⟨rfl, rfl⟩
        go_wp2_with fail
        refine (HON.out _).mono ?_
        rintro e w1 ⟨rfl, rfl⟩
        go_wp2
        refine bodyPost_ret (res_first rfl _ _ (w.heap.size + 1) _ _ _ rfl rfl (by simpa using bk_new (w.alloc (.cells #[.int .i64 (b : Int), .int .i64 (f : Int), .int .i64 (m : Int)] 23)) #[.int .i64 (n : Int), .int .i64 (Q : Int)] 80)) rfl ⟨n, Q, true, rfl, HR.out, HB.out _⟩
      · have hkz : ¬ (k : Int) ≥ b := by omega
        by_cases hnm : n = m
        · have hct : ctA p ((tby s).take n) = some 0 := ctA_most (by rw [HK.out, HE.out.1]; exact hkb) (by rw [List.length_take, tby_len, HE.out.2.2]; omega)
          have HR : Hid (FiR p (tby s) n 0 true) := ⟨fun _ => ⟨hn1, by rw [tby_len]; exact hlt, HO.out, hct⟩, fun h => by cases h⟩
          have hnb : ((n : Int) == m) = true := by simp [hnm]
          clear hct HO HK hnm
          go_wp2_with fail
          refine (HOF.out _).mono ?_
          rintro e w1 ⟨rfl, rfl⟩
          go_wp2_with fail
          refine (HON.out _).mono ?_
          rintro e w1 ⟨rfl, rfl⟩
          go_wp2
          refine bodyPost_ret (res_first rfl _ _ (w.heap.size + 1) _ _ _ rfl rfl (by simpa using bk_new (w.alloc (.cells #[.int .i64 (b : Int), .int .i64 (f : Int), .int .i64 (m : Int)] 23)) #[.int .i64 (n : Int), .int .i64 0] 80)) rfl ⟨n, 0, true, rfl, HR.out, HB.out _⟩
        · have hct : ctA p ((tby s).take n) = none := ctA_none (by rw [HK.out, HE.out.1]; exact hkb) (by rw [List.length_take, tby_len, HE.out.2.2]; omega)
          have HN : Hid (∀ k, 1 ≤ k → k < n + 1 → ctA p ((tby s).take k) = none) := fun j h1 h2 => by
            rcases Nat.lt_or_ge j n with c | c
            · exact HO.out j h1 c
            · rw [show j = n from by omega]; exact hct
          have hnb : ((n : Int) == m) = false := by simp; omega
          clear hct HO HK hnm
          go_wp2_with fail
          refine (HOF.out _).mono ?_
          rintro e w1 ⟨rfl, rfl⟩
          go_wp2_with fail
          refine (HON.out _).mono ?_
          rintro e w1 ⟨rfl, rfl⟩
          go_wp2
          go_roundw
          case rel => exact ⟨n + 1, by omega, by omega, by go_num, HN.out, by trivial⟩
          case measure => simp [intOf]; omega
    · have hnz : ¬ (n : Int) ≤ s.size := by omega
      have HR : Hid (FiR p (tby s) s.size 0 false) := ⟨fun h => (by cases h), fun _ => ⟨(tby_len s).symm, rfl, fun k h1 h2 => HO.out k h1 (by rw [tby_len] at h2; omega)⟩⟩
      clear HO
      go_wp2
      refine bodyPost_ret (res_first rfl _ _ (w.heap.size + 1) (.int .i64 (s.size : Int)) (.int .i64 0) (.bool false) rfl rfl (by simpa using bk_new (w.alloc (.cells #[.int .i64 (b : Int), .int .i64 (f : Int), .int .i64 (m : Int)] 23)) #[.int .i64 (s.size : Int), .int .i64 0] 80)) rfl ⟨s.size, 0, .inl ⟨rfl, HR.out, HB.out _⟩⟩
theorem own_lt {w : World} {B n k : Nat} {e : TypeId} {v : Value} {xs : List Value} (ho : w.ownsRow B e k v n xs) : v.ownBlock ≠ some w.heap.size := by
  rcases ho.2 with ⟨rfl, _⟩ | ⟨g, cap, cur, rfl, _, hc, _⟩
  · simp [Value.ownBlock]
  · have : g < w.heap.size := (Array.getElem?_eq_some_iff.1 hc).1
    simp [Value.ownBlock]; omega
theorem inf_rchunk : (Try.prog.info? 80).map (fun i => (i.zero, i.size, i.bytes)) = some (some (.agg #[.int .i64 0, .int .i64 0]), 2, 16) := by kernel_rfl
theorem rcut_no (b f m : Int) (h : plB b f m = false) (s : ByteArray) (w : World) :
    Calls Try.prog 9 #[plV b f m, .string s] w fun e w' => e = .returned (.tuple #[.slice none 0 0, .int .i64 90]) ∧ Below w.heap.size w w' := by
  have HC : Hid (∀ u, Calls Try.prog 14 #[plV b f m] u fun e w' => e = .returned (.int .i64 90) ∧ Below u.heap.size u w') := fun u => by
    have := rcheck_any b f m u
    rwa [plE_no h] at this
  clear h
  go_enter Try.func9, Try.ntmps9
  go_wp2_with fail
  refine (HC.out _).mono ?_
  rintro e w1 ⟨rfl, b1⟩
  have HB : Hid (Below w.heap.size w w1) := ((Below.refl _ _).alloc (Nat.le_refl _) _).trans (b1.mono (by simp))
  clear b1
  go_wp2
  go_ret2
  exact ⟨rfl, HB.out⟩
set_option maxHeartbeats 2000000 in
set_option maxRecDepth 100000 in
theorem rcut_yes (p : Pl) (hp : p.ok) (s : ByteArray) (hs : s.size ≤ 1048576) (w : World) :
    Calls Try.prog 9 #[plV p.B p.F p.M, .string s] w fun e w' => ∃ v, e = .returned (.tuple #[v, .int .i64 0]) ∧ w'.ownsRow w.heap.size 80 2 v (chk (ctA p) (tby s)).length (ckv (chk (ctA p) (tby s))) ∧ Below w.heap.size w w' := by
  have HC : Hid (∀ u, Calls Try.prog 14 #[plV p.B p.F p.M] u fun e w' => e = .returned (.int .i64 0) ∧ Below u.heap.size u w') := fun u => by
    have := rcheck_any p.B p.F p.M u
    rwa [plE_of hp] at this
  have HP : Hid p.ok := hp
  have hsz : ¬ (s.size : Int) > 1048576 := by omega
  obtain ⟨i0, hi, hz0, hz1, hz2⟩ := info_parts inf_rchunk
  clear hp
  go_enter Try.func9, Try.ntmps9
  go_wp2_with fail
  refine (HC.out _).mono ?_
  rintro e w1 ⟨rfl, b1⟩
  have hbk := bk_new w #[.int .i64 (p.B : Int), .int .i64 (p.F : Int), .int .i64 (p.M : Int)] 23
  have HK1 : Hid (Bk w1 w.heap.size #[.int .i64 (p.B : Int), .int .i64 (p.F : Int), .int .i64 (p.M : Int)] 23) := hbk.below b1 hbk.lt
  have HB : Hid (Below w.heap.size w w1) := ((Below.refl _ _).alloc (Nat.le_refl _) _).trans (b1.mono (by simp))
  clear b1 hbk HC
  go_wp2_with fail
  go_loopw [1, 7] (fun x y wr => ∃ (t : ByteArray) (evs : List (Nat × Nat)) (n : Nat), x = .string t ∧ n + t.size ≤ 1048576 ∧ t.size ≤ 1048576 ∧ Hid (evs.length = n) ∧ Hid (chk (ctA p) (tby s) = evs ++ chk (ctA p) (tby t)) ∧ Hid (wr.ownsRow w.heap.size 80 2 y n (ckv evs)) ∧ Hid (Below w.heap.size w wr ∧ Bk wr w.heap.size #[.int .i64 (p.B : Int), .int .i64 (p.F : Int), .int .i64 (p.M : Int)] 23)) (fun x _ _ => match x with | .string t => t.size | _ => 0)
  case atStart => exact ⟨s, [], 0, rfl, by omega, hs, rfl, rfl, ⟨rfl, .inl ⟨rfl, rfl⟩⟩, HB.out, HK1.out⟩
  case round =>
    clear HB HK1
    obtain ⟨t, evs, n, rfl, hnt, ht, HN, HK, HO, HB⟩ := hrel
    have c0 : wr.cell? ⟨w.heap.size, 0, none⟩ = some (.int .i64 (p.B : Int)) := by rw [HB.out.2.cell]; rfl
    have c1 : wr.cell? ⟨w.heap.size, 1, none⟩ = some (.int .i64 (p.F : Int)) := by rw [HB.out.2.cell]; rfl
    have c2 : wr.cell? ⟨w.heap.size, 2, none⟩ = some (.int .i64 (p.M : Int)) := by rw [HB.out.2.cell]; rfl
    by_cases h0 : 0 < t.size
    · have h0z : (t.size : Int) > 0 := by omega
      go_wp2_with fail
      refine (rfirst_any p HP.out t ht wr).mono ?_
      rintro e w2 ⟨q, v, wh, rfl, hfi, b2⟩
      have hne : tby t ≠ [] := fun c => by have := tby_len t; rw [c] at this; simp at this; omega
      have hF := hfi.fi hne
      have hq1 := hF.pos
      have hq2 := hfi.bd.1
      have hv := hfi.bd.2
      rw [tby_len] at hq2
      have HK2 : Hid (chk (ctA p) (tby s) = (evs ++ [(q, v)]) ++ chk (ctA p) (tby (t.extract q t.size))) := by
        show _ = _
        rw [HK.out, chk_fi hF, tby_rest, List.append_assoc]; rfl
      have hz := HB.out.1.size
      have HB2 : Hid (Below w.heap.size w w2 ∧ Bk w2 w.heap.size #[.int .i64 (p.B : Int), .int .i64 (p.F : Int), .int .i64 (p.M : Int)] 23) := ⟨HB.out.1.trans (b2.mono HB.out.1.size), HB.out.2.below b2 HB.out.2.lt⟩
      have HO2 : Hid (w2.ownsRow w.heap.size 80 2 u7 n (ckv evs)) := own_kp HO.out (ts := []) (by simp) (kp_below _ b2)
      have hz2' := b2.size
      clear hfi hF hne HK HB HO b2 c0 c1 c2
      go_wp2_with (at_builtin; refine wpList_append_own _ rfl _ _ 24 rfl w.heap.size 80 i0 (.agg #[.int .i64 0, .int .i64 0]) 2 16 Try.underlying24 hi hz0 hz1 hz2 rfl (by decide) _ _ _ rfl ((HO2.out.alloc _).alloc _) ⟨w2.heap.size + 1, 0, none⟩ 1 1 [.int .i64 (q : Int), .int .i64 (v : Int)] rfl rfl (by have := news_two (w2.alloc (Obj.cells #[.int .i64 (q : Int), .int .i64 (v : Int)] 80)) (.int .i64 (q : Int)) (.int .i64 (v : Int)) 80; rwa [al_size] at this) (one_two _ _) (by unfold maxLen; omega) (by omega) (by simp; omega) ?_)
      intro v' w7 hown1 hgrow _
      have hcb : Bk w7 w2.heap.size #[.int .i64 (q : Int), .int .i64 (v : Int)] 80 := ((bk_new w2 _ _).alloc _).grown hgrow (own_lt HO2.out)
      have k0 : w7.cell? ⟨w2.heap.size, 0, none⟩ = some (.int .i64 (q : Int)) := by rw [hcb.cell]; rfl
      have HO7 : Hid (w7.ownsRow w.heap.size 80 2 v' (n + 1) (ckv (evs ++ [(q, v)]))) := by
        show World.ownsRow _ _ _ _ _ _ _
        rw [ckv_app]; exact hown1
      have HB7 : Hid (Below w.heap.size w w7 ∧ Bk w7 w.heap.size #[.int .i64 (p.B : Int), .int .i64 (p.F : Int), .int .i64 (p.M : Int)] 23) :=
        ⟨own_bel ((HB2.out.1.alloc HB2.out.1.size _).alloc (by rw [al_size]; omega) _) (by rw [al_size, al_size]; omega) ((HO2.out.alloc _).alloc _) hgrow, kp_own (ts := [80]) ((HO2.out.alloc _).alloc _) (by decide) hgrow _ _ _ (by decide) ((HB2.out.2.alloc _).alloc _)⟩
      have HN1 : Hid ((evs ++ [(q, v)]).length = n + 1) := by show _ = _; rw [List.length_append, HN.out]; rfl
      have hx : (t.extract q t.size).size = t.size - q := by simp
      have HX : Hid ((t.extract q t.size).size = t.size - q) := hx
      clear hown1 hgrow hcb HO2 HB2 HN hx
      go_wp2
      go_roundw
      case rel => exact ⟨_, evs ++ [(q, v)], n + 1, rfl, by rw [HX.out]; omega, by rw [HX.out]; omega, HN1.out, HK2.out, HO7.out, HB7.out⟩
      case measure => simp only; rw [HX.out]; omega
    · have h0z : ¬ (t.size : Int) > 0 := by omega
      have HE : Hid (wr.ownsRow w.heap.size 80 2 u7 (chk (ctA p) (tby s)).length (ckv (chk (ctA p) (tby s)))) := by
        have hn : tby t = [] := List.eq_nil_of_length_eq_zero (by rw [tby_len]; omega)
        show World.ownsRow _ _ _ _ _ _ _
        rw [HK.out, hn, chk_nil, List.append_nil, HN.out]; exact HO.out
      clear HK HO HN c0 c1 c2
      go_wp2
      go_ret2
      exact ⟨u7, rfl, HE.out, HB.out.1⟩
end Go.Proofs.Ytdinhnpobdfnoaa
