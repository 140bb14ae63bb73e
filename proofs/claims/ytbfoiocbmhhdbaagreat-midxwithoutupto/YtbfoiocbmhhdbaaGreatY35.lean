import Derived.Test.YtbfoiocbmhhdbaaGreatY33
import Derived.Test.YtbfoiocbmhhdbaaGreatY34
import Derived.Test.YtbfoiocbmhhdbaaGreatY4
import Derived.Test.YtbfoiocbmhhdbaaGreatY19
/- MidxWithout: the walk. -/
namespace Go.Proofs.YtbfoiocbmhhdbaaGreat
open Go.RowKit
set_option linter.unusedSimpArgs false
set_option linter.unusedVariables false
theorem TwT.swap {w0 W : World} {R S : List ByteArray} {v u : Value} (h : TwT w0 R S v u W) : TwT w0 S R u v W := ⟨h.r, h.t, ⟨h.ap.2, h.ap.1⟩, h.bel⟩
/-- A number brought between 0 and m. -/
theorem mod_pos (k : Int) (m : Nat) (hm : 0 < m) (hk : -9223372036854775808 ≤ k ∧ k ≤ 9223372036854775807) (hm2 : m ≤ 30) :
    ∃ (r y : Int) (jn : Nat), k.tmod (m : Int) = r ∧ r + (m : Int) = y ∧ y.tmod (m : Int) = (jn : Int) ∧ jn < m ∧ -31 ≤ r ∧ r ≤ 31 ∧ 0 ≤ y ∧ y ≤ 61 := by
  have h1 := Int.emod_nonneg k (b := (m : Int)) (by omega)
  have h2 := Int.emod_lt_of_pos k (b := (m : Int)) (by omega)
  obtain ⟨r, hr⟩ : ∃ r, k.tmod (m : Int) = r := ⟨_, rfl⟩
  have hrr : r = k % (m : Int) ∨ (r < 0 ∧ -(m : Int) < r) := by
    rw [← hr, Int.tmod_eq_emod]
    split
    · left; omega
    · rename_i hq
      right
      have hne : k % (m : Int) ≠ 0 := fun e => hq (.inr (Int.dvd_of_emod_eq_zero e))
      have : ((m : Int).natAbs : Int) = m := by simp
      omega
  have hy : 0 ≤ r + (m : Int) ∧ r + (m : Int) < 2 * m := by omega
  have h3 := Int.emod_nonneg (r + (m : Int)) (b := (m : Int)) (by omega)
  have h4 := Int.emod_lt_of_pos (r + (m : Int)) (b := (m : Int)) (by omega)
  refine ⟨r, r + (m : Int), ((r + (m : Int)) % (m : Int)).toNat, hr, rfl, ?_, by omega, by omega, by omega, by omega, by omega⟩
  rw [Int.tmod_eq_emod_of_nonneg hy.1]
  omega
set_option maxHeartbeats 32000000 in
set_option maxRecDepth 100000 in
theorem without15 (a : Option Addr) (n c : Nat) (ps : List Pk) (wh : Int) (w : World) (hp : PkL w a ps) (hi : PkI w ps) (hn : ps.length = n) (hn2 : n ≤ 4611686018427387904)
    (hs : (ps.map (fun p => p.L.length)).sum ≤ 1048576) (hw1 : -9223372036854775808 ≤ wh) (hw2 : wh ≤ 9223372036854775807) :
    Calls Tryz.prog 6 #[.slice a n c, .int .i64 wh] w fun e w' => e = .returned (.bool true) ∧ Below w.heap.size w w' := by
  have HP : Hid (PkL w a ps ∧ PkI w ps ∧ ps.length = n ∧ n ≤ 4611686018427387904 ∧ (ps.map (fun p => p.L.length)).sum ≤ 1048576) := ⟨hp, hi, hn, hn2, hs⟩
  have HW : Hid (-9223372036854775808 ≤ wh ∧ wh ≤ 9223372036854775807) := ⟨hw1, hw2⟩
  have HID : Hid (∀ x u, Calls Tryz.prog 18 #[.string x] u fun e w' => e = .returned (.agg (idc (idF x))) ∧ Below u.heap.size u w') := fun x u => id_any15 x u
  clear hp hi hn hn2 hs hw1 hw2
  go_enter Tryz.func6, Tryz.ntmps6
  go_wp2_with fail
  refine (awake15 _).mono ?_
  rintro e w1 ⟨rfl, b1⟩
  have H1 : Hid (PkL w1 a ps ∧ Below w.heap.size w w1) := ⟨HP.out.1.below b1, b1⟩
  clear b1
  go_wp2_with fail
  refine (unlike_any a n c ps w1 H1.out.1 HP.out.2.2.1 HP.out.2.2.2.1).mono ?_
  rintro e w2 ⟨v2, rfl, hO⟩
  obtain ⟨us, hus⟩ : ∃ us, unP ps = us := ⟨_, rfl⟩
  obtain ⟨m, hm⟩ : ∃ m, us.length = m := ⟨_, rfl⟩
  have hox := hO.ow
  rw [hus, hm] at hox
  obtain ⟨ao, co, rfl, hxo, _, _⟩ := own_pkl hox hm
  have hbw : Below w.heap.size w w2 := H1.out.2.trans (hO.bel.mono H1.out.2.size)
  have HU : Hid (UnF w2 ao us ∧ us.length = m) := by
    rw [← hus] at hxo ⊢
    exact ⟨unF_of HP.out.2.1 HP.out.2.2.2.2 hbw hxo, by rw [hus, hm]⟩
  have HBW : Hid (Below w.heap.size w w2) := hbw
  have hm30 : m ≤ 30 := by rw [← HU.out.2]; exact HU.out.1.len
  clear hO hus hox hm hxo hbw H1
  by_cases hm0 : m = 0
  · subst hm0
    go_wp2
    go_ret
    exact ⟨rfl, HBW.out⟩
  have hmp : 0 < m := by omega
  have hmz : ¬ (m : Int) = 0 := by omega
  have hmzb : ((m : Int) == 0) = false := by rw [beq_eq_false_iff_ne]; exact hmz
  obtain ⟨r0, y0, jn, hr0, hy0, hj0, hjm, hb1, hb2, hb3, hb4⟩ := mod_pos wh m hmp HW.out hm30
  have hwr0 : IntKind.i64.wrap r0 = r0 := by rw [IntKind.wrap_i64]; omega
  have hwy0 : IntKind.i64.wrap y0 = y0 := by rw [IntKind.wrap_i64]; omega
  have hwj0 : IntKind.i64.wrap (jn : Int) = (jn : Int) := by rw [IntKind.wrap_i64]; omega
  have HR0 : Hid (∃ R xs, R.length = 0 ∧ IxU (us.take 0) R xs ∧ TwT w2 R (R.eraseIdx jn) (.slice none 0 0) (.slice none 0 0) w2) := ⟨[], [], rfl, by rw [List.take_zero]; exact IxU.nil, TwT.nil w2⟩
  go_upto_region 8 with fail
  clear hmz hmzb hr0 hy0 hj0 hb1 hb2 hb3 hb4 hwr0 hwy0 hwj0
  go_wp2
  go_loopw [5, 6, 7] (fun v u i W => ∃ k : Nat, i = .int .i64 k ∧ k ≤ m ∧ Hid (∃ R xs, R.length = k ∧ IxU (us.take k) R xs ∧ TwT w2 R (R.eraseIdx jn) v u W)) (fun _ _ i _ => m - (intOf i).toNat)
  case atStart => exact ⟨0, rfl, Nat.zero_le _, HR0.out⟩
  case round =>
    clear HR0
    obtain ⟨k, rfl, hk, HR⟩ := hrel
    by_cases hlt : k < m
    · have hkz : (k : Int) < (m : Nat) := by omega
      obtain ⟨R, xs, hRk, hix, htw⟩ := HR.out
      obtain ⟨p, hpk⟩ : ∃ p, us[k]? = some p := ⟨_, List.getElem?_eq_getElem (by rw [HU.out.2]; exact hlt)⟩
      obtain ⟨g, o, rfl, hg, hc⟩ := HU.out.1.pk k p hpk
      have hmem := List.mem_of_getElem? hpk
      have hbare := HU.out.1.bare p hmem
      obtain ⟨hit, hin, hin2⟩ := HU.out.1.it p hmem
      have HTK : Hid (us.take (k + 1) = us.take k ++ [p]) := by show _ = _; rw [List.take_add_one, hpk]; rfl
      have HIX : Hid (IxU (us.take k) R xs ∧ R.length = k ∧ TwT w2 R (R.eraseIdx jn) u5 u6 wr) := ⟨hix, hRk, htw⟩
      have HIT : Hid (ItL wr p.a p.L ∧ p.L.length = p.n ∧ p.n ≤ 4611686018427387904) := ⟨hit.below htw.bel, hin, hin2⟩
      have e0 : wr.cell? ⟨g, o + k * 3, none⟩ = some (.string p.s) := by rw [htw.bel.cell (p := ⟨g, o + k * 3, none⟩) hg]; exact hc 0 _ rfl
      have e1 : wr.cell? ⟨g, o + k * 3 + 1, none⟩ = some (.slice p.a p.n p.c) := by rw [htw.bel.cell (p := ⟨g, o + k * 3 + 1, none⟩) hg]; exact hc 1 _ rfl
      have e2 : wr.cell? ⟨g, o + k * 3 + 2, none⟩ = some (.string ⟨#[]⟩) := by rw [htw.bel.cell (p := ⟨g, o + k * 3 + 2, none⟩) hg, ← hbare]; exact hc 2 _ rfl
      clear hRk hix htw hpk hg hc hmem hbare hit hin hin2 HR
      go_wp2_with fail
      refine (index_any15 p.s ⟨#[]⟩ p.a p.n p.c p.L wr HIT.out.1 HIT.out.2.1 HIT.out.2.2).mono ?_
      rintro e w3 ⟨T, rfl, hT, b3⟩
      obtain ⟨M, hM⟩ := HIX.out.1.snoc hT
      have HN : Hid (IxU (us.take (k + 1)) (R ++ [T]) (xs ++ [(idF p.s, M)]) ∧ (R ++ [T]).length = k + 1) := ⟨by rw [HTK.out]; exact hM, by rw [List.length_append, HIX.out.2.1]; rfl⟩
      obtain ⟨g5, cp5, w4, hr4, ht4⟩ := (HIX.out.2.2.next b3).app T (by rw [HIX.out.2.1]; omega)
      rw [HIX.out.2.1] at hr4 ht4
      have c5 : w4.cell? ⟨g5, k, none⟩ = some (.string T) := by
        have ho := ht4.t
        rw [HN.out.2] at ho
        rw [ho.cellAt k (by omega), sv, List.getElem?_map, List.getElem?_append_right (by rw [HIX.out.2.1]; omega), HIX.out.2.1, Nat.sub_self]
        rfl
      have hek := erase_snoc R T jn
      rw [HIX.out.2.1] at hek
      by_cases hkj : jn = k
      · rw [if_pos hkj] at hek
        have HT4 : Hid (TwT w2 (R ++ [T]) ((R ++ [T]).eraseIdx jn) (.slice (some ⟨g5, 0, none⟩) (k + 1) cp5) u6 w4) := by
          rw [hek]
          exact ht4
        have hkb : (k : Int) = (jn : Int) := by omega
        have hkb2 : ((k : Int) == (jn : Int)) = true := by rw [beq_iff_eq]; exact hkb
        clear hT b3 hM ht4 HIX HTK HIT e0 e1 e2 hek hkj
        go_wp2_with (first
          | (refine wpList_appX rfl (.tmp 44) (.tmp 50) 23 23 rfl u5 (.slice (some ⟨w3.heap.size, 0, none⟩) 1 1) (.slice (some ⟨g5, 0, none⟩) (k + 1) cp5) w4 rfl rfl hr4 ?_)
          | fail)
        clear hr4 c5 hkb2
        try go_wp2
        go_roundw
        case rel => exact ⟨k + 1, by go_num, by omega, _, _, HN.out.2, HN.out.1, HT4.out⟩
        case measure => simp [intOf]; omega
      · rw [if_neg hkj] at hek
        obtain ⟨nr, hnr⟩ : ∃ z, (R.eraseIdx jn).length = z := ⟨_, rfl⟩
        have hnr2 : nr ≤ 30 := by
          rw [← hnr, List.length_eraseIdx, HIX.out.2.1]
          split <;> omega
        obtain ⟨g6, cp6, w5, hr5, ht5⟩ := ht4.swap.app T (by omega)
        rw [hnr] at hr5 ht5
        have HT5 : Hid (TwT w2 (R ++ [T]) ((R ++ [T]).eraseIdx jn) (.slice (some ⟨g5, 0, none⟩) (k + 1) cp5) (.slice (some ⟨g6, 0, none⟩) (nr + 1) cp6) w5) := by
          rw [hek]
          exact ht5.swap
        have hkb : ¬ (k : Int) = (jn : Int) := by omega
        have hkb2 : ((k : Int) == (jn : Int)) = false := by rw [beq_eq_false_iff_ne]; exact hkb
        have hkn : ¬ k = jn := by omega
        clear hT b3 hM ht4 ht5 HIX HTK HIT e0 e1 e2 hek hkj hnr
        go_wp2_with (first
          | (refine wpList_appX rfl (.tmp 44) (.tmp 50) 23 23 rfl u5 (.slice (some ⟨w3.heap.size, 0, none⟩) 1 1) (.slice (some ⟨g5, 0, none⟩) (k + 1) cp5) w4 rfl rfl hr4 ?_)
          | (refine wpList_appX rfl (.tmp 55) (.tmp 60) 23 23 rfl u6 (.slice (some ⟨w4.heap.size, 0, none⟩) 1 1) (.slice (some ⟨g6, 0, none⟩) (nr + 1) cp6) w5 rfl rfl hr5 ?_)
          | fail)
        clear hr4 hr5 c5 hkb2
        try go_wp2
        go_roundw
        case rel => exact ⟨k + 1, by go_num, by omega, _, _, HN.out.2, HN.out.1, HT5.out⟩
        case measure => simp [intOf]; omega
    · have hkz : ¬ (k : Int) < (m : Nat) := by omega
      obtain ⟨R, xs, hRk, hix, htw⟩ := HR.out
      have hkm : k = m := by omega
      rw [hkm, List.take_of_length_le (by rw [HU.out.2]; omega)] at hix
      rw [hkm] at hRk
      have hun := hix.unl HU.out.1.ap
      obtain ⟨m1, hm1⟩ : ∃ m1, m = m1 + 1 := ⟨m - 1, by omega⟩
      have hrl : (R.eraseIdx jn).length = m1 := by rw [List.length_eraseIdx, if_pos (by omega)]; omega
      have hxl : xs.length = m := by rw [hix.len.1, HU.out.2]
      obtain ⟨pj, hpj⟩ : ∃ p, us[jn]? = some p := ⟨_, List.getElem?_eq_getElem (by rw [HU.out.2]; exact hjm)⟩
      obtain ⟨q, hq⟩ : ∃ q, xs[jn]? = some q := ⟨_, List.getElem?_eq_getElem (by omega)⟩
      have hqn : q.1 = idF pj.s := by
        have h1 : (xs.map (·.1))[jn]? = some q.1 := by rw [List.getElem?_map, hq]; rfl
        rw [hix.nm, List.getElem?_map, hpj] at h1
        exact (Option.some.inj h1).symm
      have HX : Hid (IxU us R xs ∧ R.length = m ∧ Unl xs ∧ (rwA xs).length ≤ 1048576 ∧ xs.length = m ∧ (R.eraseIdx jn).length = m1) := ⟨hix, hRk, hun, Nat.le_trans hix.ln HU.out.1.sum, hxl, hrl⟩
      have HQJ : Hid (xs[jn]? = some q ∧ q.1 = idF pj.s ∧ (rwA (xs.eraseIdx jn)).length ≤ 1048576) := ⟨hq, hqn, Nat.le_trans (rwA_erase hq) HX.out.2.2.2.1⟩
      obtain ⟨gj, oj, rfl, hgj, hcj⟩ := HU.out.1.pk jn pj hpj
      have HCJ : Hid (∀ W, Below w2.heap.size w2 W → W.cell? ⟨gj, oj + jn * 3, none⟩ = some (.string pj.s)) := fun W hW => by rw [hW.cell (p := ⟨gj, oj + jn * 3, none⟩) hgj]; exact hcj 0 _ rfl
      have h5 := htw.t
      have h6 := htw.r
      rw [hRk] at h5
      rw [hrl] at h6
      obtain ⟨a5, c5, rfl, ht5⟩ := own_txl15 hRk h5
      obtain ⟨a6, c6, rfl, ht6⟩ := own_txl15 hrl h6
      have H6 : Hid (Below w2.heap.size w2 wr ∧ TxL wr a5 R ∧ TxL wr a6 (R.eraseIdx jn)) := ⟨htw.bel, ht5, ht6⟩
      have HSZ : Hid (∀ t ∈ R, t.size ≤ 4611686018427387904) := fun t ht => HX.out.1.ix.sz t ht
      have hm1z : (m : Int) - 1 = (m1 : Int) := by omega
      have hwm1 : IntKind.i64.wrap (m1 : Int) = (m1 : Int) := by rw [IntKind.wrap_i64]; omega
      clear hRk hix htw hkm hun hrl hxl hpj hq hqn hgj hcj h5 h6 ht5 ht6 HR hlt hk hm1
      go_wp2_with fail
      refine (merge_any a5 m c5 R wr H6.out.2.1 HX.out.2.1 (by omega) HSZ.out).mono ?_
      rintro e w6 ⟨h1, b6⟩
      obtain ⟨PS, l, hm1, hok, rfl⟩ := h1.yes HX.out.1.ix HX.out.2.2.1 (by rw [HX.out.2.1]; omega) HX.out.2.2.2.1
      have hmx : IsMx ⟨(mxB PS l).toArray⟩ PS l := ⟨hok, rfl⟩
      obtain ⟨T, hT⟩ : ∃ T, (⟨(mxB PS l).toArray⟩ : ByteArray) = T := ⟨_, rfl⟩
      rw [hT] at hmx ⊢
      have HM : Hid (IsMx T PS l ∧ Mgd xs PS l) := ⟨hmx, hm1⟩
      have H7 : Hid (Below w2.heap.size w2 w6 ∧ TxL w6 a6 (R.eraseIdx jn)) := ⟨H6.out.1.trans (b6.mono H6.out.1.size), H6.out.2.2.below b6⟩
      clear h1 b6 hm1 hok hmx hT H6
      go_wp2_with fail
      refine (merge_any a6 m1 c6 (R.eraseIdx jn) w6 H7.out.2 HX.out.2.2.2.2.2 (by omega) (fun t ht => HSZ.out t (List.mem_of_mem_eraseIdx ht))).mono ?_
      rintro e w7 ⟨h2, b7⟩
      obtain ⟨PS', l', hm2, hok2, rfl⟩ := h2.yes (HX.out.1.ix.erase jn) (HX.out.2.2.1.erase jn) (by rw [HX.out.2.2.2.2.2]; omega) HQJ.out.2.2
      have hmx : IsMx ⟨(mxB PS' l').toArray⟩ PS' l' := ⟨hok2, rfl⟩
      obtain ⟨T', hT⟩ : ∃ T, (⟨(mxB PS' l').toArray⟩ : ByteArray) = T := ⟨_, rfl⟩
      rw [hT] at hmx ⊢
      have HM2 : Hid (IsMx T' PS' l' ∧ Mgd (xs.eraseIdx jn) PS' l') := ⟨hmx, hm2⟩
      have H8 : Hid (Below w2.heap.size w2 w7) := H7.out.1.trans (b7.mono H7.out.1.size)
      clear h2 b7 hm2 hok2 hmx hT H7
      go_wp2_with fail
      refine (mopen_any T w7 (by have := isMx_sz HM.out.1; omega)).mono ?_
      rintro e w8 ⟨hO, b8⟩
      obtain ⟨gx, rfl, hX⟩ := hO.yes HM.out.1
      have H9 : Hid (Below w2.heap.size w2 w8 ∧ MxS w8 gx PS l) := ⟨H8.out.trans (b8.mono H8.out.size), hX⟩
      clear hO b8 hX H8
      go_wp2_with fail
      refine (mopen_any T' w8 (by have := isMx_sz HM2.out.1; omega)).mono ?_
      rintro e w9 ⟨hO, b9⟩
      obtain ⟨gy, rfl, hY⟩ := hO.yes HM2.out.1
      have H10 : Hid (Below w2.heap.size w2 w9 ∧ MxS w9 gx PS l ∧ MxS w9 gy PS' l') := ⟨H9.out.1.trans (b9.mono H9.out.1.size), H9.out.2.below b9, hY⟩
      clear hO b9 hY H9
      go_wp2_with fail
      refine (mpacks_any gy PS' l' w9 H10.out.2.2).mono ?_
      rintro e w10 ⟨v10, rfl, ho10, b10⟩
      have hpm : PS'.length = m1 := by rw [HM2.out.2.len (HX.out.2.2.1.erase jn), ← (HX.out.1.ix.erase jn).len, HX.out.2.2.2.2.2]
      rw [hpm] at ho10
      obtain ⟨a10, c10, rfl, _⟩ := own_nms HM2.out.1.ok.psz hpm ho10
      have H11 : Hid (Below w2.heap.size w2 w10 ∧ MxS w10 gx PS l ∧ MxS w10 gy PS' l') := ⟨H10.out.1.trans (b10.mono H10.out.1.size), H10.out.2.1.below b10, H10.out.2.2.below b10⟩
      have HRS : Hid ((∀ r ∈ l, r.p.size = 32 ∧ r.e.id.size = 32) ∧ ∀ r ∈ l', r.p.size = 32 ∧ r.e.id.size = 32) := ⟨fun r hr => ⟨HM.out.1.ok.psz _ (HM.out.1.ok.mem r hr), HM.out.1.ok.id r hr⟩, fun r hr => ⟨HM2.out.1.ok.psz _ (HM2.out.1.ok.mem r hr), HM2.out.1.ok.id r hr⟩⟩
      obtain ⟨nl, hnl⟩ : ∃ n, l.length = n := ⟨_, rfl⟩
      have hnl2 : nl ≤ 1048576 := by rw [← hnl]; exact HM.out.1.ok.len
      have HNL : Hid (l.length = nl ∧ l'.length = cntC l' l) := ⟨hnl, wo_count HQJ.out.1 HX.out.2.2.1 HM.out.2 HM2.out.2⟩
      clear ho10 b10 hpm hnl H10
      go_wp2_with fail
      refine (mall_any gx PS l w10 H11.out.2.1).mono ?_
      rintro e w20 ⟨v20, rfl, ho20, b20⟩
      rw [HNL.out.1] at ho20
      obtain ⟨a20, c20, rfl, hx20⟩ := own_mrs HRS.out.1 HNL.out.1 ho20
      have H20 : Hid (Below w2.heap.size w2 w20 ∧ MxS w20 gy PS' l' ∧ MrL w20 a20 l) := ⟨H11.out.1.trans (b20.mono H11.out.1.size), H11.out.2.2.below b20, hx20⟩
      clear ho20 b20 hx20 H11 hm1z hwm1
      go_wp2
      go_loopw [17, 18] (fun u v W => ∃ i : Nat, v = .int .i64 i ∧ i ≤ nl ∧ u = .int .i64 (cntC l' (l.take i) : Nat) ∧ Hid (Below w20.heap.size w20 W)) (fun _ v _ => nl - (intOf v).toNat)
      case atStart => exact ⟨0, rfl, Nat.zero_le _, by rw [List.take_zero]; rfl, Below.refl _ _⟩
      case round =>
        obtain ⟨i, rfl, hi, rfl, HJ⟩ := hrel
        have hcl : cntC l' (l.take i) ≤ nl := by
          have := cntC_le l' (l.take i)
          rw [List.length_take, HNL.out.1] at this
          omega
        by_cases hli : i < nl
        · have hiz : (i : Int) < (nl : Nat) := by omega
          obtain ⟨r, hr⟩ : ∃ r, l[i]? = some r := ⟨_, List.getElem?_eq_getElem (by rw [HNL.out.1]; exact hli)⟩
          obtain ⟨⟨hr1, hr2⟩, g20, o20, rfl, hg20, hc20⟩ := H20.out.2.2 i r hr
          have CY0 : Hid (∀ W, Below w20.heap.size w20 W → ∀ (j : Nat) (v : Value), (mrC r)[j]? = some v → W.cell? ⟨g20, o20 + i * 67 + j, none⟩ = some v) := fun W hW j v hv => by rw [hW.cell (p := ⟨g20, o20 + i * 67 + j, none⟩) hg20]; exact hc20 j v hv
          have CD1 : Hid (∀ W, Below w20.heap.size w20 W → ∀ (j : Nat) (v : Value), (idc r.e.id)[j]? = some v → W.cell? ⟨g20, o20 + i * 67 + 32 + j, none⟩ = some v) := fun W hW j v hv => by
            have := CY0.out W hW (32 + j) v (mrC_id r hr1 hr2 j v hv)
            rwa [← Nat.add_assoc] at this
          have CP1 : Hid (∀ W, Below w20.heap.size w20 W → ∀ (j : Nat) (v : Value), (idc r.p)[j]? = some v → W.cell? ⟨g20, o20 + i * 67 + j, none⟩ = some v) := fun W hW j v hv => CY0.out W hW j v (by have := mrC_p r hr1 j v hv; rwa [Nat.zero_add] at this)
          have HCJ2 : Hid (∀ W, Below w20.heap.size w20 W → W.cell? ⟨gj, oj + jn * 3, none⟩ = some (.string pj.s)) := fun W hW => HCJ.out W (H20.out.1.trans (hW.mono H20.out.1.size))
          obtain ⟨b, hb⟩ : ∃ b, mfnd l' r.e.id = b := ⟨_, rfl⟩
          have hokb : okB b := fun r' e => HRS.out.2 r' (by
            rw [mfnd_fd HM2.out.2.ri] at hb
            rw [e] at hb
            exact (fdM_some hb).1)
          have HFD : Hid (∀ W, MxS W gy PS' l' → Calls Tryz.prog 19 #[.pointer (some ⟨gy, 0, none⟩), .agg (idc r.e.id)] W fun e w' => e = .returned (.tuple #[.agg (rowC b), .int .i64 (cdB b)]) ∧ Below W.heap.size W w') := fun W hW => by
            have := mfind_any gy r.e.id PS' l' W hW HM2.out.2.ri hr2
            rw [hb, mfdV_eq] at this
            exact this
          have HTK : Hid (cntC l' (l.take (i + 1)) = if b.isSome = true then cntC l' (l.take i) + 1 else cntC l' (l.take i)) := by
            show _ = _
            rw [List.take_add_one, hr, Option.toList_some, cntC_snoc]
            unfold fndC
            rw [hb]
          have HRR : Hid (l[i]? = some r ∧ r.p.size = 32 ∧ r.e.id.size = 32 ∧ mfnd l' r.e.id = b ∧ okB b) := ⟨hr, hr1, hr2, hb, hokb⟩
          have HYI : Hid ((Tryz.prog.info? 52).map (·.size) = some (rowC b).size ∧ (rowC b).all (·.oneCell') = true ∧ (rowC b).size = 67) := ⟨info_mr hokb.sz, rowC_all b, hokb.sz⟩
          have HDP : Hid ((Tryz.prog.info? 48).map (·.size) = some (idc r.p).size) := info_32 (by rw [idc_size, hr1])
          have hNI := neq_ids r.p (idF pj.s) hr1 (idF_size _)
          have HIJ : Hid (∀ u, Calls Tryz.prog 18 #[.string pj.s] u fun e w' => e = .returned (.agg (idc (idF pj.s))) ∧ Below u.heap.size u w') := fun u => HID.out pj.s u
          have HDL : Hid ((Tryz.prog.info? 48).map (·.size) = some (idc r.e.id).toList.length) := by show _ = _; rw [Array.length_toList]; exact info_32 (by rw [idc_size, hr2])
          have CDW : Hid (∀ (j : Nat) (v : Value), (idc r.e.id).toList[j]? = some v → wr.cell? ⟨g20, o20 + i * 67 + 32 + j, none⟩ = some v) := fun j v hv => CD1.out wr HJ.out j v (by rwa [Array.getElem?_toList] at hv)
          have HNEG : Hid (∀ u, (binOp .neq 52 (.agg (mrC r)) (.agg (mrC r))).run Tryz.prog u = .ok (.bool false) u) := fun u => neq_mrr r hr1 hr2 u
          obtain ⟨Y, hY⟩ : ∃ Y, rowC b = Y := ⟨_, rfl⟩
          obtain ⟨F, hF⟩ : ∃ F, cdB b = F := ⟨_, rfl⟩
          obtain ⟨D, hD⟩ : ∃ D, idc r.e.id = D := ⟨_, rfl⟩
          obtain ⟨P, hPe⟩ : ∃ P, idc r.p = P := ⟨_, rfl⟩
          obtain ⟨J, hJe⟩ : ∃ P, idc (idF pj.s) = P := ⟨_, rfl⟩
          obtain ⟨C0, hC0⟩ : ∃ z, cntC l' (l.take i) = z := ⟨_, rfl⟩
          obtain ⟨sj, hsj⟩ : ∃ z, pj.s = z := ⟨_, rfl⟩
          have HBE : Hid (rowC b = Y ∧ cdB b = F ∧ idc r.p = P) := ⟨hY, hF, hPe⟩
          rw [hY] at HYI HFD
          rw [hF] at HFD
          rw [hD] at CD1 HFD HDL CDW
          rw [hPe] at CP1 HDP hNI
          rw [hJe] at hNI HIJ
          rw [hC0] at HTK hcl ⊢
          rw [hsj] at HCJ2 HIJ
          have HCJ3 : Hid (q.1 = idF sj) := by show _ = _; rw [← hsj]; exact HQJ.out.2.1
          rw [hsj] at hNI
          clear hr hr1 hr2 hg20 hc20 hb hokb hY hF hD hPe hJe hC0 hsj
          go_wp2_with (first
            | (refine wpList_load_mid rfl 48 (.tmp 119) rfl g20 (o20 + i * 67 + 32) rfl D.toList _ CDW.out Tryz.underlying48 rfl HDL.out ?_)
            | fail)
          refine (HFD.out wr (H20.out.2.1.below HJ.out)).mono ?_
          rintro e w21 ⟨rfl, b21⟩
          obtain ⟨w22, hw22⟩ : ∃ W, w21.alloc (.cells Y 52) = W := ⟨_, rfl⟩
          have H22 : Hid (Below w20.heap.size w20 w22 ∧ Bk w22 w21.heap.size Y 52) := by
            have q : Below wr.heap.size wr (w21.alloc (.cells Y 52)) := b21.alloc b21.size _
            rw [← hw22]
            exact ⟨HJ.out.trans (q.mono HJ.out.size), bk_new _ _ _⟩
          clear b21 CDW HFD HDL CD1
          go_upto_region 26 with (first
            | (refine wpList_store_new rfl 52 (.tmp 19) (.tmp 122) rfl Y _ 52 w21.heap.size rfl rfl rfl HYI.out.1 (by rw [HYI.out.2.2]; rfl) HYI.out.2.1 ?_)
            | fail)
          try rw [hw22]
          clear hw22
          obtain ⟨g19, hg19⟩ : ∃ g, w21.heap.size = g := ⟨_, rfl⟩
          rw [hg19] at H22 ⊢
          clear hg19
          cases b with
          | none =>
            obtain rfl : 6 = F := HBE.out.2.1
            have hpe : r.p = idF sj := Classical.byContradiction fun hne => by
              have := wo_keep HQJ.out.1 HX.out.2.2.1 (fun q hq => (HX.out.1.ix.ok q hq).ri.apart) HM.out.2 HM2.out.2 (List.mem_of_getElem? HRR.out.1) (by rw [HCJ3.out]; exact hne)
              rw [HRR.out.2.2.2.1] at this
              cases this
            have hNI2 : ∀ u, (binOp .neq 48 (.agg P) (.agg J)).run Tryz.prog u = .ok (.bool false) u := fun u => by rw [hNI u]; simp [hpe]
            have HCN : Hid (cntC l' (l.take (i + 1)) = C0) := HTK.out
            clear hNI HTK hpe
            go_upto_region 28 with fail
            refine region_class10 (fun W => Below w22.heap.size w22 W) (by kernel_rfl) (by kernel_rfl) ((Below.refl _ _).drew) ?_
            try simp only [Act.put, List.setIfInBounds_toArray, List.set_cons_zero, List.set_cons_succ]
            repeat (first
              | go_big_quiet_skip
              | (go_big_quiet_want
                 first
                   | (refine quiet_rowc 48 _ rfl g20 (o20 + i * 67) P _ rfl (fun W hW => CP1.out W (H22.out.1.trans (hW.mono H22.out.1.size))) Tryz.underlying48 rfl HDP.out ?_; go_big_quiet_on; simp only [Act.put, List.setIfInBounds_toArray, List.set_cons_zero, List.set_cons_succ])
                   | (refine quiet_str10 _ rfl gj (oj + jn * 3) sj rfl (fun W hW => HCJ2.out W (H22.out.1.trans (hW.mono H22.out.1.size))) ?_; go_big_quiet_on; simp only [Act.put, List.setIfInBounds_toArray, List.set_cons_zero, List.set_cons_succ])
                   | (refine quiet_call10 (.agg J) 18 #[.string sj] ?_ ?_ ?_; (focus (intro W hW; go_simp; done)); (focus (intro W hW; exact (HIJ.out W).mono fun e w' q => ⟨q.1, hW.trans (q.2.mono hW.size)⟩)); go_big_quiet_on; simp only [Act.put, List.setIfInBounds_toArray, List.set_cons_zero, List.set_cons_succ])
                   | (refine quiet_val10 (.pointer (some ⟨g20, o20 + i * 67, none⟩)) ?_ ?_; (focus (intro W hW; go_simp; done)); go_big_quiet_on; simp only [Act.put, List.setIfInBounds_toArray, List.set_cons_zero, List.set_cons_succ])
                   | (refine quiet_val10 (.pointer (some ⟨gj, oj + jn * 3, none⟩)) ?_ ?_; (focus (intro W hW; go_simp; done)); go_big_quiet_on; simp only [Act.put, List.setIfInBounds_toArray, List.set_cons_zero, List.set_cons_succ])
                   | (refine quiet_val10 (.bool false) ?_ ?_; (focus (intro W hW; go_simp; done)); go_big_quiet_on; simp only [Act.put, List.setIfInBounds_toArray, List.set_cons_zero, List.set_cons_succ])
                   | (go_big_quiet_op; go_big_quiet_on)))
            refine wpQuiet_nil ?_
            intro w23 hww23
            have H23 : Hid (Below w20.heap.size w20 w23 ∧ Bk w23 g19 Y 52) := ⟨H22.out.1.trans (Below.mono hww23 H22.out.1.size), H22.out.2.below hww23 H22.out.2.lt⟩
            clear hww23
            clear hNI2 H22
            go_upto_region 31 with fail
            refine region_class10 (fun W => Below w23.heap.size w23 W) (by kernel_rfl) (by kernel_rfl) ((Below.refl _ _).drew) ?_
            try simp only [Act.put, List.setIfInBounds_toArray, List.set_cons_zero, List.set_cons_succ]
            repeat (first
              | go_big_quiet_skip
              | (go_big_quiet_want
                 first
                   | (refine quiet_val10 (.bool false) ?_ ?_; (focus (intro W hW; go_simp; done)); go_big_quiet_on; simp only [Act.put, List.setIfInBounds_toArray, List.set_cons_zero, List.set_cons_succ])
                   | (refine quiet_val10 (.bool true) ?_ ?_; (focus (intro W hW; go_simp; done)); go_big_quiet_on; simp only [Act.put, List.setIfInBounds_toArray, List.set_cons_zero, List.set_cons_succ])
                   | (go_big_quiet_op; go_big_quiet_on)))
            refine wpQuiet_nil ?_
            intro w24 hww24
            have H24 : Hid (Below w20.heap.size w20 w24 ∧ Bk w24 g19 Y 52) := ⟨H23.out.1.trans (Below.mono hww24 H23.out.1.size), H23.out.2.below hww24 H23.out.2.lt⟩
            clear hww24
            go_wp2
            go_roundw
            case rel => exact ⟨i + 1, by go_num, by omega, by rw [HCN.out], H24.out.1⟩
            case measure => simp [intOf]; omega
          | some r' =>
            obtain rfl : 0 = F := HBE.out.2.1
            have HCN : Hid (cntC l' (l.take (i + 1)) = C0 + 1) := HTK.out
            by_cases hpe : r.p = idF sj
            · have hNI2 : ∀ u, (binOp .neq 48 (.agg P) (.agg J)).run Tryz.prog u = .ok (.bool false) u := fun u => by rw [hNI u]; simp [hpe]
              have hlt' := wo_later HQJ.out.1 HX.out.2.2.1 HM.out.2 HM2.out.2 (List.mem_of_getElem? HRR.out.1) (by rw [HCJ3.out]; exact hpe) HRR.out.2.2.2.1
              have hs' := HRR.out.2.2.2.2 r' rfl
              have HLS : Hid (∀ W, Calls Tryz.prog 21 #[.agg P, .agg (idc r'.p)] W fun e w' => e = .returned (.bool true) ∧ Below W.heap.size W w') := fun W => by
                have := rless13 r.p r'.p W HRR.out.2.1 hs'.1
                rw [hlt', HBE.out.2.2] at this
                exact this
              have CP2 : Hid (∀ W, Bk W g19 Y 52 → ∀ (j : Nat) (v : Value), (idc r'.p)[j]? = some v → W.cell? ⟨g19, 0 + j, none⟩ = some v) := fun W hW j v hv => by
                rw [hW.cell, ← HBE.out.1]
                exact mrC_p r' hs'.1 j v hv
              have HDP2 : Hid ((Tryz.prog.info? 48).map (·.size) = some (idc r'.p).size) := info_32 (by rw [idc_size, hs'.1])
              obtain ⟨P2, hP2⟩ : ∃ P, idc r'.p = P := ⟨_, rfl⟩
              rw [hP2] at HLS CP2 HDP2
              clear hNI HTK hpe hlt' hs' hP2
              go_upto_region 28 with fail
              refine region_class10 (fun W => Below w22.heap.size w22 W) (by kernel_rfl) (by kernel_rfl) ((Below.refl _ _).drew) ?_
              try simp only [Act.put, List.setIfInBounds_toArray, List.set_cons_zero, List.set_cons_succ]
              repeat (first
                | go_big_quiet_skip
                | (go_big_quiet_want
                   first
                     | (refine quiet_rowc 48 _ rfl g20 (o20 + i * 67) P _ rfl (fun W hW => CP1.out W (H22.out.1.trans (hW.mono H22.out.1.size))) Tryz.underlying48 rfl HDP.out ?_; go_big_quiet_on; simp only [Act.put, List.setIfInBounds_toArray, List.set_cons_zero, List.set_cons_succ])
                     | (refine quiet_str10 _ rfl gj (oj + jn * 3) sj rfl (fun W hW => HCJ2.out W (H22.out.1.trans (hW.mono H22.out.1.size))) ?_; go_big_quiet_on; simp only [Act.put, List.setIfInBounds_toArray, List.set_cons_zero, List.set_cons_succ])
                     | (refine quiet_call10 (.agg J) 18 #[.string sj] ?_ ?_ ?_; (focus (intro W hW; go_simp; done)); (focus (intro W hW; exact (HIJ.out W).mono fun e w' q => ⟨q.1, hW.trans (q.2.mono hW.size)⟩)); go_big_quiet_on; simp only [Act.put, List.setIfInBounds_toArray, List.set_cons_zero, List.set_cons_succ])
                     | (refine quiet_val10 (.pointer (some ⟨g20, o20 + i * 67, none⟩)) ?_ ?_; (focus (intro W hW; go_simp; done)); go_big_quiet_on; simp only [Act.put, List.setIfInBounds_toArray, List.set_cons_zero, List.set_cons_succ])
                     | (refine quiet_val10 (.pointer (some ⟨gj, oj + jn * 3, none⟩)) ?_ ?_; (focus (intro W hW; go_simp; done)); go_big_quiet_on; simp only [Act.put, List.setIfInBounds_toArray, List.set_cons_zero, List.set_cons_succ])
                     | (refine quiet_val10 (.bool false) ?_ ?_; (focus (intro W hW; go_simp; done)); go_big_quiet_on; simp only [Act.put, List.setIfInBounds_toArray, List.set_cons_zero, List.set_cons_succ])
                     | (go_big_quiet_op; go_big_quiet_on)))
              refine wpQuiet_nil ?_
              intro w23 hww23
              have H23 : Hid (Below w20.heap.size w20 w23 ∧ Bk w23 g19 Y 52) := ⟨H22.out.1.trans (Below.mono hww23 H22.out.1.size), H22.out.2.below hww23 H22.out.2.lt⟩
              clear hww23
              clear hNI2 H22
              go_upto_region 31 with fail
              refine region_class10 (fun W => Below w23.heap.size w23 W) (by kernel_rfl) (by kernel_rfl) ((Below.refl _ _).drew) ?_
              try simp only [Act.put, List.setIfInBounds_toArray, List.set_cons_zero, List.set_cons_succ]
              repeat (first
                | go_big_quiet_skip
                | (go_big_quiet_want
                   first
                     | (refine quiet_rowc 48 _ rfl g20 (o20 + i * 67) P _ rfl (fun W hW => CP1.out W (H23.out.1.trans (hW.mono H23.out.1.size))) Tryz.underlying48 rfl HDP.out ?_; go_big_quiet_on; simp only [Act.put, List.setIfInBounds_toArray, List.set_cons_zero, List.set_cons_succ])
                     | (refine quiet_rowc 48 _ rfl g19 0 P2 _ rfl (fun W hW => CP2.out W (H23.out.2.below hW H23.out.2.lt)) Tryz.underlying48 rfl HDP2.out ?_; go_big_quiet_on; simp only [Act.put, List.setIfInBounds_toArray, List.set_cons_zero, List.set_cons_succ])
                     | (refine quiet_call10 (.bool true) 21 #[.agg P, .agg P2] ?_ ?_ ?_; (focus (intro W hW; go_simp; done)); (focus (intro W hW; exact (HLS.out W).mono fun e w' q => ⟨q.1, hW.trans (q.2.mono hW.size)⟩)); go_big_quiet_on; simp only [Act.put, List.setIfInBounds_toArray, List.set_cons_zero, List.set_cons_succ])
                     | (refine quiet_val10 (.pointer (some ⟨g20, o20 + i * 67, none⟩)) ?_ ?_; (focus (intro W hW; go_simp; done)); go_big_quiet_on; simp only [Act.put, List.setIfInBounds_toArray, List.set_cons_zero, List.set_cons_succ])
                     | (refine quiet_val10 (.pointer (some ⟨g19, 0, none⟩)) ?_ ?_; (focus (intro W hW; go_simp; done)); go_big_quiet_on; simp only [Act.put, List.setIfInBounds_toArray, List.set_cons_zero, List.set_cons_succ])
                     | (refine quiet_val10 (.bool false) ?_ ?_; (focus (intro W hW; go_simp; done)); go_big_quiet_on; simp only [Act.put, List.setIfInBounds_toArray, List.set_cons_zero, List.set_cons_succ])
                     | (refine quiet_val10 (.bool true) ?_ ?_; (focus (intro W hW; go_simp; done)); go_big_quiet_on; simp only [Act.put, List.setIfInBounds_toArray, List.set_cons_zero, List.set_cons_succ])
                     | (go_big_quiet_op; go_big_quiet_on)))
              refine wpQuiet_nil ?_
              intro w24 hww24
              have H24 : Hid (Below w20.heap.size w20 w24 ∧ Bk w24 g19 Y 52) := ⟨H23.out.1.trans (Below.mono hww24 H23.out.1.size), H23.out.2.below hww24 H23.out.2.lt⟩
              clear hww24
              go_wp2
              go_roundw
              case rel => exact ⟨i + 1, by go_num, by omega, by rw [HCN.out]; rfl, H24.out.1⟩
              case measure => simp [intOf]; omega
            · have hNI2 : ∀ u, (binOp .neq 48 (.agg P) (.agg J)).run Tryz.prog u = .ok (.bool true) u := fun u => by rw [hNI u]; simp [hpe]
              have hrr : r' = r := by
                have := wo_keep HQJ.out.1 HX.out.2.2.1 (fun q hq => (HX.out.1.ix.ok q hq).ri.apart) HM.out.2 HM2.out.2 (List.mem_of_getElem? HRR.out.1) (by rw [HCJ3.out]; exact hpe)
                rw [HRR.out.2.2.2.1] at this
                exact Option.some.inj this
              have hYr : mrC r = Y := by rw [← HBE.out.1, hrr]; rfl
              have CYY : Hid (∀ W, Below w20.heap.size w20 W → ∀ (j : Nat) (v : Value), Y[j]? = some v → W.cell? ⟨g20, o20 + i * 67 + j, none⟩ = some v) := by rw [← hYr]; exact CY0.out
              have hNEQ : ∀ u, (binOp .neq 52 (.agg Y) (.agg Y)).run Tryz.prog u = .ok (.bool false) u := by rw [← hYr]; exact HNEG.out
              clear hNI HTK hpe hrr hYr
              go_upto_region 28 with fail
              refine region_class10 (fun W => Below w22.heap.size w22 W) (by kernel_rfl) (by kernel_rfl) ((Below.refl _ _).drew) ?_
              try simp only [Act.put, List.setIfInBounds_toArray, List.set_cons_zero, List.set_cons_succ]
              repeat (first
                | go_big_quiet_skip
                | (go_big_quiet_want
                   first
                     | (refine quiet_rowc 48 _ rfl g20 (o20 + i * 67) P _ rfl (fun W hW => CP1.out W (H22.out.1.trans (hW.mono H22.out.1.size))) Tryz.underlying48 rfl HDP.out ?_; go_big_quiet_on; simp only [Act.put, List.setIfInBounds_toArray, List.set_cons_zero, List.set_cons_succ])
                     | (refine quiet_str10 _ rfl gj (oj + jn * 3) sj rfl (fun W hW => HCJ2.out W (H22.out.1.trans (hW.mono H22.out.1.size))) ?_; go_big_quiet_on; simp only [Act.put, List.setIfInBounds_toArray, List.set_cons_zero, List.set_cons_succ])
                     | (refine quiet_call10 (.agg J) 18 #[.string sj] ?_ ?_ ?_; (focus (intro W hW; go_simp; done)); (focus (intro W hW; exact (HIJ.out W).mono fun e w' q => ⟨q.1, hW.trans (q.2.mono hW.size)⟩)); go_big_quiet_on; simp only [Act.put, List.setIfInBounds_toArray, List.set_cons_zero, List.set_cons_succ])
                     | (refine quiet_val10 (.pointer (some ⟨g20, o20 + i * 67, none⟩)) ?_ ?_; (focus (intro W hW; go_simp; done)); go_big_quiet_on; simp only [Act.put, List.setIfInBounds_toArray, List.set_cons_zero, List.set_cons_succ])
                     | (refine quiet_val10 (.pointer (some ⟨gj, oj + jn * 3, none⟩)) ?_ ?_; (focus (intro W hW; go_simp; done)); go_big_quiet_on; simp only [Act.put, List.setIfInBounds_toArray, List.set_cons_zero, List.set_cons_succ])
                     | (refine quiet_val10 (.bool true) ?_ ?_; (focus (intro W hW; go_simp; done)); go_big_quiet_on; simp only [Act.put, List.setIfInBounds_toArray, List.set_cons_zero, List.set_cons_succ])
                     | (go_big_quiet_op; go_big_quiet_on)))
              refine wpQuiet_nil ?_
              intro w23 hww23
              have H23 : Hid (Below w20.heap.size w20 w23 ∧ Bk w23 g19 Y 52) := ⟨H22.out.1.trans (Below.mono hww23 H22.out.1.size), H22.out.2.below hww23 H22.out.2.lt⟩
              clear hww23
              clear hNI2 H22
              go_upto_region 29 with fail
              refine region_class10 (fun W => Below w23.heap.size w23 W) (by kernel_rfl) (by kernel_rfl) ((Below.refl _ _).drew) ?_
              try simp only [Act.put, List.setIfInBounds_toArray, List.set_cons_zero, List.set_cons_succ]
              repeat (first
                | go_big_quiet_skip
                | (go_big_quiet_want
                   first
                     | (refine quiet_row 52 _ rfl g19 0 Y Y 52 _ rfl (fun W hW => H23.out.2.below hW H23.out.2.lt) (fun j v hv => by rw [Nat.zero_add]; exact hv) Tryz.underlying52 rfl HYI.out.1 ?_; go_big_quiet_on; simp only [Act.put, List.setIfInBounds_toArray, List.set_cons_zero, List.set_cons_succ])
                     | (refine quiet_rowc 52 _ rfl g20 (o20 + i * 67) Y _ rfl (fun W hW => CYY.out W (H23.out.1.trans (hW.mono H23.out.1.size))) Tryz.underlying52 rfl HYI.out.1 ?_; go_big_quiet_on; simp only [Act.put, List.setIfInBounds_toArray, List.set_cons_zero, List.set_cons_succ])
                     | (refine quiet_val10 (.pointer (some ⟨g20, o20 + i * 67, none⟩)) ?_ ?_; (focus (intro W hW; go_simp; done)); go_big_quiet_on; simp only [Act.put, List.setIfInBounds_toArray, List.set_cons_zero, List.set_cons_succ])
                     | (refine quiet_val10 (.bool false) ?_ ?_; (focus (intro W hW; go_simp; done)); go_big_quiet_on; simp only [Act.put, List.setIfInBounds_toArray, List.set_cons_zero, List.set_cons_succ])
                     | (refine quiet_val10 (.bool true) ?_ ?_; (focus (intro W hW; go_simp; done)); go_big_quiet_on; simp only [Act.put, List.setIfInBounds_toArray, List.set_cons_zero, List.set_cons_succ])
                     | (go_big_quiet_op; go_big_quiet_on)))
              refine wpQuiet_nil ?_
              intro w24 hww24
              have H24 : Hid (Below w20.heap.size w20 w24 ∧ Bk w24 g19 Y 52) := ⟨H23.out.1.trans (Below.mono hww24 H23.out.1.size), H23.out.2.below hww24 H23.out.2.lt⟩
              clear hww24
              clear hNEQ
              go_wp2
              go_roundw
              case rel => exact ⟨i + 1, by go_num, by omega, by rw [HCN.out]; rfl, H24.out.1⟩
              case measure => simp [intOf]; omega
        · have hiz : ¬ (i : Int) < (nl : Nat) := by omega
          have HE : Hid (Below w.heap.size w wr) := HBW.out.trans ((H20.out.1.trans (HJ.out.mono H20.out.1.size)).mono HBW.out.size)
          have hce : cntC l' (l.take i) = l'.length := by rw [List.take_of_length_le (by rw [HNL.out.1]; omega)]; exact HNL.out.2.symm
          rw [hce]
          obtain ⟨nl', hnl'⟩ : ∃ n, l'.length = n := ⟨_, rfl⟩
          have HLN : Hid (Calls Tryz.prog 22 #[.pointer (some ⟨gy, 0, none⟩)] wr fun e w' => e = .returned (.int .i64 (nl' : Int)) ∧ w' = wr) := by
            rw [← hnl']
            exact mlen_any gy PS' l' wr (H20.out.2.1.below HJ.out)
          rw [hnl']
          clear hce hnl' hcl
          go_wp2_with fail
          refine HLN.out.mono ?_
          rintro e w25 ⟨rfl, rfl⟩
          go_wp2
          go_ret
          exact ⟨rfl, HE.out⟩
end Go.Proofs.YtbfoiocbmhhdbaaGreat
/- A list of texts that came in, opened. -/
namespace Go.Proofs.YtbfoiocbmhhdbaaGreat
open Go.ChangeShapes Go.WideShapes Go.ChangeAt Go.RowKit Go.Joins
set_option linter.unusedSimpArgs false
set_option linter.unusedVariables false
/-- What lies where: the texts of a slice. -/
def LieS (w : World) (a0 : Option Addr) (len : Nat) (T : Nat → ByteArray) : Prop :=
  ∀ i, i < len → ∃ b off, a0 = some ⟨b, off, none⟩ ∧ b < w.heap.size ∧ w.cell? ⟨b, off + i, none⟩ = some (.string (T i))
theorem open_strs {H : Type} {enc : TypeId × Value → H} {w : World} {d : DataW H} {ps : List MemPlace} {a0 : Option Addr} {len cap : Nat}
    (h : DataW.Trod enc Tryz.prog w 0 (fun _ => true) true 23 (.slice a0 len cap) d ps) (hsz : ∀ q ∈ d.weights Tryz.prog 23, q ≤ reachBytes) :
    ∃ T : Nat → ByteArray, len ≤ maxLen ∧ LieS w a0 len T ∧ ∀ i, i < len → (T i).size ≤ 140737488351232 := by
  have c9 : Tryz.prog.cellsOf 9 = 1 := by kernel_rfl
  obtain ⟨hl, hall⟩ := open_elem Tryz.underlying23 (by rw [c9]; omega) h
  have one : ∀ i, i < len → ∃ t : ByteArray, (∃ b off, a0 = some ⟨b, off, none⟩ ∧ b < w.heap.size ∧ w.cell? ⟨b, off + i, none⟩ = some (.string t)) ∧ t.size ≤ 140737488351232 := by
    intro i hi
    obtain ⟨b, off, cs, D, Pl, n, ha, hb, hlen, hcell, htrod, hw⟩ := hall i hi
    rw [c9] at hlen hcell
    obtain ⟨v0, rfl⟩ : ∃ v0, cs = [v0] := by
      match cs, hlen with
      | [v0], _ => exact ⟨v0, rfl⟩
    obtain ⟨tv, e3, hy3, wt⟩ := DataW.trod_string Tryz.underlying9 htrod
    simp at e3
    subst e3
    refine ⟨tv, ⟨b, off, ha, hb, ?_⟩, ?_⟩
    · have := hcell 0 (by omega)
      simpa using this
    · have hm := hsz tv.data.toList.length (hw _ (by
        simp only [Prod.mk.injEq] at hy3
        rw [hy3.1]
        simp [DataW.weights, Tryz.underlying9]))
      have : tv.data.toList.length = tv.size := Array.length_toList
      unfold reachBytes at hm
      omega
  obtain ⟨q, hq⟩ := Go.Deep.choose_lt one
  exact ⟨q, hl, fun i hi => (hq i hi).1, fun i hi => (hq i hi).2⟩
end Go.Proofs.YtbfoiocbmhhdbaaGreat
/- A list of texts that came in, of a bulk that is told. -/
namespace Go.Proofs.YtbfoiocbmhhdbaaGreat
open Go.ChangeShapes Go.WideShapes Go.ChangeAt Go.RowKit Go.Joins
set_option linter.unusedSimpArgs false
set_option linter.unusedVariables false
theorem blk_mem {H : Type} {d : DataW H} : ∀ {l : List (DataW H)}, d ∈ l → Rows.uptoBulk d ≤ Rows.uptoBulkAll l
  | [], h => by cases h
  | x :: l, h => by
    rw [Rows.uptoBulkAll]
    rcases List.mem_cons.1 h with rfl | h
    · omega
    · have := blk_mem h; omega
theorem blk_len {H : Type} (hpos : ∀ d : DataW H, 1 ≤ Rows.uptoBulk d) : ∀ (l : List (DataW H)), l.length ≤ Rows.uptoBulkAll l
  | [] => by simp
  | x :: l => by
    rw [Rows.uptoBulkAll, List.length_cons]
    have := blk_len hpos l
    have := hpos x
    omega
theorem blk_pos {H : Type} (d : DataW H) : 1 ≤ Rows.uptoBulk d := by
  cases d with
  | lit l => cases l <;> simp [Rows.uptoBulk]
  | nil => simp [Rows.uptoBulk]
  | ptr d => simp [Rows.uptoBulk]
  | slice e s => simp [Rows.uptoBulk]
  | agg p => simp [Rows.uptoBulk]
  | iface t d => simp [Rows.uptoBulk]
  | map e => simp [Rows.uptoBulk]
  | held h => simp [Rows.uptoBulk]
theorem open_txl_upto {H : Type} {enc : TypeId × Value → H} {w : World} {d : DataW H} {ps : List MemPlace} {a0 : Option Addr} {len cap N : Nat}
    (h : DataW.Trod enc Tryz.prog w 0 (fun _ => true) true 23 (.slice a0 len cap) d ps) (hN : Rows.uptoBulk d ≤ N) :
    ∃ xs : List ByteArray, xs.length = len ∧ TxL w a0 xs ∧ (∀ x ∈ xs, x.size ≤ N) ∧ len ≤ N := by
  have c9 : Tryz.prog.cellsOf 9 = 1 := by kernel_rfl
  obtain ⟨fuel, hf⟩ := h
  have hcs : (Value.slice a0 len cap).cells.toList = [.slice a0 len cap] := by simp [Value.cells]
  rw [hcs] at hf
  rcases Go.Deep.open_slice1 Tryz.underlying23 c9 hf with ⟨h1, _⟩ | ⟨a, l, c, m, n, V, D, Pl, h1, _, hl, hm, hmm, hx, hi⟩
  · simp only [List.cons.injEq, Value.slice.injEq, and_true] at h1
    obtain ⟨rfl, rfl, rfl⟩ := h1
    exact ⟨[], rfl, fun i x hx => by simp at hx, fun x hx => (by cases hx), by omega⟩
  · simp only [List.cons.injEq, Value.slice.injEq, and_true] at h1
    obtain ⟨rfl, rfl, rfl⟩ := h1
    simp only [Prod.mk.injEq] at hx
    have hlm : len ≤ m := by rw [hmm]; split <;> omega
    rw [hx.1, Rows.uptoBulk] at hN
    have hlen := blk_len blk_pos ((List.range len).map D)
    rw [List.length_map, List.length_range] at hlen
    have one : ∀ i, i < len → ∃ t : ByteArray, (∃ b off, a = ⟨b, off, none⟩ ∧ b < w.heap.size ∧ w.cell? ⟨b, off + i, none⟩ = some (.string t)) ∧ t.size ≤ N := by
      intro i hil
      obtain ⟨h2, h3⟩ := hi i (by omega)
      obtain ⟨tv, e3, hy3, _⟩ := DataW.trod_string Tryz.underlying9 h3
      simp only [List.cons.injEq, and_true] at e3
      rw [e3] at h2
      obtain ⟨b, off, sp⟩ := a
      have hsp : sp = none := by
        have k2 := (hi 0 (by omega)).1
        obtain ⟨t0, e0, _⟩ := DataW.trod_string Tryz.underlying9 (hi 0 (by omega)).2
        rw [show (⟨b, off, sp⟩ : Addr).add 0 = ⟨b, off, sp⟩ from rfl] at k2
        exact World.cell?_spot k2
      subst hsp
      rw [add_plain] at h2
      refine ⟨tv, ⟨b, off, rfl, block_lt_of_cell h2, h2⟩, ?_⟩
      have hmem := blk_mem (d := D i) (l := (List.range len).map D) (List.mem_map.2 ⟨i, by simpa using hil, rfl⟩)
      simp only [Prod.mk.injEq] at hy3
      rw [hy3.1, Rows.uptoBulk] at hmem
      have : tv.data.toList.length = tv.size := Array.length_toList
      omega
    obtain ⟨T, hT⟩ := Go.Deep.choose_lt one
    refine ⟨(List.range len).map T, by simp, fun i x hx => ?_, fun x hx => ?_, by omega⟩
    · rw [List.getElem?_map] at hx
      obtain ⟨j, hj, rfl⟩ := Option.map_eq_some_iff.1 hx
      obtain ⟨h1, h2⟩ := List.getElem?_eq_some_iff.1 hj
      simp at h1 h2
      subst h2
      obtain ⟨b, off, rfl, hb, hc⟩ := (hT i h1).1
      exact ⟨b, off, rfl, hb, hc⟩
    · obtain ⟨i, hi, rfl⟩ := List.mem_map.1 hx
      exact (hT i (by simpa using hi)).2
end Go.Proofs.YtbfoiocbmhhdbaaGreat
