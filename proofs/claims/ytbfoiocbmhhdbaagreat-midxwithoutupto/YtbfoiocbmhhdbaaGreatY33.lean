import Derived.Test.YtbfoiocbmhhdbaaGreatY28
import Derived.Test.YtbfoiocbmhhdbaaGreatY31
import Derived.Test.YtbfoiocbmhhdbaaGreatY32
/- MidxFound: the walk. -/
namespace Go.Proofs.YtbfoiocbmhhdbaaGreat
open Go.RowKit
set_option linter.unusedSimpArgs false
set_option linter.unusedVariables false
def idsOf (l : List Pk) : List ByteArray := l.flatMap fun p => p.L.map fun e => e.id
theorem idsOf_snoc (l : List Pk) (p : Pk) : idsOf (l ++ [p]) = idsOf l ++ p.L.map fun e => e.id := by simp [idsOf]
theorem idsOf_len (l : List Pk) : (idsOf l).length = (l.map (fun p => p.L.length)).sum := by
  unfold idsOf
  rw [List.length_flatMap]
  congr 1
  exact List.map_congr_left (fun p _ => by simp)
theorem idsOf_mem {l : List Pk} {p : Pk} (hp : p ∈ l) {y : Xe} (hy : y ∈ p.L) : y.id ∈ idsOf l := List.mem_flatMap.2 ⟨p, hp, List.mem_map.2 ⟨y, hy, rfl⟩⟩
/-- What is known of unlike packs. -/
structure UnF (w : World) (ao : Option Addr) (us : List Pk) : Prop where
  pk : PkL w ao us
  it : PkI w us
  bare : ∀ p ∈ us, p.t = ⟨#[]⟩
  len : us.length ≤ 30
  ap : us.Pairwise (fun a b => idF a.s ≠ idF b.s)
  sum : (us.map (fun p => p.L.length)).sum ≤ 1048576
theorem unF_of {w w2 : World} {ao : Option Addr} {ps : List Pk} (hi : PkI w ps) (hs : (ps.map (fun p => p.L.length)).sum ≤ 1048576) (hb : Below w.heap.size w w2) (hx : PkL w2 ao (unP ps)) : UnF w2 ao (unP ps) := by
  have hr := unP_r ps
  refine ⟨hx, fun p hp => ?_, fun p hp => ?_, unP_len ps, hr.apart, Nat.le_trans hr.sum (Nat.le_trans (sum_take ps 30) hs)⟩
  · obtain ⟨q, hq, rfl⟩ := hr.src p hp
    obtain ⟨h1, h2⟩ := hi q (List.mem_of_mem_take hq)
    exact ⟨h1.below hb, h2⟩
  · obtain ⟨q, hq, rfl⟩ := hr.src p hp
    rfl
theorem Ixs.sz {R : List ByteArray} {xs : List (ByteArray × List Xe)} (h : Ixs R xs) : ∀ t ∈ R, t.size ≤ 4611686018427387904 := fun t ht => by
  obtain ⟨i, hi⟩ := List.getElem?_of_mem ht
  have hl : i < R.length := (List.getElem?_eq_some_iff.1 hi).1
  obtain ⟨q, hq⟩ : ∃ q, xs[i]? = some q := ⟨_, List.getElem?_eq_getElem (by rw [← h.len]; exact hl)⟩
  have := isIx_size (h.ix i t q hi hq)
  omega
/-- A name's mark; a code. -/
def elF : ByteArray → Value := fun _ => .int .i64 1
def cdB : Option Mr → Int
  | none => 6
  | some _ => 0
theorem mfdV_eq (b : Option Mr) : mfdV b = .tuple #[.agg (rowC b), .int .i64 (cdB b)] := by cases b <;> rfl
set_option maxHeartbeats 32000000 in
set_option maxRecDepth 100000 in
theorem found15 (a : Option Addr) (n c : Nat) (ps : List Pk) (a1 : Option Addr) (n1 c1 : Nat) (qs : List ByteArray) (w : World) (hp : PkL w a ps) (hi : PkI w ps) (hn : ps.length = n) (hn2 : n ≤ 4611686018427387904)
    (hs : (ps.map (fun p => p.L.length)).sum ≤ 1048576) (ht : TxL w a1 qs) (hq : qs.length = n1) (hq2 : n1 ≤ 1048576) (ha : a1 = none → qs = [] ∧ c1 = 0) :
    Calls Tryz.prog 4 #[.slice a n c, .slice a1 n1 c1] w fun e w' => e = .returned (.bool true) ∧ Below w.heap.size w w' := by
  have HP : Hid (PkL w a ps ∧ PkI w ps ∧ ps.length = n ∧ n ≤ 4611686018427387904 ∧ (ps.map (fun p => p.L.length)).sum ≤ 1048576) := ⟨hp, hi, hn, hn2, hs⟩
  have HQ : Hid (TxL w a1 qs ∧ qs.length = n1 ∧ n1 ≤ 1048576 ∧ (a1 = none → qs = [] ∧ c1 = 0)) := ⟨ht, hq, hq2, ha⟩
  have HID : Hid (∀ x u, Calls Tryz.prog 18 #[.string x] u fun e w' => e = .returned (.agg (idc (idF x))) ∧ Below u.heap.size u w') := fun x u => id_any15 x u
  clear hp hi hn hn2 hs ht hq hq2 ha
  go_enter Tryz.func4, Tryz.ntmps4
  go_wp2_with fail
  refine (awake15 _).mono ?_
  rintro e w1 ⟨rfl, b1⟩
  have H1 : Hid (PkL w1 a ps ∧ Below w.heap.size w w1) := ⟨HP.out.1.below b1, b1⟩
  clear b1
  go_wp2_with fail
  refine (unlike_any a n c ps w1 H1.out.1 HP.out.2.2.1 HP.out.2.2.2.1).mono ?_
  rintro e w2 ⟨v2, rfl, hO⟩
  obtain ⟨us, hus⟩ : ∃ us, unP ps = us := ⟨_, rfl⟩
  obtain ⟨m, hm⟩ : ∃ m, us.length = m := ⟨_, rfl⟩
  have hox := hO.ow
  rw [hus, hm] at hox
  obtain ⟨ao, co, rfl, hxo, _, _⟩ := own_pkl hox hm
  have hbw : Below w.heap.size w w2 := H1.out.2.trans (hO.bel.mono H1.out.2.size)
  have HU : Hid (UnF w2 ao us ∧ us.length = m) := by
    rw [← hus] at hxo ⊢
    exact ⟨unF_of HP.out.2.1 HP.out.2.2.2.2 hbw hxo, by rw [hus, hm]⟩
  have HBW : Hid (Below w.heap.size w w2) := hbw
  have hm30 : m ≤ 30 := by rw [← HU.out.2]; exact HU.out.1.len
  have HR0 : Hid (∃ R xs, R.length = 0 ∧ IxU (us.take 0) R xs ∧ TwT w2 R R.reverse (.slice none 0 0) (.slice none 0 0) w2) := ⟨[], [], rfl, by rw [List.take_zero]; exact IxU.nil, TwT.nil w2⟩
  clear hO hus hox hm hxo hbw H1
  go_wp2
  go_loopw [5, 6, 7] (fun v u i W => ∃ k : Nat, i = .int .i64 k ∧ k ≤ m ∧ Hid (∃ R xs, R.length = k ∧ IxU (us.take k) R xs ∧ TwT w2 R R.reverse v u W)) (fun _ _ i _ => m - (intOf i).toNat)
  case atStart => exact ⟨0, rfl, Nat.zero_le _, HR0.out⟩
  case round =>
    clear HR0
    obtain ⟨k, rfl, hk, HR⟩ := hrel
    by_cases hlt : k < m
    · have hkz : (k : Int) < (m : Nat) := by omega
      obtain ⟨R, xs, hRk, hix, htw⟩ := HR.out
      obtain ⟨p, hpk⟩ : ∃ p, us[k]? = some p := ⟨_, List.getElem?_eq_getElem (by rw [HU.out.2]; exact hlt)⟩
      obtain ⟨g, o, rfl, hg, hc⟩ := HU.out.1.pk k p hpk
      have hmem := List.mem_of_getElem? hpk
      have hbare := HU.out.1.bare p hmem
      obtain ⟨hit, hin, hin2⟩ := HU.out.1.it p hmem
      have HTK : Hid (us.take (k + 1) = us.take k ++ [p]) := by show _ = _; rw [List.take_add_one, hpk]; rfl
      have HIX : Hid (IxU (us.take k) R xs ∧ R.length = k ∧ TwT w2 R R.reverse u5 u6 wr) := ⟨hix, hRk, htw⟩
      have HIT : Hid (ItL wr p.a p.L ∧ p.L.length = p.n ∧ p.n ≤ 4611686018427387904) := ⟨hit.below htw.bel, hin, hin2⟩
      have e0 : wr.cell? ⟨g, o + k * 3, none⟩ = some (.string p.s) := by rw [htw.bel.cell (p := ⟨g, o + k * 3, none⟩) hg]; exact hc 0 _ rfl
      have e1 : wr.cell? ⟨g, o + k * 3 + 1, none⟩ = some (.slice p.a p.n p.c) := by rw [htw.bel.cell (p := ⟨g, o + k * 3 + 1, none⟩) hg]; exact hc 1 _ rfl
      have e2 : wr.cell? ⟨g, o + k * 3 + 2, none⟩ = some (.string ⟨#[]⟩) := by rw [htw.bel.cell (p := ⟨g, o + k * 3 + 2, none⟩) hg, ← hbare]; exact hc 2 _ rfl
      clear hRk hix htw hpk hg hc hmem hbare hit hin hin2 HR
      go_wp2_with fail
      refine (index_any15 p.s ⟨#[]⟩ p.a p.n p.c p.L wr HIT.out.1 HIT.out.2.1 HIT.out.2.2).mono ?_
      rintro e w3 ⟨T, rfl, hT, b3⟩
      obtain ⟨M, hM⟩ := HIX.out.1.snoc hT
      have HN : Hid (IxU (us.take (k + 1)) (R ++ [T]) (xs ++ [(idF p.s, M)]) ∧ (R ++ [T]).length = k + 1) := ⟨by rw [HTK.out]; exact hM, by rw [List.length_append, HIX.out.2.1]; rfl⟩
      obtain ⟨g5, cp5, w4, hr4, ht4⟩ := (HIX.out.2.2.next b3).app T (by rw [HIX.out.2.1]; omega)
      rw [HIX.out.2.1] at hr4 ht4
      obtain ⟨g6, cp6, w5, hr5, ht5⟩ := ht4.pre T (by rw [List.length_reverse, HIX.out.2.1]; omega)
      have c5 : w4.cell? ⟨g5, k, none⟩ = some (.string T) := by
        have ho := ht4.t
        rw [HN.out.2] at ho
        rw [ho.cellAt k (by omega), sv, List.getElem?_map, List.getElem?_append_right (by rw [HIX.out.2.1]; omega), HIX.out.2.1, Nat.sub_self]
        rfl
      rw [List.length_reverse, HIX.out.2.1] at hr5 ht5
      have HT5 : Hid (TwT w2 (R ++ [T]) (R ++ [T]).reverse (.slice (some ⟨g5, 0, none⟩) (k + 1) cp5) (.slice (some ⟨g6, 0, none⟩) (k + 1) cp6) w5) := by
        rw [List.reverse_append]
        exact ht5
      clear hT b3 hM ht4 ht5 HIX HTK HIT e0 e1 e2
      go_wp2_with (first
        | (refine wpList_appX rfl (.tmp 37) (.tmp 43) 23 23 rfl u5 (.slice (some ⟨w3.heap.size, 0, none⟩) 1 1) (.slice (some ⟨g5, 0, none⟩) (k + 1) cp5) w4 rfl rfl hr4 ?_)
        | (refine wpList_appX rfl (.tmp 49) (.tmp 50) 23 23 rfl (.slice (some ⟨w4.heap.size, 0, none⟩) 1 1) u6 (.slice (some ⟨g6, 0, none⟩) (k + 1) cp6) w5 rfl rfl hr5 ?_)
        | fail)
      clear hr4 hr5 c5
      try go_wp2
      go_roundw
      case rel => exact ⟨k + 1, by go_num, by omega, _, _, HN.out.2, HN.out.1, HT5.out⟩
      case measure => simp [intOf]; omega
    · have hkz : ¬ (k : Int) < (m : Nat) := by omega
      obtain ⟨R, xs, hRk, hix, htw⟩ := HR.out
      have hkm : k = m := by omega
      rw [hkm, List.take_of_length_le (by rw [HU.out.2]; omega)] at hix
      rw [hkm] at hRk
      have hun := hix.unl HU.out.1.ap
      have hrl : R.reverse.length = m := by rw [List.length_reverse, hRk]
      have HX : Hid (IxU us R xs ∧ R.length = m ∧ Unl xs ∧ (rwA xs).length ≤ 1048576 ∧ xs.length = m ∧ R.reverse.length = m) := ⟨hix, hRk, hun, Nat.le_trans hix.ln HU.out.1.sum, by rw [hix.len.1, HU.out.2], hrl⟩
      have h5 := htw.t
      have h6 := htw.r
      rw [hRk] at h5
      rw [hrl] at h6
      obtain ⟨a5, c5, rfl, ht5⟩ := own_txl15 hRk h5
      obtain ⟨a6, c6, rfl, ht6⟩ := own_txl15 hrl h6
      have H6 : Hid (Below w2.heap.size w2 wr ∧ TxL wr a5 R ∧ TxL wr a6 R.reverse) := ⟨htw.bel, ht5, ht6⟩
      have HSZ : Hid (∀ t ∈ R, t.size ≤ 4611686018427387904) := fun t ht => HX.out.1.ix.sz t ht
      clear hRk hix htw hkm hun hrl h5 h6 ht5 ht6 HR hlt hk
      go_wp2_with fail
      refine (merge_any a5 m c5 R wr H6.out.2.1 HX.out.2.1 (by omega) HSZ.out).mono ?_
      rintro e w6 ⟨h1, b6⟩
      obtain ⟨PS, l, hm1, hok, rfl⟩ := h1.yes HX.out.1.ix HX.out.2.2.1 (by rw [HX.out.2.1]; omega) HX.out.2.2.2.1
      have hmx : IsMx ⟨(mxB PS l).toArray⟩ PS l := ⟨hok, rfl⟩
      obtain ⟨T, hT⟩ : ∃ T, (⟨(mxB PS l).toArray⟩ : ByteArray) = T := ⟨_, rfl⟩
      rw [hT] at hmx ⊢
      have HM : Hid (IsMx T PS l ∧ Mgd xs PS l ∧ (⟨(mxB PS l).toArray⟩ : ByteArray) = T) := ⟨hmx, hm1, hT⟩
      have H7 : Hid (Below w2.heap.size w2 w6 ∧ TxL w6 a5 R ∧ TxL w6 a6 R.reverse) := ⟨H6.out.1.trans (b6.mono H6.out.1.size), H6.out.2.1.below b6, H6.out.2.2.below b6⟩
      clear h1 b6 hm1 hok hmx hT H6
      go_wp2_with fail
      refine (merge_any a6 m c6 R.reverse w6 H7.out.2.2 HX.out.2.2.2.2.2 (by omega) (fun t ht => HSZ.out t (List.mem_reverse.1 ht))).mono ?_
      rintro e w7 ⟨h2, b7⟩
      obtain ⟨PS', l', hm2, hok2, rfl⟩ := h2.yes HX.out.1.ix.rev HX.out.2.2.1.rev (by rw [HX.out.2.2.2.2.2]; omega) (by rw [rwA_rev]; exact HX.out.2.2.2.1)
      obtain ⟨rfl, rfl⟩ := Mgd.one HX.out.2.2.1 (fun q hq => (HX.out.1.ix.ok q hq).ri.apart) HM.out.2.1 hm2.rev
      rw [HM.out.2.2]
      have H8 : Hid (Below w2.heap.size w2 w7 ∧ TxL w7 a5 R) := ⟨H7.out.1.trans (b7.mono H7.out.1.size), H7.out.2.1.below b7⟩
      clear h2 b7 hm2 hok2 H7
      go_wp2_with fail
      refine (mopen_any T w7 (by have := isMx_sz HM.out.1; omega)).mono ?_
      rintro e w8 ⟨hO, b8⟩
      obtain ⟨gx, rfl, hX⟩ := hO.yes HM.out.1
      have H9 : Hid (Below w2.heap.size w2 w8 ∧ TxL w8 a5 R ∧ MxS w8 gx PS l) := ⟨H8.out.1.trans (b8.mono H8.out.1.size), H8.out.2.below b8, hX⟩
      clear hO b8 hX H8
      go_wp2_with fail
      refine (mpacks_any gx PS l w8 H9.out.2.2).mono ?_
      rintro e w9 ⟨v9, rfl, ho9, b9⟩
      have hpm : PS.length = m := by rw [HM.out.2.1.len HX.out.2.2.1, HX.out.2.2.2.2.1]
      rw [hpm] at ho9
      obtain ⟨a9, c9, rfl, _⟩ := own_nms HM.out.1.ok.psz hpm ho9
      have H10 : Hid (Below w2.heap.size w2 w9 ∧ TxL w9 a5 R ∧ MxS w9 gx PS l) := ⟨H9.out.1.trans (b9.mono H9.out.1.size), H9.out.2.1.below b9, H9.out.2.2.below b9⟩
      obtain ⟨v14, w10, hr10, hn10⟩ := NmT.start w9 a1 c1 qs (HQ.out.1.below (HBW.out.trans (H10.out.1.mono HBW.out.size))) HQ.out.2.2.2 (by have := HQ.out.2; omega)
      rw [HQ.out.2.1] at hr10
      have HNM : Hid (NmT w9 (qs ++ idsOf (us.take 0)) v14 w10) := by
        show NmT _ _ _ _
        rw [List.take_zero]
        simpa [idsOf] using hn10
      clear ho9 b9 hpm hn10 H9
      go_wp2_with (first
        | (refine wpList_appX rfl (.tmp 94) (.tmp 95) 23 23 rfl (.slice (some ⟨w9.heap.size, 0, none⟩) 0 0) (.slice a1 n1 c1) v14 w10 rfl rfl hr10 ?_)
        | fail)
      clear hr10
      try go_wp2
      have HPK2 : Hid (∀ i p, us[i]? = some p → ∃ g o, ao = some ⟨g, o, none⟩ ∧ (∀ W, Below w9.heap.size w9 W → W.cell? ⟨g, o + i * 3 + 1, none⟩ = some (.slice p.a p.n p.c)) ∧ ItL w9 p.a p.L ∧ p.L.length = p.n) := fun i p hp => by
        obtain ⟨g, o, h1, h2, h3⟩ := HU.out.1.pk i p hp
        obtain ⟨k1, k2, _⟩ := HU.out.1.it p (List.mem_of_getElem? hp)
        exact ⟨g, o, h1, fun W hW => by rw [(H10.out.1.trans (hW.mono H10.out.1.size)).cell (p := ⟨g, o + i * 3 + 1, none⟩) h2]; exact h3 1 _ rfl, k1.below H10.out.1, k2⟩
      have HBN : Hid (∀ (k : Nat) (L : List Xe), (qs ++ idsOf (us.take k)).length ≤ 2097152) := fun k L => by
        show _ ≤ _
        rw [List.length_append, HQ.out.2.1, idsOf_len]
        have h1 := sum_take (f := fun p => p.L.length) us k
        have h2 := HU.out.1.sum
        have h3 := HQ.out.2.2.1
        omega
      go_loopw [14, 15] (fun v u W => ∃ i : Nat, u = .int .i64 i ∧ i ≤ m ∧ Hid (NmT w9 (qs ++ idsOf (us.take i)) v W)) (fun _ u _ => m - (intOf u).toNat)
      case atStart => exact ⟨0, rfl, Nat.zero_le _, HNM.out⟩
      case round =>
        clear HNM
        obtain ⟨i, rfl, hi, HN⟩ := hrel
        by_cases hli : i < m
        · have hiz : (i : Int) < (m : Nat) := by omega
          obtain ⟨p, hpk⟩ : ∃ p, us[i]? = some p := ⟨_, List.getElem?_eq_getElem (by rw [HU.out.2]; exact hli)⟩
          obtain ⟨g, o, rfl, hcp, hit, hin⟩ := HPK2.out i p hpk
          have HTK : Hid (us.take (i + 1) = us.take i ++ [p]) := by show _ = _; rw [List.take_add_one, hpk]; rfl
          have HPL : Hid ((qs ++ idsOf (us.take i)).length + p.L.length ≤ 2097152 ∧ p.L.length ≤ 1048576) := by
            have h1 := HBN.out (i + 1) []
            rw [HTK.out, idsOf_snoc, ← List.append_assoc, List.length_append, List.length_map] at h1
            have h2 := HU.out.1.sum
            have h3 := sum_take (f := fun p => p.L.length) us (i + 1)
            rw [HTK.out, List.map_append, List.sum_append] at h3
            simp at h3
            exact ⟨h1, by omega⟩
          obtain ⟨ap, hap⟩ : ∃ x, p.a = x := ⟨_, rfl⟩
          obtain ⟨np, hnp⟩ : ∃ x, p.n = x := ⟨_, rfl⟩
          obtain ⟨cp, hcpp⟩ : ∃ x, p.c = x := ⟨_, rfl⟩
          rw [hap, hnp, hcpp] at hcp
          rw [hap] at hit
          rw [hnp] at hin
          have HIT : Hid (ItL w9 ap p.L ∧ p.L.length = np) := ⟨hit, hin⟩
          have HCP : Hid (∀ W, Below w9.heap.size w9 W → W.cell? ⟨g, o + i * 3 + 1, none⟩ = some (.slice ap np cp)) := hcp
          have hnp2 : np ≤ 1048576 := by rw [← hin]; exact HPL.out.2
          have HN0 : Hid (NmT w9 (qs ++ idsOf (us.take i) ++ (p.L.take 0).map (fun e => e.id)) u14 wr) := by
            show NmT _ _ _ _
            rw [List.take_zero, List.map_nil, List.append_nil]
            exact HN.out
          clear hpk hcp hit hin hap hnp hcpp HN
          go_wp2
          go_loopw [14, 16] (fun v u W => ∃ k : Nat, u = .int .i64 k ∧ k ≤ np ∧ Hid (NmT w9 (qs ++ idsOf (us.take i) ++ (p.L.take k).map (fun e => e.id)) v W)) (fun _ u _ => np - (intOf u).toNat)
          case atStart => exact ⟨0, rfl, Nat.zero_le _, HN0.out⟩
          case round =>
            clear HN0
            obtain ⟨k, rfl, hk, HN⟩ := hrel
            have d0 := HCP.out wr HN.out.bel
            by_cases hlk : k < np
            · have hkz : (k : Int) < (np : Nat) := by omega
              obtain ⟨x, hx⟩ : ∃ x, p.L[k]? = some x := ⟨_, List.getElem?_eq_getElem (by rw [HIT.out.2]; exact hlk)⟩
              obtain ⟨gi, oi, rfl, hgi, hci, _⟩ := HIT.out.1 k x hx
              have d1 : wr.cell? ⟨gi, oi + k * 4, none⟩ = some (.string x.id) := by rw [HN.out.bel.cell (p := ⟨gi, oi + k * 4, none⟩) hgi]; exact hci
              obtain ⟨N, hN⟩ : ∃ N, qs ++ idsOf (us.take i) ++ (p.L.take k).map (fun e => e.id) = N := ⟨_, rfl⟩
              obtain ⟨nl, hnl⟩ : ∃ n, N.length = n := ⟨_, rfl⟩
              have hnl2 : nl ≤ 3000000 := by
                rw [← hnl, ← hN, List.length_append, List.length_map, List.length_take]
                have h1 := HPL.out.1
                have h2 := HIT.out.2
                omega
              have hN2 : qs ++ idsOf (us.take i) ++ (p.L.take (k + 1)).map (fun e => e.id) = N ++ [x.id] := by
                rw [← hN, List.take_add_one, hx, Option.toList_some, List.map_append, ← List.append_assoc]
                rfl
              rw [hN] at HN
              obtain ⟨g7, cp7, w7', hr7, hn7⟩ := HN.out.app x.id (by omega)
              rw [hnl] at hr7 hn7
              have HN7 : Hid (NmT w9 (qs ++ idsOf (us.take i) ++ (p.L.take (k + 1)).map (fun e => e.id)) (.slice (some ⟨g7, 0, none⟩) (nl + 1) cp7) w7') := by rw [hN2]; exact hn7
              clear hx hgi hci hN hnl hN2 hn7
              go_wp2_with (first
                | (refine wpList_appX rfl (.tmp 113) (.tmp 123) 23 23 rfl u14 (.slice (some ⟨wr.heap.size, 0, none⟩) 1 1) (.slice (some ⟨g7, 0, none⟩) (nl + 1) cp7) w7' rfl rfl hr7 ?_)
                | fail)
              clear hr7
              try go_wp2
              go_roundw
              case rel => exact ⟨k + 1, by go_num, by omega, HN7.out⟩
              case measure => simp [intOf]; omega
            · have hkz : ¬ (k : Int) < (np : Nat) := by omega
              have HN7 : Hid (NmT w9 (qs ++ idsOf (us.take (i + 1))) u14 wr) := by
                have := HN.out
                rw [List.take_of_length_le (l := p.L) (by rw [HIT.out.2]; omega)] at this
                show NmT _ _ _ _
                rw [HTK.out, idsOf_snoc, ← List.append_assoc]
                exact this
              go_wp2
              go_roundw
              case rel => exact ⟨i + 1, by go_num, by omega, HN7.out⟩
              case measure => simp [intOf]; omega
        · have hiz : ¬ (i : Int) < (m : Nat) := by omega
          have hN := HN.out
          rw [List.take_of_length_le (l := us) (by rw [HU.out.2]; omega)] at hN
          obtain ⟨N, hNe⟩ : ∃ N, qs ++ idsOf us = N := ⟨_, rfl⟩
          obtain ⟨nN, hnN⟩ : ∃ n, N.length = n := ⟨_, rfl⟩
          have HNN : Hid (∀ p ∈ us, ∀ y ∈ p.L, y.id ∈ N) := fun p hp y hy => by rw [← hNe]; exact List.mem_append_right _ (idsOf_mem hp hy)
          have hnb : nN ≤ 2097152 := by
            have := HBN.out m []
            rw [List.take_of_length_le (l := us) (by rw [HU.out.2]; omega), hNe, hnN] at this
            exact this
          rw [hNe] at hN
          have how := hN.ow
          rw [hnN] at how
          obtain ⟨a14, c14, rfl, ht14⟩ := own_txl15 hnN how
          have H11 : Hid (Below w2.heap.size w2 wr ∧ TxL wr a5 R ∧ MxS wr gx PS l ∧ TxL wr a14 N ∧ N.length = nN) := ⟨H10.out.1.trans (hN.bel.mono H10.out.1.size), H10.out.2.1.below hN.bel, H10.out.2.2.below hN.bel, ht14, hnN⟩
          have hmm := @run_makeMap Tryz.prog
          obtain ⟨wb, hwb⟩ : ∃ W, wr = W := ⟨_, rfl⟩
          rw [hwb] at H11 ⊢
          have HK0 : Hid (∃ d, FdN xs (N.take 0) d ∧ KvM id elF (wb.alloc (.map #[] 0)) wb.heap.size d ∧ d.length ≤ 0 ∧ Below wb.heap.size wb (wb.alloc (.map #[] 0))) := ⟨[], by rw [List.take_zero]; exact FdN.nil xs, KvM.made id elF wb, Nat.le_refl _, (Below.refl _ _).alloc (Nat.le_refl _) _⟩
          clear hN hNe hnN how ht14 hwb HN HPK2 HBN H10
          go_wp2
          clear hmm
          go_loopw [18] (fun v W => ∃ i : Nat, v = .int .i64 i ∧ i ≤ nN ∧ Hid (∃ d, FdN xs (N.take i) d ∧ KvM id elF W wb.heap.size d ∧ d.length ≤ i ∧ Below wb.heap.size wb W)) (fun v _ => nN - (intOf v).toNat)
          case atStart => exact ⟨0, rfl, Nat.zero_le _, HK0.out⟩
          case round =>
            clear HK0
            obtain ⟨j, rfl, hj, HK⟩ := hrel
            by_cases hlj : j < nN
            · have hjz : (j : Int) < (nN : Nat) := by omega
              obtain ⟨d, hfd, hkv, hdl, hbd⟩ := HK.out
              obtain ⟨nm, hnm⟩ : ∃ x, N[j]? = some x := ⟨_, List.getElem?_eq_getElem (by rw [H11.out.2.2.2.2]; exact hlj)⟩
              obtain ⟨g14, o14, rfl, hg14, hc14⟩ := H11.out.2.2.2.1 j nm hnm
              have HKD : Hid (FdN xs (N.take j) d ∧ KvM id elF wr wb.heap.size d ∧ d.length ≤ j ∧ Below wb.heap.size wb wr) := ⟨hfd, hkv, hdl, hbd⟩
              have HTK : Hid (N.take (j + 1) = N.take j ++ [nm]) := by show _ = _; rw [List.take_add_one, hnm]; rfl
              have CN : Hid (∀ W, Below wb.heap.size wb W → W.cell? ⟨g14, o14 + j, none⟩ = some (.string nm)) := fun W hW => by rw [hW.cell (p := ⟨g14, o14 + j, none⟩) hg14]; exact hc14
              have d0 := CN.out wr hbd
              have HIDn : Hid (∀ u, Calls Tryz.prog 18 #[.string nm] u fun e w' => e = .returned (.agg (idc (idF nm))) ∧ Below u.heap.size u w') := fun u => HID.out nm u
              have HFI : Hid (∀ W, TxL W a5 R → Calls Tryz.prog 17 #[.slice a5 m c5, .agg (idc (idF nm))] W fun e w' => ∃ b, e = .returned (.tuple #[.agg (rowC b), .bool b.isSome]) ∧ Bst xs (idF nm) b ∧ okB b ∧ Below W.heap.size W w') := fun W hW => first_any a5 m c5 R xs (idF nm) W hW HX.out.2.1 HX.out.1.ix (idF_size _) (by omega)
              have HFD0 : Hid (∀ b W, Bst xs (idF nm) b → MxS W gx PS l → Calls Tryz.prog 19 #[.pointer (some ⟨gx, 0, none⟩), .agg (idc (idF nm))] W fun e w' => e = .returned (.tuple #[.agg (rowC b), .int .i64 (cdB b)]) ∧ Below W.heap.size W w') := fun b W hb hW => by
                have := mfind_any gx (idF nm) PS l W hW HM.out.2.1.ri (idF_size _)
                rw [hb.mgd HM.out.2.1 HX.out.2.2.1 (fun q hq => (HX.out.1.ix.ok q hq).ri.apart), mfdV_eq] at this
                exact this
              have HPT : Hid (∀ W, KvM id elF W wb.heap.size d → ∃ w', (Instr.mapUpdate 46 (.map (some wb.heap.size)) (.agg (idc (idF nm))) (.int .i64 1)).run Tryz.prog W = .ok () w' ∧ KvM id elF w' wb.heap.size (ptK id d (idF nm)) ∧ W.grownBy w' (some wb.heap.size)) := fun W hW =>
                hW.put (t := 46) Tryz.underlying46 (by unfold maxLen; omega) (idF nm) (idF_size nm)
              obtain ⟨D, hD⟩ : ∃ D, idc (idF nm) = D := ⟨_, rfl⟩
              rw [hD] at HIDn HFI HFD0 HPT
              clear hfd hkv hdl hbd hnm hg14 hc14 hD HK
              go_wp2_with fail
              refine (HIDn.out _).mono ?_
              rintro e w11 ⟨rfl, b11⟩
              have H12 : Hid (Below wb.heap.size wb w11 ∧ KvM id elF w11 wb.heap.size d) := ⟨HKD.out.2.2.2.trans (b11.mono HKD.out.2.2.2.size), HKD.out.2.1.below b11⟩
              clear b11 d0
              go_wp2_with fail
              refine (HFI.out w11 (H11.out.2.1.below H12.out.1)).mono ?_
              rintro e w12 ⟨b, rfl, hb, hok, b12⟩
              have HB : Hid (Bst xs (idF nm) b ∧ okB b) := ⟨hb, hok⟩
              have HFD : Hid (∀ W, MxS W gx PS l → Calls Tryz.prog 19 #[.pointer (some ⟨gx, 0, none⟩), .agg D] W fun e w' => e = .returned (.tuple #[.agg (rowC b), .int .i64 (cdB b)]) ∧ Below W.heap.size W w') := fun W hW => HFD0.out b W hb hW
              have HYI : Hid ((Tryz.prog.info? 52).map (·.size) = some (rowC b).size ∧ (rowC b).all (·.oneCell') = true ∧ (rowC b).size = 67) := ⟨info_mr hok.sz, rowC_all b, hok.sz⟩
              have H13 : Hid (Below wb.heap.size wb (w12.alloc (.cells (rowC b) 52)) ∧ KvM id elF (w12.alloc (.cells (rowC b) 52)) wb.heap.size d ∧ Bk (w12.alloc (.cells (rowC b) 52)) w12.heap.size (rowC b) 52) := by
                have q : Below w11.heap.size w11 (w12.alloc (.cells (rowC b) 52)) := b12.alloc b12.size _
                exact ⟨H12.out.1.trans (q.mono H12.out.1.size), H12.out.2.below q, bk_new _ _ _⟩
              obtain ⟨Y, hY⟩ : ∃ Y, rowC b = Y := ⟨_, rfl⟩
              obtain ⟨F, hF⟩ : ∃ F, cdB b = F := ⟨_, rfl⟩
              obtain ⟨β, hβ⟩ : ∃ β, b.isSome = β := ⟨_, rfl⟩
              have HBE : Hid (rowC b = Y ∧ cdB b = F ∧ b.isSome = β) := ⟨hY, hF, hβ⟩
              rw [hY] at HYI H13 HFD ⊢
              rw [hF] at HFD
              rw [hβ]
              have d1 := CN.out _ H13.out.1
              clear hb hok b12 hY hF hβ H12 HFI HFD0
              go_wp2_with (first
                | (refine wpList_store_new rfl 52 (.tmp 19) (.tmp 140) rfl Y _ 52 w12.heap.size rfl rfl rfl HYI.out.1 (by rw [HYI.out.2.2]; rfl) HYI.out.2.1 ?_)
                | fail)
              refine (HIDn.out _).mono ?_
              rintro e w13 ⟨rfl, b13⟩
              have H14 : Hid (Below wb.heap.size wb w13 ∧ KvM id elF w13 wb.heap.size d ∧ Bk w13 w12.heap.size Y 52) := ⟨H13.out.1.trans (b13.mono H13.out.1.size), H13.out.2.1.below b13, H13.out.2.2.below b13 H13.out.2.2.lt⟩
              clear b13 d1 H13
              go_wp2_with fail
              refine (HFD.out w13 (H11.out.2.2.1.below H14.out.1)).mono ?_
              rintro e w14 ⟨rfl, b14⟩
              have H15 : Hid (Below wb.heap.size wb (w14.alloc (.cells Y 52)) ∧ KvM id elF (w14.alloc (.cells Y 52)) wb.heap.size d ∧ Bk (w14.alloc (.cells Y 52)) w12.heap.size Y 52 ∧ Bk (w14.alloc (.cells Y 52)) w14.heap.size Y 52) := by
                have q : Below w13.heap.size w13 (w14.alloc (.cells Y 52)) := b14.alloc b14.size _
                exact ⟨H14.out.1.trans (q.mono H14.out.1.size), H14.out.2.1.below q, H14.out.2.2.below q H14.out.2.2.lt, bk_new _ _ _⟩
              clear b14 H14 HFD
              go_upto_region 29 with (first
                | (refine wpList_store_new rfl 52 (.tmp 21) (.tmp 150) rfl Y _ 52 w14.heap.size rfl rfl rfl HYI.out.1 (by rw [HYI.out.2.2]; rfl) HYI.out.2.1 ?_)
                | fail)
              cases b with
              | none =>
                obtain rfl : 6 = F := HBE.out.2.1
                obtain rfl : false = β := HBE.out.2.2
                have HN2 : Hid (∃ d, FdN xs (N.take (j + 1)) d ∧ KvM id elF (w14.alloc (.cells Y 52)) wb.heap.size d ∧ d.length ≤ j + 1 ∧ Below wb.heap.size wb (w14.alloc (.cells Y 52))) := ⟨d, by rw [HTK.out]; exact HKD.out.1.skip HB.out.1, H15.out.2.1, by have := HKD.out.2.2.1; omega, H15.out.1⟩
                clear HBE HB
                go_wp2
                go_roundw
                case rel => exact ⟨j + 1, by go_num, by omega, HN2.out⟩
                case measure => simp [intOf]; omega
              | some r =>
                obtain rfl : 0 = F := HBE.out.2.1
                obtain rfl : true = β := HBE.out.2.2
                have hNEQ : ∀ u, (binOp .neq 52 (.agg Y) (.agg Y)).run Tryz.prog u = .ok (.bool false) u := fun u => by
                  rw [← HBE.out.1]
                  exact neq_mrr r (HB.out.2 r rfl).1 (HB.out.2 r rfl).2 u
                obtain ⟨w15, hw15⟩ : ∃ W, w14.alloc (.cells Y 52) = W := ⟨_, rfl⟩
                rw [hw15] at H15 ⊢
                clear hw15
                refine region_plain11 (fun W => W = w15) rfl ?_
                repeat (first
                  | go_big_quiet_skip
                  | (go_big_quiet_want
                     first
                       | (refine quiet_row 52 _ rfl w14.heap.size 0 Y Y 52 _ rfl (fun W hW => by rw [hW]; exact H15.out.2.2.2) (fun j v hv => by rw [Nat.zero_add]; exact hv) Tryz.underlying52 rfl HYI.out.1 ?_; go_big_quiet_on; simp only [Act.put, List.setIfInBounds_toArray, List.set_cons_zero, List.set_cons_succ])
                       | (refine quiet_row 52 _ rfl w12.heap.size 0 Y Y 52 _ rfl (fun W hW => by rw [hW]; exact H15.out.2.2.1) (fun j v hv => by rw [Nat.zero_add]; exact hv) Tryz.underlying52 rfl HYI.out.1 ?_; go_big_quiet_on; simp only [Act.put, List.setIfInBounds_toArray, List.set_cons_zero, List.set_cons_succ])
                       | (refine quiet_val10 (.bool false) ?_ ?_; (focus (intro W hW; go_simp; done)); go_big_quiet_on; simp only [Act.put, List.setIfInBounds_toArray, List.set_cons_zero, List.set_cons_succ])
                       | (refine quiet_val10 (.bool true) ?_ ?_; (focus (intro W hW; go_simp; done)); go_big_quiet_on; simp only [Act.put, List.setIfInBounds_toArray, List.set_cons_zero, List.set_cons_succ])
                       | (go_big_quiet_op; go_big_quiet_on)))
                refine wpQuiet_nil ?_
                rintro w16 rfl
                have d2 := CN.out _ H15.out.1
                clear hNEQ HBE
                go_wp2_with fail
                refine (HIDn.out _).mono ?_
                rintro e w17 ⟨rfl, b17⟩
                have hkv17 := H15.out.2.1.below b17
                have hb17 : Below wb.heap.size wb w17 := H15.out.1.trans (b17.mono H15.out.1.size)
                obtain ⟨w18, hput, hk18, hg18⟩ := HPT.out w17 hkv17
                obtain ⟨es, cc, hes⟩ := hkv17.isMap
                have HN2 : Hid (∃ d, FdN xs (N.take (j + 1)) d ∧ KvM id elF w18 wb.heap.size d ∧ d.length ≤ j + 1 ∧ Below wb.heap.size wb w18) := by
                  obtain ⟨_, _, _, _, _, hpr⟩ := HKD.out.2.1
                  refine ⟨ptK id d (idF nm), by rw [HTK.out]; exact HKD.out.1.add hpr HB.out.1, hk18, ?_, below_own hb17 hb17.size hg18 (Nat.le_refl _)⟩
                  rw [ptK_len]
                  have := HKD.out.2.2.1
                  split <;> omega
                clear b17 hkv17 hb17 hk18 hg18 HB d2
                go_wp2
                go_roundw
                case rel => exact ⟨j + 1, by go_num, by omega, HN2.out⟩
                case measure => simp [intOf]; omega
            · have hjz : ¬ (j : Int) < (nN : Nat) := by omega
              obtain ⟨d, hfd, hkv, hdl, hbd⟩ := HK.out
              rw [List.take_of_length_le (l := N) (by rw [H11.out.2.2.2.2]; omega)] at hfd
              have hcnt : l.length = d.length := by
                obtain ⟨_, _, _, _, _, hpr⟩ := hkv
                exact hfd.count hpr HX.out.1 HM.out.2.1 HNN.out
              obtain ⟨nl, hnl⟩ : ∃ n, l.length = n := ⟨_, rfl⟩
              rw [hnl] at hcnt
              have HKD : Hid (KvM id elF wr wb.heap.size d ∧ Below wb.heap.size wb wr ∧ d.length = nl ∧ l.length = nl) := ⟨hkv, hbd, hcnt.symm, hnl⟩
              have HRS : Hid (∀ r ∈ l, r.p.size = 32 ∧ r.e.id.size = 32) := fun r hr => ⟨HM.out.1.ok.psz _ (HM.out.1.ok.mem r hr), HM.out.1.ok.id r hr⟩
              have hnl2 : nl ≤ 1048576 := by rw [← hnl]; exact HM.out.1.ok.len
              clear hfd hkv hdl hbd hcnt hnl HK
              go_wp2_with fail
              refine (mall_any gx PS l wr (H11.out.2.2.1.below HKD.out.2.1)).mono ?_
              rintro e w20 ⟨v20, rfl, ho20, b20⟩
              rw [HKD.out.2.2.2] at ho20
              obtain ⟨a20, c20, rfl, hx20⟩ := own_mrs HRS.out HKD.out.2.2.2 ho20
              have H20 : Hid (Below wb.heap.size wb w20 ∧ KvM id elF w20 wb.heap.size d ∧ MrL w20 a20 l) := ⟨HKD.out.2.1.trans (b20.mono HKD.out.2.1.size), HKD.out.1.below b20, hx20⟩
              clear ho20 b20 hx20
              go_wp2
              go_loopw [24] (fun v W => ∃ i : Nat, v = .int .i64 i ∧ i ≤ nl ∧ Hid (Below w20.heap.size w20 W)) (fun v _ => nl - (intOf v).toNat)
              case atStart => exact ⟨0, rfl, Nat.zero_le _, Below.refl _ _⟩
              case round =>
                obtain ⟨i, rfl, hi, HJ⟩ := hrel
                by_cases hli : i < nl
                · have hiz : (i : Int) < (nl : Nat) := by omega
                  obtain ⟨r, hr⟩ : ∃ r, l[i]? = some r := ⟨_, List.getElem?_eq_getElem (by rw [HKD.out.2.2.2]; exact hli)⟩
                  obtain ⟨⟨hr1, hr2⟩, g20, o20, rfl, hg20, hc20⟩ := H20.out.2.2 i r hr
                  have CY0 : Hid (∀ W, Below w20.heap.size w20 W → ∀ (j : Nat) (v : Value), (mrC r)[j]? = some v → W.cell? ⟨g20, o20 + i * 67 + j, none⟩ = some v) := fun W hW j v hv => by rw [hW.cell (p := ⟨g20, o20 + i * 67 + j, none⟩) hg20]; exact hc20 j v hv
                  have CD1 : Hid (∀ W, Below w20.heap.size w20 W → ∀ (j : Nat) (v : Value), (idc r.e.id)[j]? = some v → W.cell? ⟨g20, o20 + i * 67 + 32 + j, none⟩ = some v) := fun W hW j v hv => by
                    have := CY0.out W hW (32 + j) v (mrC_id r hr1 hr2 j v hv)
                    rwa [← Nat.add_assoc] at this
                  have HFD : Hid (∀ W, MxS W gx PS l → Calls Tryz.prog 19 #[.pointer (some ⟨gx, 0, none⟩), .agg (idc r.e.id)] W fun e w' => e = .returned (.tuple #[.agg (mrC r), .int .i64 0]) ∧ Below W.heap.size W w') := fun W hW => by
                    have := mfind_any gx r.e.id PS l W hW HM.out.2.1.ri hr2
                    rw [mfnd_fd HM.out.2.1.ri, fdM_mem HM.out.2.1.ri.ap (List.mem_of_getElem? hr)] at this
                    exact this
                  have hNEQ := neq_mrr r hr1 hr2
                  have HYI : Hid ((Tryz.prog.info? 52).map (·.size) = some (mrC r).size ∧ (mrC r).all (·.oneCell') = true ∧ (mrC r).size = 67) := ⟨info_mr (mrC_size r hr1 hr2), mrC_all r, mrC_size r hr1 hr2⟩
                  have HDI1 : Hid ((Tryz.prog.info? 48).map (·.size) = some (idc r.e.id).size) := info_32 (by rw [idc_size, hr2])
                  have HRR : Hid (l[i]? = some r ∧ r.e.id.size = 32) := ⟨hr, hr2⟩
                  obtain ⟨Y, hY⟩ : ∃ Y, mrC r = Y := ⟨_, rfl⟩
                  obtain ⟨D, hD⟩ : ∃ D, idc r.e.id = D := ⟨_, rfl⟩
                  have HDD : Hid (idc r.e.id = D) := hD
                  rw [hY] at CY0 HFD hNEQ HYI
                  rw [hD] at CD1 HFD HDI1
                  have HDL : Hid ((Tryz.prog.info? 48).map (·.size) = some D.toList.length) := by show _ = _; rw [Array.length_toList]; exact HDI1.out
                  have CDW : Hid (∀ (j : Nat) (v : Value), D.toList[j]? = some v → wr.cell? ⟨g20, o20 + i * 67 + 32 + j, none⟩ = some v) := fun j v hv => CD1.out wr HJ.out j v (by rwa [Array.getElem?_toList] at hv)
                  clear hr hr1 hr2 hg20 hc20 hY hD
                  go_wp2_with (first
                    | (refine wpList_load_mid rfl 48 (.tmp 194) rfl g20 (o20 + i * 67 + 32) rfl D.toList _ CDW.out Tryz.underlying48 rfl HDL.out ?_)
                    | fail)
                  refine (HFD.out wr (H11.out.2.2.1.below (H20.out.1.trans (HJ.out.mono H20.out.1.size)))).mono ?_
                  rintro e w21 ⟨rfl, b21⟩
                  have H22 : Hid (Below w20.heap.size w20 (w21.alloc (.cells Y 52)) ∧ Bk (w21.alloc (.cells Y 52)) w21.heap.size Y 52) := by
                    have q : Below wr.heap.size wr (w21.alloc (.cells Y 52)) := b21.alloc b21.size _
                    exact ⟨HJ.out.trans (q.mono HJ.out.size), bk_new _ _ _⟩
                  have CY : Hid (∀ W, Below (w21.alloc (.cells Y 52)).heap.size (w21.alloc (.cells Y 52)) W → ∀ (j : Nat) (v : Value), Y[j]? = some v → W.cell? ⟨g20, o20 + i * 67 + j, none⟩ = some v) := fun W hW => CY0.out W (H22.out.1.trans (hW.mono H22.out.1.size))
                  have CD : Hid (∀ W, Below (w21.alloc (.cells Y 52)).heap.size (w21.alloc (.cells Y 52)) W → ∀ (j : Nat) (v : Value), D[j]? = some v → W.cell? ⟨g20, o20 + i * 67 + 32 + j, none⟩ = some v) := fun W hW => CD1.out W (H22.out.1.trans (hW.mono H22.out.1.size))
                  clear b21 CDW HFD CY0 CD1 HDL
                  go_upto_region 38 with (first
                    | (refine wpList_store_new rfl 52 (.tmp 25) (.tmp 197) rfl Y _ 52 w21.heap.size rfl rfl rfl HYI.out.1 (by rw [HYI.out.2.2]; rfl) HYI.out.2.1 ?_)
                    | fail)
                  by_cases hi0 : i = 0
                  · subst hi0
                    have CYz : Hid (∀ W, Below (w21.alloc (.cells Y 52)).heap.size (w21.alloc (.cells Y 52)) W → ∀ (j : Nat) (v : Value), Y[j]? = some v → W.cell? ⟨g20, o20 + j, none⟩ = some v) := fun W hW j v hv => by
                      have := CY.out W hW j v hv
                      rwa [Nat.zero_mul, Nat.add_zero] at this
                    clear CY CD
                    refine region_class10 (fun W => Below (w21.alloc (.cells Y 52)).heap.size (w21.alloc (.cells Y 52)) W) (by kernel_rfl) (by kernel_rfl) ((Below.refl _ _).drew) ?_
                    try simp only [Act.put, List.setIfInBounds_toArray, List.set_cons_zero, List.set_cons_succ]
                    repeat (first
                      | go_big_quiet_skip
                      | (go_big_quiet_want
                         first
                           | (refine quiet_row 52 _ rfl w21.heap.size 0 Y Y 52 _ rfl (fun W hW => H22.out.2.below hW H22.out.2.lt) (fun j v hv => by rw [Nat.zero_add]; exact hv) Tryz.underlying52 rfl HYI.out.1 ?_; go_big_quiet_on; simp only [Act.put, List.setIfInBounds_toArray, List.set_cons_zero, List.set_cons_succ])
                           | (refine quiet_rowc 52 _ rfl g20 o20 Y _ rfl CYz.out Tryz.underlying52 rfl HYI.out.1 ?_; go_big_quiet_on; simp only [Act.put, List.setIfInBounds_toArray, List.set_cons_zero, List.set_cons_succ])
                           | (refine quiet_val10 (.pointer (some ⟨g20, o20, none⟩)) ?_ ?_; (focus (intro W hW; go_simp; done)); go_big_quiet_on; simp only [Act.put, List.setIfInBounds_toArray, List.set_cons_zero, List.set_cons_succ])
                           | (refine quiet_val10 (.pointer (some ⟨g20, o20 + 32, none⟩)) ?_ ?_; (focus (intro W hW; go_simp; done)); go_big_quiet_on; simp only [Act.put, List.setIfInBounds_toArray, List.set_cons_zero, List.set_cons_succ])
                           | (refine quiet_val10 (.bool false) ?_ ?_; (focus (intro W hW; go_simp; done)); go_big_quiet_on; simp only [Act.put, List.setIfInBounds_toArray, List.set_cons_zero, List.set_cons_succ])
                           | (refine quiet_val10 (.bool true) ?_ ?_; (focus (intro W hW; go_simp; done)); go_big_quiet_on; simp only [Act.put, List.setIfInBounds_toArray, List.set_cons_zero, List.set_cons_succ])
                           | (go_big_quiet_op; go_big_quiet_on)))
                    refine wpQuiet_nil ?_
                    intro w23 hw23
                    have H23 : Hid (Below w20.heap.size w20 w23) := H22.out.1.trans (Below.mono hw23 H22.out.1.size)
                    clear hw23 hNEQ
                    go_wp2
                    go_roundw
                    case rel => exact ⟨0 + 1, by go_num, by omega, H23.out⟩
                    case measure => simp [intOf]; omega
                  · obtain ⟨i0, hie⟩ : ∃ i0, i = i0 + 1 := ⟨i - 1, by omega⟩
                    have hiz1 : (i : Int) - 1 = (i0 : Int) := by omega
                    have hig : (0 : Int) < (i : Int) := by omega
                    have hign : 0 < i := by omega
                    have hi0z : (i0 : Int) < (nl : Nat) := by omega
                    have hwr : IntKind.i64.wrap (i0 : Int) = (i0 : Int) := by rw [IntKind.wrap_i64]; omega
                    obtain ⟨r0, hr0⟩ : ∃ r, l[i0]? = some r := ⟨_, List.getElem?_eq_getElem (by rw [HKD.out.2.2.2]; omega)⟩
                    obtain ⟨⟨hr1, hr2⟩, g', o', hgo, hg20, hc20⟩ := H20.out.2.2 i0 r0 hr0
                    simp only [Option.some.injEq, Addr.mk.injEq, and_true] at hgo
                    obtain ⟨rfl, rfl⟩ := hgo
                    have hlt0 : ltN r0.e.id r.e.id = true := by
                      have hri := HM.out.2.1.ri
                      unfold RiM Rise at hri
                      rw [List.pairwise_map, List.pairwise_iff_getElem] at hri
                      obtain ⟨q1, q2⟩ := List.getElem?_eq_some_iff.1 hr0
                      obtain ⟨q3, q4⟩ := List.getElem?_eq_some_iff.1 HRR.out.1
                      have := hri i0 i q1 q3 (by omega)
                      rwa [q2, q4] at this
                    have CD0 : Hid (∀ W, Below (w21.alloc (.cells Y 52)).heap.size (w21.alloc (.cells Y 52)) W → ∀ (j : Nat) (v : Value), (idc r0.e.id)[j]? = some v → W.cell? ⟨g20, o20 + i0 * 67 + 32 + j, none⟩ = some v) := fun W hW j v hv => by
                      rw [(H22.out.1.trans (hW.mono H22.out.1.size)).cell (p := ⟨g20, o20 + i0 * 67 + 32 + j, none⟩) hg20]
                      have := hc20 (32 + j) v (mrC_id r0 hr1 hr2 j v hv)
                      rwa [← Nat.add_assoc] at this
                    have HLS : Hid (∀ W, Below (w21.alloc (.cells Y 52)).heap.size (w21.alloc (.cells Y 52)) W → Calls Tryz.prog 21 #[.agg (idc r0.e.id), .agg D] W fun e w' => e = .returned (.bool true) ∧ Below (w21.alloc (.cells Y 52)).heap.size (w21.alloc (.cells Y 52)) w') := fun W hW => by
                      have := rless13 r0.e.id r.e.id W hr2 HRR.out.2
                      rw [hlt0, HDD.out] at this
                      exact this.mono fun e w' q => ⟨q.1, hW.trans (q.2.mono hW.size)⟩
                    have HDI : Hid ((Tryz.prog.info? 48).map (·.size) = some D.size ∧ (Tryz.prog.info? 48).map (·.size) = some (idc r0.e.id).size) := ⟨HDI1.out, info_32 (by rw [idc_size, hr2])⟩
                    obtain ⟨D0, hD0⟩ : ∃ D, idc r0.e.id = D := ⟨_, rfl⟩
                    rw [hD0] at CD0 HLS HDI
                    clear hr0 hr1 hr2 hg20 hc20 hlt0 hD0 hi0 hie
                    refine region_class10 (fun W => Below (w21.alloc (.cells Y 52)).heap.size (w21.alloc (.cells Y 52)) W) (by kernel_rfl) (by kernel_rfl) ((Below.refl _ _).drew) ?_
                    try simp only [Act.put, List.setIfInBounds_toArray, List.set_cons_zero, List.set_cons_succ]
                    repeat (first
                      | go_big_quiet_skip
                      | (go_big_quiet_want
                         first
                           | (refine quiet_row 52 _ rfl w21.heap.size 0 Y Y 52 _ rfl (fun W hW => H22.out.2.below hW H22.out.2.lt) (fun j v hv => by rw [Nat.zero_add]; exact hv) Tryz.underlying52 rfl HYI.out.1 ?_; go_big_quiet_on; simp only [Act.put, List.setIfInBounds_toArray, List.set_cons_zero, List.set_cons_succ])
                           | (refine quiet_rowc 52 _ rfl g20 (o20 + i * 67) Y _ rfl CY.out Tryz.underlying52 rfl HYI.out.1 ?_; go_big_quiet_on; simp only [Act.put, List.setIfInBounds_toArray, List.set_cons_zero, List.set_cons_succ])
                           | (refine quiet_rowc 48 _ rfl g20 (o20 + i0 * 67 + 32) D0 _ rfl CD0.out Tryz.underlying48 rfl HDI.out.2 ?_; go_big_quiet_on; simp only [Act.put, List.setIfInBounds_toArray, List.set_cons_zero, List.set_cons_succ])
                           | (refine quiet_rowc 48 _ rfl g20 (o20 + i * 67 + 32) D _ rfl CD.out Tryz.underlying48 rfl HDI.out.1 ?_; go_big_quiet_on; simp only [Act.put, List.setIfInBounds_toArray, List.set_cons_zero, List.set_cons_succ])
                           | (refine quiet_call10 (.bool true) 21 #[.agg D0, .agg D] ?_ ?_ ?_; (focus (intro W hW; go_simp; done)); (focus (intro W hW; exact HLS.out W hW)); go_big_quiet_on; simp only [Act.put, List.setIfInBounds_toArray, List.set_cons_zero, List.set_cons_succ])
                           | (refine quiet_val10 (.int .i64 (i0 : Int)) ?_ ?_; (focus (intro W hW; go_simp; done)); go_big_quiet_on; simp only [Act.put, List.setIfInBounds_toArray, List.set_cons_zero, List.set_cons_succ])
                           | (refine quiet_val10 (.pointer (some ⟨g20, o20 + i0 * 67, none⟩)) ?_ ?_; (focus (intro W hW; go_simp; done)); go_big_quiet_on; simp only [Act.put, List.setIfInBounds_toArray, List.set_cons_zero, List.set_cons_succ])
                           | (refine quiet_val10 (.pointer (some ⟨g20, o20 + i0 * 67 + 32, none⟩)) ?_ ?_; (focus (intro W hW; go_simp; done)); go_big_quiet_on; simp only [Act.put, List.setIfInBounds_toArray, List.set_cons_zero, List.set_cons_succ])
                           | (refine quiet_val10 (.pointer (some ⟨g20, o20 + i * 67, none⟩)) ?_ ?_; (focus (intro W hW; go_simp; done)); go_big_quiet_on; simp only [Act.put, List.setIfInBounds_toArray, List.set_cons_zero, List.set_cons_succ])
                           | (refine quiet_val10 (.pointer (some ⟨g20, o20 + i * 67 + 32, none⟩)) ?_ ?_; (focus (intro W hW; go_simp; done)); go_big_quiet_on; simp only [Act.put, List.setIfInBounds_toArray, List.set_cons_zero, List.set_cons_succ])
                           | (refine quiet_val10 (.bool false) ?_ ?_; (focus (intro W hW; go_simp; done)); go_big_quiet_on; simp only [Act.put, List.setIfInBounds_toArray, List.set_cons_zero, List.set_cons_succ])
                           | (refine quiet_val10 (.bool true) ?_ ?_; (focus (intro W hW; go_simp; done)); go_big_quiet_on; simp only [Act.put, List.setIfInBounds_toArray, List.set_cons_zero, List.set_cons_succ])
                           | (go_big_quiet_op; go_big_quiet_on)))
                    refine wpQuiet_nil ?_
                    intro w23 hw23
                    have H23 : Hid (Below w20.heap.size w20 w23) := H22.out.1.trans (Below.mono hw23 H22.out.1.size)
                    clear hw23 hNEQ
                    go_wp2
                    go_roundw
                    case rel => exact ⟨i + 1, by go_num, by omega, H23.out⟩
                    case measure => simp [intOf]; omega
                · have hiz : ¬ (i : Int) < (nl : Nat) := by omega
                  have hkv := H20.out.2.1.below HJ.out
                  have hlm : ∀ ty, (Builtin.len_ #[46] ty #[.map (some wb.heap.size)]).run Tryz.prog wr = .ok (.int .i64 (nl : Int)) wr := fun ty => by
                    rw [← HKD.out.2.2.1]
                    exact hkv.len Tryz.underlying46 ty
                  have HE : Hid (Below w.heap.size w wr) := HBW.out.trans ((H11.out.1.trans ((H20.out.1.trans (HJ.out.mono H20.out.1.size)).mono H11.out.1.size)).mono HBW.out.size)
                  have HLN : Hid (Calls Tryz.prog 22 #[.pointer (some ⟨gx, 0, none⟩)] wr fun e w' => e = .returned (.int .i64 (nl : Int)) ∧ w' = wr) := by
                    have := mlen_any gx PS l wr (H11.out.2.2.1.below (H20.out.1.trans (HJ.out.mono H20.out.1.size)))
                    rw [HKD.out.2.2.2] at this
                    exact this
                  clear hkv
                  go_wp2_with fail
                  refine HLN.out.mono ?_
                  rintro e w25 ⟨rfl, rfl⟩
                  go_wp2
                  go_ret
                  exact ⟨rfl, HE.out⟩
end Go.Proofs.YtbfoiocbmhhdbaaGreat
