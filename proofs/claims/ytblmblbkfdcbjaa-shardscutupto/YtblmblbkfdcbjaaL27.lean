/- The walk of ShardsCut. -/
import Derived.Test.YtblmblbkfdcbjaaJ7
import Derived.Test.YtblmblbkfdcbjaaJ9
import Derived.Test.YtblmblbkfdcbjaaJ11
import Derived.Test.YtblmblbkfdcbjaaF16S
import Derived.Test.YtblmblbkfdcbjaaM7
import Derived.Test.YtblmblbkfdcbjaaM5
import Derived.Test.YtblmblbkfdcbjaaL19F
import Derived.BigRegion
namespace Go.Proofs.Ytblmblbkfdcbjaa
open Go.RowKit
set_option linter.unusedSimpArgs false
set_option linter.unusedVariables false
set_option maxHeartbeats 4000000 in
set_option maxRecDepth 100000 in
theorem cut_walk (s : ByteArray) (kk : Int) (a : Option Addr) (ca n : Nat) (nn mm : Int) (xs : List ByteArray) (w : World) (hs : s.size ≤ 1048576) (hx : TxL w a xs) (nx : xs.length = n) (lx : n ≤ 1048576) (sx : ∀ x ∈ xs, x.size ≤ 1048576)
    (k1 : -9223372036854775808 ≤ kk) (k2 : kk ≤ 9223372036854775807) (n1 : -9223372036854775808 ≤ nn) (n2 : nn ≤ 9223372036854775807) (m1 : -9223372036854775808 ≤ mm) (m2 : mm ≤ 9223372036854775807) :
    Calls Try.prog 4 #[.string s, .int .i64 kk, .slice a n ca, .int .i64 nn, .int .i64 mm] w fun e w' => e = .returned (.bool true) ∧ Below w.heap.size w w' := by
  have HX : Hid (TxL w a xs) := hx
  have NX : Hid (xs.length = n) := nx
  have SX : Hid (∀ x ∈ xs, x.size ≤ 1048576) := sx
  clear hx nx sx
  obtain ⟨i0, hi, hz0, hz1s, hz2⟩ := info_parts inf_str
  have c1 := fun W => rcut_any s kk W (by omega) k1 k2
  have c2 := fun W => cut_any s kk W (by omega) k1 k2
  have l1 := cuX_len s kk
  obtain ⟨P, hP⟩ : ∃ P, cuX s kk = P := ⟨_, rfl⟩
  obtain ⟨E1, hE1⟩ : ∃ E, cuE kk = E := ⟨_, rfl⟩
  obtain ⟨p1, hp1⟩ : ∃ E, P.length = E := ⟨_, rfl⟩
  rw [hP, hE1, hp1] at c1 c2
  rw [hP, hp1] at l1
  have C1 : Hid _ := c1
  have C2 : Hid _ := c2
  have HP1 : Hid (P.length = p1) := hp1
  clear c1 c2 hP hE1 hp1
  go_enter Try.func4, Try.ntmps4
  go_wp2_with fail
  refine Calls.mono (C1.out _) ?_
  rintro e w1 ⟨qa, qc, rfl, hA, hb⟩
  have QA1 : Hid (Ans w qa P w1) := hA
  have B1 : Hid (Below w.heap.size w w1) := hb
  clear hA hb
  go_wp2_with fail
  refine Calls.mono (C2.out _) ?_
  rintro e w2 ⟨qb, rfl, hA, hb⟩
  have QB2 : Hid (Mad w1 qb P w2) := hA
  have QA2 : Hid (Ans w qa P w2) := QA1.out.below hb
  have B2 : Hid (Below w.heap.size w w2) := B1.out.trans (hb.mono B1.out.size)
  clear hA hb
  go_wp2_with fail
  refine Calls.mono (C2.out _) ?_
  rintro e w3 ⟨qd, rfl, hA, hb⟩
  have B3 : Hid (Below w.heap.size w w3) := B2.out.trans (hb.mono B2.out.size)
  have f1 := fresh7_of (c2 := p1) (c3 := qc) HP1.out l1 (QA2.out.below hb) (QB2.out.below hb) hA (fun b o s e => (QA1.out.2 b o s e).2) (fun b o s e => (QB2.out.lo b o s e).2)
  have F1 : Hid _ := f1
  clear f1 hA hb
  go_wp2_with fail
  refine Calls.mono F1.out ?_
  rintro e w4 ⟨rfl, hg⟩
  have B4 : Hid (Below w.heap.size w w4) := B3.out.grown hg B3.out.size (fun g hg => by
    obtain ⟨o, s, e⟩ := map_block hg
    have h1 := QB2.out.lo g o s e
    have := B1.out.size
    omega)
  have hz4 : w.heap.size ≤ w4.heap.size := B4.out.size
  clear hg F1 B3 B2 B1 QA1 QA2 QB2 C1 C2 HP1 l1
  go_wp2_with (at_builtin; refine wpList_append_txts _ rfl _ _ rfl w4.heap.size _ [] xs 0 n ca rfl rfl NX.out (World.ownsRow_made (size := 1) w4 #[] 0 (Nat.le_refl _) (by unfold maxLen; omega) rfl) (by simp) a rfl ((HX.out.below B4.out).alloc _) (by omega) ?_)
  intro v5 w5 ho5 hg5
  have HO5 : Hid (w5.ownsRow w4.heap.size 9 1 v5 n (sv xs)) := ho5
  have HB5 : Hid (Below w4.heap.size w4 w5) := by
    refine ((Below.refl _ _).alloc (Nat.le_refl _) _).grown hg5 (by simp) (fun g hg => ?_)
    simp [Value.ownBlock] at hg; omega
  have hz5 : w4.heap.size ≤ w5.heap.size := HB5.out.size
  clear ho5 hg5
  go_wp2_with (at_builtin; refine wpList_append_own _ rfl _ _ 22 rfl w4.heap.size 9 i0 (.string ⟨#[]⟩) 1 16 Try.underlying22 hi hz0 hz1s hz2 rfl (by decide) _ _ _ rfl (HO5.out.alloc _) ⟨w5.heap.size, 0, none⟩ 1 1 [.string ⟨#[109, 97, 114, 107]⟩] rfl rfl (news_one _ _ _) (one_str _) (by unfold maxLen; omega) (by omega) (by simp; omega) ?_)
  intro v6 w6 ho6 hg6 _
  obtain ⟨gx, cx, rfl, lx2, hm6, cx1, cx2⟩ := mk_of (xs := xs) (by rw [sv_append]; exact ho6)
  have MX6 : Hid (Mk w6 gx xs ⟨#[109, 97, 114, 107]⟩) := hm6
  have HB6 : Hid (Below w.heap.size w w6) := B4.out.trans ((apn_bel HB5.out hz5 HO5.out hg6).mono hz4)
  have hgx : w.heap.size ≤ gx := by omega
  clear ho6 hg6 hm6 HO5 HB5 HX B4
  go_wp2_with fail
  go_loopw [19] (fun t wr => ∃ (r : Nat) (zs : List ByteArray), r ≤ 2 ∧ t = .int .i64 r ∧ Hid (zs.length = n) ∧ Hid (∀ x ∈ zs, x.size ≤ 1048576) ∧ Hid (Mk wr gx zs ⟨#[109, 97, 114, 107]⟩) ∧ Hid (Below w.heap.size w wr)) (fun t _ => 2 - (intOf t).toNat)
  case atStart => exact ⟨0, xs, by omega, rfl, NX.out, SX.out, MX6.out, HB6.out⟩
  case round =>
    clear MX6 HB6
    obtain ⟨r, zs, hr2, rfl, NZ, SZ, MX, HB⟩ := hrel
    have hzr : w.heap.size ≤ wr.heap.size := HB.out.size
    by_cases hlt : r < 2
    · have hrz : (r : Int) < 2 := by omega
      go_wp2_with (at_builtin; refine wpList_append_txts _ rfl _ _ rfl wr.heap.size _ [] zs 0 n cx rfl rfl NZ.out (World.ownsRow_made (size := 1) wr #[] 0 (Nat.le_refl _) (by unfold maxLen; omega) rfl) (by simp) (some ⟨gx, 0, none⟩) rfl (MX.out.txl.alloc _) (by omega) ?_)
      intro v7 w7 ho7 hg7
      have hb7 : Below wr.heap.size wr w7 := by
        refine ((Below.refl _ _).alloc (Nat.le_refl _) _).grown hg7 (by simp) (fun g hg => ?_)
        simp [Value.ownBlock] at hg; omega
      obtain ⟨aw, cw7, hv7, hta, _⟩ := own_txl (xs := zs) (by rw [NZ.out]; exact ho7)
      rw [NZ.out] at hv7
      subst hv7
      have HB7 : Hid (Below w.heap.size w w7) := HB.out.trans (hb7.mono hzr)
      have hz7 : w.heap.size ≤ w7.heap.size := HB7.out.size
      have TA : Hid (TxL w7 aw zs) := hta
      have MX7 : Hid (Mk w7 gx zs ⟨#[109, 97, 114, 107]⟩) := MX.out.below hb7
      clear ho7 hg7 hb7 hta MX HB
      have sz : ∀ x ∈ zs, x.size ≤ 281474976710656 := fun x hx => by have := SZ.out x hx; omega
      have ln : zs.length ≤ 4611686018427387904 := by rw [NZ.out]; omega
      have hpw : n ≤ 32 → n * wid zs ≤ 140737488355328 := fun h => by
        by_cases h1 : 1 ≤ n
        · have := wid_of (xs := zs) (by rw [NZ.out]; exact h1) 1048576 SZ.out
          exact Nat.le_trans (Nat.mul_le_mul h this) (by decide)
        · have : n = 0 := by omega
          rw [this]; omega
      have c1 := fun W hW => rwhole_any aw cw7 n zs nn W hW NZ.out (by omega) hpw n1 n2
      have c2 := fun W hW => whole_any (some ⟨gx, 0, none⟩) cx n zs nn W hW NZ.out (by omega) (fun h => by have := hpw h; omega) n1 n2
      have c3 := fun W hW => rencode_any aw cw7 n zs mm W hW NZ.out (by omega) sz m1 m2
      have c4 := fun W hW => encode_any (some ⟨gx, 0, none⟩) cx n zs mm W hW NZ.out (by omega) sz m1 m2
      have c9 := fun W hW hV => rsame_any (some ⟨gx, 0, none⟩) aw cx cw7 zs zs W hW hV ln ln
      rw [decide_eq_true rfl, NZ.out] at c9
      have l1 := enX_len zs mm
      obtain ⟨P, hP⟩ : ∃ P, enX zs mm = P := ⟨_, rfl⟩
      obtain ⟨E1, hE1⟩ : ∃ E, enE zs mm = E := ⟨_, rfl⟩
      obtain ⟨T, hT⟩ : ∃ E, woX zs nn = E := ⟨_, rfl⟩
      obtain ⟨E2, hE2⟩ : ∃ E, woE zs nn = E := ⟨_, rfl⟩
      obtain ⟨p1, hp1⟩ : ∃ E, P.length = E := ⟨_, rfl⟩
      rw [hT, hE2] at c1 c2
      rw [hP, hE1, hp1] at c3 c4
      rw [hP, hp1] at l1
      have C1 : Hid _ := c1
      have C2 : Hid _ := c2
      have C3 : Hid _ := c3
      have C4 : Hid _ := c4
      have C9 : Hid _ := c9
      have HP1 : Hid (P.length = p1) := hp1
      clear c1 c2 c3 c4 c9 hP hE1 hT hE2 hp1 sz ln hpw
      go_wp2_with fail
      refine Calls.mono (C1.out _ TA.out) ?_
      rintro e w8 ⟨rfl, hb⟩
      have B8 : Hid (Below w7.heap.size w7 w8) := hb
      clear hb
      go_wp2_with fail
      refine Calls.mono (C2.out _ (MX7.out.below B8.out).txl) ?_
      rintro e w9 ⟨rfl, hb⟩
      have B9 : Hid (Below w7.heap.size w7 w9) := B8.out.trans (hb.mono B8.out.size)
      clear hb B8
      go_wp2_with fail
      refine Calls.mono (C3.out _ (TA.out.below B9.out)) ?_
      rintro e w10 ⟨pa, pc, rfl, hA, hb⟩
      have PA10 : Hid (Ans w9 pa P w10) := hA
      have B10 : Hid (Below w7.heap.size w7 w10) := B9.out.trans (hb.mono B9.out.size)
      clear hA hb
      go_wp2_with fail
      refine Calls.mono (C4.out _ (MX7.out.below B10.out).txl) ?_
      rintro e w11 ⟨pq, rfl, hA, hb⟩
      have PQ11 : Hid (Mad w10 pq P w11) := hA
      have PA11 : Hid (Ans w9 pa P w11) := PA10.out.below hb
      have B11 : Hid (Below w7.heap.size w7 w11) := B10.out.trans (hb.mono B10.out.size)
      clear hA hb
      go_wp2_with fail
      refine Calls.mono (C4.out _ (MX7.out.below B11.out).txl) ?_
      rintro e w12 ⟨pr, rfl, hA, hb⟩
      have B12 : Hid (Below w7.heap.size w7 w12) := B11.out.trans (hb.mono B11.out.size)
      have f1 := fresh7_of (c2 := p1) (c3 := pc) HP1.out l1 (PA11.out.below hb) (PQ11.out.below hb) hA (fun b o s e => (PA10.out.2 b o s e).2) (fun b o s e => (PQ11.out.lo b o s e).2)
      have F1 : Hid _ := f1
      clear f1 hA hb
      go_wp2_with fail
      refine Calls.mono F1.out ?_
      rintro e w13 ⟨rfl, hg⟩
      have B13 : Hid (Below w7.heap.size w7 w13) := B12.out.grown hg B12.out.size (fun g hg => by
        obtain ⟨o, s, e⟩ := map_block hg
        have h1 := PQ11.out.lo g o s e
        have := B10.out.size
        omega)
      clear hg F1 B12 B11 B10 B9 PA10 PA11 PQ11
      go_wp2_with fail
      refine Calls.mono (C9.out _ (MX7.out.below B13.out).txl (TA.out.below B13.out)) ?_
      rintro e w19 ⟨rfl, hb⟩
      have B19 : Hid (Below w7.heap.size w7 w19) := B13.out.trans (hb.mono B13.out.size)
      clear hb B13 C1 C2 C3 C4 C9
      have m1 := (MX7.out.below B19.out).mark
      rw [NZ.out] at m1
      go_wp2_with fail
      clear m1
      have MXs : Hid (Mk w19 gx zs ⟨#[109, 97, 114, 107]⟩) := MX7.out.below B19.out
      have HBs : Hid (Below w.heap.size w w19) := HB7.out.trans (B19.out.mono hz7)
      go_loopw [31] (fun t wr => ∃ (i : Nat) (us : List ByteArray), i ≤ n / 2 ∧ t = .int .i64 i ∧ Hid (us.length = n) ∧ Hid (∀ x ∈ us, x.size ≤ 1048576) ∧ Hid (Mk wr gx us ⟨#[109, 97, 114, 107]⟩) ∧ Hid (Below w.heap.size w wr)) (fun t _ => n / 2 - (intOf t).toNat)
      case atStart => exact ⟨0, zs, by omega, rfl, NZ.out, SZ.out, MXs.out, HBs.out⟩
      case round =>
        clear MXs HBs B19 MX7 TA HB7 NZ SZ
        obtain ⟨i, us, hi2, rfl, NU, SU, MX, HB⟩ := hrel
        have hzr : w.heap.size ≤ wr.heap.size := HB.out.size
        by_cases hlt2 : i < n / 2
        · have hiz : (i : Int) < (n : Int) / 2 := by omega
          obtain ⟨m, hm⟩ : ∃ m : Nat, n = m + 1 + i := ⟨n - 1 - i, by omega⟩
          have hmz : (n : Int) - 1 - (i : Int) = (m : Int) := by omega
          have hmn : m < n := by omega
          have him : i ≠ m := by omega
          obtain ⟨A, hA⟩ : ∃ A, us[i]? = some A := ⟨_, List.getElem?_eq_getElem (by rw [NU.out]; omega)⟩
          obtain ⟨C, hC⟩ : ∃ C, us[m]? = some C := ⟨_, List.getElem?_eq_getElem (by rw [NU.out]; omega)⟩
          obtain ⟨cur, hB, hc⟩ := MX.out
          have e1 : wr.cell? ⟨gx, i, none⟩ = some (.string A) := by rw [hB.cell]; exact hc i A (by rw [List.getElem?_append_left (by rw [NU.out]; omega)]; exact hA)
          have e2 : wr.cell? ⟨gx, m, none⟩ = some (.string C) := by rw [hB.cell]; exact hc m C (by rw [List.getElem?_append_left (by rw [NU.out]; omega)]; exact hC)
          have f1 := hB.frozen i
          have f2 := hB.frozen m
          have e3 : (wr.setCell ⟨gx, i, none⟩ (.string C)).cell? ⟨gx, m, none⟩ = some (.string C) := by
            rw [cel_other (by intro e; exact him (Addr.mk.inj e).2.1)]; exact e2
          have f3 : (wr.setCell ⟨gx, i, none⟩ (.string C)).frozen? ⟨gx, m, none⟩ = false := by rw [World.frozen?_setCell]; exact f2
          have MXn : Hid (Mk ((wr.setCell ⟨gx, i, none⟩ (.string C)).setCell ⟨gx, m, none⟩ (.string A)) gx ((us.set i C).set m A) ⟨#[109, 97, 114, 107]⟩) := (MX.out.set i (by rw [NU.out]; omega) C).set m (by rw [List.length_set, NU.out]; omega) A
          have HBn : Hid (Below w.heap.size w ((wr.setCell ⟨gx, i, none⟩ (.string C)).setCell ⟨gx, m, none⟩ (.string A))) := (HB.out.setCell hgx _).setCell hgx _
          have NUn : Hid (((us.set i C).set m A).length = n) := by show _ = n; rw [List.length_set, List.length_set, NU.out]
          have SUn : Hid (∀ x ∈ (us.set i C).set m A, x.size ≤ 1048576) := fun x hx => by
            rcases List.mem_or_eq_of_mem_set hx with h | h
            · rcases List.mem_or_eq_of_mem_set h with h | h
              · exact SU.out x h
              · rw [h]; exact SU.out C (List.mem_of_getElem? hC)
            · rw [h]; exact SU.out A (List.mem_of_getElem? hA)
          clear hB hc hA hC MX HB NU SU
          go_wp2_with fail
          go_big_region
          go_wp2
          go_roundw
          case rel => exact ⟨i + 1, _, by omega, by go_num, NUn.out, SUn.out, MXn.out.below (Below.refl _ _).drew, HBn.out.drew⟩
          case measure => simp [intOf]; omega
        · have hiz : ¬ (i : Int) < (n : Int) / 2 := by omega
          go_wp2
          go_roundw
          case rel => exact ⟨r + 1, us, by omega, by go_num, NU.out, SU.out, MX.out, HB.out⟩
          case measure => simp [intOf]; omega
    · go_wp2
      go_ret
      exact ⟨rfl, HB.out⟩
end Go.Proofs.Ytblmblbkfdcbjaa
