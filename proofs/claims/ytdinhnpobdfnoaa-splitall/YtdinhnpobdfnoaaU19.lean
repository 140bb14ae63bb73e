/- The walks of the law's numbers, planOf, text. -/
import Derived.Test.YtdinhnpobdfnoaaU18
import Derived.Test.YtdinhnpobdfnoaaU6
namespace Go.Proofs.Ytdinhnpobdfnoaa
open Go.RowKit
set_option linter.unusedSimpArgs false
set_option linter.unusedVariables false
/-- Lists of numbers of a slice. -/
def NuL (w : World) (a : Option Addr) (l : List (List Nat)) : Prop := ∀ (i : Nat) (ns : List Nat), l[i]? = some ns → ∃ g o ad c, a = some ⟨g, o, none⟩ ∧ g < w.heap.size ∧ w.cell? ⟨g, o + i, none⟩ = some (.slice ad ns.length c) ∧ ∀ (j x : Nat), ns[j]? = some x → ∃ g2 o2, ad = some ⟨g2, o2, none⟩ ∧ g2 < w.heap.size ∧ w.cell? ⟨g2, o2 + j, none⟩ = some (.int .i64 (x : Int))
theorem NuL.below {w w' : World} {a : Option Addr} {l : List (List Nat)} (h : NuL w a l) (hb : Below w.heap.size w w') : NuL w' a l := fun i ns hn => by
  obtain ⟨g, o, ad, c, h1, h2, h3, h4⟩ := h i ns hn
  refine ⟨g, o, ad, c, h1, Nat.lt_of_lt_of_le h2 hb.size, by rw [hb.cell (p := ⟨g, o + i, none⟩) h2]; exact h3, fun j x hx => ?_⟩
  obtain ⟨g2, o2, q1, q2, q3⟩ := h4 j x hx
  exact ⟨g2, o2, q1, Nat.lt_of_lt_of_le q2 hb.size, by rw [hb.cell (p := ⟨g2, o2 + j, none⟩) q2]; exact q3⟩
theorem NdR.nul {w : World} {B gn gk : Nat} {nodes : List (List Nat)} (h : NdR w B gn gk nodes) : NuL w (some ⟨gn, 0, none⟩) nodes := fun i ns hn => by
  have hi : i < nodes.length := (List.getElem?_eq_some_iff.1 hn).1
  refine ⟨gn, 0, some ⟨gk, stt nodes i, none⟩, ns.length, rfl, h.bn.lt, ?_, fun j x hx => ?_⟩
  · rw [Nat.zero_add, h.bn.cell, ndc_get _ _ _ _ hi, if_pos hi]
    unfold ndv
    rw [List.getD, hn]; rfl
  · obtain ⟨K, hb, hk⟩ := h.kd (fun e => by rw [e] at hi; simp at hi)
    exact ⟨gk, stt nodes i, rfl, hb.lt, by rw [hb.cell]; exact hk _ x (stt_get nodes i ns hn j x hx)⟩
set_option maxHeartbeats 4000000 in
set_option maxRecDepth 100000 in
theorem numbers_any (a1 a2 : Option Addr) (n c1 c2 : Nat) (l : List (List Nat)) (w : World) (h1 : NuL w a1 l) (h2 : NuL w a2 l) (hn : l.length = n) (hb : n ≤ maxLen) (hb2 : ∀ ns ∈ l, ns.length ≤ maxLen) :
    Calls Try.prog 23 #[.slice a1 n c1, .slice a2 n c2] w fun e w' => e = .returned (.bool true) ∧ Below w.heap.size w w' := by
  unfold maxLen at hb hb2
  have HN : Hid (l.length = n) := hn
  have H1 : Hid (NuL w a1 l ∧ NuL w a2 l) := ⟨h1, h2⟩
  have HB : Hid (∀ ns ∈ l, ns.length ≤ 9223372036854775807) := fun ns h => hb2 ns h
  have hne : ((n : Int) != n) = false := by simp
  clear hn h1 h2 hb2
  go_enter Try.func23, Try.ntmps23
  go_wp2
  go_loopw [5] (fun x wr => ∃ i : Nat, i ≤ n ∧ x = .int .i64 (i : Int) ∧ Hid (Below w.heap.size w wr)) (fun x _ => n - (intOf x).toNat)
  case atStart => exact ⟨0, Nat.zero_le _, rfl, Below.refl _ _⟩
  case round =>
    obtain ⟨i, hin, rfl, HW⟩ := hrel
    by_cases hlt : i < n
    · have hiz : (i : Int) < (n : Nat) := by omega
      have hi0 : (0 : Int) ≤ i := by omega
      obtain ⟨ns, hns⟩ : ∃ ns, l[i]? = some ns := ⟨_, List.getElem?_eq_getElem (by rw [HN.out]; exact hlt)⟩
      have hnb := HB.out ns (List.mem_of_getElem? hns)
      obtain ⟨g1, o1, d1, e1, rfl, hg1, k1, m1⟩ := H1.out.1 i ns hns
      obtain ⟨g2, o2, d2, e2, rfl, hg2, k2, m2⟩ := H1.out.2 i ns hns
      obtain ⟨q, hq⟩ : ∃ q, ns.length = q := ⟨_, rfl⟩
      rw [hq] at k1 k2 hnb
      have r1 := (HW.out.cell (p := ⟨g1, o1 + i, none⟩) hg1).trans k1
      have r2 := (HW.out.cell (p := ⟨g2, o2 + i, none⟩) hg2).trans k2
      have hqq : ((q : Int) != q) = false := by simp
      have HM : Hid ((∀ (j x : Nat), ns[j]? = some x → ∃ g2 o2, d1 = some ⟨g2, o2, none⟩ ∧ g2 < w.heap.size ∧ w.cell? ⟨g2, o2 + j, none⟩ = some (.int .i64 (x : Int))) ∧ (∀ (j x : Nat), ns[j]? = some x → ∃ g2 o2, d2 = some ⟨g2, o2, none⟩ ∧ g2 < w.heap.size ∧ w.cell? ⟨g2, o2 + j, none⟩ = some (.int .i64 (x : Int)))) := ⟨m1, m2⟩
      have HQ : Hid (ns.length = q) := hq
      have HKK : Hid (w.cell? ⟨g1, o1 + i, none⟩ = some (.slice d1 q e1) ∧ w.cell? ⟨g2, o2 + i, none⟩ = some (.slice d2 q e2)) := ⟨k1, k2⟩
      clear hns m1 m2 hq k1 k2
      go_wp2
      go_quiet (fail)
      go_wp2
      have HW1 : Hid (Below w.heap.size w (wr.drewN nq)) := below_drewN HW.out nq
      generalize wr.drewN nq = wb at HW1 ⊢
      clear r1 r2 HW
      go_loopw [6] (fun x wr => ∃ j : Nat, j ≤ q ∧ x = .int .i64 (j : Int) ∧ Hid (Below w.heap.size w wr)) (fun x _ => q - (intOf x).toNat)
      case atStart => exact ⟨0, Nat.zero_le _, rfl, HW1.out⟩
      case round =>
        clear HW1
        obtain ⟨j, hjq, rfl, HW⟩ := hrel
        have r1 := (HW.out.cell (p := ⟨g1, o1 + i, none⟩) hg1).trans HKK.out.1
        have r2 := (HW.out.cell (p := ⟨g2, o2 + i, none⟩) hg2).trans HKK.out.2
        by_cases hjl : j < q
        · have hjz : (j : Int) < (q : Nat) := by omega
          have hj0 : (0 : Int) ≤ j := by omega
          obtain ⟨x, hx⟩ : ∃ x, ns[j]? = some x := ⟨_, List.getElem?_eq_getElem (by rw [HQ.out]; exact hjl)⟩
          obtain ⟨g3, o3, rfl, hg3, k3⟩ := HM.out.1 j x hx
          obtain ⟨g4, o4, rfl, hg4, k4⟩ := HM.out.2 j x hx
          have r3 := (HW.out.cell (p := ⟨g3, o3 + j, none⟩) hg3).trans k3
          have r4 := (HW.out.cell (p := ⟨g4, o4 + j, none⟩) hg4).trans k4
          have hxx : ((x : Int) != x) = false := by simp
          clear hx k3 k4
          go_wp2
          go_quiet (fail)
          go_wp2
          go_roundw
          case rel => exact ⟨j + 1, by omega, by go_num, below_drewN HW.out _⟩
          case measure => simp [intOf]; omega
        · have hjz : ¬ (j : Int) < (q : Nat) := by omega
          go_wp2
          go_roundw
          case rel => exact ⟨i + 1, by omega, by go_num, HW.out⟩
          case measure => simp [intOf]; omega
    · have hiz : ¬ (i : Int) < (n : Nat) := by omega
      go_wp2
      go_ret
      exact ⟨rfl, HW.out⟩
/-- What lies there while a plan is chosen. -/
structure PG (w : World) (b f m : Int) (W : World) : Prop where
  a : Bk W w.heap.size #[.int .i64 b, .int .i64 f, .int .i64 m] 23
  z : Bk W (w.heap.size + 1) #[.int .i64 0, .int .i64 0, .int .i64 0] 31
  bel : Below w.heap.size w W
theorem PG.next {w W W' : World} {b f m : Int} (h : PG w b f m W) (hb : Below W.heap.size W W') : PG w b f m W' := ⟨h.a.below hb h.a.lt, h.z.below hb h.z.lt, h.bel.trans (hb.mono h.bel.size)⟩
theorem PG.fin {w W : World} {b f m : Int} (h : PG w b f m W) (x y z : Int) :
    Bk (((W.setCell ⟨w.heap.size + 1, 0, none⟩ (.int .i64 x)).setCell ⟨w.heap.size + 1, 1, none⟩ (.int .i64 y)).setCell ⟨w.heap.size + 1, 2, none⟩ (.int .i64 z)) (w.heap.size + 1) #[.int .i64 x, .int .i64 y, .int .i64 z] 31 ∧ Below w.heap.size w (((W.setCell ⟨w.heap.size + 1, 0, none⟩ (.int .i64 x)).setCell ⟨w.heap.size + 1, 1, none⟩ (.int .i64 y)).setCell ⟨w.heap.size + 1, 2, none⟩ (.int .i64 z)) :=
  ⟨((h.z.set 0 _).set 1 _).set 2 _, below_own h.bel h.bel.size (Lib.grownBy_setB (Lib.grownBy_setB (Lib.grownBy_setB (World.grownBy.refl _ _) 0 _) 1 _) 2 _) (by omega)⟩
set_option maxHeartbeats 4000000 in
theorem planOf_any (b f m : Int) (w : World) : Calls Try.prog 25 #[plV b f m] w fun e w' => e = .returned (plV (plT b f m).B (plT b f m).F (plT b f m).M) ∧ Below w.heap.size w w' := by
  have HC : Hid (∀ u, Calls Try.prog 14 #[plV b f m] u fun e w' => e = .returned (.int .i64 (plE b f m)) ∧ Below u.heap.size u w') := fun u => rcheck_any b f m u
  have HP : Hid (PG w b f m ((w.alloc (.cells #[.int .i64 b, .int .i64 f, .int .i64 m] 23)).alloc (.cells #[.int .i64 0, .int .i64 0, .int .i64 0] 31))) := by
    refine ⟨(bk_new _ _ _).alloc _, ?_, ((Below.refl _ _).alloc (Nat.le_refl _) _).alloc (by simp) _⟩
    have := bk_new (w.alloc (.cells #[.int .i64 b, .int .i64 f, .int .i64 m] 23)) #[.int .i64 0, .int .i64 0, .int .i64 0] 31
    rwa [al_size] at this
  cases h : plB b f m with
  | true =>
    have hE : plE b f m = 0 := by unfold plE; rw [h]; rfl
    rw [hE] at HC
    rw [plT_yes h]
    clear h hE
    go_enter Try.func25, Try.ntmps25
    go_wp2_with fail
    refine (HC.out _).mono ?_
    rintro e w1 ⟨rfl, b1⟩
    have H1 : Hid (PG w b f m w1) := HP.out.next b1
    have c0 : w1.cell? ⟨w.heap.size, 0, none⟩ = some (.int .i64 b) := by rw [H1.out.a.cell]; rfl
    have c1 : w1.cell? ⟨w.heap.size, 1, none⟩ = some (.int .i64 f) := by rw [H1.out.a.cell]; rfl
    have c2 : w1.cell? ⟨w.heap.size, 2, none⟩ = some (.int .i64 m) := by rw [H1.out.a.cell]; rfl
    clear b1 HP
    go_wp2_with fail
    refine (in_any b f m _).mono ?_
    rintro e w2 ⟨rfl, b2⟩
    have h2 := H1.out.next b2
    have z0 : w2.cell? ⟨w.heap.size + 1, 0, none⟩ = some (.int .i64 0) := by rw [h2.z.cell]; rfl
    have z1 : w2.cell? ⟨w.heap.size + 1, 1, none⟩ = some (.int .i64 0) := by rw [h2.z.cell]; rfl
    have z2 : w2.cell? ⟨w.heap.size + 1, 2, none⟩ = some (.int .i64 0) := by rw [h2.z.cell]; rfl
    have zf := fun j => h2.z.frozen j
    have HF : Hid _ := h2.fin b f m
    clear b2 h2 H1 c0 c1 c2
    go_wp2
    refine bodyPost_ret (results_cell_row rfl _ _ (w.heap.size + 1) 31 #[.int .i64 b, .int .i64 f, .int .i64 m] (0, 0) _ rfl HF.out.1 Try.underlying31 rfl inf_plan) rfl ⟨rfl, HF.out.2⟩
  | false =>
    have hT : plT b f m = ⟨4, 1, 100⟩ := by unfold plT; rw [h]; rfl
    rw [plE_no h] at HC
    rw [hT]
    clear h hT
    go_enter Try.func25, Try.ntmps25
    go_wp2_with fail
    refine (HC.out _).mono ?_
    rintro e w1 ⟨rfl, b1⟩
    have h2 := HP.out.next b1
    have z0 : w1.cell? ⟨w.heap.size + 1, 0, none⟩ = some (.int .i64 0) := by rw [h2.z.cell]; rfl
    have z1 : w1.cell? ⟨w.heap.size + 1, 1, none⟩ = some (.int .i64 0) := by rw [h2.z.cell]; rfl
    have z2 : w1.cell? ⟨w.heap.size + 1, 2, none⟩ = some (.int .i64 0) := by rw [h2.z.cell]; rfl
    have zf := fun j => h2.z.frozen j
    have HF : Hid _ := h2.fin 4 1 100
    clear b1 h2 HP
    go_wp2
    refine bodyPost_ret (results_cell_row rfl _ _ (w.heap.size + 1) 31 #[.int .i64 4, .int .i64 1, .int .i64 100] (0, 0) _ rfl HF.out.1 Try.underlying31 rfl inf_plan) rfl ⟨rfl, HF.out.2⟩
/-- A text's front. -/
def txF (s : ByteArray) (n : Nat) : ByteArray := s.extract 0 (min s.size n)
theorem txF_tby (s : ByteArray) (n : Nat) : tby (txF s n) = (tby s).take n := by
  unfold txF
  show (s.extract 0 (min s.size n)).data.toList = _
  rw [ByteArray.data_extract, Array.toList_extract, List.extract_eq_take_drop, List.drop_zero, Nat.sub_zero]
  have : s.data.toList.length = s.size := Array.length_toList
  by_cases c : s.size ≤ n
  · rw [show min s.size n = s.size from by omega, List.take_of_length_le (by omega), List.take_of_length_le (by rw [tby_len]; exact c)]
  · rw [show min s.size n = n from by omega]
theorem txF_size (s : ByteArray) (n : Nat) : (txF s n).size = min s.size n := by rw [← tby_len, txF_tby, List.length_take, tby_len]; omega
set_option maxHeartbeats 1000000 in
theorem text_any (s : ByteArray) (n : Nat) (w : World) (hs : s.size ≤ maxLen) (hn : n ≤ 1048576) : Calls Try.prog 26 #[.string s, .int .i64 (n : Int)] w fun e w' => e = .returned (.string (txF s n)) ∧ w' = w := by
  unfold maxLen at hs
  by_cases c : s.size ≤ n
  · have e1 : txF s n = s := by unfold txF; rw [show min s.size n = s.size from by omega]; simp
    have cz : (s.size : Int) ≤ n := by omega
    rw [e1]
    clear e1
    go_enter Try.func26, Try.ntmps26
    go_wp2
    go_ret
    exact ⟨rfl, rfl⟩
  · have e1 : txF s n = s.extract 0 n := by unfold txF; rw [show min s.size n = n from by omega]
    have cz : ¬ (s.size : Int) ≤ n := by omega
    have cz2 : (n : Int) ≤ s.size := by omega
    rw [e1]
    clear e1
    go_enter Try.func26, Try.ntmps26
    go_wp2
    go_ret
    exact ⟨rfl, rfl⟩
end Go.Proofs.Ytdinhnpobdfnoaa
