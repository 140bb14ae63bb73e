/- The walk of BloomFiner. -/
import Derived.Test.YtplfjfhpdfbpeaaBQ7
import Derived.Deep.Cut
namespace Go.Proofs.Ytplfjfhpdfbpeaa
open Go.RowKit
set_option linter.unusedSimpArgs false
set_option linter.unusedVariables false
theorem txl_take {w : World} {a : Option Addr} {xs : List ByteArray} (h : TxL w a xs) (m : Nat) : TxL w a (xs.take m) := fun i x hx => by
  rw [List.getElem?_take] at hx
  split at hx
  · exact h i x hx
  · cases hx
theorem rem_m {x : Int} (m : Int) (hm : 0 < m) : ∃ y : Int, x.tmod m = y ∧ -m < y ∧ y < m := ⟨_, rfl, by
  have := Int.lt_tmod_of_pos x hm
  omega, Int.tmod_lt_of_pos x hm⟩
theorem shl64 (k : Nat) (n e : Nat) (hn : n = 64 * 2 ^ e) (h : e + k ≤ 18) : IntKind.i64.wrap ((n : Int) * 2 ^ k) = ((64 * 2 ^ (e + k) : Nat) : Int) := by
  have h1 : (n : Int) * 2 ^ k = ((64 * 2 ^ (e + k) : Nat) : Int) := by
    rw [hn, Nat.pow_add, ← Nat.mul_assoc]; simp
  have h2 := Nat.pow_le_pow_right (n := 2) (by omega) h
  rw [h1, IntKind.wrap_i64]
  omega
set_option maxHeartbeats 2000000 in
set_option maxRecDepth 100000 in
/-- From the two filters on. -/
theorem finer_walk (size more hashes : Int) (a : Option Addr) (L c : Nat) (a2 : Option Addr) (L2 c2 : Nat) (xs ys : List ByteArray) (w : World) (hx : TxL w a xs) (nx : xs.length = L) (hL : L ≤ 140737488355328) (hLc : L ≤ c) (hy : TxL w a2 ys) (ny : ys.length = L2) (hL2 : L2 ≤ 140737488355328)
    (b1 : -9223372036854775808 ≤ size ∧ size ≤ 9223372036854775807) (b2 : -9223372036854775808 ≤ more ∧ more ≤ 9223372036854775807) (b3 : -9223372036854775808 ≤ hashes ∧ hashes ≤ 9223372036854775807) :
    Calls Try.prog 3 #[.int .i64 size, .int .i64 more, .int .i64 hashes, .slice a L c, .slice a2 L2 c2] w fun e w' => e = .returned (.bool true) ∧ Below w.heap.size w w' := by
  obtain ⟨r1, e1, e1a, e1b⟩ := rem_m (x := size) 5 (by omega)
  obtain ⟨r2, e2, e2a, e2b⟩ := rem_m (x := more) 4 (by omega)
  obtain ⟨r3, e3, e3a, e3b⟩ := rem_m (x := hashes) 8 (by omega)
  obtain ⟨p1, f1⟩ : ∃ p : Nat, (r1 + 5) % 5 = p := ⟨((r1 + 5) % 5).toNat, by omega⟩
  obtain ⟨p2, f2⟩ : ∃ p : Nat, (r2 + 4) % 4 = p := ⟨((r2 + 4) % 4).toNat, by omega⟩
  obtain ⟨p3, f3⟩ : ∃ p : Nat, (r3 + 8) % 8 = p := ⟨((r3 + 8) % 8).toNat, by omega⟩
  have p1b : p1 < 5 := by omega
  have p2b : p2 < 4 := by omega
  have p3b : p3 < 8 := by omega
  have g1 : (r1 + 5).tmod 5 = (p1 : Int) := by rw [Int.tmod_eq_emod_of_nonneg (by omega)]; exact f1
  have g2 : (r2 + 4).tmod 4 = (p2 : Int) := by rw [Int.tmod_eq_emod_of_nonneg (by omega)]; exact f2
  have g3 : (r3 + 8).tmod 8 = (p3 : Int) := by rw [Int.tmod_eq_emod_of_nonneg (by omega)]; exact f3
  obtain ⟨n, hn⟩ : ∃ n, 64 * 2 ^ p1 = n := ⟨_, rfl⟩
  obtain ⟨N, hN⟩ : ∃ n, 64 * 2 ^ (p1 + p2) = n := ⟨_, rfl⟩
  have s1 : IntKind.i64.wrap ((64 : Int) * 2 ^ p1) = (n : Int) := by
    have := shl64 p1 64 0 rfl (by omega)
    rw [Nat.zero_add, hn] at this
    exact this
  have s2 : IntKind.i64.wrap ((n : Int) * 2 ^ p2) = (N : Int) := by
    have := shl64 p2 n p1 hn.symm (by omega)
    rw [hN] at this
    exact this
  obtain ⟨K, hK⟩ : ∃ K, 1 + p3 = K := ⟨_, rfl⟩
  have hK1 : (1 : Int) + p3 = (K : Int) := by omega
  have HO1 : Hid (okF n (1 + p3)) := ⟨⟨p1, by omega, hn.symm⟩, by omega, by omega⟩
  have HO2 : Hid (okF N (1 + p3)) := ⟨⟨p1 + p2, by omega, hN.symm⟩, by omega, by omega⟩
  have HD : Hid (n ∣ N) := ⟨2 ^ p2, by rw [← hn, ← hN, Nat.pow_add, Nat.mul_assoc]⟩
  rw [hK] at HO1 HO2
  obtain ⟨zs, hz⟩ : ∃ zs, xs.take 100 = zs := ⟨_, rfl⟩
  have HM : Hid (∀ u m M, okF m K → Below w.heap.size w u → (M = L ∧ (L : Int) ≤ 100 ∨ M = 100 ∧ 100 < (L : Int)) → Calls Try.prog 5 #[.int .i64 (m : Int), .int .i64 (K : Int), .slice a M c] u fun e w' => ∃ f g, e = .returned (.pointer (some ⟨f, 0, none⟩)) ∧ FlS w' f g m K (mdR m K zs) ∧ Below u.heap.size u w' ∧ u.heap.size ≤ f ∧ u.heap.size ≤ g) := fun u m M hok hb hM => by
    have hl : (xs.take 100).length = M := by rw [List.length_take]; omega
    have := made_any14 m K a M c (xs.take 100) u hok ((txl_take hx 100).below hb) hl (by omega)
    rw [hz] at this
    exact this
  have HY : Hid (TxL w a2 ys) := hy
  have NY : Hid (ys.length = L2) := ny
  clear f1 f2 f3 hn hN hx hy nx ny hK hz
  go_enter Try.func3, Try.ntmps3
  go_wp2_with fail
  refine (awake14 w).mono ?_
  rintro e w1 ⟨rfl, hb1⟩
  have HB1 : Hid (Below w.heap.size w w1) := hb1
  clear hb1
  go_wp2_with fail
  all_goals
    refine (HM.out _ _ _ HO1.out HB1.out (by omega)).mono ?_
    rintro e w2 ⟨f, g, rfl, f2, b2, lf, lg⟩
    have HB2 : Hid (FlS w2 f g n K (mdR n K zs) ∧ Below w.heap.size w w2) := ⟨f2, HB1.out.trans (b2.mono HB1.out.size)⟩
    clear f2 b2 lf lg HB1
    go_wp2_with fail
    refine (HM.out _ _ _ HO2.out HB2.out.2 (by omega)).mono ?_
    rintro e w3 ⟨f', g', rfl, f3, b3, lf, lg⟩
    have HB3 : Hid (FlS w3 f g n K (mdR n K zs) ∧ FlS w3 f' g' N K (mdR N K zs) ∧ Below w.heap.size w w3) := ⟨HB2.out.1.below b3, f3, HB2.out.2.trans (b3.mono HB2.out.2.size)⟩
    clear f3 b3 lf lg HB2 HM
    have HI : Hid (∀ y, haK N (idF y) (mdR N K zs) K = true → haK n (idF y) (mdR n K zs) K = true) := fun y h => by
      have h1 := HB3.out.1.len
      have h2 := HB3.out.2.1.len
      rw [mdR_len] at h1 h2
      exact finer n N K (zs.map idF) (zrR (n / 8)) (zrR (N / 8)) HB3.out.1.pos HB3.out.2.1.pos HD.out (by rw [zrR_len]; exact h1) (by rw [zrR_len]; exact h2) (fun q => btR_zr _ _) (idF y) h
    go_wp2
    go_loopw [15] (fun v wr => ∃ i : Nat, i ≤ L2 ∧ v = .int .i64 i ∧ Hid (FlS wr f g n K (mdR n K zs) ∧ FlS wr f' g' N K (mdR N K zs) ∧ Below w.heap.size w wr)) (fun v _ => L2 - (intOf v).toNat)
    case atStart => exact ⟨0, Nat.zero_le _, rfl, HB3.out⟩
    case round =>
      clear HB3
      obtain ⟨i, hi, rfl, HB⟩ := hrel
      by_cases hlt : i < L2
      · obtain ⟨y, hy⟩ : ∃ y, ys[i]? = some y := ⟨_, List.getElem?_eq_getElem (by rw [NY.out]; exact hlt)⟩
        have HC : Hid (∀ u, Below w.heap.size w u → ∃ ga oa, a2 = some ⟨ga, oa, none⟩ ∧ u.cell? ⟨ga, oa + i, none⟩ = some (.string y)) := fun u hu => by
          obtain ⟨ga, oa, e1, _, e2⟩ := (HY.out.below hu) i y hy
          exact ⟨ga, oa, e1, e2⟩
        obtain ⟨ga, oa, ha2, hc⟩ := HC.out wr HB.out.2.2
        subst ha2
        have HI1 : Hid (∀ u, FlS u f g n K (mdR n K zs) ∧ FlS u f' g' N K (mdR N K zs) ∧ Below w.heap.size w u → Calls Try.prog 7 #[.string y] u fun e w' => e = .returned (.agg (idc (idF y))) ∧ Hid (FlS w' f g n K (mdR n K zs) ∧ FlS w' f' g' N K (mdR N K zs) ∧ Below w.heap.size w w')) := fun u hu => by
          refine (id_any14 y u).mono ?_
          rintro e w' ⟨rfl, hb⟩
          exact ⟨rfl, hu.1.below hb, hu.2.1.below hb, hu.2.2.trans (hb.mono hu.2.2.size)⟩
        have HF1 : Hid (∀ u, FlS u f g n K (mdR n K zs) ∧ FlS u f' g' N K (mdR N K zs) ∧ Below w.heap.size w u → Calls Try.prog 6 #[.pointer (some ⟨f', 0, none⟩), .agg (idc (idF y))] u fun e w' => e = .returned (.bool (haK N (idF y) (mdR N K zs) K)) ∧ Hid (FlS w' f g n K (mdR n K zs) ∧ FlS w' f' g' N K (mdR N K zs) ∧ Below w.heap.size w w') ∧ w'.cell? ⟨ga, oa + i, none⟩ = some (.string y)) := fun u hu => by
          refine (has_any14 (idF y) f' g' N K _ u (idF_size y) hu.2.1).mono ?_
          rintro e w' ⟨rfl, hb⟩
          have hB := hu.2.2.trans (hb.mono hu.2.2.size)
          obtain ⟨gb, ob, e1, e2⟩ := HC.out w' hB
          injection e1 with e1
          injection e1 with e3 e4
          subst e3 e4
          exact ⟨rfl, ⟨hu.1.below hb, hu.2.1.below hb, hB⟩, e2⟩
        have HF2 : Hid (∀ u, FlS u f g n K (mdR n K zs) ∧ FlS u f' g' N K (mdR N K zs) ∧ Below w.heap.size w u → Calls Try.prog 6 #[.pointer (some ⟨f, 0, none⟩), .agg (idc (idF y))] u fun e w' => e = .returned (.bool (haK n (idF y) (mdR n K zs) K)) ∧ Hid (FlS w' f g n K (mdR n K zs) ∧ FlS w' f' g' N K (mdR N K zs) ∧ Below w.heap.size w w')) := fun u hu => by
          refine (has_any14 (idF y) f g n K _ u (idF_size y) hu.1).mono ?_
          rintro e w' ⟨rfl, hb⟩
          exact ⟨rfl, hu.1.below hb, hu.2.1.below hb, hu.2.2.trans (hb.mono hu.2.2.size)⟩
        obtain ⟨D, hD⟩ : ∃ D, idc (idF y) = D := ⟨_, rfl⟩
        rw [hD] at HI1 HF1 HF2
        clear hD HC hy
        cases hv : haK N (idF y) (mdR N K zs) K with
        | false =>
          rw [hv] at HF1
          clear hv
          go_wp2_with fail
          refine (HI1.out _ HB.out).mono ?_
          rintro e w4 ⟨rfl, HB4⟩
          go_wp2_with fail
          refine (HF1.out _ HB4.out).mono ?_
          rintro e w5 ⟨rfl, HB5, hc5⟩
          go_wp2
          go_roundw
          case rel => exact ⟨i + 1, by omega, by go_num, HB5.out⟩
          case measure => simp [intOf]; omega
        | true =>
          have hv2 := HI.out y hv
          rw [hv] at HF1
          rw [hv2] at HF2
          clear hv hv2
          go_wp2_with fail
          refine (HI1.out _ HB.out).mono ?_
          rintro e w4 ⟨rfl, HB4⟩
          go_wp2_with fail
          refine (HF1.out _ HB4.out).mono ?_
          rintro e w5 ⟨rfl, HB5, hc5⟩
          go_wp2_with fail
          refine (HI1.out _ HB5.out).mono ?_
          rintro e w6 ⟨rfl, HB6⟩
          go_wp2_with fail
          refine (HF2.out _ HB6.out).mono ?_
          rintro e w7 ⟨rfl, HB7⟩
          go_wp2
          go_roundw
          case rel => exact ⟨i + 1, by omega, by go_num, HB7.out⟩
          case measure => simp [intOf]; omega
      · go_wp2
        go_ret
        exact ⟨rfl, HB.out.2.2⟩
end Go.Proofs.Ytplfjfhpdfbpeaa
