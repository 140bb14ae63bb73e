import Derived.Test.YtijpdnoloicfjaaDoorM9
import Derived.Laws.AppendOwn
import Derived.Test.YtijpdnoloicfjaaDoorM5
import Derived.Deep.AppendLies
/- The document's own primes (munimentref02). -/
namespace Go.Proofs.YtijpdnoloicfjaaDoor
open Go.RowKit
set_option linter.unusedSimpArgs false
set_option linter.unusedVariables false
/-- Is a number divided by none of these, as far as their squares go? -/
def isP : List Nat → Nat → Bool → Bool
  | [], _, b => b
  | q :: r, p, b => if q * q ≤ p then isP r p (b && decide (p % q ≠ 0)) else b
/-- So many numbers are tried. -/
def primesS : Nat → List Nat → Nat → List Nat
  | 0, s, _ => s
  | f + 1, s, p => if s.length < 64 then primesS f (if isP s p true = true then s ++ [p] else s) (p + 1) else s
theorem primes_are : primesS 310 [] 2 = prs := by decide +kernel
theorem prs_len : prs.length = 64 := rfl
/-- Numbers of 64 bits as a list of cells. -/
def uv (l : List Nat) : List Value := l.map fun x : Nat => Value.int .u64 (x : Int)
theorem uv_length (l : List Nat) : (uv l).length = l.length := by simp [uv]
theorem uv_append (a b : List Nat) : uv (a ++ b) = uv a ++ uv b := by simp [uv]
theorem own_cell {w : World} {B n : Nat} {v : Value} {s : List Nat} (h : w.ownsRow B 41 1 v n (uv s)) (i : Nat) (hi : i < s.length) :
    ∃ g c, v = .slice (some ⟨g, 0, none⟩) n c ∧ w.cell? ⟨g, i, none⟩ = some (.int .u64 (s.getD i 0 : Nat)) := by
  obtain ⟨hl, h⟩ := h
  have hsl : s.length = n := by rw [uv_length] at hl; omega
  rcases h with ⟨rfl, rfl⟩ | ⟨g, cap, cur, rfl, _, hg, hn, _, hc, ht⟩
  · omega
  · refine ⟨g, cap, rfl, ?_⟩
    rw [cell_of_row w g i cur _ (0, 0) hg]
    have e : (cur.toList.take (n * 1))[i]? = (uv s)[i]? := by rw [ht]
    rw [List.getElem?_take_of_lt (by omega), Array.getElem?_toList, uv, List.getElem?_map, List.getElem?_eq_getElem hi] at e
    rw [e, List.getD, List.getElem?_eq_getElem hi]; rfl
theorem own_form {w : World} {B n : Nat} {v : Value} {xs : List Value} (h : w.ownsRow B 41 1 v n xs) : (∃ g c, v = .slice (some ⟨g, 0, none⟩) n c) ∨ (v = .slice none 0 0 ∧ n = 0) := by
  rcases h.2 with ⟨h1, h2⟩ | ⟨g, c, _, h1, _⟩
  · exact Or.inr ⟨h1, h2⟩
  · exact Or.inl ⟨g, c, h1⟩
theorem isP_go {s : List Nat} {i p : Nat} {b : Bool} (h : i < s.length) (hq : s.getD i 0 * s.getD i 0 ≤ p) : isP (s.drop i) p b = isP (s.drop (i + 1)) p (b && decide (p % s.getD i 0 ≠ 0)) := by
  rw [List.drop_eq_getElem_cons h, isP]
  have e : s[i] = s.getD i 0 := by rw [List.getD, List.getElem?_eq_getElem h]; rfl
  rw [e, if_pos hq]
theorem isP_stop {s : List Nat} {i p : Nat} {b : Bool} (h : i < s.length) (hq : ¬ s.getD i 0 * s.getD i 0 ≤ p) : isP (s.drop i) p b = b := by
  rw [List.drop_eq_getElem_cons h, isP]
  have e : s[i] = s.getD i 0 := by rw [List.getD, List.getElem?_eq_getElem h]; rfl
  rw [e, if_neg hq]
theorem isP_end {s : List Nat} {i p : Nat} {b : Bool} (h : ¬ i < s.length) : isP (s.drop i) p b = b := by
  rw [List.drop_of_length_le (by omega)]; rfl
end Go.Proofs.YtijpdnoloicfjaaDoor
/- The document's own list of primes (munimentref02). -/
namespace Go.Proofs.YtijpdnoloicfjaaDoor
open Go.RowKit
set_option linter.unusedSimpArgs false
set_option linter.unusedVariables false
theorem own_any {w : World} {B n : Nat} {v : Value} {xs : List Value} (h : w.ownsRow B 41 1 v n xs) : ∃ a c, v = .slice a n c := by
  rcases own_form h with ⟨g, c, e⟩ | ⟨e, rfl⟩
  · exact ⟨_, _, e⟩
  · exact ⟨_, _, e⟩
theorem own_at {w : World} {B n c : Nat} {a : Option Addr} {s : List Nat} (h : w.ownsRow B 41 1 (.slice a n c) n (uv s)) (i : Nat) (hi : i < s.length) :
    ∃ g, a = some ⟨g, 0, none⟩ ∧ w.cell? ⟨g, i, none⟩ = some (.int .u64 (s.getD i 0 : Nat)) := by
  obtain ⟨g, c', e, h2⟩ := own_cell h i hi
  injection e with e1 e2 e3
  exact ⟨g, e1, h2⟩
theorem getD_all {P : Nat → Prop} {s : List Nat} (h : ∀ q ∈ s, P q) (i : Nat) (hi : i < s.length) : P (s.getD i 0) := by
  have e : s.getD i 0 = s[i] := by rw [List.getD, List.getElem?_eq_getElem hi]; rfl
  rw [e]; exact h _ (List.getElem_mem hi)
theorem own_kept {w w' : World} {B n : Nat} {v : Value} {xs : List Value} (h : w.ownsRow B 41 1 v n xs) (hg : w.grownBy w' none) : w'.ownsRow B 41 1 v n xs := by
  refine h.kept hg ?_
  cases e : v.ownBlock <;> simp
theorem primes_next {f p : Nat} {s : List Nat} (h : prs = primesS f s p) (hl : s.length < 64) : ∃ k, f = k + 1 ∧ prs = primesS k (if isP s p true = true then s ++ [p] else s) (p + 1) := by
  cases f with
  | zero => rw [primesS] at h; rw [← h, prs_len] at hl; omega
  | succ k => exact ⟨k, rfl, by rw [h, primesS, if_pos hl]⟩
theorem primes_over {f p : Nat} {s : List Nat} (h : prs = primesS f s p) (hl : ¬ s.length < 64) : s = prs := by
  cases f with
  | zero => rw [h, primesS]
  | succ k => rw [h, primesS, if_neg hl]
theorem news_u (w : World) (a : Value) (T : TypeId) : ∀ (j : Nat) (u : Value), [a][j]? = some u → (w.alloc (.cells #[a] T)).cell? ((⟨w.heap.size, 0, none⟩ : Addr).add j) = some u := by
  intro j u h
  rw [WideShapes.add_plain, Nat.zero_add, World.cell?_alloc_new]
  simpa using h
theorem one_u (a : Int) : ∀ u ∈ [Value.int .u64 a], u.oneCell' = true := by
  intro u hu
  simp at hu
  subst hu; rfl
theorem appu_below {B n : Nat} {w wr w1 : World} {o : Obj} {v : Value} {xs : List Value} {e : TypeId} (hb : Below B w wr) (hz : B ≤ wr.heap.size) (ho : wr.ownsRow B e 1 v n xs) (hg : (wr.alloc o).grownBy w1 v.ownBlock) : Below B w w1 := by
  refine (hb.alloc hz o).grown hg (by simp; omega) (fun k hk => ?_)
  rcases ho.2 with ⟨rfl, _⟩ | ⟨g, cap, cur, rfl, hle, _⟩
  · cases hk
  · simp [Value.ownBlock] at hk; omega
theorem mod_bne (p q : Nat) : (((p : Int) % (q : Int)) != 0) = (true && decide (p % q ≠ 0)) := by
  have e : ((p : Int) % (q : Int)) = ((p % q : Nat) : Int) := by simp
  rw [e, Bool.true_and]
  apply Bool.eq_iff_iff.2
  rw [bne_iff_ne, decide_eq_true_iff]
  omega
set_option maxHeartbeats 1000000 in
set_option maxRecDepth 100000 in
theorem primes_any (w : World) :
    Calls Tryd.prog 21 #[.int .i64 64] w fun e w' => ∃ g c, e = .returned (.slice (some ⟨g, 0, none⟩) 64 c) ∧ (∀ i, i < 64 → w'.cell? ⟨g, i, none⟩ = some (.int .u64 (prs.getD i 0 : Nat))) ∧ w.heap.size ≤ g ∧ g < w'.heap.size ∧ Below w.heap.size w w' := by
  obtain ⟨i0, hi, hz0, hz1, hz2⟩ := info_parts info_u64
  go_enter Tryd.func21, Tryd.ntmps21
  go_wp2
  go_loopw [3, 4] (fun v u wr => ∃ (f p : Nat) (s : List Nat), p + f = 312 ∧ 2 ≤ p ∧ u = .int .u64 (p : Int) ∧ s.length ≤ 64 ∧ Hid (wr.ownsRow w.heap.size 41 1 v s.length (uv s) ∧ Below w.heap.size w wr ∧ prs = primesS f s p ∧ ∀ q ∈ s, 2 ≤ q ∧ q ≤ 312)) (fun _ u _ => 400 - (intOf u).toNat)
  case atStart => exact ⟨310, 2, [], rfl, by omega, rfl, by decide, World.ownsRow_nil _ _ _ _, Below.refl _ _, primes_are.symm, by simp⟩
  case round =>
    obtain ⟨f, p, s, hpf, hp2, rfl, hsl, HR⟩ := hrel
    have hp : p ≤ 312 := by omega
    have HPF : Hid (p + f = 312) := hpf
    clear hpf
    obtain ⟨n, hn⟩ : ∃ n, n = s.length := ⟨_, rfl⟩
    have HL : Hid (n = s.length) := hn
    rw [← hn] at HR hsl
    clear hn
    obtain ⟨a, c, hv⟩ := own_any HR.out.1
    subst hv
    by_cases hlt : n < 64
    · obtain ⟨wo, hwo⟩ : ∃ wo, wo = wr := ⟨_, rfl⟩
      rw [← hwo] at HR ⊢
      clear hwo
      go_wp2
      go_loopw [5, 6] (fun b k wq => ∃ (j : Nat) (t : Bool), j ≤ n ∧ k = .int .i64 (j : Int) ∧ b = .bool t ∧ Hid (wo.grownBy wq none ∧ isP s p true = isP (s.drop j) p t)) (fun _ k _ => 100 - (intOf k).toNat)
      case atStart => exact ⟨0, true, by omega, rfl, rfl, World.grownBy.refl _ _, rfl⟩
      case round =>
        obtain ⟨j, t, hj, rfl, rfl, HQ⟩ := hrel
        by_cases hjn : j < n
        · obtain ⟨g, hg, c0⟩ := own_at HR.out.1 j (by rw [← HL.out]; exact hjn)
          subst hg
          obtain ⟨q, hq⟩ : ∃ q, q = s.getD j 0 := ⟨_, rfl⟩
          have hq2 : 2 ≤ q ∧ q ≤ 312 := by rw [hq]; exact getD_all HR.out.2.2.2 j (by rw [← HL.out]; exact hjn)
          obtain ⟨hq2, hq3⟩ := hq2
          have c1 : wr.cell? ⟨g, j, none⟩ = some (.int .u64 (q : Int)) := by rw [hq]; exact HQ.out.1.cell c0 (by simp)
          have HG : Hid (q = s.getD j 0) := hq
          clear hq c0
          have hqq : q * q ≤ 97344 := Nat.le_trans (Nat.mul_le_mul hq3 hq3) (by decide)
          have hd1 : ((j : Int) < (n : Int)) := by omega
          by_cases hle : q * q ≤ p
          · have hd2 : ((q : Int) * (q : Int) ≤ (p : Int)) := by exact_mod_cast hle
            have HLE : Hid (q * q ≤ p) := hle
            clear hle
            go_wp2
            go_quiet (fail)
            have c2 : (wr.drewN nq).cell? ⟨g, j, none⟩ = some (.int .u64 (q : Int)) := c1
            have HQ2 : Hid (wo.grownBy (wr.drewN nq) none) := HQ.out.1.trans (grown_drewN _ _ _)
            cases t
            · go_wp2
              go_roundw
              case rel => 
                refine ⟨j + 1, false, by omega, by go_num, rfl, HQ2.out, ?_⟩
                rw [HQ.out.2, isP_go (by rw [← HL.out]; exact hjn) (by rw [← HG.out]; exact HLE.out)]; rfl
              case measure => simp [intOf]; omega
            · go_wp2
              go_roundw
              case rel => 
                refine ⟨j + 1, true && decide (p % q ≠ 0), by omega, by go_num, ?_, HQ2.out, ?_⟩
                · exact congrArg Value.bool (mod_bne p q)
                · rw [HQ.out.2, isP_go (by rw [← HL.out]; exact hjn) (by rw [← HG.out]; exact HLE.out), ← HG.out]
              case measure => simp [intOf]; omega
          · have hd2 : ¬ ((q : Int) * (q : Int) ≤ (p : Int)) := by intro h; exact hle (by exact_mod_cast h)
            have HLE : Hid (isP s p true = t) := by
              show isP s p true = t
              rw [HQ.out.2, isP_stop (by rw [← HL.out]; exact hjn) (by rw [← HG.out]; exact hle)]
            clear hle
            go_wp2
            go_quiet (fail)
            obtain ⟨w1, hw1⟩ : ∃ w1, w1 = wr.drewN nq := ⟨_, rfl⟩
            have HQ2 : Hid (wo.grownBy w1 none) := by rw [hw1]; exact HQ.out.1.trans (grown_drewN _ _ _)
            rw [← hw1]
            have HO1 : Hid (w1.ownsRow w.heap.size 41 1 (.slice (some ⟨g, 0, none⟩) n c) n (uv s)) := own_kept HR.out.1 HQ2.out
            have HB1 : Hid (Below w.heap.size w w1) := HR.out.2.1.trans ((below_of_grown HQ2.out).mono HR.out.2.1.size)
            obtain ⟨k, hk, hk2⟩ := primes_next HR.out.2.2.1 (by rw [← HL.out]; exact hlt)
            rw [HLE.out] at hk2
            have HK : Hid (f = k + 1 ∧ prs = primesS k (if t = true then s ++ [p] else s) (p + 1)) := ⟨hk, hk2⟩
            have HA : Hid (∀ q ∈ s, 2 ≤ q ∧ q ≤ 312) := HR.out.2.2.2
            have hp3 : p < 312 := by have := HPF.out; omega
            have hzz : w.heap.size ≤ w1.heap.size := HB1.out.size
            clear hk hk2 hw1 HQ2 HR HQ HLE c1
            obtain ⟨v, hv⟩ : ∃ v, v = Value.slice (some ⟨g, 0, none⟩) n c := ⟨_, rfl⟩
            rw [← hv] at HO1
            rw [← hv]
            clear hv
            cases t
            · go_wp2
              go_roundw
              case rel => exact ⟨k, p + 1, s, by have := HPF.out; have := HK.out.1; omega, by omega, by go_num, by rw [← HL.out]; exact hsl, by rw [← HL.out]; exact HO1.out, HB1.out, HK.out.2, HA.out⟩
              case measure => simp [intOf]; omega
            · go_wp2_with (at_builtin; refine wpList_append_own _ rfl _ _ 47 rfl w.heap.size 41 i0 (.int .u64 0) 1 8 Tryd.underlying47 hi hz0 hz1 hz2 rfl (by decide) _ _ _ rfl (HO1.out.alloc _) ⟨w1.heap.size, 0, none⟩ 1 1 [.int .u64 (p : Int)] rfl rfl (news_u _ _ _) (one_u _) (by unfold maxLen; omega) (by omega) (by simp; omega) ?_)
              intro v' w7 hown1 hgrow _
              have HO7 : Hid (w7.ownsRow w.heap.size 41 1 v' (s ++ [p]).length (uv (s ++ [p]))) := by
                show w7.ownsRow w.heap.size 41 1 v' (s ++ [p]).length (uv (s ++ [p]))
                rw [uv_append, List.length_append, ← HL.out]; exact hown1
              have HB7 : Hid (Below w.heap.size w w7) := appu_below HB1.out hzz HO1.out hgrow
              clear hown1 hgrow HO1
              go_wp2
              go_roundw
              case rel =>
                refine ⟨k, p + 1, s ++ [p], by have := HPF.out; have := HK.out.1; omega, by omega, by go_num, by rw [List.length_append, ← HL.out]; simp; omega, HO7.out, HB7.out, HK.out.2, ?_⟩
                intro q hq
                rcases List.mem_append.1 hq with h | h
                · exact HA.out q h
                · simp at h; omega
              case measure => simp [intOf]; omega
        · have hd1 : ¬ ((j : Int) < (n : Int)) := by omega
          have HLE : Hid (isP s p true = t) := by
            show isP s p true = t
            rw [HQ.out.2, isP_end (by rw [← HL.out]; exact hjn)]
          go_wp2
          go_quiet (fail)
          obtain ⟨w1, hw1⟩ : ∃ w1, w1 = wr.drewN nq := ⟨_, rfl⟩
          have HQ2 : Hid (wo.grownBy w1 none) := by rw [hw1]; exact HQ.out.1.trans (grown_drewN _ _ _)
          rw [← hw1]
          have HO1 : Hid (w1.ownsRow w.heap.size 41 1 (.slice a n c) n (uv s)) := own_kept HR.out.1 HQ2.out
          have HB1 : Hid (Below w.heap.size w w1) := HR.out.2.1.trans ((below_of_grown HQ2.out).mono HR.out.2.1.size)
          obtain ⟨k, hk, hk2⟩ := primes_next HR.out.2.2.1 (by rw [← HL.out]; exact hlt)
          rw [HLE.out] at hk2
          have HK : Hid (f = k + 1 ∧ prs = primesS k (if t = true then s ++ [p] else s) (p + 1)) := ⟨hk, hk2⟩
          have HA : Hid (∀ q ∈ s, 2 ≤ q ∧ q ≤ 312) := HR.out.2.2.2
          have hp3 : p < 312 := by have := HPF.out; omega
          have hzz : w.heap.size ≤ w1.heap.size := HB1.out.size
          clear hk hk2 hw1 HQ2 HR HQ HLE
          obtain ⟨v, hv⟩ : ∃ v, v = Value.slice a n c := ⟨_, rfl⟩
          rw [← hv] at HO1
          rw [← hv]
          clear hv
          cases t
          · go_wp2
            go_roundw
            case rel => exact ⟨k, p + 1, s, by have := HPF.out; have := HK.out.1; omega, by omega, by go_num, by rw [← HL.out]; exact hsl, by rw [← HL.out]; exact HO1.out, HB1.out, HK.out.2, HA.out⟩
            case measure => simp [intOf]; omega
          · go_wp2_with (at_builtin; refine wpList_append_own _ rfl _ _ 47 rfl w.heap.size 41 i0 (.int .u64 0) 1 8 Tryd.underlying47 hi hz0 hz1 hz2 rfl (by decide) _ _ _ rfl (HO1.out.alloc _) ⟨w1.heap.size, 0, none⟩ 1 1 [.int .u64 (p : Int)] rfl rfl (news_u _ _ _) (one_u _) (by unfold maxLen; omega) (by omega) (by simp; omega) ?_)
            intro v' w7 hown1 hgrow _
            have HO7 : Hid (w7.ownsRow w.heap.size 41 1 v' (s ++ [p]).length (uv (s ++ [p]))) := by
              show w7.ownsRow w.heap.size 41 1 v' (s ++ [p]).length (uv (s ++ [p]))
              rw [uv_append, List.length_append, ← HL.out]; exact hown1
            have HB7 : Hid (Below w.heap.size w w7) := appu_below HB1.out hzz HO1.out hgrow
            clear hown1 hgrow HO1
            go_wp2
            go_roundw
            case rel =>
              refine ⟨k, p + 1, s ++ [p], by have := HPF.out; have := HK.out.1; omega, by omega, by go_num, by rw [List.length_append, ← HL.out]; simp; omega, HO7.out, HB7.out, HK.out.2, ?_⟩
              intro q hq
              rcases List.mem_append.1 hq with h | h
              · exact HA.out q h
              · simp at h; omega
            case measure => simp [intOf]; omega
    · have hn64 : n = 64 := by omega
      subst hn64
      have hs : s = prs := primes_over HR.out.2.2.1 (by rw [← HL.out]; omega)
      subst hs
      obtain ⟨g, hg, _⟩ := own_at HR.out.1 0 (by decide)
      subst hg
      have HC : Hid (∀ i, i < 64 → wr.cell? ⟨g, i, none⟩ = some (.int .u64 (prs.getD i 0 : Nat))) := by
        intro i hi
        obtain ⟨g', e, h⟩ := own_at HR.out.1 i (by rw [prs_len]; exact hi)
        injection e with e
        injection e with e
        rw [e]; exact h
      have HGG : Hid (w.heap.size ≤ g ∧ g < wr.heap.size) := HR.out.1.lt g rfl
      have HB : Hid (Below w.heap.size w wr) := HR.out.2.1
      clear HR HPF
      go_wp2
      go_ret
      exact ⟨g, c, rfl, HC.out, HGG.out.1, HGG.out.2, HB.out⟩
end Go.Proofs.YtijpdnoloicfjaaDoor
/- The document's own Sum (munimentref02). -/
namespace Go.Proofs.YtijpdnoloicfjaaDoor
open Go.RowKit
set_option linter.unusedSimpArgs false
set_option linter.unusedVariables false
/-- The constants, so many laid. -/
def kp : Nat → Array Value
  | 0 => (List.replicate 64 (Value.int .u32 0)).toArray
  | j + 1 => (kp j).setIfInBounds j (c32 (KT j))
theorem kp_size : ∀ j, (kp j).size = 64
  | 0 => rfl
  | j + 1 => by rw [kp, Array.size_setIfInBounds]; exact kp_size j
theorem kp_all : kp 64 = kcs := by kernel_rfl
def hp : Nat → Array Value
  | 0 => (List.replicate 8 (Value.int .u32 0)).toArray
  | j + 1 => (hp j).setIfInBounds j (c32 (H0.list.getD j 0))
theorem hp_size : ∀ j, (hp j).size = 8
  | 0 => rfl
  | j + 1 => by rw [hp, Array.size_setIfInBounds]; exact hp_size j
theorem hp_all : hp 8 = v8c H0 := by kernel_rfl
/-- What lies in memory, so many of both laid. -/
def SS (w : World) (g K : Nat) (A B : Array Value) (W : World) : Prop :=
  Blk W w.heap.size z32c 23 ∧ Blk W K A 49 ∧ Blk W (K + 1) B 39 ∧ (∀ i, i < 64 → W.cell? ⟨g, i, none⟩ = some (.int .u64 (prs.getD i 0 : Nat))) ∧ Below w.heap.size w W
theorem SS.below {w W W' : World} {g K : Nat} {A B : Array Value} (h : SS w g K A B W) (hb : Below W.heap.size W W') : SS w g K A B W' :=
  ⟨h.1.grown (grown_of_below hb none) (by simp), h.2.1.grown (grown_of_below hb none) (by simp), h.2.2.1.grown (grown_of_below hb none) (by simp), fun i hi => (grown_of_below hb none).cell (h.2.2.2.1 i hi) (by simp), h.2.2.2.2.trans (hb.mono h.2.2.2.2.size)⟩
theorem prs_lt : ∀ i : Fin 64, prs.getD i.val 0 < 4294967296 := by decide
set_option maxHeartbeats 1000000 in
set_option maxRecDepth 100000 in
theorem rSum_any (s : ByteArray) (w : World) (hs : s.size ≤ 20000) :
    Calls Tryd.prog 7 #[.string s] w fun e w' => e = .returned (.agg (shc (byl s))) ∧ Below w.heap.size w w' := by
  go_enter Tryd.func7, Tryd.ntmps7
  go_wp2_with fail
  refine Calls.mono (primes_any (w.alloc (.cells z32c 23))) ?_
  rintro e w1 ⟨g, c, rfl, hc, hg1, hg2, hb⟩
  rw [alloc_size] at hg1 hb
  have HC : Hid (∀ i, i < 64 → w1.cell? ⟨g, i, none⟩ = some (.int .u64 (prs.getD i 0 : Nat))) := hc
  have HZ : Hid (Blk w1 w.heap.size z32c 23) := Blk.grown (blk_new w (.cells z32c 23)) (grown_of_below (by rw [alloc_size]; exact hb) none) (by simp)
  have HB : Hid (Below w.heap.size w w1) := ((Below.refl _ _).alloc (Nat.le_refl _) _).trans (hb.mono (by omega))
  have hw1 : w.heap.size < w1.heap.size := by omega
  have hgw : w.heap.size < g := by omega
  clear hc hb hg1
  go_wp2
  have HS : Hid (SS w g w1.heap.size (kp 0) (hp 0) ((w1.alloc (.cells (kp 0) 49)).alloc (.cells (hp 0) 39))) := by
    have g1 := World.grownBy_alloc w1 (.cells (kp 0) 49) none
    have g2 := World.grownBy_alloc (w1.alloc (.cells (kp 0) 49)) (.cells (hp 0) 39) none
    have e := blk_new (w1.alloc (.cells (kp 0) 49)) (.cells (hp 0) 39)
    rw [alloc_size] at e
    exact ⟨(HZ.out.grown g1 (by simp)).grown g2 (by simp), Blk.grown (blk_new w1 _) g2 (by simp), e, fun i hi => (g1.trans g2).cell (HC.out i hi) (by simp), (HB.out.alloc (by omega) _).alloc (by rw [alloc_size]; omega) _⟩
  show Code.wp _ _ _ _ ((w1.alloc (.cells (kp 0) 49)).alloc (.cells (hp 0) 39))
  obtain ⟨w2, hw2⟩ : ∃ w2, w2 = (w1.alloc (.cells (kp 0) 49)).alloc (.cells (hp 0) 39) := ⟨_, rfl⟩
  rw [← hw2] at HS ⊢
  obtain ⟨K, hK⟩ : ∃ K, K = w1.heap.size := ⟨_, rfl⟩
  rw [← hK] at HS hg2 hw1 ⊢
  clear hw2 hK HC HZ HB
  go_loopw [6] (fun i wr => ∃ j : Nat, j ≤ 64 ∧ i = .int .i64 (j : Int) ∧ Hid (SS w g K (kp j) (hp 0) wr)) (fun i _ => 100 - (intOf i).toNat)
  case atStart => exact ⟨0, by omega, rfl, HS.out⟩
  case round =>
    clear HS
    obtain ⟨j, hj, rfl, HR⟩ := hrel
    by_cases hj64 : j < 64
    · obtain ⟨q, hq⟩ : ∃ q, q = prs.getD j 0 := ⟨_, rfl⟩
      have c1 : wr.cell? ⟨g, j, none⟩ = some (.int .u64 (q : Int)) := by rw [hq]; exact HR.out.2.2.2.1 j hj64
      have hql : q < 4294967296 := by rw [hq]; exact prs_lt ⟨j, hj64⟩
      have HV : Hid (rootN q 3 % 4294967296 = (KT j).toNat) := by show rootN q 3 % 4294967296 = (KT j).toNat; rw [hq]; exact roots3 ⟨j, hj64⟩
      clear hq
      go_wp2_with fail
      refine Calls.mono (root_any q 3 _ hql (by omega)) ?_
      rintro e w3 ⟨rfl, hb3⟩
      have HR3 : Hid (SS w g K (kp j) (hp 0) w3) := HR.out.below hb3
      rw [HV.out]
      obtain ⟨u, hu⟩ : ∃ u, (kp j)[j]? = some u := ⟨_, Array.getElem?_eq_getElem (by rw [kp_size]; exact hj64)⟩
      have hc3 : w3.cell? ⟨K, j, none⟩ = some u := by rw [HR3.out.2.1.cell]; exact hu
      have hf3 : w3.frozen? ⟨K, j, none⟩ = false := HR3.out.2.1.frozen j
      clear hb3 HR HV hu c1
      go_wp2
      go_roundw
      case rel =>
        refine ⟨j + 1, by omega, by go_num, ?_⟩
        have hS := HR3.out
        have gg : w3.grownBy (w3.setCell ⟨K, j, none⟩ (c32 (KT j))) (some K) := Lib.grownBy_setB (World.grownBy.refl w3 (some K)) j (c32 (KT j))
        exact ⟨hS.1.grown gg (by simp; omega), hS.2.1.set _ _, hS.2.2.1.grown gg (by simp), fun i hi => gg.cell (hS.2.2.2.1 i hi) (by intro h; simp at h; omega), hS.2.2.2.2.setCell (by show w.heap.size ≤ K; omega) _⟩
      case measure => simp [intOf]; omega
    · have hj1 : j = 64 := by omega
      subst hj1
      have HS : Hid (SS w g K kcs (hp 0) wr) := by rw [← kp_all]; exact HR.out
      clear HR hj hj64
      rw [show ((64 : Nat) : Int) = (64 : Int) from rfl]
      go_wp2
      go_loopw [7] (fun i wr => ∃ j : Nat, j ≤ 8 ∧ i = .int .i64 (j : Int) ∧ Hid (SS w g K kcs (hp j) wr)) (fun i _ => 100 - (intOf i).toNat)
      case atStart => exact ⟨0, by omega, rfl, HS.out⟩
      case round =>
        clear HS
        obtain ⟨j, hj, rfl, HR⟩ := hrel
        by_cases hj8 : j < 8
        · obtain ⟨q, hq⟩ : ∃ q, q = prs.getD j 0 := ⟨_, rfl⟩
          have c1 : wr.cell? ⟨g, j, none⟩ = some (.int .u64 (q : Int)) := by rw [hq]; exact HR.out.2.2.2.1 j (by omega)
          have hql : q < 4294967296 := by rw [hq]; exact prs_lt ⟨j, by omega⟩
          have HV : Hid (rootN q 2 % 4294967296 = (H0.list.getD j 0).toNat) := by show rootN q 2 % 4294967296 = (H0.list.getD j 0).toNat; rw [hq]; exact roots2 ⟨j, hj8⟩
          clear hq
          go_wp2_with fail
          refine Calls.mono (root_any q 2 _ hql (by omega)) ?_
          rintro e w3 ⟨rfl, hb3⟩
          have HR3 : Hid (SS w g K kcs (hp j) w3) := HR.out.below hb3
          rw [HV.out]
          obtain ⟨u, hu⟩ : ∃ u, (hp j)[j]? = some u := ⟨_, Array.getElem?_eq_getElem (by rw [hp_size]; exact hj8)⟩
          have hc3 : w3.cell? ⟨K + 1, j, none⟩ = some u := by rw [HR3.out.2.2.1.cell]; exact hu
          have hf3 : w3.frozen? ⟨K + 1, j, none⟩ = false := HR3.out.2.2.1.frozen j
          obtain ⟨y, hy⟩ : ∃ y, y = H0.list.getD j 0 := ⟨_, rfl⟩
          have HY : Hid (y = H0.list.getD j 0) := hy
          rw [← hy]
          clear hb3 HR HV hu c1 hy
          go_wp2
          go_roundw
          case rel =>
            refine ⟨j + 1, by omega, by go_num, ?_⟩
            have hS := HR3.out
            have gg : w3.grownBy (w3.setCell ⟨K + 1, j, none⟩ (c32 y)) (some (K + 1)) := Lib.grownBy_setB (World.grownBy.refl w3 (some (K + 1))) j (c32 y)
            refine ⟨hS.1.grown gg (by simp; omega), hS.2.1.grown gg (by simp), ?blk, fun i hi => gg.cell (hS.2.2.2.1 i hi) (by intro h; simp at h; omega), hS.2.2.2.2.setCell (by show w.heap.size ≤ K + 1; omega) _⟩
            have e : hp (j + 1) = (hp j).setIfInBounds j (c32 y) := by rw [HY.out]; rfl
            rw [e]
            exact hS.2.2.1.set _ _
          case measure => simp [intOf]; omega
        · have hj1 : j = 8 := by omega
          subst hj1
          have HS : Hid (SS w g K kcs (v8c H0) wr) := by rw [← hp_all]; exact HR.out
          clear HR hj hj8
          rw [show ((8 : Nat) : Int) = (8 : Int) from rfl]
          go_wp2_with (first
            | (refine wpList_load_row rfl 39 (.tmp 5) rfl (K + 1) rfl 39 (v8c H0) (0, 0) _ HS.out.2.2.1 Tryd.underlying39 rfl (by exact info_8l) ?_)
            | (refine wpList_load_row rfl 49 (.tmp 4) rfl K rfl 49 kcs (0, 0) _ HS.out.2.1 Tryd.underlying49 rfl info_k ?_))
          refine Calls.mono (rsum_any s _ hs) ?_
          rintro e w4 ⟨rfl, hb4⟩
          have HZ4 : Hid (Blk w4 w.heap.size z32c 23) := (HS.out.below hb4).1
          have HB4 : Hid (Below w.heap.size w w4) := (HS.out.below hb4).2.2.2.2
          clear hb4 HS
          go_wp2_with (refine wpList_store_row rfl 23 (.tmp 2) (.tmp 34) rfl w.heap.size (shc (byl s)) rfl rfl 23 z32c HZ4.out (info_shc _) (by rw [z32c_size, shc_size]) (shc_one _) ?_)
          refine bodyPost_ret (results_cell_row rfl _ _ w.heap.size 23 (shc (byl s)) (0, 0) _ rfl (setRow_heap _ _ _ _ _ _ HZ4.out) Tryd.underlying23 rfl (info_shc _)) rfl ⟨rfl, ?_⟩
          exact below_setRow HB4.out (Nat.le_refl _) _
end Go.Proofs.YtijpdnoloicfjaaDoor
/- The walks of the document's own Unhex and Hex (munimentref01), for texts of at most 1048576 bytes. -/
namespace Go.Proofs.YtijpdnoloicfjaaDoor
open Go.RowKit
set_option linter.unusedSimpArgs false
set_option linter.unusedVariables false
theorem news_one (w : World) (a : Value) (T : TypeId) : ∀ (j : Nat) (u : Value), [a][j]? = some u → (w.alloc (.cells #[a] T)).cell? ((⟨w.heap.size, 0, none⟩ : Addr).add j) = some u := by
  intro j u h
  rw [WideShapes.add_plain, Nat.zero_add, World.cell?_alloc_new]
  simpa using h
theorem one_one (a : Int) : ∀ u ∈ [Value.int .u8 a], u.oneCell' = true := by
  intro u hu
  simp at hu
  subst hu; rfl
theorem app_below {B n : Nat} {w wr w1 : World} {o : Obj} {v : Value} {xs : List Value} {e : TypeId} (hb : Below B w wr) (hz : B ≤ wr.heap.size) (ho : wr.ownsRow B e 1 v n xs) (hg : (wr.alloc o).grownBy w1 v.ownBlock) : Below B w w1 := by
  refine (hb.alloc hz o).grown hg (by simp; omega) (fun k hk => ?_)
  rcases ho.2 with ⟨rfl, _⟩ | ⟨g, cap, cur, rfl, hle, _⟩
  · cases hk
  · simp [Value.ownBlock] at hk; omega
set_option maxHeartbeats 400000 in
theorem runhex_odd (s : ByteArray) (w : World) (hs : s.size ≤ 140737488351232) (ho : s.size % 2 = 1) :
    Calls Tryd.prog 17 #[.string s] w fun e w' => e = .returned (.tuple #[.string (uhS s), .int .i64 (uhE s)]) ∧ w' = w := by
  have HN := uh_none (unhexL_odd _ (bl s) (Nat.le_refl _) (by rw [bl_length]; exact ho))
  rw [HN.1, HN.2]
  clear HN
  have h1 : (((s.size : Int) % 2) == 1) = true := by rw [beq_iff_eq]; omega
  go_enter Tryd.func17, Tryd.ntmps17
  go_wp2
  go_ret2
  exact ⟨rfl, rfl⟩
set_option maxHeartbeats 800000 in
set_option maxRecDepth 100000 in
theorem runhex_even (s : ByteArray) (w : World) (n : Nat) (hs : s.size ≤ 140737488351232) (ho : s.size = 2 * n) :
    Calls Tryd.prog 17 #[.string s] w fun e w' => e = .returned (.tuple #[.string (uhS s), .int .i64 (uhE s)]) ∧ Below w.heap.size w w' := by
  have h1 : (((s.size : Int) % 2) == 1) = false := by rw [beq_eq_false_iff_ne]; omega
  have HO : Hid (s.size = 2 * n) := ho
  have hn2 : 2 * n ≤ 140737488351232 := by omega
  clear ho
  obtain ⟨i0, hi, hz0, hz1, hz2⟩ := info_parts info_u8
  go_enter Tryd.func17, Tryd.ntmps17
  go_wp2
  go_loopw [4, 5] (fun v i wr => ∃ (k : Nat) (m : List Nat), k ≤ n ∧ i = .int .i64 (2 * (k : Int)) ∧ wr.ownsRow w.heap.size 5 1 v k (bv m) ∧ Hid (m.length = k ∧ unhexL (bl s) = (unhexL ((bl s).drop (2 * k))).map (m ++ ·)) ∧ Below w.heap.size w wr) (fun _ i _ => (2 * n - (intOf i).toNat))
  case atStart => exact ⟨0, [], by omega, rfl, World.ownsRow_nil _ _ _ _, ⟨rfl, by simp⟩, Below.refl _ _⟩
  case round =>
    obtain ⟨k, m, hk, rfl, hown, HR, hbel⟩ := hrel
    have hb0 := hbel.size
    by_cases hlt : k < n
    · have g1 : 2 * k < s.size := by have := HO.out; omega
      have g2 : 2 * k + 1 < s.size := by have := HO.out; omega
      cases ea : dvl s[2 * k].toNat with
      | none =>
        have HA : Hid (dvl s[2 * k].toNat = none) := ea
        clear ea
        go_wp2_with fail
        refine (digit_any _ _ (by exact s[2 * k].toNat_lt)).mono ?_
        rintro e w1 ⟨rfl, hw1⟩
        subst hw1
        rw [HA.out]
        go_wp2_with fail
        refine (digit_any _ _ (by exact s[2 * k + 1].toNat_lt)).mono ?_
        rintro e w1 ⟨rfl, hw1⟩
        subst hw1
        go_wp2
        go_ret2
        refine ⟨ret_uh ?_, hbel⟩
        have hn := uh_none (unhex_bad s (2 * k) m g2 HR.out.2 (Or.inl HA.out))
        exact ⟨hn.1.symm, hn.2.symm⟩
      | some x =>
        have HA : Hid (dvl s[2 * k].toNat = some x) := ea
        clear ea
        have hx := (dvl_some HA.out).1
        cases eb : dvl s[2 * k + 1].toNat with
        | none =>
          have HB : Hid (dvl s[2 * k + 1].toNat = none) := eb
          clear eb
          go_wp2_with fail
          refine (digit_any _ _ (by exact s[2 * k].toNat_lt)).mono ?_
          rintro e w1 ⟨rfl, hw1⟩
          subst hw1
          rw [HA.out]
          go_wp2_with fail
          refine (digit_any _ _ (by exact s[2 * k + 1].toNat_lt)).mono ?_
          rintro e w1 ⟨rfl, hw1⟩
          subst hw1
          rw [HB.out]
          go_wp2
          go_ret2
          refine ⟨ret_uh ?_, hbel⟩
          have hn := uh_none (unhex_bad s (2 * k) m g2 HR.out.2 (Or.inr HB.out))
          exact ⟨hn.1.symm, hn.2.symm⟩
        | some y =>
          have HB : Hid (dvl s[2 * k + 1].toNat = some y) := eb
          clear eb
          have hy := (dvl_some HB.out).1
          go_wp2_with fail
          refine (digit_any _ _ (by exact s[2 * k].toNat_lt)).mono ?_
          rintro e w1 ⟨rfl, hw1⟩
          subst hw1
          rw [HA.out]
          go_wp2_with fail
          refine (digit_any _ _ (by exact s[2 * k + 1].toNat_lt)).mono ?_
          rintro e w1 ⟨rfl, hw1⟩
          subst hw1
          rw [HB.out]
          go_wp2_with (at_builtin; refine wpList_append_own _ rfl _ _ 37 rfl w.heap.size 5 i0 (.int .u8 0) 1 1 Tryd.underlying37 hi hz0 hz1 hz2 rfl (by decide) _ _ _ rfl (hown.alloc _) ⟨w1.heap.size, 0, none⟩ 1 1 [.int .u8 (16 * (x : Int) + y)] rfl rfl ?c1 ?c2 ?c3 ?c4 ?c5 ?_)
          case c1 => exact news_one _ _ _
          case c2 => exact one_one _
          case c3 => unfold maxLen; omega
          case c4 => omega
          case c5 => simp; omega
          intro v' w7 hown1 hgrow _
          go_wp2
          go_roundw
          case rel =>
            obtain ⟨a2, a5⟩ := HR.out
            refine ⟨k + 1, m ++ [x * 16 + y], by omega, by go_num, ?_, ⟨by simp [a2], unhex_step s (2 * k) m x y g2 a5 HA.out HB.out⟩, ?_⟩
            · rw [bv_append]
              have e : bv [x * 16 + y] = [.int .u8 (16 * (x : Int) + y)] := by
                show [Value.int .u8 ((x * 16 + y : Nat) : Int)] = _
                congr 2; omega
              rw [e]; exact hown1
            · exact app_below hbel hb0 hown hgrow
          case measure => simp [intOf]; omega
    · have hkn : k = n := by omega
      subst hkn
      have hc := own_conv hown
      have hform : (∃ g c, u4 = .slice (some ⟨g, 0, none⟩) k c) ∨ u4 = .slice none 0 0 := by
        rcases hown.2 with ⟨h, _⟩ | ⟨g, c, _, h, _⟩
        · exact Or.inr h
        · exact Or.inl ⟨g, c, h⟩
      have HR2 : Hid (unhexL (bl s) = (unhexL ((bl s).drop (2 * k))).map (m ++ ·)) := HR.out.2
      have hend : (s.size : Int) ≤ 2 * (k : Int) := by have := HO.out; omega
      clear hown HR
      rcases hform with ⟨g, c, hv⟩ | hv
      · subst hv
        go_wp2
        go_ret2
        refine ⟨ret_uh ?_, hbel⟩
        have hn := uh_some (unhex_all s (2 * k) m (by have := HO.out; omega) HR2.out)
        exact ⟨hn.1.symm, hn.2.symm⟩
      · subst hv
        go_wp2
        go_ret2
        refine ⟨ret_uh ?_, hbel⟩
        have hn := uh_some (unhex_all s (2 * k) m (by have := HO.out; omega) HR2.out)
        exact ⟨hn.1.symm, hn.2.symm⟩
end Go.Proofs.YtijpdnoloicfjaaDoor
/- The walk of the document's own Hex (munimentref01), for texts of at most 1048576 bytes. -/
namespace Go.Proofs.YtijpdnoloicfjaaDoor
open Go.RowKit
set_option linter.unusedSimpArgs false
set_option linter.unusedVariables false
theorem tab_get (v : Nat) (h : v < (⟨#[48, 49, 50, 51, 52, 53, 54, 55, 56, 57, 97, 98, 99, 100, 101, 102]⟩ : ByteArray).size) : ((⟨#[48, 49, 50, 51, 52, 53, 54, 55, 56, 57, 97, 98, 99, 100, 101, 102]⟩ : ByteArray)[v]'h).toNat = dg v := by
  have : ∀ v : Fin 16, ((⟨#[48, 49, 50, 51, 52, 53, 54, 55, 56, 57, 97, 98, 99, 100, 101, 102]⟩ : ByteArray)[v.val]'v.isLt).toNat = dg v.val := by decide
  exact this ⟨v, h⟩
theorem rhex_own (s : ByteArray) (k : Nat) (hk : k < s.size) {w1 : World} {base : Nat} {v : Value} (h : w1.ownsRow base 5 1 v (2 * k + 2) (bv (hexL ((bl s).take k)) ++ [.int .u8 (dg (s[k].toNat / 16) : Nat), .int .u8 (dg (s[k].toNat % 16) : Nat)])) :
    w1.ownsRow base 5 1 v (2 * (k + 1)) (bv (hexL ((bl s).take (k + 1)))) := by
  have e : bv (hexL ((bl s).take (k + 1))) = bv (hexL ((bl s).take k)) ++ [.int .u8 (dg (s[k].toNat / 16) : Nat), .int .u8 (dg (s[k].toNat % 16) : Nat)] := by
    rw [take_snoc s k hk, hexL_append, bv_append]; rfl
  rw [e, show 2 * (k + 1) = 2 * k + 2 from by omega]
  exact h
theorem app_below_drew {B n : Nat} {w wr w1 : World} {o : Obj} {v : Value} {xs : List Value} {e : TypeId} (hb : Below B w wr) (hz : B ≤ wr.heap.size) (ho : wr.ownsRow B e 1 v n xs) (hg : ((wr.alloc o).drew).grownBy w1 v.ownBlock) : Below B w w1 := by
  refine ((hb.alloc hz o).drew).grown hg (by show B ≤ (wr.alloc o).heap.size; simp; omega) (fun k hk => ?_)
  rcases ho.2 with ⟨rfl, _⟩ | ⟨g, cap, cur, rfl, hle, _⟩
  · cases hk
  · simp [Value.ownBlock] at hk; omega
set_option maxHeartbeats 800000 in
set_option maxRecDepth 100000 in
theorem rhex_any (s : ByteArray) (w : World) (hs : s.size ≤ 1048576) :
    Calls Tryd.prog 28 #[.string s] w fun e w' => e = .returned (.string (sb (hexL (bl s)))) ∧ Below w.heap.size w w' := by
  obtain ⟨i0, hi, hz0, hz1, hz2⟩ := info_parts info_u8
  have hsz16 : (⟨#[48, 49, 50, 51, 52, 53, 54, 55, 56, 57, 97, 98, 99, 100, 101, 102]⟩ : ByteArray).size = 16 := rfl
  go_enter Tryd.func28, Tryd.ntmps28
  go_wp2
  go_loopw [3, 4] (fun v i wr => ∃ k : Nat, k ≤ s.size ∧ i = .int .i64 k ∧ wr.ownsRow w.heap.size 5 1 v (2 * k) (bv (hexL ((bl s).take k))) ∧ Below w.heap.size w wr) (fun _ i _ => s.size - (intOf i).toNat)
  case atStart => exact ⟨0, by omega, rfl, World.ownsRow_nil _ _ _ _, Below.refl _ _⟩
  case round =>
    obtain ⟨k, hk, rfl, hown, hbel⟩ := hrel
    have hb0 := hbel.size
    by_cases hlt : k < s.size
    · have hlt256 : s[k].toNat < 256 := s[k].toNat_lt
      have hq1 : IntKind.u8.wrap ((s[k].toNat : Int) / 16) = (s[k].toNat : Int) / 16 := by rw [IntKind.wrap_u8']; omega
      have hq2 : ((s[k].toNat : Int)).tmod 16 = (s[k].toNat : Int) % 16 := Int.tmod_eq_emod_of_nonneg (by omega)
      have hv1 : ((⟨#[48, 49, 50, 51, 52, 53, 54, 55, 56, 57, 97, 98, 99, 100, 101, 102]⟩ : ByteArray)[((s[k].toNat : Int) / 16).toNat]'(by show _ < 16; omega)).toNat = dg (s[k].toNat / 16) := by
        rw [tab_get]; congr 1
      have hv2 : ((⟨#[48, 49, 50, 51, 52, 53, 54, 55, 56, 57, 97, 98, 99, 100, 101, 102]⟩ : ByteArray)[((s[k].toNat : Int) % 16).toNat]'(by show _ < 16; omega)).toNat = dg (s[k].toNat % 16) := by
        rw [tab_get]; congr 1
      have b1 : (0 : Int) ≤ (s[k].toNat : Int) / 16 := by omega
      have b2 : (s[k].toNat : Int) / 16 < 16 := by have := s[k].toNat_lt; omega
      have b3 : (s[k].toNat : Int) % 16 < 16 := by omega
      have b4 : (0 : Int) ≤ (s[k].toNat : Int) % 16 := by omega
      go_wp2_with fail
      go_region_held3 (fun w' => True) (trivial)
        ((refine step_append_lies _ (by rfl) _ _ _ (by rfl) w.heap.size 5 i0 (.int .u8 0) 1 1 Tryd.underlying37 hi hz0 hz1 hz2 rfl (by decide) u3 (2 * k) _ (by rfl) (own_drew hown _) ⟨wr.heap.size, 0, none⟩ 2 2 [.int .u8 (dg (s[k].toNat / 16) : Nat), .int .u8 (dg (s[k].toNat % 16) : Nat)] (by rfl) rfl (news_two wr _ _ _) (one_two _ _) (by omega) (by unfold maxLen; omega) (by omega) (by show w.heap.size ≤ (wr.alloc _).heap.size; simp; omega) (wr.heap.size + 1) (by show (wr.alloc _).heap.size = _; simp) ?_; intro g cap w1 hown1 hgrow hat hlt1))
      all_goals go_wp2
      all_goals go_roundw
      all_goals first
        | exact ⟨k + 1, by omega, by go_num, rhex_own s k hlt hown1, app_below_drew hbel hb0 hown hgrow⟩
        | (simp [intOf]; omega)
    · have hke : k = s.size := by omega
      subst hke
      have hc := own_conv hown
      rw [List.take_of_length_le (by rw [bl_length]; exact Nat.le_refl _)] at hc
      have hform : (∃ g c, u3 = .slice (some ⟨g, 0, none⟩) (2 * s.size) c) ∨ u3 = .slice none 0 0 := by
        rcases hown.2 with ⟨h, _⟩ | ⟨g, c, _, h, _⟩
        · exact Or.inr h
        · exact Or.inl ⟨g, c, h⟩
      clear hown
      rcases hform with ⟨g, c, hv⟩ | hv
      · subst hv
        go_wp2
        go_ret
        exact ⟨rfl, hbel⟩
      · subst hv
        go_wp2
        go_ret
        exact ⟨rfl, hbel⟩
end Go.Proofs.YtijpdnoloicfjaaDoor
