/- bloom.New, the closures of Add and Has, eachPlace, Add, Has. -/
import Derived.Test.YtplfjfhpdfbpeaaDoorBQ1
import Derived.Test.YtplfjfhpdfbpeaaDoorM3
import Derived.Deep.RegionHeld3
namespace Go.Proofs.YtplfjfhpdfbpeaaDoor
open Go.RowKit
set_option linter.unusedSimpArgs false
set_option linter.unusedVariables false
theorem info_b8 : (Tryd.prog.info? 5).map (fun i => (i.zero, i.size, i.bytes)) = some (some (.int .u8 0), 1, 1) := by kernel_rfl
theorem made_b8 (n : Nat) : madeCells #[Value.int .u8 0] n = rc (zrR n) := by
  apply Array.ext_getElem?
  intro i
  simp only [madeCells]
  by_cases hi : i < n
  · simp [hi, Nat.mod_one, rc, zrR]
  · rw [Array.getElem?_eq_none (by simp; omega), Array.getElem?_eq_none (by simp [rc, zrR]; omega)]
theorem make_b8 (n : Nat) (hn : n ≤ 281474976710656) (u : World) : (Instr.makeSlice 64 (.int .i64 n) (.int .i64 n)).run Tryd.prog u =
    .ok (.slice (some ⟨u.heap.size, 0, none⟩) n n) (u.alloc (.cells (rc (zrR n)) 5)) := by
  obtain ⟨i0, hi, hz0, hz1, hz2⟩ := info_parts info_b8
  have h := run_make (P := Tryd.prog) u 64 5 i0 (.int .u8 0) Tryd.underlying64 hi hz0 .i64 .i64 (n : Int) (n : Int) (by omega) (Int.le_refl _) (by rw [hz2]; omega) (by omega)
  rw [Int.toNat_natCast] at h
  rw [← made_b8]
  simpa [hz1, Value.cells] using h
theorem fls_new (n k : Nat) (w : World) (h : okF n k) : FlS ((w.alloc (.cells (rc (zrR (n / 8))) 5)).alloc (.cells #[.int .i64 (n : Int), .int .i64 (k : Int), .slice (some ⟨w.heap.size, 0, none⟩) (n / 8) (n / 8)] 69)) (w.heap.size + 1) w.heap.size n k (zrR (n / 8)) := by
  have hd := okF_div h
  refine ⟨h, by rw [zrR_len]; exact hd, ⟨n / 8, ?_, by rw [zrR_len]; exact Nat.le_refl _⟩, Rw.of_bk ((bk_new _ _ _).alloc _)⟩
  have := bk_new (w.alloc (.cells (rc (zrR (n / 8))) 5)) #[.int .i64 (n : Int), .int .i64 (k : Int), .slice (some ⟨w.heap.size, 0, none⟩) (n / 8) (n / 8)] 69
  rw [al_size] at this
  rw [zrR_len]
  exact this
/-- A filter that was made in the call. -/
structure NwF (w : World) (e : Ending) (w' : World) (f g n k : Nat) (s : List UInt8) : Prop where
  res : e = .returned (.tuple #[.pointer (some ⟨f, 0, none⟩), .int .i64 0])
  fil : FlS w' f g n k s
  bel : Below w.heap.size w w'
  lf : w.heap.size ≤ f
  lg : w.heap.size ≤ g
set_option maxHeartbeats 1000000 in
set_option maxRecDepth 100000 in
theorem new_yes14 (n k : Nat) (w : World) (h : okF n k) : Calls Tryd.prog 8 #[.int .i64 (n : Int), .int .i64 (k : Int)] w fun e w' => ∃ f g, NwF w e w' f g n k (zrR (n / 8)) := by
  have HO : Hid (okF n k) := h
  have h1 := okF_pos h
  have h2 := okF_le h
  have h3 := h.2
  obtain ⟨m, hm⟩ : ∃ m, n / 8 = m := ⟨_, rfl⟩
  have HF : Hid _ := fls_new n k w h
  rw [hm] at HF ⊢
  have hq : (n : Int).tdiv 8 = (m : Int) := by rw [Int.tdiv_eq_ediv_of_nonneg (by omega)]; omega
  have hmk := make_b8 m (by omega)
  have hm8 : m ≤ 2097152 := by omega
  clear h hm
  go_enter Tryd.func8, Tryd.ntmps8
  go_wp2_with fail
  refine Calls.mono (isSize_yes n k _ HO.out) ?_
  rintro e w1 ⟨rfl, hw⟩
  subst hw
  go_wp2
  go_ret2
  exact ⟨_, _, rfl, HF.out, ((Below.refl _ _).alloc (Nat.le_refl _) _).alloc (by simp) _, by omega, Nat.le_refl _⟩
set_option maxHeartbeats 1000000 in
set_option maxRecDepth 100000 in
theorem new_no14 (x y : Int) (w : World) (h : ∀ n k : Nat, x = n → y = k → ¬ okF n k) (hx1 : -9223372036854775808 ≤ x) (hx2 : x ≤ 9223372036854775807) (hy1 : -9223372036854775808 ≤ y) (hy2 : y ≤ 9223372036854775807) :
    Calls Tryd.prog 8 #[.int .i64 x, .int .i64 y] w fun e w' => e = .returned (.tuple #[.pointer none, .int .i64 1]) ∧ w' = w := by
  obtain ⟨X, hX⟩ : ∃ X : Nat, x % 18446744073709551616 = X := ⟨(x % 18446744073709551616).toNat, by omega⟩
  obtain ⟨Y, hY⟩ : ∃ X : Nat, y % 18446744073709551616 = X := ⟨(y % 18446744073709551616).toNat, by omega⟩
  have hXb : Hid (X < 18446744073709551616) := by show X < _; omega
  have hYb : Hid (Y < 18446744073709551616) := by show Y < _; omega
  have kX : IntKind.u64.wrap x = (X : Int) := by rw [IntKind.wrap_u64]; exact hX
  have kY : IntKind.u64.wrap y = (Y : Int) := by rw [IntKind.wrap_u64]; exact hY
  have HO : Hid (¬ okF X Y) := by
    intro hc
    have a := okF_le hc
    have b := hc.2
    exact h X Y (by omega) (by omega) hc
  clear h hX hY hx1 hx2 hy1 hy2
  go_enter Tryd.func8, Tryd.ntmps8
  go_wp2_with fail
  refine Calls.mono (isSize_no X Y _ hXb.out hYb.out HO.out) ?_
  rintro e w1 ⟨rfl, hw⟩
  subst hw
  go_wp2
  go_ret2
  exact ⟨rfl, rfl⟩
set_option maxHeartbeats 1000000 in
set_option maxRecDepth 100000 in
/-- The closure of Add. -/
theorem add1_any (x f g n k p : Nat) (s : List UInt8) (w : World) (h : FlS w f g n k s) (hp : p < n) (hx : w.cell? ⟨x, 0, none⟩ = some (.pointer (some ⟨f, 0, none⟩))) :
    Calls Tryd.prog 36 #[.int .i64 ((p / 8 : Nat) : Int), .int .u8 ((2 ^ (p % 8) : Nat) : Int), .pointer (some ⟨x, 0, none⟩)] w fun e w' => e = .returned (.tuple #[]) ∧ FlS w' f g n k (stR s p) ∧ w.grownBy w' (some g) := by
  have HB : Hid _ := h.bit p hp
  have hl := h.len
  have hn := okF_le h.ok
  obtain ⟨c, ht, hc⟩ := h.top
  have c2 : w.cell? ⟨f, 2, none⟩ = some (.slice (some ⟨g, 0, none⟩) s.length c) := by rw [ht.cell]; rfl
  have r1 := h.row.cell (p / 8) (by omega)
  have r2 := h.row.frozen (p / 8) (by omega)
  have hk : p % 8 < 8 := by omega
  have eo := u8_or_nat (s.getD (p / 8) 0).toNat (2 ^ (p % 8)) (s.getD (p / 8) 0).toNat_lt (Nat.pow_lt_pow_right (a := 2) (n := 8) (by omega) hk)
  rw [← orB_toNat _ _ hk] at eo
  obtain ⟨q, hq⟩ : ∃ q, p / 8 = q := ⟨_, rfl⟩
  obtain ⟨b, hb⟩ : ∃ b, 2 ^ (p % 8) = b := ⟨_, rfl⟩
  obtain ⟨u, hu⟩ : ∃ u, (s.getD (p / 8) 0).toNat = u := ⟨_, rfl⟩
  obtain ⟨v, hv⟩ : ∃ v, (orB (s.getD (p / 8) 0) (p % 8)).toNat = v := ⟨_, rfl⟩
  rw [hu] at r1 eo
  rw [hv] at eo HB
  rw [hq] at r1 r2 HB ⊢
  rw [hb] at eo ⊢
  obtain ⟨L, hL⟩ : ∃ L, s.length = L := ⟨_, rfl⟩
  rw [hL] at c2 hl hc
  have hqL : q < L := by omega
  clear hu hv hq hb hL ht h
  go_enter Tryd.func36, Tryd.ntmps36
  go_wp2
  go_end0
  exact ⟨rfl, HB.out.1, HB.out.2⟩
end Go.Proofs.YtplfjfhpdfbpeaaDoor
