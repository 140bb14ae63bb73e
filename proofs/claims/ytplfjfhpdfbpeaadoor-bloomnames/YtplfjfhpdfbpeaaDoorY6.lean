import Derived.Test.YtplfjfhpdfbpeaaDoorY5
import Derived.Deep.RegionHeld3
import Derived.Test.YtplfjfhpdfbpeaaDoorY3
import Derived.Test.YtplfjfhpdfbpeaaDoorY2
/- bloom.New, the closures of Add and Has, eachPlace, Add, Has. -/
namespace Go.Proofs.YtplfjfhpdfbpeaaDoor
open Go.RowKit
set_option linter.unusedSimpArgs false
set_option linter.unusedVariables false
theorem info_b8 : (Tryd.prog.info? 5).map (fun i => (i.zero, i.size, i.bytes)) = some (some (.int .u8 0), 1, 1) := by kernel_rfl
theorem made_b8 (n : Nat) : madeCells #[Value.int .u8 0] n = rc (zrR n) := by
  apply Array.ext_getElem?
  intro i
  simp only [madeCells]
  by_cases hi : i < n
  · simp [hi, Nat.mod_one, rc, zrR]
  · rw [Array.getElem?_eq_none (by simp; omega), Array.getElem?_eq_none (by simp [rc, zrR]; omega)]
theorem make_b8 (n : Nat) (hn : n ≤ 281474976710656) (u : World) : (Instr.makeSlice 64 (.int .i64 n) (.int .i64 n)).run Tryd.prog u =
    .ok (.slice (some ⟨u.heap.size, 0, none⟩) n n) (u.alloc (.cells (rc (zrR n)) 5)) := by
  obtain ⟨i0, hi, hz0, hz1, hz2⟩ := info_parts info_b8
  have h := run_make (P := Tryd.prog) u 64 5 i0 (.int .u8 0) Tryd.underlying64 hi hz0 .i64 .i64 (n : Int) (n : Int) (by omega) (Int.le_refl _) (by rw [hz2]; omega) (by omega)
  rw [Int.toNat_natCast] at h
  rw [← made_b8]
  simpa [hz1, Value.cells] using h
theorem fls_new (n k : Nat) (w : World) (h : okF n k) : FlS ((w.alloc (.cells (rc (zrR (n / 8))) 5)).alloc (.cells #[.int .i64 (n : Int), .int .i64 (k : Int), .slice (some ⟨w.heap.size, 0, none⟩) (n / 8) (n / 8)] 69)) (w.heap.size + 1) w.heap.size n k (zrR (n / 8)) := by
  have hd := okF_div h
  refine ⟨h, by rw [zrR_len]; exact hd, ⟨n / 8, ?_, by rw [zrR_len]; exact Nat.le_refl _⟩, Rw.of_bk ((bk_new _ _ _).alloc _)⟩
  have := bk_new (w.alloc (.cells (rc (zrR (n / 8))) 5)) #[.int .i64 (n : Int), .int .i64 (k : Int), .slice (some ⟨w.heap.size, 0, none⟩) (n / 8) (n / 8)] 69
  rw [al_size] at this
  rw [zrR_len]
  exact this
/-- A filter that was made in the call. -/
structure NwF (w : World) (e : Ending) (w' : World) (f g n k : Nat) (s : List UInt8) : Prop where
  res : e = .returned (.tuple #[.pointer (some ⟨f, 0, none⟩), .int .i64 0])
  fil : FlS w' f g n k s
  bel : Below w.heap.size w w'
  lf : w.heap.size ≤ f
  lg : w.heap.size ≤ g
set_option maxHeartbeats 1000000 in
set_option maxRecDepth 100000 in
theorem new_yes14 (n k : Nat) (w : World) (h : okF n k) : Calls Tryd.prog 8 #[.int .i64 (n : Int), .int .i64 (k : Int)] w fun e w' => ∃ f g, NwF w e w' f g n k (zrR (n / 8)) := by
  have HO : Hid (okF n k) := h
  have h1 := okF_pos h
  have h2 := okF_le h
  have h3 := h.2
  obtain ⟨m, hm⟩ : ∃ m, n / 8 = m := ⟨_, rfl⟩
  have HF : Hid _ := fls_new n k w h
  rw [hm] at HF ⊢
  have hq : (n : Int).tdiv 8 = (m : Int) := by rw [Int.tdiv_eq_ediv_of_nonneg (by omega)]; omega
  have hmk := make_b8 m (by omega)
  have hm8 : m ≤ 2097152 := by omega
  clear h hm
  go_enter Tryd.func8, Tryd.ntmps8
  go_wp2_with fail
  refine Calls.mono (isSize_yes n k _ HO.out) ?_
  rintro e w1 ⟨rfl, hw⟩
  subst hw
  go_wp2
  go_ret2
  exact ⟨_, _, rfl, HF.out, ((Below.refl _ _).alloc (Nat.le_refl _) _).alloc (by simp) _, by omega, Nat.le_refl _⟩
set_option maxHeartbeats 1000000 in
set_option maxRecDepth 100000 in
theorem new_no14 (x y : Int) (w : World) (h : ∀ n k : Nat, x = n → y = k → ¬ okF n k) (hx1 : -9223372036854775808 ≤ x) (hx2 : x ≤ 9223372036854775807) (hy1 : -9223372036854775808 ≤ y) (hy2 : y ≤ 9223372036854775807) :
    Calls Tryd.prog 8 #[.int .i64 x, .int .i64 y] w fun e w' => e = .returned (.tuple #[.pointer none, .int .i64 1]) ∧ w' = w := by
  obtain ⟨X, hX⟩ : ∃ X : Nat, x % 18446744073709551616 = X := ⟨(x % 18446744073709551616).toNat, by omega⟩
  obtain ⟨Y, hY⟩ : ∃ X : Nat, y % 18446744073709551616 = X := ⟨(y % 18446744073709551616).toNat, by omega⟩
  have hXb : Hid (X < 18446744073709551616) := by show X < _; omega
  have hYb : Hid (Y < 18446744073709551616) := by show Y < _; omega
  have kX : IntKind.u64.wrap x = (X : Int) := by rw [IntKind.wrap_u64]; exact hX
  have kY : IntKind.u64.wrap y = (Y : Int) := by rw [IntKind.wrap_u64]; exact hY
  have HO : Hid (¬ okF X Y) := by
    intro hc
    have a := okF_le hc
    have b := hc.2
    exact h X Y (by omega) (by omega) hc
  clear h hX hY hx1 hx2 hy1 hy2
  go_enter Tryd.func8, Tryd.ntmps8
  go_wp2_with fail
  refine Calls.mono (isSize_no X Y _ hXb.out hYb.out HO.out) ?_
  rintro e w1 ⟨rfl, hw⟩
  subst hw
  go_wp2
  go_ret2
  exact ⟨rfl, rfl⟩
set_option maxHeartbeats 1000000 in
set_option maxRecDepth 100000 in
/-- The closure of Add. -/
theorem add1_any (x f g n k p : Nat) (s : List UInt8) (w : World) (h : FlS w f g n k s) (hp : p < n) (hx : w.cell? ⟨x, 0, none⟩ = some (.pointer (some ⟨f, 0, none⟩))) :
    Calls Tryd.prog 36 #[.int .i64 ((p / 8 : Nat) : Int), .int .u8 ((2 ^ (p % 8) : Nat) : Int), .pointer (some ⟨x, 0, none⟩)] w fun e w' => e = .returned (.tuple #[]) ∧ FlS w' f g n k (stR s p) ∧ w.grownBy w' (some g) := by
  have HB : Hid _ := h.bit p hp
  have hl := h.len
  have hn := okF_le h.ok
  obtain ⟨c, ht, hc⟩ := h.top
  have c2 : w.cell? ⟨f, 2, none⟩ = some (.slice (some ⟨g, 0, none⟩) s.length c) := by rw [ht.cell]; rfl
  have r1 := h.row.cell (p / 8) (by omega)
  have r2 := h.row.frozen (p / 8) (by omega)
  have hk : p % 8 < 8 := by omega
  have eo := u8_or_nat (s.getD (p / 8) 0).toNat (2 ^ (p % 8)) (s.getD (p / 8) 0).toNat_lt (Nat.pow_lt_pow_right (a := 2) (n := 8) (by omega) hk)
  rw [← orB_toNat _ _ hk] at eo
  obtain ⟨q, hq⟩ : ∃ q, p / 8 = q := ⟨_, rfl⟩
  obtain ⟨b, hb⟩ : ∃ b, 2 ^ (p % 8) = b := ⟨_, rfl⟩
  obtain ⟨u, hu⟩ : ∃ u, (s.getD (p / 8) 0).toNat = u := ⟨_, rfl⟩
  obtain ⟨v, hv⟩ : ∃ v, (orB (s.getD (p / 8) 0) (p % 8)).toNat = v := ⟨_, rfl⟩
  rw [hu] at r1 eo
  rw [hv] at eo HB
  rw [hq] at r1 r2 HB ⊢
  rw [hb] at eo ⊢
  obtain ⟨L, hL⟩ : ∃ L, s.length = L := ⟨_, rfl⟩
  rw [hL] at c2 hl hc
  have hqL : q < L := by omega
  clear hu hv hq hb hL ht h
  go_enter Tryd.func36, Tryd.ntmps36
  go_wp2
  go_end0
  exact ⟨rfl, HB.out.1, HB.out.2⟩
end Go.Proofs.YtplfjfhpdfbpeaaDoor
/- bloom: the closure of Has, eachPlace, Add, Has. -/
namespace Go.Proofs.YtplfjfhpdfbpeaaDoor
open Go.RowKit
set_option linter.unusedSimpArgs false
set_option linter.unusedVariables false
theorem and_bit (s : List UInt8) (p : Nat) : (s.getD (p / 8) 0).toNat &&& 2 ^ (p % 8) = (btR s p).toNat * 2 ^ (p % 8) := by
  apply Nat.eq_of_testBit_eq
  intro j
  rw [Nat.testBit_and, Nat.testBit_two_pow]
  by_cases e : p % 8 = j
  · subst e
    rw [show (s.getD (p / 8) 0).toNat.testBit (p % 8) = btR s p from rfl]
    cases btR s p <;> simp [Nat.testBit_two_pow]
  · cases btR s p <;> simp [Nat.testBit_two_pow, e]
set_option maxHeartbeats 1000000 in
set_option maxRecDepth 100000 in
/-- The closure of Has. -/
theorem has1_any (x y f g n k p : Nat) (A : Bool) (s : List UInt8) (w : World) (h : FlS w f g n k s) (hp : p < n) (hx : w.cell? ⟨x, 0, none⟩ = some (.pointer (some ⟨f, 0, none⟩))) (hy : Bk w y #[.bool A] 4) :
    Calls Tryd.prog 43 #[.int .i64 ((p / 8 : Nat) : Int), .int .u8 ((2 ^ (p % 8) : Nat) : Int), .pointer (some ⟨y, 0, none⟩), .pointer (some ⟨x, 0, none⟩)] w fun e w' => e = .returned (.tuple #[]) ∧ w' = w.setCell ⟨y, 0, none⟩ (.bool (A && btR s p)) := by
  have y1 : w.cell? ⟨y, 0, none⟩ = some (.bool A) := by rw [hy.cell]; rfl
  have y2 := hy.frozen 0
  cases A with
  | false =>
    clear hy h
    go_enter Tryd.func43, Tryd.ntmps43
    go_wp2
    go_end0
    exact ⟨rfl, by simp⟩
  | true =>
    have hl := h.len
    have hn := okF_le h.ok
    obtain ⟨c, ht, hc⟩ := h.top
    have c2 : w.cell? ⟨f, 2, none⟩ = some (.slice (some ⟨g, 0, none⟩) s.length c) := by rw [ht.cell]; rfl
    have r1 := h.row.cell (p / 8) (by omega)
    have hk : p % 8 < 8 := by omega
    have hb8 : 2 ^ (p % 8) < 256 := Nat.pow_lt_pow_right (a := 2) (n := 8) (by omega) hk
    have eo := u8_and_nat (s.getD (p / 8) 0).toNat (2 ^ (p % 8)) (s.getD (p / 8) 0).toNat_lt hb8
    rw [and_bit] at eo
    have hb0 : 0 < 2 ^ (p % 8) := Nat.two_pow_pos _
    obtain ⟨q, hq⟩ : ∃ q, p / 8 = q := ⟨_, rfl⟩
    obtain ⟨b, hb⟩ : ∃ b, 2 ^ (p % 8) = b := ⟨_, rfl⟩
    obtain ⟨u, hu⟩ : ∃ u, (s.getD (p / 8) 0).toNat = u := ⟨_, rfl⟩
    rw [hu] at r1 eo
    rw [hq] at r1 ⊢
    rw [hb] at eo hb0 ⊢
    obtain ⟨L, hL⟩ : ∃ L, s.length = L := ⟨_, rfl⟩
    rw [hL] at c2 hl hc
    have hqL : q < L := by omega
    clear hu hq hb hL ht h hb8 hy
    cases hv : btR s p with
    | true =>
      rw [hv] at eo
      simp only [Bool.toNat_true, Nat.one_mul] at eo
      have hz : ((b : Int) != 0) = true := by simp; omega
      clear hv
      go_enter Tryd.func43, Tryd.ntmps43
      go_wp2
      go_end0
      exact ⟨rfl, by simp⟩
    | false =>
      rw [hv] at eo
      simp only [Bool.toNat_false, Nat.zero_mul] at eo
      clear hv
      go_enter Tryd.func43, Tryd.ntmps43
      go_wp2
      go_end0
      exact ⟨rfl, by simp⟩
theorem num_raw (a b c d : Nat) (ha : a < 256) (hb : b < 256) (hc : c < 256) (hd : d < 256) : bits .or .u32 (bits .or .u32 (bits .or .u32 ((a : Int) % 4294967296 * 16777216 % 4294967296) ((b : Int) % 4294967296 * 65536 % 4294967296)) ((c : Int) % 4294967296 * 256 % 4294967296)) ((d : Int) % 4294967296) = (((((a * 256 + b) * 256 + c) * 256 + d : Nat)) : Int) := by
  have e1 : (a : Int) % (4294967296 : Int) * (16777216 : Int) % (4294967296 : Int) = Int.ofNat (a <<< 24) := by rw [Nat.shiftLeft_eq]; show _ = ((a * 2 ^ 24 : Nat) : Int); omega
  have e2 : (b : Int) % (4294967296 : Int) * (65536 : Int) % (4294967296 : Int) = Int.ofNat (b <<< 16) := by rw [Nat.shiftLeft_eq]; show _ = ((b * 2 ^ 16 : Nat) : Int); omega
  have e3 : (c : Int) % (4294967296 : Int) * (256 : Int) % (4294967296 : Int) = Int.ofNat (c <<< 8) := by rw [Nat.shiftLeft_eq]; show _ = ((c * 2 ^ 8 : Nat) : Int); omega
  have e4 : (d : Int) % 4294967296 = (d : Int) := by omega
  have a1 : a <<< 24 < 4294967296 := by rw [Nat.shiftLeft_eq]; omega
  have b1 : b <<< 16 < 2 ^ 24 := by rw [Nat.shiftLeft_eq]; omega
  have c1 : c <<< 8 < 2 ^ 16 := by rw [Nat.shiftLeft_eq]; omega
  have o1 : a <<< 24 ||| b <<< 16 = (a * 256 + b) <<< 16 := by
    rw [← Nat.shiftLeft_add_eq_or_of_lt b1, Nat.shiftLeft_eq, Nat.shiftLeft_eq, Nat.shiftLeft_eq]; omega
  have o2 : (a * 256 + b) <<< 16 ||| c <<< 8 = ((a * 256 + b) * 256 + c) <<< 8 := by
    rw [← Nat.shiftLeft_add_eq_or_of_lt c1, Nat.shiftLeft_eq, Nat.shiftLeft_eq, Nat.shiftLeft_eq]; omega
  have o3 : ((a * 256 + b) * 256 + c) <<< 8 ||| d = ((a * 256 + b) * 256 + c) * 256 + d := by
    rw [← Nat.shiftLeft_add_eq_or_of_lt hd, Nat.shiftLeft_eq]
  rw [e1, e2, e3, e4]
  simp only [Int.ofNat_eq_natCast]
  rw [u32_or_nat _ _ a1 (by omega), o1, u32_or_nat _ _ (by rw [Nat.shiftLeft_eq]; omega) (by omega), o2, u32_or_nat _ _ (by rw [Nat.shiftLeft_eq]; omega) (by omega), o3]
theorem slice_id (b k : Nat) (hk : k < 8) (w : World) :
    (Instr.sliceAt 36 (.pointer (some ⟨b, 0, none⟩)) (some (.int .i64 (4 * (k : Int)))) none none).run Tryd.prog w = .ok (.slice (some ⟨b, 4 * k, none⟩) (32 - 4 * k) (32 - 4 * k)) w := by
  have e1 : Tryd.prog.elem 36 = 5 := by kernel_rfl
  have e2 : Tryd.prog.arrayLen 36 = 32 := by kernel_rfl
  have e0 : Tryd.prog.underlying 36 = some (.array (Tryd.prog.arrayLen 36) (Tryd.prog.elem 36)) := by kernel_rfl
  rw [run_sliceAt_array_l (P := Tryd.prog) w 36 ⟨b, 0, none⟩ e0 .i64 (4 * (k : Int)) (by omega) (by rw [e2]; omega)]
  rw [e1, e2, sizeOf_u8']
  simp only [slicedAt, Result.andThen, Addr.add_mid]
  rw [show (4 * (k : Int)).toNat = 4 * k from by omega]
  have e3 : ¬ 32 = 4 * k := by omega
  simp only [Nat.mul_one, Nat.zero_add, e3, if_false]
/-- What eachPlace hands the places to. -/
structure Ep (x : ByteArray) (f n k F : Nat) (cs : Array Value) (E : Nat → World → Prop) : Prop where
  enter : ∀ args u, (callFunc F args).run Tryd.prog u = .ok (.enter F args) u
  alloc : ∀ w o, E 0 w → E 0 (w.alloc o)
  drew : ∀ i w, E i w → E i w.drew
  bits : ∀ i w, E i w → w.cell? ⟨f, 0, none⟩ = some (.int .i64 (n : Int))
  hash : ∀ w, E 0 w → w.cell? ⟨f, 1, none⟩ = some (.int .i64 (k : Int))
  next : ∀ i w, i < k → E i w → Calls Tryd.prog F (#[.int .i64 ((plc n x i / 8 : Nat) : Int), .int .u8 ((2 ^ (plc n x i % 8) : Nat) : Int)] ++ cs) w fun e w' => e = .returned (.tuple #[]) ∧ E (i + 1) w' ∧ ∀ b C, Bk w b C 36 → Bk w' b C 36
theorem byl_lt14 (x : ByteArray) (j : Nat) : (byl x).getD j 0 < 256 := by
  rw [List.getD]
  by_cases h : j < (byl x).length
  · rw [List.getElem?_eq_getElem h]
    simp only [Option.getD_some, byl, List.getElem_map]
    exact UInt8.toNat_lt _
  · rw [List.getElem?_eq_none (by omega)]; simp
theorem idc_cell {w : World} {b : Nat} {x : ByteArray} {T : TypeId} (h : Bk w b (idc x) T) (hx : x.size = 32) (j : Nat) (hj : j < 32) : w.cell? ⟨b, j, none⟩ = some (.int .u8 (((byl x).getD j 0 : Nat) : Int)) := by
  rw [h.cell, idc_get x j (by omega), List.getD, byl_getD x j (by omega)]; rfl
set_option maxHeartbeats 2000000 in
set_option maxRecDepth 100000 in
theorem each_any (x : ByteArray) (f n k F : Nat) (cs : Array Value) (E : Nat → World → Prop) (w : World) (hx : x.size = 32) (ho : okF n k) (T : Ep x f n k F cs E) (hE : E 0 w) :
    Calls Tryd.prog 35 #[.pointer (some ⟨f, 0, none⟩), .agg (idc x), .func (.func F) #[] cs] w fun e w' => e = .returned (.tuple #[]) ∧ E k w' := by
  have HX : Hid (x.size = 32) := hx
  have HT : Hid (Ep x f n k F cs E) := T
  have h1 := okF_pos ho
  have h2 := okF_le ho
  have h3 := ho.2.2
  have HE : Hid (E 0 (w.alloc (.cells (idc x) 36)) ∧ Bk (w.alloc (.cells (idc x) 36)) w.heap.size (idc x) 36) := ⟨T.alloc _ _ hE, bk_new _ _ _⟩
  have c1 := T.hash _ (T.alloc w (.cells (idc x) 36) hE)
  obtain ⟨D, hD⟩ : ∃ D, idc x = D := ⟨_, rfl⟩
  have HD : Hid (idc x = D) := hD
  rw [hD] at HE c1 ⊢
  clear hx ho T hE hD
  go_enter Tryd.func35, Tryd.ntmps35
  go_wp2
  go_loopw [14] (fun v wr => ∃ i : Nat, i ≤ k ∧ v = .int .i64 i ∧ Hid (E i wr ∧ Bk wr w.heap.size D 36)) (fun v _ => k - (intOf v).toNat)
  case atStart => exact ⟨0, Nat.zero_le _, rfl, HE.out⟩
  case round =>
    clear HE c1
    obtain ⟨i, hi, rfl, HE⟩ := hrel
    by_cases hlt : i < k
    · have hs := slice_id w.heap.size i (by omega)
      have HB : Hid (Bk wr w.heap.size (idc x) 36) := by rw [HD.out]; exact HE.out.2
      have c0 := HT.out.bits i _ (HT.out.drew i _ HE.out.1)
      have k0 := idc_cell HB.out HX.out (4 * i) (by omega)
      have k1 := idc_cell HB.out HX.out (4 * i + 1) (by omega)
      have k2 := idc_cell HB.out HX.out (4 * i + 2) (by omega)
      have k3 := idc_cell HB.out HX.out (4 * i + 3) (by omega)
      have hraw := num_raw _ _ _ _ (byl_lt14 x (4 * i)) (byl_lt14 x (4 * i + 1)) (byl_lt14 x (4 * i + 2)) (byl_lt14 x (4 * i + 3))
      have hpn : (((byl x).getD (4 * i) 0 * 256 + (byl x).getD (4 * i + 1) 0) * 256 + (byl x).getD (4 * i + 2) 0) * 256 + (byl x).getD (4 * i + 3) 0 = pnum x i := rfl
      rw [hpn] at hraw
      clear hpn
      obtain ⟨m0, hm0⟩ : ∃ y, (byl x).getD (4 * i) 0 = y := ⟨_, rfl⟩
      obtain ⟨m1, hm1⟩ : ∃ y, (byl x).getD (4 * i + 1) 0 = y := ⟨_, rfl⟩
      obtain ⟨m2, hm2⟩ : ∃ y, (byl x).getD (4 * i + 2) 0 = y := ⟨_, rfl⟩
      obtain ⟨m3, hm3⟩ : ∃ y, (byl x).getD (4 * i + 3) 0 = y := ⟨_, rfl⟩
      rw [hm0] at k0 hraw
      rw [hm1] at k1 hraw
      rw [hm2] at k2 hraw
      rw [hm3] at k3 hraw
      have HN : Hid (∀ u, E i u → Calls Tryd.prog F (#[.int .i64 ((plc n x i / 8 : Nat) : Int), .int .u8 ((2 ^ (plc n x i % 8) : Nat) : Int)] ++ cs) u fun e w' => e = .returned (.tuple #[]) ∧ E (i + 1) w' ∧ ∀ b C, Bk u b C 36 → Bk w' b C 36) := fun u hu => HT.out.next i u hlt hu
      have hpl : plc n x i = pnum x i % n := rfl
      obtain ⟨N, hN⟩ : ∃ N, pnum x i = N := ⟨_, rfl⟩
      obtain ⟨P, hP⟩ : ∃ P, plc n x i = P := ⟨_, rfl⟩
      rw [hN, hP] at hpl
      rw [hN] at hraw
      rw [hP] at HN
      have hPn : P < n := by rw [hpl]; exact Nat.mod_lt _ (by omega)
      have q1 : (N : Int).tmod n = (P : Int) := by rw [hpl, Int.tmod_eq_emod_of_nonneg (by omega)]; rfl
      have q1e : (N : Int) % n = (P : Int) := by rw [hpl]; rfl
      clear hpl hN hP hm0 hm1 hm2 hm3
      obtain ⟨Q, hQ⟩ : ∃ Q, P / 8 = Q := ⟨_, rfl⟩
      obtain ⟨R, hR⟩ : ∃ R, P % 8 = R := ⟨_, rfl⟩
      have q2 : (P : Int).tdiv 8 = (Q : Int) := by rw [Int.tdiv_eq_ediv_of_nonneg (by omega)]; omega
      have q2e : (P : Int) / 8 = (Q : Int) := by omega
      have q3 : (P : Int).tmod 8 = (R : Int) := by rw [Int.tmod_eq_emod_of_nonneg (by omega)]; omega
      have q3e : (P : Int) % 8 = (R : Int) := by omega
      have hQn : Q < 16777216 := by omega
      have hR8 : R < 8 := by omega
      rw [hQ, hR] at HN
      obtain ⟨B, hB⟩ : ∃ B, 2 ^ R = B := ⟨_, rfl⟩
      rw [hB] at HN
      have HS : Hid ((2 : Int) ^ R % 256 = (B : Int)) := by
        show _ = _
        have hb8 : 2 ^ R < 256 := Nat.pow_lt_pow_right (a := 2) (n := 8) (by omega) hR8
        have e : (2 : Int) ^ R = ((2 ^ R : Nat) : Int) := by simp
        rw [e, hB]; omega
      clear hQ hR hB
      have HR : Hid _ := hraw
      clear hraw
      have hn0 : ((n : Int) == 0) = false := by simp; omega
      have hn4 : (n : Int) % 4294967296 = n := by omega
      go_wp2
      go_region
      rw [HR.out]
      go_wp2
      rw [HT.out.enter, Oper.upon_enter, HS.out]
      refine Calls.mono (HN.out _ (HT.out.drew _ _ HE.out.1)) ?_
      rintro e w3 ⟨rfl, hE3, hk3⟩
      have HE3 : Hid (E (i + 1) w3 ∧ Bk w3 w.heap.size D 36) := ⟨hE3, hk3 _ _ HE.out.2⟩
      clear hE3 hk3
      go_wp2
      go_roundw
      case rel => exact ⟨i + 1, by omega, by go_num, HE3.out⟩
      case measure => simp [intOf]; omega
    · have hik : i = k := by omega
      have HK : Hid (E k wr) := by rw [← hik]; exact HE.out.1
      clear hik
      go_wp2
      go_end0
      exact ⟨rfl, HK.out⟩
end Go.Proofs.YtplfjfhpdfbpeaaDoor
/- bloom: Add, Has. -/
namespace Go.Proofs.YtplfjfhpdfbpeaaDoor
open Go.RowKit
set_option linter.unusedSimpArgs false
set_option linter.unusedVariables false
theorem enter_add : ∀ args u, (callFunc 36 args).run Tryd.prog u = .ok (.enter 36 args) u := fun args u => by kernel_rfl
theorem enter_has : ∀ args u, (callFunc 43 args).run Tryd.prog u = .ok (.enter 43 args) u := fun args u => by kernel_rfl
theorem FlS.cells {w : World} {f g n k : Nat} {s : List UInt8} (h : FlS w f g n k s) : w.cell? ⟨f, 0, none⟩ = some (.int .i64 (n : Int)) ∧ w.cell? ⟨f, 1, none⟩ = some (.int .i64 (k : Int)) := by
  obtain ⟨c, ht, _⟩ := h.top
  exact ⟨by rw [ht.cell]; rfl, by rw [ht.cell]; rfl⟩
theorem bk_ne_row {w : World} {g b : Nat} {s : List UInt8} {C : Array Value} {T : TypeId} (h : Rw w g s) (hb : Bk w b C T) (hT : T ≠ 5) : g ≠ b := by
  rintro rfl
  obtain ⟨D, fz, h2, _⟩ := h
  unfold Bk at hb
  rw [hb] at h2
  injection h2 with h2
  injection h2 with _ h2 _
  exact hT h2
/-- While a name is added. -/
structure AdE (w : World) (x : ByteArray) (b f g n k : Nat) (s : List UInt8) (i : Nat) (W : World) : Prop where
  fil : FlS W f g n k (adK n x i s)
  gr : w.grownBy W (some g)
  box : Bk W b #[.pointer (some ⟨f, 0, none⟩)] 23
theorem ep_add (w : World) (x : ByteArray) (b f g n k : Nat) (s : List UInt8) : Ep x f n k 36 #[.pointer (some ⟨b, 0, none⟩)] (AdE w x b f g n k s) where
  enter := enter_add
  alloc := fun W o h => ⟨h.fil.below ((Below.refl _ _).alloc (Nat.le_refl _) _), h.gr.trans (World.grownBy_alloc W o (some g)), h.box.alloc o⟩
  drew := fun i W h => ⟨h.fil.below (Below.refl _ _).drew, Lib.Hx.grownBy_drew h.gr, h.box⟩
  bits := fun i W h => h.fil.cells.1
  hash := fun W h => h.fil.cells.2
  next := fun i W hi h => by
    have hp : plc n x i < n := Nat.mod_lt _ h.fil.pos
    refine (add1_any b f g n k (plc n x i) _ W h.fil hp (by rw [h.box.cell]; rfl)).mono ?_
    rintro e w' ⟨rfl, h1, h2⟩
    exact ⟨rfl, ⟨h1, h.gr.trans h2, h.box.grown h2 (by have := bk_ne_row h.fil.row h.box (by decide); simp; omega)⟩, fun b' C hb => hb.grown h2 (by have := bk_ne_row h.fil.row hb (by decide); simp; omega)⟩
theorem idc_all (x : ByteArray) : (idc x).all (·.oneCell') = true := Array.all_eq_true_iff_forall_mem.2 (by intro v hv; exact bvc_one _ v (by simpa [idc] using hv))
set_option maxHeartbeats 1000000 in
set_option maxRecDepth 100000 in
theorem add_any14 (x : ByteArray) (f g n k : Nat) (s : List UInt8) (w : World) (hx : x.size = 32) (h : FlS w f g n k s) :
    Calls Tryd.prog 12 #[.pointer (some ⟨f, 0, none⟩), .agg (idc x)] w fun e w' => e = .returned (.int .i64 0) ∧ FlS w' f g n k (adK n x k s) ∧ w.grownBy w' (some g) := by
  have hfl := h.lt
  have HC : Hid (Calls Tryd.prog 35 #[.pointer (some ⟨f, 0, none⟩), .agg (idc x), .func (.func 36) #[] #[.pointer (some ⟨w.heap.size, 0, none⟩)]] ((w.alloc (.cells #[.pointer (some ⟨f, 0, none⟩)] 23)).alloc (.cells (idc x) 36)) fun e w' => e = .returned (.tuple #[]) ∧ AdE w x w.heap.size f g n k s k w') :=
    each_any x f n k _ _ _ _ hx h.ok (ep_add w x w.heap.size f g n k s) ⟨h.below (((Below.refl _ _).alloc (Nat.le_refl _) _).alloc (by simp) _), (World.grownBy_alloc w _ (some g)).trans (World.grownBy_alloc _ _ (some g)), (bk_new _ _ _).alloc _⟩
  have HI : Hid ((Tryd.prog.info? 36).map (·.size) = some (idc x).size) := info_32 (by rw [idc_size, hx])
  have HK : Hid (Bk ((w.alloc (.cells #[.pointer (some ⟨f, 0, none⟩)] 23)).alloc (.cells (idc x) 36)) (w.heap.size + 1) (idc x) 36) := by
    have := bk_new (w.alloc (.cells #[.pointer (some ⟨f, 0, none⟩)] 23)) (idc x) 36
    rw [al_size] at this
    exact this
  obtain ⟨D, hD⟩ : ∃ D, idc x = D := ⟨_, rfl⟩
  rw [hD] at HC HI HK ⊢
  clear h hD hx
  go_enter Tryd.func12, Tryd.ntmps12
  go_wp2_with (first
    | (refine wpList_load_row rfl 36 (.tmp 3) rfl (w.heap.size + 1) rfl 36 D (0, 0) _ HK.out Tryd.underlying36 rfl HI.out ?_)
    | (go_at_call 35; refine HC.out.mono ?_; rintro e w1 ⟨rfl, H1⟩))
  go_ret
  exact ⟨rfl, H1.fil, H1.gr⟩
/-- While a name is asked for. -/
structure HaE (w : World) (x : ByteArray) (b y f g n k : Nat) (s : List UInt8) (i : Nat) (W : World) : Prop where
  fil : FlS W f g n k s
  bel : Below w.heap.size w W
  box : Bk W b #[.pointer (some ⟨f, 0, none⟩)] 23
  all : Bk W y #[.bool (haK n x s i)] 4
  ly : w.heap.size ≤ y
theorem ep_has (w : World) (x : ByteArray) (b y f g n k : Nat) (s : List UInt8) : Ep x f n k 43 #[.pointer (some ⟨y, 0, none⟩), .pointer (some ⟨b, 0, none⟩)] (HaE w x b y f g n k s) where
  enter := enter_has
  alloc := fun W o h => ⟨h.fil.below ((Below.refl _ _).alloc (Nat.le_refl _) _), h.bel.alloc h.bel.size _, h.box.alloc o, h.all.alloc o, h.ly⟩
  drew := fun i W h => ⟨h.fil.below (Below.refl _ _).drew, h.bel.drew, h.box, h.all, h.ly⟩
  bits := fun i W h => h.fil.cells.1
  hash := fun W h => h.fil.cells.2
  next := fun i W hi h => by
    have hp : plc n x i < n := Nat.mod_lt _ h.fil.pos
    refine (has1_any b y f g n k (plc n x i) _ s W h.fil hp (by rw [h.box.cell]; rfl) h.all).mono ?_
    rintro e w' ⟨rfl, rfl⟩
    have hg : W.grownBy (W.setCell ⟨y, 0, none⟩ (.bool (haK n x s i && btR s (plc n x i)))) (some y) := Lib.grownBy_setB (World.grownBy.refl W (some y)) 0 _
    have n1 : ∀ b' C T, Bk W b' C T → T ≠ 4 → some y ≠ some b' := fun b' C T hb hT e => by
      injection e with e
      subst e
      have := h.all
      unfold Bk at this hb
      rw [this] at hb
      injection hb with hb
      injection hb with _ hb _
      exact hT hb.symm
    obtain ⟨c, ht, _⟩ := h.fil.top
    refine ⟨rfl, ⟨h.fil.grown hg (n1 _ _ _ ht (by decide)) ?_, below_own h.bel h.bel.size hg h.ly, h.box.grown hg (n1 _ _ _ h.box (by decide)), h.all.set 0 _, h.ly⟩, fun b' C hb => hb.grown hg (n1 _ _ _ hb (by decide))⟩
    intro e
    injection e with e
    exact bk_ne_row h.fil.row h.all (by decide) e.symm
set_option maxHeartbeats 1000000 in
set_option maxRecDepth 100000 in
theorem has_any14 (x : ByteArray) (f g n k : Nat) (s : List UInt8) (w : World) (hx : x.size = 32) (h : FlS w f g n k s) :
    Calls Tryd.prog 19 #[.pointer (some ⟨f, 0, none⟩), .agg (idc x)] w fun e w' => e = .returned (.bool (haK n x s k)) ∧ Below w.heap.size w w' := by
  have hfl := h.lt
  have HC : Hid (Calls Tryd.prog 35 #[.pointer (some ⟨f, 0, none⟩), .agg (idc x), .func (.func 43) #[] #[.pointer (some ⟨w.heap.size + 2, 0, none⟩), .pointer (some ⟨w.heap.size, 0, none⟩)]] (((w.alloc (.cells #[.pointer (some ⟨f, 0, none⟩)] 23)).alloc (.cells (idc x) 36)).alloc (.cells #[.bool true] 4)) fun e w' => e = .returned (.tuple #[]) ∧ HaE w x w.heap.size (w.heap.size + 2) f g n k s k w' ∧ w'.cell? ⟨w.heap.size + 2, 0, none⟩ = some (.bool (haK n x s k))) := by
    have hb := ((((Below.refl _ w).alloc (Nat.le_refl _) (.cells #[.pointer (some ⟨f, 0, none⟩)] 23)).alloc (by simp) (.cells (idc x) 36)).alloc (by simp; omega) (.cells #[.bool true] 4))
    have hy := bk_new ((w.alloc (.cells #[.pointer (some ⟨f, 0, none⟩)] 23)).alloc (.cells (idc x) 36)) #[.bool true] 4
    rw [al_size, al_size] at hy
    refine (each_any x f n k _ _ _ _ hx h.ok (ep_has w x w.heap.size (w.heap.size + 2) f g n k s) ⟨h.below hb, hb, ((bk_new _ _ _).alloc _).alloc _, hy, by omega⟩).mono ?_
    rintro e w' ⟨rfl, h1⟩
    exact ⟨rfl, h1, by rw [h1.all.cell]; rfl⟩
  have HI : Hid ((Tryd.prog.info? 36).map (·.size) = some (idc x).size) := info_32 (by rw [idc_size, hx])
  have HK : Hid (Bk (((w.alloc (.cells #[.pointer (some ⟨f, 0, none⟩)] 23)).alloc (.cells (idc x) 36)).alloc (.cells #[.bool true] 4)) (w.heap.size + 1) (idc x) 36) := by
    have := bk_new (w.alloc (.cells #[.pointer (some ⟨f, 0, none⟩)] 23)) (idc x) 36
    rw [al_size] at this
    exact this.alloc _
  obtain ⟨D, hD⟩ : ∃ D, idc x = D := ⟨_, rfl⟩
  rw [hD] at HC HI HK ⊢
  clear h hD hx
  go_enter Tryd.func19, Tryd.ntmps19
  go_wp2_with (first
    | (refine wpList_load_row rfl 36 (.tmp 3) rfl (w.heap.size + 1) rfl 36 D (0, 0) _ HK.out Tryd.underlying36 rfl HI.out ?_)
    | (go_at_call 35; refine HC.out.mono ?_; rintro e w1 ⟨rfl, H1, c1⟩))
  go_ret
  exact ⟨rfl, H1.bel⟩
end Go.Proofs.YtplfjfhpdfbpeaaDoor
/- Plain facts: what a reader took, put again, is the bytes that it took. -/
namespace Go.Proofs.YtplfjfhpdfbpeaaDoor
set_option linter.unusedSimpArgs false
set_option linter.unusedVariables false
open Go
theorem slen_unique (n k : Nat) (h : n < 2 ^ 64) (hk : 1 ≤ k) (h1 : n < 128 ^ k) (h2 : 1 < k → 128 ^ (k - 1) ≤ n) : slen n = k := by
  have a := slen_pos n
  have b := slen_hi n h
  rcases Nat.lt_trichotomy (slen n) k with c | c | c
  · have d := h2 (by omega)
    have e : 128 ^ slen n ≤ 128 ^ (k - 1) := Nat.pow_le_pow_right (by omega) (by omega)
    omega
  · exact c
  · have d := slen_lo n h (by omega)
    have e : 128 ^ k ≤ 128 ^ (slen n - 1) := Nat.pow_le_pow_right (by omega) (by omega)
    omega
theorem enc_dec : ∀ (l : List UInt8) (i acc n k : Nat), dec i acc l = some (n, k) →
    ∃ v, n = acc + v * 128 ^ i ∧ i + 1 ≤ k ∧ by8 (encN (k - i - 1) v) = l.take (k - i) ∧ v < 128 ^ (k - i) ∧ (0 < i → 0 < v) ∧ (i + 1 < k → 128 ^ (k - i - 1) ≤ v)
  | [], i, acc, n, k, h => by simp [dec] at h
  | b :: r, i, acc, n, k, h => by
    rw [dec] at h
    split at h
    · simp at h
    · split at h
      · rename_i hb
        obtain ⟨v, e1, e2, e3, e4, e5, e6⟩ := enc_dec r (i + 1) _ n k h
        have hv := e5 (by omega)
        have hb2 := b.toNat_lt
        have hk : k - i = (k - (i + 1)) + 1 := by omega
        have hk1 : k - i - 1 = (k - (i + 1) - 1) + 1 := by omega
        refine ⟨b.toNat % 128 + 128 * v, ?_, by omega, ?_, ?_, fun _ => by omega, fun _ => ?_⟩
        · rw [e1, Nat.pow_succ, Nat.add_mul]
          have : v * (128 ^ i * 128) = 128 * v * 128 ^ i := by rw [Nat.mul_comm (128 ^ i) 128, ← Nat.mul_assoc, Nat.mul_comm v 128]
          omega
        · rw [hk1, hk, encN, List.take_succ_cons, ← e3]
          have q1 : (b.toNat % 128 + 128 * v) % 128 + 128 = b.toNat := by omega
          have q2 : (b.toNat % 128 + 128 * v) / 128 = v := by omega
          rw [q1, q2]
          show UInt8.ofNat b.toNat :: by8 (encN (k - (i + 1) - 1) v) = _
          simp
        · rw [hk, Nat.pow_succ]; omega
        · rcases Nat.lt_or_ge (i + 1 + 1) k with g | g
          · have := e6 g
            rw [hk1, Nat.pow_succ]; omega
          · have : k - i - 1 = 1 := by omega
            rw [this]; omega
      · rename_i hb
        split at h
        · simp at h
        · rename_i hc
          simp only [Option.some.injEq, Prod.mk.injEq] at h
          obtain ⟨rfl, rfl⟩ := h
          refine ⟨b.toNat, rfl, by omega, ?_, ?_, fun hi => by omega, fun g => by omega⟩
          · rw [show i + 1 - i - 1 = 0 from by omega, show i + 1 - i = 1 from by omega]
            show [UInt8.ofNat b.toNat] = [b]
            simp
          · rw [show i + 1 - i = 1 from by omega]; omega
/-- A short number that was read, put again, is the bytes that were read. -/
theorem sh_again (s : ByteArray) (h : shK s ≠ 0) : sb (encS (shN s)) = s.extract 0 (shK s) := by
  unfold shK shN at *
  cases e : decS (bl s) with
  | none => rw [e] at h; simp at h
  | some p =>
    obtain ⟨v, e1, e2, e3, e4, e5, e6⟩ := enc_dec (bl s) 0 0 p.1 p.2 e
    have bnd := dec_bounds (bl s) 0 0 p.1 p.2 e (by omega)
    simp only [Option.getD_some]
    have hv : p.1 = v := by simpa using e1
    have hs : slen p.1 = p.2 := slen_unique p.1 p.2 bnd.2.2.2 (by omega) (by rw [hv]; simpa using e4) (fun g => by rw [hv]; simpa using e6 (by omega))
    apply bl_inj
    rw [bl_sb, extract_take s p.2 (by rw [← bl_length]; omega), encS, hs, hv]
    simpa using e3
theorem fixN_fixV : ∀ (d : Nat) (l : List UInt8), l.length = d → by8 (fixN d (fixV l)) = l
  | 0, l, h => by have : l = [] := by cases l with | nil => rfl | cons a b => simp at h
                  subst this; rfl
  | d + 1, l, h => by
    obtain ⟨l', c, rfl⟩ : ∃ l' c, l = l' ++ [c] := ⟨l.dropLast, l.getLast (by intro e; subst e; simp at h), (List.dropLast_concat_getLast _).symm⟩
    have hc := c.toNat_lt
    have hl : l'.length = d := by simpa using h
    have e : by8 (fixN (d + 1) (fixV (l' ++ [c]))) = by8 (fixN d (fixV (l' ++ [c]) / 256)) ++ [UInt8.ofNat (fixV (l' ++ [c]) % 256)] := by simp [by8, fixN]
    rw [e, fixV_snoc, show (fixV l' * 256 + c.toNat) / 256 = fixV l' from by omega, show (fixV l' * 256 + c.toNat) % 256 = c.toNat from by omega, fixN_fixV d l' hl]
    simp
theorem fix_again (s : ByteArray) (d : Nat) (h : d ≤ s.size) : sb (fixN d (fixV ((bl s).take d))) = s.extract 0 d := by
  apply bl_inj
  rw [bl_sb, extract_take s d h]
  exact fixN_fixV d _ (by rw [List.length_take, bl_length]; omega)
theorem fix_lt (s : ByteArray) (d : Nat) (h : d ≤ s.size) : fixV ((bl s).take d) < 256 ^ d := by
  have := fixV_lt ((bl s).take d)
  rwa [List.length_take, bl_length, Nat.min_eq_left h] at this
theorem take_all (s : ByteArray) : (bl s).take s.size = bl s := List.take_of_length_le (by rw [bl_length]; exact Nat.le_refl _)
/-- Taken off the front: the two parts make the whole. -/
theorem split_at (s : ByteArray) (k : Nat) (h : k ≤ s.size) : s.extract 0 k ++ s.extract k s.size = s := by
  apply bl_inj
  rw [bl_append, extract_take s k h, bl_extract, take_all, List.take_append_drop]
theorem split_mid (s : ByteArray) (j k : Nat) (h : j ≤ k) (hk : k ≤ s.size) : s.extract 0 j ++ s.extract j k ++ s.extract k s.size = s := by
  apply bl_inj
  rw [bl_append, bl_append, extract_take s j (by omega), bl_extract, bl_extract, take_all]
  have e : (bl s).take j = ((bl s).take k).take j := by rw [List.take_take, Nat.min_eq_left h]
  rw [e, List.take_append_drop, List.take_append_drop]
theorem front_of (s a r : ByteArray) (h : s = a ++ r) : s.extract 0 (s.size - r.size) = a := by
  have hz : s.size = a.size + r.size := by subst h; simp
  apply bl_inj
  rw [extract_take s _ (by omega), show s.size - r.size = a.size from by omega]
  subst h
  rw [bl_append, List.take_append_of_le_length (by rw [bl_length]; exact Nat.le_refl _), List.take_of_length_le (by rw [bl_length]; exact Nat.le_refl _)]
theorem next_of (s a r p r' : ByteArray) (h : s = a ++ r) (hr : p ++ r' = r) : s = a ++ p ++ r' := by
  rw [h, ← hr]; apply bl_inj; simp [bl_append]
end Go.Proofs.YtplfjfhpdfbpeaaDoor
/- The mathematics of filters: how many bits are set; joining; bytes. No program is named here. -/
namespace Go.Proofs.YtplfjfhpdfbpeaaDoor
set_option linter.unusedSimpArgs false
set_option linter.unusedVariables false
open Go
/-- How many bits of a byte are set. -/
def popN (b : Nat) : Nat := (b.testBit 0).toNat + (b.testBit 1).toNat + (b.testBit 2).toNat + (b.testBit 3).toNat + (b.testBit 4).toNat + (b.testBit 5).toNat + (b.testBit 6).toNat + (b.testBit 7).toNat
theorem popN_le (b : Nat) : popN b ≤ 8 := by
  have h : ∀ k, (b.testBit k).toNat ≤ 1 := fun k => Bool.toNat_le _
  have := h 0; have := h 1; have := h 2; have := h 3; have := h 4; have := h 5; have := h 6; have := h 7
  unfold popN; omega
/-- How many bits of a row are set. -/
def onR (s : List UInt8) : Nat := (s.map fun b : UInt8 => popN b.toNat).sum
theorem onR_le : ∀ s : List UInt8, onR s ≤ 8 * s.length
  | [] => by simp [onR]
  | b :: s => by
    have h1 := onR_le s
    have h2 := popN_le b.toNat
    unfold onR at h1 ⊢
    simp only [List.map_cons, List.sum_cons, List.length_cons]
    omega
theorem onR_snoc (s : List UInt8) (b : UInt8) : onR (s ++ [b]) = onR s + popN b.toNat := by simp [onR]
theorem onR_take (s : List UInt8) (i : Nat) (h : i < s.length) : onR (s.take (i + 1)) = onR (s.take i) + popN (s.getD i 0).toNat := by
  rw [List.take_add_one, List.getElem?_eq_getElem h, Option.toList_some, onR_snoc, List.getD, List.getElem?_eq_getElem h]; rfl
/-- How often a thing holds below m. -/
def smB (f : Nat → Bool) : Nat → Nat
  | 0 => 0
  | m + 1 => smB f m + (f m).toNat
theorem smB_congr (f g : Nat → Bool) : ∀ m, (∀ q, q < m → f q = g q) → smB f m = smB g m
  | 0, _ => rfl
  | m + 1, h => by rw [smB, smB, smB_congr f g m (fun q hq => h q (by omega)), h m (by omega)]
theorem smB_add (f : Nat → Bool) (m : Nat) : ∀ n, smB f (m + n) = smB f m + smB (fun q => f (m + q)) n
  | 0 => rfl
  | n + 1 => by rw [← Nat.add_assoc, smB, smB_add f m n, smB, Nat.add_assoc]
theorem smB_or (f g : Nat → Bool) : ∀ m, smB (fun q => f q || g q) m ≤ smB f m + smB g m
  | 0 => by simp [smB]
  | m + 1 => by
    have := smB_or f g m
    simp only [smB]
    have h : (f m || g m).toNat ≤ (f m).toNat + (g m).toNat := by cases f m <;> cases g m <;> decide
    omega
theorem smB_one (p : Nat) : ∀ m, smB (fun q => decide (q = p)) m ≤ 1 ∧ (m ≤ p → smB (fun q => decide (q = p)) m = 0)
  | 0 => by simp [smB]
  | m + 1 => by
    have ⟨h1, h2⟩ := smB_one p m
    simp only [smB]
    by_cases e : m = p
    · subst e
      rw [h2 (Nat.le_refl _)]
      simp
    · simp only [e, decide_false, Bool.toNat_false, Nat.add_zero]
      exact ⟨h1, fun h => h2 (by omega)⟩
theorem smB_zero (f : Nat → Bool) : ∀ m, (smB f m = 0 ↔ ∀ q, q < m → f q = false)
  | 0 => by simp [smB]
  | m + 1 => by
    rw [smB, Nat.add_eq_zero_iff, smB_zero f m]
    constructor
    · rintro ⟨h1, h2⟩ q hq
      by_cases e : q = m
      · subst e; cases hf : f q <;> simp [hf] at h2 ⊢
      · exact h1 q (by omega)
    · intro h
      exact ⟨fun q hq => h q (by omega), by rw [h m (by omega)]; rfl⟩
theorem smB_all (f : Nat → Bool) : ∀ m, (∀ q, q < m → f q = true) → smB f m = m
  | 0, _ => rfl
  | m + 1, h => by rw [smB, smB_all f m (fun q hq => h q (by omega)), h m (by omega)]; rfl
theorem btR_cons_lo (b : UInt8) (s : List UInt8) (q : Nat) (h : q < 8) : btR (b :: s) q = b.toNat.testBit q := by
  unfold btR
  rw [Nat.div_eq_of_lt h, Nat.mod_eq_of_lt h]; rfl
theorem btR_cons_hi (b : UInt8) (s : List UInt8) (q : Nat) : btR (b :: s) (8 + q) = btR s q := by
  unfold btR
  rw [show (8 + q) / 8 = q / 8 + 1 from by omega, show (8 + q) % 8 = q % 8 from by omega]; rfl
theorem onR_eq : ∀ s : List UInt8, onR s = smB (btR s) (8 * s.length)
  | [] => rfl
  | b :: s => by
    have e : 8 * (b :: s).length = 8 + 8 * s.length := by simp only [List.length_cons]; omega
    rw [e, smB_add, smB_congr _ (btR s) _ (fun q _ => btR_cons_hi b s q), ← onR_eq s, smB_congr _ (fun q => b.toNat.testBit q) 8 (fun q hq => btR_cons_lo b s q hq)]
    simp only [onR, List.map_cons, List.sum_cons, smB, popN, Nat.zero_add]
theorem onR_st (s : List UInt8) (p : Nat) (h : p / 8 < s.length) : onR (stR s p) ≤ onR s + 1 := by
  rw [onR_eq, onR_eq, stR_len, smB_congr _ (fun q => btR s q || decide (q = p)) _ (fun q _ => btR_st s p q h)]
  have h1 := smB_or (btR s) (fun q => decide (q = p)) (8 * s.length)
  have h2 := (smB_one p (8 * s.length)).1
  omega
theorem onR_ad (n : Nat) (x : ByteArray) (s : List UInt8) (hn : 0 < n) (h : 8 * s.length = n) : ∀ k, onR (adK n x k s) ≤ onR s + k
  | 0 => Nat.le_refl _
  | k + 1 => by
    have h1 := onR_ad n x s hn h k
    have h2 := onR_st (adK n x k s) (plc n x k) (by rw [adK_len]; exact plc_in n x k s hn h)
    rw [adK]; omega
theorem onR_adL (n k : Nat) (hn : 0 < n) : ∀ (l : List ByteArray) (s : List UInt8), 8 * s.length = n → onR (adL n k l s) ≤ onR s + l.length * k
  | [], s, _ => by simp [adL]
  | x :: l, s, h => by
    show onR (adL n k l (adK n x k s)) ≤ _
    have h1 := onR_adL n k hn l (adK n x k s) (by rw [adK_len]; exact h)
    have h2 := onR_ad n x s hn h k
    rw [List.length_cons, Nat.succ_mul]; omega
theorem onR_zr (m : Nat) : onR (zrR m) = 0 := by
  rw [onR_eq, smB_zero]
  exact fun q _ => btR_zr m q
/-- So many bytes of another row joined to a row. -/
def jnK (s t : List UInt8) : Nat → List UInt8
  | 0 => s
  | i + 1 => (jnK s t i).set i (UInt8.ofNat (((jnK s t i).getD i 0).toNat ||| (t.getD i 0).toNat))
theorem jnK_len (s t : List UInt8) : ∀ i, (jnK s t i).length = s.length
  | 0 => rfl
  | i + 1 => by rw [jnK, List.length_set, jnK_len s t i]
theorem or_lt8 (a b : UInt8) : a.toNat ||| b.toNat < 256 := Nat.or_lt_two_pow (n := 8) a.toNat_lt b.toNat_lt
theorem or_toNat (a b : UInt8) : (UInt8.ofNat (a.toNat ||| b.toNat)).toNat = a.toNat ||| b.toNat := by
  rw [UInt8.toNat_ofNat']
  exact Nat.mod_eq_of_lt (or_lt8 a b)
theorem btR_jn (s t : List UInt8) (q : Nat) : ∀ i, i ≤ s.length → btR (jnK s t i) q = (btR s q || (decide (q / 8 < i) && btR t q))
  | 0, _ => by simp [jnK]
  | i + 1, h => by
    have ih := btR_jn s t q i (by omega)
    have hl := jnK_len s t i
    by_cases e : i = q / 8
    · have e1 : (jnK s t (i + 1)).getD (q / 8) 0 = UInt8.ofNat (((jnK s t i).getD i 0).toNat ||| (t.getD i 0).toNat) := by
        rw [jnK, ← e]
        have : i < (jnK s t i).length := by omega
        simp [List.getD, this]
      unfold btR at ih ⊢
      rw [e1, or_toNat, Nat.testBit_or]
      rw [← e] at ih ⊢
      rw [ih]
      simp
    · have e1 : (jnK s t (i + 1)).getD (q / 8) 0 = (jnK s t i).getD (q / 8) 0 := by
        rw [jnK]
        simp [List.getD, List.getElem?_set, e]
      unfold btR at ih ⊢
      rw [e1, ih]
      have : (q / 8 < i + 1) ↔ (q / 8 < i) := by omega
      simp [this]
/-- Two rows joined. -/
def jnR (s t : List UInt8) : List UInt8 := jnK s t t.length
theorem jnR_len (s t : List UInt8) : (jnR s t).length = s.length := jnK_len s t _
theorem btR_far (t : List UInt8) (q : Nat) (h : ¬ q / 8 < t.length) : btR t q = false := by
  unfold btR
  rw [List.getD, List.getElem?_eq_none (by omega)]; simp
theorem btR_jnR (s t : List UInt8) (q : Nat) (h : s.length = t.length) : btR (jnR s t) q = (btR s q || btR t q) := by
  rw [jnR, btR_jn s t q t.length (by omega)]
  by_cases e : q / 8 < t.length
  · simp [e]
  · rw [btR_far t q e]; simp
/-- A short number's bytes. -/
def e8f (n : Nat) : List UInt8 := bl (sb (encS n))
theorem num_split14 {s : ByteArray} (hk : shK s ≠ 0) : bl s = e8f (shN s) ++ bl (s.extract (shK s) s.size) := by
  have h := sh_again s hk
  have hl := shK_le s
  rw [e8f, h]
  show s.data.toList = _ ++ _
  have e1 : bl (s.extract 0 (shK s)) = (bl s).take (shK s) := extract_take s _ hl
  have e2 : bl (s.extract (shK s) s.size) = (bl s).drop (shK s) := by
    unfold bl
    rw [ByteArray.data_extract, Array.toList_extract]
    have : s.data.toList.length = s.size := by rw [Array.length_toList]; rfl
    simp only [List.extract_eq_take_drop]
    rw [List.take_of_length_le (by rw [List.length_drop]; omega)]
  rw [e1, e2, List.take_append_drop]; rfl
theorem num_front14 {s : ByteArray} {m : Nat} {r : List UInt8} (hm : m < 2 ^ 64) (h : bl s = e8f m ++ r) : shK s ≠ 0 ∧ shN s = m ∧ bl (s.extract (shK s) s.size) = r := by
  have e : s = sb (encS m) ++ ⟨r.toArray⟩ := by
    apply bl_inj
    rw [h, e8f]
    simp [bl]
  have h1 := sh_enc m s _ hm e
  have hk : shK s ≠ 0 := by
    rw [h1.2]
    have := slen_pos m
    omega
  refine ⟨hk, h1.1, ?_⟩
  have h2 := num_split14 hk
  rw [h1.1, h] at h2
  exact (List.append_cancel_left h2).symm
/-- A filter's bytes. -/
def IsF (S : ByteArray) (n k : Nat) (s : List UInt8) : Prop := okF n k ∧ 8 * s.length = n ∧ bl S = [77, 66, 70, 49] ++ (e8f n ++ (e8f k ++ s))
theorem bl_drop (S : ByteArray) (m : Nat) : bl (S.extract m S.size) = (bl S).drop m := by
  unfold bl
  rw [ByteArray.data_extract, Array.toList_extract]
  have : S.data.toList.length = S.size := by rw [Array.length_toList]; rfl
  simp only [List.extract_eq_take_drop]
  rw [List.take_of_length_le (by rw [List.length_drop]; omega)]
/-- What is read of a filter's bytes. -/
theorem IsF.read {S : ByteArray} {n k : Nat} {s : List UInt8} (h : IsF S n k s) (R T : ByteArray) (hR : R = S.extract 4 S.size) (hT : T = R.extract (shK R) R.size) :
    (bl S).take 4 = [77, 66, 70, 49] ∧ shK R ≠ 0 ∧ shN R = n ∧ shK T ≠ 0 ∧ shN T = k ∧ bl (T.extract (shK T) T.size) = s := by
  obtain ⟨h1, h2, h3⟩ := h
  have hn := okF_le h1
  have hk := h1.2.2
  have hb : bl R = e8f n ++ (e8f k ++ s) := by rw [hR, bl_drop, h3]; rfl
  obtain ⟨a1, a2, a3⟩ := num_front14 (by omega) hb
  rw [← hT] at a3
  obtain ⟨b1, b2, b3⟩ := num_front14 (by omega) a3
  exact ⟨by rw [h3]; rfl, a1, a2, b1, b2, b3⟩
theorem IsF.made {S R T : ByteArray} (hR : R = S.extract 4 S.size) (hT : T = R.extract (shK R) R.size) (h4 : (bl S).take 4 = [77, 66, 70, 49]) (a1 : shK R ≠ 0) (b1 : shK T ≠ 0) (ho : okF (shN R) (shN T)) (hl : 8 * (T.extract (shK T) T.size).size = shN R) :
    IsF S (shN R) (shN T) (bl (T.extract (shK T) T.size)) := by
  refine ⟨ho, by rw [bl_length]; exact hl, ?_⟩
  have e1 := num_split14 a1
  have e2 := num_split14 b1
  rw [← hT, e2, hR, bl_drop] at e1
  rw [← hR] at e1
  rw [← h4, ← e1, List.take_append_drop]
theorem IsF.one {S : ByteArray} {n k n' k' : Nat} {s s' : List UInt8} (h : IsF S n k s) (h' : IsF S n' k' s') : n = n' ∧ k = k' ∧ s = s' := by
  have a := h.read _ _ rfl rfl
  have b := h'.read _ _ rfl rfl
  exact ⟨a.2.2.1.symm.trans b.2.2.1, a.2.2.2.2.1.symm.trans b.2.2.2.2.1, a.2.2.2.2.2.symm.trans b.2.2.2.2.2⟩
theorem IsF.same {S S' : ByteArray} {n k : Nat} {s : List UInt8} (h : IsF S n k s) (h' : IsF S' n k s) : S = S' := bl_inj (h.2.2.trans h'.2.2.symm)
/-- A filter, as bytes. -/
def enF (n k : Nat) (s : List UInt8) : ByteArray := (⟨#[77, 66, 70, 49]⟩ ++ sb (encS n)) ++ sb (encS k) ++ ⟨s.toArray⟩
theorem enF_is {n k : Nat} {s : List UInt8} (h : okF n k) (hl : 8 * s.length = n) : IsF (enF n k s) n k s := ⟨h, hl, by simp [enF, bl, e8f]⟩
theorem IsF.eq {S : ByteArray} {n k : Nat} {s : List UInt8} (h : IsF S n k s) : S = enF n k s := h.same (enF_is h.1 h.2.1)
end Go.Proofs.YtplfjfhpdfbpeaaDoor
/- wire.Len. -/
namespace Go.Proofs.YtplfjfhpdfbpeaaDoor
open Go.RowKit
set_option linter.unusedSimpArgs false
set_option linter.unusedVariables false
set_option maxHeartbeats 400000 in
theorem len_any (x : Int) (w : World) (h0 : 0 ≤ x) (h1 : x ≤ 18446744073709551615) :
    Calls Tryd.prog 52 #[.int .u64 x] w fun e w' => e = .returned (.int .i64 (slen x.toNat)) ∧ w' = w := by
  have hb := bitLen_le64 x.toNat (by omega)
  go_enter Tryd.func52, Tryd.ntmps52
  go_wp2_with (go_at_call 67; refine (len64_any x _ h0 h1).mono ?_; rintro e w' ⟨rfl, rfl⟩)
  all_goals go_ret
  all_goals refine ⟨ret_int ?_, rfl⟩
  all_goals unfold slen
  all_goals omega
end Go.Proofs.YtplfjfhpdfbpeaaDoor
