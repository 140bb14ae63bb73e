/- bloom: the closure of Has, eachPlace, Add, Has. -/
import Derived.Test.YtplfjfhpdfbpeaaDoorBQ2
namespace Go.Proofs.YtplfjfhpdfbpeaaDoor
open Go.RowKit
set_option linter.unusedSimpArgs false
set_option linter.unusedVariables false
theorem and_bit (s : List UInt8) (p : Nat) : (s.getD (p / 8) 0).toNat &&& 2 ^ (p % 8) = (btR s p).toNat * 2 ^ (p % 8) := by
  apply Nat.eq_of_testBit_eq
  intro j
  rw [Nat.testBit_and, Nat.testBit_two_pow]
  by_cases e : p % 8 = j
  · subst e
    rw [show (s.getD (p / 8) 0).toNat.testBit (p % 8) = btR s p from rfl]
    cases btR s p <;> simp [Nat.testBit_two_pow]
  · cases btR s p <;> simp [Nat.testBit_two_pow, e]
set_option maxHeartbeats 1000000 in
set_option maxRecDepth 100000 in
/-- The closure of Has. -/
theorem has1_any (x y f g n k p : Nat) (A : Bool) (s : List UInt8) (w : World) (h : FlS w f g n k s) (hp : p < n) (hx : w.cell? ⟨x, 0, none⟩ = some (.pointer (some ⟨f, 0, none⟩))) (hy : Bk w y #[.bool A] 4) :
    Calls Tryd.prog 43 #[.int .i64 ((p / 8 : Nat) : Int), .int .u8 ((2 ^ (p % 8) : Nat) : Int), .pointer (some ⟨y, 0, none⟩), .pointer (some ⟨x, 0, none⟩)] w fun e w' => e = .returned (.tuple #[]) ∧ w' = w.setCell ⟨y, 0, none⟩ (.bool (A && btR s p)) := by
  have y1 : w.cell? ⟨y, 0, none⟩ = some (.bool A) := by rw [hy.cell]; rfl
  have y2 := hy.frozen 0
  cases A with
  | false =>
    clear hy h
    go_enter Tryd.func43, Tryd.ntmps43
    go_wp2
    go_end0
    exact ⟨rfl, by simp⟩
  | true =>
    have hl := h.len
    have hn := okF_le h.ok
    obtain ⟨c, ht, hc⟩ := h.top
    have c2 : w.cell? ⟨f, 2, none⟩ = some (.slice (some ⟨g, 0, none⟩) s.length c) := by rw [ht.cell]; rfl
    have r1 := h.row.cell (p / 8) (by omega)
    have hk : p % 8 < 8 := by omega
    have hb8 : 2 ^ (p % 8) < 256 := Nat.pow_lt_pow_right (a := 2) (n := 8) (by omega) hk
    have eo := u8_and_nat (s.getD (p / 8) 0).toNat (2 ^ (p % 8)) (s.getD (p / 8) 0).toNat_lt hb8
    rw [and_bit] at eo
    have hb0 : 0 < 2 ^ (p % 8) := Nat.two_pow_pos _
    obtain ⟨q, hq⟩ : ∃ q, p / 8 = q := ⟨_, rfl⟩
    obtain ⟨b, hb⟩ : ∃ b, 2 ^ (p % 8) = b := ⟨_, rfl⟩
    obtain ⟨u, hu⟩ : ∃ u, (s.getD (p / 8) 0).toNat = u := ⟨_, rfl⟩
    rw [hu] at r1 eo
    rw [hq] at r1 ⊢
    rw [hb] at eo hb0 ⊢
    obtain ⟨L, hL⟩ : ∃ L, s.length = L := ⟨_, rfl⟩
    rw [hL] at c2 hl hc
    have hqL : q < L := by omega
    clear hu hq hb hL ht h hb8 hy
    cases hv : btR s p with
    | true =>
      rw [hv] at eo
      simp only [Bool.toNat_true, Nat.one_mul] at eo
      have hz : ((b : Int) != 0) = true := by simp; omega
      clear hv
      go_enter Tryd.func43, Tryd.ntmps43
      go_wp2
      go_end0
      exact ⟨rfl, by simp⟩
    | false =>
      rw [hv] at eo
      simp only [Bool.toNat_false, Nat.zero_mul] at eo
      clear hv
      go_enter Tryd.func43, Tryd.ntmps43
      go_wp2
      go_end0
      exact ⟨rfl, by simp⟩
theorem num_raw (a b c d : Nat) (ha : a < 256) (hb : b < 256) (hc : c < 256) (hd : d < 256) : bits .or .u32 (bits .or .u32 (bits .or .u32 ((a : Int) % 4294967296 * 16777216 % 4294967296) ((b : Int) % 4294967296 * 65536 % 4294967296)) ((c : Int) % 4294967296 * 256 % 4294967296)) ((d : Int) % 4294967296) = (((((a * 256 + b) * 256 + c) * 256 + d : Nat)) : Int) := by
  have e1 : (a : Int) % (4294967296 : Int) * (16777216 : Int) % (4294967296 : Int) = Int.ofNat (a <<< 24) := by rw [Nat.shiftLeft_eq]; show _ = ((a * 2 ^ 24 : Nat) : Int); omega
  have e2 : (b : Int) % (4294967296 : Int) * (65536 : Int) % (4294967296 : Int) = Int.ofNat (b <<< 16) := by rw [Nat.shiftLeft_eq]; show _ = ((b * 2 ^ 16 : Nat) : Int); omega
  have e3 : (c : Int) % (4294967296 : Int) * (256 : Int) % (4294967296 : Int) = Int.ofNat (c <<< 8) := by rw [Nat.shiftLeft_eq]; show _ = ((c * 2 ^ 8 : Nat) : Int); omega
  have e4 : (d : Int) % 4294967296 = (d : Int) := by omega
  have a1 : a <<< 24 < 4294967296 := by rw [Nat.shiftLeft_eq]; omega
  have b1 : b <<< 16 < 2 ^ 24 := by rw [Nat.shiftLeft_eq]; omega
  have c1 : c <<< 8 < 2 ^ 16 := by rw [Nat.shiftLeft_eq]; omega
  have o1 : a <<< 24 ||| b <<< 16 = (a * 256 + b) <<< 16 := by
    rw [← Nat.shiftLeft_add_eq_or_of_lt b1, Nat.shiftLeft_eq, Nat.shiftLeft_eq, Nat.shiftLeft_eq]; omega
  have o2 : (a * 256 + b) <<< 16 ||| c <<< 8 = ((a * 256 + b) * 256 + c) <<< 8 := by
    rw [← Nat.shiftLeft_add_eq_or_of_lt c1, Nat.shiftLeft_eq, Nat.shiftLeft_eq, Nat.shiftLeft_eq]; omega
  have o3 : ((a * 256 + b) * 256 + c) <<< 8 ||| d = ((a * 256 + b) * 256 + c) * 256 + d := by
    rw [← Nat.shiftLeft_add_eq_or_of_lt hd, Nat.shiftLeft_eq]
  rw [e1, e2, e3, e4]
  simp only [Int.ofNat_eq_natCast]
  rw [u32_or_nat _ _ a1 (by omega), o1, u32_or_nat _ _ (by rw [Nat.shiftLeft_eq]; omega) (by omega), o2, u32_or_nat _ _ (by rw [Nat.shiftLeft_eq]; omega) (by omega), o3]
theorem slice_id (b k : Nat) (hk : k < 8) (w : World) :
    (Instr.sliceAt 36 (.pointer (some ⟨b, 0, none⟩)) (some (.int .i64 (4 * (k : Int)))) none none).run Tryd.prog w = .ok (.slice (some ⟨b, 4 * k, none⟩) (32 - 4 * k) (32 - 4 * k)) w := by
  have e1 : Tryd.prog.elem 36 = 5 := by kernel_rfl
  have e2 : Tryd.prog.arrayLen 36 = 32 := by kernel_rfl
  have e0 : Tryd.prog.underlying 36 = some (.array (Tryd.prog.arrayLen 36) (Tryd.prog.elem 36)) := by kernel_rfl
  rw [run_sliceAt_array_l (P := Tryd.prog) w 36 ⟨b, 0, none⟩ e0 .i64 (4 * (k : Int)) (by omega) (by rw [e2]; omega)]
  rw [e1, e2, sizeOf_u8']
  simp only [slicedAt, Result.andThen, Addr.add_mid]
  rw [show (4 * (k : Int)).toNat = 4 * k from by omega]
  have e3 : ¬ 32 = 4 * k := by omega
  simp only [Nat.mul_one, Nat.zero_add, e3, if_false]
/-- What eachPlace hands the places to. -/
structure Ep (x : ByteArray) (f n k F : Nat) (cs : Array Value) (E : Nat → World → Prop) : Prop where
  enter : ∀ args u, (callFunc F args).run Tryd.prog u = .ok (.enter F args) u
  alloc : ∀ w o, E 0 w → E 0 (w.alloc o)
  drew : ∀ i w, E i w → E i w.drew
  bits : ∀ i w, E i w → w.cell? ⟨f, 0, none⟩ = some (.int .i64 (n : Int))
  hash : ∀ w, E 0 w → w.cell? ⟨f, 1, none⟩ = some (.int .i64 (k : Int))
  next : ∀ i w, i < k → E i w → Calls Tryd.prog F (#[.int .i64 ((plc n x i / 8 : Nat) : Int), .int .u8 ((2 ^ (plc n x i % 8) : Nat) : Int)] ++ cs) w fun e w' => e = .returned (.tuple #[]) ∧ E (i + 1) w' ∧ ∀ b C, Bk w b C 36 → Bk w' b C 36
theorem byl_lt14 (x : ByteArray) (j : Nat) : (byl x).getD j 0 < 256 := by
  rw [List.getD]
  by_cases h : j < (byl x).length
  · rw [List.getElem?_eq_getElem h]
    simp only [Option.getD_some, byl, List.getElem_map]
    exact UInt8.toNat_lt _
  · rw [List.getElem?_eq_none (by omega)]; simp
theorem idc_cell {w : World} {b : Nat} {x : ByteArray} {T : TypeId} (h : Bk w b (idc x) T) (hx : x.size = 32) (j : Nat) (hj : j < 32) : w.cell? ⟨b, j, none⟩ = some (.int .u8 (((byl x).getD j 0 : Nat) : Int)) := by
  rw [h.cell, idc_get x j (by omega), List.getD, byl_getD x j (by omega)]; rfl
set_option maxHeartbeats 2000000 in
set_option maxRecDepth 100000 in
theorem each_any (x : ByteArray) (f n k F : Nat) (cs : Array Value) (E : Nat → World → Prop) (w : World) (hx : x.size = 32) (ho : okF n k) (T : Ep x f n k F cs E) (hE : E 0 w) :
    Calls Tryd.prog 35 #[.pointer (some ⟨f, 0, none⟩), .agg (idc x), .func (.func F) #[] cs] w fun e w' => e = .returned (.tuple #[]) ∧ E k w' := by
  have HX : Hid (x.size = 32) := hx
  have HT : Hid (Ep x f n k F cs E) := T
  have h1 := okF_pos ho
  have h2 := okF_le ho
  have h3 := ho.2.2
  have HE : Hid (E 0 (w.alloc (.cells (idc x) 36)) ∧ Bk (w.alloc (.cells (idc x) 36)) w.heap.size (idc x) 36) := ⟨T.alloc _ _ hE, bk_new _ _ _⟩
  have c1 := T.hash _ (T.alloc w (.cells (idc x) 36) hE)
  obtain ⟨D, hD⟩ : ∃ D, idc x = D := ⟨_, rfl⟩
  have HD : Hid (idc x = D) := hD
  rw [hD] at HE c1 ⊢
  clear hx ho T hE hD
  go_enter Tryd.func35, Tryd.ntmps35
  go_wp2
  go_loopw [14] (fun v wr => ∃ i : Nat, i ≤ k ∧ v = .int .i64 i ∧ Hid (E i wr ∧ Bk wr w.heap.size D 36)) (fun v _ => k - (intOf v).toNat)
  case atStart => exact ⟨0, Nat.zero_le _, rfl, HE.out⟩
  case round =>
    clear HE c1
    obtain ⟨i, hi, rfl, HE⟩ := hrel
    by_cases hlt : i < k
    · have hs := slice_id w.heap.size i (by omega)
      have HB : Hid (Bk wr w.heap.size (idc x) 36) := by rw [HD.out]; exact HE.out.2
      have c0 := HT.out.bits i _ (HT.out.drew i _ HE.out.1)
      have k0 := idc_cell HB.out HX.out (4 * i) (by omega)
      have k1 := idc_cell HB.out HX.out (4 * i + 1) (by omega)
      have k2 := idc_cell HB.out HX.out (4 * i + 2) (by omega)
      have k3 := idc_cell HB.out HX.out (4 * i + 3) (by omega)
      have hraw := num_raw _ _ _ _ (byl_lt14 x (4 * i)) (byl_lt14 x (4 * i + 1)) (byl_lt14 x (4 * i + 2)) (byl_lt14 x (4 * i + 3))
      have hpn : (((byl x).getD (4 * i) 0 * 256 + (byl x).getD (4 * i + 1) 0) * 256 + (byl x).getD (4 * i + 2) 0) * 256 + (byl x).getD (4 * i + 3) 0 = pnum x i := rfl
      rw [hpn] at hraw
      clear hpn
      obtain ⟨m0, hm0⟩ : ∃ y, (byl x).getD (4 * i) 0 = y := ⟨_, rfl⟩
      obtain ⟨m1, hm1⟩ : ∃ y, (byl x).getD (4 * i + 1) 0 = y := ⟨_, rfl⟩
      obtain ⟨m2, hm2⟩ : ∃ y, (byl x).getD (4 * i + 2) 0 = y := ⟨_, rfl⟩
      obtain ⟨m3, hm3⟩ : ∃ y, (byl x).getD (4 * i + 3) 0 = y := ⟨_, rfl⟩
      rw [hm0] at k0 hraw
      rw [hm1] at k1 hraw
      rw [hm2] at k2 hraw
      rw [hm3] at k3 hraw
      have HN : Hid (∀ u, E i u → Calls Tryd.prog F (#[.int .i64 ((plc n x i / 8 : Nat) : Int), .int .u8 ((2 ^ (plc n x i % 8) : Nat) : Int)] ++ cs) u fun e w' => e = .returned (.tuple #[]) ∧ E (i + 1) w' ∧ ∀ b C, Bk u b C 36 → Bk w' b C 36) := fun u hu => HT.out.next i u hlt hu
      have hpl : plc n x i = pnum x i % n := rfl
      obtain ⟨N, hN⟩ : ∃ N, pnum x i = N := ⟨_, rfl⟩
      obtain ⟨P, hP⟩ : ∃ P, plc n x i = P := ⟨_, rfl⟩
      rw [hN, hP] at hpl
      rw [hN] at hraw
      rw [hP] at HN
      have hPn : P < n := by rw [hpl]; exact Nat.mod_lt _ (by omega)
      have q1 : (N : Int).tmod n = (P : Int) := by rw [hpl, Int.tmod_eq_emod_of_nonneg (by omega)]; rfl
      have q1e : (N : Int) % n = (P : Int) := by rw [hpl]; rfl
      clear hpl hN hP hm0 hm1 hm2 hm3
      obtain ⟨Q, hQ⟩ : ∃ Q, P / 8 = Q := ⟨_, rfl⟩
      obtain ⟨R, hR⟩ : ∃ R, P % 8 = R := ⟨_, rfl⟩
      have q2 : (P : Int).tdiv 8 = (Q : Int) := by rw [Int.tdiv_eq_ediv_of_nonneg (by omega)]; omega
      have q2e : (P : Int) / 8 = (Q : Int) := by omega
      have q3 : (P : Int).tmod 8 = (R : Int) := by rw [Int.tmod_eq_emod_of_nonneg (by omega)]; omega
      have q3e : (P : Int) % 8 = (R : Int) := by omega
      have hQn : Q < 16777216 := by omega
      have hR8 : R < 8 := by omega
      rw [hQ, hR] at HN
      obtain ⟨B, hB⟩ : ∃ B, 2 ^ R = B := ⟨_, rfl⟩
      rw [hB] at HN
      have HS : Hid ((2 : Int) ^ R % 256 = (B : Int)) := by
        show _ = _
        have hb8 : 2 ^ R < 256 := Nat.pow_lt_pow_right (a := 2) (n := 8) (by omega) hR8
        have e : (2 : Int) ^ R = ((2 ^ R : Nat) : Int) := by simp
        rw [e, hB]; omega
      clear hQ hR hB
      have HR : Hid _ := hraw
      clear hraw
      have hn0 : ((n : Int) == 0) = false := by simp; omega
      have hn4 : (n : Int) % 4294967296 = n := by omega
      go_wp2
      go_region
      rw [HR.out]
      go_wp2
      rw [HT.out.enter, Oper.upon_enter, HS.out]
      refine Calls.mono (HN.out _ (HT.out.drew _ _ HE.out.1)) ?_
      rintro e w3 ⟨rfl, hE3, hk3⟩
      have HE3 : Hid (E (i + 1) w3 ∧ Bk w3 w.heap.size D 36) := ⟨hE3, hk3 _ _ HE.out.2⟩
      clear hE3 hk3
      go_wp2
      go_roundw
      case rel => exact ⟨i + 1, by omega, by go_num, HE3.out⟩
      case measure => simp [intOf]; omega
    · have hik : i = k := by omega
      have HK : Hid (E k wr) := by rw [← hik]; exact HE.out.1
      clear hik
      go_wp2
      go_end0
      exact ⟨rfl, HK.out⟩
end Go.Proofs.YtplfjfhpdfbpeaaDoor
