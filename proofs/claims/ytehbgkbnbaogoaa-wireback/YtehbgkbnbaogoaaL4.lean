/- The walk of munimentlaw01.WireBack: it returns true; nothing that was there has turned. -/
import Derived.Test.YtehbgkbnbaogoaaW11
import Derived.Test.YtehbgkbnbaogoaaO2
import Derived.ProofKit
import Derived.Deep.RegionHeld3
import Derived.Deep.DrawnRows
import Derived.BigQuiet
import Derived.Deep.Slices
import Derived.Lib.SmallJoins
namespace Go.Proofs.Ytehbgkbnbaogoaa
open Go.ChangeShapes Go.WideShapes Go.ChangeAt Go.RowKit
set_option linter.unusedSimpArgs false
set_option linter.unusedVariables false
/-- What a thing is put as. -/
def encT (K Wd : Nat → Int) (Nn : Nat → Nat) (T : Nat → ByteArray) (i : Nat) : ByteArray :=
  if (K i).tmod 3 = 1 then sb (fixN (wd (Wd i)) (cutN (Nn i) (wd (Wd i)))) else if (K i).tmod 3 = 2 then sb (encS (T i).size) ++ T i else sb (encS (Nn i))
/-- What the first k things are put as. -/
def encAll (K Wd : Nat → Int) (Nn : Nat → Nat) (T : Nat → ByteArray) : Nat → ByteArray
  | 0 => ⟨#[]⟩
  | k + 1 => encAll K Wd Nn T k ++ encT K Wd Nn T k
/-- What j things from the k-th on are put as. -/
def encR (K Wd : Nat → Int) (Nn : Nat → Nat) (T : Nat → ByteArray) : Nat → Nat → ByteArray
  | _, 0 => ⟨#[]⟩
  | k, j + 1 => encT K Wd Nn T k ++ encR K Wd Nn T (k + 1) j
theorem enc_next1 {K Wd : Nat → Int} {Nn : Nat → Nat} {T : Nat → ByteArray} {k : Nat} {s : ByteArray} (hs : s = encAll K Wd Nn T k) (h : (K k).tmod 3 = 1) :
    s ++ sb (fixN (wd (Wd k)) ((cutN (Nn k) (wd (Wd k)) : Nat) : Int).toNat) = encAll K Wd Nn T (k + 1) := by
  rw [encAll, encT, if_pos h, hs, Int.toNat_natCast]
theorem enc_next2 {K Wd : Nat → Int} {Nn : Nat → Nat} {T : Nat → ByteArray} {k : Nat} {s : ByteArray} (hs : s = encAll K Wd Nn T k) (h : ¬ (K k).tmod 3 = 1) (h2 : (K k).tmod 3 = 2) :
    s ++ sb (encS (T k).size) ++ T k = encAll K Wd Nn T (k + 1) := by
  rw [encAll, encT, if_neg h, if_pos h2, hs]; apply bl_inj; simp [bl_append]
theorem enc_next3 {K Wd : Nat → Int} {Nn : Nat → Nat} {T : Nat → ByteArray} {k : Nat} {s : ByteArray} (hs : s = encAll K Wd Nn T k) (h : ¬ (K k).tmod 3 = 1) (h2 : ¬ (K k).tmod 3 = 2) :
    s ++ sb (encS ((Nn k : Nat) : Int).toNat) = encAll K Wd Nn T (k + 1) := by
  rw [encAll, encT, if_neg h, if_neg h2, hs, Int.toNat_natCast]
theorem encR_snoc (K Wd : Nat → Int) (Nn : Nat → Nat) (T : Nat → ByteArray) : ∀ (j i : Nat), encR K Wd Nn T i (j + 1) = encR K Wd Nn T i j ++ encT K Wd Nn T (i + j)
  | 0, i => by rw [encR, encR, encR]; apply bl_inj; rw [bl_append, bl_append]; simp [bl]
  | j + 1, i => by
    rw [encR, encR_snoc K Wd Nn T j (i + 1), encR, show i + 1 + j = i + (j + 1) from by omega]; apply bl_inj; simp [bl_append]
theorem encAll_encR (K Wd : Nat → Int) (Nn : Nat → Nat) (T : Nat → ByteArray) : ∀ k, encAll K Wd Nn T k = encR K Wd Nn T 0 k
  | 0 => rfl
  | k + 1 => by rw [encR_snoc, encAll, encAll_encR K Wd Nn T k, Nat.zero_add]
theorem encR_step (K Wd : Nat → Int) (Nn : Nat → Nat) (T : Nat → ByteArray) (j k : Nat) (h : j < k) : encR K Wd Nn T j (k - j) = encT K Wd Nn T j ++ encR K Wd Nn T (j + 1) (k - (j + 1)) := by
  rw [show k - j = (k - (j + 1)) + 1 from by omega, encR]
theorem Step.drew {b : Nat} {w w' : World} {s : ByteArray} (h : Step b w w' s) : Step b w w'.drew s := ⟨h.os, h.tape, h.output, h.size, h.cell, h.frozen, h.block⟩
theorem Step.other {b : Nat} {w w' : World} {s : ByteArray} (h : Step b w w' s) (k o : Nat) (hk : k < w.heap.size) (hne : k ≠ b) : w'.cell? ⟨k, o, none⟩ = w.cell? ⟨k, o, none⟩ :=
  World.cell?_of_block (w := w) (h.block k hk hne)
theorem back_size {r a r' : ByteArray} (h : r = a ++ r') {n : Nat} (hr : r.size ≤ n) : r'.size ≤ n := by have := app_size h; omega
theorem back_rel {R : Nat} {wo wr w5 : World} {o : Obj} {r' : ByteArray} (hz : R < wr.heap.size) (hb : Below R wo wr) (h : Step R (wr.alloc o) w5 r') :
    w5.cell? ⟨R, 0, none⟩ = some (.string r') ∧ w5.frozen? ⟨R, 0, none⟩ = false ∧ R < w5.heap.size ∧ Below R wo w5 :=
  ⟨h.cell, h.frozen, by have := h.size; simp at this; omega, (hb.alloc (by omega) o).trans (h.below (Nat.le_refl _) (by simp; omega))⟩
theorem bel_drew {B : Nat} {w wr w5 : World} {o : Obj} (h : Below B w wr) (hB : B ≤ wr.heap.size) (h5 : Below (wr.alloc o).drew.heap.size (wr.alloc o).drew w5) : Below B w w5 :=
  ((h.alloc hB o).drew).trans (h5.mono (by simp; omega))
theorem bel_plain {B : Nat} {w wr w5 : World} {o : Obj} (h : Below B w wr) (hB : B ≤ wr.heap.size) (h5 : Below (wr.alloc o).heap.size (wr.alloc o) w5) : Below B w w5 :=
  (h.alloc hB o).trans (h5.mono (by simp; omega))
set_option maxHeartbeats 1000000 in
set_option maxRecDepth 100000 in
theorem back_walk (a0 : Option Addr) (len cap : Nat) (K Wd : Nat → Int) (Nn : Nat → Nat) (T : Nat → ByteArray) (w : World) (hlen : len ≤ maxLen) (hL : Lie w a0 len K Wd Nn T)
    (hW : ∀ i, i < len → -9223372036854775808 ≤ Wd i ∧ Wd i ≤ 9223372036854775807) (hN : ∀ i, i < len → Nn i < 18446744073709551616) (hT : ∀ i, i < len → (T i).size ≤ 140737488351232) :
    Calls Try.prog 4 #[.slice a0 len cap] w fun e w' => e = .returned (.bool true) ∧ Below w.heap.size w w' := by
  unfold maxLen at hlen
  have HL : Hid (Lie w a0 len K Wd Nn T) := hL
  have HW : Hid (∀ i, i < len → -9223372036854775808 ≤ Wd i ∧ Wd i ≤ 9223372036854775807) := hW
  have HN : Hid (∀ i, i < len → Nn i < 18446744073709551616) := hN
  have HT : Hid (∀ i, i < len → (T i).size ≤ 140737488351232) := hT
  clear hL hW hN hT
  go_enter Try.func4, Try.ntmps4
  go_wp2
  go_loopw [3, 4] (fun v i wr => ∃ (k : Nat) (s : ByteArray), k ≤ len ∧ k ≤ 300 ∧ i = .int .i64 k ∧ v = .string s ∧ s.size ≤ k * 200000000000000 ∧ Hid (s = encAll K Wd Nn T k) ∧ Below w.heap.size w wr) (fun _ i _ => 300 - (intOf i).toNat)
  case atStart => exact ⟨0, _, by omega, by omega, rfl, rfl, by decide, rfl, Below.refl _ _⟩
  case round =>
    obtain ⟨k, s, hk1, hk2, rfl, rfl, hsz, HE, hbel⟩ := hrel
    by_cases hlt : k < len ∧ k < 300
    · obtain ⟨g1, g2⟩ := hlt
      obtain ⟨b, off, rfl, hb, c0, c1, c2, c3⟩ := HL.out k g1
      have d0 := (hbel.cell (p := ⟨b, off + k * 4, none⟩) hb).trans c0
      have d1 := (hbel.cell (p := ⟨b, off + k * 4 + 1, none⟩) hb).trans c1
      have d2 := (hbel.cell (p := ⟨b, off + k * 4 + 2, none⟩) hb).trans c2
      have d3 := (hbel.cell (p := ⟨b, off + k * 4 + 3, none⟩) hb).trans c3
      clear c0 c1 c2 c3
      obtain ⟨w1, w2⟩ := HW.out k g1
      have n1 := HN.out k g1
      have t1 := HT.out k g1
      by_cases hk1 : (K k).tmod 3 = 1
      · have e1 : ((K k).tmod 3 == 1) = true := by simp [hk1]
        have HK : Hid ((K k).tmod 3 = 1) := hk1
        clear hk1
        have p1 := wd_pos (Wd k)
        have p2 := wd_le (Wd k)
        have q1 := cutN_le (Nn k) (wd (Wd k))
        go_wp2_with fail
        go_region_held3 (fun w' => w'.cell? ⟨wr.heap.size, 1, none⟩ = some (.int .i64 (Wd k)) ∧ w'.cell? ⟨wr.heap.size, 2, none⟩ = some (.int .u64 (Nn k))) (go_keep)
          (first
            | (go_at_call 12; refine (width_any (Wd k) _ w1 w2).mono ?_; rintro e w' ⟨rfl, rfl⟩)
            | (go_at_call 11; refine (cut_any (Nn k) (wd (Wd k)) _ n1 p1 p2).mono ?_; rintro e w' ⟨rfl, rfl⟩)
            | (go_at_call 10; refine (putFixed_ok s _ (wd (Wd k)) _ ?_ ?_ p1 p2 ?_ ?_).mono ?_; omega; omega; (rw [Int.toNat_natCast]; exact cutN_lt _ _); omega; rintro e w5 ⟨rfl, h5⟩; have f1 := h5.cell (p := ⟨wr.heap.size, 1, none⟩) (by simp); have f2 := h5.cell (p := ⟨wr.heap.size, 2, none⟩) (by simp)))
        clear f1 f2
        go_wp2
        go_roundw
        case rel => exact ⟨k + 1, _, by omega, by omega, by go_num, rfl, by rw [append_size, sb_size, fixN_length]; omega, enc_next1 HE.out HK.out, bel_drew hbel hbel.size h5⟩
        case measure => simp [intOf]; omega
      · have e1 : ((K k).tmod 3 == 1) = false := by simp [hk1]
        have HK : Hid (¬ (K k).tmod 3 = 1) := hk1
        clear hk1
        by_cases hk2 : (K k).tmod 3 = 2
        · have e2 : ((K k).tmod 3 == 2) = true := by simp [hk2]
          have HK2 : Hid ((K k).tmod 3 = 2) := hk2
          clear hk2
          go_wp2_with (go_at_call 13; refine (putText_any s (T k) _ ?_ t1).mono ?_; omega; rintro e w5 ⟨rfl, h5⟩)
          go_roundw
          case rel =>
            have hb10 := slen_le (T k).size (by omega)
            exact ⟨k + 1, _, by omega, by omega, by go_num, rfl, by rw [append_size, append_size, sb_size, encS_length]; omega, enc_next2 HE.out HK.out HK2.out, bel_plain hbel hbel.size h5⟩
          case measure => simp [intOf]; omega
        · have e2 : ((K k).tmod 3 == 2) = false := by simp [hk2]
          have HK2 : Hid (¬ (K k).tmod 3 = 2) := hk2
          clear hk2
          go_wp2_with (go_at_call 14; refine (put_any s (Nn k) _ ?_ ?_ ?_).mono ?_; omega; omega; omega; rintro e w5 ⟨rfl, h5⟩)
          go_roundw
          case rel =>
            have hb10 := slen_le (Nn k) (by omega)
            exact ⟨k + 1, _, by omega, by omega, by go_num, rfl, by rw [append_size, sb_size, encS_length]; omega, enc_next3 HE.out HK.out HK2.out, bel_plain hbel hbel.size h5⟩
          case measure => simp [intOf]; omega
    · have hbs : s.size ≤ 70000000000000000 := by omega
      have HE2 : Hid (s = encR K Wd Nn T 0 k) := by rw [HE.out]; exact encAll_encR K Wd Nn T k
      have HX : Hid (¬ (k < len ∧ k < 300)) := hlt
      clear hlt HE hsz
      obtain ⟨wo, hwo⟩ : ∃ wo : World, wo = wr := ⟨_, rfl⟩
      subst hwo
      have hz0 := hbel.size
      have hcase : (k < len ∧ 300 ≤ k) ∨ ¬ k < len := by have := HX.out; omega
      rcases hcase with ⟨hkl, hk3⟩ | hkl
      all_goals go_wp2_with fail
      all_goals
        refine (new_any s wo).mono ?_
        rintro e w9 ⟨rfl, rfl⟩
        go_wp2_with fail
        go_loopw [9] (fun v wr => ∃ (j : Nat) (r : ByteArray), j ≤ k ∧ v = .int .i64 j ∧ r.size ≤ 70000000000000000 ∧ Hid (r = encR K Wd Nn T j (k - j)) ∧ wr.cell? ⟨wo.heap.size, 0, none⟩ = some (.string r) ∧ wr.frozen? ⟨wo.heap.size, 0, none⟩ = false ∧ wo.heap.size < wr.heap.size ∧ Below wo.heap.size wo wr) (fun v _ => 300 - (intOf v).toNat)
        case atStart => exact ⟨0, s, by omega, rfl, hbs, HE2, al_ptr _ _ _, by simp, by simp, (Below.refl _ _).alloc (Nat.le_refl _) _⟩
        case round =>
          obtain ⟨j, r, hj, rfl, hrs, HR, hrc, hrf, hrz, hrb⟩ := hrel
          have hrm : r.size ≤ maxLen := by unfold maxLen; omega
          by_cases hjk : j < k
          · obtain ⟨b, off, rfl, hb, c0, c1, c2, c3⟩ := HL.out j (by omega)
            have hbw : Below w.heap.size w wr := hbel.trans (hrb.mono hz0)
            have d0 := (hbw.cell (p := ⟨b, off + j * 4, none⟩) hb).trans c0
            have d1 := (hbw.cell (p := ⟨b, off + j * 4 + 1, none⟩) hb).trans c1
            have d2 := (hbw.cell (p := ⟨b, off + j * 4 + 2, none⟩) hb).trans c2
            have d3 := (hbw.cell (p := ⟨b, off + j * 4 + 3, none⟩) hb).trans c3
            clear c0 c1 c2 c3
            obtain ⟨w1, w2⟩ := HW.out j (by omega)
            have n1 := HN.out j (by omega)
            have t1 := HT.out j (by omega)
            obtain ⟨r', hr'⟩ : ∃ x, x = encR K Wd Nn T (j + 1) (k - (j + 1)) := ⟨_, rfl⟩
            have HR' : Hid (r' = encR K Wd Nn T (j + 1) (k - (j + 1))) := hr'
            have HS : Hid (r = encT K Wd Nn T j ++ r') := by rw [HR.out, hr']; exact encR_step K Wd Nn T j k hjk
            clear hr'
            by_cases hk1 : (K j).tmod 3 = 1
            · have e1 : ((K j).tmod 3 == 1) = true := by simp [hk1]
              have HK : Hid ((K j).tmod 3 = 1) := hk1
              clear hk1
              have p1 := wd_pos (Wd j)
              have p2 := wd_le (Wd j)
              have hfr := (al_frozen (w := wr) (.cells #[.int .i64 (K j), .int .i64 (Wd j), .int .u64 (Nn j), .string (T j)] 37) hrz hrf)
              have hcr := (al_cell (w := wr) (.cells #[.int .i64 (K j), .int .i64 (Wd j), .int .u64 (Nn j), .string (T j)] 37) hrz hrc)
              go_wp2_with fail
              refine (width_any (Wd j) _ w1 w2).mono ?_
              rintro e w' ⟨rfl, hw⟩
              subst hw
              go_wp2_with fail
              refine (fixed_front r r' (wd (Wd j)) (cutN (Nn j) (wd (Wd j))) wo.heap.size _ hfr (by simp; omega) hrm hcr p1 p2 (cutN_lt _ _) (by rw [HS.out, encT, if_pos HK.out])).mono ?_
              rintro e w5 ⟨rfl, h5⟩
              have f1 : w5.cell? ⟨wr.heap.size, 1, none⟩ = some (.int .i64 (Wd j)) := by rw [h5.other wr.heap.size 1 (by simp) (by omega)]; simp
              have f2 : w5.cell? ⟨wr.heap.size, 2, none⟩ = some (.int .u64 (Nn j)) := by rw [h5.other wr.heap.size 2 (by simp) (by omega)]; simp
              have hne : ((cutN (Nn j) (wd (Wd j)) : Int) != (cutN (Nn j) (wd (Wd j)) : Int)) = false := by simp
              clear hfr hcr d0 d1 d2 d3
              go_wp2_with fail
              go_region_held3 (fun w' => w'.cell? ⟨wr.heap.size, 1, none⟩ = some (.int .i64 (Wd j)) ∧ w'.cell? ⟨wr.heap.size, 2, none⟩ = some (.int .u64 (Nn j))) (go_keep)
                (first
                  | (go_at_call 12; refine (width_any (Wd j) _ w1 w2).mono ?_; rintro e w' ⟨rfl, rfl⟩)
                  | (go_at_call 11; refine (cut_any (Nn j) (wd (Wd j)) _ n1 p1 p2).mono ?_; rintro e w' ⟨rfl, rfl⟩))
              go_wp2
              go_roundw
              case rel => exact ⟨j + 1, _, by omega, by go_num, (back_size HS.out hrs), HR', back_rel hrz hrb h5.drew⟩
              case measure => simp [intOf]; omega
            · have e1 : ((K j).tmod 3 == 1) = false := by simp [hk1]
              have HK : Hid (¬ (K j).tmod 3 = 1) := hk1
              clear hk1
              have hfr := (al_frozen (w := wr) (.cells #[.int .i64 (K j), .int .i64 (Wd j), .int .u64 (Nn j), .string (T j)] 37) hrz hrf)
              have hcr := (al_cell (w := wr) (.cells #[.int .i64 (K j), .int .i64 (Wd j), .int .u64 (Nn j), .string (T j)] 37) hrz hrc)
              by_cases hk2 : (K j).tmod 3 = 2
              · have e2 : ((K j).tmod 3 == 2) = true := by simp [hk2]
                have HK2 : Hid ((K j).tmod 3 = 2) := hk2
                clear hk2
                go_wp2_with fail
                refine (text_front r (T j) r' wo.heap.size _ hfr (by simp; omega) hrm hcr (by rw [HS.out, encT, if_neg HK.out, if_pos HK2.out])).mono ?_
                rintro e w5 ⟨rfl, h5⟩
                have f3 : w5.cell? ⟨wr.heap.size, 3, none⟩ = some (.string (T j)) := by rw [h5.other wr.heap.size 3 (by simp) (by omega)]; simp
                clear hfr hcr d0 d1 d2 d3
                go_wp2
                go_roundw
                case rel => exact ⟨j + 1, _, by omega, by go_num, (back_size HS.out hrs), HR', back_rel hrz hrb h5⟩
                case measure => simp [intOf]; omega
              · have e2 : ((K j).tmod 3 == 2) = false := by simp [hk2]
                have HK2 : Hid (¬ (K j).tmod 3 = 2) := hk2
                clear hk2
                go_wp2_with fail
                refine (left_any r wo.heap.size _ hrm hcr).mono ?_
                rintro e w4 ⟨rfl, hw⟩
                subst hw
                go_wp2_with fail
                refine (uint_front r r' (Nn j) wo.heap.size _ hfr (by simp; omega) hrm hcr (by omega) (by rw [HS.out, encT, if_neg HK.out, if_neg HK2.out])).mono ?_
                rintro e w5 ⟨rfl, h5⟩
                have f2 : w5.cell? ⟨wr.heap.size, 2, none⟩ = some (.int .u64 (Nn j)) := by rw [h5.other wr.heap.size 2 (by simp) (by omega)]; simp
                clear hfr hcr d0 d1 d2 d3
                have hsz' : r.size = slen (Nn j) + r'.size := by
                  have e := HS.out
                  rw [encT, if_neg HK.out, if_neg HK2.out] at e
                  rw [app_size e, sb_size, encS_length]
                have hq : ((r.size : Int) - r'.size != (slen (Nn j) : Int)) = false := by rw [bne_eq_false_iff_eq]; omega
                have HZ : Hid (r.size = slen (Nn j) + r'.size) := hsz'
                have hrs' : r'.size ≤ 70000000000000000 := by omega
                clear hsz'
                have hrm' : r'.size ≤ maxLen := by unfold maxLen; omega
                go_wp2_with fail
                refine (left_any r' wo.heap.size _ hrm' h5.cell).mono ?_
                rintro e w4 ⟨rfl, hw⟩
                subst hw
                go_wp2_with fail
                refine (len_any (Nn j) _ (by omega) (by omega)).mono ?_
                rintro e w4 ⟨rfl, hw⟩
                subst hw
                rw [Int.toNat_natCast]
                go_wp2
                go_roundw
                case rel => exact ⟨j + 1, _, by omega, by go_num, (back_size HS.out hrs), HR', back_rel hrz hrb h5⟩
                case measure => simp [intOf]; omega
          · have hjk' : j = k := by omega
            have hr0 : r = ⟨#[]⟩ := by rw [HR.out, hjk', Nat.sub_self]; rfl
            subst hr0
            go_wp2_with fail
            refine (end_any ⟨#[]⟩ wo.heap.size _ (by decide) hrc).mono ?_
            rintro e w4 ⟨rfl, hw⟩
            subst hw
            rw [show endE ⟨#[]⟩ = 0 from by decide]
            go_wp2_with fail
            refine (left_any ⟨#[]⟩ wo.heap.size _ (by decide) hrc).mono ?_
            rintro e w4 ⟨rfl, hw⟩
            subst hw
            rw [show ((⟨#[]⟩ : ByteArray).size : Int) = 0 from by decide]
            go_wp2_with fail
            refine (awake_any _).mono ?_
            rintro e w6 ⟨rfl, h6⟩
            go_wp2
            go_ret
            exact ⟨rfl, (hbel.trans (hrb.mono hz0)).trans (h6.mono (by omega))⟩
end Go.Proofs.Ytehbgkbnbaogoaa
