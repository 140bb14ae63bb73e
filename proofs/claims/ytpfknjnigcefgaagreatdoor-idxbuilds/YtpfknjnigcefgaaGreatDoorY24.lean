import Derived.Test.YtpfknjnigcefgaaGreatDoorY23
import Derived.Test.YtpfknjnigcefgaaGreatDoorY11
import Derived.Test.YtpfknjnigcefgaaGreatDoorY12
import Derived.Test.YtpfknjnigcefgaaGreatDoorY3
import Derived.Test.YtpfknjnigcefgaaGreatDoorY6
/- The walk of frame.Unframe. -/
namespace Go.Proofs.YtpfknjnigcefgaaGreatDoor
open Go.RowKit
set_option linter.unusedSimpArgs false
set_option linter.unusedVariables false
theorem ret_uf {a b : ByteArray} {c : Int} {s : ByteArray} (h : ufP s = a ∧ ufR s = b ∧ ufE s = c) : Ending.returned (.tuple #[.string a, .string b, .int .i64 c]) = .returned (.tuple #[.string (ufP s), .string (ufR s), .int .i64 (ufE s)]) := by rw [h.1, h.2.1, h.2.2]
theorem uf_short {s : ByteArray} (h : s.size < 8) : ufB s = false := by
  rw [Bool.eq_false_iff]; intro h2; rw [ufB_iff] at h2; omega
theorem uf_long {s : ByteArray} (h : 67108864 < ufn s) : ufB s = false := by
  rw [Bool.eq_false_iff]; intro h2; rw [ufB_iff] at h2; omega
theorem uf_cut {s : ByteArray} (h : s.size < 8 + ufn s) : ufB s = false := by
  rw [Bool.eq_false_iff]; intro h2; rw [ufB_iff] at h2; omega
theorem uf_crc {s : ByteArray} (h : (crcC ((bl s).take 4 ++ ((bl s).drop 8).take (ufn s))).toNat ≠ fixV (((bl s).drop 4).take 4)) : ufB s = false := by
  rw [Bool.eq_false_iff]; intro h2; rw [ufB_iff] at h2; exact h h2.2.2.2
theorem fixV4_lt (l : List UInt8) : fixV (l.take 4) < 4294967296 := by
  have h := fixV_lt (l.take 4)
  have h2 : 256 ^ (l.take 4).length ≤ 256 ^ 4 := Nat.pow_le_pow_right (by omega) (List.length_take_le _ _)
  omega
theorem ufn_lt (s : ByteArray) : ufn s < 4294967296 := fixV4_lt _
set_option maxHeartbeats 400000 in
theorem unframe_4 (s : ByteArray) (w : World) (hs : s.size < 4) :
    Calls Tryz.prog 131 #[.string s] w fun e w' => e = .returned (.tuple #[.string (ufP s), .string (ufR s), .int .i64 (ufE s)]) ∧ Below w.heap.size w w' := by
  go_enter Tryz.func131, Tryz.ntmps131
  go_wp2_with fail
  refine (new_any _ _).mono ?_
  rintro e w1 ⟨rfl, rfl⟩
  go_wp2_with fail
  refine (fixed_no s w.heap.size _ (by unfold maxLen; omega) (al_ptr _ _ _) (by simp) (by simp) 4 (by omega) (by omega) (by omega)).mono ?_
  rintro e w2 ⟨rfl, h2⟩
  go_wp2
  go_ret3
  exact ⟨ret_uf (uf_no (uf_short (by omega))), ((Below.refl _ _).alloc (Nat.le_refl _) _).trans (h2.below (Nat.le_refl _) (by simp))⟩
theorem ext_size (s : ByteArray) (a : Nat) (h : a ≤ s.size) : (s.extract a s.size).size = s.size - a := by simp
theorem bl_drop (s : ByteArray) (a : Nat) : bl (s.extract a s.size) = (bl s).drop a := by
  rw [bl_extract, List.take_of_length_le (by rw [bl_length]; exact Nat.le_refl _)]
set_option maxHeartbeats 1000000 in
theorem unframe_8 (s : ByteArray) (w : World) (hm : s.size ≤ maxLen) (hs : 4 ≤ s.size) :
    Calls Tryz.prog 131 #[.string s] w fun e w' => e = .returned (.tuple #[.string (ufP s), .string (ufR s), .int .i64 (ufE s)]) ∧ Below w.heap.size w w' := by
  have hm' := hm
  unfold maxLen at hm'
  obtain ⟨n, hn⟩ : ∃ n, n = ufn s := ⟨_, rfl⟩
  have HN : Hid (n = ufn s) := hn
  have hnl : n < 4294967296 := by rw [hn]; exact ufn_lt s
  clear hn
  obtain ⟨r1, hr1⟩ : ∃ r, r = s.extract 4 s.size := ⟨_, rfl⟩
  have HR1 : Hid (r1 = s.extract 4 s.size) := hr1
  have HZ1 : Hid (r1.size = s.size - 4) := by rw [hr1]; exact ext_size s 4 hs
  clear hr1
  go_enter Tryz.func131, Tryz.ntmps131
  go_wp2_with fail
  refine (new_any _ _).mono ?_
  rintro e w1 ⟨rfl, rfl⟩
  go_wp2_with fail
  refine (fixed_ok s w.heap.size _ hm (al_ptr _ _ _) (by simp) (by simp) 4 (by omega) (by omega) (by omega)).mono ?_
  rintro e w2 ⟨rfl, h2⟩
  rw [show fixV ((bl s).take 4) = n from HN.out.symm]
  rw [← HR1.out] at h2
  have H2 : Hid (Step w.heap.size (w.alloc (.cells #[.string s] 167)) w2 r1) := h2
  have HB2 : Hid (Below w.heap.size w w2) := ((Below.refl _ _).alloc (Nat.le_refl _) _).trans (h2.below (Nat.le_refl _) (by simp))
  have hz2 : w.heap.size < w2.heap.size := by have := h2.size; simp at this; omega
  clear h2
  by_cases hbig : 67108864 < n
  · go_wp2
    go_ret3
    exact ⟨ret_uf (uf_no (uf_long (by rw [← HN.out]; exact hbig))), HB2.out⟩
  have hn26 : (n : Int) ≤ 67108864 := by omega
  clear hbig
  go_wp2_with fail
  by_cases h8 : s.size < 8
  · refine (fixed_no r1 w.heap.size _ (by rw [HZ1.out]; unfold maxLen; omega) H2.out.cell H2.out.frozen hz2 4 (by omega) (by omega) (by rw [HZ1.out]; omega)).mono ?_
    rintro e w3 ⟨rfl, h3⟩
    have HB3 : Hid (Below w.heap.size w w3) := HB2.out.trans (h3.below (Nat.le_refl _) (by omega))
    clear h3
    go_wp2
    go_ret3
    exact ⟨ret_uf (uf_no (uf_short (by omega))), HB3.out⟩
  have h8' : 8 ≤ s.size := by omega
  clear h8
  obtain ⟨r2, hr2⟩ : ∃ r, r = s.extract 8 s.size := ⟨_, rfl⟩
  have HR2 : Hid (r2 = s.extract 8 s.size) := hr2
  have HZ2 : Hid (r2.size = s.size - 8) := by rw [hr2]; exact ext_size s 8 h8'
  clear hr2
  obtain ⟨cv, hcv⟩ : ∃ cv, cv = fixV (((bl s).drop 4).take 4) := ⟨_, rfl⟩
  have HC : Hid (cv = fixV (((bl s).drop 4).take 4)) := hcv
  have hcl : cv < 4294967296 := by rw [hcv]; exact fixV4_lt _
  clear hcv
  refine (fixed_ok r1 w.heap.size _ (by rw [HZ1.out]; unfold maxLen; omega) H2.out.cell H2.out.frozen hz2 4 (by omega) (by omega) (by rw [HZ1.out]; omega)).mono ?_
  rintro e w3 ⟨rfl, h3⟩
  rw [show fixV ((bl r1).take 4) = cv from by rw [HC.out, HR1.out, bl_drop]]
  rw [show r1.extract 4 r1.size = r2 from by apply bl_inj; rw [bl_drop, HR1.out, HR2.out, bl_drop, bl_drop, List.drop_drop]] at h3
  have H3 : Hid (Step w.heap.size w2 w3 r2) := h3
  have HB3 : Hid (Below w.heap.size w w3) := HB2.out.trans (h3.below (Nat.le_refl _) (by omega))
  have hz3 : w.heap.size < w3.heap.size := by have := h3.size; omega
  clear h3
  go_wp2_with fail
  by_cases hcut : s.size < 8 + n
  · refine (take_no r2 w.heap.size _ (by rw [HZ2.out]; unfold maxLen; omega) H3.out.cell H3.out.frozen hz3 n (by rw [HZ2.out]; omega) (by omega)).mono ?_
    rintro e w4 ⟨rfl, h4⟩
    have HB4 : Hid (Below w.heap.size w w4) := HB3.out.trans (h4.below (Nat.le_refl _) (by omega))
    clear h4
    go_wp2
    go_ret3
    exact ⟨ret_uf (uf_no (uf_cut (by rw [← HN.out]; exact hcut))), HB4.out⟩
  have hcut' : 8 + n ≤ s.size := by omega
  clear hcut
  obtain ⟨p, hp⟩ : ∃ p, p = r2.extract 0 n := ⟨_, rfl⟩
  have HPb : Hid (bl p = ((bl s).drop 8).take n) := by rw [hp, bl_extract, List.drop_zero, HR2.out, bl_drop]; rfl
  have HPz : Hid (p.size = n) := by show p.size = n; rw [← bl_length, HPb.out, List.length_take, List.length_drop, bl_length]; omega
  have hpz : p.size ≤ 67108864 := by rw [HPz.out]; omega
  refine (take_ok r2 w.heap.size _ (by rw [HZ2.out]; unfold maxLen; omega) H3.out.cell H3.out.frozen hz3 n (by rw [HZ2.out]; omega)).mono ?_
  rintro e w4 ⟨rfl, h4⟩
  rw [← hp]
  clear hp
  have HB4 : Hid (Below w.heap.size w w4) := HB3.out.trans (h4.below (Nat.le_refl _) (by omega))
  have hz4 : w.heap.size < w4.heap.size := by have := h4.size; omega
  clear h4
  go_wp2_with fail
  refine (fsum_any _ p _ (by unfold maxLen; simp; omega) (by unfold maxLen; omega)).mono ?_
  rintro e w5 ⟨rfl, h5⟩
  have HB5 : Hid (Below w.heap.size w w5) := HB4.out.trans (h5.mono (by omega))
  clear h5
  obtain ⟨q, hq⟩ : ∃ q : BitVec 32, q = crcC (bl (s.extract 0 4) ++ bl p) := ⟨_, rfl⟩
  rw [← hq]
  have HQ : Hid (q.toNat = (crcC ((bl s).take 4 ++ ((bl s).drop 8).take (ufn s))).toNat) := by
    show q.toNat = _
    rw [hq, HPb.out, HN.out, extract_take s 4 hs]
  have hlt := q.isLt
  clear hq
  have hps : 8 + p.size ≤ s.size := by rw [HPz.out]; exact hcut'
  by_cases hne : q.toNat = cv
  · have hb : ((q.toNat : Int) != (cv : Int)) = false := by rw [bne_eq_false_iff_eq]; omega
    have HE : Hid (q.toNat = cv) := hne
    clear hne
    go_wp2
    go_region
    go_wp2
    go_ret3
    have hok : ufB s = true := by
      rw [ufB_iff, ← HN.out]
      refine ⟨h8', by omega, hcut', ?_⟩
      rw [HN.out, ← HQ.out, ← HC.out]; exact HE.out
    refine ⟨ret_uf ?_, ?_⟩
    · obtain ⟨a, b, c⟩ := uf_yes hok
      refine ⟨?_, ?_, c⟩
      · rw [a]
        apply bl_inj
        rw [HPb.out, bl_extract, List.drop_take, Nat.add_sub_cancel_left, HN.out]
      · rw [b, ← HN.out, HPz.out]
    · exact HB5.out.drew
  · have hb : ((q.toNat : Int) != (cv : Int)) = true := by rw [bne_iff_ne]; omega
    have HE : Hid (¬ q.toNat = cv) := hne
    clear hne
    go_wp2
    go_ret3
    exact ⟨ret_uf (uf_no (uf_crc (by rw [← HQ.out, ← HC.out]; exact HE.out))), HB5.out⟩
theorem unframe_any (s : ByteArray) (w : World) (hm : s.size ≤ maxLen) :
    Calls Tryz.prog 131 #[.string s] w fun e w' => e = .returned (.tuple #[.string (ufP s), .string (ufR s), .int .i64 (ufE s)]) ∧ Below w.heap.size w w' := by
  by_cases h : s.size < 4
  · exact unframe_4 s w h
  · exact unframe_8 s w hm (by omega)
end Go.Proofs.YtpfknjnigcefgaaGreatDoor
/- wire.Len. -/
namespace Go.Proofs.YtpfknjnigcefgaaGreatDoor
open Go.RowKit
set_option linter.unusedSimpArgs false
set_option linter.unusedVariables false
set_option maxHeartbeats 400000 in
theorem len_any (x : Int) (w : World) (h0 : 0 ≤ x) (h1 : x ≤ 18446744073709551615) :
    Calls Tryz.prog 134 #[.int .u64 x] w fun e w' => e = .returned (.int .i64 (slen x.toNat)) ∧ w' = w := by
  have hb := bitLen_le64 x.toNat (by omega)
  go_enter Tryz.func134, Tryz.ntmps134
  go_wp2_with (go_at_call 100; refine (len64_any x _ h0 h1).mono ?_; rintro e w' ⟨rfl, rfl⟩)
  all_goals go_ret
  all_goals refine ⟨ret_int ?_, rfl⟩
  all_goals unfold slen
  all_goals omega
end Go.Proofs.YtpfknjnigcefgaaGreatDoor
/- The walks of wire.Put, PutText, PutFixed: what each returns; nothing that was there has turned. -/
namespace Go.Proofs.YtpfknjnigcefgaaGreatDoor
open Go.RowKit
set_option linter.unusedSimpArgs false
set_option linter.unusedVariables false
theorem slice10 (a : Addr) (h : Int) (h0 : 0 ≤ h) (h2 : h ≤ 10) (w : World) :
    (Instr.sliceAt 187 (.pointer (some a)) none (some (.int .i64 h)) none).run Tryz.prog w = .ok (.slice (some a) h.toNat 10) w := by
  have e1 : Tryz.prog.elem 187 = 5 := by kernel_rfl
  have e2 : Tryz.prog.arrayLen 187 = 10 := by kernel_rfl
  have e0 : Tryz.prog.underlying 187 = some (.array (Tryz.prog.arrayLen 187) (Tryz.prog.elem 187)) := by kernel_rfl
  rw [run_sliceAt_array_h (P := Tryz.prog) w 187 a e0 .i64 h h0 (by rw [e2]; exact h2)]
  rw [e1, e2, sizeOf_u8]
  simp [slicedAt, Result.andThen, Addr.add]
theorem put_next (n k : Nat) (arr : Array Value) (b : Int) (hk : k < 9) (hsz : arr.size = 10) (hall : ∀ j, j < 10 → ∃ z, arr[j]? = some (.int .u8 z))
    (harr : ∀ j, j < k → arr[j]? = some (.int .u8 (n / 128 ^ j % 128 + 128 : Nat))) (hb : b = (n / 128 ^ k % 128 + 128 : Nat)) :
    (arr.setIfInBounds k (.int .u8 b)).size = 10 ∧ (∀ j, j < 10 → ∃ z, (arr.setIfInBounds k (.int .u8 b))[j]? = some (.int .u8 z)) ∧
      ∀ j, j < k + 1 → (arr.setIfInBounds k (.int .u8 b))[j]? = some (.int .u8 (n / 128 ^ j % 128 + 128 : Nat)) := by
  refine ⟨by simp [hsz], fun j hj => ?_, fun j hj => ?_⟩
  · rw [Array.getElem?_setIfInBounds]
    split
    · exact ⟨b, by simp [hsz]; omega⟩
    · exact hall j hj
  · rw [Array.getElem?_setIfInBounds]
    split
    · rename_i e; subst e; rw [if_pos (by omega), hb]
    · exact harr j (by omega)
theorem put_conv (n k : Nat) (arr : Array Value) (w : World) (T : TypeId) (hk : k ≤ 9) (hsz : arr.size = 10) (hsl : slen n = k + 1) (hn : n < 2 ^ 64)
    (harr : ∀ j, j < k → arr[j]? = some (.int .u8 (n / 128 ^ j % 128 + 128 : Nat))) :
    (convert 82 9 (.slice (some ⟨w.heap.size, 0, none⟩) (k + 1) 10)).run Tryz.prog (w.alloc (.cells (arr.setIfInBounds k (.int .u8 ((n / 128 ^ k : Nat) % 256))) T)) =
      .ok (.string (sb (encS n))) (w.alloc (.cells (arr.setIfInBounds k (.int .u8 ((n / 128 ^ k : Nat) % 256))) T)) := by
  have he : encS n = encN k n := by unfold encS; rw [hsl]; rfl
  rw [he, ← sb_nums]
  refine run_convert_bytes_arg _ 82 5 Tryz.underlying82 Tryz.underlying5 _ 0 (k + 1) 10 _ (by simp [encN_length]) (fun i hi => ?_) 9 Tryz.underlying9
  have hh := slen_hi n hn
  rw [hsl, Nat.pow_succ] at hh
  have hl : n / 128 ^ k < 128 := by rw [Nat.div_lt_iff_lt_mul (Nat.pow_pos (by omega))]; rw [Nat.mul_comm]; exact hh
  rw [Nat.zero_add]
  rw [World.cell?_alloc_new, Array.getElem?_setIfInBounds, List.getD, List.getElem?_map]
  by_cases e : k = i
  · subst e
    rw [if_pos rfl, if_pos (by omega), encN_last]
    simp only [Option.map_some, Option.getD_some]
    congr 2
    show ((n / 128 ^ k : Nat) : Int) % 256 = ((n / 128 ^ k : Nat) : Int)
    generalize n / 128 ^ k = q at hl
    omega
  · rw [if_neg e, encN_get k n i (by omega), harr i (by omega)]
    rfl
set_option maxHeartbeats 400000 in
theorem put_any (s : ByteArray) (x : Int) (w : World) (h0 : 0 ≤ x) (h1 : x ≤ 18446744073709551615) (hs : s.size ≤ 4611686018427387904) :
    Calls Tryz.prog 110 #[.string s, .int .u64 x] w fun e w' => e = .returned (.string (s ++ sb (encS x.toNat))) ∧ Below w.heap.size w w' := by
  have hl1 := slen_pos x.toNat
  have hl2 := slen_le x.toNat (by omega)
  obtain ⟨n, hn⟩ : ∃ n, n = x.toNat := ⟨_, rfl⟩
  have HN : Hid (n = x.toNat) := hn
  clear hn
  go_enter Tryz.func110, Tryz.ntmps110
  go_wp2_with (go_at_call 134; refine (len_any x _ h0 h1).mono ?_; rintro e w' ⟨rfl, rfl⟩)
  go_loopw [1, 12] (fun v i wr => ∃ (k y : Nat) (arr : Array Value), k ≤ slen x.toNat - 1 ∧ i = .int .i64 k ∧ v = .int .u64 y ∧ y < 2 ^ 64 ∧ wr = w.alloc (.cells arr 187) ∧ Hid (y = n / 128 ^ k ∧ arr.size = 10 ∧ (∀ j, j < 10 → ∃ z, arr[j]? = some (.int .u8 z)) ∧ ∀ j, j < k → arr[j]? = some (.int .u8 (n / 128 ^ j % 128 + 128 : Nat)))) (fun _ i _ => 10 - (intOf i).toNat)
  case atStart =>
    refine ⟨0, x.toNat, _, Nat.zero_le _, rfl, by go_num, by omega, rfl, ⟨by simp [HN.out], by simp, fun j hj => ?_, fun j hj => by omega⟩⟩
    refine ⟨0, ?_⟩
    rw [show (#[Value.int .u8 0, Value.int .u8 0, Value.int .u8 0, Value.int .u8 0, Value.int .u8 0, Value.int .u8 0, Value.int .u8 0, Value.int .u8 0, Value.int .u8 0, Value.int .u8 0] : Array Value) = Array.replicate 10 (Value.int .u8 0) from rfl]
    simp [hj]
  case round =>
    obtain ⟨k, y, arr, hk, rfl, rfl, hy, rfl, HR⟩ := hrel
    by_cases hlt : k < slen x.toNat - 1
    · obtain ⟨z, hz⟩ := HR.out.2.2.1 k (by omega)
      go_wp2
      go_roundw
      case rel => 
        obtain ⟨hy, a1, a2, a3⟩ := HR.out
        refine ⟨k + 1, y / 128, _, by omega, by go_num, by go_num, by omega, rfl, ⟨?_, ?_⟩⟩
        · rw [hy, Nat.div_div_eq_div_mul, Nat.pow_succ]
        · exact put_next n k arr _ (by omega) a1 a2 a3 (by rw [u8_or_128, hy])
      case measure => simp [intOf]; omega
    · obtain ⟨z, hz⟩ := HR.out.2.2.1 k (by omega)
      have hke : (slen x.toNat : Int) - 1 = k := by omega
      have hc := put_conv n k arr w 187 (by omega) HR.out.2.1 (by rw [HN.out]; omega) (by rw [HN.out]; omega) HR.out.2.2.2
      rw [← HR.out.1] at hc
      have hsl := slice10 ⟨w.heap.size, 0, none⟩ ((k : Int) + 1) (by omega) (by omega)
      have hsb : (sb (encS n)).size ≤ 10 := by rw [sb_size, encS_length, HN.out]; exact hl2
      go_wp2
      go_ret
      exact ⟨ret_str (by rw [HN.out]), by go_grown⟩
end Go.Proofs.YtpfknjnigcefgaaGreatDoor
/- Plain facts of packs: objects, records, the trailer, where records stand; no program in sight. -/
namespace Go.Proofs.YtpfknjnigcefgaaGreatDoor
set_option linter.unusedSimpArgs false
set_option linter.unusedVariables false
open Go
/-- An object. -/
structure Ob where
  k : UInt8
  p : ByteArray
/-- An entry. -/
structure Ent where
  id : ByteArray
  k : UInt8
  off : Nat
  sz : Nat
def okO (o : Ob) : Bool := decide (1 ≤ o.k.toNat ∧ o.k.toNat ≤ 5 ∧ o.p.size ≤ 2097152)
theorem okO_iff (o : Ob) : okO o = true ↔ 1 ≤ o.k.toNat ∧ o.k.toNat ≤ 5 ∧ o.p.size ≤ 2097152 := by simp [okO]
/-- A record's payload, the record, the trailer, an object's name. -/
def obB (o : Ob) : ByteArray := ⟨#[o.k]⟩ ++ o.p
def recO (o : Ob) : ByteArray := frm (obB o)
def trB (n : Nat) : ByteArray := ⟨#[0]⟩ ++ sb (encS n)
def trl (n : Nat) : ByteArray := frm (trB n)
def nmO (o : Ob) : ByteArray := sb (sha (whl o.k.toNat o.p))
theorem obB_size (o : Ob) : (obB o).size = 1 + o.p.size := by rw [obB, ByteArray.size_append]; rfl
theorem recO_size (o : Ob) : (recO o).size = 9 + o.p.size := by rw [recO, frm_size, obB_size]; omega
theorem bl_obB (o : Ob) : bl (obB o) = o.k :: bl o.p := by rw [obB, bl_append]; rfl
theorem bl_trB (n : Nat) : bl (trB n) = 0 :: by8 (encS n) := by rw [trB, bl_append]; rfl
/-- What stands from a place on. -/
def frmO (s : ByteArray) (a : Nat) : ByteArray := s.extract a s.size
theorem bl_frmO (s : ByteArray) (a : Nat) : bl (frmO s a) = (bl s).drop a := by
  rw [frmO, bl_extract, List.take_of_length_le (by rw [bl_length]; exact Nat.le_refl _)]
theorem frmO_size (s : ByteArray) (a : Nat) : (frmO s a).size = s.size - a := by
  rw [← bl_length, bl_frmO, List.length_drop, bl_length]
/-- The object whose record stands at the front. -/
def atO (s : ByteArray) : Ob := ⟨(bl (ufP s)).headD 0, frmO (ufP s) 1⟩
def atB (s : ByteArray) : Bool := ufB s && decide (0 < (ufP s).size) && okO (atO s)
theorem atB_iff (s : ByteArray) : atB s = true ↔ ufB s = true ∧ 0 < (ufP s).size ∧ okO (atO s) = true := by
  simp [atB, Bool.and_eq_true, and_assoc]
theorem bl_ob_eq {s : ByteArray} {k : UInt8} {p : ByteArray} (h : ufP s = ⟨#[k]⟩ ++ p) : atO s = ⟨k, p⟩ := by
  have e : bl (ufP s) = k :: bl p := by rw [h, bl_append]; rfl
  unfold atO
  rw [e]
  have : frmO (ufP s) 1 = p := by apply bl_inj; rw [bl_frmO, e]; rfl
  rw [this]; rfl
theorem ob_at {s : ByteArray} (h : 0 < (ufP s).size) : obB (atO s) = ufP s := by
  apply bl_inj
  rw [bl_obB]
  have h2 : 0 < (bl (ufP s)).length := by rw [bl_length]; exact h
  unfold atO
  rw [bl_frmO]
  cases hb : bl (ufP s) with
  | nil => rw [hb] at h2; simp at h2
  | cons a r => simp
/-- What opens with a record. -/
theorem at_rec (o : Ob) (s t : ByteArray) (hs : s = recO o ++ t) (ho : okO o = true) : atB s = true ∧ atO s = o ∧ ufR s = t := by
  have hz := (okO_iff o).1 ho
  obtain ⟨h1, h2, h3⟩ := frame_uf (obB o) s t hs (by rw [obB_size]; omega)
  have e : atO s = o := bl_ob_eq (k := o.k) (p := o.p) h2
  refine ⟨?_, e, h3⟩
  rw [atB_iff]
  exact ⟨h1, by rw [h2, obB_size]; omega, by rw [e]; exact ho⟩
theorem encS_le (n : Nat) (h : n < 2 ^ 64) : (encS n).length ≤ 10 := by
  rw [encS_length]
  exact slen_le n h
theorem trB_size (n : Nat) : (trB n).size = 1 + (encS n).length := by
  rw [← bl_length, bl_trB, List.length_cons, by8_length]; omega
theorem trl_size (n : Nat) : (trl n).size = 9 + (encS n).length := by rw [trl, frm_size, trB_size]; omega
/-- What opens with a trailer has no record there. -/
theorem at_trl (n : Nat) (s t : ByteArray) (hn : n < 2 ^ 64) (hs : s = trl n ++ t) : atB s = false ∧ ufB s = true := by
  obtain ⟨h1, h2, h3⟩ := frame_uf (trB n) s t hs (by rw [trB_size]; have := encS_le n hn; omega)
  refine ⟨?_, h1⟩
  have e : atO s = ⟨0, sb (encS n)⟩ := bl_ob_eq (k := 0) (p := sb (encS n)) h2
  rw [Bool.eq_false_iff]
  intro h
  rw [atB_iff, e] at h
  have := (okO_iff _).1 h.2.2
  simp at this
/-- What is a record cut short, or a trailer, has no frame there. -/
theorem at_cut (p s : ByteArray) (k : Nat) (hp : p.size ≤ 67108864) (hk : k < 8 + p.size) (hs : bl s = (bl (frm p)).take k) : ufB s = false :=
  cut_uf p s k hp hk (by rw [hs, bl_frm])
/-- An entry at a place; the next place. -/
def enA (s : ByteArray) (a : Nat) : Ent := ⟨nmO (atO (frmO s a)), (atO (frmO s a)).k, a, (atO (frmO s a)).p.size⟩
/-- Records taken one behind the other, from behind the Mark on, for as long as they are taken. -/
inductive Rn (tk : List Ent → Ent → Bool) (s : ByteArray) : Nat → List Ent → Prop
  | z : Rn tk s 4 []
  | st {a : Nat} {l : List Ent} : Rn tk s a l → atB (frmO s a) = true → tk l (enA s a) = true → Rn tk s (a + 9 + (enA s a).sz) (l ++ [enA s a])
def Stk (tk : List Ent → Ent → Bool) (s : ByteArray) (a : Nat) (l : List Ent) : Prop := Rn tk s a l ∧ ¬ (atB (frmO s a) = true ∧ tk l (enA s a) = true)
/-- A record's frame stands within. -/
theorem at_fits {s : ByteArray} (h : atB s = true) : 9 + (atO s).p.size ≤ s.size ∧ ufR s = frmO s (9 + (atO s).p.size) ∧ (atO s).p.size ≤ 2097152 := by
  rw [atB_iff] at h
  obtain ⟨h1, h2, h3⟩ := h
  have hb := (ufB_iff s).1 h1
  obtain ⟨e1, e2, _⟩ := uf_yes h1
  have hz : (ufP s).size = ufn s := by rw [e1, ← bl_length, bl_extract, List.length_drop, List.length_take, bl_length]; omega
  have hy : (atO s).p.size = ufn s - 1 := by
    show (frmO (ufP s) 1).size = _
    rw [frmO_size, hz]
  have := (okO_iff _).1 h3
  refine ⟨by omega, ?_, this.2.2⟩
  rw [e2, frmO]
  congr 1
  omega
theorem Rn.le {tk : List Ent → Ent → Bool} {s : ByteArray} {a : Nat} {l : List Ent} (h : Rn tk s a l) (hs : 4 ≤ s.size) : 4 ≤ a ∧ a ≤ s.size ∧ 4 + 9 * l.length ≤ a := by
  induction h with
  | z => exact ⟨by omega, hs, by simp⟩
  | @st a l h1 h2 h3 ih =>
    have hf := at_fits h2
    rw [frmO_size] at hf
    have e : (enA s a).sz = (atO (frmO s a)).p.size := by simp only [enA]
    rw [List.length_append, List.length_singleton, e]
    generalize (atO (frmO s a)).p.size = z at hf
    have h1 := hf.1
    clear hf
    omega
theorem Rn.same {tk : List Ent → Ent → Bool} {s : ByteArray} : ∀ {l : List Ent} {a a' : Nat} {l' : List Ent}, Rn tk s a l → Rn tk s a' l' → l.length = l'.length → a = a' ∧ l = l' := by
  intro l a a' l' h
  induction h generalizing a' l' with
  | z =>
    intro h' hl
    cases h' with
    | z => exact ⟨rfl, rfl⟩
    | st _ _ _ => simp at hl
  | @st a l h1 h2 h3 ih =>
    intro h' hl
    cases h' with
    | z => simp at hl
    | @st b m g1 g2 g3 =>
      obtain ⟨rfl, rfl⟩ := ih g1 (by simpa using hl)
      exact ⟨rfl, rfl⟩
theorem Rn.front {tk : List Ent → Ent → Bool} {s : ByteArray} {a : Nat} {l : List Ent} (h : Rn tk s a l) : ∀ n, n < l.length → ∃ b m, Rn tk s b m ∧ m.length = n ∧ atB (frmO s b) = true ∧ tk m (enA s b) = true := by
  induction h with
  | z => intro n hn; simp at hn
  | @st a l h1 h2 h3 ih =>
    intro n hn
    by_cases e : n = l.length
    · exact ⟨a, l, h1, e.symm, h2, h3⟩
    · exact ih n (by simp at hn; omega)
/-- There is one end. -/
theorem Stk.one {tk : List Ent → Ent → Bool} {s : ByteArray} {a a' : Nat} {l l' : List Ent} (h : Stk tk s a l) (h' : Stk tk s a' l') : a = a' ∧ l = l' := by
  rcases Nat.lt_trichotomy l.length l'.length with hl | hl | hl
  · obtain ⟨b, m, r, hm, h2, h3⟩ := h'.1.front _ hl
    obtain ⟨rfl, rfl⟩ := r.same h.1 hm
    exact absurd ⟨h2, h3⟩ h.2
  · exact h.1.same h'.1 hl
  · obtain ⟨b, m, r, hm, h2, h3⟩ := h.1.front _ hl
    obtain ⟨rfl, rfl⟩ := r.same h'.1 hm
    exact absurd ⟨h2, h3⟩ h'.2
end Go.Proofs.YtpfknjnigcefgaaGreatDoor
