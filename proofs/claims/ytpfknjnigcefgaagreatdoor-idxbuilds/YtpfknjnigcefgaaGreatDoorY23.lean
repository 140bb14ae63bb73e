import Derived.Test.YtpfknjnigcefgaaGreatDoorY21
import Derived.Test.YtpfknjnigcefgaaGreatDoorY22
import Derived.Test.YtpfknjnigcefgaaGreatDoorY13
import Derived.Test.YtpfknjnigcefgaaGreatDoorY5
import Derived.Test.YtpfknjnigcefgaaGreatDoorY1
import Derived.Test.YtpfknjnigcefgaaGreatDoorY3
import Derived.RegionTactic
import Derived.Deep.MidRow
import Derived.Lib.SmallJoins
import Derived.Test.YtpfknjnigcefgaaGreatDoorY4
/- The law's own: awake. -/
namespace Go.Proofs.YtpfknjnigcefgaaGreatDoor
open Go.RowKit
set_option linter.unusedSimpArgs false
set_option linter.unusedVariables false
/-- A name of one byte and noughts. -/
def tid (t : UInt8) : ByteArray := ⟨(t :: List.replicate 31 (0 : UInt8)).toArray⟩
theorem tid_size (t : UInt8) : (tid t).size = 32 := rfl
theorem idc_tid (t : UInt8) : idc (tid t) = #[.int .u8 (t.toNat : Int), .int .u8 0, .int .u8 0, .int .u8 0, .int .u8 0, .int .u8 0, .int .u8 0, .int .u8 0, .int .u8 0, .int .u8 0, .int .u8 0, .int .u8 0, .int .u8 0, .int .u8 0, .int .u8 0, .int .u8 0, .int .u8 0, .int .u8 0, .int .u8 0, .int .u8 0, .int .u8 0, .int .u8 0, .int .u8 0, .int .u8 0, .int .u8 0, .int .u8 0, .int .u8 0, .int .u8 0, .int .u8 0, .int .u8 0, .int .u8 0, .int .u8 0] := rfl
theorem built_tid (n : Int) : Tryz.prog.built 23 [(0, .int .u8 n)] = some #[.int .u8 n, .int .u8 0, .int .u8 0, .int .u8 0, .int .u8 0, .int .u8 0, .int .u8 0, .int .u8 0, .int .u8 0, .int .u8 0, .int .u8 0, .int .u8 0, .int .u8 0, .int .u8 0, .int .u8 0, .int .u8 0, .int .u8 0, .int .u8 0, .int .u8 0, .int .u8 0, .int .u8 0, .int .u8 0, .int .u8 0, .int .u8 0, .int .u8 0, .int .u8 0, .int .u8 0, .int .u8 0, .int .u8 0, .int .u8 0, .int .u8 0, .int .u8 0] := by kernel_rfl
theorem build_tid (t : UInt8) (w : World) : (Instr.build 23 #[(0, .int .u8 (t.toNat : Int))]).run Tryz.prog w = .ok (.agg (idc (tid t))) w := by
  rw [idc_tid]
  exact run_build w _ _ _ (built_tid _)
/-- Built, and opened. -/
theorem BdX.ix {s : ByteArray} {l : List Xe} {R : ByteArray} (h : BdX s l R) (hs : s.size = 32) (h0 : bE l = 0) : ∃ L, L.Perm l ∧ IsIx R s L := by
  obtain ⟨L, h1, h2, h3⟩ := h.2 h0
  exact ⟨L, h1, hs, h2, by rw [h3]; rfl⟩
theorem IsIx.one {R s s' : ByteArray} {l l' : List Xe} (h : IsIx R s l) (h' : IsIx R s' l') : s = s' ∧ l = l' := by
  have h1 := h.take
  have h2 := h'.take
  exact ⟨h1.1.symm.trans h2.1, h1.2.symm.trans h2.2⟩
theorem OpS.yes {S s : ByteArray} {l : List Xe} {e : Ending} {w : World} (h : OpS S e w) (hi : IsIx S s l) : ∃ g, e = .returned (.tuple #[.pointer (some ⟨g, 0, none⟩), .int .i64 0]) ∧ IxS w g s l := by
  rcases h with ⟨_, h2⟩ | ⟨g, s', l', h1, h2, h3⟩
  · exact absurd hi (h2 s l)
  · obtain ⟨rfl, rfl⟩ := hi.one h2
    exact ⟨g, h1, h3⟩
/-- Awake's entry. -/
def awX : Xe := ⟨tid 7, 1, 4, 2⟩
theorem awX_gd : GdX [awX] := ⟨fun e he => by rw [List.mem_singleton.1 he]; decide, by simp [Aprt], by simp⟩
theorem awX_list {L : List Xe} (h : L.Perm [awX]) : L = [awX] := List.perm_singleton.1 h
theorem build_awX (w : World) : (Instr.build 34 #[(0, .agg (idc (tid 7))), (1, .int .u8 1), (2, .int .i64 4), (3, .int .i64 2)]).run Tryz.prog w = .ok (.agg (xeC awX)) w := build_xe awX rfl w
theorem isIx_le {S s : ByteArray} {l : List Xe} (h : IsIx S s l) : S.size ≤ 4611686018427387904 := by have := isIx_size h; omega
set_option maxHeartbeats 4000000 in
set_option maxRecDepth 100000 in
theorem awake13 (w : World) : Calls Tryz.prog 11 #[] w fun e w' => e = .returned (.bool true) ∧ Below w.heap.size w w' := by
  obtain ⟨D7, hD7⟩ : ∃ D, idc (tid 7) = D := ⟨_, rfl⟩
  obtain ⟨D1, hD1⟩ : ∃ D, idc (tid 1) = D := ⟨_, rfl⟩
  obtain ⟨X, hX⟩ : ∃ X, xeC awX = X := ⟨_, rfl⟩
  have e1 : ∀ w, (Instr.build 23 #[(0, .int .u8 7)]).run Tryz.prog w = .ok (.agg D7) w := fun w => by rw [← hD7]; exact build_tid 7 w
  have e2 : ∀ w, (Instr.build 23 #[(0, .int .u8 1)]).run Tryz.prog w = .ok (.agg D1) w := fun w => by rw [← hD1]; exact build_tid 1 w
  have e3 : ∀ w, (Instr.build 34 #[(0, .agg D7), (1, .int .u8 1), (2, .int .i64 4), (3, .int .i64 2)]).run Tryz.prog w = .ok (.agg X) w := fun w => by rw [← hD7, ← hX]; exact build_awX w
  have HSL : Hid (∀ w, (Instr.buildSlice 25 1 #[(0, .agg X)]).run Tryz.prog w = .ok (.slice (some ⟨w.heap.size, 0, none⟩) 1 1) (w.alloc (.cells X 34))) := by rw [← hX]; exact slice_xe awX rfl
  have HI : Hid ((Tryz.prog.info? 23).map (·.size) = some D7.size ∧ D7.all (·.oneCell') = true ∧ D7.size = 32) := by rw [← hD7]; exact ⟨info_32 (by rw [idc_size, tid_size]), idc_allX _, by rw [idc_size, tid_size]⟩
  have HIX : Hid ((Tryz.prog.info? 34).map (·.size) = some X.size ∧ X.all (·.oneCell') = true ∧ X.size = 35) := by rw [← hX]; exact ⟨info_xe (xeC_size awX rfl), xeC_all _, xeC_size awX rfl⟩
  have HBD : Hid (∀ W : World, Calls Tryz.prog 6 #[.agg D1, .slice (some ⟨W.heap.size, 0, none⟩) 1 1] (W.alloc (.cells X 34)) fun e w' => ∃ R, e = .returned (.tuple #[.string R, .int .i64 0]) ∧ IsIx R (tid 1) [awX] ∧ Below W.heap.size W w') := fun W => by
    rw [← hD1, ← hX]
    have hxl : XeL (W.alloc (.cells (xeC awX) 34)) (some ⟨W.heap.size, 0, none⟩) [awX] := fun i e he => by
      have hb := bk_new W (xeC awX) 34
      have hi : i = 0 := by have := (List.getElem?_eq_some_iff.1 he).1; simp at this; exact this
      subst hi
      simp at he
      subst he
      exact ⟨rfl, W.heap.size, 0, rfl, hb.lt, fun j v hv => by rw [hb.cell]; simpa using hv⟩
    refine (ibuild_any sort_none (tid 1) [awX] _ 1 1 _ (tid_size 1) hxl rfl (.inr ⟨_, _, rfl⟩) (by omega)).mono ?_
    rintro e w' ⟨R, h1, h2, h3⟩
    obtain ⟨L, h4, h5⟩ := h2.ix (tid_size 1) awX_gd.bE
    rw [awX_list h4] at h5
    refine ⟨R, by rw [h1, awX_gd.bE], h5, ((Below.refl _ _).alloc (Nat.le_refl _) _).trans (h3.mono (by rw [al_size]; omega))⟩
  have HFD : Hid (∀ (g : Nat) (W : World), IxS W g (tid 1) [awX] → Calls Tryz.prog 36 #[.pointer (some ⟨g, 0, none⟩), .agg D7] W fun r w' => r = .returned (.tuple #[.agg X, .int .i64 0]) ∧ Below W.heap.size W w') := fun g W hW => by
    have hf : fnd [awX] (tid 7) = some awX := fnd_mem (l := [awX]) (e := awX) (by simp [Aprt]) List.mem_cons_self
    have := find_any g (tid 1) (tid 7) [awX] W hW (by simp [Rise]) rfl (by simp)
    rw [hf, hD7] at this
    rw [← hX]
    exact this
  have HX33 : Hid (X[33]? = some (.int .i64 4)) := by rw [← hX]; exact (xeC_at awX rfl).2.1
  have hz := zero_id
  have B0 : Hid (Bk (w.alloc (.cells D7 23)) w.heap.size D7 23 ∧ Below w.heap.size w (w.alloc (.cells D7 23))) := ⟨bk_new _ _ _, (Below.refl _ _).alloc (Nat.le_refl _) _⟩
  clear hD7 hD1 hX
  go_enter Tryz.func11, Tryz.ntmps11
  go_wp2_with (first
    | (refine wpList_bdX1 rfl 23 0 (.const (.int .u8 7)) rfl (.int .u8 7) (.agg D7) rfl (e1 _) ?_)
    | (refine wpList_bdX1 rfl 23 0 (.const (.int .u8 1)) rfl (.int .u8 1) (.agg D1) rfl (e2 _) ?_)
    | (refine wpList_store_new rfl 23 (.tmp 1) (.tmp 8) rfl D7 _ 23 w.heap.size rfl rfl rfl HI.out.1 (by rw [HI.out.2.2]; rfl) HI.out.2.1 ?_)
    | (refine wpList_get rfl 23 (.tmp 1) rfl w.heap.size 0 D7 D7 23 _ rfl B0.out.1 (fun j v hv => by rw [Nat.zero_add]; exact hv) Tryz.underlying23 rfl HI.out.1 ?_)
    | (refine wpList_bdX4 rfl 34 (.tmp 11) (.const (.int .u8 1)) (.const (.int .i64 4)) (.const (.int .i64 2)) rfl (.agg D7) (.int .u8 1) (.int .i64 4) (.int .i64 2) (.agg X) rfl rfl rfl rfl (e3 _) ?_)
    | (refine wpList_bsX rfl 25 (.tmp 12) rfl (.agg X) (.slice (some ⟨(w.alloc (.cells D7 23)).heap.size, 0, none⟩) 1 1) ((w.alloc (.cells D7 23)).alloc (.cells X 34)) rfl (HSL.out _) ?_)
    | fail)
  have HB2 := HBD.out (w.alloc (.cells D7 23))
  rw [al_size] at HB2
  refine HB2.mono ?_
  rintro e w2 ⟨R, rfl, hI, hb2⟩
  have hb2' : Below (w.alloc (.cells D7 23)).heap.size (w.alloc (.cells D7 23)) w2 := by rw [al_size]; exact hb2
  have H2 : Hid (Bk w2 w.heap.size D7 23 ∧ Below w.heap.size w w2 ∧ IsIx R (tid 1) [awX]) := ⟨B0.out.1.below hb2' B0.out.1.lt, B0.out.2.trans (hb2'.mono B0.out.2.size), hI⟩
  clear HB2 hI hb2 hb2' HBD B0
  go_wp2_with fail
  refine (open_any R w2 (isIx_le H2.out.2.2)).mono ?_
  rintro e w3 ⟨hO, hb3⟩
  obtain ⟨g, rfl, hI3⟩ := hO.yes H2.out.2.2
  have H3 : Hid (Bk w3 w.heap.size D7 23 ∧ Below w.heap.size w w3 ∧ IxS w3 g (tid 1) [awX]) := ⟨H2.out.1.below hb3 H2.out.1.lt, H2.out.2.1.trans (hb3.mono H2.out.2.1.size), hI3⟩
  clear hO hb3 hI3 H2
  go_wp2_with (first
    | (refine wpList_get rfl 23 (.tmp 1) rfl w.heap.size 0 D7 D7 23 _ rfl H3.out.1 (fun j v hv => by rw [Nat.zero_add]; exact hv) Tryz.underlying23 rfl HI.out.1 ?_)
    | fail)
  refine (HFD.out g w3 H3.out.2.2).mono ?_
  rintro e w4 ⟨rfl, hb4⟩
  have H4 : Hid (Below w.heap.size w (w4.alloc (.cells X 34)) ∧ IxS (w4.alloc (.cells X 34)) g (tid 1) [awX]) := by
    have q := (Below.refl w4.heap.size w4).alloc (Nat.le_refl _) (.cells X 34)
    have q2 := H3.out.2.1.trans (hb4.mono H3.out.2.1.size)
    exact ⟨q2.trans (q.mono q2.size), (H3.out.2.2.below hb4).below q⟩
  have hc : (w4.alloc (.cells X 34)).cell? ⟨w4.heap.size, 33, none⟩ = some (.int .i64 4) := by rw [(bk_new w4 X 34).cell]; exact HX33.out
  clear hb4 H3 HX33
  go_wp2_with (first
    | (refine wpList_store_new rfl 34 (.tmp 6) (.tmp 26) rfl X _ 34 w4.heap.size rfl rfl rfl HIX.out.1 (by rw [HIX.out.2.2]; rfl) HIX.out.2.1 ?_)
    | (go_at_call 21; refine (ilen_any g (tid 1) [awX] _ H4.out.2).mono ?_; rintro e w5 ⟨rfl, hw5⟩; obtain rfl := hw5.symm)
    | fail)
  go_ret
  exact ⟨rfl, H4.out.1⟩
end Go.Proofs.YtpfknjnigcefgaaGreatDoor
/- Plain facts: the checksum of 32 bits (no program in sight): a byte that is turned is told. -/
namespace Go.Proofs.YtpfknjnigcefgaaGreatDoor
set_option linter.unusedSimpArgs false
set_option linter.unusedVariables false
open Go
def poly : BitVec 32 := 0xEDB88320#32
/-- One bit goes out. -/
def sh1 (n : BitVec 32) : BitVec 32 := (n >>> 1) ^^^ (if n.getLsbD 0 then poly else 0#32)
/-- So many bits go out. -/
def shN32 : Nat → BitVec 32 → BitVec 32
  | 0, n => n
  | k + 1, n => sh1 (shN32 k n)
/-- A byte more. -/
def cst (n : BitVec 32) (b : UInt8) : BitVec 32 := shN32 8 (n ^^^ BitVec.ofNat 32 b.toNat)
def crcR (n : BitVec 32) (l : List UInt8) : BitVec 32 := l.foldl cst n
/-- A checksum gone on with. -/
def onC (c : BitVec 32) (l : List UInt8) : BitVec 32 := ~~~ (crcR (~~~ c) l)
def crcC (l : List UInt8) : BitVec 32 := onC 0#32 l
theorem crcR_append (n : BitVec 32) (a b : List UInt8) : crcR n (a ++ b) = crcR (crcR n a) b := List.foldl_append
theorem crcR_snoc (n : BitVec 32) (a : List UInt8) (b : UInt8) : crcR n (a ++ [b]) = cst (crcR n a) b := by simp [crcR]
theorem onC_append (c : BitVec 32) (a b : List UInt8) : onC (onC c a) b = onC c (a ++ b) := by
  simp [onC, crcR_append]
theorem onC_crc (a b : List UInt8) : onC (crcC a) b = crcC (a ++ b) := onC_append _ _ _
theorem sh1_top (n : BitVec 32) : (sh1 n).getLsbD 31 = n.getLsbD 0 := by
  unfold sh1
  rw [BitVec.getLsbD_xor, BitVec.getLsbD_ushiftRight, BitVec.getLsbD_of_ge n (1 + 31) (by omega)]
  cases n.getLsbD 0
  · simp
  · simp [poly]
theorem sh1_inj {n m : BitVec 32} (h : sh1 n = sh1 m) : n = m := by
  have h0 : n.getLsbD 0 = m.getLsbD 0 := by rw [← sh1_top, ← sh1_top, h]
  have h1 : n >>> 1 = m >>> 1 := by
    unfold sh1 at h
    rw [h0] at h
    have := congrArg (· ^^^ (if m.getLsbD 0 then poly else 0#32)) h
    simpa [BitVec.xor_assoc] using this
  apply BitVec.eq_of_getLsbD_eq
  intro i hi
  cases i with
  | zero => exact h0
  | succ i =>
    have := congrArg (fun x => x.getLsbD i) h1
    simp only [BitVec.getLsbD_ushiftRight] at this
    rwa [Nat.add_comm 1 i] at this
theorem shN32_inj : ∀ (k : Nat) {n m : BitVec 32}, shN32 k n = shN32 k m → n = m
  | 0, _, _, h => h
  | k + 1, _, _, h => shN32_inj k (sh1_inj h)
theorem xor_right_inj {a b c : BitVec 32} (h : a ^^^ c = b ^^^ c) : a = b := by
  have := congrArg (· ^^^ c) h
  simpa [BitVec.xor_assoc] using this
theorem xor_left_inj {a b c : BitVec 32} (h : c ^^^ a = c ^^^ b) : a = b := by
  rw [BitVec.xor_comm c a, BitVec.xor_comm c b] at h
  exact xor_right_inj h
theorem cst_inj {n m : BitVec 32} {b : UInt8} (h : cst n b = cst m b) : n = m := xor_right_inj (shN32_inj 8 h)
theorem cst_byte {n : BitVec 32} {b c : UInt8} (h : cst n b = cst n c) : b = c := by
  have h2 := xor_left_inj (shN32_inj 8 h)
  have h3 := congrArg BitVec.toNat h2
  have hb := b.toNat_lt
  have hc := c.toNat_lt
  simp only [BitVec.toNat_ofNat] at h3
  rw [Nat.mod_eq_of_lt (by omega), Nat.mod_eq_of_lt (by omega)] at h3
  exact UInt8.toNat.inj h3
theorem crcR_inj : ∀ (l : List UInt8) {n m : BitVec 32}, crcR n l = crcR m l → n = m
  | [], _, _, h => h
  | b :: l, n, m, h => cst_inj (crcR_inj l h)
theorem crcC_turn (a r : List UInt8) (b c : UInt8) (h : crcC (a ++ b :: r) = crcC (a ++ c :: r)) : b = c := by
  unfold crcC onC at h
  have h1 : crcR (~~~ 0#32) (a ++ b :: r) = crcR (~~~ 0#32) (a ++ c :: r) := by
    have := congrArg (~~~ ·) h
    simpa using this
  rw [crcR_append, crcR_append] at h1
  exact cst_byte (crcR_inj r h1)
/-- A frame. -/
def frL (p : List UInt8) : List UInt8 := by8 (fixN 4 p.length) ++ (by8 (fixN 4 (crcC (by8 (fixN 4 p.length) ++ p)).toNat) ++ p)
def frm (p : ByteArray) : ByteArray := ⟨(frL (bl p)).toArray⟩
theorem bl_frm (p : ByteArray) : bl (frm p) = frL (bl p) := by simp [bl, frm]
theorem frL_length (p : List UInt8) : (frL p).length = 8 + p.length := by simp [frL, by8_length, fixN_length]; omega
theorem frm_size (p : ByteArray) : (frm p).size = 8 + p.size := by rw [← bl_length, bl_frm, frL_length, bl_length]
/-- Whether a frame stands at the front, its payload's length told first. -/
def ufOk (l : List UInt8) : Bool := decide (8 ≤ l.length ∧ fixV (l.take 4) ≤ 67108864 ∧ 8 + fixV (l.take 4) ≤ l.length ∧
  (crcC (l.take 4 ++ (l.drop 8).take (fixV (l.take 4)))).toNat = fixV ((l.drop 4).take 4))
def ufn (s : ByteArray) : Nat := fixV ((bl s).take 4)
def ufB (s : ByteArray) : Bool := ufOk (bl s)
/-- The payload, what stands behind it, the error. -/
def ufP (s : ByteArray) : ByteArray := if ufB s = true then s.extract 8 (8 + ufn s) else ⟨#[]⟩
def ufR (s : ByteArray) : ByteArray := if ufB s = true then s.extract (8 + ufn s) s.size else ⟨#[]⟩
def ufE (s : ByteArray) : Int := if ufB s = true then 0 else 4
theorem ufB_iff (s : ByteArray) : ufB s = true ↔ (8 ≤ s.size ∧ ufn s ≤ 67108864 ∧ 8 + ufn s ≤ s.size ∧
    (crcC ((bl s).take 4 ++ ((bl s).drop 8).take (ufn s))).toNat = fixV (((bl s).drop 4).take 4)) := by
  unfold ufB ufOk
  rw [decide_eq_true_iff, bl_length]; rfl
theorem uf_yes {s : ByteArray} (h : ufB s = true) : ufP s = s.extract 8 (8 + ufn s) ∧ ufR s = s.extract (8 + ufn s) s.size ∧ ufE s = 0 :=
  ⟨if_pos h, if_pos h, if_pos h⟩
theorem uf_no {s : ByteArray} (h : ufB s = false) : ufP s = ⟨#[]⟩ ∧ ufR s = ⟨#[]⟩ ∧ ufE s = 4 :=
  ⟨if_neg (by rw [h]; simp), if_neg (by rw [h]; simp), if_neg (by rw [h]; simp)⟩
theorem take4_front (a b : List UInt8) (h : a.length = 4) : (a ++ b).take 4 = a ∧ (a ++ b).drop 4 = b := by
  rw [← h]
  exact ⟨List.take_left, List.drop_left⟩
theorem fix4_len (n : Nat) : (by8 (fixN 4 n)).length = 4 := by rw [by8_length, fixN_length]
/-- The four parts of what opens with a frame. -/
theorem fr_parts (p t : List UInt8) : (frL p ++ t).take 4 = by8 (fixN 4 p.length) ∧ ((frL p ++ t).drop 4).take 4 = by8 (fixN 4 (crcC (by8 (fixN 4 p.length) ++ p)).toNat) ∧ (frL p ++ t).drop 8 = p ++ t := by
  have e1 := take4_front (by8 (fixN 4 p.length)) (by8 (fixN 4 (crcC (by8 (fixN 4 p.length) ++ p)).toNat) ++ (p ++ t)) (fix4_len _)
  have e2 := take4_front (by8 (fixN 4 (crcC (by8 (fixN 4 p.length) ++ p)).toNat)) (p ++ t) (fix4_len _)
  have e0 : frL p ++ t = by8 (fixN 4 p.length) ++ (by8 (fixN 4 (crcC (by8 (fixN 4 p.length) ++ p)).toNat) ++ (p ++ t)) := by simp [frL]
  refine ⟨by rw [e0, e1.1], by rw [e0, e1.2, e2.1], ?_⟩
  rw [show (8 : Nat) = 4 + 4 from rfl, ← List.drop_drop, e0, e1.2, e2.2]
theorem frame_ufn (p s t : ByteArray) (hs : s = frm p ++ t) (hp : p.size ≤ 67108864) : ufn s = p.size := by
  unfold ufn
  rw [hs, bl_append, bl_frm, (fr_parts _ _).1, bl_length, fixV_fixN 4 _ (by omega)]
/-- A frame that stands at the front is found. -/
theorem frame_uf (p s t : ByteArray) (hs : s = frm p ++ t) (hp : p.size ≤ 67108864) : ufB s = true ∧ ufP s = p ∧ ufR s = t := by
  have hn := frame_ufn p s t hs hp
  have hz : s.size = 8 + p.size + t.size := by rw [hs, ByteArray.size_append, frm_size]
  obtain ⟨e1, e2, e3⟩ := fr_parts (bl p) (bl t)
  have hbl : bl s = frL (bl p) ++ bl t := by rw [hs, bl_append, bl_frm]
  have hB : ufB s = true := by
    rw [ufB_iff]
    refine ⟨by omega, by omega, by omega, ?_⟩
    rw [hn, hbl, e1, e2, e3, fixV_fixN 4 _ (by have := (crcC (by8 (fixN 4 (bl p).length) ++ bl p)).isLt; omega)]
    congr 2
    rw [List.take_append_of_le_length (by rw [bl_length]; exact Nat.le_refl _), List.take_of_length_le (by rw [bl_length]; exact Nat.le_refl _)]
  obtain ⟨a1, a2, _⟩ := uf_yes hB
  refine ⟨hB, ?_, ?_⟩
  · rw [a1, hn]
    apply bl_inj
    rw [bl_extract, List.drop_take, hbl, e3, Nat.add_sub_cancel_left, List.take_append_of_le_length (by rw [bl_length]; exact Nat.le_refl _), List.take_of_length_le (by rw [bl_length]; exact Nat.le_refl _)]
  · rw [a2, hn]
    exact drop_front s (frm p) t _ hs (by rw [frm_size])
theorem fixV_cons4 (a b c d : UInt8) : fixV [a, b, c, d] = ((a.toNat * 256 + b.toNat) * 256 + c.toNat) * 256 + d.toNat := by simp [fixV]
theorem fixV_inj4 (x y : List UInt8) (hx : x.length = 4) (hy : y.length = 4) (h : fixV x = fixV y) : x = y := by
  match x, hx with
  | [a, b, c, d], _ =>
    match y, hy with
    | [a', b', c', d'], _ =>
      rw [fixV_cons4, fixV_cons4] at h
      have h1 := a.toNat_lt; have h2 := b.toNat_lt; have h3 := c.toNat_lt; have h4 := d.toNat_lt
      have g1 := a'.toNat_lt; have g2 := b'.toNat_lt; have g3 := c'.toNat_lt; have g4 := d'.toNat_lt
      have e1 : a.toNat = a'.toNat := by omega
      have e2 : b.toNat = b'.toNat := by omega
      have e3 : c.toNat = c'.toNat := by omega
      have e4 : d.toNat = d'.toNat := by omega
      rw [UInt8.toNat.inj e1, UInt8.toNat.inj e2, UInt8.toNat.inj e3, UInt8.toNat.inj e4]
/-- A byte of a frame's checksum or payload that is turned is told, whatever stands behind. -/
theorem turned_uf (p t s' : ByteArray) (j : Nat) (c : UInt8) (hp : p.size ≤ 67108864) (hj : 4 ≤ j) (hj2 : j < 8 + p.size) (hs : bl s' = (frL (bl p) ++ bl t).set j c)
    (hc : (frL (bl p) ++ bl t)[j]? ≠ some c) : ufB s' = false := by
  rw [Bool.eq_false_iff]
  intro hB
  rw [ufB_iff] at hB
  obtain ⟨_, _, hlen, hcrc⟩ := hB
  obtain ⟨e1, e2, e3⟩ := fr_parts (bl p) (bl t)
  have ht4 : (bl s').take 4 = (frL (bl p) ++ bl t).take 4 := by rw [hs, List.take_set_of_le hj]
  have hn : ufn s' = p.size := by
    unfold ufn
    rw [ht4, e1, bl_length, fixV_fixN 4 _ (by omega)]
  rw [hn, ht4, e1] at hcrc
  have hV := fixV_fixN 4 (crcC (by8 (fixN 4 (bl p).length) ++ bl p)).toNat (by have := (crcC (by8 (fixN 4 (bl p).length) ++ bl p)).isLt; omega)
  have hz : (frL (bl p) ++ bl t).length = 8 + p.size + t.size := by rw [List.length_append, frL_length, bl_length, bl_length]
  by_cases h8 : j < 8
  · have e8 : (bl s').drop 8 = bl p ++ bl t := by rw [hs, List.drop_set_of_lt h8, e3]
    rw [e8, List.take_append_of_le_length (by rw [bl_length]; exact Nat.le_refl _), List.take_of_length_le (by rw [bl_length]; exact Nat.le_refl _), ← hV, ← e2] at hcrc
    have hl1 : (((frL (bl p) ++ bl t).drop 4).take 4).length = 4 := by rw [e2, fix4_len]
    have hl2 : (((bl s').drop 4).take 4).length = 4 := by rw [hs]; simp only [List.length_take, List.length_drop, List.length_set]; omega
    have heq := fixV_inj4 _ _ hl1 hl2 hcrc
    apply hc
    have g1 : (((frL (bl p) ++ bl t).drop 4).take 4)[j - 4]? = (frL (bl p) ++ bl t)[j]? := by
      rw [List.getElem?_take_of_lt (by omega), List.getElem?_drop]; congr 1; omega
    have g2 : (((bl s').drop 4).take 4)[j - 4]? = some c := by
      rw [List.getElem?_take_of_lt (by omega), List.getElem?_drop, hs, show 4 + (j - 4) = j from by omega, List.getElem?_set_self (by omega)]
    rw [← g1, heq, g2]
  · have e4 : ((bl s').drop 4).take 4 = ((frL (bl p) ++ bl t).drop 4).take 4 := by
      rw [hs, List.drop_set, if_neg (by omega), List.take_set_of_le (by omega)]
    have e8 : (bl s').drop 8 = (bl p ++ bl t).set (j - 8) c := by
      rw [hs, List.drop_set, if_neg (by omega), e3]
    have hjp : j - 8 < (bl p).length := by rw [bl_length]; omega
    rw [e4, e2, hV, e8, List.set_append, if_pos hjp, List.take_append_of_le_length (by rw [List.length_set, bl_length]; exact Nat.le_refl _),
      List.take_of_length_le (by rw [List.length_set, bl_length]; exact Nat.le_refl _)] at hcrc
    have hsp : bl p = (bl p).take (j - 8) ++ (bl p)[j - 8] :: (bl p).drop (j - 8 + 1) := by
      rw [List.getElem_cons_drop, List.take_append_drop]
    have hst : (bl p).set (j - 8) c = (bl p).take (j - 8) ++ c :: (bl p).drop (j - 8 + 1) := List.set_eq_take_append_cons_drop .. |>.trans (if_pos hjp)
    have hq := BitVec.eq_of_toNat_eq hcrc
    rw [hst, ← List.append_assoc] at hq
    have hq2 : crcC ((by8 (fixN 4 (bl p).length) ++ (bl p).take (j - 8)) ++ c :: (bl p).drop (j - 8 + 1)) = crcC ((by8 (fixN 4 (bl p).length) ++ (bl p).take (j - 8)) ++ (bl p)[j - 8] :: (bl p).drop (j - 8 + 1)) := by
      rw [hq, List.append_assoc, ← hsp]
    have := crcC_turn _ _ _ _ hq2
    apply hc
    have g : (frL (bl p) ++ bl t)[j]? = some ((bl p)[j - 8]) := by
      have : (frL (bl p) ++ bl t)[j]? = ((frL (bl p) ++ bl t).drop 8)[j - 8]? := by rw [List.getElem?_drop]; congr 1; omega
      rw [this, e3, List.getElem?_append_left hjp, List.getElem?_eq_getElem hjp]
    rw [g, ← this]
/-- A frame that is cut short is none. -/
theorem cut_uf (p s : ByteArray) (k : Nat) (hp : p.size ≤ 67108864) (hk : k < 8 + p.size) (hs : bl s = (frL (bl p)).take k) : ufB s = false := by
  rw [Bool.eq_false_iff]
  intro hB
  rw [ufB_iff] at hB
  obtain ⟨h8, _, hlen, _⟩ := hB
  have hz : s.size = k := by rw [← bl_length, hs, List.length_take, frL_length, bl_length]; omega
  have e1 := (fr_parts (bl p) []).1
  rw [List.append_nil] at e1
  have hn : ufn s = p.size := by
    unfold ufn
    rw [hs, List.take_take, Nat.min_eq_left (by omega), e1, bl_length, fixV_fixN 4 _ (by omega)]
  omega
end Go.Proofs.YtpfknjnigcefgaaGreatDoor
/- The walk of frame's closure: a byte more. -/
namespace Go.Proofs.YtpfknjnigcefgaaGreatDoor
open Go.RowKit
set_option linter.unusedSimpArgs false
set_option linter.unusedVariables false
theorem ofByte (b : Nat) (h : b < 256) : (b : Int) = ((BitVec.ofNat 32 (UInt8.ofNat b).toNat).toNat : Int) := by
  rw [toNat_ofNat8 b h, BitVec.toNat_ofNat, Nat.mod_eq_of_lt (by omega)]
theorem one32 : (1 : Int) = ((1#32).toNat : Int) := by decide
theorem poly32 : (3988292384 : Int) = (poly.toNat : Int) := by decide
theorem neg32 (x : BitVec 32) : (-(x.toNat : Int)) % 4294967296 = ((-x).toNat : Int) := by
  rw [BitVec.toNat_neg]
  have := x.isLt
  omega
theorem out_bit (n : BitVec 32) : poly &&& -(n &&& 1#32) = if n.getLsbD 0 then poly else 0#32 := by
  have h : n &&& 1#32 = if n.getLsbD 0 then 1#32 else 0#32 := by
    apply BitVec.eq_of_getLsbD_eq
    intro i hi
    rw [BitVec.getLsbD_and]
    cases i with
    | zero => cases n.getLsbD 0 <;> simp
    | succ i => cases n.getLsbD 0 <;> simp [BitVec.getLsbD_one]
  rw [h]
  cases n.getLsbD 0
  · decide
  · decide
theorem sh1_raw (n : BitVec 32) : bits .xor .u32 ((n.toNat : Int) / 2) (bits .and .u32 3988292384 ((-(bits .and .u32 (n.toNat : Int) 1)) % 4294967296)) = ((sh1 n).toNat : Int) := by
  have e : (n.toNat : Int) / (2 : Int) = ((n >>> 1).toNat : Int) := by rw [BitVec.toNat_ushiftRight, Nat.shiftRight_eq_div_pow]; omega
  rw [e, one32, and32, neg32, poly32, and32, xor32, out_bit, sh1]
set_option maxHeartbeats 400000 in
set_option maxRecDepth 100000 in
theorem onStep_any (n : BitVec 32) (b : Nat) (c : Nat) (T : TypeId) (w : World) (hb : b < 256) (hB : Blk w c #[c32 n] T) :
    Calls Tryz.prog 157 #[.int .u8 b, .pointer (some ⟨c, 0, none⟩)] w fun e w' => e = .returned (.tuple #[]) ∧ Blk w' c #[c32 (cst n (UInt8.ofNat b))] T ∧ w.grownBy w' (some c) := by
  have h0 := hB.cell 0
  have hf := hB.frozen 0
  go_enter Tryz.func157, Tryz.ntmps157
  go_wp2
  go_loopw [7] (fun i wr => ∃ (k : Nat) (m : BitVec 32), k ≤ 8 ∧ i = .int .i64 k ∧ Blk wr c #[c32 m] T ∧ w.grownBy wr (some c) ∧ Hid (m = shN32 k (n ^^^ BitVec.ofNat 32 (UInt8.ofNat b).toNat))) (fun i _ => 8 - (intOf i).toNat)
  case atStart =>
    refine ⟨0, n ^^^ BitVec.ofNat 32 (UInt8.ofNat b).toNat, by omega, rfl, ?_, Lib.grownBy_setB (World.grownBy.refl _ _) 0 _, rfl⟩
    rw [ofByte b hb, xor32]
    exact hB.set 0 _
  case round =>
    obtain ⟨k, m, hk, rfl, hM, hg, HM⟩ := hrel
    have m0 := hM.cell 0
    have mf := hM.frozen 0
    by_cases hlt : k < 8
    · clear h0 hf
      go_wp2
      go_roundw
      case rel =>
        refine ⟨k + 1, sh1 m, by omega, by go_num, ?_, Lib.grownBy_setB hg 0 _, ?_⟩
        · rw [sh1_raw]; exact hM.set 0 _
        · rw [HM.out]; rfl
      case measure => simp [intOf]; omega
    · clear h0 hf
      go_wp2
      go_end0
      have hk8 : k = 8 := by omega
      subst hk8
      rw [HM.out] at hM
      exact ⟨rfl, hM, hg⟩
end Go.Proofs.YtpfknjnigcefgaaGreatDoor
/- The walks of frame.On, Crc, sum, Frame. -/
namespace Go.Proofs.YtpfknjnigcefgaaGreatDoor
open Go.RowKit
set_option linter.unusedSimpArgs false
set_option linter.unusedVariables false
set_option maxHeartbeats 400000 in
set_option maxRecDepth 100000 in
theorem on_any (c : BitVec 32) (s : ByteArray) (w : World) (hs : s.size ≤ maxLen) :
    Calls Tryz.prog 154 #[c32 c, .string s] w fun e w' => e = .returned (c32 (onC c (bl s))) ∧ Below w.heap.size w w' := by
  unfold maxLen at hs
  have hsg : IntKind.u32.signed = false := rfl
  have hmx := max32
  obtain ⟨d, hd⟩ : ∃ d, d = ~~~ c := ⟨_, rfl⟩
  have HD : Hid (d = ~~~ c) := hd
  clear hd
  go_enter Tryz.func154, Tryz.ntmps154
  go_wp2
  rw [not32, ← HD.out]
  go_loopw [13] (fun i wr => ∃ (k : Nat) (m : BitVec 32), k ≤ s.size ∧ i = .int .i64 k ∧ Blk wr w.heap.size #[c32 m] 97 ∧ Below w.heap.size w wr ∧ Hid (m = crcR d ((bl s).take k))) (fun i _ => s.size - (intOf i).toNat)
  case atStart => exact ⟨0, d, by omega, rfl, blk_new _ _, (Below.refl _ _).alloc (Nat.le_refl _) _, rfl⟩
  case round =>
    obtain ⟨k, m, hk, rfl, hM, hbel, HM⟩ := hrel
    by_cases hlt : k < s.size
    · have HB : Hid (Blk wr w.heap.size #[c32 m] 97) := hM
      have HL : Hid (Below w.heap.size w wr) := hbel
      have hz : w.heap.size < wr.heap.size := blk_lt hM
      clear hM hbel
      go_wp2_with fail
      refine (onStep_any m s[k].toNat w.heap.size 97 wr s[k].toNat_lt HB.out).mono ?_
      rintro e w1 ⟨rfl, hM1, hg1⟩
      rw [UInt8.ofNat_toNat] at hM1
      have HB1 : Hid (Blk w1 w.heap.size #[c32 (cst m s[k])] 97) := hM1
      have HG : Hid (wr.grownBy w1 (some w.heap.size)) := hg1
      clear hM1 hg1
      go_wp2
      go_roundw
      case rel =>
        refine ⟨k + 1, cst m s[k], by omega, by go_num, HB1.out, ?_, ?_⟩
        · exact HL.out.grown HG.out (by omega) (fun j hj => by cases hj; exact Nat.le_refl _)
        · show cst m s[k] = _
          rw [HM.out, take_snoc s k hlt, crcR_snoc]
      case measure => simp [intOf]; omega
    · have m0 := hM.cell 0
      have HL : Hid (Below w.heap.size w wr) := hbel
      clear hM hbel
      go_wp2
      go_ret
      have e : k = s.size := by omega
      refine ⟨ret_i32 ?_, HL.out⟩
      rw [not32, HM.out, e, HD.out, List.take_of_length_le (by rw [bl_length]; exact Nat.le_refl _)]
      rfl
set_option maxHeartbeats 400000 in
theorem crc_any (s : ByteArray) (w : World) (hs : s.size ≤ maxLen) :
    Calls Tryz.prog 155 #[.string s] w fun e w' => e = .returned (c32 (crcC (bl s))) ∧ Below w.heap.size w w' := by
  go_enter Tryz.func155, Tryz.ntmps155
  go_wp2_with fail
  refine (on_any 0#32 s _ hs).mono ?_
  rintro e w1 ⟨rfl, hb⟩
  go_wp2
  go_ret
  exact ⟨rfl, hb⟩
set_option maxHeartbeats 400000 in
theorem fsum_any (a s : ByteArray) (w : World) (ha : a.size ≤ maxLen) (hs : s.size ≤ maxLen) :
    Calls Tryz.prog 148 #[.string a, .string s] w fun e w' => e = .returned (c32 (crcC (bl a ++ bl s))) ∧ Below w.heap.size w w' := by
  go_enter Tryz.func148, Tryz.ntmps148
  go_wp2_with fail
  refine (crc_any a _ ha).mono ?_
  rintro e w1 ⟨rfl, hb⟩
  go_wp2_with fail
  refine (on_any _ s _ hs).mono ?_
  rintro e w2 ⟨rfl, hb2⟩
  rw [onC_crc]
  go_wp2
  go_ret
  exact ⟨rfl, hb.trans (hb2.mono hb.size)⟩
set_option maxHeartbeats 400000 in
theorem frame_no (p : ByteArray) (w : World) (hs : p.size ≤ maxLen) (hp : 67108864 < p.size) :
    Calls Tryz.prog 133 #[.string p] w fun e w' => e = .returned (.tuple #[.string ⟨#[]⟩, .int .i64 1]) ∧ w' = w := by
  unfold maxLen at hs
  go_enter Tryz.func133, Tryz.ntmps133
  go_wp2
  go_ret2
  exact ⟨rfl, rfl⟩
theorem emp_append (a : ByteArray) : (⟨#[]⟩ : ByteArray) ++ a = a := ByteArray.empty_append
theorem sb4_size (n : Nat) : (sb (fixN 4 n)).size = 4 := by rw [sb_size, fixN_length]
theorem frm_eq (p : ByteArray) : sb (fixN 4 p.size) ++ sb (fixN 4 (crcC (bl (sb (fixN 4 p.size)) ++ bl p)).toNat) ++ p = frm p := by
  apply bl_inj
  rw [bl_append, bl_append, bl_frm, bl_sb, bl_sb, frL, bl_length, List.append_assoc]
set_option maxHeartbeats 400000 in
theorem frame_ok (p : ByteArray) (w : World) (hp : p.size ≤ 67108864) :
    Calls Tryz.prog 133 #[.string p] w fun e w' => e = .returned (.tuple #[.string (frm p), .int .i64 0]) ∧ Below w.heap.size w w' := by
  go_enter Tryz.func133, Tryz.ntmps133
  go_wp2_with fail
  refine (putFixed_ok ⟨#[]⟩ p.size 4 _ (by omega) (by omega) (by omega) (by omega) (by rw [Int.toNat_natCast]; omega) (by decide)).mono ?_
  rintro e w1 ⟨rfl, hb1⟩
  rw [Int.toNat_natCast, emp_append]
  obtain ⟨a, ha⟩ : ∃ a, a = sb (fixN 4 p.size) := ⟨_, rfl⟩
  rw [← ha]
  have haz : a.size = 4 := by rw [ha]; exact sb4_size _
  have HA : Hid (a = sb (fixN 4 p.size)) := ha
  have HZ : Hid (a.size = 4) := haz
  have hal : a.size ≤ 4 := by omega
  clear ha haz
  go_wp2_with fail
  refine (fsum_any a p _ (by unfold maxLen; omega) (by unfold maxLen; omega)).mono ?_
  rintro e w2 ⟨rfl, hb2⟩
  obtain ⟨q, hq⟩ : ∃ q : BitVec 32, q = crcC (bl a ++ bl p) := ⟨_, rfl⟩
  rw [← hq]
  have HQ : Hid (q = crcC (bl a ++ bl p)) := hq
  have hlt := q.isLt
  clear hq
  go_wp2_with fail
  refine (putFixed_ok a q.toNat 4 _ (by omega) (by omega) (by omega) (by omega) (by rw [Int.toNat_natCast]; omega) (by omega)).mono ?_
  rintro e w3 ⟨rfl, hb3⟩
  rw [Int.toNat_natCast]
  obtain ⟨h, hh⟩ : ∃ h, h = a ++ sb (fixN 4 q.toNat) := ⟨_, rfl⟩
  rw [← hh]
  have hhz : h.size ≤ 8 := by rw [hh, append_size, sb4_size]; omega
  have HH : Hid (h = a ++ sb (fixN 4 q.toNat)) := hh
  clear hh
  go_wp2
  go_ret2
  refine ⟨ret_se ?_, ?_⟩
  · rw [HH.out, HQ.out, HA.out]; exact frm_eq p
  · exact (hb1.trans (hb2.mono hb1.size)).trans (hb3.mono (by have := hb1.size; have := hb2.size; omega))
end Go.Proofs.YtpfknjnigcefgaaGreatDoor
