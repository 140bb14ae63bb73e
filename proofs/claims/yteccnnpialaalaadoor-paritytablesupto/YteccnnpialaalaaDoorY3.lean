import Derived.Test.YteccnnpialaalaaDoorY2
import Derived.Test.YteccnnpialaalaaDoorChecked
import Derived.Shelf.Strings.Builder1
import Derived.Lib.OthersKept
import Derived.WalkKit
import Derived.BigCall
import Derived.Shelf.Strings.BuilderK
import Derived.OwnWalk
import Derived.Shelf.Strings.Builder2
import Derived.WalkSpells
import Derived.WalkLawsBesides
import Derived.Handy
import Derived.Deep.MidRow
import Derived.Deep.WholeRow
import Derived.Laws.ResultCell
import Derived.Lib.SmallJoins
import Derived.Lib.BufferOwn
import Derived.Lib.HexFns2
import Derived.Test.YteccnnpialaalaaDoorRows
import Derived.ProofKit
import Derived.Deep.Slices
import Derived.SizedLaws
import Derived.Test.YteccnnpialaalaaDoorY1
/- The walk of frame.Unframe. -/
namespace Go.Proofs.YteccnnpialaalaaDoor
open Go.RowKit
set_option linter.unusedSimpArgs false
set_option linter.unusedVariables false
theorem ret_uf {a b : ByteArray} {c : Int} {s : ByteArray} (h : ufP s = a ∧ ufR s = b ∧ ufE s = c) : Ending.returned (.tuple #[.string a, .string b, .int .i64 c]) = .returned (.tuple #[.string (ufP s), .string (ufR s), .int .i64 (ufE s)]) := by rw [h.1, h.2.1, h.2.2]
theorem uf_short {s : ByteArray} (h : s.size < 8) : ufB s = false := by
  rw [Bool.eq_false_iff]; intro h2; rw [ufB_iff] at h2; omega
theorem uf_long {s : ByteArray} (h : 67108864 < ufn s) : ufB s = false := by
  rw [Bool.eq_false_iff]; intro h2; rw [ufB_iff] at h2; omega
theorem uf_cut {s : ByteArray} (h : s.size < 8 + ufn s) : ufB s = false := by
  rw [Bool.eq_false_iff]; intro h2; rw [ufB_iff] at h2; omega
theorem uf_crc {s : ByteArray} (h : (crcC ((bl s).take 4 ++ ((bl s).drop 8).take (ufn s))).toNat ≠ fixV (((bl s).drop 4).take 4)) : ufB s = false := by
  rw [Bool.eq_false_iff]; intro h2; rw [ufB_iff] at h2; exact h h2.2.2.2
theorem fixV4_lt (l : List UInt8) : fixV (l.take 4) < 4294967296 := by
  have h := fixV_lt (l.take 4)
  have h2 : 256 ^ (l.take 4).length ≤ 256 ^ 4 := Nat.pow_le_pow_right (by omega) (List.length_take_le _ _)
  omega
theorem ufn_lt (s : ByteArray) : ufn s < 4294967296 := fixV4_lt _
set_option maxHeartbeats 400000 in
theorem unframe_4 (s : ByteArray) (w : World) (hs : s.size < 4) :
    Calls Tryd.prog 45 #[.string s] w fun e w' => e = .returned (.tuple #[.string (ufP s), .string (ufR s), .int .i64 (ufE s)]) ∧ Below w.heap.size w w' := by
  go_enter Tryd.func45, Tryd.ntmps45
  go_wp2_with fail
  refine (new_any _ _).mono ?_
  rintro e w1 ⟨rfl, rfl⟩
  go_wp2_with fail
  refine (fixed_no s w.heap.size _ (by unfold maxLen; omega) (al_ptr _ _ _) (by simp) (by simp) 4 (by omega) (by omega) (by omega)).mono ?_
  rintro e w2 ⟨rfl, h2⟩
  go_wp2
  go_ret3
  exact ⟨ret_uf (uf_no (uf_short (by omega))), ((Below.refl _ _).alloc (Nat.le_refl _) _).trans (h2.below (Nat.le_refl _) (by simp))⟩
theorem ext_size (s : ByteArray) (a : Nat) (h : a ≤ s.size) : (s.extract a s.size).size = s.size - a := by simp
theorem bl_drop (s : ByteArray) (a : Nat) : bl (s.extract a s.size) = (bl s).drop a := by
  rw [bl_extract, List.take_of_length_le (by rw [bl_length]; exact Nat.le_refl _)]
set_option maxHeartbeats 1000000 in
theorem unframe_8 (s : ByteArray) (w : World) (hm : s.size ≤ maxLen) (hs : 4 ≤ s.size) :
    Calls Tryd.prog 45 #[.string s] w fun e w' => e = .returned (.tuple #[.string (ufP s), .string (ufR s), .int .i64 (ufE s)]) ∧ Below w.heap.size w w' := by
  have hm' := hm
  unfold maxLen at hm'
  obtain ⟨n, hn⟩ : ∃ n, n = ufn s := ⟨_, rfl⟩
  have HN : Hid (n = ufn s) := hn
  have hnl : n < 4294967296 := by rw [hn]; exact ufn_lt s
  clear hn
  obtain ⟨r1, hr1⟩ : ∃ r, r = s.extract 4 s.size := ⟨_, rfl⟩
  have HR1 : Hid (r1 = s.extract 4 s.size) := hr1
  have HZ1 : Hid (r1.size = s.size - 4) := by rw [hr1]; exact ext_size s 4 hs
  clear hr1
  go_enter Tryd.func45, Tryd.ntmps45
  go_wp2_with fail
  refine (new_any _ _).mono ?_
  rintro e w1 ⟨rfl, rfl⟩
  go_wp2_with fail
  refine (fixed_ok s w.heap.size _ hm (al_ptr _ _ _) (by simp) (by simp) 4 (by omega) (by omega) (by omega)).mono ?_
  rintro e w2 ⟨rfl, h2⟩
  rw [show fixV ((bl s).take 4) = n from HN.out.symm]
  rw [← HR1.out] at h2
  have H2 : Hid (Step w.heap.size (w.alloc (.cells #[.string s] 105)) w2 r1) := h2
  have HB2 : Hid (Below w.heap.size w w2) := ((Below.refl _ _).alloc (Nat.le_refl _) _).trans (h2.below (Nat.le_refl _) (by simp))
  have hz2 : w.heap.size < w2.heap.size := by have := h2.size; simp at this; omega
  clear h2
  by_cases hbig : 67108864 < n
  · go_wp2
    go_ret3
    exact ⟨ret_uf (uf_no (uf_long (by rw [← HN.out]; exact hbig))), HB2.out⟩
  have hn26 : (n : Int) ≤ 67108864 := by omega
  clear hbig
  go_wp2_with fail
  by_cases h8 : s.size < 8
  · refine (fixed_no r1 w.heap.size _ (by rw [HZ1.out]; unfold maxLen; omega) H2.out.cell H2.out.frozen hz2 4 (by omega) (by omega) (by rw [HZ1.out]; omega)).mono ?_
    rintro e w3 ⟨rfl, h3⟩
    have HB3 : Hid (Below w.heap.size w w3) := HB2.out.trans (h3.below (Nat.le_refl _) (by omega))
    clear h3
    go_wp2
    go_ret3
    exact ⟨ret_uf (uf_no (uf_short (by omega))), HB3.out⟩
  have h8' : 8 ≤ s.size := by omega
  clear h8
  obtain ⟨r2, hr2⟩ : ∃ r, r = s.extract 8 s.size := ⟨_, rfl⟩
  have HR2 : Hid (r2 = s.extract 8 s.size) := hr2
  have HZ2 : Hid (r2.size = s.size - 8) := by rw [hr2]; exact ext_size s 8 h8'
  clear hr2
  obtain ⟨cv, hcv⟩ : ∃ cv, cv = fixV (((bl s).drop 4).take 4) := ⟨_, rfl⟩
  have HC : Hid (cv = fixV (((bl s).drop 4).take 4)) := hcv
  have hcl : cv < 4294967296 := by rw [hcv]; exact fixV4_lt _
  clear hcv
  refine (fixed_ok r1 w.heap.size _ (by rw [HZ1.out]; unfold maxLen; omega) H2.out.cell H2.out.frozen hz2 4 (by omega) (by omega) (by rw [HZ1.out]; omega)).mono ?_
  rintro e w3 ⟨rfl, h3⟩
  rw [show fixV ((bl r1).take 4) = cv from by rw [HC.out, HR1.out, bl_drop]]
  rw [show r1.extract 4 r1.size = r2 from by apply bl_inj; rw [bl_drop, HR1.out, HR2.out, bl_drop, bl_drop, List.drop_drop]] at h3
  have H3 : Hid (Step w.heap.size w2 w3 r2) := h3
  have HB3 : Hid (Below w.heap.size w w3) := HB2.out.trans (h3.below (Nat.le_refl _) (by omega))
  have hz3 : w.heap.size < w3.heap.size := by have := h3.size; omega
  clear h3
  go_wp2_with fail
  by_cases hcut : s.size < 8 + n
  · refine (take_no r2 w.heap.size _ (by rw [HZ2.out]; unfold maxLen; omega) H3.out.cell H3.out.frozen hz3 n (by rw [HZ2.out]; omega) (by omega)).mono ?_
    rintro e w4 ⟨rfl, h4⟩
    have HB4 : Hid (Below w.heap.size w w4) := HB3.out.trans (h4.below (Nat.le_refl _) (by omega))
    clear h4
    go_wp2
    go_ret3
    exact ⟨ret_uf (uf_no (uf_cut (by rw [← HN.out]; exact hcut))), HB4.out⟩
  have hcut' : 8 + n ≤ s.size := by omega
  clear hcut
  obtain ⟨p, hp⟩ : ∃ p, p = r2.extract 0 n := ⟨_, rfl⟩
  have HPb : Hid (bl p = ((bl s).drop 8).take n) := by rw [hp, bl_extract, List.drop_zero, HR2.out, bl_drop]; rfl
  have HPz : Hid (p.size = n) := by show p.size = n; rw [← bl_length, HPb.out, List.length_take, List.length_drop, bl_length]; omega
  have hpz : p.size ≤ 67108864 := by rw [HPz.out]; omega
  refine (take_ok r2 w.heap.size _ (by rw [HZ2.out]; unfold maxLen; omega) H3.out.cell H3.out.frozen hz3 n (by rw [HZ2.out]; omega)).mono ?_
  rintro e w4 ⟨rfl, h4⟩
  rw [← hp]
  clear hp
  have HB4 : Hid (Below w.heap.size w w4) := HB3.out.trans (h4.below (Nat.le_refl _) (by omega))
  have hz4 : w.heap.size < w4.heap.size := by have := h4.size; omega
  clear h4
  go_wp2_with fail
  refine (fsum_any _ p _ (by unfold maxLen; simp; omega) (by unfold maxLen; omega)).mono ?_
  rintro e w5 ⟨rfl, h5⟩
  have HB5 : Hid (Below w.heap.size w w5) := HB4.out.trans (h5.mono (by omega))
  clear h5
  obtain ⟨q, hq⟩ : ∃ q : BitVec 32, q = crcC (bl (s.extract 0 4) ++ bl p) := ⟨_, rfl⟩
  rw [← hq]
  have HQ : Hid (q.toNat = (crcC ((bl s).take 4 ++ ((bl s).drop 8).take (ufn s))).toNat) := by
    show q.toNat = _
    rw [hq, HPb.out, HN.out, extract_take s 4 hs]
  have hlt := q.isLt
  clear hq
  have hps : 8 + p.size ≤ s.size := by rw [HPz.out]; exact hcut'
  by_cases hne : q.toNat = cv
  · have hb : ((q.toNat : Int) != (cv : Int)) = false := by rw [bne_eq_false_iff_eq]; omega
    have HE : Hid (q.toNat = cv) := hne
    clear hne
    go_wp2
    go_region
    go_wp2
    go_ret3
    have hok : ufB s = true := by
      rw [ufB_iff, ← HN.out]
      refine ⟨h8', by omega, hcut', ?_⟩
      rw [HN.out, ← HQ.out, ← HC.out]; exact HE.out
    refine ⟨ret_uf ?_, ?_⟩
    · obtain ⟨a, b, c⟩ := uf_yes hok
      refine ⟨?_, ?_, c⟩
      · rw [a]
        apply bl_inj
        rw [HPb.out, bl_extract, List.drop_take, Nat.add_sub_cancel_left, HN.out]
      · rw [b, ← HN.out, HPz.out]
    · exact HB5.out.drew
  · have hb : ((q.toNat : Int) != (cv : Int)) = true := by rw [bne_iff_ne]; omega
    have HE : Hid (¬ q.toNat = cv) := hne
    clear hne
    go_wp2
    go_ret3
    exact ⟨ret_uf (uf_no (uf_crc (by rw [← HQ.out, ← HC.out]; exact HE.out))), HB5.out⟩
theorem unframe_any (s : ByteArray) (w : World) (hm : s.size ≤ maxLen) :
    Calls Tryd.prog 45 #[.string s] w fun e w' => e = .returned (.tuple #[.string (ufP s), .string (ufR s), .int .i64 (ufE s)]) ∧ Below w.heap.size w w' := by
  by_cases h : s.size < 4
  · exact unframe_4 s w h
  · exact unframe_8 s w hm (by omega)
end Go.Proofs.YteccnnpialaalaaDoor
/- The layings of strings.Builder. -/
namespace Go.Proofs.YteccnnpialaalaaDoor
open Go.Shelf
def lays169_ren : Go.Shelf.Ren := ⟨fun | 169 => 24 | n => n, fun | 70 => 50 | 9 => 9 | 0 => 0 | 72 => 52 | 37 => 48 | 127 => 83 | 3 => 3 | 5 => 5 | n => n, fun | n => n⟩
theorem lays169 : Go.Proofs.Lays.n169 Tryd.prog lays169_ren := {
  mixed := by kernel_rfl
  f169 := Tryd.func24.trans (congrArg some (by kernel_rfl))
  t0 := Tryd.underlying0
  a0 := Tryd.isAgg0
  z0 := Tryd.sizeOf0
  v0 := Tryd.zeroValue0
  t3 := Tryd.underlying3
  a3 := Tryd.isAgg3
  z3 := Tryd.sizeOf3
  v3 := Tryd.zeroValue3
  t9 := Tryd.underlying9
  a9 := Tryd.isAgg9
  z9 := Tryd.sizeOf9
  v9 := Tryd.zeroValue9
  t37 := Tryd.underlying48
  a37 := Tryd.isAgg48
  z37 := Tryd.sizeOf48
  v37 := Tryd.zeroValue48
  t70 := Tryd.underlying50
  a70 := Tryd.isAgg50
  z70 := Tryd.sizeOf50
  v70 := Tryd.zeroValue50
  t72 := Tryd.underlying52
  a72 := Tryd.isAgg52
  z72 := Tryd.sizeOf52
  v72 := Tryd.zeroValue52
  t127 := Tryd.underlying83
  a127 := Tryd.isAgg83
  z127 := Tryd.sizeOf83
  v127 := Tryd.zeroValue83 }
def lays166_ren : Go.Shelf.Ren := ⟨fun | 166 => 20 | 240 => 38 | 276 => 56 | n => n, fun | 0 => 0 | 3 => 3 | 4 => 4 | 5 => 5 | 9 => 9 | 20 => 20 | 37 => 48 | 70 => 50 | 72 => 52 | 75 => 56 | 164 => 95 | 80 => 60 | n => n, fun | n => n⟩
theorem lays166 : Go.Proofs.Lays.n166 Tryd.prog lays166_ren := {
  mixed := by kernel_rfl
  f166 := Tryd.func20.trans (congrArg some (by kernel_rfl))
  f240 := Tryd.func38.trans (congrArg some (by kernel_rfl))
  f276 := Tryd.func56.trans (congrArg some (by kernel_rfl))
  t0 := Tryd.underlying0
  a0 := Tryd.isAgg0
  z0 := Tryd.sizeOf0
  v0 := Tryd.zeroValue0
  t3 := Tryd.underlying3
  a3 := Tryd.isAgg3
  z3 := Tryd.sizeOf3
  v3 := Tryd.zeroValue3
  t4 := Tryd.underlying4
  a4 := Tryd.isAgg4
  z4 := Tryd.sizeOf4
  v4 := Tryd.zeroValue4
  t9 := Tryd.underlying9
  a9 := Tryd.isAgg9
  z9 := Tryd.sizeOf9
  v9 := Tryd.zeroValue9
  t20 := Tryd.underlying20
  a20 := Tryd.isAgg20
  z20 := Tryd.sizeOf20
  v20 := Tryd.zeroValue20
  t37 := Tryd.underlying48
  a37 := Tryd.isAgg48
  z37 := Tryd.sizeOf48
  v37 := Tryd.zeroValue48
  t70 := Tryd.underlying50
  a70 := Tryd.isAgg50
  z70 := Tryd.sizeOf50
  v70 := Tryd.zeroValue50
  t72 := Tryd.underlying52
  a72 := Tryd.isAgg52
  z72 := Tryd.sizeOf52
  v72 := Tryd.zeroValue52
  t75 := Tryd.underlying56
  a75 := Tryd.isAgg56
  z75 := Tryd.sizeOf56
  v75 := Tryd.zeroValue56
  t164 := Tryd.underlying95
  a164 := Tryd.isAgg95
  z164 := Tryd.sizeOf95
  v164 := Tryd.zeroValue95 }
theorem extra166 : Builder.Extra Tryd.prog lays166_ren := {
  sizeBuilder := by kernel_rfl
  liesBuilder := by kernel_rfl
  t5 := Tryd.underlying5
  a5 := Tryd.isAgg5
  z5 := Tryd.sizeOf5
  v5 := Tryd.zeroValue5
  infoByte := by kernel_rfl
  cellsByte := by kernel_rfl
  sizeByte := by kernel_rfl
  neB5 := by decide }
theorem extra169 : Builder.Extra Tryd.prog lays169_ren := {
  sizeBuilder := by kernel_rfl
  liesBuilder := by kernel_rfl
  t5 := Tryd.underlying5
  a5 := Tryd.isAgg5
  z5 := Tryd.sizeOf5
  v5 := Tryd.zeroValue5
  infoByte := by kernel_rfl
  cellsByte := by kernel_rfl
  sizeByte := by kernel_rfl
  neB5 := by decide }
end Go.Proofs.YteccnnpialaalaaDoor
/- strings.Builder, all but WriteByte. -/
namespace Go.Proofs.YteccnnpialaalaaDoor
open Go.RowKit
set_option linter.unusedSimpArgs false
set_option linter.unusedVariables false
/-- A builder that holds these bytes. -/
abbrev Bld (B b : Nat) (l : List UInt8) (w : World) : Prop := Lib.IsBuilderF 52 5 B b (Lib.byteCells l) w
abbrev Oth (b : Nat) (w w' : World) : Prop := Lib.OthersKept 5 (some b) w w'
theorem str_cells (s : ByteArray) : Lib.strCells s = Lib.byteCells s.data.toList := by
  unfold Lib.strCells Lib.byteCells
  rfl
theorem writeS (B b : Nat) (l : List UInt8) (s : ByteArray) (w : World) (h : Bld B b l w) (hlen : l.length + s.size ≤ 140737488355328) (hBw : B ≤ w.heap.size) :
    Calls Tryd.prog 20 #[.pointer (some ⟨b, 0, none⟩), .string s] w fun e w' => e = .returned (.tuple #[.int .i64 s.size, .nilIface]) ∧ Bld B b (l ++ s.data.toList) w' ∧ Below B w w' ∧ Oth b w w' :=
  (Any.Builder_WriteString_k lays166 extra166 B b (Lib.byteCells l) s w h (by rw [Lib.byteCells_length]; exact hlen) hBw).mono fun e w' ⟨he, h1, h2, h3⟩ =>
    ⟨he, by rw [Bld, Lib.byteCells_append, ← str_cells]; exact Or.inr h1, h2, h3⟩
theorem buildS (B b : Nat) (l : List UInt8) (w : World) (h : Bld B b l w) (hBw : B ≤ w.heap.size) :
    Calls Tryd.prog 24 #[.pointer (some ⟨b, 0, none⟩)] w fun e w' => e = .returned (.string ⟨l.toArray⟩) ∧ Bld B b l w' ∧ Below B w w' ∧ Oth b w w' :=
  Any.Builder_String_any_k lays169 extra169 B b l w h hBw
theorem fresh_bld (w : World) : Bld w.heap.size w.heap.size [] (w.alloc (.cells #[.pointer none, .slice none 0 0] 52)) := Lib.IsBuilderF.of (Lib.fresh_isBuilder _ _ w)
end Go.Proofs.YteccnnpialaalaaDoor
/- The laying of strings.Builder.Grow. -/
namespace Go.Proofs.YteccnnpialaalaaDoor
open Go.Shelf
end Go.Proofs.YteccnnpialaalaaDoor
/- A block of the call's own, by its cells; rows stored into it and read out of it at any place. No program is named here. -/
namespace Go.Proofs.YteccnnpialaalaaDoor
open Go.RowKit
set_option linter.unusedSimpArgs false
set_option linter.unusedVariables false
/-- A block's cells. -/
abbrev Bk (w : World) (b : Nat) (C : Array Value) (T : TypeId) : Prop := w.heap[b]? = some (.cells C T (0, 0))
theorem Bk.cell {w : World} {b : Nat} {C : Array Value} {T : TypeId} (h : Bk w b C T) (j : Nat) : w.cell? ⟨b, j, none⟩ = C[j]? := cell_of_row w b j C T (0, 0) h
theorem Bk.frozen {w : World} {b : Nat} {C : Array Value} {T : TypeId} (h : Bk w b C T) (j : Nat) : w.frozen? ⟨b, j, none⟩ = false := frozen_of_row w b j C T h
theorem Bk.set {w : World} {b : Nat} {C : Array Value} {T : TypeId} (h : Bk w b C T) (i : Nat) (v : Value) : Bk (w.setCell ⟨b, i, none⟩ v) b (C.setIfInBounds i v) T := Joins.block_setCell h v
theorem Bk.lt {w : World} {b : Nat} {C : Array Value} {T : TypeId} (h : Bk w b C T) : b < w.heap.size := by
  by_cases e : b < w.heap.size
  · exact e
  · unfold Bk at h; rw [Array.getElem?_eq_none (by omega)] at h; cases h
theorem Bk.grown {w w' : World} {b : Nat} {C : Array Value} {T : TypeId} {r : Option Nat} (h : Bk w b C T) (hg : w.grownBy w' r) (hr : r ≠ some b) : Bk w' b C T := by
  have hlt := h.lt
  unfold Bk
  rw [hg.block b hlt (fun e => hr e.symm)]
  exact h
theorem Bk.below {w w' : World} {b n : Nat} {C : Array Value} {T : TypeId} (h : Bk w b C T) (hb : Below n w w') (hn : b < n) : Bk w' b C T := by
  unfold Bk
  rw [hb.block b hn]
  exact h
theorem Bk.alloc {w : World} {b : Nat} {C : Array Value} {T : TypeId} (h : Bk w b C T) (o : Obj) : Bk (w.alloc o) b C T := h.grown (World.grownBy_alloc w o none) (by simp)
theorem Bk.drewN {w : World} {b : Nat} {C : Array Value} {T : TypeId} (h : Bk w b C T) (n : Nat) : Bk (w.drewN n) b C T := h
theorem bk_new (w : World) (C : Array Value) (T : TypeId) : Bk (w.alloc (.cells C T)) w.heap.size C T := by
  show (w.heap.push _)[w.heap.size]? = some _
  simp
theorem al_size (w : World) (o : Obj) : (w.alloc o).heap.size = w.heap.size + 1 := by
  show (w.heap.push o).size = _
  simp
theorem gr_of_below {w w' : World} (h : Below w.heap.size w w') (r : Option Nat) : w.grownBy w' r := ⟨h.os, h.tape, h.output, h.size, fun i hi _ => h.block i hi⟩
theorem below_of_gr {w w' : World} (h : w.grownBy w' none) : Below w.heap.size w w' := ⟨h.os, h.tape, h.output, h.size, fun i hi => h.block i hi (by simp)⟩
theorem gr_drewN (w : World) (n : Nat) (r : Option Nat) : w.grownBy (w.drewN n) r := by
  induction n with
  | zero => exact World.grownBy.refl w r
  | succ n ih => exact Lib.Hx.grownBy_drew ih
theorem below_own {B b : Nat} {w wr w1 : World} (hb : Below B w wr) (hz : B ≤ wr.heap.size) (hg : wr.grownBy w1 (some b)) (hB : B ≤ b) : Below B w w1 :=
  hb.grown hg hz (fun k hk => by cases hk; exact hB)
theorem below_drewN {B : Nat} {w wr : World} (hb : Below B w wr) (n : Nat) : Below B w (wr.drewN n) := by
  induction n with
  | zero => exact hb
  | succ n ih => exact ih.drew
/-- Cells laid over others from a place on. -/
def putC (C : Array Value) (o : Nat) : List Value → Array Value
  | [] => C
  | v :: r => putC (C.setIfInBounds o v) (o + 1) r
theorem Bk.puts {b : Nat} {T : TypeId} : ∀ (vs : List Value) (o : Nat) (C : Array Value) (w : World), Bk w b C T → Bk (w.setCells b o vs) b (putC C o vs) T
  | [], _, _, _, h => h
  | v :: r, o, C, w, h => by
    rw [World.setCells, putC]
    exact Bk.puts r (o + 1) _ _ (h.set o v)
theorem gr_puts (b : Nat) : ∀ (vs : List Value) (o : Nat) {a w : World}, a.grownBy w (some b) → a.grownBy (w.setCells b o vs) (some b)
  | [], _, _, _, h => h
  | v :: r, o, a, w, h => by rw [World.setCells]; exact gr_puts b r (o + 1) (Lib.grownBy_setB h o v)
theorem putC_size : ∀ (vs : List Value) (o : Nat) (C : Array Value), (putC C o vs).size = C.size
  | [], _, _ => rfl
  | v :: r, o, C => by rw [putC, putC_size r, Array.size_setIfInBounds]
theorem putC_get : ∀ (vs : List Value) (o : Nat) (C : Array Value) (i : Nat), o + vs.length ≤ C.size → (putC C o vs)[i]? = if o ≤ i ∧ i < o + vs.length then vs[i - o]? else C[i]?
  | [], o, C, i, _ => by rw [putC, if_neg (by simp)]
  | v :: r, o, C, i, h => by
    simp only [List.length_cons] at h
    rw [putC, putC_get r (o + 1) _ i (by rw [Array.size_setIfInBounds]; omega), Array.getElem?_setIfInBounds]
    by_cases e : o = i
    · subst e
      rw [if_neg (by omega), if_pos rfl, if_pos (by omega), if_pos (by simp), Nat.sub_self]; rfl
    · by_cases e2 : o + 1 ≤ i ∧ i < o + 1 + r.length
      · rw [if_pos e2, if_pos (by simp; omega)]
        rw [show i - o = (i - (o + 1)) + 1 from by omega, List.getElem?_cons_succ]
      · rw [if_neg e2, if_neg e, if_neg (by simp; omega)]
theorem setCells_size (b : Nat) : ∀ (vs : List Value) (o : Nat) (w : World), (w.setCells b o vs).heap.size = w.heap.size
  | [], _, _ => rfl
  | v :: r, o, w => by
    rw [World.setCells, setCells_size b r]
    simp [World.setCell]
theorem Bk.there {w : World} {b : Nat} {C : Array Value} {T : TypeId} (h : Bk w b C T) (o n : Nat) (hn : o + n ≤ C.size) : w.there b o n := fun j hj =>
  ⟨by rw [h.cell, Array.getElem?_eq_getElem (by omega)]; rfl, h.frozen _⟩
/-- The store of many cells into a block: the world behind it is a letter. -/
theorem wpList_put {P : Program} {ops : Array Oper} {rest : List Oper} {op : Oper} {a : Act} {w : World} {Q : Exit → Act → World → Prop} (hgd : op.guard = none) (ty : TypeId) (x y : Operand) (ho : op.op = .store ty x y)
    (b o : Nat) (C cells : Array Value) (T : TypeId) (hx : a.eval x = .pointer (some ⟨b, o, none⟩)) (hy : a.eval y = .agg cells)
    (hB : Bk w b C T) (hi : (P.info? ty).map (·.size) = some cells.size) (hn : o + cells.size ≤ C.size) (h1 : cells.all (·.oneCell') = true)
    (h : ∀ w', Hid (Bk w' b (putC C o cells.toList) T) → Hid (w.grownBy w' (some b)) → w'.heap.size = w.heap.size → wpList P ops Q rest (a.put op.dst undef) w') : wpList P ops Q (op :: rest) a w :=
  wpList_store_mid hgd ty x y ho b o cells hx hy (hB.there o _ hn) hi h1
    (h _ (Bk.puts _ _ _ _ hB) (gr_puts b _ _ (World.grownBy.refl _ _)) (setCells_size b _ _ _))
/-- The load of many cells out of a block. -/
theorem wpList_get {P : Program} {ops : Array Oper} {rest : List Oper} {op : Oper} {a : Act} {w : World} {Q : Exit → Act → World → Prop} (hgd : op.guard = none) (ty : TypeId) (x : Operand) (ho : op.op = .load ty x)
    (b o : Nat) (C cells : Array Value) (T : TypeId) (d : TypeDesc) (hx : a.eval x = .pointer (some ⟨b, o, none⟩))
    (hB : Bk w b C T) (hc : ∀ j v, cells[j]? = some v → C[o + j]? = some v) (hu : P.underlying ty = some d) (hd : d.isRow = true) (hi : (P.info? ty).map (·.size) = some cells.size)
    (h : wpList P ops Q rest (a.put op.dst (.agg cells)) w) : wpList P ops Q (op :: rest) a w :=
  wpList_load_mid hgd ty x ho b o hx cells.toList d (fun j v hv => by rw [hB.cell]; exact hc j v (by rwa [Array.getElem?_toList] at hv)) hu hd (by rw [hi]; simp) h
end Go.Proofs.YteccnnpialaalaaDoor
/- strings.Builder: Write of bytes that lie somewhere, Grow of a fresh one. -/
namespace Go.Proofs.YteccnnpialaalaaDoor
open Go.RowKit
set_option linter.unusedSimpArgs false
set_option linter.unusedVariables false
set_option maxHeartbeats 2000000 in
set_option maxRecDepth 100000 in
theorem writeV (B b : Nat) (l L : List UInt8) (g o n c : Nat) (C : Array Value) (T : TypeId) (w : World) (h : Bld B b l w) (hB0 : Bk w g C T) (hT : T ≠ 5) (hgb : g ≠ b) (hL : L.length = n) (hc : ∀ j u, (Lib.byteCells L)[j]? = some u → C[o + j]? = some u) (hlen : l.length + n ≤ 140737488355328) (hBw : B ≤ w.heap.size) :
    Calls Tryd.prog 22 #[.pointer (some ⟨b, 0, none⟩), .slice (some ⟨g, o, none⟩) n c] w fun e w' => e = .returned (.tuple #[.int .i64 n, .nilIface]) ∧ Bld B b (l ++ L) w' ∧ Below B w w' ∧ Oth b w w' := by
  obtain ⟨i0, hi, hz0, hz1, hz2⟩ := info_parts extra166.infoByte
  have hi' : Tryd.prog.info? 5 = some i0 := hi
  have e240 : ∀ args w, (callFunc 38 args).run Tryd.prog w = .ok (.enter 38 args) w := enters_of Tryd.func38 (by kernel_rfl) rfl
  have HCK : Hid (Calls Tryd.prog 38 #[.pointer (some ⟨b, 0, none⟩)] w fun e w' => e = .returned (.tuple #[]) ∧ (Lib.BuilderAtF 52 5 B b (.pointer (some ⟨b, 0, none⟩)) (Lib.byteCells l) w' ∧ Below B w w' ∧ Lib.OthersKept 5 (some b) w w')) := Any.Builder_copyCheck_k { lays166 with } extra166.toX72 B b (Lib.byteCells l) w h
  have HB0 : Hid (Bk w g C T) := hB0
  have HC : Hid (∀ j u, (Lib.byteCells L)[j]? = some u → C[o + j]? = some u) := hc
  have HLL : Hid (L.length = n) := hL
  clear h hB0 hc hi
  have hbl := Lib.byteCells_length l
  have hbL := Lib.byteCells_length L
  go_enter Tryd.func22, Tryd.ntmps22
  go_wp2_with fail
  refine HCK.out.mono ?_
  rintro e w1 ⟨rfl, h1, hb1, hk1⟩
  obtain ⟨hB, v, hbk, hown, hne⟩ := h1
  have c0 : w1.cell? ⟨b, 0, none⟩ = some (.pointer (some ⟨b, 0, none⟩)) := by rw [Lib.cell_of_heap hbk]; rfl
  have c1 : w1.cell? ⟨b, 1, none⟩ = some v := by rw [Lib.cell_of_heap hbk]; rfl
  have HB1 : Hid (Bk w1 g C T) := hk1 g _ HB0.out (fun e => hgb (Option.some.inj e)) (fun c' fz e => by injection e with _ e2; exact hT e2)
  go_wp2_with (at_builtin; refine wpList_append_ownF _ rfl _ _ 48 rfl B 5 i0 (.int .u8 0) 1 1 Tryd.underlying48 hi' hz0 hz1 hz2 rfl (by decide) _ _ _ rfl hown ⟨g, o, none⟩ n c (Lib.byteCells L) rfl ?c0 ?c1 ?c2 ?c3 ?c4 ?c5 ?_)
  case c0 => rw [hbL, HLL.out, Nat.mul_one]
  case c1 =>
    intro j u hj
    rw [WideShapes.add_plain, HB1.out.cell]
    exact HC.out j u hj
  case c2 => exact Lib.byteCells_one L
  case c3 => rw [hbl]; unfold maxLen; omega
  case c4 => rw [hbl]; omega
  case c5 => have := hb1.size; omega
  intro v' w2 hown' hgrow _
  have hlt : b < w1.heap.size := by
    rcases Nat.lt_or_ge b w1.heap.size with h' | h'
    · exact h'
    · simp [Array.getElem?_eq_none h'] at hbk
  have hb2 : w2.heap[b]? = some (.cells #[.pointer (some ⟨b, 0, none⟩), v] 52 (0, 0)) := by
    rw [hgrow.block b hlt (fun e => hne e.symm)]
    exact hbk
  have d0 : w2.cell? ⟨b, 0, none⟩ = some (.pointer (some ⟨b, 0, none⟩)) := by rw [Lib.cell_of_heap hb2]; rfl
  have d1 : w2.cell? ⟨b, 1, none⟩ = some v := by rw [Lib.cell_of_heap hb2]; rfl
  have f1 : w2.frozen? ⟨b, 1, none⟩ = false := Lib.frozen_of_heap hb2 1
  obtain ⟨ao, n', cap, rfl⟩ : ∃ ao n' cap, v' = .slice ao n' cap := by
    rcases hown'.2 with ⟨hv, _⟩ | ⟨g, cap, cur, fz, hv, _⟩
    · exact ⟨_, _, _, hv⟩
    · exact ⟨_, _, _, hv⟩
  have HE : Hid (Bld B b (l ++ L) (w2.setCell ⟨b, 1, none⟩ (.slice ao n' cap)) ∧ Below B w (w2.setCell ⟨b, 1, none⟩ (.slice ao n' cap)) ∧ Oth b w (w2.setCell ⟨b, 1, none⟩ (.slice ao n' cap))) := by
    refine ⟨Or.inr ?_, ?_, (hk1.grown hgrow (Lib.ownsRowF_kind hown)).setCell ⟨b, 1, none⟩ rfl _⟩
    · rw [Lib.byteCells_append]
      exact Lib.BuilderAtF.put (T := 52) (e := 5) hB hb2 (bs' := Lib.byteCells l ++ Lib.byteCells L) (by rw [List.length_append, hbL, hbl, HLL.out]; exact hown') extra166.neB5
    · exact (hb1.grown hgrow (by have := hb1.size; omega) (fun k hk => (hown.lt k hk).1)).setCell (p := ⟨b, 1, none⟩) hB _
  clear hown hown' hgrow hk1 hb1 hbk hb2 hne
  go_wp2
  go_ret2
  exact ⟨rfl, HE.out⟩
end Go.Proofs.YteccnnpialaalaaDoor
/- A slice of structs that came in, opened at an index: plain laws on readings, over any program. -/
namespace Go.Proofs.YteccnnpialaalaaDoor
open Go.ChangeShapes Go.WideShapes Go.ChangeAt Go.RowKit
set_option linter.unusedSimpArgs false
set_option linter.unusedVariables false
theorem weightsAll_mem {H : Type} {P : Program} {e : TypeId} : ∀ {l : List (DataW H)} {d : DataW H}, d ∈ l → ∀ n ∈ d.weights P e, n ∈ DataW.weightsAll P e l
  | [], _, h, _, _ => by simp at h
  | x :: l, d, hd, n, hn => by
    simp only [DataW.weightsAll, List.mem_append]
    rcases List.mem_cons.1 hd with rfl | h
    · exact Or.inl hn
    · exact Or.inr (weightsAll_mem h n hn)
theorem open_elem {H : Type} {enc : TypeId × Value → H} {P : Program} {w : World} {t e : TypeId} {d : DataW H} {ps : List MemPlace} {a0 : Option Addr} {len cap : Nat}
    (ht : P.underlying t = some (.slice e)) (hce : 0 < P.cellsOf e) (h : DataW.Trod enc P w 0 (fun _ => true) true t (.slice a0 len cap) d ps) :
    len ≤ maxLen ∧ ∀ i, i < len → ∃ (b off : Nat) (cs : List Value) (D : DataW H) (Pl : List MemPlace) (n : Nat), a0 = some ⟨b, off, none⟩ ∧ b < w.heap.size ∧ cs.length = P.cellsOf e ∧
      (∀ j, j < P.cellsOf e → w.cell? ⟨b, off + i * P.cellsOf e + j, none⟩ = cs[j]?) ∧ DataW.trod enc P w 0 (fun _ => true) true n e cs = some (D, Pl) ∧ ∀ q ∈ D.weights P e, q ∈ d.weights P t := by
  obtain ⟨fuel, hf⟩ := h
  have hcs : (Value.slice a0 len cap).cells.toList = [.slice a0 len cap] := by simp [Value.cells]
  rw [hcs] at hf
  rcases Go.Deep.open_slice ht hf with ⟨h1, _⟩ | ⟨a, l, c, m, n, D, Pl, h1, _, hl, hm, hmm, hx, hi⟩
  · simp only [List.cons.injEq, Value.slice.injEq, and_true] at h1
    obtain ⟨rfl, rfl, rfl⟩ := h1
    exact ⟨by unfold maxLen; omega, fun i hi => by omega⟩
  · simp only [List.cons.injEq, Value.slice.injEq, and_true] at h1
    obtain ⟨rfl, rfl, rfl⟩ := h1
    have hmc : m = cap := by simpa using hmm
    refine ⟨by omega, fun i hil => ?_⟩
    obtain ⟨cs, h2, h3⟩ := hi i (by omega)
    obtain ⟨_, hlen, hcell⟩ := World.cells?_some h2
    obtain ⟨b, off, spot⟩ := a
    have hsp : spot = none := by
      obtain ⟨cs0, k2, _⟩ := hi 0 (by omega)
      obtain ⟨_, klen, kcell⟩ := World.cells?_some k2
      have kc := kcell 0 hce
      rw [Go.Deep.add_add, Nat.zero_mul, Nat.zero_add, show (⟨b, off, spot⟩ : Addr).add 0 = ⟨b, off, spot⟩ from rfl, List.getElem?_eq_getElem (by omega)] at kc
      exact World.cell?_spot kc
    subst hsp
    have hc0 := hcell 0 hce
    rw [Go.Deep.add_add, add_plain, List.getElem?_eq_getElem (by omega)] at hc0
    refine ⟨b, off, cs, D i, Pl i, n, rfl, block_lt_of_cell hc0, hlen, fun j hj => ?_, h3, fun q hq => ?_⟩
    · have := hcell j hj
      rw [Go.Deep.add_add, add_plain, ← Nat.add_assoc] at this
      exact this
    · simp only [Prod.mk.injEq] at hx
      rw [hx.1]
      simp only [DataW.weights, ht, List.mem_cons, List.mem_append]
      exact Or.inr (Or.inl (weightsAll_mem (List.mem_map.2 ⟨i, by simpa using hil, rfl⟩) q hq))
theorem open_cap {H : Type} {enc : TypeId × Value → H} {P : Program} {w : World} {t e : TypeId} {d : DataW H} {ps : List MemPlace} {a0 : Option Addr} {len cap : Nat}
    (ht : P.underlying t = some (.slice e)) (h : DataW.Trod enc P w 0 (fun _ => true) true t (.slice a0 len cap) d ps) : len ≤ cap ∧ cap ≤ maxLen := by
  obtain ⟨fuel, hf⟩ := h
  have hcs : (Value.slice a0 len cap).cells.toList = [.slice a0 len cap] := by simp [Value.cells]
  rw [hcs] at hf
  rcases Go.Deep.open_slice ht hf with ⟨h1, _⟩ | ⟨a, l, c, m, n, D, Pl, h1, _, hl, hm, hmm, hx, hi⟩
  · simp only [List.cons.injEq, Value.slice.injEq, and_true] at h1
    obtain ⟨rfl, rfl, rfl⟩ := h1
    exact ⟨Nat.le_refl _, by unfold maxLen; omega⟩
  · simp only [List.cons.injEq, Value.slice.injEq, and_true] at h1
    obtain ⟨rfl, rfl, rfl⟩ := h1
    have hmc : m = cap := by simpa using hmm
    omega
end Go.Proofs.YteccnnpialaalaaDoor
/- Plain facts: what a reader took, put again, is the bytes that it took. -/
namespace Go.Proofs.YteccnnpialaalaaDoor
set_option linter.unusedSimpArgs false
set_option linter.unusedVariables false
open Go
theorem slen_unique (n k : Nat) (h : n < 2 ^ 64) (hk : 1 ≤ k) (h1 : n < 128 ^ k) (h2 : 1 < k → 128 ^ (k - 1) ≤ n) : slen n = k := by
  have a := slen_pos n
  have b := slen_hi n h
  rcases Nat.lt_trichotomy (slen n) k with c | c | c
  · have d := h2 (by omega)
    have e : 128 ^ slen n ≤ 128 ^ (k - 1) := Nat.pow_le_pow_right (by omega) (by omega)
    omega
  · exact c
  · have d := slen_lo n h (by omega)
    have e : 128 ^ k ≤ 128 ^ (slen n - 1) := Nat.pow_le_pow_right (by omega) (by omega)
    omega
theorem enc_dec : ∀ (l : List UInt8) (i acc n k : Nat), dec i acc l = some (n, k) →
    ∃ v, n = acc + v * 128 ^ i ∧ i + 1 ≤ k ∧ by8 (encN (k - i - 1) v) = l.take (k - i) ∧ v < 128 ^ (k - i) ∧ (0 < i → 0 < v) ∧ (i + 1 < k → 128 ^ (k - i - 1) ≤ v)
  | [], i, acc, n, k, h => by simp [dec] at h
  | b :: r, i, acc, n, k, h => by
    rw [dec] at h
    split at h
    · simp at h
    · split at h
      · rename_i hb
        obtain ⟨v, e1, e2, e3, e4, e5, e6⟩ := enc_dec r (i + 1) _ n k h
        have hv := e5 (by omega)
        have hb2 := b.toNat_lt
        have hk : k - i = (k - (i + 1)) + 1 := by omega
        have hk1 : k - i - 1 = (k - (i + 1) - 1) + 1 := by omega
        refine ⟨b.toNat % 128 + 128 * v, ?_, by omega, ?_, ?_, fun _ => by omega, fun _ => ?_⟩
        · rw [e1, Nat.pow_succ, Nat.add_mul]
          have : v * (128 ^ i * 128) = 128 * v * 128 ^ i := by rw [Nat.mul_comm (128 ^ i) 128, ← Nat.mul_assoc, Nat.mul_comm v 128]
          omega
        · rw [hk1, hk, encN, List.take_succ_cons, ← e3]
          have q1 : (b.toNat % 128 + 128 * v) % 128 + 128 = b.toNat := by omega
          have q2 : (b.toNat % 128 + 128 * v) / 128 = v := by omega
          rw [q1, q2]
          show UInt8.ofNat b.toNat :: by8 (encN (k - (i + 1) - 1) v) = _
          simp
        · rw [hk, Nat.pow_succ]; omega
        · rcases Nat.lt_or_ge (i + 1 + 1) k with g | g
          · have := e6 g
            rw [hk1, Nat.pow_succ]; omega
          · have : k - i - 1 = 1 := by omega
            rw [this]; omega
      · rename_i hb
        split at h
        · simp at h
        · rename_i hc
          simp only [Option.some.injEq, Prod.mk.injEq] at h
          obtain ⟨rfl, rfl⟩ := h
          refine ⟨b.toNat, rfl, by omega, ?_, ?_, fun hi => by omega, fun g => by omega⟩
          · rw [show i + 1 - i - 1 = 0 from by omega, show i + 1 - i = 1 from by omega]
            show [UInt8.ofNat b.toNat] = [b]
            simp
          · rw [show i + 1 - i = 1 from by omega]; omega
/-- A short number that was read, put again, is the bytes that were read. -/
theorem sh_again (s : ByteArray) (h : shK s ≠ 0) : sb (encS (shN s)) = s.extract 0 (shK s) := by
  unfold shK shN at *
  cases e : decS (bl s) with
  | none => rw [e] at h; simp at h
  | some p =>
    obtain ⟨v, e1, e2, e3, e4, e5, e6⟩ := enc_dec (bl s) 0 0 p.1 p.2 e
    have bnd := dec_bounds (bl s) 0 0 p.1 p.2 e (by omega)
    simp only [Option.getD_some]
    have hv : p.1 = v := by simpa using e1
    have hs : slen p.1 = p.2 := slen_unique p.1 p.2 bnd.2.2.2 (by omega) (by rw [hv]; simpa using e4) (fun g => by rw [hv]; simpa using e6 (by omega))
    apply bl_inj
    rw [bl_sb, extract_take s p.2 (by rw [← bl_length]; omega), encS, hs, hv]
    simpa using e3
theorem fixN_fixV : ∀ (d : Nat) (l : List UInt8), l.length = d → by8 (fixN d (fixV l)) = l
  | 0, l, h => by have : l = [] := by cases l with | nil => rfl | cons a b => simp at h
                  subst this; rfl
  | d + 1, l, h => by
    obtain ⟨l', c, rfl⟩ : ∃ l' c, l = l' ++ [c] := ⟨l.dropLast, l.getLast (by intro e; subst e; simp at h), (List.dropLast_concat_getLast _).symm⟩
    have hc := c.toNat_lt
    have hl : l'.length = d := by simpa using h
    have e : by8 (fixN (d + 1) (fixV (l' ++ [c]))) = by8 (fixN d (fixV (l' ++ [c]) / 256)) ++ [UInt8.ofNat (fixV (l' ++ [c]) % 256)] := by simp [by8, fixN]
    rw [e, fixV_snoc, show (fixV l' * 256 + c.toNat) / 256 = fixV l' from by omega, show (fixV l' * 256 + c.toNat) % 256 = c.toNat from by omega, fixN_fixV d l' hl]
    simp
theorem fix_again (s : ByteArray) (d : Nat) (h : d ≤ s.size) : sb (fixN d (fixV ((bl s).take d))) = s.extract 0 d := by
  apply bl_inj
  rw [bl_sb, extract_take s d h]
  exact fixN_fixV d _ (by rw [List.length_take, bl_length]; omega)
theorem fix_lt (s : ByteArray) (d : Nat) (h : d ≤ s.size) : fixV ((bl s).take d) < 256 ^ d := by
  have := fixV_lt ((bl s).take d)
  rwa [List.length_take, bl_length, Nat.min_eq_left h] at this
theorem take_all (s : ByteArray) : (bl s).take s.size = bl s := List.take_of_length_le (by rw [bl_length]; exact Nat.le_refl _)
/-- Taken off the front: the two parts make the whole. -/
theorem split_at (s : ByteArray) (k : Nat) (h : k ≤ s.size) : s.extract 0 k ++ s.extract k s.size = s := by
  apply bl_inj
  rw [bl_append, extract_take s k h, bl_extract, take_all, List.take_append_drop]
theorem split_mid (s : ByteArray) (j k : Nat) (h : j ≤ k) (hk : k ≤ s.size) : s.extract 0 j ++ s.extract j k ++ s.extract k s.size = s := by
  apply bl_inj
  rw [bl_append, bl_append, extract_take s j (by omega), bl_extract, bl_extract, take_all]
  have e : (bl s).take j = ((bl s).take k).take j := by rw [List.take_take, Nat.min_eq_left h]
  rw [e, List.take_append_drop, List.take_append_drop]
theorem front_of (s a r : ByteArray) (h : s = a ++ r) : s.extract 0 (s.size - r.size) = a := by
  have hz : s.size = a.size + r.size := by subst h; simp
  apply bl_inj
  rw [extract_take s _ (by omega), show s.size - r.size = a.size from by omega]
  subst h
  rw [bl_append, List.take_append_of_le_length (by rw [bl_length]; exact Nat.le_refl _), List.take_of_length_le (by rw [bl_length]; exact Nat.le_refl _)]
theorem next_of (s a r p r' : ByteArray) (h : s = a ++ r) (hr : p ++ r' = r) : s = a ++ p ++ r' := by
  rw [h, ← hr]; apply bl_inj; simp [bl_append]
end Go.Proofs.YteccnnpialaalaaDoor
/- Plain facts on digits: bytes as digits and back. -/
namespace Go.Proofs.YteccnnpialaalaaDoor
set_option linter.unusedSimpArgs false
set_option linter.unusedVariables false
open Go
/-- The digit that stands for a number below 16. -/
def dg (v : Nat) : Nat := if v < 10 then 48 + v else 87 + v
/-- What a digit says. -/
def dvl (c : Nat) : Option Nat := if 48 ≤ c ∧ c ≤ 57 then some (c - 48) else if 97 ≤ c ∧ c ≤ 102 then some (c - 87) else none
theorem dg_lt (v : Nat) (h : v < 16) : dg v < 256 := by unfold dg; split <;> omega
theorem dvl_dg (v : Nat) (h : v < 16) : dvl (dg v) = some v := by
  have : ∀ v : Fin 16, dvl (dg v.val) = some v.val := by decide
  exact this ⟨v, h⟩
theorem dvl_some {c v : Nat} (h : dvl c = some v) : v < 16 ∧ dg v = c := by
  unfold dvl at h
  split at h
  · simp only [Option.some.injEq] at h; unfold dg; rw [if_pos (by omega)]; omega
  · split at h
    · simp only [Option.some.injEq] at h; unfold dg; rw [if_neg (by omega)]; omega
    · simp at h
theorem dvl_none {c : Nat} (h : dvl c = none) : ∀ v, v < 16 → dg v ≠ c := by
  intro v hv e
  rw [← e, dvl_dg v hv] at h
  simp at h
/-- Bytes as digits. -/
def hexL : List UInt8 → List Nat
  | [] => []
  | c :: r => dg (c.toNat / 16) :: dg (c.toNat % 16) :: hexL r
/-- Digits as bytes. -/
def unhexL : List UInt8 → Option (List Nat)
  | [] => some []
  | [_] => none
  | a :: b :: r => match dvl a.toNat, dvl b.toNat, unhexL r with
    | some x, some y, some m => some ((x * 16 + y) :: m)
    | _, _, _ => none
theorem hexL_append : ∀ (a b : List UInt8), hexL (a ++ b) = hexL a ++ hexL b
  | [], b => rfl
  | c :: r, b => by simp [hexL, hexL_append r b]
theorem hexL_length : ∀ l : List UInt8, (hexL l).length = 2 * l.length
  | [] => rfl
  | c :: r => by simp [hexL, hexL_length r]; omega
theorem unhex_hex : ∀ l : List UInt8, unhexL (by8 (hexL l)) = some (l.map UInt8.toNat)
  | [] => rfl
  | c :: r => by
    have hc := c.toNat_lt
    have e : by8 (hexL (c :: r)) = UInt8.ofNat (dg (c.toNat / 16)) :: UInt8.ofNat (dg (c.toNat % 16)) :: by8 (hexL r) := rfl
    rw [e, unhexL, toNat_ofNat8 _ (dg_lt _ (by omega)), toNat_ofNat8 _ (dg_lt _ (by omega)), dvl_dg _ (by omega), dvl_dg _ (by omega), unhex_hex r]
    simp only [List.map_cons]
    congr 2
    omega
theorem ofNat_toNat8 (c : UInt8) : UInt8.ofNat c.toNat = c := by simp
theorem by8_toNat : ∀ l : List UInt8, by8 (l.map UInt8.toNat) = l
  | [] => rfl
  | c :: r => by
    have e : by8 ((c :: r).map UInt8.toNat) = UInt8.ofNat c.toNat :: by8 (r.map UInt8.toNat) := rfl
    rw [e, ofNat_toNat8, by8_toNat r]
theorem hex_unhex : ∀ (n : Nat) (l : List UInt8), l.length ≤ n → ∀ m, unhexL l = some m → by8 (hexL (by8 m)) = l ∧ 2 * m.length = l.length
  | _, [], _, m, h => by simp [unhexL] at h; subst h; exact ⟨rfl, rfl⟩
  | _, [_], _, m, h => by simp [unhexL] at h
  | 0, a :: b :: r, hl, m, h => by simp at hl
  | n + 1, a :: b :: r, hl, m, h => by
    rw [unhexL] at h
    split at h
    · rename_i x y m' hx hy hm
      simp only [Option.some.injEq] at h
      subst h
      obtain ⟨i1, i2⟩ := hex_unhex n r (by simp at hl; omega) m' hm
      obtain ⟨x1, x2⟩ := dvl_some hx
      obtain ⟨y1, y2⟩ := dvl_some hy
      have e : by8 (hexL (by8 ((x * 16 + y) :: m'))) = UInt8.ofNat (dg ((UInt8.ofNat (x * 16 + y)).toNat / 16)) :: UInt8.ofNat (dg ((UInt8.ofNat (x * 16 + y)).toNat % 16)) :: by8 (hexL (by8 m')) := rfl
      rw [e, toNat_ofNat8 _ (by omega), show (x * 16 + y) / 16 = x from by omega, show (x * 16 + y) % 16 = y from by omega, x2, y2, i1, ofNat_toNat8, ofNat_toNat8]
      exact ⟨rfl, by simp; omega⟩
    · simp at h
/-- What Unhex answers. -/
def uhS (s : ByteArray) : ByteArray := ((unhexL (bl s)).map sb).getD ⟨#[]⟩
def uhE (s : ByteArray) : Int := if (unhexL (bl s)).isSome then 0 else 4
theorem unhexL_odd : ∀ (n : Nat) (l : List UInt8), l.length ≤ n → l.length % 2 = 1 → unhexL l = none
  | _, [], _, h => by simp at h
  | _, [_], _, _ => rfl
  | 0, a :: b :: r, hl, _ => by simp at hl
  | n + 1, a :: b :: r, hl, h => by
    rw [unhexL, unhexL_odd n r (by simp at hl; omega) (by simp at h; omega)]
    split <;> simp_all
theorem drop_two (s : ByteArray) (k : Nat) (h : k + 1 < s.size) : (bl s).drop k = s[k] :: s[k + 1] :: (bl s).drop (k + 2) := by
  rw [drop_at s k (by omega), drop_at s (k + 1) h]
/-- One more pair is read. -/
theorem unhex_step (s : ByteArray) (k : Nat) (m : List Nat) (x y : Nat) (h : k + 1 < s.size) (hm : unhexL (bl s) = (unhexL ((bl s).drop k)).map (m ++ ·)) (hx : dvl s[k].toNat = some x) (hy : dvl s[k + 1].toNat = some y) :
    unhexL (bl s) = (unhexL ((bl s).drop (k + 2))).map (m ++ [x * 16 + y] ++ ·) := by
  rw [hm, drop_two s k h, unhexL, hx, hy]
  cases unhexL ((bl s).drop (k + 2)) with
  | none => rfl
  | some r => simp
theorem unhex_bad (s : ByteArray) (k : Nat) (m : List Nat) (h : k + 1 < s.size) (hm : unhexL (bl s) = (unhexL ((bl s).drop k)).map (m ++ ·)) (hx : dvl s[k].toNat = none ∨ dvl s[k + 1].toNat = none) :
    unhexL (bl s) = none := by
  rw [hm, drop_two s k h, unhexL]
  rcases hx with e | e
  · rw [e]; rfl
  · rw [e]; split <;> simp_all
theorem unhex_all (s : ByteArray) (k : Nat) (m : List Nat) (h : s.size ≤ k) (hm : unhexL (bl s) = (unhexL ((bl s).drop k)).map (m ++ ·)) : unhexL (bl s) = some m := by
  rw [hm, List.drop_of_length_le (by rw [bl_length]; exact h)]; simp [unhexL]
theorem uh_some {s : ByteArray} {m : List Nat} (h : unhexL (bl s) = some m) : uhS s = sb m ∧ uhE s = 0 := by simp [uhS, uhE, h]
theorem uh_none {s : ByteArray} (h : unhexL (bl s) = none) : uhS s = ⟨#[]⟩ ∧ uhE s = 4 := by simp [uhS, uhE, h]
/-- Digits there and back. -/
theorem uh_hex (s : ByteArray) : uhS (sb (hexL (bl s))) = s ∧ uhE (sb (hexL (bl s))) = 0 := by
  have e : unhexL (bl (sb (hexL (bl s)))) = some ((bl s).map UInt8.toNat) := by rw [bl_sb]; exact unhex_hex _
  obtain ⟨a, b⟩ := uh_some e
  refine ⟨?_, b⟩
  rw [a]
  apply bl_inj
  rw [bl_sb, by8_toNat]
theorem hex_uh (s : ByteArray) (h : uhE s = 0) : sb (hexL (bl (uhS s))) = s := by
  cases e : unhexL (bl s) with
  | none => rw [(uh_none e).2] at h; cases h
  | some m =>
    rw [(uh_some e).1]
    apply bl_inj
    rw [bl_sb, bl_sb]
    exact (hex_unhex _ _ (Nat.le_refl _) m e).1
theorem uhE_cases (s : ByteArray) : uhE s = 0 ∨ uhE s = 4 := by unfold uhE; split <;> simp
theorem u8_shl4_or (x y : Nat) (hx : x < 16) (hy : y < 16) : bits .or .u8 (IntKind.u8.wrap ((x : Int) * 16)) (y : Int) = ((x * 16 + y : Nat) : Int) := by
  have h : ∀ x y : Fin 16, bits .or .u8 (IntKind.u8.wrap ((x.val : Int) * 16)) (y.val : Int) = ((x.val * 16 + y.val : Nat) : Int) := by decide +kernel
  exact h ⟨x, hx⟩ ⟨y, hy⟩
theorem u8_and_15 (b : Nat) (hb : b < 256) : bits .and .u8 (b : Int) 15 = ((b % 16 : Nat) : Int) := by
  have h : ∀ a : Fin 256, bits .and .u8 (a.val : Int) 15 = ((a.val % 16 : Nat) : Int) := by decide +kernel
  exact h ⟨b, hb⟩
end Go.Proofs.YteccnnpialaalaaDoor
