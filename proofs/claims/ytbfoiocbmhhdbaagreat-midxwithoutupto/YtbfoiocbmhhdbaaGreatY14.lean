import Derived.Test.YtbfoiocbmhhdbaaGreatY13
import Derived.Test.YtbfoiocbmhhdbaaGreatY1
import Derived.Test.YtbfoiocbmhhdbaaGreatY5
import Derived.Test.YtbfoiocbmhhdbaaGreatY7
/- strings.Builder: Write of bytes that lie somewhere, Grow of a fresh one. -/
namespace Go.Proofs.YtbfoiocbmhhdbaaGreat
open Go.RowKit
set_option linter.unusedSimpArgs false
set_option linter.unusedVariables false
set_option maxHeartbeats 2000000 in
set_option maxRecDepth 100000 in
theorem writeV (B b : Nat) (l L : List UInt8) (g o n c : Nat) (C : Array Value) (T : TypeId) (w : World) (h : Bld B b l w) (hB0 : Bk w g C T) (hT : T ≠ 5) (hgb : g ≠ b) (hL : L.length = n) (hc : ∀ j u, (Lib.byteCells L)[j]? = some u → C[o + j]? = some u) (hlen : l.length + n ≤ 140737488355328) (hBw : B ≤ w.heap.size) :
    Calls Tryz.prog 69 #[.pointer (some ⟨b, 0, none⟩), .slice (some ⟨g, o, none⟩) n c] w fun e w' => e = .returned (.tuple #[.int .i64 n, .nilIface]) ∧ Bld B b (l ++ L) w' ∧ Below B w w' ∧ Oth b w w' := by
  obtain ⟨i0, hi, hz0, hz1, hz2⟩ := info_parts extra166.infoByte
  have hi' : Tryz.prog.info? 5 = some i0 := hi
  have e240 : ∀ args w, (callFunc 102 args).run Tryz.prog w = .ok (.enter 102 args) w := enters_of Tryz.func102 (by kernel_rfl) rfl
  have HCK : Hid (Calls Tryz.prog 102 #[.pointer (some ⟨b, 0, none⟩)] w fun e w' => e = .returned (.tuple #[]) ∧ (Lib.BuilderAtF 146 5 B b (.pointer (some ⟨b, 0, none⟩)) (Lib.byteCells l) w' ∧ Below B w w' ∧ Lib.OthersKept 5 (some b) w w')) := Any.Builder_copyCheck_k { lays166 with } extra166.toX72 B b (Lib.byteCells l) w h
  have HB0 : Hid (Bk w g C T) := hB0
  have HC : Hid (∀ j u, (Lib.byteCells L)[j]? = some u → C[o + j]? = some u) := hc
  have HLL : Hid (L.length = n) := hL
  clear h hB0 hc hi
  have hbl := Lib.byteCells_length l
  have hbL := Lib.byteCells_length L
  go_enter Tryz.func69, Tryz.ntmps69
  go_wp2_with fail
  refine HCK.out.mono ?_
  rintro e w1 ⟨rfl, h1, hb1, hk1⟩
  obtain ⟨hB, v, hbk, hown, hne⟩ := h1
  have c0 : w1.cell? ⟨b, 0, none⟩ = some (.pointer (some ⟨b, 0, none⟩)) := by rw [Lib.cell_of_heap hbk]; rfl
  have c1 : w1.cell? ⟨b, 1, none⟩ = some v := by rw [Lib.cell_of_heap hbk]; rfl
  have HB1 : Hid (Bk w1 g C T) := hk1 g _ HB0.out (fun e => hgb (Option.some.inj e)) (fun c' fz e => by injection e with _ e2; exact hT e2)
  go_wp2_with (at_builtin; refine wpList_append_ownF _ rfl _ _ 131 rfl B 5 i0 (.int .u8 0) 1 1 Tryz.underlying131 hi' hz0 hz1 hz2 rfl (by decide) _ _ _ rfl hown ⟨g, o, none⟩ n c (Lib.byteCells L) rfl ?c0 ?c1 ?c2 ?c3 ?c4 ?c5 ?_)
  case c0 => rw [hbL, HLL.out, Nat.mul_one]
  case c1 =>
    intro j u hj
    rw [WideShapes.add_plain, HB1.out.cell]
    exact HC.out j u hj
  case c2 => exact Lib.byteCells_one L
  case c3 => rw [hbl]; unfold maxLen; omega
  case c4 => rw [hbl]; omega
  case c5 => have := hb1.size; omega
  intro v' w2 hown' hgrow _
  have hlt : b < w1.heap.size := by
    rcases Nat.lt_or_ge b w1.heap.size with h' | h'
    · exact h'
    · simp [Array.getElem?_eq_none h'] at hbk
  have hb2 : w2.heap[b]? = some (.cells #[.pointer (some ⟨b, 0, none⟩), v] 146 (0, 0)) := by
    rw [hgrow.block b hlt (fun e => hne e.symm)]
    exact hbk
  have d0 : w2.cell? ⟨b, 0, none⟩ = some (.pointer (some ⟨b, 0, none⟩)) := by rw [Lib.cell_of_heap hb2]; rfl
  have d1 : w2.cell? ⟨b, 1, none⟩ = some v := by rw [Lib.cell_of_heap hb2]; rfl
  have f1 : w2.frozen? ⟨b, 1, none⟩ = false := Lib.frozen_of_heap hb2 1
  obtain ⟨ao, n', cap, rfl⟩ : ∃ ao n' cap, v' = .slice ao n' cap := by
    rcases hown'.2 with ⟨hv, _⟩ | ⟨g, cap, cur, fz, hv, _⟩
    · exact ⟨_, _, _, hv⟩
    · exact ⟨_, _, _, hv⟩
  have HE : Hid (Bld B b (l ++ L) (w2.setCell ⟨b, 1, none⟩ (.slice ao n' cap)) ∧ Below B w (w2.setCell ⟨b, 1, none⟩ (.slice ao n' cap)) ∧ Oth b w (w2.setCell ⟨b, 1, none⟩ (.slice ao n' cap))) := by
    refine ⟨Or.inr ?_, ?_, (hk1.grown hgrow (Lib.ownsRowF_kind hown)).setCell ⟨b, 1, none⟩ rfl _⟩
    · rw [Lib.byteCells_append]
      exact Lib.BuilderAtF.put (T := 146) (e := 5) hB hb2 (bs' := Lib.byteCells l ++ Lib.byteCells L) (by rw [List.length_append, hbL, hbl, HLL.out]; exact hown') extra166.neB5
    · exact (hb1.grown hgrow (by have := hb1.size; omega) (fun k hk => (hown.lt k hk).1)).setCell (p := ⟨b, 1, none⟩) hB _
  clear hown hown' hgrow hk1 hb1 hbk hb2 hne
  go_wp2
  go_ret2
  exact ⟨rfl, HE.out⟩
theorem extra165 : Builder.Extra Tryz.prog lays165_ren := {
  sizeBuilder := by kernel_rfl
  liesBuilder := by kernel_rfl
  t5 := Tryz.underlying5
  a5 := Tryz.isAgg5
  z5 := Tryz.sizeOf5
  v5 := Tryz.zeroValue5
  infoByte := by kernel_rfl
  cellsByte := by kernel_rfl
  sizeByte := by kernel_rfl
  neB5 := by decide }
/-- Grow of a builder that was just made. -/
theorem growB (n : Nat) (w : World) (hn : n ≤ 281474976710656) :
    Calls Tryz.prog 65 #[.pointer (some ⟨w.heap.size, 0, none⟩), .int .i64 n] (w.alloc (.cells #[.pointer none, .slice none 0 0] 146)) fun e w' => e = .returned (.tuple #[]) ∧ Bld w.heap.size w.heap.size [] w' ∧ Below w.heap.size w w' := by
  refine (Any.Builder_Grow_fresh lays165 extra165 w.heap.size w.heap.size n (w.alloc (.cells #[.pointer none, .slice none 0 0] 146)) (Nat.le_refl _) (bk_new _ _ _) (by rw [al_size]; omega) hn).mono ?_
  rintro e w' ⟨he, h1, h2⟩
  exact ⟨he, .inr (Lib.BuilderAtF.of h1), ((Below.refl _ _).alloc (Nat.le_refl _) _).trans h2⟩
end Go.Proofs.YtbfoiocbmhhdbaaGreat
/- The laying of strings.Builder.WriteByte. -/
namespace Go.Proofs.YtbfoiocbmhhdbaaGreat
open Go.Shelf
def lays167_ren : Go.Shelf.Ren := ⟨fun | 167 => 71 | 240 => 102 | 276 => 122 | n => n, fun | 0 => 0 | 3 => 3 | 4 => 4 | 5 => 5 | 9 => 9 | 20 => 20 | 37 => 131 | 70 => 144 | 72 => 146 | 75 => 150 | 164 => 200 | 80 => 80 | n => n, fun | n => n⟩
theorem lays167 : Go.Proofs.Lays.n167 Tryz.prog lays167_ren := {
  mixed := by kernel_rfl
  f167 := Tryz.func71.trans (congrArg some (by kernel_rfl))
  f240 := Tryz.func102.trans (congrArg some (by kernel_rfl))
  f276 := Tryz.func122.trans (congrArg some (by kernel_rfl))
  t0 := Tryz.underlying0
  a0 := Tryz.isAgg0
  z0 := Tryz.sizeOf0
  v0 := Tryz.zeroValue0
  t4 := Tryz.underlying4
  a4 := Tryz.isAgg4
  z4 := Tryz.sizeOf4
  v4 := Tryz.zeroValue4
  t5 := Tryz.underlying5
  a5 := Tryz.isAgg5
  z5 := Tryz.sizeOf5
  v5 := Tryz.zeroValue5
  t9 := Tryz.underlying9
  a9 := Tryz.isAgg9
  z9 := Tryz.sizeOf9
  v9 := Tryz.zeroValue9
  t20 := Tryz.underlying20
  a20 := Tryz.isAgg20
  z20 := Tryz.sizeOf20
  v20 := Tryz.zeroValue20
  t37 := Tryz.underlying131
  a37 := Tryz.isAgg131
  z37 := Tryz.sizeOf131
  v37 := Tryz.zeroValue131
  t70 := Tryz.underlying144
  a70 := Tryz.isAgg144
  z70 := Tryz.sizeOf144
  v70 := Tryz.zeroValue144
  t72 := Tryz.underlying146
  a72 := Tryz.isAgg146
  z72 := Tryz.sizeOf146
  v72 := Tryz.zeroValue146
  t75 := Tryz.underlying150
  a75 := Tryz.isAgg150
  z75 := Tryz.sizeOf150
  v75 := Tryz.zeroValue150
  t164 := Tryz.underlying200
  a164 := Tryz.isAgg200
  z164 := Tryz.sizeOf200
  v164 := Tryz.zeroValue200 }
theorem extra167 : Builder.Extra Tryz.prog lays167_ren := {
  sizeBuilder := by kernel_rfl
  liesBuilder := by kernel_rfl
  t5 := Tryz.underlying5
  a5 := Tryz.isAgg5
  z5 := Tryz.sizeOf5
  v5 := Tryz.zeroValue5
  infoByte := by kernel_rfl
  cellsByte := by kernel_rfl
  sizeByte := by kernel_rfl
  neB5 := by decide }
end Go.Proofs.YtbfoiocbmhhdbaaGreat
/- strings.Builder. -/
namespace Go.Proofs.YtbfoiocbmhhdbaaGreat
open Go.RowKit
set_option linter.unusedSimpArgs false
set_option linter.unusedVariables false
theorem writeB (B b : Nat) (l : List UInt8) (c : UInt8) (w : World) (h : Bld B b l w) (hlen : l.length + 1 ≤ 140737488355328) (hBw : B ≤ w.heap.size) :
    Calls Tryz.prog 71 #[.pointer (some ⟨b, 0, none⟩), .int .u8 (c.toNat : Int)] w fun e w' => e = .returned .nilIface ∧ Bld B b (l ++ [c]) w' ∧ Below B w w' ∧ Oth b w w' :=
  (Any.Builder_WriteByte_k lays167 extra167 B b (Lib.byteCells l) (c.toNat : Int) w h (by rw [Lib.byteCells_length]; exact hlen) hBw).mono fun e w' ⟨he, h1, h2, h3⟩ =>
    ⟨he, by rw [Bld, Lib.byteCells_append]; exact Or.inr h1, h2, h3⟩
end Go.Proofs.YtbfoiocbmhhdbaaGreat
/- strings.Builder: what is kept. -/
namespace Go.Proofs.YtbfoiocbmhhdbaaGreat
open Go.RowKit
set_option linter.unusedSimpArgs false
set_option linter.unusedVariables false
theorem oth_bk11 {b k : Nat} {w w' : World} {C : Array Value} {T : TypeId} (h : Oth b w w') (hb : Bk w k C T) (hk : k ≠ b) (hT : T ≠ 5) : Bk w' k C T :=
  h k _ hb (by simpa using hk) (fun c fz e => hT (by injection e))
theorem grn_keep11 {w w' : World} (h : Below w.heap.size w w') : w.grownBy w' none := ⟨h.os, h.tape, h.output, h.size, fun i hi _ => h.block i hi⟩
theorem bldAt_keep11 {B b : Nat} {p : Value} {l : List Value} {w w' : World} (h : Lib.BuilderAtF 146 5 B b p l w) (hb : Below w.heap.size w w') : Lib.BuilderAtF 146 5 B b p l w' := by
  obtain ⟨h1, v, h2, h3, h4⟩ := h
  have hlt : b < w.heap.size := (Array.getElem?_eq_some_iff.1 h2).1
  exact ⟨h1, v, (hb.block b hlt).trans h2, h3.kept (grn_keep11 hb) (by cases v.ownBlock <;> simp), h4⟩
theorem bld_keep11 {B b : Nat} {l : List UInt8} {w w' : World} (h : Bld B b l w) (hb : Below w.heap.size w w') : Bld B b l w' := by
  rcases h with h | h
  · exact .inl (bldAt_keep11 h hb)
  · exact .inr (bldAt_keep11 h hb)
/-- A map's block is turned, or one of another type: the builder stays. -/
theorem bldAt_apart {B b m : Nat} {p : Value} {l : List Value} {w w' : World} (h : Lib.BuilderAtF 146 5 B b p l w) (hg : w.grownBy w' (some m)) (hm : ∀ C T F, w.heap[m]? = some (.cells C T F) → T ≠ 5 ∧ T ≠ 146) : Lib.BuilderAtF 146 5 B b p l w' := by
  obtain ⟨h1, v, h2, h3, h4⟩ := h
  have hlt : b < w.heap.size := (Array.getElem?_eq_some_iff.1 h2).1
  refine ⟨h1, v, (hg.block b hlt (fun e => by injection e with e; subst e; exact (hm _ _ _ h2).2 rfl)).trans h2, h3.kept hg ?_, h4⟩
  rcases h3.2 with ⟨rfl, _⟩ | ⟨g, cap, cur, fz, rfl, hb, hgg, _⟩
  · exact .inl rfl
  · refine .inr ?_
    simp only [Value.ownBlock]
    intro e
    injection e with e
    subst e
    exact (hm _ _ _ hgg).1 rfl
theorem bld_apart {B b m : Nat} {l : List UInt8} {w w' : World} (h : Bld B b l w) (hg : w.grownBy w' (some m)) (hm : ∀ C T F, w.heap[m]? = some (.cells C T F) → T ≠ 5 ∧ T ≠ 146) : Bld B b l w' := by
  rcases h with h | h
  · exact .inl (bldAt_apart h hg hm)
  · exact .inr (bldAt_apart h hg hm)
theorem bld_lt {B b : Nat} {l : List UInt8} {w : World} (h : Bld B b l w) : B ≤ b ∧ b < w.heap.size := by
  rcases h with ⟨h1, v, h2, _⟩ | ⟨h1, v, h2, _⟩ <;> exact ⟨h1, (Array.getElem?_eq_some_iff.1 h2).1⟩
/-- What a builder's cells are. -/
theorem bld_cells {B b : Nat} {l : List UInt8} {w : World} (h : Bld B b l w) : ∃ p a c, Bk w b #[p, .slice a l.length c] 146 := by
  have key : ∀ p, Lib.BuilderAtF 146 5 B b p (Lib.byteCells l) w → ∃ p a c, Bk w b #[p, .slice a l.length c] 146 := by
    rintro p ⟨h1, v, h2, h3, h4⟩
    rw [Lib.byteCells_length] at h3
    rcases h3.2 with ⟨rfl, h0⟩ | ⟨g, cap, cur, fz, rfl, hb, hgg, _⟩
    · have hl : l.length = 0 := h0
      exact ⟨p, none, 0, by rw [hl]; exact h2⟩
    · exact ⟨_, _, _, h2⟩
  rcases h with h | h
  · exact key _ h
  · exact key _ h
end Go.Proofs.YtbfoiocbmhhdbaaGreat
/- The walk of wire.PutFixed. -/
namespace Go.Proofs.YtbfoiocbmhhdbaaGreat
open Go.RowKit
set_option linter.unusedSimpArgs false
set_option linter.unusedVariables false
theorem ret_se {a b : ByteArray} {k : IntKind} {c : Int} (h : a = b) : Ending.returned (.tuple #[.string a, .int k c]) = .returned (.tuple #[.string b, .int k c]) := by rw [h]
theorem slice8 (a : Addr) (h : Int) (h0 : 0 ≤ h) (h2 : h ≤ 8) (w : World) :
    (Instr.sliceAt 179 (.pointer (some a)) none (some (.int .i64 h)) none).run Tryz.prog w = .ok (.slice (some a) h.toNat 8) w := by
  have e1 : Tryz.prog.elem 179 = 5 := by kernel_rfl
  have e2 : Tryz.prog.arrayLen 179 = 8 := by kernel_rfl
  have e0 : Tryz.prog.underlying 179 = some (.array (Tryz.prog.arrayLen 179) (Tryz.prog.elem 179)) := by kernel_rfl
  rw [run_sliceAt_array_h (P := Tryz.prog) w 179 a e0 .i64 h h0 (by rw [e2]; exact h2)]
  rw [e1, e2, sizeOf_u8]
  simp [slicedAt, Result.andThen, Addr.add]
theorem fix_next (n k d : Nat) (arr : Array Value) (b : Int) (hk : k < d) (hd : d ≤ 8) (hsz : arr.size = 8) (hall : ∀ j, j < 8 → ∃ z, arr[j]? = some (.int .u8 z))
    (harr : ∀ j, j < k → arr[d - 1 - j]? = some (.int .u8 (n / 256 ^ j % 256 : Nat))) (hb : b = (n / 256 ^ k % 256 : Nat)) :
    (arr.setIfInBounds (d - 1 - k) (.int .u8 b)).size = 8 ∧ (∀ j, j < 8 → ∃ z, (arr.setIfInBounds (d - 1 - k) (.int .u8 b))[j]? = some (.int .u8 z)) ∧
      ∀ j, j < k + 1 → (arr.setIfInBounds (d - 1 - k) (.int .u8 b))[d - 1 - j]? = some (.int .u8 (n / 256 ^ j % 256 : Nat)) := by
  refine ⟨by simp [hsz], fun j hj => ?_, fun j hj => ?_⟩
  · rw [Array.getElem?_setIfInBounds]
    split
    · exact ⟨b, by simp [hsz]; omega⟩
    · exact hall j hj
  · rw [Array.getElem?_setIfInBounds]
    split
    · rename_i e; have e : k = j := by omega
      subst e; rw [if_pos (by omega), hb]
    · exact harr j (by omega)
theorem fix_conv (n d : Nat) (arr : Array Value) (w : World) (T : TypeId) (hd : d ≤ 8) (hsz : arr.size = 8)
    (harr : ∀ j, j < d → arr[d - 1 - j]? = some (.int .u8 (n / 256 ^ j % 256 : Nat))) :
    (convert 131 9 (.slice (some ⟨w.heap.size, 0, none⟩) d 8)).run Tryz.prog (w.alloc (.cells arr T)) = .ok (.string (sb (fixN d n))) (w.alloc (.cells arr T)) := by
  rw [← sb_nums]
  refine run_convert_bytes_arg _ 131 5 Tryz.underlying131 Tryz.underlying5 _ 0 d 8 _ (by simp [fixN_length]) (fun i hi => ?_) 9 Tryz.underlying9
  rw [Nat.zero_add, World.cell?_alloc_new, List.getD, List.getElem?_map]
  have e1 := harr (d - 1 - i) (by omega)
  have e2 := fixN_get d n (d - 1 - i) (by omega)
  rw [show d - 1 - (d - 1 - i) = i from by omega] at e1 e2
  rw [e1, e2]
  rfl
set_option maxHeartbeats 400000 in
theorem putFixed_ok (s : ByteArray) (x : Int) (d : Nat) (w : World) (h0 : 0 ≤ x) (h1 : x ≤ 18446744073709551615) (hd1 : 1 ≤ d) (hd2 : d ≤ 8) (hfit : x.toNat < 256 ^ d) (hs : s.size ≤ 4611686018427387904) :
    Calls Tryz.prog 67 #[.string s, .int .u64 x, .int .i64 d] w fun e w' => e = .returned (.tuple #[.string (s ++ sb (fixN d x.toNat)), .int .i64 0]) ∧ Below w.heap.size w w' := by
  have hbl : (Lib.bitLen x.toNat : Int) ≤ 8 * (d : Int) := by have := (bitLen_fits x.toNat d (by omega)).2 hfit; omega
  have hiw : isW (d : Int) = true := isW_yes (by omega) (by omega)
  obtain ⟨n, hn⟩ : ∃ n, n = x.toNat := ⟨_, rfl⟩
  have HN : Hid (n = x.toNat) := hn
  clear hn hfit
  go_enter Tryz.func67, Tryz.ntmps67
  go_wp2_with (first | (go_at_call 104; refine (isWidth_any _ _).mono ?_; rintro e w' ⟨rfl, rfl⟩; rw [hiw]) | (go_at_call 105; refine (len64_any x _ h0 h1).mono ?_; rintro e w' ⟨rfl, rfl⟩))
  go_loopw [1, 21] (fun v i wr => ∃ (k y : Nat) (arr : Array Value), k ≤ d ∧ i = .int .i64 k ∧ v = .int .u64 y ∧ y < 2 ^ 64 ∧ wr = w'.alloc (.cells arr 179) ∧ Hid (y = n / 256 ^ k ∧ arr.size = 8 ∧ (∀ j, j < 8 → ∃ z, arr[j]? = some (.int .u8 z)) ∧ ∀ j, j < k → arr[d - 1 - j]? = some (.int .u8 (n / 256 ^ j % 256 : Nat)))) (fun _ i _ => 10 - (intOf i).toNat)
  case atStart =>
    refine ⟨0, x.toNat, _, Nat.zero_le _, rfl, by go_num, by omega, rfl, ⟨by simp [HN.out], by simp, fun j hj => ?_, fun j hj => by omega⟩⟩
    refine ⟨0, ?_⟩
    rw [show (#[Value.int .u8 0, Value.int .u8 0, Value.int .u8 0, Value.int .u8 0, Value.int .u8 0, Value.int .u8 0, Value.int .u8 0, Value.int .u8 0] : Array Value) = Array.replicate 8 (Value.int .u8 0) from rfl]
    simp [hj]
  case round =>
    obtain ⟨k, y, arr, hk, rfl, rfl, hy, rfl, HR⟩ := hrel
    by_cases hlt : k < d
    · obtain ⟨z, hz⟩ := HR.out.2.2.1 (d - 1 - k) (by omega)
      have hz' : arr[((d : Int) - 1 - k).toNat]? = some (.int .u8 z) := by rw [show ((d : Int) - 1 - k).toNat = d - 1 - k from by omega]; exact hz
      go_wp2
      go_roundw
      case rel => 
        obtain ⟨hy, a1, a2, a3⟩ := HR.out
        refine ⟨k + 1, y / 256, _, by omega, by go_num, by go_num, by omega, rfl, ⟨?_, ?_⟩⟩
        · rw [hy, Nat.div_div_eq_div_mul, Nat.pow_succ]
        · exact fix_next n k d arr _ (by omega) (by omega) a1 a2 a3 (by rw [← hy]; omega)
      case measure => simp [intOf]; omega
    · obtain ⟨z, hz⟩ := HR.out.2.2.1 (d - 1) (by omega)
      have hke : k = d := by omega
      subst hke
      have hc := fix_conv n k arr w' 179 (by omega) HR.out.2.1 HR.out.2.2.2
      have hsl := slice8 ⟨w'.heap.size, 0, none⟩ (k : Int) (by omega) (by omega)
      have hsb : (sb (fixN k n)).size ≤ 10 := by rw [sb_size, fixN_length]; omega
      go_wp2
      go_ret2
      exact ⟨ret_se (by rw [HN.out]), by go_grown⟩
set_option maxHeartbeats 400000 in
theorem putFixed_no (s : ByteArray) (x d : Int) (w : World) (h0 : 0 ≤ x) (h1 : x ≤ 18446744073709551615) (hno : isW d = true → 256 ^ d.toNat ≤ x.toNat) :
    Calls Tryz.prog 67 #[.string s, .int .u64 x, .int .i64 d] w fun e w' => e = .returned (.tuple #[.string ⟨#[]⟩, .int .i64 1]) ∧ w' = w := by
  have H : Hid (isW d = true → 256 ^ d.toNat ≤ x.toNat) := hno
  clear hno
  cases hiw : isW d
  · clear H
    go_enter Tryz.func67, Tryz.ntmps67
    go_wp2_with (go_at_call 104; refine (isWidth_any _ _).mono ?_; rintro e w' ⟨rfl, rfl⟩; rw [hiw])
    go_ret2
    exact ⟨rfl, rfl⟩
  · have hd := isW_iff.1 hiw
    have hb : 8 * d < (Lib.bitLen x.toNat : Int) := by
      have := bitLen_fits x.toNat d.toNat (by omega)
      have := H.out hiw
      omega
    clear H
    go_enter Tryz.func67, Tryz.ntmps67
    go_wp2_with (first | (go_at_call 104; refine (isWidth_any _ _).mono ?_; rintro e w' ⟨rfl, rfl⟩; rw [hiw]) | (go_at_call 105; refine (len64_any x _ h0 h1).mono ?_; rintro e w' ⟨rfl, rfl⟩))
    go_ret2
    exact ⟨rfl, rfl⟩
end Go.Proofs.YtbfoiocbmhhdbaaGreat
/- idx.Index.bytes: an index's bytes. -/
namespace Go.Proofs.YtbfoiocbmhhdbaaGreat
open Go.RowKit
set_option linter.unusedSimpArgs false
set_option linter.unusedVariables false
theorem ix_fan (i : Nat) (hi : i < 256) (cs : Array Value) (v : Value) (hc : cs[i]? = some v) (w : World) : (Instr.index 113 (.agg cs) (.int .i64 (i : Int))).run Tryz.prog w = .ok v w := by
  have h0 : (0 : Int) ≤ (i : Int) := by omega
  have h1 : (i : Int) < 256 := by omega
  have ha : (isAgg 3).run Tryz.prog w = .ok false w := by kernel_rfl
  have hs : (sizeOf 3).run Tryz.prog w = .ok 1 w := by kernel_rfl
  simp [Instr.index, run_underlying Tryz.underlying113, asIntOf, h0, h1, go_sem, part, ha, hs, hc]
  intro q
  omega
theorem oth_below {b : Nat} {w w' : World} (h : Below w.heap.size w w') : Oth b w w' := fun k o hk _ _ => (h.block k (Array.getElem?_eq_some_iff.1 hk).1).trans hk
set_option maxHeartbeats 1000000 in
set_option maxRecDepth 100000 in
/-- The closure putNumber. -/
theorem putN (B b n : Nat) (l : List UInt8) (w : World) (hn : n < 4294967296) (h : Bld B b l w) (hlen : l.length ≤ 100000000) (hBw : B ≤ w.heap.size) :
    Calls Tryz.prog 91 #[.int .i64 (n : Int), .pointer (some ⟨b, 0, none⟩)] w fun e w' => e = .returned (.tuple #[]) ∧ Bld B b (l ++ f4 n) w' ∧ Below B w w' ∧ Oth b w w' := by
  have HP : Hid (Calls Tryz.prog 67 #[.string ⟨#[]⟩, .int .u64 (n : Int), .int .i64 4] w fun e w' => e = .returned (.tuple #[.string (⟨#[]⟩ ++ sb (fixN 4 n)), .int .i64 0]) ∧ Below w.heap.size w w') := by
    have := putFixed_ok ⟨#[]⟩ (n : Int) 4 w (by omega) (by omega) (by decide) (by decide) (by rw [Int.toNat_natCast]; exact hn) (by decide)
    rw [Int.toNat_natCast] at this
    exact this
  obtain ⟨Q, hQ⟩ : ∃ Q : ByteArray, (⟨#[]⟩ ++ sb (fixN 4 n) : ByteArray) = Q := ⟨_, rfl⟩
  have hQb : Q.data.toList = f4 n := by
    show bl Q = f4 n
    rw [← hQ, bl_append, bl_sb]; rfl
  have hQs : Q.size = 4 := by rw [← bl_length]; show Q.data.toList.length = 4; rw [hQb, f4_len]
  rw [hQ] at HP
  have HH : Hid (Bld B b l w) := h
  have HQ : Hid (Q.data.toList = f4 n ∧ Q.size = 4) := ⟨hQb, hQs⟩
  have hw1 : IntKind.u64.wrap (n : Int) = (n : Int) := by
    simp [IntKind.wrap, IntKind.bits, IntKind.signed]; omega
  clear hQ hQb hQs h
  go_enter Tryz.func91, Tryz.ntmps91
  go_wp2_with fail
  refine HP.out.mono ?_
  rintro e w1 ⟨rfl, hb1⟩
  have H1 : Hid (Bld B b l w1) := bld_keep11 HH.out hb1
  have HB1 : Hid (Below w.heap.size w w1) := hb1
  clear hb1
  go_wp2_with fail
  refine (writeS B b l Q w1 H1.out (by rw [HQ.out.2]; omega) (Nat.le_trans hBw HB1.out.size)).mono ?_
  rintro e w2 ⟨rfl, h2, hb2, ho2⟩
  have HE : Hid (Bld B b (l ++ f4 n) w2 ∧ Below B w w2 ∧ Oth b w w2) := ⟨by rw [← HQ.out.1]; exact h2, (HB1.out.mono hBw).trans hb2, (oth_below HB1.out).trans ho2⟩
  clear h2 hb2 ho2
  go_wp2
  go_end0
  exact ⟨rfl, HE.out⟩
end Go.Proofs.YtbfoiocbmhhdbaaGreat
/- idx.Index.bytes. -/
namespace Go.Proofs.YtbfoiocbmhhdbaaGreat
open Go.RowKit
set_option linter.unusedSimpArgs false
set_option linter.unusedVariables false
theorem bc_idc (s : ByteArray) : Lib.byteCells (bl s) = (idc s).toList := by
  simp only [Lib.byteCells, idc, bvc, byl, bl, List.map_map]
  rfl
/-- A builder under way. -/
structure BS (w : World) (m : List UInt8) (wr : World) : Prop where
  bld : Bld w.heap.size w.heap.size m wr
  bel : Below w.heap.size w wr
theorem BS.mk' {w wr : World} {m m' : List UInt8} (h : Bld w.heap.size w.heap.size m wr ∧ Below w.heap.size w wr) (e : m = m') : BS w m' wr := by subst e; exact ⟨h.1, h.2⟩
set_option maxHeartbeats 8000000 in
set_option maxRecDepth 100000 in
theorem bytes_any (g : Nat) (s : ByteArray) (l : List Xe) (w : World) (h : IxS w g s l) (hok : ∀ e ∈ l, okX e = true) (hn : l.length ≤ 65536) :
    Calls Tryz.prog 49 #[.pointer (some ⟨g, 0, none⟩)] w fun e w' => e = .returned (.string ⟨(ixB s l).toArray⟩) ∧ Below w.heap.size w w' := by
  obtain ⟨a, n, c, hBk, hX, hl, hcc, _⟩ := h.row
  have hs := h.id
  have HS : Hid (s.size = 32) := hs
  have HL : Hid (l.length = n) := hl
  have HOK : Hid (∀ e ∈ l, okX e = true) := hok
  have HX : Hid (XeL w a l) := hX
  obtain ⟨C, hC⟩ : ∃ C, ixC s (fanL l) (.slice a n c) = C := ⟨_, rfl⟩
  have HC1 : Hid (∀ j u, (Lib.byteCells (bl s))[j]? = some u → C[0 + j]? = some u) := fun j u hu => by
    rw [← hC]
    exact ixC_id s _ _ hs j u (by rwa [bc_idc, Array.getElem?_toList] at hu)
  have HC2 : Hid (∀ j u, (fnC (fanL l)).toArray[j]? = some u → C[32 + j]? = some u) := fun j u hu => by
    rw [List.getElem?_toArray] at hu
    have hj : j < 256 := by
      have := (List.getElem?_eq_some_iff.1 hu).1
      rwa [fnC_len] at this
    rw [← hC, ixC_fan s _ _ hs j hj, ← hu, fnC_get _ j hj]
  rw [hC] at hBk
  have HBk : Hid (Bk w g C 115) := hBk
  have hg : g < w.heap.size := hBk.lt
  have HGB : Hid (∀ W, Below w.heap.size w W → Bk W g C 115) := fun W hW => hBk.below hW hg
  have hc288 : C[288]? = some (.slice a n c) := by rw [← hC]; exact ixC_row s _ _ hs
  have HQ : Hid (∀ W, Below w.heap.size w W → W.cell? ⟨g, 288, none⟩ = some (.slice a n c)) := fun W hW => by rw [(HGB.out W hW).cell]; exact hc288
  have hq0 : w.cell? ⟨g, 288, none⟩ = some (.slice a n c) := HQ.out w (Below.refl _ _)
  have hsl := slice32 g
  obtain ⟨R, hR⟩ : ∃ R : ByteArray, (⟨(ixB s l).toArray⟩ : ByteArray) = R := ⟨_, rfl⟩
  have HR : Hid ((⟨(ixB s l).toArray⟩ : ByteArray) = R) := hR
  rw [hR]
  have hn' : n ≤ 65536 := by omega
  obtain ⟨N, hN⟩ : ∃ N : Nat, 1064 + n * 41 = N := ⟨_, rfl⟩
  have hNz : (1064 : Int) + (n : Int) * 41 = (N : Int) := by omega
  have hw1 : IntKind.i64.wrap ((n : Int) * 41) = (n : Int) * 41 := by rw [IntKind.wrap_i64]; omega
  have hw2 : IntKind.i64.wrap (N : Int) = (N : Int) := by rw [IntKind.wrap_i64]; omega
  have hNl : N ≤ 281474976710656 := by omega
  clear h hBk hs hl hok hX hC hR hN hn hc288
  go_enter Tryz.func49, Tryz.ntmps49
  go_wp2_with fail
  refine (growB N w hNl).mono ?_
  rintro e w1 ⟨rfl, h1, hb1⟩
  have K1 : Hid (BS w [] w1) := ⟨h1, hb1⟩
  clear h1 hb1 hw1 hw2 hNz
  go_wp2_with fail
  refine (writeS w.heap.size w.heap.size [] ⟨#[109, 105, 120, 49]⟩ w1 K1.out.bld (by show 0 + 4 ≤ _; omega) K1.out.bel.size).mono ?_
  rintro e w2 ⟨rfl, h2, hb2, _⟩
  have K2 : Hid (BS w [109, 105, 120, 49] w2) := ⟨h2, K1.out.bel.trans hb2⟩
  clear h2 hb2 K1
  go_wp2_with fail
  refine (writeV w.heap.size w.heap.size [109, 105, 120, 49] (bl s) g 0 32 32 C 115 w2 K2.out.bld (HGB.out _ K2.out.bel) (by decide) (by omega) (by rw [bl_length]; exact HS.out) HC1.out (by show 4 + 32 ≤ _; omega) K2.out.bel.size).mono ?_
  rintro e w3 ⟨rfl, h3, hb3, _⟩
  have K3 : Hid (BS w ([109, 105, 120, 49] ++ bl s) w3) := ⟨h3, K2.out.bel.trans hb3⟩
  have hq3 := HQ.out _ K3.out.bel
  clear h3 hb3 K2 hsl hq0
  go_wp2_with fail
  refine (putN w.heap.size w.heap.size n ([109, 105, 120, 49] ++ bl s) w3 (by omega) K3.out.bld (by rw [List.length_append, bl_length, HS.out]; show 4 + 32 ≤ _; omega) K3.out.bel.size).mono ?_
  rintro e w4 ⟨rfl, h4, hb4, _⟩
  have K4 : Hid (BS w ([109, 105, 120, 49] ++ (bl s ++ (f4 l.length ++ fanT l 0))) w4) := BS.mk' ⟨h4, K3.out.bel.trans hb4⟩ (by rw [HL.out]; simp [fanT])
  have HFI : Hid ((Tryz.prog.info? 113).map (·.size) = some (fnC (fanL l)).toArray.size) := by
    show _ = some _
    rw [List.size_toArray, fnC_len]
    kernel_rfl
  obtain ⟨FC, hFC⟩ : ∃ FC, (fnC (fanL l)).toArray = FC := ⟨_, rfl⟩
  rw [hFC] at HFI HC2
  have HFX : Hid (∀ i : Nat, i < 256 → ∀ W, (Instr.index 113 (.agg FC) (.int .i64 (i : Int))).run Tryz.prog W = .ok (.int .i64 (fanL l i : Int)) W) := fun i hi W => ix_fan i hi FC _ (by rw [← hFC, List.getElem?_toArray]; exact fnC_get _ i hi) W
  clear h4 hb4 K3 hq3 hFC
  go_wp2_with (refine wpList_get rfl 113 (.tmp 33) rfl g 32 C FC 115 _ rfl (HGB.out _ K4.out.bel) HC2.out Tryz.underlying113 rfl HFI.out ?_)
  go_loopw [35] (fun v wr => ∃ b : Nat, v = .int .i64 b ∧ b ≤ 256 ∧ Hid (BS w ([109, 105, 120, 49] ++ (bl s ++ (f4 l.length ++ fanT l b))) wr)) (fun v _ => 256 - (intOf v).toNat)
  case atStart => exact ⟨0, rfl, by omega, K4.out⟩
  case round =>
    obtain ⟨b, rfl, hb, K5⟩ := hrel
    clear K4
    by_cases hlt : b < 256
    · have hbz : (b : Int) < 256 := by omega
      have hix := HFX.out b hlt
      obtain ⟨q, hq⟩ : ∃ q, fanL l b = q := ⟨_, rfl⟩
      have hql : q ≤ 65536 := by rw [← hq]; exact Nat.le_trans (fanL_le l b) (by rw [HL.out]; exact hn')
      have HNX : Hid (fanT l (b + 1) = fanT l b ++ f4 q) := by rw [← hq]; exact fanT_succ l b
      rw [hq] at hix
      have hlen : ([109, 105, 120, 49] ++ (bl s ++ (f4 l.length ++ fanT l b)) : List UInt8).length ≤ 100000000 := by
        rw [List.length_append, List.length_append, List.length_append, bl_length, HS.out, f4_len, fanT_len]
        show 4 + _ ≤ _
        omega
      have HP : Hid (Calls Tryz.prog 91 #[.int .i64 (q : Int), .pointer (some ⟨w.heap.size, 0, none⟩)] wr fun e w' => e = .returned (.tuple #[]) ∧ Bld w.heap.size w.heap.size ([109, 105, 120, 49] ++ (bl s ++ (f4 l.length ++ fanT l b)) ++ f4 q) w' ∧ Below w.heap.size wr w' ∧ Oth w.heap.size wr w') := putN w.heap.size w.heap.size q _ wr (by omega) K5.out.bld hlen K5.out.bel.size
      clear hq hlen
      go_wp2_with fail
      refine HP.out.mono ?_
      rintro e w6 ⟨rfl, h6, hb6, _⟩
      have K6 : Hid (BS w ([109, 105, 120, 49] ++ (bl s ++ (f4 l.length ++ fanT l (b + 1)))) w6) := BS.mk' ⟨h6, K5.out.bel.trans hb6⟩ (by rw [HNX.out]; simp)
      clear h6 hb6 HP HNX K5 hix
      go_wp2
      go_roundw
      case rel => exact ⟨b + 1, by go_num, by omega, K6.out⟩
      case measure => simp [intOf]; omega
    · have hbz : ¬ (b : Int) < 256 := by omega
      obtain rfl : b = 256 := by omega
      have K6 : Hid (BS w (hdB s l ++ ensB (l.take 0)) wr) := BS.mk' ⟨K5.out.bld, K5.out.bel⟩ (by simp [hdB, ensB])
      have hq6 := HQ.out _ K6.out.bel
      clear K5
      go_wp2
      go_loopw [47] (fun v wr => ∃ k : Nat, v = .int .i64 k ∧ k ≤ n ∧ Hid (BS w (hdB s l ++ ensB (l.take k)) wr)) (fun v _ => n - (intOf v).toNat)
      case atStart => exact ⟨0, rfl, Nat.zero_le _, K6.out⟩
      case round =>
        obtain ⟨k, rfl, hk, K7⟩ := hrel
        clear K6 hq6
        by_cases hlt2 : k < n
        · have hkz : (k : Int) < (n : Nat) := by omega
          obtain ⟨e, he⟩ : ∃ e, l[k]? = some e := ⟨l[k]'(by rw [HL.out]; exact hlt2), List.getElem?_eq_getElem _⟩
          obtain ⟨ga, oa, rfl, hga, h32, hcells⟩ := (HX.out.below K7.out.bel).get he
          have hoke := (okX_iff e).1 (HOK.out e (List.mem_of_getElem? he))
          have HT : Hid (ensB (l.take (k + 1)) = ensB (l.take k) ++ enB e) := by rw [take_snocX he]; exact ensB_snoc _ _
          have hlen0 : (hdB s l ++ ensB (l.take k)).length ≤ 90000000 := by
            rw [List.length_append, hdB_len l HS.out, ensB_len (fun x hx => HX.out.ids x (List.mem_of_mem_take hx)), List.length_take]
            omega
          obtain ⟨X, hXe⟩ : ∃ X, xeC e = X := ⟨_, rfl⟩
          obtain ⟨hk1, hk2, hk3⟩ := xeC_at e h32
          have HXI : Hid (∀ j u, (Lib.byteCells (bl e.id))[j]? = some u → X[0 + j]? = some u) := fun j u hu => by
            rw [← hXe]
            exact xeC_id e h32 j u (by rwa [bc_idc, Array.getElem?_toList] at hu)
          have HIX : Hid ((Tryz.prog.info? 50).map (·.size) = some X.toList.length ∧ X.all (·.oneCell') = true ∧ X.size = 35) := by rw [← hXe]; exact ⟨by rw [inf_xe35, Array.length_toList, xeC_size e h32], xeC_all e, xeC_size e h32⟩
          rw [hXe] at hk1 hk2 hk3 hcells
          have HCE : Hid (∀ j v, X[j]? = some v → wr.cell? ⟨ga, oa + k * 35 + j, none⟩ = some v) := hcells
          obtain ⟨m0, hm0⟩ : ∃ m0, hdB s l ++ ensB (l.take k) = m0 := ⟨_, rfl⟩
          rw [hm0] at hlen0 K7
          have HM : Hid (hdB s l ++ ensB (l.take (k + 1)) = m0 ++ enB e) := by show _ = _; rw [HT.out, ← hm0, List.append_assoc]
          obtain ⟨id, ek, eo, ez⟩ := e
          simp only at h32 hoke hk1 hk2 hk3 HXI HM
          obtain ⟨no, rfl⟩ : ∃ no : Nat, eo = (no : Int) := ⟨eo.toNat, by omega⟩
          obtain ⟨nz, rfl⟩ : ∃ nz : Nat, ez = (nz : Int) := ⟨ez.toNat, by omega⟩
          have hno : no ≤ 67108864 := by omega
          have hnz : nz ≤ 2097152 := by omega
          have HEB : Hid (enB ⟨id, ek, (no : Int), (nz : Int)⟩ = bl id ++ ([ek] ++ (f4 no ++ f4 nz))) := rfl
          have H32 : Hid (id.size = 32) := h32
          have B1 : Hid (Bk (wr.alloc (.cells X 50)) wr.heap.size X 50) := bk_new _ _ _
          have K8 : Hid (BS w m0 (wr.alloc (.cells X 50))) := ⟨bld_keep11 K7.out.bld ((Below.refl _ _).alloc (Nat.le_refl _) _), K7.out.bel.alloc K7.out.bel.size _⟩
          have hbz2 : wr.heap.size ≠ w.heap.size := by have := (bld_lt K7.out.bld).2; omega
          have hsl := slice32 wr.heap.size
          clear hcells hXe he hoke h32 hm0 HT
          go_wp2_with (first
            | (refine wpList_load_mid rfl 50 (.tmp 49) rfl ga (oa + k * 35) rfl X.toList _ (fun j v hv => HCE.out j v (by rwa [Array.getElem?_toList] at hv)) Tryz.underlying50 rfl HIX.out.1 ?_)
            | (refine wpList_store_new rfl 50 (.tmp 8) (.tmp 50) rfl X _ 50 wr.heap.size rfl rfl rfl (info_xe HIX.out.2.2) (by rw [HIX.out.2.2]; rfl) HIX.out.2.1 ?_)
            | fail)
          have hsz8 : w.heap.size ≤ (wr.alloc (.cells X 50)).heap.size := K8.out.bel.size
          refine (writeV w.heap.size w.heap.size m0 (bl id) wr.heap.size 0 32 32 X 50 _ K8.out.bld B1.out (by decide) hbz2 (by rw [bl_length]; exact H32.out) HXI.out (by omega) hsz8).mono ?_
          rintro e w9 ⟨rfl, h9, hb9, ho9⟩
          have K9 : Hid (BS w (m0 ++ bl id) w9) := ⟨h9, K8.out.bel.trans hb9⟩
          have B9 : Hid (Bk w9 wr.heap.size X 50) := oth_bk11 ho9 B1.out hbz2 (by decide)
          have hl9 : (m0 ++ bl id).length ≤ 90000032 := by rw [List.length_append, bl_length, H32.out]; omega
          have y9 : w9.cell? ⟨wr.heap.size, 32, none⟩ = some (.int .u8 (ek.toNat : Int)) := by rw [B9.out.cell]; exact hk1
          clear h9 hb9 ho9 K8 B1 hsl
          go_wp2_with fail
          refine (writeB w.heap.size w.heap.size (m0 ++ bl id) ek w9 K9.out.bld (by omega) K9.out.bel.size).mono ?_
          rintro e w10 ⟨rfl, h10, hb10, ho10⟩
          have K10 : Hid (BS w (m0 ++ bl id ++ [ek]) w10) := ⟨h10, K9.out.bel.trans hb10⟩
          have B10 : Hid (Bk w10 wr.heap.size X 50) := oth_bk11 ho10 B9.out hbz2 (by decide)
          have hl10 : (m0 ++ bl id ++ [ek]).length ≤ 90000033 := by rw [List.length_append, List.length_singleton]; omega
          have y10 : w10.cell? ⟨wr.heap.size, 33, none⟩ = some (.int .i64 (no : Int)) := by rw [B10.out.cell]; exact hk2
          clear h10 hb10 ho10 K9 B9 y9
          go_wp2_with fail
          refine (putN w.heap.size w.heap.size no (m0 ++ bl id ++ [ek]) w10 (by omega) K10.out.bld (by omega) K10.out.bel.size).mono ?_
          rintro e w11 ⟨rfl, h11, hb11, ho11⟩
          have K11 : Hid (BS w (m0 ++ bl id ++ [ek] ++ f4 no) w11) := ⟨h11, K10.out.bel.trans hb11⟩
          have B11 : Hid (Bk w11 wr.heap.size X 50) := oth_bk11 ho11 B10.out hbz2 (by decide)
          have hl11 : (m0 ++ bl id ++ [ek] ++ f4 no).length ≤ 90000037 := by rw [List.length_append, f4_len]; omega
          have y11 : w11.cell? ⟨wr.heap.size, 34, none⟩ = some (.int .i64 (nz : Int)) := by rw [B11.out.cell]; exact hk3
          clear h11 hb11 ho11 K10 B10 y10
          go_wp2_with fail
          refine (putN w.heap.size w.heap.size nz (m0 ++ bl id ++ [ek] ++ f4 no) w11 (by omega) K11.out.bld (by omega) K11.out.bel.size).mono ?_
          rintro e w12 ⟨rfl, h12, hb12, ho12⟩
          have K12 : Hid (BS w (hdB s l ++ ensB (l.take (k + 1))) w12) := BS.mk' ⟨h12, K11.out.bel.trans hb12⟩ (by rw [HM.out, HEB.out]; simp)
          clear h12 hb12 ho12 K11 B11 y11
          go_wp2
          go_roundw
          case rel => exact ⟨k + 1, by go_num, by omega, K12.out⟩
          case measure => simp [intOf]; omega
        · have hkz : ¬ (k : Int) < (n : Nat) := by omega
          obtain rfl : k = n := by omega
          have K8 : Hid (BS w (ixB s l) wr) := BS.mk' ⟨K7.out.bld, K7.out.bel⟩ (by rw [List.take_of_length_le (by rw [HL.out]; omega)]; rfl)
          have HBS : Hid (Calls Tryz.prog 72 #[.pointer (some ⟨w.heap.size, 0, none⟩)] wr fun e w' => e = .returned (.string R) ∧ Below w.heap.size w w') := (buildS w.heap.size w.heap.size (ixB s l) wr K8.out.bld K8.out.bel.size).mono fun e w' q => ⟨by rw [← HR.out]; exact q.1, K8.out.bel.trans q.2.2.1⟩
          clear K7
          go_wp2_with fail
          refine HBS.out.mono ?_
          rintro e w9 ⟨rfl, hb9⟩
          go_wp2
          go_ret
          exact ⟨rfl, hb9⟩
end Go.Proofs.YtbfoiocbmhhdbaaGreat
