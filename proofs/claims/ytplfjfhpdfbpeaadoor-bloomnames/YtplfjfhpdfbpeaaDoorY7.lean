import Derived.Test.YtplfjfhpdfbpeaaDoorY6
import Derived.Test.YtplfjfhpdfbpeaaDoorChecked
import Derived.BigQuiet
import Derived.Deep.QuietTactic
import Derived.Test.YtplfjfhpdfbpeaaDoorY5
import Derived.Laws.StructEq
import Derived.RegionTactic
import Derived.Test.YtplfjfhpdfbpeaaDoorCards
import Derived.Test.YtplfjfhpdfbpeaaDoorTie
import Derived.ProofKit
import Derived.Deep.DeepHandedRow
import Derived.Lib.LaidTab
import Derived.Test.YtplfjfhpdfbpeaaDoorY2
import Derived.Test.YtplfjfhpdfbpeaaDoorY3
import Derived.ChangeAlike
/- The walks of wire.Put, PutText, PutFixed: what each returns; nothing that was there has turned. -/
namespace Go.Proofs.YtplfjfhpdfbpeaaDoor
open Go.RowKit
set_option linter.unusedSimpArgs false
set_option linter.unusedVariables false
theorem slice10 (a : Addr) (h : Int) (h0 : 0 ≤ h) (h2 : h ≤ 10) (w : World) :
    (Instr.sliceAt 90 (.pointer (some a)) none (some (.int .i64 h)) none).run Tryd.prog w = .ok (.slice (some a) h.toNat 10) w := by
  have e1 : Tryd.prog.elem 90 = 5 := by kernel_rfl
  have e2 : Tryd.prog.arrayLen 90 = 10 := by kernel_rfl
  have e0 : Tryd.prog.underlying 90 = some (.array (Tryd.prog.arrayLen 90) (Tryd.prog.elem 90)) := by kernel_rfl
  rw [run_sliceAt_array_h (P := Tryd.prog) w 90 a e0 .i64 h h0 (by rw [e2]; exact h2)]
  rw [e1, e2, sizeOf_u8]
  simp [slicedAt, Result.andThen, Addr.add]
theorem put_next (n k : Nat) (arr : Array Value) (b : Int) (hk : k < 9) (hsz : arr.size = 10) (hall : ∀ j, j < 10 → ∃ z, arr[j]? = some (.int .u8 z))
    (harr : ∀ j, j < k → arr[j]? = some (.int .u8 (n / 128 ^ j % 128 + 128 : Nat))) (hb : b = (n / 128 ^ k % 128 + 128 : Nat)) :
    (arr.setIfInBounds k (.int .u8 b)).size = 10 ∧ (∀ j, j < 10 → ∃ z, (arr.setIfInBounds k (.int .u8 b))[j]? = some (.int .u8 z)) ∧
      ∀ j, j < k + 1 → (arr.setIfInBounds k (.int .u8 b))[j]? = some (.int .u8 (n / 128 ^ j % 128 + 128 : Nat)) := by
  refine ⟨by simp [hsz], fun j hj => ?_, fun j hj => ?_⟩
  · rw [Array.getElem?_setIfInBounds]
    split
    · exact ⟨b, by simp [hsz]; omega⟩
    · exact hall j hj
  · rw [Array.getElem?_setIfInBounds]
    split
    · rename_i e; subst e; rw [if_pos (by omega), hb]
    · exact harr j (by omega)
theorem put_conv (n k : Nat) (arr : Array Value) (w : World) (T : TypeId) (hk : k ≤ 9) (hsz : arr.size = 10) (hsl : slen n = k + 1) (hn : n < 2 ^ 64)
    (harr : ∀ j, j < k → arr[j]? = some (.int .u8 (n / 128 ^ j % 128 + 128 : Nat))) :
    (convert 64 9 (.slice (some ⟨w.heap.size, 0, none⟩) (k + 1) 10)).run Tryd.prog (w.alloc (.cells (arr.setIfInBounds k (.int .u8 ((n / 128 ^ k : Nat) % 256))) T)) =
      .ok (.string (sb (encS n))) (w.alloc (.cells (arr.setIfInBounds k (.int .u8 ((n / 128 ^ k : Nat) % 256))) T)) := by
  have he : encS n = encN k n := by unfold encS; rw [hsl]; rfl
  rw [he, ← sb_nums]
  refine run_convert_bytes_arg _ 64 5 Tryd.underlying64 Tryd.underlying5 _ 0 (k + 1) 10 _ (by simp [encN_length]) (fun i hi => ?_) 9 Tryd.underlying9
  have hh := slen_hi n hn
  rw [hsl, Nat.pow_succ] at hh
  have hl : n / 128 ^ k < 128 := by rw [Nat.div_lt_iff_lt_mul (Nat.pow_pos (by omega))]; rw [Nat.mul_comm]; exact hh
  rw [Nat.zero_add]
  rw [World.cell?_alloc_new, Array.getElem?_setIfInBounds, List.getD, List.getElem?_map]
  by_cases e : k = i
  · subst e
    rw [if_pos rfl, if_pos (by omega), encN_last]
    simp only [Option.map_some, Option.getD_some]
    congr 2
    show ((n / 128 ^ k : Nat) : Int) % 256 = ((n / 128 ^ k : Nat) : Int)
    generalize n / 128 ^ k = q at hl
    omega
  · rw [if_neg e, encN_get k n i (by omega), harr i (by omega)]
    rfl
set_option maxHeartbeats 400000 in
theorem put_any (s : ByteArray) (x : Int) (w : World) (h0 : 0 ≤ x) (h1 : x ≤ 18446744073709551615) (hs : s.size ≤ 4611686018427387904) :
    Calls Tryd.prog 37 #[.string s, .int .u64 x] w fun e w' => e = .returned (.string (s ++ sb (encS x.toNat))) ∧ Below w.heap.size w w' := by
  have hl1 := slen_pos x.toNat
  have hl2 := slen_le x.toNat (by omega)
  obtain ⟨n, hn⟩ : ∃ n, n = x.toNat := ⟨_, rfl⟩
  have HN : Hid (n = x.toNat) := hn
  clear hn
  go_enter Tryd.func37, Tryd.ntmps37
  go_wp2_with (go_at_call 52; refine (len_any x _ h0 h1).mono ?_; rintro e w' ⟨rfl, rfl⟩)
  go_loopw [1, 12] (fun v i wr => ∃ (k y : Nat) (arr : Array Value), k ≤ slen x.toNat - 1 ∧ i = .int .i64 k ∧ v = .int .u64 y ∧ y < 2 ^ 64 ∧ wr = w.alloc (.cells arr 90) ∧ Hid (y = n / 128 ^ k ∧ arr.size = 10 ∧ (∀ j, j < 10 → ∃ z, arr[j]? = some (.int .u8 z)) ∧ ∀ j, j < k → arr[j]? = some (.int .u8 (n / 128 ^ j % 128 + 128 : Nat)))) (fun _ i _ => 10 - (intOf i).toNat)
  case atStart =>
    refine ⟨0, x.toNat, _, Nat.zero_le _, rfl, by go_num, by omega, rfl, ⟨by simp [HN.out], by simp, fun j hj => ?_, fun j hj => by omega⟩⟩
    refine ⟨0, ?_⟩
    rw [show (#[Value.int .u8 0, Value.int .u8 0, Value.int .u8 0, Value.int .u8 0, Value.int .u8 0, Value.int .u8 0, Value.int .u8 0, Value.int .u8 0, Value.int .u8 0, Value.int .u8 0] : Array Value) = Array.replicate 10 (Value.int .u8 0) from rfl]
    simp [hj]
  case round =>
    obtain ⟨k, y, arr, hk, rfl, rfl, hy, rfl, HR⟩ := hrel
    by_cases hlt : k < slen x.toNat - 1
    · obtain ⟨z, hz⟩ := HR.out.2.2.1 k (by omega)
      go_wp2
      go_roundw
      case rel => 
        obtain ⟨hy, a1, a2, a3⟩ := HR.out
        refine ⟨k + 1, y / 128, _, by omega, by go_num, by go_num, by omega, rfl, ⟨?_, ?_⟩⟩
        · rw [hy, Nat.div_div_eq_div_mul, Nat.pow_succ]
        · exact put_next n k arr _ (by omega) a1 a2 a3 (by rw [u8_or_128, hy])
      case measure => simp [intOf]; omega
    · obtain ⟨z, hz⟩ := HR.out.2.2.1 k (by omega)
      have hke : (slen x.toNat : Int) - 1 = k := by omega
      have hc := put_conv n k arr w 90 (by omega) HR.out.2.1 (by rw [HN.out]; omega) (by rw [HN.out]; omega) HR.out.2.2.2
      rw [← HR.out.1] at hc
      have hsl := slice10 ⟨w.heap.size, 0, none⟩ ((k : Int) + 1) (by omega) (by omega)
      have hsb : (sb (encS n)).size ≤ 10 := by rw [sb_size, encS_length, HN.out]; exact hl2
      go_wp2
      go_ret
      exact ⟨ret_str (by rw [HN.out]), by go_grown⟩
end Go.Proofs.YtplfjfhpdfbpeaaDoor
/- A region that draws its order, over a class of worlds of one's own: each operation gives the same value in every world of the class. -/
namespace Go.Proofs.YtplfjfhpdfbpeaaDoor
open Go.RowKit
set_option linter.unusedSimpArgs false
set_option linter.unusedVariables false
theorem region_class10 {P : Program} {id : Nat} {Q : Exit → Act → World → Prop} {a : Act} {w : World} {l : List Oper} (C : World → Prop) (hm : P.follows .mixedOrders = true) (hB : Region.lexB .any l.toArray = true) (hC : C w.drew)
    (h : wpQuiet P l.toArray C (fun a' => ∀ w', C w' → Q .normal a' w') l a) : (Code.region id l.toArray true).wp P Q a w :=
  wp_region_quiet (C := C) hm hB hC (by simpa using h)
theorem quiet_val10 {P : Program} {o : Oper} {a : Act} {C : World → Prop} {K : Act → Prop} (v : Value) (h : ∀ w, C w → (execOp a.eval o).run P w = .ok (.value v) w) (hn : K (a.put o.dst v)) : o.quiet P a C K :=
  ⟨v, fun w hw => by unfold Oper.quietAt; rw [h w hw]; exact ⟨rfl, rfl⟩, hn⟩
theorem quiet_call10 {P : Program} {o : Oper} {a : Act} {C : World → Prop} {K : Act → Prop} (v : Value) (f : FuncId) (args : Array Value) (h : ∀ w, C w → (execOp a.eval o).run P w = .ok (.enter f args) w)
    (hc : ∀ w, C w → Calls P f args w (fun e w'' => e = .returned v ∧ C w'')) (hn : K (a.put o.dst v)) : o.quiet P a C K :=
  ⟨v, fun w hw => by unfold Oper.quietAt; rw [h w hw]; exact ⟨rfl, hc w hw⟩, hn⟩
theorem quiet_str10 {o : Oper} {a : Act} {C : World → Prop} {K : Act → Prop} (x : Operand) (ho : o.op = .load 9 x) (g f : Nat) (s : ByteArray) (hx : a.eval x = .pointer (some ⟨g, f, none⟩))
    (hc : ∀ w, C w → w.cell? ⟨g, f, none⟩ = some (.string s)) (hn : K (a.put o.dst (.string s))) : o.quiet Tryd.prog a C K :=
  quiet_val10 (.string s) (fun w hw => by
    have h := hc w hw
    have ha : (isAgg 9).run Tryd.prog w = .ok false w := by kernel_rfl
    unfold execOp
    simp [ho, hx, Instr.loadAt, Instr.sureAddr, loadVar, ha, h]) hn
end Go.Proofs.YtplfjfhpdfbpeaaDoor
/- Loads in a class of worlds: one cell, many cells. -/
namespace Go.Proofs.YtplfjfhpdfbpeaaDoor
open Go.RowKit
set_option linter.unusedSimpArgs false
set_option linter.unusedVariables false
theorem quiet_one {P : Program} {o : Oper} {a : Act} {C : World → Prop} {K : Act → Prop} (t : TypeId) (x : Operand) (ho : o.op = .load t x) (g f : Nat) (v : Value) (hx : a.eval x = .pointer (some ⟨g, f, none⟩)) (ha : ∀ w, (isAgg t).run P w = .ok false w)
    (hc : ∀ w, C w → w.cell? ⟨g, f, none⟩ = some v) (hn : K (a.put o.dst v)) : o.quiet P a C K :=
  quiet_val10 v (fun w hw => by
    have h := hc w hw
    have h2 := ha w
    unfold execOp
    simp [ho, hx, Instr.loadAt, Instr.sureAddr, loadVar, h2, h]) hn
theorem quiet_row {P : Program} {o : Oper} {a : Act} {C : World → Prop} {K : Act → Prop} (t : TypeId) (x : Operand) (ho : o.op = .load t x) (g f : Nat) (D cells : Array Value) (T : TypeId) (d : TypeDesc) (hx : a.eval x = .pointer (some ⟨g, f, none⟩))
    (hc : ∀ w, C w → Bk w g D T) (hD : ∀ j v, cells[j]? = some v → D[f + j]? = some v) (hu : P.underlying t = some d) (hd : d.isRow = true) (hi : (P.info? t).map (·.size) = some cells.size) (hn : K (a.put o.dst (.agg cells))) : o.quiet P a C K :=
  quiet_val10 (.agg cells) (fun w hw => by
    have h := hc w hw
    have hr := run_loadVar_mid (P := P) w g f t cells.toList d (fun j v hv => by rw [h.cell]; exact hD j v (by rwa [Array.getElem?_toList] at hv)) hu hd (by rw [Array.length_toList]; exact hi)
    unfold execOp
    simp [ho, hx, Instr.loadAt, Instr.sureAddr, hr]) hn
/-- The load of many cells, of an operation that is wanted. -/
theorem wpList_getG {P : Program} {ops : Array Oper} {rest : List Oper} {op : Oper} {a : Act} {w : World} {Q : Exit → Act → World → Prop} (hw : Region.wanted op (yielded ops a.tmps) = true) (ty : TypeId) (x : Operand) (ho : op.op = .load ty x)
    (b o : Nat) (C cells : Array Value) (T : TypeId) (d : TypeDesc) (hx : a.eval x = .pointer (some ⟨b, o, none⟩))
    (hB : Bk w b C T) (hc : ∀ j v, cells[j]? = some v → C[o + j]? = some v) (hu : P.underlying ty = some d) (hd : d.isRow = true) (hi : (P.info? ty).map (·.size) = some cells.size)
    (h : wpList P ops Q rest (a.put op.dst (.agg cells)) w) : wpList P ops Q (op :: rest) a w :=
  wpList_step fun K hK => by
    rw [if_pos hw]
    have e : cells.toList.toArray = cells := Array.toArray_toList
    refine wp_load_mid ty x ho b o hx cells.toList d (fun j v hv => by rw [hB.cell]; exact hc j v (by rwa [Array.getElem?_toList] at hv)) hu hd (by rw [hi]; simp) ?_
    rw [e]
    exact hK _ _ h
/-- A comparison whose run is known. -/
theorem wpList_eqR {P : Program} {ops : Array Oper} {rest : List Oper} {op : Oper} {a : Act} {w : World} {Q : Exit → Act → World → Prop} (hw : Region.wanted op (yielded ops a.tmps) = true) (t : TypeId) (x y : Operand) (ho : op.op = .binOp .eql t x y t)
    (v1 v2 : Array Value) (r : Value) (hm : P.eqGuardType P.depth t = false) (hx : a.eval x = .agg v1) (hy : a.eval y = .agg v2) (hr : (binOp .eql t (.agg v1) (.agg v2)).run P w = .ok r w)
    (h : wpList P ops Q rest (a.put op.dst r) w) : wpList P ops Q (op :: rest) a w :=
  wpList_step fun K hK => by
    rw [if_pos hw]
    unfold Oper.wp execOp
    simp only [ho, hx, hy, Sem.run_bind, run_eqGuard_agg w .eql t x y v1 v2 hm, hr, Result.andThen_ok, Sem.run_pure]
    exact hK _ _ h
theorem list_of_quiet {P : Program} {ops : Array Oper} {Q : Exit → Act → World → Prop} {C : World → Prop} : ∀ (l : List Oper) (a : Act) (w : World), wpQuiet P ops C (fun a' => ∀ w', C w' → Q .normal a' w') l a → C w → wpList P ops Q l a w
  | [], a, w, h, hC => h w hC
  | o :: rest, a, w, h, hC => by
    unfold wpQuiet at h
    refine wpList_step fun K hK => ?_
    split at h
    · rename_i hw
      rw [if_pos hw]
      exact Oper.wp_of_quiet hC (fun a w' hw' ha => hK a w' (list_of_quiet rest a w' ha hw')) h
    · rename_i hw
      rw [if_neg hw]
      exact hK _ _ (list_of_quiet rest _ w h hC)
/-- A region that does not draw, over a class of worlds. -/
theorem region_plain11 {P : Program} {id : Nat} {Q : Exit → Act → World → Prop} {a : Act} {w : World} {l : List Oper} (C : World → Prop) (hC : C w)
    (h : wpQuiet P l.toArray C (fun a' => ∀ w', C w' → Q .normal a' w') l a) : (Code.region id l.toArray false).wp P Q a w :=
  wp_region_lit (list_of_quiet l a w h hC)
end Go.Proofs.YtplfjfhpdfbpeaaDoor
/- bloom: Encode. -/
namespace Go.Proofs.YtplfjfhpdfbpeaaDoor
open Go.RowKit
set_option linter.unusedSimpArgs false
set_option linter.unusedVariables false
/-- The listed mark. -/
def mkC : Array Value := #[.int .u8 77, .int .u8 66, .int .u8 70, .int .u8 49]
def MkS (w : World) : Prop := ∀ t v, mkC[t]? = some v → w.cell? ⟨0, t, none⟩ = some v
theorem MkS.lt {w : World} (h : MkS w) : 0 < w.heap.size := World.block_lt_of_cell? w _ (h 0 _ rfl)
theorem MkS.grown {w w' : World} {r : Option Nat} (h : MkS w) (hg : w.grownBy w' r) (hr : r ≠ some 0) : MkS w' := fun t v ht => hg.cell (h t v ht) (fun e => hr e.symm)
theorem MkS.below {w w' : World} (h : MkS w) (hb : Below w.heap.size w w') : MkS w' := h.grown (gr_of_below hb none) (by simp)
def mkT14 : ByteArray := ⟨#[77, 66, 70, 49]⟩
theorem slice4 (g : Nat) (w : World) : (Instr.sliceAt 74 (.pointer (some ⟨g, 0, none⟩)) none none none).run Tryd.prog w = .ok (.slice (some ⟨g, 0, none⟩) 4 4) w := by
  have e1 : Tryd.prog.elem 74 = 5 := by kernel_rfl
  have e2 : Tryd.prog.arrayLen 74 = 4 := by kernel_rfl
  have e0 : Tryd.prog.underlying 74 = some (.array (Tryd.prog.arrayLen 74) (Tryd.prog.elem 74)) := by kernel_rfl
  rw [run_sliceAt_array_all (P := Tryd.prog) w 74 ⟨g, 0, none⟩ e0]
  rw [e1, e2, sizeOf_u8']
  simp [slicedAt, Result.andThen, Addr.add]
theorem conv_row14 (g cap : Nat) (s : List UInt8) (w : World) (h : ∀ j, j < s.length → w.cell? ⟨g, j, none⟩ = some (.int .u8 ((s.getD j 0).toNat : Int))) :
    (convert 64 9 (.slice (some ⟨g, 0, none⟩) s.length cap)).run Tryd.prog w = .ok (.string ⟨s.toArray⟩) w := by
  refine run_convert_bytes_back w 64 9 5 ⟨g, 0, none⟩ cap s Tryd.underlying64 Tryd.underlying5 Tryd.underlying9 (fun j hj => ?_)
  rw [WideShapes.add_plain, Nat.zero_add, h j hj, List.getD, List.getElem?_eq_getElem hj]; rfl
theorem conv_mk (g : Nat) (w : World) (h : Bk w g mkC 74) : (convert 64 9 (.slice (some ⟨g, 0, none⟩) 4 4)).run Tryd.prog w = .ok (.string mkT14) w := by
  refine conv_row14 g 4 [77, 66, 70, 49] w (fun j hj => ?_)
  simp only [List.length_cons, List.length_nil] at hj
  have h4 : j = 0 ∨ j = 1 ∨ j = 2 ∨ j = 3 := by omega
  rw [h.cell]
  rcases h4 with rfl | rfl | rfl | rfl <;> rfl
/-- While a filter is written. -/
structure EnC (w : World) (f g n k : Nat) (s : List UInt8) (W : World) : Prop where
  fil : FlS W f g n k s
  mrk : Bk W w.heap.size mkC 74
  bel : Below w.heap.size w W
set_option maxHeartbeats 1000000 in
set_option maxRecDepth 100000 in
theorem enc_any14 (f g n k : Nat) (s : List UInt8) (w : World) (h : FlS w f g n k s) (hm : MkS w) :
    Calls Tryd.prog 15 #[.pointer (some ⟨f, 0, none⟩)] w fun e w' => e = .returned (.tuple #[.string (enF n k s), .int .i64 0]) ∧ Below w.heap.size w w' := by
  have hfl := h.lt
  have h1 := okF_pos h.ok
  have h2 := okF_le h.ok
  have h3 := h.ok.2.2
  have hl := h.len
  have m0 : w.cell? ⟨0, 0, none⟩ = some (.int .u8 77) := hm 0 _ rfl
  have m1 : w.cell? ⟨0, 1, none⟩ = some (.int .u8 66) := hm 1 _ rfl
  have m2 : w.cell? ⟨0, 2, none⟩ = some (.int .u8 70) := hm 2 _ rfl
  have m3 : w.cell? ⟨0, 3, none⟩ = some (.int .u8 49) := hm 3 _ rfl
  have hml := hm.lt
  have HC : Hid (EnC w f g n k s (w.alloc (.cells mkC 74)).drew) := by
    have hb : Below w.heap.size w (w.alloc (.cells mkC 74)).drew := ((Below.refl _ _).alloc (Nat.le_refl _) _).drew
    exact ⟨h.below hb, bk_new _ _ _, hb⟩
  obtain ⟨S1, hS1⟩ : ∃ S : ByteArray, mkT14 ++ sb (encS n) = S := ⟨_, rfl⟩
  obtain ⟨S2, hS2⟩ : ∃ S : ByteArray, S1 ++ sb (encS k) = S := ⟨_, rfl⟩
  have z1 : S1.size ≤ 14 := by
    rw [← hS1, ByteArray.size_append, sb_size, encS_length]
    have := slen_le n (by omega)
    show 4 + _ ≤ _
    omega
  have z2 : S2.size ≤ 24 := by
    rw [← hS2, ByteArray.size_append, sb_size, encS_length]
    have := slen_le k (by omega)
    omega
  have HP1 : Hid (∀ u, EnC w f g n k s u → Calls Tryd.prog 37 #[.string mkT14, .int .u64 (n : Int)] u fun e w' => e = .returned (.string S1) ∧ EnC w f g n k s w') := fun u hu => by
    refine (put_any mkT14 (n : Int) u (by omega) (by omega) (by show 4 ≤ _; omega)).mono ?_
    rintro e w1 ⟨rfl, hb⟩
    exact ⟨by rw [← hS1]; rfl, hu.fil.below hb, hu.mrk.below hb hu.mrk.lt, hu.bel.trans (hb.mono hu.bel.size)⟩
  have HP2 : Hid (∀ u, EnC w f g n k s u → Calls Tryd.prog 37 #[.string S1, .int .u64 (k : Int)] u fun e w' => e = .returned (.string S2) ∧ Hid (EnC w f g n k s w') ∧ ∃ c, w'.cell? ⟨f, 2, none⟩ = some (.slice (some ⟨g, 0, none⟩) s.length c) ∧ (convert 64 9 (.slice (some ⟨g, 0, none⟩) s.length c)).run Tryd.prog w' = .ok (.string ⟨s.toArray⟩) w') := fun u hu => by
    refine (put_any S1 (k : Int) u (by omega) (by omega) (by omega)).mono ?_
    rintro e w1 ⟨rfl, hb⟩
    obtain ⟨c, ht, _⟩ := (hu.fil.below hb).top
    exact ⟨by rw [← hS2]; rfl, ⟨hu.fil.below hb, hu.mrk.below hb hu.mrk.lt, hu.bel.trans (hb.mono hu.bel.size)⟩, c, by rw [ht.cell]; rfl, conv_row14 g c s w1 (fun j hj => (hu.fil.below hb).row.cell j hj)⟩
  have HR : Hid (S2 ++ (⟨s.toArray⟩ : ByteArray) = enF n k s) := by show _ = _; rw [← hS2, ← hS1]; rfl
  obtain ⟨B, hB⟩ : ∃ B : ByteArray, (⟨s.toArray⟩ : ByteArray) = B := ⟨_, rfl⟩
  obtain ⟨L, hL⟩ : ∃ L, s.length = L := ⟨_, rfl⟩
  have zB : B.size ≤ 2097152 := by
    rw [← hB]
    show s.toArray.size ≤ _
    rw [List.size_toArray]
    omega
  rw [hB] at HR
  rw [hB, hL] at HP2
  have hwr : IntKind.u64.wrap (n : Int) = (n : Int) := by rw [IntKind.wrap_u64]; omega
  clear h hm hS1 hS2 hB hL hl
  go_enter Tryd.func15, Tryd.ntmps15
  go_wp2
  refine region_class10 (EnC w f g n k s) (by kernel_rfl) (by kernel_rfl) HC.out ?_
  try simp only [Act.put, List.setIfInBounds_toArray, List.set_cons_zero, List.set_cons_succ]
  repeat (first
    | go_big_quiet_skip
    | (go_big_quiet_want
       first
         | (refine quiet_one 3 _ rfl f 0 (.int .i64 (n : Int)) rfl (fun w => by kernel_rfl) (fun W h => h.fil.cells.1) ?_; go_big_quiet_on; simp only [Act.put, List.setIfInBounds_toArray, List.set_cons_zero, List.set_cons_succ])
         | (refine quiet_call10 (.string S1) 37 #[.string mkT14, .int .u64 (n : Int)] ?_ ?_ ?_; (focus (intro W hW; go_simp; done)); (focus (intro W hW; exact HP1.out W hW)); go_big_quiet_on; simp only [Act.put, List.setIfInBounds_toArray, List.set_cons_zero, List.set_cons_succ])
         | (refine quiet_val10 (.slice (some ⟨w.heap.size, 0, none⟩) 4 4) ?_ ?_; (focus (intro W hW; have hq := slice4 w.heap.size W; go_simp; done)); go_big_quiet_on; simp only [Act.put, List.setIfInBounds_toArray, List.set_cons_zero, List.set_cons_succ])
         | (refine quiet_val10 (.string mkT14) ?_ ?_; (focus (intro W hW; have hq := conv_mk w.heap.size W hW.mrk; go_simp; done)); go_big_quiet_on; simp only [Act.put, List.setIfInBounds_toArray, List.set_cons_zero, List.set_cons_succ])
         | (refine quiet_val10 (.int .u64 (n : Int)) ?_ ?_; (focus (intro W hW; go_simp; done)); go_big_quiet_on; simp only [Act.put, List.setIfInBounds_toArray, List.set_cons_zero, List.set_cons_succ])
         | (go_big_quiet_op; go_big_quiet_on)
         | (refine quiet_val10 (.pointer (some ⟨f, 0, none⟩)) ?_ ?_; (focus (intro W hW; go_simp; done)); go_big_quiet_on; simp only [Act.put, List.setIfInBounds_toArray, List.set_cons_zero, List.set_cons_succ])))
  refine wpQuiet_nil ?_
  intro w1 hw1
  have HC1 : Hid (EnC w f g n k s w1) := hw1
  have d1 := hw1.fil.cells.2
  clear hw1
  go_wp2_with fail
  refine (HP2.out _ HC1.out).mono ?_
  rintro e w2 ⟨rfl, HC2, c, c2, cv⟩
  go_wp2
  go_ret2
  refine ⟨?_, HC2.out.bel⟩
  show Ending.returned (.tuple #[.string (S2 ++ B), .int .i64 0]) = _
  rw [HR.out]
end Go.Proofs.YtplfjfhpdfbpeaaDoor
/- The three listed tables and the mark: what the rows' list gives, and a world for the witness that holds them. -/
namespace Go.Proofs.YtplfjfhpdfbpeaaDoor
open Go.ChangeShapes Go.WideShapes Go.ChangeAt Go.RowKit
set_option linter.unusedSimpArgs false
set_option linter.unusedVariables false
theorem own : ownKnob Tryd.prog.godebug = none := by kernel_rfl
theorem laidOut : laidOutB Tryd.prog = true := by kernel_rfl
def tab16 : List Int := [48, 49, 50, 51, 52, 53, 54, 55, 56, 57, 97, 98, 99, 100, 101, 102]
def tab8 : List Int := [1779033703, 3144134277, 1013904242, 2773480762, 1359893119, 2600822924, 528734635, 1541459225]
def tab64 : List Int := [1116352408, 1899447441, 3049323471, 3921009573, 961987163, 1508970993, 2453635748, 2870763221, 3624381080, 310598401, 607225278, 1426881987, 1925078388, 2162078206, 2614888103, 3248222580, 3835390401, 4022224774, 264347078, 604807628, 770255983, 1249150122, 1555081692, 1996064986, 2554220882, 2821834349, 2952996808, 3210313671, 3336571891, 3584528711, 113926993, 338241895, 666307205, 773529912, 1294757372, 1396182291, 1695183700, 1986661051, 2177026350, 2456956037, 2730485921, 2820302411, 3259730800, 3345764771, 3516065817, 3600352804, 4094571909, 275423344, 430227734, 506948616, 659060556, 883997877, 958139571, 1322822218, 1537002063, 1747873779, 1955562222, 2024104815, 2227730452, 2361852424, 2428436474, 2756734187, 3204031479, 3329325298]
theorem gD : Tryd.prog.globalNamed "muniment/wire.digits" = some 1 := by kernel_rfl
theorem gH : Tryd.prog.globalNamed "muniment/digest.firstNumbers" = some 2 := by kernel_rfl
theorem gK : Tryd.prog.globalNamed "muniment/digest.constants" = some 3 := by kernel_rfl
theorem tD : (Tryd.prog.globals[1]?).map (·.type) = some 114 := by kernel_rfl
theorem tH : (Tryd.prog.globals[2]?).map (·.type) = some 98 := by kernel_rfl
theorem tK : (Tryd.prog.globals[3]?).map (·.type) = some 107 := by kernel_rfl
theorem cD : Tryd.prog.cellsOf 114 = 16 := by kernel_rfl
theorem cH : Tryd.prog.cellsOf 98 = 8 := by kernel_rfl
theorem cK : Tryd.prog.cellsOf 107 = 64 := by kernel_rfl
theorem c8 : Tryd.prog.cellsOf 5 = 1 := by kernel_rfl
theorem c32' : Tryd.prog.cellsOf 88 = 1 := by kernel_rfl
theorem laid_next {P : Program} {W : World} {name : String} {k : IntKind} {zs : List Int} {rest : List (String × DataW Unit)} {g : Nat} {t e : TypeId} {n : Nat} {ps : List MemPlace}
    (hg : P.globalNamed name = some g) (hty : (P.globals[g]?).map (·.type) = some t) (ht : P.underlying t = some (.array n e)) (he : P.underlying e = some (.int k)) (hce : P.cellsOf e = 1) (hct : P.cellsOf t = n)
    (h : DataW.LaidVars P W ((name, Lib.tabData k zs) :: rest) ps) : Lib.TabIs P W name k zs ∧ ∃ qs, DataW.LaidVars P W rest qs := by
  obtain ⟨g', t', cs, fuel, p, q, hg', ht', hvar, hd, hr, _⟩ := h
  obtain rfl := Option.some.inj (hg.symm.trans hg')
  obtain rfl := Option.some.inj (hty.symm.trans ht')
  refine ⟨?_, q, hr⟩
  unfold Lib.TabIs
  rw [hvar, ← Lib.cells_of_tab ht he hce hct hd]
theorem gM : Tryd.prog.globalNamed "muniment/bloom.mark" = some 0 := by kernel_rfl
theorem gMt : (Tryd.prog.globals[0]?).map (·.type) = some 74 := by kernel_rfl
theorem cM : Tryd.prog.cellsOf 74 = 4 := by kernel_rfl
theorem cM8 : Tryd.prog.cellsOf 5 = 1 := by kernel_rfl
def tabM : List Int := [77, 66, 70, 49]
theorem mark_of {W : World} (h : Lib.TabIs Tryd.prog W "muniment/bloom.mark" .u8 tabM) : MkS W := by
  intro t v hv
  have ht : t < 4 := (Array.getElem?_eq_some_iff.1 hv).1
  rw [h.cell gM t (by simpa [tabM] using ht)]
  have h4 : t = 0 ∨ t = 1 ∨ t = 2 ∨ t = 3 := by omega
  rcases h4 with rfl | rfl | rfl | rfl <;> exact hv
theorem laid_four {W : World} (h : laidMetH Tryd.prog [("muniment/wire.digits", Lib.tabData .u8 tab16), ("muniment/digest.firstNumbers", Lib.tabData .u32 tab8), ("muniment/digest.constants", Lib.tabData .u32 tab64), ("muniment/bloom.mark", Lib.tabData .u8 tabM)] W) : All W ∧ MkS W := by
  obtain ⟨ps, h, _⟩ := h
  obtain ⟨h1, qs, h⟩ := laid_next gD tD Tryd.underlying114 Tryd.underlying5 c8 cD h
  obtain ⟨h2, qs2, h⟩ := laid_next gH tH Tryd.underlying98 Tryd.underlying88 c32' cH h
  obtain ⟨h3, qs3, h⟩ := laid_next gK tK Tryd.underlying107 Tryd.underlying88 c32' cK h
  obtain ⟨h4, qs4, h⟩ := laid_next gM gMt Tryd.underlying74 Tryd.underlying5 cM8 cM h
  refine ⟨⟨⟨?_, ?_⟩, ?_⟩, mark_of h4⟩
  · intro v hv
    rw [h3.cell gK v (by simpa [tab64] using hv)]
    have : ∀ v : Fin 64, tab64.getD v.val 0 = ((KT v.val).toNat : Int) := by decide +kernel
    rw [this ⟨v, hv⟩]
  · intro v hv
    rw [h2.cell gH v (by simpa [tab8] using hv)]
    have : ∀ v : Fin 8, tab8.getD v.val 0 = ((H0.list.getD v.val 0).toNat : Int) := by decide +kernel
    rw [this ⟨v, hv⟩]
  · intro v hv
    rw [h1.cell gD v (by simpa [tab16] using hv)]
    have : ∀ v : Fin 16, tab16.getD v.val 0 = (dg v.val : Int) := by decide +kernel
    rw [this ⟨v, hv⟩]
/-- A table's block, as its initialiser lays it. -/
def lay (k : IntKind) (zs : List Int) (o : Obj) : Obj := match o with
  | .cells _ t frozen => .cells (zs.map fun z => Value.int k z).toArray t frozen
  | o => o
/-- A world for the witness. -/
noncomputable def laidW (os : Os) : World := { World.holding Tryd.prog os ⟨#[], #[], []⟩ with heap := (((World.holding Tryd.prog os ⟨#[], #[], []⟩).heap.modify 1 (lay .u8 tab16)).modify 2 (lay .u32 tab8)).modify 3 (lay .u32 tab64) |>.modify 0 (lay .u8 tabM) }
end Go.Proofs.YtplfjfhpdfbpeaaDoor
/- The walks of wire.New and of the closure through which all is taken. -/
namespace Go.Proofs.YtplfjfhpdfbpeaaDoor
open Go.RowKit
set_option linter.unusedSimpArgs false
set_option linter.unusedVariables false
set_option maxHeartbeats 400000 in
theorem new_any (s : ByteArray) (w : World) :
    Calls Tryd.prog 38 #[.string s] w fun e w' => e = .returned (.pointer (some ⟨w.heap.size, 0, none⟩)) ∧ w' = w.alloc (.cells #[.string s] 93) := by
  go_enter Tryd.func38, Tryd.ntmps38
  go_wp2
  go_ret
  exact ⟨rfl, rfl⟩
set_option maxHeartbeats 400000 in
theorem taker_any (o : Option Addr) (w : World) :
    Calls Tryd.prog 53 #[.pointer o] w fun e w' => e = .returned (.func (Fn.func 68) #[] #[.pointer (some ⟨w.heap.size, 0, none⟩)]) ∧ w' = w.alloc (.cells #[.pointer o] 76) := by
  go_enter Tryd.func53, Tryd.ntmps53
  go_wp2
  go_ret
  exact ⟨rfl, rfl⟩
set_option maxHeartbeats 400000 in
theorem take1_no (s : ByteArray) (b c : Nat) (h n : Nat) (w : World) (hs : s.size ≤ maxLen) (hp : w.cell? ⟨c, 0, none⟩ = some (.pointer (some ⟨b, 0, none⟩))) (hc : w.cell? ⟨b, 0, none⟩ = some (.string s))
    (hh : h ≤ s.size) (hn : s.size - h < n) :
    Calls Tryd.prog 68 #[.int .i64 h, .int .u64 n, .pointer (some ⟨c, 0, none⟩)] w fun e w' => e = .returned (.tuple #[.string ⟨#[]⟩, .int .i64 4]) ∧ w' = w := by
  unfold maxLen at hs
  go_enter Tryd.func68, Tryd.ntmps68
  go_wp2
  go_ret2
  exact ⟨rfl, rfl⟩
set_option maxHeartbeats 400000 in
theorem take1_ok (s : ByteArray) (b c : Nat) (h n : Nat) (w : World) (hs : s.size ≤ maxLen) (hp : w.cell? ⟨c, 0, none⟩ = some (.pointer (some ⟨b, 0, none⟩))) (hc : w.cell? ⟨b, 0, none⟩ = some (.string s)) (hf : w.frozen? ⟨b, 0, none⟩ = false)
    (hh : h + n ≤ s.size) :
    Calls Tryd.prog 68 #[.int .i64 h, .int .u64 n, .pointer (some ⟨c, 0, none⟩)] w fun e w' => e = .returned (.tuple #[.string (s.extract h (h + n)), .int .i64 0]) ∧ w' = (w.setCell ⟨b, 0, none⟩ (.string (s.extract (h + n) s.size))).drew := by
  unfold maxLen at hs
  go_enter Tryd.func68, Tryd.ntmps68
  go_wp2
  go_region
  go_wp2
  go_ret2
  exact ⟨rfl, rfl⟩
/-- A call that turns the reader in block b alone: it holds s' now; whatever else was there is as it was. -/
structure Step (b : Nat) (w w' : World) (s' : ByteArray) : Prop where
  os : w'.os = w.os
  tape : w'.tape = w.tape
  output : w'.output = w.output
  size : w.heap.size ≤ w'.heap.size
  cell : w'.cell? ⟨b, 0, none⟩ = some (.string s')
  frozen : w'.frozen? ⟨b, 0, none⟩ = false
  block : ∀ k, k < w.heap.size → k ≠ b → w'.heap[k]? = w.heap[k]?
theorem Step.of_below {b : Nat} {w w' : World} {s : ByteArray} (h : Below w.heap.size w w') (hb : b < w.heap.size) (hc : w.cell? ⟨b, 0, none⟩ = some (.string s)) (hf : w.frozen? ⟨b, 0, none⟩ = false) : Step b w w' s :=
  ⟨h.os, h.tape, h.output, h.size, by rw [h.cell (p := ⟨b, 0, none⟩) hb]; exact hc, by rw [h.frozen (p := ⟨b, 0, none⟩) hb]; exact hf, fun k hk _ => h.block k hk⟩
theorem Step.of_set {b : Nat} {w w' : World} {s s' : ByteArray} (h : Below w.heap.size (w.setCell ⟨b, 0, none⟩ (.string s')) w') (hb : b < w.heap.size) (hc : w.cell? ⟨b, 0, none⟩ = some (.string s)) (hf : w.frozen? ⟨b, 0, none⟩ = false) : Step b w w' s' := by
  refine ⟨h.os, h.tape, h.output, by have := h.size; simpa [World.setCell] using this, ?_, ?_, fun k hk hne => ?_⟩
  · rw [h.cell (p := ⟨b, 0, none⟩) hb]; exact World.cell?_setCell_same' w _ _ (by rw [hc]; rfl)
  · rw [h.frozen (p := ⟨b, 0, none⟩) hb]; rw [← hf]; exact World.frozen?_setCell _ _ _ _
  · rw [h.block k hk]; exact Below.heap_setCell _ _ _ _ hne
/-- Behind a call that has turned the reader in block b alone, which the callers own blocks end below. -/
theorem Step.below {b B : Nat} {w w' : World} {s : ByteArray} (h : Step b w w' s) (hB : B ≤ b) (hB2 : B ≤ w.heap.size) : Below B w w' :=
  ⟨h.os, h.tape, h.output, h.size, fun k hk => h.block k (by omega) (by omega)⟩
end Go.Proofs.YtplfjfhpdfbpeaaDoor
/- wire.Reader.Left. -/
namespace Go.Proofs.YtplfjfhpdfbpeaaDoor
open Go.RowKit
set_option linter.unusedSimpArgs false
set_option linter.unusedVariables false
set_option maxHeartbeats 400000 in
theorem left_any (s : ByteArray) (b : Nat) (w : World) (hs : s.size ≤ maxLen) (hc : w.cell? ⟨b, 0, none⟩ = some (.string s)) :
    Calls Tryd.prog 41 #[.pointer (some ⟨b, 0, none⟩)] w fun e w' => e = .returned (.int .i64 s.size) ∧ w' = w := by
  unfold maxLen at hs
  go_enter Tryd.func41, Tryd.ntmps41
  go_wp2
  go_ret
  exact ⟨rfl, rfl⟩
set_option maxHeartbeats 400000 in
theorem left_nil (w : World) : Calls Tryd.prog 41 #[.pointer none] w fun e w' => e = .returned (.int .i64 0) ∧ w' = w := by
  go_enter Tryd.func41, Tryd.ntmps41
  go_wp2
  go_ret
  exact ⟨rfl, rfl⟩
end Go.Proofs.YtplfjfhpdfbpeaaDoor
/- What a reader's calls do to the world: small laws. -/
namespace Go.Proofs.YtplfjfhpdfbpeaaDoor
open Go.RowKit
set_option linter.unusedSimpArgs false
set_option linter.unusedVariables false
theorem al_ptr (w : World) (v : Value) (T : TypeId) : (w.alloc (.cells #[v] T)).cell? ⟨w.heap.size, 0, none⟩ = some v := by rw [World.cell?_alloc_new]; rfl
theorem al_cell {w : World} {b : Nat} {v : Value} (o : Obj) (hb : b < w.heap.size) (hc : w.cell? ⟨b, 0, none⟩ = some v) : (w.alloc o).cell? ⟨b, 0, none⟩ = some v := by rw [World.cell?_alloc_past _ _ _ hb]; exact hc
theorem al_frozen {w : World} {b : Nat} {v : Bool} (o : Obj) (hb : b < w.heap.size) (hc : w.frozen? ⟨b, 0, none⟩ = v) : (w.alloc o).frozen? ⟨b, 0, none⟩ = v := by
  rw [((Below.refl w.heap.size w).alloc (Nat.le_refl _) o).frozen (p := ⟨b, 0, none⟩) hb]; exact hc
/-- Behind the taker's box and its store. -/
theorem taken {w : World} {b : Nat} {s s' : ByteArray} (o : Obj) (hb : b < w.heap.size) (hc : w.cell? ⟨b, 0, none⟩ = some (.string s)) (hf : w.frozen? ⟨b, 0, none⟩ = false) :
    Step b w ((w.setCell ⟨b, 0, none⟩ (.string s')).alloc o).drew s' :=
  Step.of_set (((Below.refl _ _).alloc (by simp [World.setCell]) o).drew) hb hc hf
theorem untaken {w : World} {b : Nat} {s : ByteArray} (o : Obj) (hb : b < w.heap.size) (hc : w.cell? ⟨b, 0, none⟩ = some (.string s)) (hf : w.frozen? ⟨b, 0, none⟩ = false) :
    Step b w (w.alloc o) s := Step.of_below ((Below.refl _ _).alloc (Nat.le_refl _) _) hb hc hf
theorem still {w : World} {b : Nat} {s : ByteArray} (hb : b < w.heap.size) (hc : w.cell? ⟨b, 0, none⟩ = some (.string s)) (hf : w.frozen? ⟨b, 0, none⟩ = false) :
    Step b w w s := Step.of_below (Below.refl _ _) hb hc hf
end Go.Proofs.YtplfjfhpdfbpeaaDoor
/- The walks of a reader's Take. -/
namespace Go.Proofs.YtplfjfhpdfbpeaaDoor
open Go.RowKit
set_option linter.unusedSimpArgs false
set_option linter.unusedVariables false
set_option maxHeartbeats 400000 in
theorem take_arg (s : ByteArray) (b : Nat) (w : World) (hs : s.size ≤ maxLen) (hc : w.cell? ⟨b, 0, none⟩ = some (.string s)) (hf : w.frozen? ⟨b, 0, none⟩ = false) (hb : b < w.heap.size) (n : Int) (hn : n < 0) :
    Calls Tryd.prog 39 #[.pointer (some ⟨b, 0, none⟩), .int .i64 n] w fun e w' => e = .returned (.tuple #[.string ⟨#[]⟩, .int .i64 1]) ∧ Step b w w' s := by
  have HS := still hb hc hf
  go_enter Tryd.func39, Tryd.ntmps39
  go_wp2
  go_ret2
  exact ⟨rfl, HS⟩
set_option maxHeartbeats 400000 in
theorem take_no (s : ByteArray) (b : Nat) (w : World) (hs : s.size ≤ maxLen) (hc : w.cell? ⟨b, 0, none⟩ = some (.string s)) (hf : w.frozen? ⟨b, 0, none⟩ = false) (hb : b < w.heap.size) (n : Nat) (hn : s.size < n) (hn2 : n ≤ 9223372036854775807) :
    Calls Tryd.prog 39 #[.pointer (some ⟨b, 0, none⟩), .int .i64 n] w fun e w' => e = .returned (.tuple #[.string ⟨#[]⟩, .int .i64 4]) ∧ Step b w w' s := by
  have hs' := hs
  unfold maxLen at hs'
  go_enter Tryd.func39, Tryd.ntmps39
  go_wp2_with fail
  refine (taker_any _ _).mono ?_
  rintro e w1 ⟨rfl, rfl⟩
  go_wp2_with fail
  refine (take1_no s b w.heap.size 0 n _ hs (al_ptr _ _ _) (al_cell _ hb hc) (by omega) (by omega)).mono ?_
  rintro e w1 ⟨rfl, rfl⟩
  go_wp2
  go_ret2
  exact ⟨rfl, untaken _ hb hc hf⟩
set_option maxHeartbeats 400000 in
theorem take_ok (s : ByteArray) (b : Nat) (w : World) (hs : s.size ≤ maxLen) (hc : w.cell? ⟨b, 0, none⟩ = some (.string s)) (hf : w.frozen? ⟨b, 0, none⟩ = false) (hb : b < w.heap.size) (n : Nat) (hn : n ≤ s.size) :
    Calls Tryd.prog 39 #[.pointer (some ⟨b, 0, none⟩), .int .i64 n] w fun e w' => e = .returned (.tuple #[.string (s.extract 0 n), .int .i64 0]) ∧ Step b w w' (s.extract n s.size) := by
  have hs' := hs
  unfold maxLen at hs'
  go_enter Tryd.func39, Tryd.ntmps39
  go_wp2_with fail
  refine (taker_any _ _).mono ?_
  rintro e w1 ⟨rfl, rfl⟩
  go_wp2_with fail
  refine (take1_ok s b w.heap.size 0 n _ hs (al_ptr _ _ _) (al_cell _ hb hc) (al_frozen _ hb hf) (by omega)).mono ?_
  rintro e w1 ⟨rfl, rfl⟩
  rw [Nat.zero_add]
  go_wp2
  go_ret2
  exact ⟨rfl, taken _ hb hc hf⟩
set_option maxHeartbeats 400000 in
theorem take_nil (w : World) (n : Int) :
    Calls Tryd.prog 39 #[.pointer none, .int .i64 n] w fun e w' => e = .returned (.tuple #[.string ⟨#[]⟩, .int .i64 2]) ∧ w' = w := by
  go_enter Tryd.func39, Tryd.ntmps39
  go_wp2
  go_ret2
  exact ⟨rfl, rfl⟩
end Go.Proofs.YtplfjfhpdfbpeaaDoor
/- The walk of wire.short. -/
namespace Go.Proofs.YtplfjfhpdfbpeaaDoor
open Go.RowKit
set_option linter.unusedSimpArgs false
set_option linter.unusedVariables false
theorem ret_sh (s : ByteArray) (a b : Int) (h : (a = shN s) ∧ b = shK s) : Ending.returned (.tuple #[.int .u64 a, .int .i64 b]) = .returned (.tuple #[.int .u64 (shN s), .int .i64 (shK s)]) := by rw [h.1, h.2]
theorem sh_none (s : ByteArray) (h : decS (bl s) = none) : (0 : Int) = shN s ∧ (0 : Int) = shK s := by simp [shN, shK, h]
theorem sh_some (s : ByteArray) (n k : Nat) (a b : Int) (h : decS (bl s) = some (n, k)) (ha : a = n) (hb : b = k) : a = shN s ∧ b = shK s := by simp [shN, shK, h, ha, hb]
theorem sh_good (s : ByteArray) (k acc : Nat) (H : decS (bl s) = dec k acc ((bl s).drop k) ∧ (k ≤ 9 → acc < 128 ^ k)) (h : k < s.size) (hk : k < 10) (hb : s[k].toNat < 128)
    (hc : ¬ ((s[k].toNat = 0 ∧ 0 < k) ∨ (1 < s[k].toNat ∧ k = 9))) :
    bits .or .u64 (acc : Int) (IntKind.u64.wrap (IntKind.u64.wrap (bits .and .u8 (s[k].toNat : Int) 127) * 2 ^ (7 * k))) = shN s ∧ (k : Int) + 1 = shK s := by
  obtain ⟨H1, H2⟩ := H
  rw [dec_good s k acc h hk hb hc] at H1
  have e := (accStep acc s[k].toNat k (by omega) (H2 (by omega)) (by omega)).1
  refine sh_some s _ _ _ _ H1 ?_ (by omega)
  rw [e, Nat.mod_eq_of_lt hb]
theorem sh_zero (s : ByteArray) (k acc : Nat) (H : decS (bl s) = dec k acc ((bl s).drop k) ∧ (k ≤ 9 → acc < 128 ^ k)) (h : k < s.size) (hk : k = 0) (hb : s[k].toNat = 0) :
    bits .or .u64 (acc : Int) (IntKind.u64.wrap (IntKind.u64.wrap (bits .and .u8 0 127))) = shN s ∧ (1 : Int) = shK s := by
  subst hk
  have e := sh_good s 0 acc H h (by omega) (by omega) (by omega)
  rw [hb] at e
  simpa using e
set_option maxHeartbeats 800000 in
theorem short_any (s : ByteArray) (w : World) (hs : s.size ≤ maxLen) :
    Calls Tryd.prog 54 #[.string s] w fun e w' => e = .returned (.tuple #[.int .u64 (shN s), .int .i64 (shK s)]) ∧ w' = w := by
  unfold maxLen at hs
  go_enter Tryd.func54, Tryd.ntmps54
  go_wp2
  all_goals
    go_loop [2, 9] (fun v i => ∃ (k acc : Nat), k ≤ s.size ∧ k ≤ 10 ∧ acc < 2 ^ 64 ∧ i = .int .i64 k ∧ v = .int .u64 acc ∧ Hid (decS (bl s) = dec k acc ((bl s).drop k) ∧ (k ≤ 9 → acc < 128 ^ k))) (fun _ i => 10 - (intOf i).toNat)
    case atStart => exact ⟨0, 0, by omega, by omega, by omega, rfl, rfl, ⟨rfl, fun _ => by omega⟩⟩
    case round =>
      obtain ⟨k, acc, hk1, hk2, hacc, rfl, rfl, HR⟩ := hrel
      by_cases hlt : k < s.size ∧ k < 10
      · obtain ⟨g1, g2⟩ := hlt
        by_cases hb : (128 : Int) ≤ s[k].toNat
        · go_wp2
          go_round
          case rel =>
            obtain ⟨R1, R2⟩ := HR.out
            have hlt256 := s[k].toNat_lt
            rw [dec_more s k acc g1 g2 (by omega)] at R1
            by_cases h9 : k = 9
            · obtain ⟨m, hm, hm2⟩ := bits_or_lt (acc : Int) (IntKind.u64.wrap (IntKind.u64.wrap (bits .and .u8 (s[k].toNat : Int) 127) * 2 ^ (7 * k)))
              refine ⟨k + 1, m, by omega, by omega, hm2, by go_num, by rw [hm], ⟨?_, fun h => by omega⟩⟩
              rw [R1, dec_ten _ _ _ (by omega), dec_ten _ _ _ (by omega)]
            · obtain ⟨e1, e2⟩ := accStep acc s[k].toNat k hlt256 (R2 (by omega)) (by omega)
              exact ⟨k + 1, _, by omega, by omega, e2, by go_num, by rw [e1], ⟨R1, fun _ => accNext _ _ _ (R2 (by omega))⟩⟩
          case measure => simp [intOf]; omega
        · go_wp2
          all_goals go_ret2
          all_goals refine ⟨ret_sh s _ _ ?_, rfl⟩
          all_goals first
            | exact sh_good s k acc HR.out g1 g2 (by omega) (by simp_all; omega)
            | exact sh_none s (by rw [HR.out.1]; exact dec_bad s k acc g1 g2 (by omega) (by simp_all; omega))
            | exact sh_zero s k acc HR.out g1 (by assumption) (by assumption)
      · go_wp2
        go_ret2
        refine ⟨ret_sh s _ _ (sh_none s ?_), rfl⟩
        rw [HR.out.1]
        by_cases e : k = 10
        · exact dec_ten _ _ _ (by omega)
        · rw [List.drop_of_length_le (by rw [bl_length]; omega)]; rfl
end Go.Proofs.YtplfjfhpdfbpeaaDoor
/- The walks of a reader's Uint and Text. -/
namespace Go.Proofs.YtplfjfhpdfbpeaaDoor
open Go.RowKit
set_option linter.unusedSimpArgs false
set_option linter.unusedVariables false
set_option maxHeartbeats 400000 in
theorem uint_nil (w : World) :
    Calls Tryd.prog 40 #[.pointer none] w fun e w' => e = .returned (.tuple #[.int .u64 0, .int .i64 2]) ∧ w' = w := by
  go_enter Tryd.func40, Tryd.ntmps40
  go_wp2
  go_ret2
  exact ⟨rfl, rfl⟩
set_option maxHeartbeats 400000 in
theorem uint_no (s : ByteArray) (b : Nat) (w : World) (hs : s.size ≤ maxLen) (hc : w.cell? ⟨b, 0, none⟩ = some (.string s)) (hf : w.frozen? ⟨b, 0, none⟩ = false) (hb : b < w.heap.size) (hk : shK s = 0) :
    Calls Tryd.prog 40 #[.pointer (some ⟨b, 0, none⟩)] w fun e w' => e = .returned (.tuple #[.int .u64 0, .int .i64 4]) ∧ Step b w w' s := by
  have HS := still hb hc hf
  have hk' : ((shK s : Int) == 0) = true := by simp [hk]
  clear hk
  go_enter Tryd.func40, Tryd.ntmps40
  go_wp2_with (go_at_call 54; refine (short_any s _ hs).mono ?_; rintro e w' ⟨rfl, rfl⟩)
  go_ret2
  exact ⟨rfl, HS⟩
set_option maxHeartbeats 400000 in
theorem uint_ok (s : ByteArray) (b : Nat) (w : World) (hs : s.size ≤ maxLen) (hc : w.cell? ⟨b, 0, none⟩ = some (.string s)) (hf : w.frozen? ⟨b, 0, none⟩ = false) (hb : b < w.heap.size) (hk : shK s ≠ 0) :
    Calls Tryd.prog 40 #[.pointer (some ⟨b, 0, none⟩)] w fun e w' => e = .returned (.tuple #[.int .u64 (shN s), .int .i64 0]) ∧ Step b w w' (s.extract (shK s) s.size) := by
  have hs' := hs
  unfold maxLen at hs'
  have hk2 := shK_le s
  have hk' : ((shK s : Int) == 0) = false := by simp [hk]
  clear hk
  go_enter Tryd.func40, Tryd.ntmps40
  go_wp2_with (go_at_call 54; refine (short_any s _ hs).mono ?_; rintro e w' ⟨rfl, rfl⟩)
  refine (taker_any _ _).mono ?_
  rintro e w1 ⟨rfl, rfl⟩
  go_wp2_with fail
  refine (take1_ok s b w'.heap.size (shK s) 0 _ hs (al_ptr _ _ _) (al_cell _ hb hc) (al_frozen _ hb hf) (by omega)).mono ?_
  rintro e w1 ⟨rfl, rfl⟩
  go_wp2
  go_ret2
  exact ⟨rfl, taken _ hb hc hf⟩
end Go.Proofs.YtplfjfhpdfbpeaaDoor
