import Derived.Test.YtpfknjnigcefgaaGreatDoorY34
import Derived.Test.YtpfknjnigcefgaaGreatDoorY30
import Derived.Test.YtpfknjnigcefgaaGreatDoorChecked
import Derived.Shelf.Strings.Builder1
import Derived.Lib.OthersKept
import Derived.WalkKit
import Derived.BigCall
import Derived.Shelf.Strings.BuilderK
import Derived.OwnWalk
import Derived.Test.YtpfknjnigcefgaaGreatDoorY8
import Derived.Test.YtpfknjnigcefgaaGreatDoorY5
import Derived.Test.YtpfknjnigcefgaaGreatDoorY32
import Derived.BigQuiet
import Derived.Test.YtpfknjnigcefgaaGreatDoorY12
import Derived.Deep.Cut
import Derived.Deep.CutRange
import Derived.Deep.DeepCutAuto
/- The document's own Parse (munimentref02). -/
namespace Go.Proofs.YtpfknjnigcefgaaGreatDoor
open Go.RowKit
set_option linter.unusedSimpArgs false
set_option linter.unusedVariables false
theorem runhex_all (s : ByteArray) (w : World) (hs : s.size ≤ 140737488351232) :
    Calls Tryz.prog 87 #[.string s] w fun e w' => e = .returned (.tuple #[.string (uhS s), .int .i64 (uhE s)]) ∧ Below w.heap.size w w' := by
  by_cases h : s.size % 2 = 1
  · exact (runhex_odd s w (by omega) h).mono fun e w' ⟨he, hw'⟩ => ⟨he, by subst hw'; exact Below.refl _ _⟩
  · exact runhex_even s w (s.size / 2) (by omega) (by omega)
theorem runhex_size (s : ByteArray) : (uhS s).size ≤ s.size := by
  cases e : unhexL (bl s) with
  | none => rw [(uh_none e).1]; exact Nat.zero_le _
  | some m =>
    have := (hex_unhex _ _ (Nat.le_refl _) m e).2
    rw [bl_length] at this
    rw [(uh_some e).1, sb_size]
    omega
/-- What Parse's two names are, wherever it stands. -/
def SP (w : World) (A : Array Value) (W : World) : Prop :=
  Blk W w.heap.size z32c 23 ∧ Blk W (w.heap.size + 1) A 23 ∧ Below w.heap.size w W
theorem SP.below {w W W' : World} {A : Array Value} (h : SP w A W) (hb : Below W.heap.size W W') : SP w A W' :=
  ⟨h.1.grown (grown_of_below hb none) (by simp), h.2.1.grown (grown_of_below hb none) (by simp), h.2.2.trans (hb.mono h.2.2.size)⟩
theorem SP.new (w : World) : SP w z32c ((w.alloc (.cells z32c 23)).alloc (.cells z32c 23)) := by
  have g2 := World.grownBy_alloc (w.alloc (.cells z32c 23)) (.cells z32c 23) none
  have e := blk_new (w.alloc (.cells z32c 23)) (.cells z32c 23)
  rw [alloc_size] at e
  exact ⟨Blk.grown (blk_new w (.cells z32c 23)) g2 (by simp), e, ((Below.refl _ _).alloc (Nat.le_refl _) _).alloc (by rw [alloc_size]; omega) _⟩
set_option maxHeartbeats 1000000 in
set_option maxRecDepth 100000 in
theorem rParse_bad (t : ByteArray) (w : World) (ht : t.size ≤ 140737488351232) (hbad : ¬ (uhE t = 0 ∧ (uhS t).size = 32)) :
    Calls Tryz.prog 45 #[.string t] w fun e w' => e = .returned (.tuple #[.agg z32c, .int .i64 4]) ∧ Below w.heap.size w w' := by
  go_enter Tryz.func45, Tryz.ntmps45
  go_wp2_with fail
  refine Calls.mono (runhex_all t ((w.alloc (.cells z32c 23)).alloc (.cells z32c 23)) ht) ?_
  rintro e w1 ⟨rfl, hb⟩
  have HP : Hid (SP w z32c w1) := (SP.new w).below hb
  have hsz : (uhS t).size ≤ t.size := runhex_size t
  rcases uhE_cases t with he | he
  · rw [he]
    have hne : ¬ ((uhS t).size : Int) = 32 := by intro h; exact hbad ⟨he, by omega⟩
    clear hb hbad
    go_wp2_with (first
      | (refine wpList_load_row rfl 23 (.tmp 4) rfl (w.heap.size + 1) rfl 23 z32c (0, 0) _ HP.out.2.1 Tryz.underlying23 rfl (info_32 z32c_size) ?_)
      | (refine wpList_store_row rfl 23 (.tmp 2) (.tmp 20) rfl w.heap.size z32c rfl rfl 23 z32c HP.out.1 (info_32 z32c_size) rfl z32c_one ?_))
    refine bodyPost_ret (results_cell_tmp_row rfl _ _ w.heap.size 23 z32c (0, 0) _ rfl (setRow_heap _ _ _ _ _ _ HP.out.1) Tryz.underlying23 rfl (info_32 z32c_size)) rfl ⟨rfl, ?_⟩
    exact below_setRow HP.out.2.2 (Nat.le_refl _) _
  · rw [he]
    clear hb hbad
    go_wp2_with (first
      | (refine wpList_load_row rfl 23 (.tmp 4) rfl (w.heap.size + 1) rfl 23 z32c (0, 0) _ HP.out.2.1 Tryz.underlying23 rfl (info_32 z32c_size) ?_)
      | (refine wpList_store_row rfl 23 (.tmp 2) (.tmp 20) rfl w.heap.size z32c rfl rfl 23 z32c HP.out.1 (info_32 z32c_size) rfl z32c_one ?_))
    refine bodyPost_ret (results_cell_tmp_row rfl _ _ w.heap.size 23 z32c (0, 0) _ rfl (setRow_heap _ _ _ _ _ _ HP.out.1) Tryz.underlying23 rfl (info_32 z32c_size)) rfl ⟨rfl, ?_⟩
    exact below_setRow HP.out.2.2 (Nat.le_refl _) _
end Go.Proofs.YtpfknjnigcefgaaGreatDoor
/- The document's own Parse (munimentref02): a name's text. -/
namespace Go.Proofs.YtpfknjnigcefgaaGreatDoor
open Go.RowKit
set_option linter.unusedSimpArgs false
set_option linter.unusedVariables false
/-- So many bytes of a text laid into a name of noughts. -/
def fp (q : ByteArray) : Nat → Array Value
  | 0 => z32c
  | j + 1 => (fp q j).setIfInBounds j (.int .u8 (((byl q).getD j 0 : Nat) : Int))
theorem fp_size (q : ByteArray) : ∀ j, (fp q j).size = 32
  | 0 => z32c_size
  | j + 1 => by rw [fp, Array.size_setIfInBounds]; exact fp_size q j
theorem fp_get (q : ByteArray) (hq : q.size = 32) : ∀ j, j ≤ 32 → ∀ i, i < j → (fp q j)[i]? = (idc q)[i]?
  | 0, _, i, hi => by omega
  | j + 1, hj, i, hi => by
    rw [fp, Array.getElem?_setIfInBounds]
    by_cases e : j = i
    · subst e
      rw [if_pos rfl, if_pos (by rw [fp_size]; omega)]
      have hl : j < (byl q).length := by rw [byl_length]; omega
      rw [idc, List.getElem?_toArray, bvc, List.getElem?_map, List.getElem?_eq_getElem hl, List.getD, List.getElem?_eq_getElem hl]; rfl
    · rw [if_neg e]; exact fp_get q hq j (by omega) i (by omega)
theorem fp_all (q : ByteArray) (hq : q.size = 32) : fp q 32 = idc q := by
  apply Array.ext_getElem?
  intro i
  by_cases h : i < 32
  · exact fp_get q hq 32 (Nat.le_refl _) i h
  · rw [Array.getElem?_eq_none (by rw [fp_size]; omega), Array.getElem?_eq_none (by rw [idc_size]; omega)]
theorem idc_ones (s : ByteArray) : (idc s).all (·.oneCell') = true := Array.all_eq_true_iff_forall_mem.2 (by intro v hv; exact bvc_one _ v (by simpa [idc] using hv))
set_option maxHeartbeats 1000000 in
set_option maxRecDepth 100000 in
theorem rParse_good (t : ByteArray) (w : World) (ht : t.size ≤ 140737488351232) (he : uhE t = 0) (hz : (uhS t).size = 32) :
    Calls Tryz.prog 45 #[.string t] w fun e w' => e = .returned (.tuple #[.agg (idc (uhS t)), .int .i64 0]) ∧ Below w.heap.size w w' := by
  go_enter Tryz.func45, Tryz.ntmps45
  go_wp2_with fail
  refine Calls.mono (runhex_all t ((w.alloc (.cells z32c 23)).alloc (.cells z32c 23)) ht) ?_
  rintro e w1 ⟨rfl, hb⟩
  have HS : Hid (SP w (fp (uhS t) 0) w1) := (SP.new w).below hb
  rw [he]
  obtain ⟨q, hq⟩ : ∃ q, q = uhS t := ⟨_, rfl⟩
  rw [← hq] at hz HS ⊢
  have hzi : ((q.size : Int) = 32) := by omega
  have HU : Hid (q = uhS t) := hq
  clear hb hq he
  go_wp2
  go_loopw [7] (fun i wr => ∃ j : Nat, j ≤ 32 ∧ i = .int .i64 (j : Int) ∧ Hid (SP w (fp q j) wr)) (fun i _ => 40 - (intOf i).toNat)
  case atStart => exact ⟨0, by omega, rfl, HS.out⟩
  case round =>
    clear HS
    obtain ⟨j, hj, rfl, HR⟩ := hrel
    by_cases hj0 : j < 32
    · have hjq : j < q.size := by omega
      obtain ⟨u, hu⟩ : ∃ u, (fp q j)[j]? = some u := ⟨_, Array.getElem?_eq_getElem (by rw [fp_size]; exact hj0)⟩
      have hc3 : wr.cell? ⟨w.heap.size + 1, j, none⟩ = some u := by rw [HR.out.2.1.cell]; exact hu
      have hf3 : wr.frozen? ⟨w.heap.size + 1, j, none⟩ = false := HR.out.2.1.frozen j
      have HV : Hid ((byl q).getD j 0 = q[j].toNat) := by show (byl q).getD j 0 = q[j].toNat; rw [List.getD, byl_getD q j hjq]; rfl
      clear hu
      go_wp2
      go_roundw
      case rel =>
        refine ⟨j + 1, by omega, by go_num, ?_⟩
        have hS := HR.out
        have e : fp q (j + 1) = (fp q j).setIfInBounds j (.int .u8 (q[j].toNat : Int)) := by rw [← HV.out]; rfl
        have gg : wr.grownBy (wr.setCell ⟨w.heap.size + 1, j, none⟩ (.int .u8 (q[j].toNat : Int))) (some (w.heap.size + 1)) := Lib.grownBy_setB (World.grownBy.refl wr (some (w.heap.size + 1))) j _
        refine ⟨hS.1.grown gg (by simp), ?_, hS.2.2.setCell (by show w.heap.size ≤ w.heap.size + 1; omega) _⟩
        rw [e]
        exact hS.2.1.set _ _
      case measure => simp [intOf]; omega
    · have hj1 : j = 32 := by omega
      subst hj1
      have HP : Hid (SP w (idc q) wr) := by rw [← fp_all q hz]; exact HR.out
      clear HR hj hj0
      rw [show ((32 : Nat) : Int) = (32 : Int) from rfl]
      have hiq : (Tryz.prog.info? 23).map (·.size) = some (idc q).size := info_32 (by rw [idc_size]; exact hz)
      go_wp2_with (first
        | (refine wpList_load_row rfl 23 (.tmp 4) rfl (w.heap.size + 1) rfl 23 (idc q) (0, 0) _ HP.out.2.1 Tryz.underlying23 rfl hiq ?_)
        | (refine wpList_store_row rfl 23 (.tmp 2) (.tmp 30) rfl w.heap.size (idc q) rfl rfl 23 z32c HP.out.1 hiq (by rw [z32c_size, idc_size, hz]) (idc_ones q) ?_))
      refine bodyPost_ret (results_cell_tmp_row rfl _ _ w.heap.size 23 (idc q) (0, 0) _ rfl (setRow_heap _ _ _ _ _ _ HP.out.1) Tryz.underlying23 rfl hiq) rfl ⟨by rw [← HU.out]; rfl, ?_⟩
      exact below_setRow HP.out.2.2 (Nat.le_refl _) _
end Go.Proofs.YtpfknjnigcefgaaGreatDoor
/- The layings of strings.Builder. -/
namespace Go.Proofs.YtpfknjnigcefgaaGreatDoor
open Go.Shelf
def lays169_ren : Go.Shelf.Ren := ⟨fun | 169 => 66 | n => n, fun | 70 => 116 | 9 => 9 | 0 => 0 | 72 => 118 | 37 => 82 | 127 => 155 | 3 => 3 | 5 => 5 | n => n, fun | n => n⟩
theorem lays169 : Go.Proofs.Lays.n169 Tryz.prog lays169_ren := {
  mixed := by kernel_rfl
  f169 := Tryz.func66.trans (congrArg some (by kernel_rfl))
  t0 := Tryz.underlying0
  a0 := Tryz.isAgg0
  z0 := Tryz.sizeOf0
  v0 := Tryz.zeroValue0
  t3 := Tryz.underlying3
  a3 := Tryz.isAgg3
  z3 := Tryz.sizeOf3
  v3 := Tryz.zeroValue3
  t9 := Tryz.underlying9
  a9 := Tryz.isAgg9
  z9 := Tryz.sizeOf9
  v9 := Tryz.zeroValue9
  t37 := Tryz.underlying82
  a37 := Tryz.isAgg82
  z37 := Tryz.sizeOf82
  v37 := Tryz.zeroValue82
  t70 := Tryz.underlying116
  a70 := Tryz.isAgg116
  z70 := Tryz.sizeOf116
  v70 := Tryz.zeroValue116
  t72 := Tryz.underlying118
  a72 := Tryz.isAgg118
  z72 := Tryz.sizeOf118
  v72 := Tryz.zeroValue118
  t127 := Tryz.underlying155
  a127 := Tryz.isAgg155
  z127 := Tryz.sizeOf155
  v127 := Tryz.zeroValue155 }
def lays166_ren : Go.Shelf.Ren := ⟨fun | 166 => 63 | 240 => 102 | 276 => 128 | n => n, fun | 0 => 0 | 3 => 3 | 4 => 4 | 5 => 5 | 9 => 9 | 20 => 20 | 37 => 82 | 70 => 116 | 72 => 118 | 75 => 122 | 164 => 180 | 80 => 65 | n => n, fun | n => n⟩
theorem lays166 : Go.Proofs.Lays.n166 Tryz.prog lays166_ren := {
  mixed := by kernel_rfl
  f166 := Tryz.func63.trans (congrArg some (by kernel_rfl))
  f240 := Tryz.func102.trans (congrArg some (by kernel_rfl))
  f276 := Tryz.func128.trans (congrArg some (by kernel_rfl))
  t0 := Tryz.underlying0
  a0 := Tryz.isAgg0
  z0 := Tryz.sizeOf0
  v0 := Tryz.zeroValue0
  t3 := Tryz.underlying3
  a3 := Tryz.isAgg3
  z3 := Tryz.sizeOf3
  v3 := Tryz.zeroValue3
  t4 := Tryz.underlying4
  a4 := Tryz.isAgg4
  z4 := Tryz.sizeOf4
  v4 := Tryz.zeroValue4
  t9 := Tryz.underlying9
  a9 := Tryz.isAgg9
  z9 := Tryz.sizeOf9
  v9 := Tryz.zeroValue9
  t20 := Tryz.underlying20
  a20 := Tryz.isAgg20
  z20 := Tryz.sizeOf20
  v20 := Tryz.zeroValue20
  t37 := Tryz.underlying82
  a37 := Tryz.isAgg82
  z37 := Tryz.sizeOf82
  v37 := Tryz.zeroValue82
  t70 := Tryz.underlying116
  a70 := Tryz.isAgg116
  z70 := Tryz.sizeOf116
  v70 := Tryz.zeroValue116
  t72 := Tryz.underlying118
  a72 := Tryz.isAgg118
  z72 := Tryz.sizeOf118
  v72 := Tryz.zeroValue118
  t75 := Tryz.underlying122
  a75 := Tryz.isAgg122
  z75 := Tryz.sizeOf122
  v75 := Tryz.zeroValue122
  t164 := Tryz.underlying180
  a164 := Tryz.isAgg180
  z164 := Tryz.sizeOf180
  v164 := Tryz.zeroValue180 }
theorem extra166 : Builder.Extra Tryz.prog lays166_ren := {
  sizeBuilder := by kernel_rfl
  liesBuilder := by kernel_rfl
  t5 := Tryz.underlying5
  a5 := Tryz.isAgg5
  z5 := Tryz.sizeOf5
  v5 := Tryz.zeroValue5
  infoByte := by kernel_rfl
  cellsByte := by kernel_rfl
  sizeByte := by kernel_rfl
  neB5 := by decide }
theorem extra169 : Builder.Extra Tryz.prog lays169_ren := {
  sizeBuilder := by kernel_rfl
  liesBuilder := by kernel_rfl
  t5 := Tryz.underlying5
  a5 := Tryz.isAgg5
  z5 := Tryz.sizeOf5
  v5 := Tryz.zeroValue5
  infoByte := by kernel_rfl
  cellsByte := by kernel_rfl
  sizeByte := by kernel_rfl
  neB5 := by decide }
end Go.Proofs.YtpfknjnigcefgaaGreatDoor
/- strings.Builder, all but WriteByte. -/
namespace Go.Proofs.YtpfknjnigcefgaaGreatDoor
open Go.RowKit
set_option linter.unusedSimpArgs false
set_option linter.unusedVariables false
/-- A builder that holds these bytes. -/
abbrev Bld (B b : Nat) (l : List UInt8) (w : World) : Prop := Lib.IsBuilderF 118 5 B b (Lib.byteCells l) w
abbrev Oth (b : Nat) (w w' : World) : Prop := Lib.OthersKept 5 (some b) w w'
theorem str_cells (s : ByteArray) : Lib.strCells s = Lib.byteCells s.data.toList := by
  unfold Lib.strCells Lib.byteCells
  rfl
theorem writeS (B b : Nat) (l : List UInt8) (s : ByteArray) (w : World) (h : Bld B b l w) (hlen : l.length + s.size ≤ 140737488355328) (hBw : B ≤ w.heap.size) :
    Calls Tryz.prog 63 #[.pointer (some ⟨b, 0, none⟩), .string s] w fun e w' => e = .returned (.tuple #[.int .i64 s.size, .nilIface]) ∧ Bld B b (l ++ s.data.toList) w' ∧ Below B w w' ∧ Oth b w w' :=
  (Any.Builder_WriteString_k lays166 extra166 B b (Lib.byteCells l) s w h (by rw [Lib.byteCells_length]; exact hlen) hBw).mono fun e w' ⟨he, h1, h2, h3⟩ =>
    ⟨he, by rw [Bld, Lib.byteCells_append, ← str_cells]; exact Or.inr h1, h2, h3⟩
theorem buildS (B b : Nat) (l : List UInt8) (w : World) (h : Bld B b l w) (hBw : B ≤ w.heap.size) :
    Calls Tryz.prog 66 #[.pointer (some ⟨b, 0, none⟩)] w fun e w' => e = .returned (.string ⟨l.toArray⟩) ∧ Bld B b l w' ∧ Below B w w' ∧ Oth b w w' :=
  Any.Builder_String_any_k lays169 extra169 B b l w h hBw
theorem fresh_bld (w : World) : Bld w.heap.size w.heap.size [] (w.alloc (.cells #[.pointer none, .slice none 0 0] 118)) := Lib.IsBuilderF.of (Lib.fresh_isBuilder _ _ w)
end Go.Proofs.YtpfknjnigcefgaaGreatDoor
/- strings.Builder: what is kept. -/
namespace Go.Proofs.YtpfknjnigcefgaaGreatDoor
open Go.RowKit
set_option linter.unusedSimpArgs false
set_option linter.unusedVariables false
theorem oth_bk11 {b k : Nat} {w w' : World} {C : Array Value} {T : TypeId} (h : Oth b w w') (hb : Bk w k C T) (hk : k ≠ b) (hT : T ≠ 5) : Bk w' k C T :=
  h k _ hb (by simpa using hk) (fun c fz e => hT (by injection e))
theorem grn_keep11 {w w' : World} (h : Below w.heap.size w w') : w.grownBy w' none := ⟨h.os, h.tape, h.output, h.size, fun i hi _ => h.block i hi⟩
theorem bldAt_keep11 {B b : Nat} {p : Value} {l : List Value} {w w' : World} (h : Lib.BuilderAtF 118 5 B b p l w) (hb : Below w.heap.size w w') : Lib.BuilderAtF 118 5 B b p l w' := by
  obtain ⟨h1, v, h2, h3, h4⟩ := h
  have hlt : b < w.heap.size := (Array.getElem?_eq_some_iff.1 h2).1
  exact ⟨h1, v, (hb.block b hlt).trans h2, h3.kept (grn_keep11 hb) (by cases v.ownBlock <;> simp), h4⟩
theorem bld_keep11 {B b : Nat} {l : List UInt8} {w w' : World} (h : Bld B b l w) (hb : Below w.heap.size w w') : Bld B b l w' := by
  rcases h with h | h
  · exact .inl (bldAt_keep11 h hb)
  · exact .inr (bldAt_keep11 h hb)
/-- A map's block is turned, or one of another type: the builder stays. -/
theorem bldAt_apart {B b m : Nat} {p : Value} {l : List Value} {w w' : World} (h : Lib.BuilderAtF 118 5 B b p l w) (hg : w.grownBy w' (some m)) (hm : ∀ C T F, w.heap[m]? = some (.cells C T F) → T ≠ 5 ∧ T ≠ 118) : Lib.BuilderAtF 118 5 B b p l w' := by
  obtain ⟨h1, v, h2, h3, h4⟩ := h
  have hlt : b < w.heap.size := (Array.getElem?_eq_some_iff.1 h2).1
  refine ⟨h1, v, (hg.block b hlt (fun e => by injection e with e; subst e; exact (hm _ _ _ h2).2 rfl)).trans h2, h3.kept hg ?_, h4⟩
  rcases h3.2 with ⟨rfl, _⟩ | ⟨g, cap, cur, fz, rfl, hb, hgg, _⟩
  · exact .inl rfl
  · refine .inr ?_
    simp only [Value.ownBlock]
    intro e
    injection e with e
    subst e
    exact (hm _ _ _ hgg).1 rfl
theorem bld_apart {B b m : Nat} {l : List UInt8} {w w' : World} (h : Bld B b l w) (hg : w.grownBy w' (some m)) (hm : ∀ C T F, w.heap[m]? = some (.cells C T F) → T ≠ 5 ∧ T ≠ 118) : Bld B b l w' := by
  rcases h with h | h
  · exact .inl (bldAt_apart h hg hm)
  · exact .inr (bldAt_apart h hg hm)
theorem bld_lt {B b : Nat} {l : List UInt8} {w : World} (h : Bld B b l w) : B ≤ b ∧ b < w.heap.size := by
  rcases h with ⟨h1, v, h2, _⟩ | ⟨h1, v, h2, _⟩ <;> exact ⟨h1, (Array.getElem?_eq_some_iff.1 h2).1⟩
/-- What a builder's cells are. -/
theorem bld_cells {B b : Nat} {l : List UInt8} {w : World} (h : Bld B b l w) : ∃ p a c, Bk w b #[p, .slice a l.length c] 118 := by
  have key : ∀ p, Lib.BuilderAtF 118 5 B b p (Lib.byteCells l) w → ∃ p a c, Bk w b #[p, .slice a l.length c] 118 := by
    rintro p ⟨h1, v, h2, h3, h4⟩
    rw [Lib.byteCells_length] at h3
    rcases h3.2 with ⟨rfl, h0⟩ | ⟨g, cap, cur, fz, rfl, hb, hgg, _⟩
    · have hl : l.length = 0 := h0
      exact ⟨p, none, 0, by rw [hl]; exact h2⟩
    · exact ⟨_, _, _, h2⟩
  rcases h with h | h
  · exact key _ h
  · exact key _ h
end Go.Proofs.YtpfknjnigcefgaaGreatDoor
/- strings.Builder: Len. -/
namespace Go.Proofs.YtpfknjnigcefgaaGreatDoor
open Go.RowKit
set_option linter.unusedSimpArgs false
set_option linter.unusedVariables false
end Go.Proofs.YtpfknjnigcefgaaGreatDoor
/- pack.Build. -/
namespace Go.Proofs.YtpfknjnigcefgaaGreatDoor
open Go.RowKit
set_option linter.unusedSimpArgs false
set_option linter.unusedVariables false
/-- Objects of a slice. -/
def ObL (w : World) (a : Option Addr) (l : List Ob) : Prop :=
  ∀ i o, l[i]? = some o → ∃ g z, a = some ⟨g, z, none⟩ ∧ g < w.heap.size ∧ w.cell? ⟨g, z + i * 2, none⟩ = some (.int .u8 (o.k.toNat : Int)) ∧ w.cell? ⟨g, z + i * 2 + 1, none⟩ = some (.string o.p) ∧ o.p.size ≤ 140737488351232
theorem ObL.below {w w' : World} {a : Option Addr} {l : List Ob} (h : ObL w a l) (hb : Below w.heap.size w w') : ObL w' a l := fun i x hx => by
  obtain ⟨g, o, h1, h2, h3, h4, h5⟩ := h i x hx
  exact ⟨g, o, h1, Nat.lt_of_lt_of_le h2 hb.size, by rw [hb.cell (p := ⟨g, o + i * 2, none⟩) h2]; exact h3, by rw [hb.cell (p := ⟨g, o + i * 2 + 1, none⟩) h2]; exact h4, h5⟩
/-- A pack under way. -/
structure BdS (w0 : World) (m : Nat) (d : List Ob) (w : World) : Prop where
  bld : Bld w0.heap.size w0.heap.size (mk4 ++ recL d) w
  st : St (fun v => v = .agg #[]) w m (d.map nmO)
  mlb : w0.heap.size < m
  bel : Below w0.heap.size w0 w
theorem BdS.keep {w0 w w' : World} {m : Nat} {d : List Ob} (h : BdS w0 m d w) (hb : Below w.heap.size w w') : BdS w0 m d w' :=
  ⟨bld_keep11 h.bld hb, h.st.below hb, h.mlb, h.bel.trans (hb.mono h.bel.size)⟩
theorem blw_drewN {B : Nat} {w w' : World} (h : Below B w w') : ∀ n, Below B w (w'.drewN n)
  | 0 => h
  | n + 1 => (blw_drewN h n).drew
theorem below_none {w w' : World} (h : w.grownBy w' none) : Below w.heap.size w w' := ⟨h.os, h.tape, h.output, h.size, fun k hk => h.block k hk (by simp)⟩
theorem onL_nm (d : List Ob) (x : ByteArray) : onL (d.map nmO) x = hasN d x := by rw [onL, hasN, List.any_map]; rfl
theorem bdE_step (l : List Ob) (k : Nat) (o : Ob) (hk : l[k]? = some o) : bdE (l.take k) (l.drop k) = (if okO o = false ∨ k = 65536 ∨ 67108864 < 4 + lenL (l.take k) + 9 + o.p.size + (trl (k + 1)).size then 1 else if hasN (l.take k) (nmO o) = true then 7 else bdE (l.take (k + 1)) (l.drop (k + 1))) := by
  have hlt : k < l.length := (List.getElem?_eq_some_iff.1 hk).1
  rw [List.drop_eq_getElem_cons hlt, bdE]
  have e : l[k] = o := by rw [List.getElem?_eq_getElem hlt] at hk; exact Option.some.inj hk
  have hl : (l.take k).length = k := by rw [List.length_take]; omega
  rw [e, hl, List.take_add_one, hk, Option.toList_some]
theorem GdP.step {l : List Ob} {k : Nat} {o : Ob} (h : GdP (l.take k)) (hk : l[k]? = some o) (h1 : ¬ (okO o = false ∨ k = 65536 ∨ 67108864 < 4 + lenL (l.take k) + 9 + o.p.size + (trl (k + 1)).size)) (h2 : hasN (l.take k) (nmO o) = false) : GdP (l.take (k + 1)) := by
  have hlt : k < l.length := (List.getElem?_eq_some_iff.1 hk).1
  have hl : (l.take k).length = k := by rw [List.length_take]; omega
  rw [List.take_add_one, hk, Option.toList_some]
  refine bdE_ok [o] (l.take k) h ?_
  rw [bdE, hl, if_neg h1, if_neg (by rw [h2]; simp)]; rfl
theorem ret_se11 {a b : ByteArray} {e e' : Int} (h : b = a ∧ e' = e) : Ending.returned (.tuple #[.string a, .int .i64 e]) = .returned (.tuple #[.string b, .int .i64 e']) := by rw [h.1, h.2]
theorem recL_snoc (d : List Ob) (o : Ob) : recL (d ++ [o]) = recL d ++ bl (recO o) := by rw [recL_append]; simp [recL]
theorem BdS.look {w0 w : World} {m : Nat} {d : List Ob} (h : BdS w0 m d w) (x : ByteArray) (hx : x.size = 32) : (Instr.lookup 57 (.map (some m)) (.agg (idc x)) true).run Tryz.prog w = .ok (.tuple #[.agg #[], .bool (hasN d x)]) w := by
  obtain ⟨v, h1, rfl⟩ := h.st.look Tryz.underlying57 (zero_unit _) rfl x hx
  rw [onL_nm] at h1
  exact h1
theorem BdS.put {w0 w : World} {m : Nat} {d : List Ob} (h : BdS w0 m d w) (hn : d.length < 1048576) (x : ByteArray) (hx : x.size = 32) :
    ∃ w', (Instr.mapUpdate 57 (.map (some m)) (.agg (idc x)) (.agg #[])).run Tryz.prog w = .ok () w' ∧ Bld w0.heap.size w0.heap.size (mk4 ++ recL d) w' ∧ St (fun v => v = .agg #[]) w' m (d.map nmO ++ [x]) ∧ Below w0.heap.size w0 w' ∧ (∀ b C T, Bk w b C T → Bk w' b C T) := by
  obtain ⟨w', h1, h2, h3⟩ := h.st.put Tryz.underlying57 (by rw [List.length_map]; exact hn) x hx (.agg #[]) rfl
  obtain ⟨es, c, hm⟩ := h.st.isMap
  refine ⟨w', h1, bld_apart h.bld h3 (fun C T F hc => ?_), h2, below_own h.bel h.bel.size h3 (Nat.le_of_lt h.mlb), fun b C T hb => hb.grown h3 (fun q => ?_)⟩
  · rw [hm] at hc; cases hc
  · injection q with q
    subst q
    have hb' : w.heap[m]? = some (.cells C T (0, 0)) := hb
    rw [hm] at hb'; cases hb'
theorem bd_mid {w0 w6 : World} {m q r : Nat} {d : List Ob} {x p : ByteArray} {k : UInt8} (h : BdS w0 m d w6) (hn : d.length < 1048576) (hx : x.size = 32) (ho : Bk w6 q #[.int .u8 (k.toNat : Int), .string p] 157) (hk : Bk w6 r (idc x) 23) :
    ∃ w8, (Instr.mapUpdate 57 (.map (some m)) (.agg (idc x)) (.agg #[])).run Tryz.prog (w6.alloc (.cells #[] 59)) = .ok () w8 ∧ w8.cell? ⟨q, 0, none⟩ = some (.int .u8 (k.toNat : Int)) ∧ w8.cell? ⟨q, 1, none⟩ = some (.string p) ∧
      (w8.alloc (.cells #[.int .u8 (k.toNat : Int)] 5)).cell? ⟨q, 1, none⟩ = some (.string p) ∧ (convert 82 9 (.slice (some ⟨w8.heap.size, 0, none⟩) 1 1)).run Tryz.prog (w8.alloc (.cells #[.int .u8 (k.toNat : Int)] 5)) = .ok (.string (strOfNums [(k.toNat : Int)])) (w8.alloc (.cells #[.int .u8 (k.toNat : Int)] 5)) ∧
      q < w8.heap.size ∧ Hid (Bk (w6.alloc (.cells #[] 59)) r (idc x) 23) ∧ Hid (Bld w0.heap.size w0.heap.size (mk4 ++ recL d) w8 ∧ St (fun v => v = .agg #[]) w8 m (d.map nmO ++ [x]) ∧ Below w0.heap.size w0 w8) := by
  have h7 : BdS w0 m d (w6.alloc (.cells #[] 59)) := h.keep ((Below.refl _ _).alloc (Nat.le_refl _) _)
  obtain ⟨w8, hput, hbl8, hst8, hbel8, hkk8⟩ := h7.put hn x hx
  have ho8 : Bk w8 q #[.int .u8 (k.toNat : Int), .string p] 157 := hkk8 _ _ _ (ho.alloc _)
  exact ⟨w8, hput, by rw [ho8.cell]; rfl, by rw [ho8.cell]; rfl, by rw [(ho8.alloc _).cell]; rfl, conv_any _ _ _ (World.cell?_alloc_new _ _ _ _), ho8.lt, hk.alloc _, hbl8, hst8, hbel8⟩
/-- The record of one more is written. -/
theorem bd_write {w0 w : World} {m : Nat} {d : List Ob} {o : Ob} (hb : Bld w0.heap.size w0.heap.size (mk4 ++ recL d) w) (hs : St (fun v => v = .agg #[]) w m (d.map nmO ++ [nmO o])) (hB : Below w0.heap.size w0 w) (hm : w0.heap.size < m) (hz : 4 + lenL d + (9 + o.p.size) ≤ 140737488355328) :
    Calls Tryz.prog 63 #[.pointer (some ⟨w0.heap.size, 0, none⟩), .string (recO o)] w fun e w' => e = .returned (.tuple #[.int .i64 (recO o).size, .nilIface]) ∧ BdS w0 m (d ++ [o]) w' := by
  refine (writeS w0.heap.size w0.heap.size _ (recO o) w hb (by rw [List.length_append, recL_length, recO_size, mk4_length]; exact hz) hB.size).mono ?_
  rintro e w' ⟨rfl, h1, h2, h3⟩
  refine ⟨rfl, ?_, ?_, hm, hB.trans h2⟩
  · rw [recL_snoc, ← List.append_assoc]; exact h1
  · obtain ⟨es, c, hm'⟩ := hs.isMap
    rw [List.map_append]
    exact hs.keep ((h3 m _ hm' (by simp; omega) (by simp)).trans hm'.symm)
end Go.Proofs.YtpfknjnigcefgaaGreatDoor
/- The law's own: a list of objects copied, with a mark behind it. -/
namespace Go.Proofs.YtpfknjnigcefgaaGreatDoor
open Go.RowKit
set_option linter.unusedSimpArgs false
set_option linter.unusedVariables false
/-- Objects as cells. -/
def obv (l : List Ob) : List Value := l.flatMap fun o => [Value.int .u8 (o.k.toNat : Int), Value.string o.p]
theorem obv_snoc (l : List Ob) (o : Ob) : obv (l ++ [o]) = obv l ++ [Value.int .u8 (o.k.toNat : Int), Value.string o.p] := by simp [obv]
theorem inf_obj : (Tryz.prog.info? 157).map (fun i => (i.zero, i.size, i.bytes)) = some (some (.agg #[.int .u8 0, .string ⟨#[]⟩]), 2, 24) := by kernel_rfl
theorem one_two_o (k : Int) (p : ByteArray) : ∀ u ∈ [Value.int .u8 k, Value.string p], u.oneCell' = true := by
  intro u hu
  simp only [List.mem_cons, List.not_mem_nil, or_false] at hu
  rcases hu with rfl | rfl <;> rfl
/-- The mark. -/
def mkO : Ob := ⟨77, ⟨#[]⟩⟩
structure OwS (w0 : World) (l : List Ob) (v : Value) (w : World) : Prop where
  ow : w.ownsRow w0.heap.size 157 2 v l.length (obv l)
  bel : Below w0.heap.size w0 w
theorem OwS.drew {w0 w : World} {l : List Ob} {v : Value} (h : OwS w0 l v w) : OwS w0 l v w.drew := ⟨h.ow, h.bel.drew⟩
end Go.Proofs.YtpfknjnigcefgaaGreatDoor
