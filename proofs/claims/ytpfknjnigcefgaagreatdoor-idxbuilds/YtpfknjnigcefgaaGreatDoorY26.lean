import Derived.Test.YtpfknjnigcefgaaGreatDoorY7
import Derived.Test.YtpfknjnigcefgaaGreatDoorY2
import Derived.Test.YtpfknjnigcefgaaGreatDoorY10
import Derived.Test.YtpfknjnigcefgaaGreatDoorY25
import Derived.Great.BuildSlice
import Derived.Maps.AppendAt
import Derived.OwnWalk
/- digest.Of. -/
namespace Go.Proofs.YtpfknjnigcefgaaGreatDoor
open Go.RowKit
set_option linter.unusedSimpArgs false
set_option linter.unusedVariables false
set_option maxHeartbeats 400000 in
set_option maxRecDepth 100000 in
theorem of_big (k : Nat) (p : ByteArray) (w : World) (hk : k < 256) (hp : p.size ≤ 140737488355328) (hL : Lst w) :
    Calls Tryz.prog 108 #[.int .u8 (k : Int), .string p] w fun e w' => e = .returned (.agg (shc (whl k p))) ∧ Below w.heap.size w w' := by
  have HL : Hid (Lst w) := hL
  have hlt := hL.lt
  have hz := (zero_of_info zero_state).1
  have c1 := fun o => conv1s w o (k : Int)
  have hsz := one_size (k : Int)
  have hwr : IntKind.u64.wrap (p.size : Int) = (p.size : Int) := wrap64s _ (by omega)
  have hw9 : (whl k p).length < 288230376151711744 := by simp [whl, fixN_length, byl_length]; omega
  have hp9 : (byl (sb (k :: fixN 8 p.size))).length = 9 := by rw [byl_pre k _ hk]; simp [fixN_length]
  have HP9 : Hid ((byl (sb (k :: fixN 8 p.size))).length = 9) := hp9
  have HPE : Hid (byl (sb (k :: fixN 8 p.size)) ++ byl p = whl k p) := by show _ = _; rw [byl_pre k _ hk]; rfl
  have HPS : Hid ((sb (k :: fixN 8 p.size)).size = 9) := by show _ = _; rw [sb_size]; simp [fixN_length]
  have hpe := pre_eq k p.size
  clear hL hp9
  go_enter Tryz.func108, Tryz.ntmps108
  go_wp2_with (first
    | (go_at_call 62; refine (putFixed_ok _ _ 8 _ (by omega) (by omega) (by omega) (by omega) (by omega) (by rw [hsz]; omega)).mono ?_; rintro e w0 ⟨rfl, hb0⟩; have HB0 : Hid (Below ((w.alloc (.cells z32c 23)).alloc (.cells #[.int .u8 (k : Int)] 5)).heap.size ((w.alloc (.cells z32c 23)).alloc (.cells #[.int .u8 (k : Int)] 5)) w0) := hb0; clear hb0; have hz0 : w.heap.size + 2 ≤ w0.heap.size := by { have := HB0.out.size; rw [alloc_size, alloc_size] at this; exact this })
    | (go_at_call 72; refine (begin_any _ (((HL.out.alloc _).alloc _).below HB0.out).h).mono ?_; rintro e w1 ⟨rfl, hb1⟩; have HB1 : Hid (Below w0.heap.size w0 w1) := hb1; clear hb1; have hz1 := HB1.out.size)
    | (refine wpList_store_abs rfl 132 (.tmp 7) (.tmp 18) rfl (stc H0 z64 0) _ 132 w1.heap.size rfl rfl rfl (info_st _ _ _ rfl) (by exact zst_st) (stc_one _ _ _) ?_; intro w1' HBk HG1 hsz1; have HL1 : Hid (Lst w1') := ((((HL.out.alloc _).alloc _).below HB0.out).below HB1.out).grown HG1.out (by simp); have HZ1 : Hid (Blk w1' w.heap.size z32c 23 ∧ w.grownBy w1' none) := ⟨Blk.grown (Blk.grown (Blk.grown (Blk.grown (blk_new w (.cells z32c 23)) (World.grownBy_alloc _ _ none) (by simp)) (grown_of_below HB0.out none) (by simp)) (grown_of_below HB1.out none) (by simp)) HG1.out (by simp), ((((World.grownBy_alloc w _ none).trans (World.grownBy_alloc _ _ none)).trans (grown_of_below HB0.out none)).trans (grown_of_below HB1.out none)).trans HG1.out⟩)
    | (go_at_call 73; refine (take_any _ m2 p w1.heap.size 132 w2 HS2.out HL2.out.k (by omega) (by rw [HP9.out]; omega)).mono ?_; rintro e w3 ⟨rfl, ⟨m3, hs3⟩, hg3⟩; rw [HPE.out] at hs3; have HS3 : Hid (Stt w3 w1.heap.size 132 (whl k p) m3) := hs3; have HG3 : Hid (w2.grownBy w3 (some w1.heap.size)) := hg3; have HL3 : Hid (Lst w3) := HL2.out.grown hg3 (by intro j hj; simp at hj; omega); clear hs3 hg3)
    | (go_at_call 73; refine (take_any [] z64 (sb (k :: fixN 8 p.size)) w1.heap.size 132 w1' (new_stt HBk.out) HL1.out.k (by omega) (by rw [HPS.out]; simp)).mono ?_; rintro e w2 ⟨rfl, ⟨m2, hs2⟩, hg2⟩; rw [List.nil_append] at hs2; have HS2 : Hid (Stt w2 w1.heap.size 132 (byl (sb (k :: fixN 8 p.size))) m2) := hs2; have HG2 : Hid (w1'.grownBy w2 (some w1.heap.size)) := hg2; have HL2 : Hid (Lst w2) := HL1.out.grown hg2 (by intro j hj; simp at hj; omega); clear hs2 hg2)
    | (refine wpList_load_row rfl 132 (.tmp 7) rfl w1.heap.size rfl 132 _ (0, 0) _ HS3.out.blk Tryz.underlying132 rfl (info_st _ _ _ HS3.out.sta.len) ?_)
    | (go_at_call 74; refine (end_sh HS3.out HL3.out.k hw9).mono ?_; rintro e w4 ⟨rfl, hb4⟩; have HZ : Hid (Blk w4 w.heap.size z32c 23) := Blk.grown (Blk.grown (Blk.grown HZ1.out.1 HG2.out (by simp; omega)) HG3.out (by simp; omega)) (grown_of_below hb4 none) (by simp); have HB4 : Hid (Below w3.heap.size w3 w4) := hb4; clear hb4)
    | (refine wpList_store_row rfl 23 (.tmp 4) (.tmp 24) rfl w.heap.size (shc (whl k p)) rfl rfl 23 z32c HZ.out (info_sh _) (by rw [z32c_size, shc_size]) (shc_one _) ?_))
  refine bodyPost_ret (results_cell_row rfl _ _ w.heap.size 23 (shc (whl k p)) (0, 0) _ rfl (setRow_heap _ _ _ _ _ _ HZ.out) Tryz.underlying23 rfl (info_sh _)) rfl ⟨rfl, ?_⟩
  refine below_setRow (below_of_grown ?_) (Nat.le_refl _) _
  exact ((HZ1.out.2.andThen HG2.out (fun j hj => by left; simp at hj; omega)).andThen HG3.out (fun j hj => by left; simp at hj; omega)).trans (grown_of_below HB4.out none)
theorem of_any (k : Nat) (p : ByteArray) (w : World) (hk : k < 256) (hp : p.size ≤ 2000) (hL : Lst w) :
    Calls Tryz.prog 108 #[.int .u8 (k : Int), .string p] w fun e w' => e = .returned (.agg (shc (whl k p))) ∧ Below w.heap.size w w' := of_big k p w hk (by omega) hL
end Go.Proofs.YtpfknjnigcefgaaGreatDoor
/- digest.Parse. -/
namespace Go.Proofs.YtpfknjnigcefgaaGreatDoor
open Go.RowKit
set_option linter.unusedSimpArgs false
set_option linter.unusedVariables false
theorem sum_id (s : ByteArray) (w : World) (hL : Lst w) (hlen : s.size < 288230376151711744) :
    Calls Tryz.prog 34 #[.string s] w fun e w' => e = .returned (.agg (idc (sb (sha (byl s))))) ∧ Below w.heap.size w w' := by
  rw [← shc_idc]; exact sum_any s w hL hlen
theorem of_id (k : Nat) (p : ByteArray) (w : World) (hk : k < 256) (hp : p.size ≤ 2000) (hL : Lst w) :
    Calls Tryz.prog 108 #[.int .u8 (k : Int), .string p] w fun e w' => e = .returned (.agg (idc (sb (sha (whl k p))))) ∧ Below w.heap.size w w' := by
  rw [← shc_idc]; exact of_any k p w hk hp hL
theorem sha_size (m : List Nat) : (sb (sha m)).size = 32 := by rw [sb_size, sha_length]
/-- The name that digits say, as its cells. -/
def pid (t : ByteArray) : Array Value := putA z32c 0 (bvc ((byl (uhS t)).take (Nat.min (uhS t).size 32)))
theorem pid_size (t : ByteArray) : (pid t).size = 32 := by rw [pid, putA_size, z32c_size]
theorem pid_one (t : ByteArray) : (pid t).all (·.oneCell') = true :=
  Array.all_eq_true_iff_forall_mem.2 (putA_one _ _ _ (bvc_one _) (by intro v hv; exact bvc_one _ v (by simpa [z32c] using hv)))
theorem pid_ok (t : ByteArray) (h : (uhS t).size = 32) : pid t = idc (uhS t) := by
  have hl : (bvc ((byl (uhS t)).take 32)).length = 32 := by simp [bvc, byl_length, h]
  rw [pid, h]
  apply Array.ext_getElem?
  intro i
  show (putA z32c 0 (bvc ((byl (uhS t)).take 32)))[i]? = _
  rw [putA_get _ _ _ _ (by rw [z32c_size, hl]; omega), hl]
  by_cases hi : i < 32
  · rw [if_pos (by omega), Nat.sub_zero, idc, List.getElem?_toArray, List.take_of_length_le (by rw [byl_length, h]; omega)]
  · rw [if_neg (by omega), Array.getElem?_eq_none (by rw [z32c_size]; omega), Array.getElem?_eq_none (by rw [idc_size, h]; omega)]
theorem pid_none (t : ByteArray) (h : uhS t = ⟨#[]⟩) : pid t = z32c := by rw [pid, h]; rfl
theorem copy32 {w : World} {g : Nat} {T : TypeId} (hB : Blk w g z32c T) (s : ByteArray) (ty : TypeId) :
    (Builtin.copy_ #[82, 9] ty #[.slice (some ⟨g, 0, none⟩) 32 32, .string s]).run Tryz.prog w = .ok (goInt (Nat.min s.size 32)) (w.setCells g 0 (bvc ((byl s).take (Nat.min s.size 32)))) := by
  have hi : (Tryz.prog.info? 5).map (·.size) = some 1 := by kernel_rfl
  refine copy_str w 82 9 ty 5 g 0 _ _ s Tryz.underlying82 hi (fun j hj => ?_) (fun j hj => hB.frozen _)
  have hj2 := Nat.lt_of_lt_of_le hj (Nat.min_le_right _ _)
  rw [hB.cell, Nat.zero_add, z32c_get j (by omega)]; rfl
theorem par_res {w w1 : World} {cs : List Value} (h : Below ((w.alloc (.cells z32c 23)).alloc (.cells z32c 23)).heap.size ((w.alloc (.cells z32c 23)).alloc (.cells z32c 23)) w1) : Blk (w1.setCells (w.heap.size + 1) 0 cs) w.heap.size z32c 23 :=
  Blk.grown (Blk.grown (Blk.grown (blk_new w (.cells z32c 23)) (World.grownBy_alloc _ _ none) (by simp)) (grown_of_below h none) (by simp)) (grown_puts (w.heap.size + 1) cs 0 (World.grownBy.refl w1 _)) (by simp)
theorem par_grown {w w1 : World} {cs : List Value} (h : Below ((w.alloc (.cells z32c 23)).alloc (.cells z32c 23)).heap.size ((w.alloc (.cells z32c 23)).alloc (.cells z32c 23)) w1) : w.grownBy (w1.setCells (w.heap.size + 1) 0 cs) none :=
  (((World.grownBy_alloc w _ none).trans (World.grownBy_alloc _ _ none)).trans (grown_of_below h none)).andThen (grown_puts (w.heap.size + 1) cs 0 (World.grownBy.refl w1 _)) (fun j hj => by left; simp at hj; omega)
set_option maxHeartbeats 400000 in
set_option maxRecDepth 100000 in
theorem parse_64 (t : ByteArray) (w : World) (ht : t.size = 64) (hA : All w) :
    Calls Tryz.prog 44 #[.string t] w fun e w' => e = .returned (.tuple #[.agg (pid t), .int .i64 (uhE t)]) ∧ Below w.heap.size w w' := by
  have HA : Hid (All w) := hA
  have hlt := hA.lt
  clear hA
  have h1 := slice32 (w.heap.size + 1)
  go_enter Tryz.func44, Tryz.ntmps44
  go_wp2_with (first
    | (go_at_call 86; refine (unhex_even t _ 32 (by omega) (by omega) ((HA.out.alloc _).alloc _).t (by rw [alloc_size, alloc_size]; omega)).mono ?_; rintro e w1 ⟨rfl, hb1⟩; have HB1 : Hid (Below (((w.alloc (.cells z32c 23)).alloc (.cells z32c 23))).heap.size ((w.alloc (.cells z32c 23)).alloc (.cells z32c 23)) w1) := hb1; clear hb1; have HI : Hid (Blk w1 (w.heap.size + 1) z32c 23) := Blk.grown (by { have e := blk_new (w.alloc (.cells z32c 23)) (.cells z32c 23); rw [alloc_size] at e; exact e }) (grown_of_below HB1.out none) (by simp); have hcp := copy32 HI.out (uhS t))
    | (refine wpList_load_row rfl 23 (.tmp 4) rfl (w.heap.size + 1) rfl 23 (pid t) (0, 0) _ (Blk.puts _ 0 _ _ HI.out) Tryz.underlying23 rfl (info_32 (pid_size t)) ?_)
    | (refine wpList_store_row rfl 23 (.tmp 2) (.tmp 19) rfl w.heap.size (pid t) rfl rfl 23 z32c (par_res HB1.out) (info_32 (pid_size t)) (by rw [z32c_size, pid_size]) (pid_one t) ?_))
  refine bodyPost_ret (results_cell_tmp_row rfl _ _ w.heap.size 23 (pid t) (0, 0) _ rfl (setRow_heap _ _ _ _ _ _ (par_res HB1.out)) Tryz.underlying23 rfl (info_32 (pid_size t))) rfl ⟨rfl, ?_⟩
  exact below_setRow (below_of_grown (par_grown HB1.out)) (Nat.le_refl _) _
set_option maxHeartbeats 400000 in
set_option maxRecDepth 100000 in
theorem parse_bad (t : ByteArray) (w : World) (ht : t.size ≠ 64) (hm : t.size ≤ 140737488351232) :
    Calls Tryz.prog 44 #[.string t] w fun e w' => e = .returned (.tuple #[.agg z32c, .int .i64 4]) ∧ Below w.heap.size w w' := by
  have hne : ¬ (t.size : Int) = 64 := by omega
  have hz := zero_id
  go_enter Tryz.func44, Tryz.ntmps44
  go_wp2_with (refine wpList_store_row rfl 23 (.tmp 2) (.tmp 10) rfl w.heap.size z32c rfl rfl 23 z32c (Blk.grown (blk_new w _) (World.grownBy_alloc _ _ none) (by simp)) (info_32 z32c_size) rfl z32c_one ?_)
  refine bodyPost_ret (results_cell_tmp_row rfl _ _ w.heap.size 23 z32c (0, 0) _ rfl (setRow_heap _ _ _ _ _ _ (Blk.grown (blk_new w (.cells z32c 23)) (World.grownBy_alloc _ _ none) (by simp))) Tryz.underlying23 rfl (info_32 z32c_size)) rfl ⟨rfl, ?_⟩
  exact below_setRow (below_of_grown ((World.grownBy_alloc w _ none).trans (World.grownBy_alloc _ _ none))) (Nat.le_refl _) _
end Go.Proofs.YtpfknjnigcefgaaGreatDoor
/- Entries in memory: what a list of them is, and how one is built. -/
namespace Go.Proofs.YtpfknjnigcefgaaGreatDoor
open Go.RowKit
set_option linter.unusedSimpArgs false
set_option linter.unusedVariables false
/-- An entry's cells. -/
def enC (e : Ent) : Array Value := ((idc e.id).toList ++ [Value.int .u8 (e.k.toNat : Int), Value.int .i64 (e.off : Int), Value.int .i64 (e.sz : Int)]).toArray
theorem enC_size (e : Ent) (h : e.id.size = 32) : (enC e).size = 35 := by simp [enC, idc_size, h]
theorem idc_one (s : ByteArray) : ∀ v ∈ (idc s).toList, v.oneCell' = true := by
  intro v hv
  rw [idc] at hv
  exact bvc_one _ v (by simpa using hv)
theorem enC_one (e : Ent) : ∀ v ∈ (enC e).toList, v.oneCell' = true := by
  intro v hv
  simp only [enC, List.mem_append, List.mem_cons] at hv
  rcases hv with h | h | h | h | h
  · exact idc_one _ v h
  · subst h; rfl
  · subst h; rfl
  · subst h; rfl
  · cases h
theorem enC_all (e : Ent) : (enC e).all (·.oneCell') = true := Array.all_eq_true_iff_forall_mem.2 (fun v hv => enC_one e v (by simpa using hv))
theorem idc_all (s : ByteArray) : (idc s).all (·.oneCell') = true := Array.all_eq_true_iff_forall_mem.2 (fun v hv => idc_one s v (by simpa using hv))
theorem enC_id (e : Ent) (h : e.id.size = 32) (j : Nat) (v : Value) (hv : (idc e.id)[j]? = some v) : (enC e)[0 + j]? = some v := by
  have hj : j < 32 := by
    have := (Array.getElem?_eq_some_iff.1 hv).1
    rwa [idc_size, h] at this
  rw [Nat.zero_add, enC, List.getElem?_toArray, List.getElem?_append_left (by rw [Array.length_toList, idc_size]; omega), Array.getElem?_toList]
  exact hv
theorem enC_at (e : Ent) (h : e.id.size = 32) : (enC e)[32]? = some (.int .u8 (e.k.toNat : Int)) ∧ (enC e)[33]? = some (.int .i64 (e.off : Int)) ∧ (enC e)[34]? = some (.int .i64 (e.sz : Int)) := by
  have hl : (idc e.id).toList.length = 32 := by rw [Array.length_toList, idc_size, h]
  refine ⟨?_, ?_, ?_⟩ <;> rw [enC, List.getElem?_toArray, List.getElem?_append_right (by omega), hl] <;> rfl
theorem list32 (l : List Value) (h : l.length = 32) : ∃ a0 a1 a2 a3 a4 a5 a6 a7 a8 a9 a10 a11 a12 a13 a14 a15 a16 a17 a18 a19 a20 a21 a22 a23 a24 a25 a26 a27 a28 a29 a30 a31, l = [a0, a1, a2, a3, a4, a5, a6, a7, a8, a9, a10, a11, a12, a13, a14, a15, a16, a17, a18, a19, a20, a21, a22, a23, a24, a25, a26, a27, a28, a29, a30, a31] := by
  match l, h with
  | [a0, a1, a2, a3, a4, a5, a6, a7, a8, a9, a10, a11, a12, a13, a14, a15, a16, a17, a18, a19, a20, a21, a22, a23, a24, a25, a26, a27, a28, a29, a30, a31], _ => exact ⟨_, _, _, _, _, _, _, _, _, _, _, _, _, _, _, _, _, _, _, _, _, _, _, _, _, _, _, _, _, _, _, _, rfl⟩
set_option maxRecDepth 100000 in
theorem built32 (a0 a1 a2 a3 a4 a5 a6 a7 a8 a9 a10 a11 a12 a13 a14 a15 a16 a17 a18 a19 a20 a21 a22 a23 a24 a25 a26 a27 a28 a29 a30 a31 : Value) (k a n : Int) : Tryz.prog.built 34 [(0, .agg #[a0, a1, a2, a3, a4, a5, a6, a7, a8, a9, a10, a11, a12, a13, a14, a15, a16, a17, a18, a19, a20, a21, a22, a23, a24, a25, a26, a27, a28, a29, a30, a31]), (1, .int .u8 k), (2, .int .i64 a), (3, .int .i64 n)] = some #[a0, a1, a2, a3, a4, a5, a6, a7, a8, a9, a10, a11, a12, a13, a14, a15, a16, a17, a18, a19, a20, a21, a22, a23, a24, a25, a26, a27, a28, a29, a30, a31, .int .u8 k, .int .i64 a, .int .i64 n] := by kernel_rfl
theorem build_en (e : Ent) (h : e.id.size = 32) (w : World) : (Instr.build 34 #[(0, .agg (idc e.id)), (1, .int .u8 (e.k.toNat : Int)), (2, .int .i64 (e.off : Int)), (3, .int .i64 (e.sz : Int))]).run Tryz.prog w = .ok (.agg (enC e)) w := by
  refine run_build w _ _ _ ?_
  obtain ⟨a0, a1, a2, a3, a4, a5, a6, a7, a8, a9, a10, a11, a12, a13, a14, a15, a16, a17, a18, a19, a20, a21, a22, a23, a24, a25, a26, a27, a28, a29, a30, a31, hl⟩ := list32 (idc e.id).toList (by rw [Array.length_toList, idc_size, h])
  have e1 : idc e.id = #[a0, a1, a2, a3, a4, a5, a6, a7, a8, a9, a10, a11, a12, a13, a14, a15, a16, a17, a18, a19, a20, a21, a22, a23, a24, a25, a26, a27, a28, a29, a30, a31] := by rw [← Array.toArray_toList (xs := idc e.id), hl]
  have e2 : enC e = #[a0, a1, a2, a3, a4, a5, a6, a7, a8, a9, a10, a11, a12, a13, a14, a15, a16, a17, a18, a19, a20, a21, a22, a23, a24, a25, a26, a27, a28, a29, a30, a31, .int .u8 (e.k.toNat : Int), .int .i64 (e.off : Int), .int .i64 (e.sz : Int)] := by rw [enC, hl]; rfl
  rw [e1, e2]
  exact built32 _ _ _ _ _ _ _ _ _ _ _ _ _ _ _ _ _ _ _ _ _ _ _ _ _ _ _ _ _ _ _ _ _ _ _
/-- An entry of nothing. -/
def z35 : Array Value := #[.int .u8 0, .int .u8 0, .int .u8 0, .int .u8 0, .int .u8 0, .int .u8 0, .int .u8 0, .int .u8 0, .int .u8 0, .int .u8 0, .int .u8 0, .int .u8 0, .int .u8 0, .int .u8 0, .int .u8 0, .int .u8 0, .int .u8 0, .int .u8 0, .int .u8 0, .int .u8 0, .int .u8 0, .int .u8 0, .int .u8 0, .int .u8 0, .int .u8 0, .int .u8 0, .int .u8 0, .int .u8 0, .int .u8 0, .int .u8 0, .int .u8 0, .int .u8 0, .int .u8 0, .int .i64 0, .int .i64 0]
theorem inf_en : (Tryz.prog.info? 34).map (fun i => (i.zero, i.size, i.bytes)) = some (some (.agg z35), 35, 56) := by kernel_rfl
theorem inf_en35 : (Tryz.prog.info? 34).map (·.size) = some 35 := by kernel_rfl
theorem info_en {C : Array Value} (h : C.size = 35) : (Tryz.prog.info? 34).map (·.size) = some C.size := by rw [h]; exact inf_en35
set_option maxRecDepth 100000 in
theorem fill35 (a0 a1 a2 a3 a4 a5 a6 a7 a8 a9 a10 a11 a12 a13 a14 a15 a16 a17 a18 a19 a20 a21 a22 a23 a24 a25 a26 a27 a28 a29 a30 a31 : Value) (k a n : Int) : Instr.fill (fun i => some (i * 35, 35)) ((Array.range (1 * 35)).map (z35[· % z35.size]!)) [(0, .agg #[a0, a1, a2, a3, a4, a5, a6, a7, a8, a9, a10, a11, a12, a13, a14, a15, a16, a17, a18, a19, a20, a21, a22, a23, a24, a25, a26, a27, a28, a29, a30, a31, .int .u8 k, .int .i64 a, .int .i64 n])] = some #[a0, a1, a2, a3, a4, a5, a6, a7, a8, a9, a10, a11, a12, a13, a14, a15, a16, a17, a18, a19, a20, a21, a22, a23, a24, a25, a26, a27, a28, a29, a30, a31, .int .u8 k, .int .i64 a, .int .i64 n] := by kernel_rfl
theorem slice_en (e : Ent) (h : e.id.size = 32) (w : World) : (Instr.buildSlice 25 1 #[(0, .agg (enC e))]).run Tryz.prog w = .ok (.slice (some ⟨w.heap.size, 0, none⟩) 1 1) (w.alloc (.cells (enC e) 34)) := by
  obtain ⟨i0, hi, hz0, hz1, hz2⟩ := info_parts inf_en
  refine run_buildSlice w _ 34 1 _ _ i0 (.agg z35) Tryz.underlying25 hi hz0 (by rw [hz1]; decide) (by rw [hz1]; decide) ?_
  obtain ⟨a0, a1, a2, a3, a4, a5, a6, a7, a8, a9, a10, a11, a12, a13, a14, a15, a16, a17, a18, a19, a20, a21, a22, a23, a24, a25, a26, a27, a28, a29, a30, a31, hl⟩ := list32 (idc e.id).toList (by rw [Array.length_toList, idc_size, h])
  have e2 : enC e = #[a0, a1, a2, a3, a4, a5, a6, a7, a8, a9, a10, a11, a12, a13, a14, a15, a16, a17, a18, a19, a20, a21, a22, a23, a24, a25, a26, a27, a28, a29, a30, a31, .int .u8 (e.k.toNat : Int), .int .i64 (e.off : Int), .int .i64 (e.sz : Int)] := by rw [enC, hl]; rfl
  rw [e2, hz1]
  exact fill35 _ _ _ _ _ _ _ _ _ _ _ _ _ _ _ _ _ _ _ _ _ _ _ _ _ _ _ _ _ _ _ _ _ _ _
/-- Entries as cells. -/
def env (l : List Ent) : List Value := l.flatMap (fun e => (enC e).toList)
theorem env_snoc (l : List Ent) (e : Ent) : env (l ++ [e]) = env l ++ (enC e).toList := by simp [env]
/-- What is kept: all but blocks of objects and names that the call made. -/
structure Kx (B : Nat) (w w' : World) : Prop where
  os : w'.os = w.os
  tape : w'.tape = w.tape
  output : w'.output = w.output
  size : w.heap.size ≤ w'.heap.size
  blk : ∀ k o, w.heap[k]? = some o → (k < B ∨ ∀ C T F, o = .cells C T F → T ≠ 157 ∧ T ≠ 23) → w'.heap[k]? = some o
theorem Kx.of {B : Nat} {w w' : World} (h : Below w.heap.size w w') : Kx B w w' :=
  ⟨h.os, h.tape, h.output, h.size, fun k o hk _ => (h.block k (Array.getElem?_eq_some_iff.1 hk).1).trans hk⟩
theorem Kx.trans {B : Nat} {w w' w'' : World} (h : Kx B w w') (g : Kx B w' w'') : Kx B w w'' :=
  ⟨g.os.trans h.os, g.tape.trans h.tape, g.output.trans h.output, Nat.le_trans h.size g.size, fun k o hk hT => g.blk k o (h.blk k o hk hT) hT⟩
theorem Kx.set {B b : Nat} {w w' : World} {C : Array Value} {T : TypeId} (hb : Bk w b C T) (hT : T = 157 ∨ T = 23) (hB : B ≤ b) (hg : w.grownBy w' (some b)) : Kx B w w' :=
  ⟨hg.os, hg.tape, hg.output, hg.size, fun k o hk ho => by
    refine (hg.block k (Array.getElem?_eq_some_iff.1 hk).1 (fun e => ?_)).trans hk
    injection e with e
    subst e
    rcases ho with ho | ho
    · omega
    · have : o = .cells C T (0, 0) := by
        have h2 : w.heap[k]? = some (.cells C T (0, 0)) := hb
        rw [hk] at h2
        exact Option.some.inj h2
      have := ho C T (0, 0) this
      rcases hT with h | h
      · exact this.1 h
      · exact this.2 h⟩
theorem Kx.below {B : Nat} {w0 w w' : World} (h : Kx B w w') (hb : Below B w0 w) (hB : B ≤ w0.heap.size) : Below B w0 w' := by
  refine ⟨h.os.trans hb.os, h.tape.trans hb.tape, h.output.trans hb.output, Nat.le_trans hb.size h.size, fun k hk => ?_⟩
  have h1 := hb.block k hk
  have h2 : k < w0.heap.size := by omega
  have h3 : w.heap[k]? = some (w0.heap[k]) := by rw [h1, Array.getElem?_eq_getElem h2]
  rw [h.blk k _ h3 (.inl hk), Array.getElem?_eq_getElem h2]
theorem Kx.bk {B b : Nat} {w w' : World} {C : Array Value} {T : TypeId} (h : Kx B w w') (hb : Bk w b C T) (hT : T ≠ 157 ∧ T ≠ 23) : Bk w' b C T :=
  h.blk b _ hb (.inr (fun C' T' F' e => by injection e with _ e2; rw [← e2]; exact hT))
theorem Kx.rows {B b n k : Nat} {w w' : World} {v : Value} {xs : List Value} {T : TypeId} (h : Kx B w w') (ho : w.ownsRow b T k v n xs) (hT : T ≠ 157 ∧ T ≠ 23) : w'.ownsRow b T k v n xs := by
  refine ⟨ho.1, ?_⟩
  rcases ho.2 with h1 | ⟨g, cap, cur, h1, h2, hc, h3⟩
  · exact .inl h1
  · exact .inr ⟨g, cap, cur, h1, h2, h.bk hc hT, h3⟩
/-- Entries told so far, in a slice of the call's own behind a box. -/
structure SvS (w0 : World) (lb : Nat) (l : List Ent) (w : World) : Prop where
  row : ∃ v, Bk w lb #[v] 25 ∧ w.ownsRow w0.heap.size 34 35 v l.length (env l)
  lb : w0.heap.size ≤ lb
  bel : Below w0.heap.size w0 w
  lst : Lst w0
theorem SvS.keep {w0 w w' : World} {lb : Nat} {l : List Ent} (h : SvS w0 lb l w) (hk : Kx w0.heap.size w w') : SvS w0 lb l w' := by
  obtain ⟨v, h1, h2⟩ := h.row
  exact ⟨⟨v, hk.bk h1 (by decide), hk.rows h2 (by decide)⟩, h.lb, hk.below h.bel (Nat.le_refl _), h.lst⟩
theorem SvS.all {w0 w : World} {lb : Nat} {l : List Ent} (h : SvS w0 lb l w) : Lst w := h.lst.below h.bel
theorem row_slice {B n k : Nat} {w : World} {v : Value} {xs : List Value} {T : TypeId} (h : w.ownsRow B T k v n xs) : ∃ a c, v = .slice a n c := by
  rcases h.2 with ⟨rfl, rfl⟩ | ⟨g, cap, cur, rfl, _⟩
  · exact ⟨_, _, rfl⟩
  · exact ⟨_, _, rfl⟩
/-- One is appended. -/
theorem SvS.app {w0 w : World} {lb : Nat} {l : List Ent} {v : Value} (h : SvS w0 lb l w) (hv : Bk w lb #[v] 25) (e : Ent) (he : e.id.size = 32) (hn : l.length < 1048576) :
    ∃ v' w7, (Builtin.append_ #[25, 25] 25 #[v, .slice (some ⟨w.heap.size, 0, none⟩) 1 1]).run Tryz.prog (w.alloc (.cells (enC e) 34)) = .ok v' w7 ∧ Bk w7 lb #[v] 25 ∧ v'.oneCell' = true ∧
      SvS w0 lb (l ++ [e]) (w7.setCell ⟨lb, 0, none⟩ v') ∧ (∀ (m : Nat) es c, w.heap[m]? = some (Obj.map es c) → w7.heap[m]? = some (Obj.map es c)) ∧ (∀ b C T, Bk w b C T → T ≠ 34 → Bk w7 b C T) := by
  obtain ⟨v0, h1, h2⟩ := h.row
  obtain rfl : v0 = v := by
    have q : some (Obj.cells #[v0] 25 (0, 0)) = some (Obj.cells #[v] 25 (0, 0)) := h1.symm.trans hv
    injection q with q
    injection q with q
    injection q with q
    simpa using q
  obtain ⟨i0, hi, hz0, hz1, hz2⟩ := info_parts inf_en
  have hz := h.bel.size
  have hlt := h1.lt
  obtain ⟨v', w7, hrun, hown, hgrow, _, hat⟩ := run_append_own_at (P := Tryz.prog) (w := w.alloc (.cells (enC e) 34)) w0.heap.size 25 25 34 i0 (.agg z35) 35 56 Tryz.underlying25 hi hz0 hz1 hz2 rfl (by decide) v0 l.length (env l) (h2.alloc _) ⟨w.heap.size, 0, none⟩ 1 1 (enC e).toList
    (by rw [Array.length_toList, enC_size e he]) (fun j u hu => by
      rw [WideShapes.add_plain, Nat.zero_add, World.cell?_alloc_new]
      rwa [Array.getElem?_toList] at hu) (enC_one e) (by unfold maxLen; omega) (by omega) (by rw [al_size]; omega)
  have hrow : ∀ b, v0.ownBlock = some b → ∃ cur, w.heap[b]? = some (.cells cur 34 (0, 0)) := by
    intro b hb
    rcases h2.2 with ⟨rfl, _⟩ | ⟨g, cap, cur, rfl, _, hc, _⟩
    · cases hb
    · simp [Value.ownBlock] at hb; subst hb; exact ⟨cur, hc⟩
  have hkeep : ∀ (b : Nat) (o : Obj), w.heap[b]? = some o → (∀ cur, o ≠ .cells cur 34 (0, 0)) → w7.heap[b]? = some o := by
    intro b o hb ho
    have hbl := (Array.getElem?_eq_some_iff.1 hb).1
    have a1 : (w.alloc (.cells (enC e) 34)).heap[b]? = some o := by
      rw [(MapKept.heap_alloc w _).2 b hbl]; exact hb
    refine (hgrow.block b (by rw [al_size]; omega) (fun q => ?_)).trans a1
    obtain ⟨cur, hc⟩ := hrow b q.symm
    rw [hb] at hc
    exact ho cur (Option.some.inj hc)
  have b1 : Bk w7 lb #[v0] 25 := hkeep lb _ h1 (fun cur q => by injection q with _ q2; exact absurd q2 (by decide))
  have b4 : Below w0.heap.size w0 w7 := rows_bel (h.bel.alloc hz _) (by rw [al_size]; omega) (h2.alloc _) (Nat.le_refl _) hgrow
  have ho : w7.ownsRow w0.heap.size 34 35 v' (l.length + 1) (env (l ++ [e])) := by rw [env_snoc]; exact hown
  obtain ⟨a', c', hv'⟩ := row_slice ho
  have hg : w7.grownBy (w7.setCell ⟨lb, 0, none⟩ v') (some lb) := Lib.grownBy_setB (World.grownBy.refl _ _) 0 _
  refine ⟨v', w7, hrun, b1, by rw [hv']; rfl, ⟨⟨v', b1.set 0 v', ?_⟩, h.lb, below_own b4 b4.size hg h.lb, h.lst⟩, fun m es c hm => hkeep m _ hm (by simp), fun b C T hb hT => hkeep b _ hb (fun cur q => by injection q with _ q2; exact hT q2)⟩
  rw [List.length_append, List.length_singleton]
  refine ⟨ho.1, ?_⟩
  rcases ho.2 with q | ⟨g, cap, cur, q1, q2, hc, q3⟩
  · exact .inl q
  · refine .inr ⟨g, cap, cur, q1, q2, ?_, q3⟩
    refine (hg.block g (Array.getElem?_eq_some_iff.1 hc).1 (fun q => ?_)).trans hc
    injection q with q
    subst q
    have q9 : some (Obj.cells cur 34 (0, 0)) = some (Obj.cells #[v0] 25 (0, 0)) := hc.symm.trans b1
    injection q9 with q9
    injection q9 with _ q9
    exact absurd q9 (by decide)
end Go.Proofs.YtpfknjnigcefgaaGreatDoor
