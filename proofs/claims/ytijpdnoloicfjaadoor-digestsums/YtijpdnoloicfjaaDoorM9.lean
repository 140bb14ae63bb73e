import Derived.Test.YtijpdnoloicfjaaDoorM8
import Derived.Lib.BytesEntry
import Derived.Laws.Externs
import Derived.ChangeKeysEq
import Derived.Laws.StructEq
import Derived.Test.YtijpdnoloicfjaaDoorM5
import Derived.Test.YtijpdnoloicfjaaDoorM1
import Derived.Test.YtijpdnoloicfjaaDoorM3
import Derived.RegionTactic
import Derived.Deep.QuietTactic
import Derived.BigQuiet
/- bytes.Compare, digest.Less. -/
namespace Go.Proofs.YtijpdnoloicfjaaDoor
open Go.RowKit
set_option linter.unusedSimpArgs false
set_option linter.unusedVariables false
theorem byl_back (s : ByteArray) : Lib.bytesOf ((byl s).map Int.ofNat) = s.data.toList := by
  simp only [Lib.bytesOf, byl, List.map_map]
  conv => rhs; rw [← List.map_id s.data.toList]
  apply List.map_congr_left
  intro x _
  simp
theorem load_id (s : ByteArray) (g : Nat) (T : TypeId) (w : World) (hs : s.size = 32) (hB : Blk w g (idc s) T) {P : Program} :
    (Extern.Bytes.bytesOf (.slice (some ⟨g, 0, none⟩) 32 32)).run P w = .ok s w := by
  have h := Lib.run_loadBytesX (P := P) w ((byl s).map Int.ofNat) ⟨g, 0, none⟩ .empty (fun j x hj => by
    have hjl : j < s.size := by have := (List.getElem?_eq_some_iff.1 hj).1; simpa [byl_length] using this
    rw [Addr.add_mid, Nat.zero_add, hB.cell, idc_get s j hjl]
    rw [List.getElem?_map, byl_getD s j hjl] at hj
    simp only [Option.map_some, Option.some.injEq] at hj
    rw [← hj]; rfl)
  rw [byl_back, show ((byl s).map Int.ofNat).length = 32 from by simp [byl_length, hs]] at h
  show (Extern.Bytes.loadBytes ⟨g, 0, none⟩ 32 .empty).run P w = _
  rw [h]
  congr 1
  apply ByteArray.ext
  simp [ByteArray.empty, ByteArray.emptyWithCapacity]
  rfl
/-- What bytes.Compare says of two names. -/
def cmpId (a b : ByteArray) : Int := Lib.compareBytes a.data.toList b.data.toList
theorem compare_ids (a b : ByteArray) (ga gb : Nat) (Ta Tb : TypeId) (w : World) (ha : a.size = 32) (hb : b.size = 32) (hA : Blk w ga (idc a) Ta) (hB : Blk w gb (idc b) Tb) {P : Program} :
    (Extern.BytealgCompare.compare #[.slice (some ⟨ga, 0, none⟩) 32 32, .slice (some ⟨gb, 0, none⟩) 32 32]).run P w = .ok (.int .i64 (cmpId a b)) w := by
  change Sem.run P (do pure (goInt (Extern.BytealgCompare.cmp (← Extern.Bytes.bytesOf (.slice (some ⟨ga, 0, none⟩) 32 32)) (← Extern.Bytes.bytesOf (.slice (some ⟨gb, 0, none⟩) 32 32))))) w = _
  simp only [Sem.run_bind, load_id a ga Ta w ha hA, load_id b gb Tb w hb hB, Result.andThen, Sem.run_pure]
  rw [Lib.cmp_eq]
  rfl
set_option maxHeartbeats 400000 in
set_option maxRecDepth 100000 in
theorem bcompare_any (a b : ByteArray) (ga gb : Nat) (Ta Tb : TypeId) (w : World) (ha : a.size = 32) (hb : b.size = 32) (hA : Blk w ga (idc a) Ta) (hB : Blk w gb (idc b) Tb) :
    Calls Tryd.prog 29 #[.slice (some ⟨ga, 0, none⟩) 32 32, .slice (some ⟨gb, 0, none⟩) 32 32] w fun e w' => e = .returned (.int .i64 (cmpId a b)) ∧ w' = w := by
  have HC := compare_ids a b ga gb Ta Tb w ha hb hA hB (P := Tryd.prog)
  have HH : Hid ((Extern.BytealgCompare.compare #[.slice (some ⟨ga, 0, none⟩) 32 32, .slice (some ⟨gb, 0, none⟩) 32 32]).run Tryd.prog w = .ok (.int .i64 (cmpId a b)) w) := HC
  clear HC hA hB
  go_enter Tryd.func29, Tryd.ntmps29
  go_wp2
  rw [run_callFunc_extern Tryd.func38 (by kernel_rfl) (by kernel_rfl) (by kernel_rfl) (e := Extern.BytealgCompare.compare) (by kernel_rfl), HH.out]
  simp only [Result.andThen]
  rw [Oper.upon_value]
  go_wp2
  go_ret
  exact ⟨rfl, rfl⟩
def lessB (a b : ByteArray) : Bool := decide (cmpId a b < 0)
set_option maxHeartbeats 400000 in
set_option maxRecDepth 100000 in
theorem less_any (a b : ByteArray) (w : World) (ha : a.size = 32) (hb : b.size = 32) :
    Calls Tryd.prog 13 #[.agg (idc a), .agg (idc b)] w fun e w' => e = .returned (.bool (lessB a b)) ∧ Below w.heap.size w w' := by
  have h1 := slice32 w.heap.size
  have h2 := slice32 (w.heap.size + 1)
  go_enter Tryd.func13, Tryd.ntmps13
  go_wp2
  have hA : Blk ((w.alloc (.cells (idc a) 23)).alloc (.cells (idc b) 23)) w.heap.size (idc a) 23 := Blk.grown (blk_new w _) (World.grownBy_alloc _ _ none) (by simp)
  have hB : Blk ((w.alloc (.cells (idc a) 23)).alloc (.cells (idc b) 23)) (w.heap.size + 1) (idc b) 23 := by
    have e := blk_new (w.alloc (.cells (idc a) 23)) (.cells (idc b) 23)
    rwa [alloc_size] at e
  have HAB : Hid (Blk ((w.alloc (.cells (idc a) 23)).alloc (.cells (idc b) 23)) w.heap.size (idc a) 23 ∧ Blk ((w.alloc (.cells (idc a) 23)).alloc (.cells (idc b) 23)) (w.heap.size + 1) (idc b) 23) := ⟨hA, hB⟩
  clear hA hB
  go_quiet ((go_at_call 29; exact Calls.quiet_of_same (bcompare_any a b _ _ 23 23 _ ha hb (HAB.out.1.drewN _) (HAB.out.2.drewN _))))
  go_wp2
  go_ret
  refine ⟨rfl, ?_⟩
  exact below_of_grown (((World.grownBy_alloc w _ none).trans (World.grownBy_alloc _ _ none)).trans (grown_drewN _ nq none))
end Go.Proofs.YtijpdnoloicfjaaDoor
/- Two names compared with '=='. -/
namespace Go.Proofs.YtijpdnoloicfjaaDoor
open Go.RowKit
set_option linter.unusedSimpArgs false
set_option linter.unusedVariables false
theorem part_id (s : ByteArray) (i : Nat) (h : i < s.size) (w : World) : (part 5 (idc s) i).run Tryd.prog w = .ok (.int .u8 (s[i].toNat : Int)) w := by
  have ha : (isAgg 5).run Tryd.prog w = .ok false w := by kernel_rfl
  simp [part, ha, idc_get s i h]
theorem eqItems_ids (a b : ByteArray) (ha : a.size = 32) (hb : b.size = 32) (w : World) : ∀ is : List Nat, (∀ i ∈ is, i < 32) →
    (Op.eqItems 9999 5 1 (idc a) (idc b) is).run Tryd.prog w = .ok (is.all fun i => (byl a).getD i 0 == (byl b).getD i 0) w
  | [], _ => by simp [Op.eqItems]
  | i :: is, h => by
    have hi : i < 32 := h i (List.mem_cons_self ..)
    have ih := eqItems_ids a b ha hb w is (fun j hj => h j (List.mem_cons_of_mem _ hj))
    have e1 : (byl a).getD i 0 = a[i].toNat := by rw [List.getD, byl_getD a i (by omega)]; rfl
    have e2 : (byl b).getD i 0 = b[i].toNat := by rw [List.getD, byl_getD b i (by omega)]; rfl
    have e3 := run_equalIn_int (P := Tryd.prog) w 9998 5 .u8 .u8 (a[i].toNat : Int) (b[i].toNat : Int) Tryd.underlying5
    simp only [Op.eqItems, Sem.run_bind, Nat.mul_one, part_id a i (by omega), part_id b i (by omega), Result.andThen_ok, e3, List.all_cons, e1, e2]
    by_cases e : a[i].toNat = b[i].toNat
    · have e4 : ((a[i].toNat : Int) == (b[i].toNat : Int)) = true := by rw [e]; simp
      simp only [e4, Bool.not_true, Bool.false_eq_true, if_false, ih, e, beq_self_eq_true, Bool.true_and]
    · have e4 : ((a[i].toNat : Int) == (b[i].toNat : Int)) = false := by rw [beq_eq_false_iff_ne]; omega
      have e5 : (a[i].toNat == b[i].toNat) = false := by rw [beq_eq_false_iff_ne]; exact e
      simp only [e4, Bool.not_false, if_true, Sem.run_pure, e5, Bool.false_and]
theorem ids_all (a b : ByteArray) (ha : a.size = 32) (hb : b.size = 32) : ((List.range 32).all fun i => (byl a).getD i 0 == (byl b).getD i 0) = decide (a = b) := by
  rw [Bool.eq_iff_iff, List.all_eq_true, decide_eq_true_iff]
  constructor
  · intro h
    have : byl a = byl b := list_ext_getD _ _ (by rw [byl_length, byl_length, ha, hb]) (fun j hj => by
      have := h j (by rw [List.mem_range]; rw [byl_length, ha] at hj; exact hj)
      exact eq_of_beq this)
    rw [← sb_byl a, ← sb_byl b, this]
  · rintro rfl i _
    exact beq_self_eq_true _
theorem equalIn_ids (a b : ByteArray) (ha : a.size = 32) (hb : b.size = 32) (w : World) : (Op.equalIn 10000 23 (.agg (idc a)) (.agg (idc b))).run Tryd.prog w = .ok (decide (a = b)) w := by
  have hc : Tryd.prog.cellsOf 5 = 1 := by kernel_rfl
  obtain ⟨i0, hi⟩ := info_of_underlying Tryd.underlying5
  have hu : Tryd.prog.underlying 23 = some (.array 32 5) := Tryd.underlying23
  rw [run_equalIn_array w 9999 (idc a) (idc b) hu hi, hc, eqItems_ids a b ha hb w _ (fun i hi => by simpa using hi), ids_all a b ha hb]
theorem eql_ids (a b : ByteArray) (ha : a.size = 32) (hb : b.size = 32) (w : World) : (binOp .eql 23 (.agg (idc a)) (.agg (idc b))).run Tryd.prog w = .ok (.bool (decide (a = b))) w := by
  rw [run_eql_struct, equalIn_ids a b ha hb]; rfl
theorem neq_ids (a b : ByteArray) (ha : a.size = 32) (hb : b.size = 32) (w : World) : (binOp .neq 23 (.agg (idc a)) (.agg (idc b))).run Tryd.prog w = .ok (.bool (!decide (a = b))) w := by
  rw [run_neq_struct, equalIn_ids a b ha hb]; rfl
end Go.Proofs.YtijpdnoloicfjaaDoor
/- The document's own constants and Quick (munimentref02); a sum on nothing. -/
namespace Go.Proofs.YtijpdnoloicfjaaDoor
open Go.RowKit
set_option linter.unusedSimpArgs false
set_option linter.unusedVariables false
theorem kcs_size : kcs.size = 64 := rfl
theorem kcs_one : kcs.all (·.oneCell') = true := by decide +kernel
theorem info_k : (Tryd.prog.info? 49).map (·.size) = some kcs.size := info_64 kcs kcs_size
set_option maxHeartbeats 1000000 in
set_option maxRecDepth 100000 in
theorem constants_any (w : World) : Calls Tryd.prog 24 #[] w fun e w' => e = .returned (.agg kcs) ∧ Below w.heap.size w w' := by
  go_enter Tryd.func24, Tryd.ntmps24
  go_wp2_with (refine wpList_store_abs rfl 49 (.tmp 0) (.tmp 1) rfl kcs _ 49 w.heap.size rfl rfl rfl info_k rfl kcs_one ?_; intro w1 HB HG hz)
  refine bodyPost_ret (results_cell_row rfl _ _ w.heap.size 49 kcs (0, 0) _ rfl HB.out Tryd.underlying49 rfl info_k) rfl ⟨rfl, below_of_grown HG.out⟩
theorem info_8l : (Tryd.prog.info? 39).map (·.size) = some 8 := by kernel_rfl
/-- What Quick's last line reads, wherever it stands. -/
abbrev SQ (w : World) (W : World) : Prop := Blk W w.heap.size z32c 23 ∧ Blk W (w.heap.size + 1) (v8c H0) 39 ∧ Below w.heap.size w W
theorem SQ.below {w W W' : World} (h : SQ w W) (hb : Below W.heap.size W W') : SQ w W' :=
  ⟨h.1.grown (grown_of_below hb none) (by simp), h.2.1.grown (grown_of_below hb none) (by simp), h.2.2.trans (hb.mono h.2.2.size)⟩
theorem quiet_v8 {o : Oper} {a : Act} {C : World → Prop} {K : Act → Prop} (v : V8) (x : Operand) (ho : o.op = .load 39 x) (g : Nat) (hx : a.eval x = .pointer (some ⟨g, 0, none⟩))
    (hr : ∀ w, C w → Blk w g (v8c v) 39) (hn : K (a.put o.dst (.agg (v8c v)))) : o.quiet Tryd.prog a C K :=
  quiet_val (.agg (v8c v)) (fun w hw => by
    have h := run_loadAt_mid (P := Tryd.prog) w g 0 39 (v8c v).toList _ (fun j u hj => by rw [(hr w hw).cell, Nat.zero_add, ← hj, Array.getElem?_toList]) Tryd.underlying39 rfl (by rw [Array.length_toList]; exact info_8)
    unfold execOp
    simp only [ho, hx, h, Sem.run_bind, Result.andThen_ok]
    rfl) hn
theorem h0_lit : (#[Value.int .u32 1779033703, Value.int .u32 3144134277, Value.int .u32 1013904242, Value.int .u32 2773480762, Value.int .u32 1359893119, Value.int .u32 2600822924, Value.int .u32 528734635, Value.int .u32 1541459225] : Array Value) = v8c H0 := by kernel_rfl
theorem info_shc (m : List Nat) : (Tryd.prog.info? 23).map (·.size) = some (shc m).size := by rw [info_id, shc_size]
set_option maxHeartbeats 1000000 in
set_option maxRecDepth 100000 in
theorem quick_any (s : ByteArray) (w : World) (hs : s.size ≤ 20000) :
    Calls Tryd.prog 8 #[.string s] w fun e w' => e = .returned (.agg (shc (byl s))) ∧ Below w.heap.size w w' := by
  go_enter Tryd.func8, Tryd.ntmps8
  go_wp2
  rw [h0_lit]
  show Code.wp _ _ _ _ ((w.alloc (.cells z32c 23)).alloc (.cells (v8c H0) 39))
  obtain ⟨w1, hw1⟩ : ∃ w1, w1 = (w.alloc (.cells z32c 23)).alloc (.cells (v8c H0) 39) := ⟨_, rfl⟩
  rw [← hw1]
  have hS : SQ w w1 := by
    have g2 := World.grownBy_alloc (w.alloc (.cells z32c 23)) (.cells (v8c H0) 39) none
    have e := blk_new (w.alloc (.cells z32c 23)) (.cells (v8c H0) 39)
    rw [alloc_size] at e
    rw [hw1]
    exact ⟨Blk.grown (blk_new w (.cells z32c 23)) g2 (by simp), e, ((Below.refl _ _).alloc (Nat.le_refl _) _).alloc (by rw [alloc_size]; omega) _⟩
  clear hw1
  refine wp_region_tail (SQ w) 4 (by kernel_rfl) (by kernel_rfl) ⟨hS.1, hS.2.1, hS.2.2.drew⟩ ?_
  simp only [List.take_succ_cons, List.take_zero, List.drop_succ_cons, List.drop_zero]
  go_big_quiet_want
  go_big_quiet_op
  go_big_quiet_on
  go_big_quiet_want
  refine quiet_v8 H0 _ rfl (w.heap.size + 1) rfl (fun _ h => h.2.1) ?_
  go_big_quiet_on; simp only [Act.put, List.setIfInBounds_toArray, List.set_cons_zero, List.set_cons_succ]
  go_big_quiet_want
  refine quiet_call (.agg kcs) 24 #[] ?_ ?_ ?_
  · intro W hW; go_simp; done
  · intro W hW; exact (constants_any W).mono (fun _ _ h => ⟨h.1, SQ.below hW h.2⟩)
  go_big_quiet_on; simp only [Act.put, List.setIfInBounds_toArray, List.set_cons_zero, List.set_cons_succ]
  go_big_quiet_want
  refine quiet_call (.agg (shc (byl s))) 23 #[.string s, .agg (v8c H0), .agg kcs] ?_ ?_ ?_
  · intro W hW; go_simp; done
  · intro W hW; exact (rsum_any s W hs).mono (fun _ _ h => ⟨h.1, SQ.below hW h.2⟩)
  go_big_quiet_on; simp only [Act.put, List.setIfInBounds_toArray, List.set_cons_zero, List.set_cons_succ]
  refine wpQuiet_nil ?_
  intro w9 hw9
  have HR9 : Hid (Blk w9 w.heap.size z32c 23) := hw9.1
  have HB9 : Hid (Below w.heap.size w w9) := hw9.2.2
  clear hw9 hS
  go_wp2_with (refine wpList_store_row rfl 23 (.tmp 2) (.tmp 8) rfl w.heap.size (shc (byl s)) rfl rfl 23 z32c HR9.out (info_shc _) (by rw [z32c_size, shc_size]) (shc_one _) ?_)
  refine bodyPost_ret (results_cell_row rfl _ _ w.heap.size 23 (shc (byl s)) (0, 0) _ rfl (setRow_heap _ _ _ _ _ _ HR9.out) Tryd.underlying23 rfl (info_shc _)) rfl ⟨rfl, ?_⟩
  exact below_setRow HB9.out (Nat.le_refl _) _
/-- A name of noughts. -/
def z32s : ByteArray := sb (List.replicate 32 0)
theorem z32s_size : z32s.size = 32 := by decide +kernel
theorem z32s_idc : idc z32s = z32c := by kernel_rfl
theorem quick_id (s : ByteArray) (w : World) (hs : s.size ≤ 20000) :
    Calls Tryd.prog 8 #[.string s] w fun e w' => e = .returned (.agg (idc (sb (sha (byl s))))) ∧ Below w.heap.size w w' := by
  rw [← shc_idc]; exact quick_any s w hs
end Go.Proofs.YtijpdnoloicfjaaDoor
/- The document's own put and times (munimentref02): limbs of 32 bits. -/
namespace Go.Proofs.YtijpdnoloicfjaaDoor
open Go.RowKit
set_option linter.unusedSimpArgs false
set_option linter.unusedVariables false
/-- A number is added at a limb, as the loop does it. -/
def putF : Nat → List Nat → Nat → Nat → List Nat
  | 0, l, _, _ => l
  | f + 1, l, a, n => if a < 5 ∧ 0 < n then putF f (l.set a ((l.getD a 0 + n % 4294967296) % 4294967296)) (a + 1) (n / 4294967296 + (l.getD a 0 + n % 4294967296) / 4294967296) else l
/-- Numbers of 64 bits as cells. -/
def lc (l : List Nat) : Array Value := (l.map fun x : Nat => Value.int .u64 (x : Int)).toArray
theorem lc_get (l : List Nat) (j : Nat) (h : j < l.length) : (lc l)[j]? = some (.int .u64 (l.getD j 0 : Nat)) := by
  rw [lc, List.getElem?_toArray, List.getElem?_map, List.getD, List.getElem?_eq_getElem h]; rfl
theorem lc_set (l : List Nat) (j x : Nat) : (lc l).setIfInBounds j (.int .u64 (x : Int)) = lc (l.set j x) := by
  simp [lc, List.map_set]
/-- Five limbs that lie in memory. -/
structure Lm (w : World) (g : Nat) (l : List Nat) (wr : World) : Prop where
  blk : Blk wr g (lc l) 41
  len : l.length = 5
  lt : ∀ x ∈ l, x < 4294967296
  grown : w.grownBy wr (some g)
theorem getD_lt {l : List Nat} (h : ∀ x ∈ l, x < 4294967296) (a : Nat) : l.getD a 0 < 4294967296 := by
  rw [List.getD]
  cases e : l[a]? with
  | none => simp
  | some x => exact h x (List.mem_of_getElem? e)
theorem set_lt {l : List Nat} (h : ∀ x ∈ l, x < 4294967296) (a y : Nat) (hy : y < 4294967296) : ∀ x ∈ l.set a y, x < 4294967296 := by
  intro x hx
  rcases List.mem_or_eq_of_mem_set hx with h1 | h1
  · exact h x h1
  · omega
theorem Lm.put {w : World} {g : Nat} {s : List Nat} {wr : World} (h : Lm w g s wr) (b : Nat) (y1 y2 : Int) (z1 z2 : Nat) (e1 : y1 = z1) (e2 : y2 = z2) (hz : z2 < 4294967296) :
    Lm w g (s.set b z2) ((wr.setCell ⟨g, b, none⟩ (.int .u64 y1)).setCell ⟨g, b, none⟩ (.int .u64 y2)) := by
  subst e1 e2
  refine ⟨?_, by rw [List.length_set]; exact h.len, set_lt h.lt b z2 hz, Lib.grownBy_setB (Lib.grownBy_setB h.grown b _) b _⟩
  have e := (h.blk.set b (.int .u64 (z1 : Int))).set b (.int .u64 (z2 : Int))
  rw [lc_set, lc_set, List.set_set] at e
  exact e
theorem putF_go (f : Nat) (s : List Nat) (b m : Nat) (h1 : b < 5) (h2 : 0 < m) : putF (f + 1) s b m = putF f (s.set b ((s.getD b 0 + m % 4294967296) % 4294967296)) (b + 1) (m / 4294967296 + (s.getD b 0 + m % 4294967296) / 4294967296) := by
  rw [putF, if_pos ⟨h1, h2⟩]
theorem putF_end (f : Nat) (s : List Nat) (b m : Nat) (h : ¬ (b < 5 ∧ 0 < m)) : putF (f + 1) s b m = s := by
  rw [putF, if_neg h]
set_option maxHeartbeats 400000 in
set_option maxRecDepth 100000 in
theorem put_any (l : List Nat) (a n g : Nat) (w : World) (ha : a ≤ 5) (hn : n < 18446744073709551616) (hL : Lm w g l w) :
    Calls Tryd.prog 45 #[.slice (some ⟨g, 0, none⟩) 5 5, .int .i64 a, .int .u64 n] w fun e w' => e = .returned (.tuple #[]) ∧ Lm w g (putF 6 l a n) w' := by
  have HL : Hid (Lm w g l w) := hL
  clear hL
  go_enter Tryd.func45, Tryd.ntmps45
  go_wp2
  go_loopw [1, 2] (fun i v wr => ∃ (j m : Nat) (s : List Nat), j ≤ 5 ∧ a + j ≤ 5 ∧ i = .int .i64 ((a + j : Nat) : Int) ∧ v = .int .u64 (m : Int) ∧ m < 18446744073709551616 ∧ Hid (Lm w g s wr ∧ putF 6 l a n = putF (6 - j) s (a + j) m)) (fun i _ _ => 10 - (intOf i).toNat)
  case atStart => exact ⟨0, n, l, by omega, by omega, rfl, rfl, hn, HL.out, rfl⟩
  case round =>
    obtain ⟨j, m, s, hj, haj, rfl, rfl, hm, HR⟩ := hrel
    obtain ⟨b, hb⟩ : ∃ b, b = a + j := ⟨_, rfl⟩
    rw [← hb] at HR haj ⊢
    have HB : Hid (b = a + j) := hb
    clear hb
    by_cases hlt : b < 5 ∧ 0 < m
    · obtain ⟨h1, h2⟩ := hlt
      obtain ⟨x, hx⟩ : ∃ x, x = s.getD b 0 := ⟨_, rfl⟩
      have hxl : x < 4294967296 := by rw [hx]; exact getD_lt HR.out.1.lt b
      have hc : wr.cell? ⟨g, b, none⟩ = some (.int .u64 (x : Int)) := by rw [HR.out.1.blk.cell, lc_get _ _ (by rw [HR.out.1.len]; omega), hx]
      have hf := HR.out.1.blk.frozen b
      have HX : Hid (x = s.getD b 0) := hx
      clear hx
      go_wp2
      refine ⟨⟨j + 1, m / 4294967296 + (x + m % 4294967296) / 4294967296, s.set b ((x + m % 4294967296) % 4294967296), by have := HB.out; omega, by have := HB.out; omega, ?_, ?_, by omega, ?_, ?_⟩, by simp [intOf]; omega⟩
      · rw [HB.out]; go_num
      · go_num
      · exact HR.out.1.put b _ _ (x + m % 4294967296) _ (by omega) (by omega) (by omega)
      · rw [HR.out.2, show 6 - j = (5 - j) + 1 from by omega, putF_go _ _ _ _ h1 h2, ← HX.out, show 6 - (j + 1) = 5 - j from by omega, show a + (j + 1) = b + 1 from by rw [HB.out]; omega]
    · have he : putF 6 l a n = s := by rw [HR.out.2, show 6 - j = (5 - j) + 1 from by omega]; exact putF_end _ _ _ _ hlt
      have HE : Hid (putF 6 l a n = s) := he
      have hc : (5 : Int) ≤ b ∨ ((b : Int) < 5 ∧ (m : Int) ≤ 0) := by omega
      clear he hlt
      rcases hc with h1 | ⟨h1, h2⟩
      · go_wp2
        go_end0
        exact ⟨rfl, by rw [HE.out]; exact HR.out.1⟩
      · go_wp2
        go_end0
        exact ⟨rfl, by rw [HE.out]; exact HR.out.1⟩
end Go.Proofs.YtijpdnoloicfjaaDoor
/- The document's own times (munimentref02). -/
namespace Go.Proofs.YtijpdnoloicfjaaDoor
open Go.RowKit
set_option linter.unusedSimpArgs false
set_option linter.unusedVariables false
/-- Limbs times a number, so many of them done. -/
def timesF (l : List Nat) (x : Nat) : Nat → List Nat
  | 0 => [0, 0, 0, 0, 0]
  | k + 1 => putF 6 (putF 6 (timesF l x k) k (l.getD k 0 * (x % 4294967296))) (k + 1) (l.getD k 0 * (x / 4294967296))
theorem info_u64 : (Tryd.prog.info? 41).map (fun i => (i.zero, i.size, i.bytes)) = some (some (.int .u64 0), 1, 8) := by kernel_rfl
theorem make_5 (u : World) : (Instr.makeSlice 47 (.int .i64 5) (.int .i64 5)).run Tryd.prog u =
    .ok (.slice (some ⟨u.heap.size, 0, none⟩) 5 5) (u.alloc (.cells (lc [0, 0, 0, 0, 0]) 41)) := by
  obtain ⟨i0, hi, hz0, hz1, hz2⟩ := info_parts info_u64
  have h := run_make (P := Tryd.prog) u 47 41 i0 (.int .u64 0) Tryd.underlying47 hi hz0 .i64 .i64 5 5 (by omega) (Int.le_refl _) (by rw [hz2]; decide) (by omega)
  have e : madeCells #[Value.int .u64 0] 5 = lc [0, 0, 0, 0, 0] := by kernel_rfl
  rw [← e]
  simpa [hz1, Value.cells] using h
/-- Five limbs in memory, whatever came before. -/
structure Lb (w : World) (g : Nat) (l : List Nat) : Prop where
  blk : Blk w g (lc l) 41
  len : l.length = 5
  lt : ∀ x ∈ l, x < 4294967296
theorem Lb.lm {w : World} {g : Nat} {l : List Nat} (h : Lb w g l) : Lm w g l w := ⟨h.blk, h.len, h.lt, World.grownBy.refl _ _⟩
theorem Lm.lb {w : World} {g : Nat} {l : List Nat} {wr : World} (h : Lm w g l wr) : Lb wr g l := ⟨h.blk, h.len, h.lt⟩
theorem Lm.next {w wr w' : World} {g : Nat} {s s' : List Nat} (h : Lm w g s wr) (h' : Lm wr g s' w') : Lm w g s' w' := ⟨h'.blk, h'.len, h'.lt, h.grown.trans h'.grown⟩
theorem mul_small (a b : Nat) (ha : a < 4294967296) (hb : b < 4294967296) : a * b < 18446744073709551616 := by
  have := Nat.mul_le_mul (show a ≤ 4294967295 by omega) (show b ≤ 4294967295 by omega)
  omega
theorem wlow (y x : Nat) (hy : y < 4294967296) : IntKind.u64.wrap ((y : Int) * ((x : Int) % 4294967296)) = ((y * (x % 4294967296) : Nat) : Int) := by
  have e : (y : Int) * ((x : Int) % 4294967296) = ((y * (x % 4294967296) : Nat) : Int) := by rw [Int.natCast_mul, Int.natCast_emod]; rfl
  have := mul_small y (x % 4294967296) hy (Nat.mod_lt _ (by omega))
  rw [e, IntKind.wrap_u64]
  omega
theorem whigh (y x : Nat) (hy : y < 4294967296) (hx : x < 274877906944) : IntKind.u64.wrap ((y : Int) * ((x : Int) / 4294967296)) = ((y * (x / 4294967296) : Nat) : Int) := by
  have e : (y : Int) * ((x : Int) / 4294967296) = ((y * (x / 4294967296) : Nat) : Int) := by rw [Int.natCast_mul, Int.natCast_ediv]; rfl
  have := mul_small y (x / 4294967296) hy (by omega)
  rw [e, IntKind.wrap_u64]
  omega
set_option maxHeartbeats 400000 in
set_option maxRecDepth 100000 in
theorem times_any (l : List Nat) (x g1 : Nat) (w : World) (hx : x < 274877906944) (hL : Lb w g1 l) :
    Calls Tryd.prog 42 #[.slice (some ⟨g1, 0, none⟩) 5 5, .int .u64 x] w fun e w' =>
      ∃ g, e = .returned (.slice (some ⟨g, 0, none⟩) 5 5) ∧ w.heap.size ≤ g ∧ Lb w' g (timesF l x 5) ∧ Below w.heap.size w w' := by
  have HL : Hid (Lb w g1 l) := hL
  have hg1 : g1 < w.heap.size := blk_lt hL.blk
  have hm5 := make_5 w
  clear hL
  go_enter Tryd.func42, Tryd.ntmps42
  go_wp2
  obtain ⟨w1, hw1⟩ : ∃ w1, w1 = w.alloc (.cells (lc [0, 0, 0, 0, 0]) 41) := ⟨_, rfl⟩
  rw [← hw1]
  have HS : Hid (Lm w1 w.heap.size (timesF l x 0) w1 ∧ Below w.heap.size w w1) := by
    rw [hw1]
    exact ⟨⟨blk_new _ _, rfl, by intro y hy; simp [timesF] at hy; omega, World.grownBy.refl _ _⟩, (Below.refl _ _).alloc (Nat.le_refl _) _⟩
  have z1 : w.heap.size < w1.heap.size := blk_lt HS.out.1.blk
  clear hw1 hm5
  go_loopw [8] (fun i wr => ∃ (k : Nat), k ≤ 5 ∧ i = .int .i64 k ∧ Hid (Lm w1 w.heap.size (timesF l x k) wr)) (fun i _ => 10 - (intOf i).toNat)
  case atStart => exact ⟨0, by omega, rfl, HS.out.1⟩
  case round =>
    obtain ⟨k, hk, rfl, HR⟩ := hrel
    by_cases hlt : k < 5
    · obtain ⟨y, hy⟩ : ∃ y, y = l.getD k 0 := ⟨_, rfl⟩
      have hyl : y < 4294967296 := by rw [hy]; exact getD_lt HL.out.lt k
      have hcw : w1.cell? ⟨g1, k, none⟩ = some (.int .u64 (y : Int)) := by rw [HS.out.2.cell (p := ⟨g1, k, none⟩) hg1, HL.out.blk.cell, lc_get _ _ (by rw [HL.out.len]; omega), hy]
      have hc : wr.cell? ⟨g1, k, none⟩ = some (.int .u64 (y : Int)) := HR.out.grown.cell hcw (by simp; omega)
      have HY : Hid (y = l.getD k 0) := hy
      clear hy
      go_wp2_with fail
      rw [wlow y x hyl]
      obtain ⟨pl, hpl⟩ : ∃ pl, pl = y * (x % 4294967296) := ⟨_, rfl⟩
      rw [← hpl]
      have HPL : Hid (pl = y * (x % 4294967296)) := hpl
      have hpl2 : pl < 18446744073709551616 := by rw [hpl]; exact mul_small y _ hyl (Nat.mod_lt _ (by omega))
      clear hpl
      refine (put_any (timesF l x k) k pl w.heap.size wr (by omega) hpl2 HR.out.lb.lm).mono ?_
      rintro e w2 ⟨rfl, h2⟩
      have H2 : Hid (Lm w1 w.heap.size (putF 6 (timesF l x k) k pl) w2) := HR.out.next h2
      have hc2 : w2.cell? ⟨g1, k, none⟩ = some (.int .u64 (y : Int)) := h2.grown.cell hc (by simp; omega)
      clear h2 hc hcw
      go_wp2_with fail
      rw [whigh y x hyl hx]
      obtain ⟨ph, hph⟩ : ∃ ph, ph = y * (x / 4294967296) := ⟨_, rfl⟩
      rw [← hph]
      have HPH : Hid (ph = y * (x / 4294967296)) := hph
      have hph2 : ph < 18446744073709551616 := by rw [hph]; exact mul_small y _ hyl (by omega)
      clear hph
      rw [show ((k : Int) + 1) = ((k + 1 : Nat) : Int) from by omega]
      refine (put_any (putF 6 (timesF l x k) k pl) (k + 1) ph w.heap.size w2 (by omega) hph2 H2.out.lb.lm).mono ?_
      rintro e w3 ⟨rfl, h3⟩
      have H3 : Hid (Lm w1 w.heap.size (timesF l x (k + 1)) w3) := by
        have e : timesF l x (k + 1) = putF 6 (putF 6 (timesF l x k) k pl) (k + 1) ph := by rw [timesF, HPL.out, HPH.out, HY.out]
        show Lm _ _ _ _
        rw [e]; exact H2.out.next h3
      clear h3 H2 hc2 HR
      go_wp2
      go_roundw
      case rel => exact ⟨k + 1, by omega, by go_num, H3.out⟩
      case measure => simp [intOf]; omega
    · have hke : k = 5 := by omega
      subst hke
      go_wp2
      go_ret
      refine ⟨w.heap.size, rfl, Nat.le_refl _, HR.out.lb, ?_⟩
      exact HS.out.2.grown HR.out.grown (by omega) (fun j hj => by cases hj; exact Nat.le_refl _)
end Go.Proofs.YtijpdnoloicfjaaDoor
/- The document's own within (munimentref02). -/
namespace Go.Proofs.YtijpdnoloicfjaaDoor
open Go.RowKit
set_option linter.unusedSimpArgs false
set_option linter.unusedVariables false
/-- A number's power, by limbs. -/
def powF (x : Nat) : Nat → List Nat
  | 0 => [1, 0, 0, 0, 0]
  | k + 1 => timesF (powF x k) x 5
/-- Two rows of limbs, the highest first: is the one not above the other? -/
def cmpF (a b : List Nat) : Nat → Bool
  | 0 => true
  | i + 1 => if a.getD i 0 = b.getD i 0 then cmpF a b i else decide (a.getD i 0 < b.getD i 0)
def topF (p power : Nat) : List Nat := [0, 0, 0, 0, 0].set power p
def withinB (x p power : Nat) : Bool := cmpF (powF x power) (topF p power) 5
theorem Lb.grown {w w' : World} {g : Nat} {l : List Nat} {r : Option Nat} (h : Lb w g l) (hg : w.grownBy w' r) (hr : r ≠ some g) : Lb w' g l := by
  have hlt := blk_lt h.blk
  refine ⟨?_, h.len, h.lt⟩
  unfold Blk
  rw [hg.block g hlt (fun e => hr e.symm)]; exact h.blk
theorem Lb.cell {w : World} {g : Nat} {l : List Nat} (h : Lb w g l) (j : Nat) (hj : j < 5) : w.cell? ⟨g, j, none⟩ = some (.int .u64 (l.getD j 0 : Nat)) := by
  rw [h.blk.cell, lc_get _ _ (by rw [h.len]; exact hj)]
theorem Lb.one (w : World) : Lb (w.alloc (.cells (lc [1, 0, 0, 0, 0]) 41)) w.heap.size [1, 0, 0, 0, 0] := ⟨blk_new _ _, rfl, by decide⟩
set_option maxHeartbeats 1000000 in
set_option maxRecDepth 100000 in
theorem within_any (x p power : Nat) (w : World) (hx : x < 274877906944) (hp : p < 4294967296) (hpw : power ≤ 4) :
    Calls Tryd.prog 33 #[.int .u64 x, .int .u64 p, .int .i64 power] w fun e w' => e = .returned (.bool (withinB x p power)) ∧ Below w.heap.size w w' := by
  go_enter Tryd.func33, Tryd.ntmps33
  go_wp2
  obtain ⟨w1, hw1⟩ : ∃ w1, w1 = w.alloc (.cells (lc [1, 0, 0, 0, 0]) 41) := ⟨_, rfl⟩
  have HS : Hid (Lb w1 w.heap.size (powF x 0) ∧ Below w.heap.size w w1) := by rw [hw1]; exact ⟨Lb.one w, (Below.refl _ _).alloc (Nat.le_refl _) _⟩
  show Code.wp _ _ _ _ (w.alloc (.cells (lc [1, 0, 0, 0, 0]) 41))
  rw [← hw1]
  clear hw1
  go_loopw [7, 8] (fun v i wr => ∃ (k g : Nat), k ≤ power ∧ i = .int .i64 k ∧ v = .slice (some ⟨g, 0, none⟩) 5 5 ∧ Hid (Lb wr g (powF x k) ∧ Below w.heap.size w wr)) (fun _ i _ => 10 - (intOf i).toNat)
  case atStart => exact ⟨0, w.heap.size, by omega, rfl, rfl, HS.out⟩
  case round =>
    clear HS
    obtain ⟨k, g, hk, rfl, rfl, HR⟩ := hrel
    have zr : w.heap.size ≤ wr.heap.size := HR.out.2.size
    by_cases hlt : k < power
    · go_wp2_with fail
      refine (times_any (powF x k) x g wr hx HR.out.1).mono ?_
      rintro e w2 ⟨g2, rfl, hg2, hL2, hb2⟩
      have H2 : Hid (Lb w2 g2 (powF x (k + 1)) ∧ Below w.heap.size w w2) := ⟨hL2, HR.out.2.trans (hb2.mono zr)⟩
      clear hL2 hb2 HR
      go_wp2
      go_roundw
      case rel => exact ⟨k + 1, g2, by omega, by go_num, rfl, H2.out⟩
      case measure => simp [intOf]; omega
    · have hke : k = power := by omega
      subst hke
      have hm5 := make_5 wr
      obtain ⟨G, hG⟩ : ∃ G, G = wr.heap.size := ⟨_, rfl⟩
      rw [← hG] at hm5
      obtain ⟨w3, hw3⟩ : ∃ w3, w3 = wr.alloc (.cells (lc [0, 0, 0, 0, 0]) 41) := ⟨_, rfl⟩
      rw [← hw3] at hm5
      have hB3 : Blk w3 G (lc [0, 0, 0, 0, 0]) 41 := by rw [hw3, hG]; exact blk_new _ _
      have hg3 : wr.grownBy w3 none := by rw [hw3]; exact World.grownBy_alloc _ _ none
      have hgG : g < G := by rw [hG]; exact blk_lt HR.out.1.blk
      have hc3 : w3.cell? ⟨G, k, none⟩ = some (.int .u64 ((([0, 0, 0, 0, 0] : List Nat).getD k 0 : Nat) : Int)) := by rw [hB3.cell, lc_get _ _ (by show k < 5; omega)]
      have hf3 := hB3.frozen k
      have HLa : Hid (Lb w3 g (powF x k)) := HR.out.1.grown hg3 (by simp)
      have HB3 : Hid (Blk w3 G (lc [0, 0, 0, 0, 0]) 41) := hB3
      have HW3 : Hid (Below w.heap.size w w3) := HR.out.2.trans ((below_of_grown hg3).mono zr)
      have HGG : Hid (G = wr.heap.size) := hG
      have hzG : w.heap.size ≤ G := by omega
      clear hG hw3 hB3 hg3 HR hlt
      go_wp2
      obtain ⟨w4, hw4⟩ : ∃ w4, w4 = w3.setCell ⟨G, k, none⟩ (.int .u64 (p : Int)) := ⟨_, rfl⟩
      rw [← hw4]
      have HA4 : Hid (Lb w4 g (powF x k)) := by rw [hw4]; exact HLa.out.grown (Lib.grownBy_setB (World.grownBy.refl _ _) k _) (by simp; omega)
      have HB4 : Hid (Lb w4 G (topF p k)) := by
        rw [hw4]
        refine ⟨?_, by rw [topF, List.length_set]; rfl, set_lt (by decide) k p hp⟩
        have e := HB3.out.set k (.int .u64 (p : Int))
        rw [lc_set] at e
        exact e
      have HW4 : Hid (Below w.heap.size w w4) := by rw [hw4]; exact HW3.out.setCell hzG _
      clear hw4 HLa HB3 HW3 hc3 hf3 hm5
      obtain ⟨A, hA⟩ : ∃ A, A = powF x k := ⟨_, rfl⟩
      obtain ⟨B, hB⟩ : ∃ B, B = topF p k := ⟨_, rfl⟩
      have HE : Hid (withinB x p k = cmpF A B 5) := by rw [hA, hB]; rfl
      rw [← hA] at HA4
      rw [← hB] at HB4
      clear hA hB
      go_loopw [10] (fun i wq => ∃ (j : Nat), j ≤ 5 ∧ i = .int .i64 ((j : Int) - 1) ∧ Hid (w4.grownBy wq none ∧ cmpF A B 5 = cmpF A B j)) (fun i _ => (intOf i + 1).toNat)
      case atStart => exact ⟨5, by omega, rfl, World.grownBy.refl _ _, rfl⟩
      case round =>
        obtain ⟨j, hj, rfl, HQ⟩ := hrel
        by_cases hj0 : 0 < j
        · obtain ⟨b, rfl⟩ : ∃ b, j = b + 1 := ⟨j - 1, by omega⟩
          obtain ⟨y, hy⟩ : ∃ y, y = A.getD b 0 := ⟨_, rfl⟩
          obtain ⟨z, hz⟩ : ∃ z, z = B.getD b 0 := ⟨_, rfl⟩
          have c1 : wr.cell? ⟨g, b, none⟩ = some (.int .u64 (y : Int)) := by rw [hy]; exact HQ.out.1.cell (HA4.out.cell b (by omega)) (by simp)
          have c2 : wr.cell? ⟨G, b, none⟩ = some (.int .u64 (z : Int)) := by rw [hz]; exact HQ.out.1.cell (HB4.out.cell b (by omega)) (by simp)
          have HYZ : Hid (y = A.getD b 0 ∧ z = B.getD b 0) := ⟨hy, hz⟩
          have hyl : y < 4294967296 := by rw [hy]; exact getD_lt HA4.out.lt b
          have hzl : z < 4294967296 := by rw [hz]; exact getD_lt HB4.out.lt b
          clear hy hz
          rw [show (((b + 1 : Nat) : Int) - 1) = (b : Int) from by omega]
          by_cases hyz : y = z
          · have hb : ((y : Int) != (z : Int)) = false := by rw [bne_eq_false_iff_eq]; omega
            have HNE : Hid (y = z) := hyz
            clear hyz
            go_wp2
            go_quiet (fail)
            go_wp2
            go_roundw
            case rel =>
              refine ⟨b, by omega, by go_num, HQ.out.1.trans (grown_drewN _ _ _), ?_⟩
              rw [HQ.out.2, cmpF, if_pos (by rw [← HYZ.out.1, ← HYZ.out.2]; exact HNE.out)]
            case measure => simp [intOf]
          · have hb : ((y : Int) != (z : Int)) = true := by rw [bne_iff_ne]; omega
            have HNE : Hid (¬ y = z) := hyz
            clear hyz
            go_wp2
            go_quiet (fail)
            go_wp2
            go_quiet (fail)
            go_wp2
            go_ret
            have e : withinB x p k = decide ((y : Int) < (z : Int)) := by
              rw [HE.out, HQ.out.2, cmpF, ← HYZ.out.1, ← HYZ.out.2, if_neg HNE.out]
              apply Bool.eq_iff_iff.2
              simp
            refine ⟨?_, HW4.out.trans ((below_of_grown ((HQ.out.1.trans (grown_drewN _ _ _)).trans (grown_drewN _ _ _))).mono HW4.out.size)⟩
            rw [e]
            first | rfl | (simp; done)
        · have hj1 : j = 0 := by omega
          subst hj1
          have HF : Hid (cmpF A B 5 = true) := by have := HQ.out.2; exact this
          clear hj0
          go_wp2
          go_ret
          refine ⟨by rw [HE.out, HF.out]; rfl, HW4.out.trans ((below_of_grown HQ.out.1).mono HW4.out.size)⟩
end Go.Proofs.YtijpdnoloicfjaaDoor
/- The document's own root (munimentref02). -/
namespace Go.Proofs.YtijpdnoloicfjaaDoor
open Go.RowKit
set_option linter.unusedSimpArgs false
set_option linter.unusedVariables false
/-- The greatest number whose power is within, by halving. -/
def rootF (p power : Nat) : Nat → Nat → Nat → Nat
  | 0, lo, _ => lo
  | f + 1, lo, hi => if lo < hi then (if withinB ((lo + hi + 1) / 2) p power = true then rootF p power f ((lo + hi + 1) / 2) hi else rootF p power f lo ((lo + hi + 1) / 2 - 1)) else lo
def rootN (p power : Nat) : Nat := rootF p power 38 0 137438953472
theorem rootF_yes {p power f lo hi : Nat} (h : lo < hi) (hw : withinB ((lo + hi + 1) / 2) p power = true) : rootF p power (f + 1) lo hi = rootF p power f ((lo + hi + 1) / 2) hi := by
  rw [rootF, if_pos h, if_pos hw]
theorem rootF_no {p power f lo hi : Nat} (h : lo < hi) (hw : withinB ((lo + hi + 1) / 2) p power = false) : rootF p power (f + 1) lo hi = rootF p power f lo ((lo + hi + 1) / 2 - 1) := by
  rw [rootF, if_pos h, if_neg (by rw [hw]; simp)]
theorem rootF_end {p power f lo hi : Nat} (h : ¬ lo < hi) : rootF p power f lo hi = lo := by
  cases f with
  | zero => rfl
  | succ f => rw [rootF, if_neg h]
set_option maxHeartbeats 400000 in
set_option maxRecDepth 100000 in
theorem root_any (p power : Nat) (w : World) (hp : p < 4294967296) (hpw : power ≤ 4) :
    Calls Tryd.prog 22 #[.int .u64 p, .int .i64 power] w fun e w' => e = .returned (.int .u32 ((rootN p power % 4294967296 : Nat) : Int)) ∧ Below w.heap.size w w' := by
  go_enter Tryd.func22, Tryd.ntmps22
  go_wp2
  go_loopw [5, 6] (fun v u wr => ∃ (lo hi f : Nat), v = .int .u64 (lo : Int) ∧ u = .int .u64 (hi : Int) ∧ hi ≤ 137438953472 ∧ lo ≤ 137438953472 ∧ Hid (hi - lo < 2 ^ f ∧ rootN p power = rootF p power f lo hi ∧ Below w.heap.size w wr)) (fun v u _ => (intOf u - intOf v).toNat)
  case atStart => exact ⟨0, 137438953472, 38, rfl, rfl, by omega, by omega, by decide, rfl, Below.refl _ _⟩
  case round =>
    obtain ⟨lo, hi, f, rfl, rfl, hhi, hlo, HR⟩ := hrel
    by_cases hlt : lo < hi
    · obtain ⟨f', hf'⟩ : ∃ f', f = f' + 1 := by
        cases f with
        | zero => exfalso; have := HR.out.1; simp at this; omega
        | succ f => exact ⟨f, rfl⟩
      obtain ⟨mid, hmid⟩ : ∃ mid, mid = (lo + hi + 1) / 2 := ⟨_, rfl⟩
      have hm1 : lo < mid := by omega
      have hm2 : mid ≤ hi := by omega
      have hmI : ((lo : Int) + hi + 1) / 2 = (mid : Int) := by omega
      have HM : Hid (mid = (lo + hi + 1) / 2) := hmid
      have HF : Hid (f = f' + 1) := hf'
      have hpow : hi - mid < 2 ^ f' ∧ mid - 1 - lo < 2 ^ f' := by
        have h1 := HR.out.1
        rw [hf', Nat.pow_succ] at h1
        omega
      have HPW : Hid (hi - mid < 2 ^ f' ∧ mid - 1 - lo < 2 ^ f') := hpow
      have zr : w.heap.size ≤ wr.heap.size := HR.out.2.2.size
      clear hmid hf' hpow
      go_wp2_with fail
      refine (within_any mid p power wr (by omega) hp hpw).mono ?_
      rintro e w1 ⟨rfl, hb1⟩
      have H1 : Hid (Below w.heap.size w w1) := HR.out.2.2.trans (hb1.mono zr)
      clear hb1
      cases hwi : withinB mid p power with
      | true =>
        have HW : Hid (withinB mid p power = true) := hwi
        clear hwi
        go_wp2
        go_roundw
        case rel =>
          refine ⟨mid, hi, f', rfl, rfl, hhi, by omega, HPW.out.1, ?_, H1.out⟩
          rw [HR.out.2.1, HF.out, rootF_yes hlt (by rw [← HM.out]; exact HW.out), ← HM.out]
        case measure => simp [intOf]; omega
      | false =>
        have HW : Hid (withinB mid p power = false) := hwi
        clear hwi
        go_wp2
        go_roundw
        case rel =>
          refine ⟨lo, mid - 1, f', rfl, by go_num, by omega, hlo, HPW.out.2, ?_, H1.out⟩
          rw [HR.out.2.1, HF.out, rootF_no hlt (by rw [← HM.out]; exact HW.out), ← HM.out]
        case measure => simp [intOf]; omega
    · go_wp2
      go_ret
      refine ⟨ret_i32 ?_, HR.out.2.2⟩
      rw [HR.out.2.1, rootF_end hlt]
      simp
end Go.Proofs.YtijpdnoloicfjaaDoor
/- The roots of the first primes, reckoned. -/
namespace Go.Proofs.YtijpdnoloicfjaaDoor
set_option linter.unusedSimpArgs false
set_option linter.unusedVariables false
/-- The first primes. -/
def prs : List Nat := [2, 3, 5, 7, 11, 13, 17, 19, 23, 29, 31, 37, 41, 43, 47, 53, 59, 61, 67, 71, 73, 79, 83, 89, 97, 101, 103, 107, 109, 113, 127, 131, 137, 139, 149, 151, 157, 163, 167, 173, 179, 181, 191, 193, 197, 199, 211, 223, 227, 229, 233, 239, 241, 251, 257, 263, 269, 271, 277, 281, 283, 293, 307, 311]
theorem roots3 : ∀ i : Fin 64, rootN (prs.getD i.val 0) 3 % 4294967296 = (KT i.val).toNat := by decide +kernel
theorem roots2 : ∀ i : Fin 8, rootN (prs.getD i.val 0) 2 % 4294967296 = (H0.list.getD i.val 0).toNat := by decide +kernel
end Go.Proofs.YtijpdnoloicfjaaDoor
