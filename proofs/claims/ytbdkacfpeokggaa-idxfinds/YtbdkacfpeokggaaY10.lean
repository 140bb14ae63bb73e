import Derived.Test.YtbdkacfpeokggaaY6
import Derived.Test.YtbdkacfpeokggaaY8
import Derived.Test.YtbdkacfpeokggaaY9
import Derived.Test.YtbdkacfpeokggaaY4
import Derived.Test.YtbdkacfpeokggaaY7
import Derived.Test.YtbdkacfpeokggaaY3
import Derived.Laws.StructEq
import Derived.Test.YtbdkacfpeokggaaRows
import Derived.ProofKit
import Derived.Deep.Slices
import Derived.Lib.SmallJoins
import Derived.SizedLaws
import Derived.OpenShut
import Derived.Deep.Strs
/- The law's own: awake. -/
namespace Go.Proofs.Ytbdkacfpeokggaa
open Go.RowKit
set_option linter.unusedSimpArgs false
set_option linter.unusedVariables false
/-- A name of one byte and noughts. -/
def tid (t : UInt8) : ByteArray := ⟨(t :: List.replicate 31 (0 : UInt8)).toArray⟩
theorem tid_size (t : UInt8) : (tid t).size = 32 := rfl
theorem idc_tid (t : UInt8) : idc (tid t) = #[.int .u8 (t.toNat : Int), .int .u8 0, .int .u8 0, .int .u8 0, .int .u8 0, .int .u8 0, .int .u8 0, .int .u8 0, .int .u8 0, .int .u8 0, .int .u8 0, .int .u8 0, .int .u8 0, .int .u8 0, .int .u8 0, .int .u8 0, .int .u8 0, .int .u8 0, .int .u8 0, .int .u8 0, .int .u8 0, .int .u8 0, .int .u8 0, .int .u8 0, .int .u8 0, .int .u8 0, .int .u8 0, .int .u8 0, .int .u8 0, .int .u8 0, .int .u8 0, .int .u8 0] := rfl
theorem built_tid (n : Int) : Try.prog.built 30 [(0, .int .u8 n)] = some #[.int .u8 n, .int .u8 0, .int .u8 0, .int .u8 0, .int .u8 0, .int .u8 0, .int .u8 0, .int .u8 0, .int .u8 0, .int .u8 0, .int .u8 0, .int .u8 0, .int .u8 0, .int .u8 0, .int .u8 0, .int .u8 0, .int .u8 0, .int .u8 0, .int .u8 0, .int .u8 0, .int .u8 0, .int .u8 0, .int .u8 0, .int .u8 0, .int .u8 0, .int .u8 0, .int .u8 0, .int .u8 0, .int .u8 0, .int .u8 0, .int .u8 0, .int .u8 0] := by kernel_rfl
theorem build_tid (t : UInt8) (w : World) : (Instr.build 30 #[(0, .int .u8 (t.toNat : Int))]).run Try.prog w = .ok (.agg (idc (tid t))) w := by
  rw [idc_tid]
  exact run_build w _ _ _ (built_tid _)
/-- Built, and opened. -/
theorem BdX.ix {s : ByteArray} {l : List Xe} {R : ByteArray} (h : BdX s l R) (hs : s.size = 32) (h0 : bE l = 0) : ∃ L, L.Perm l ∧ IsIx R s L := by
  obtain ⟨L, h1, h2, h3⟩ := h.2 h0
  exact ⟨L, h1, hs, h2, by rw [h3]; rfl⟩
theorem IsIx.one {R s s' : ByteArray} {l l' : List Xe} (h : IsIx R s l) (h' : IsIx R s' l') : s = s' ∧ l = l' := by
  have h1 := h.take
  have h2 := h'.take
  exact ⟨h1.1.symm.trans h2.1, h1.2.symm.trans h2.2⟩
theorem OpS.yes {S s : ByteArray} {l : List Xe} {e : Ending} {w : World} (h : OpS S e w) (hi : IsIx S s l) : ∃ g, e = .returned (.tuple #[.pointer (some ⟨g, 0, none⟩), .int .i64 0]) ∧ IxS w g s l := by
  rcases h with ⟨_, h2⟩ | ⟨g, s', l', h1, h2, h3⟩
  · exact absurd hi (h2 s l)
  · obtain ⟨rfl, rfl⟩ := hi.one h2
    exact ⟨g, h1, h3⟩
/-- Awake's entry. -/
def awX : Xe := ⟨tid 7, 1, 4, 2⟩
theorem awX_gd : GdX [awX] := ⟨fun e he => by rw [List.mem_singleton.1 he]; decide, by simp [Aprt], by simp⟩
theorem awX_list {L : List Xe} (h : L.Perm [awX]) : L = [awX] := List.perm_singleton.1 h
theorem build_awX (w : World) : (Instr.build 38 #[(0, .agg (idc (tid 7))), (1, .int .u8 1), (2, .int .i64 4), (3, .int .i64 2)]).run Try.prog w = .ok (.agg (xeC awX)) w := build_xe awX rfl w
theorem isIx_le {S s : ByteArray} {l : List Xe} (h : IsIx S s l) : S.size ≤ 4611686018427387904 := by have := isIx_size h; omega
set_option maxHeartbeats 4000000 in
set_option maxRecDepth 100000 in
theorem awake13 (w : World) : Calls Try.prog 6 #[] w fun e w' => e = .returned (.bool true) ∧ Below w.heap.size w w' := by
  obtain ⟨D7, hD7⟩ : ∃ D, idc (tid 7) = D := ⟨_, rfl⟩
  obtain ⟨D1, hD1⟩ : ∃ D, idc (tid 1) = D := ⟨_, rfl⟩
  obtain ⟨X, hX⟩ : ∃ X, xeC awX = X := ⟨_, rfl⟩
  have e1 : ∀ w, (Instr.build 30 #[(0, .int .u8 7)]).run Try.prog w = .ok (.agg D7) w := fun w => by rw [← hD7]; exact build_tid 7 w
  have e2 : ∀ w, (Instr.build 30 #[(0, .int .u8 1)]).run Try.prog w = .ok (.agg D1) w := fun w => by rw [← hD1]; exact build_tid 1 w
  have e3 : ∀ w, (Instr.build 38 #[(0, .agg D7), (1, .int .u8 1), (2, .int .i64 4), (3, .int .i64 2)]).run Try.prog w = .ok (.agg X) w := fun w => by rw [← hD7, ← hX]; exact build_awX w
  have HSL : Hid (∀ w, (Instr.buildSlice 24 1 #[(0, .agg X)]).run Try.prog w = .ok (.slice (some ⟨w.heap.size, 0, none⟩) 1 1) (w.alloc (.cells X 38))) := by rw [← hX]; exact slice_xe awX rfl
  have HI : Hid ((Try.prog.info? 30).map (·.size) = some D7.size ∧ D7.all (·.oneCell') = true ∧ D7.size = 32) := by rw [← hD7]; exact ⟨info_32 (by rw [idc_size, tid_size]), idc_allX _, by rw [idc_size, tid_size]⟩
  have HIX : Hid ((Try.prog.info? 38).map (·.size) = some X.size ∧ X.all (·.oneCell') = true ∧ X.size = 35) := by rw [← hX]; exact ⟨info_xe (xeC_size awX rfl), xeC_all _, xeC_size awX rfl⟩
  have HBD : Hid (∀ W : World, Calls Try.prog 5 #[.agg D1, .slice (some ⟨W.heap.size, 0, none⟩) 1 1] (W.alloc (.cells X 38)) fun e w' => ∃ R, e = .returned (.tuple #[.string R, .int .i64 0]) ∧ IsIx R (tid 1) [awX] ∧ Below W.heap.size W w') := fun W => by
    rw [← hD1, ← hX]
    have hxl : XeL (W.alloc (.cells (xeC awX) 38)) (some ⟨W.heap.size, 0, none⟩) [awX] := fun i e he => by
      have hb := bk_new W (xeC awX) 38
      have hi : i = 0 := by have := (List.getElem?_eq_some_iff.1 he).1; simp at this; exact this
      subst hi
      simp at he
      subst he
      exact ⟨rfl, W.heap.size, 0, rfl, hb.lt, fun j v hv => by rw [hb.cell]; simpa using hv⟩
    refine (ibuild_any sort_none (tid 1) [awX] _ 1 1 _ (tid_size 1) hxl rfl (.inr ⟨_, _, rfl⟩) (by omega)).mono ?_
    rintro e w' ⟨R, h1, h2, h3⟩
    obtain ⟨L, h4, h5⟩ := h2.ix (tid_size 1) awX_gd.bE
    rw [awX_list h4] at h5
    refine ⟨R, by rw [h1, awX_gd.bE], h5, ((Below.refl _ _).alloc (Nat.le_refl _) _).trans (h3.mono (by rw [al_size]; omega))⟩
  have HFD : Hid (∀ (g : Nat) (W : World), IxS W g (tid 1) [awX] → Calls Try.prog 10 #[.pointer (some ⟨g, 0, none⟩), .agg D7] W fun r w' => r = .returned (.tuple #[.agg X, .int .i64 0]) ∧ Below W.heap.size W w') := fun g W hW => by
    have hf : fnd [awX] (tid 7) = some awX := fnd_mem (l := [awX]) (e := awX) (by simp [Aprt]) List.mem_cons_self
    have := find_any g (tid 1) (tid 7) [awX] W hW (by simp [Rise]) rfl (by simp)
    rw [hf, hD7] at this
    rw [← hX]
    exact this
  have HX33 : Hid (X[33]? = some (.int .i64 4)) := by rw [← hX]; exact (xeC_at awX rfl).2.1
  have hz := zero_id
  have B0 : Hid (Bk (w.alloc (.cells D7 30)) w.heap.size D7 30 ∧ Below w.heap.size w (w.alloc (.cells D7 30))) := ⟨bk_new _ _ _, (Below.refl _ _).alloc (Nat.le_refl _) _⟩
  clear hD7 hD1 hX
  go_enter Try.func6, Try.ntmps6
  go_wp2_with (first
    | (refine wpList_bdX1 rfl 30 0 (.const (.int .u8 7)) rfl (.int .u8 7) (.agg D7) rfl (e1 _) ?_)
    | (refine wpList_bdX1 rfl 30 0 (.const (.int .u8 1)) rfl (.int .u8 1) (.agg D1) rfl (e2 _) ?_)
    | (refine wpList_store_new rfl 30 (.tmp 1) (.tmp 8) rfl D7 _ 30 w.heap.size rfl rfl rfl HI.out.1 (by rw [HI.out.2.2]; rfl) HI.out.2.1 ?_)
    | (refine wpList_get rfl 30 (.tmp 1) rfl w.heap.size 0 D7 D7 30 _ rfl B0.out.1 (fun j v hv => by rw [Nat.zero_add]; exact hv) Try.underlying30 rfl HI.out.1 ?_)
    | (refine wpList_bdX4 rfl 38 (.tmp 11) (.const (.int .u8 1)) (.const (.int .i64 4)) (.const (.int .i64 2)) rfl (.agg D7) (.int .u8 1) (.int .i64 4) (.int .i64 2) (.agg X) rfl rfl rfl rfl (e3 _) ?_)
    | (refine wpList_bsX rfl 24 (.tmp 12) rfl (.agg X) (.slice (some ⟨(w.alloc (.cells D7 30)).heap.size, 0, none⟩) 1 1) ((w.alloc (.cells D7 30)).alloc (.cells X 38)) rfl (HSL.out _) ?_)
    | fail)
  have HB2 := HBD.out (w.alloc (.cells D7 30))
  rw [al_size] at HB2
  refine HB2.mono ?_
  rintro e w2 ⟨R, rfl, hI, hb2⟩
  have hb2' : Below (w.alloc (.cells D7 30)).heap.size (w.alloc (.cells D7 30)) w2 := by rw [al_size]; exact hb2
  have H2 : Hid (Bk w2 w.heap.size D7 30 ∧ Below w.heap.size w w2 ∧ IsIx R (tid 1) [awX]) := ⟨B0.out.1.below hb2' B0.out.1.lt, B0.out.2.trans (hb2'.mono B0.out.2.size), hI⟩
  clear HB2 hI hb2 hb2' HBD B0
  go_wp2_with fail
  refine (open_any R w2 (isIx_le H2.out.2.2)).mono ?_
  rintro e w3 ⟨hO, hb3⟩
  obtain ⟨g, rfl, hI3⟩ := hO.yes H2.out.2.2
  have H3 : Hid (Bk w3 w.heap.size D7 30 ∧ Below w.heap.size w w3 ∧ IxS w3 g (tid 1) [awX]) := ⟨H2.out.1.below hb3 H2.out.1.lt, H2.out.2.1.trans (hb3.mono H2.out.2.1.size), hI3⟩
  clear hO hb3 hI3 H2
  go_wp2_with (first
    | (refine wpList_get rfl 30 (.tmp 1) rfl w.heap.size 0 D7 D7 30 _ rfl H3.out.1 (fun j v hv => by rw [Nat.zero_add]; exact hv) Try.underlying30 rfl HI.out.1 ?_)
    | fail)
  refine (HFD.out g w3 H3.out.2.2).mono ?_
  rintro e w4 ⟨rfl, hb4⟩
  have H4 : Hid (Below w.heap.size w (w4.alloc (.cells X 38)) ∧ IxS (w4.alloc (.cells X 38)) g (tid 1) [awX]) := by
    have q := (Below.refl w4.heap.size w4).alloc (Nat.le_refl _) (.cells X 38)
    have q2 := H3.out.2.1.trans (hb4.mono H3.out.2.1.size)
    exact ⟨q2.trans (q.mono q2.size), (H3.out.2.2.below hb4).below q⟩
  have hc : (w4.alloc (.cells X 38)).cell? ⟨w4.heap.size, 33, none⟩ = some (.int .i64 4) := by rw [(bk_new w4 X 38).cell]; exact HX33.out
  clear hb4 H3 HX33
  go_wp2_with (first
    | (refine wpList_store_new rfl 38 (.tmp 6) (.tmp 26) rfl X _ 38 w4.heap.size rfl rfl rfl HIX.out.1 (by rw [HIX.out.2.2]; rfl) HIX.out.2.1 ?_)
    | (go_at_call 8; refine (ilen_any g (tid 1) [awX] _ H4.out.2).mono ?_; rintro e w5 ⟨rfl, hw5⟩; obtain rfl := hw5.symm)
    | fail)
  go_ret
  exact ⟨rfl, H4.out.1⟩
end Go.Proofs.Ytbdkacfpeokggaa
/- idx.Index: At, Pack. -/
namespace Go.Proofs.Ytbdkacfpeokggaa
open Go.RowKit
set_option linter.unusedSimpArgs false
set_option linter.unusedVariables false
set_option maxHeartbeats 1000000 in
set_option maxRecDepth 100000 in
theorem pack_any (g : Nat) (s : ByteArray) (l : List Xe) (w : World) (h : IxS w g s l) : Calls Try.prog 9 #[.pointer (some ⟨g, 0, none⟩)] w fun e w' => e = .returned (.agg (idc s)) ∧ Below w.heap.size w w' := by
  obtain ⟨a, n, c, hB, hX, hl, hc, hA⟩ := h.row
  have hs := h.id
  obtain ⟨D, hD⟩ : ∃ D, idc s = D := ⟨_, rfl⟩
  obtain ⟨Z, hZ⟩ : ∃ Z, ixC s (fanL l) (.slice a n c) = Z := ⟨_, rfl⟩
  have HI : Hid ((Try.prog.info? 30).map (·.size) = some D.size ∧ D.all (·.oneCell') = true ∧ D.size = 32) := by rw [← hD]; exact ⟨info_32 (by rw [idc_size, hs]), idc_allX s, by rw [idc_size, hs]⟩
  have HZ : Hid (∀ j v, D[j]? = some v → Z[0 + j]? = some v) := fun j v hv => by rw [← hZ]; exact ixC_id s _ _ hs j v (by rw [hD]; exact hv)
  rw [hZ] at hB
  rw [hD]
  have H1 : Hid (Bk (w.alloc (.cells z32c 30)) g Z 63 ∧ Bk (w.alloc (.cells z32c 30)) w.heap.size z32c 30 ∧ Below w.heap.size w (w.alloc (.cells z32c 30))) := ⟨hB.alloc _, bk_new _ _ _, (Below.refl _ _).alloc (Nat.le_refl _) _⟩
  have hz := zero_id
  clear h hB hX hl hc hA hs hD hZ
  go_enter Try.func9, Try.ntmps9
  go_wp2_with (first
    | (refine wpList_get rfl 30 (.tmp 8) rfl g 0 Z D 63 _ rfl H1.out.1 HZ.out Try.underlying30 rfl HI.out.1 ?_)
    | (refine wpList_stoX rfl 30 (.tmp 2) (.tmp 9) rfl w.heap.size D z32c 30 rfl rfl H1.out.2.1 HI.out.1 (by rw [HI.out.2.2]; exact z32c_size) HI.out.2.1 ?_; intro w7 HB7 HG7)
    | fail)
  refine bodyPost_ret (results_cell_row rfl _ _ w.heap.size 30 D (0, 0) _ rfl HB7.out Try.underlying30 rfl HI.out.1) rfl ⟨rfl, ?_⟩
  exact below_own H1.out.2.2 H1.out.2.2.size HG7.out (Nat.le_refl _)
set_option maxHeartbeats 4000000 in
set_option maxRecDepth 100000 in
theorem at_yes (g : Nat) (s : ByteArray) (l : List Xe) (i : Nat) (e : Xe) (w : World) (h : IxS w g s l) (he : l[i]? = some e) (hn : l.length ≤ 65536) : Calls Try.prog 12 #[.pointer (some ⟨g, 0, none⟩), .int .i64 (i : Int)] w fun r w' => r = .returned (.tuple #[.agg (xeC e), .int .i64 0]) ∧ Below w.heap.size w w' := by
  obtain ⟨a, n, c, hB, hX, hl, hc, hA⟩ := h.row
  have hin : i < n := by rw [← hl]; exact (List.getElem?_eq_some_iff.1 he).1
  have hiz : (i : Int) < (n : Nat) := by omega
  have hi0 : (0 : Int) ≤ i := by omega
  have hi1 : ¬ (i : Int) < 0 := by omega
  have hi2 : ¬ (n : Int) ≤ i := by omega
  obtain ⟨ga, oa, rfl, hga, h32, hcells⟩ := hX.get he
  have hrow : ∀ W, Below w.heap.size w W → W.cell? ⟨g, 288, none⟩ = some (.slice (some ⟨ga, oa, none⟩) n c) := fun W hW => by
    rw [(hB.below hW hB.lt).cell]; exact ixC_row s _ _ h.id
  have hz : ∀ w, (zeroValue 38).run Try.prog w = .ok (.agg z35X) w := Try.zeroValue38
  obtain ⟨X, hXe⟩ : ∃ X, xeC e = X := ⟨_, rfl⟩
  have HIX : Hid ((Try.prog.info? 38).map (·.size) = some X.toList.length ∧ X.all (·.oneCell') = true ∧ X.size = 35) := by rw [← hXe]; exact ⟨by rw [inf_xe35, Array.length_toList, xeC_size e h32], xeC_all e, xeC_size e h32⟩
  have hb1 : Below w.heap.size w (w.alloc (.cells z35X 38)) := (Below.refl _ _).alloc (Nat.le_refl _) _
  have hrow1 := hrow _ hb1
  have HB1 : Hid (Bk (w.alloc (.cells z35X 38)) w.heap.size z35X 38 ∧ Below w.heap.size w (w.alloc (.cells z35X 38))) := ⟨bk_new _ _ _, hb1⟩
  have HCE : Hid (∀ j v, X[j]? = some v → (w.alloc (.cells z35X 38)).cell? ⟨ga, oa + i * 35 + j, none⟩ = some v) := fun j v hv => by
    rw [hb1.cell hga]; exact hcells j v (by rw [hXe]; exact hv)
  rw [hXe]
  clear h hB hX hl hc hA hcells hrow hb1 hXe he h32
  go_enter Try.func12, Try.ntmps12
  go_wp2_with (first
    | (refine wpList_load_mid rfl 38 (.tmp 26) rfl ga (oa + i * 35) rfl X.toList _ (fun j v hv => HCE.out j v (by rwa [Array.getElem?_toList] at hv)) Try.underlying38 rfl HIX.out.1 ?_)
    | (refine wpList_stoX rfl 38 (.tmp 4) (.tmp 27) rfl w.heap.size X z35X 38 rfl rfl HB1.out.1 (info_xe HIX.out.2.2) (by rw [HIX.out.2.2]; rfl) HIX.out.2.1 ?_; intro w7 HB7 HG7)
    | fail)
  refine bodyPost_ret (results_cell_tmp_row rfl _ _ w.heap.size 38 X (0, 0) _ rfl HB7.out Try.underlying38 rfl (info_xe HIX.out.2.2)) rfl ⟨rfl, ?_⟩
  exact below_own HB1.out.2 HB1.out.2.size HG7.out (Nat.le_refl _)
end Go.Proofs.Ytbdkacfpeokggaa
/- Two entries compared. -/
namespace Go.Proofs.Ytbdkacfpeokggaa
open Go.RowKit
set_option linter.unusedSimpArgs false
set_option linter.unusedVariables false
theorem eqItems_idsQ (d : Nat) (a b : ByteArray) (ha : a.size = 32) (hb : b.size = 32) (w : World) : ∀ is : List Nat, (∀ i ∈ is, i < 32) →
    (Op.eqItems (d + 1) 5 1 (idc a) (idc b) is).run Try.prog w = .ok (is.all fun i => (byl a).getD i 0 == (byl b).getD i 0) w
  | [], _ => by simp [Op.eqItems]
  | i :: is, h => by
    have hi : i < 32 := h i (List.mem_cons_self ..)
    have ih := eqItems_idsQ d a b ha hb w is (fun j hj => h j (List.mem_cons_of_mem _ hj))
    have e1 : (byl a).getD i 0 = a[i].toNat := by rw [List.getD, byl_getD a i (by omega)]; rfl
    have e2 : (byl b).getD i 0 = b[i].toNat := by rw [List.getD, byl_getD b i (by omega)]; rfl
    have e3 := run_equalIn_int (P := Try.prog) w d 5 .u8 .u8 (a[i].toNat : Int) (b[i].toNat : Int) Try.underlying5
    simp only [Op.eqItems, Sem.run_bind, Nat.mul_one, part_id a i (by omega), part_id b i (by omega), Result.andThen_ok, e3, List.all_cons, e1, e2]
    by_cases e : a[i].toNat = b[i].toNat
    · have e4 : ((a[i].toNat : Int) == (b[i].toNat : Int)) = true := by rw [e]; simp
      simp only [e4, Bool.not_true, Bool.false_eq_true, if_false, ih, e, beq_self_eq_true, Bool.true_and]
    · have e4 : ((a[i].toNat : Int) == (b[i].toNat : Int)) = false := by rw [beq_eq_false_iff_ne]; omega
      have e5 : (a[i].toNat == b[i].toNat) = false := by rw [beq_eq_false_iff_ne]; exact e
      simp only [e4, Bool.not_false, if_true, Sem.run_pure, e5, Bool.false_and]
theorem equalIn_idsQ (d : Nat) (a b : ByteArray) (ha : a.size = 32) (hb : b.size = 32) (w : World) : (Op.equalIn (d + 2) 30 (.agg (idc a)) (.agg (idc b))).run Try.prog w = .ok (decide (a = b)) w := by
  have hc : Try.prog.cellsOf 5 = 1 := by kernel_rfl
  obtain ⟨i0, hi⟩ := info_of_underlying Try.underlying5
  have hu : Try.prog.underlying 30 = some (.array 32 5) := Try.underlying30
  rw [run_equalIn_array w (d + 1) (idc a) (idc b) hu hi, hc, eqItems_idsQ d a b ha hb w _ (fun i hi => by simpa using hi), ids_all a b ha hb]
/-- Whether two entries are the same. -/
def xeQ (e f : Xe) : Bool := decide (e.id = f.id) && (((e.k.toNat : Int) == (f.k.toNat : Int)) && (((e.off : Int) == (f.off : Int)) && ((e.sz : Int) == (f.sz : Int))))
theorem xeQ_self (e : Xe) : xeQ e e = true := by simp [xeQ]
theorem xeQ_iff (e f : Xe) : xeQ e f = true ↔ e = f := by
  constructor
  · intro h
    simp only [xeQ, Bool.and_eq_true, decide_eq_true_eq, beq_iff_eq] at h
    obtain ⟨h1, h2, h3, h4⟩ := h
    obtain ⟨a, b, c, d⟩ := e
    obtain ⟨a', b', c', d'⟩ := f
    simp only at h1 h2 h3 h4
    subst h1
    have h2' : b = b' := UInt8.toNat.inj (by omega)
    subst h2'
    have h3' : c = c' := by omega
    have h4' : d = d' := by omega
    subst h3' h4'
    rfl
  · rintro rfl; exact xeQ_self e
theorem part_idQ (e : Xe) (h : e.id.size = 32) (w : World) : (part 30 (xeC e) 0).run Try.prog w = .ok (.agg (idc e.id)) w := by
  have ha : (isAgg 30).run Try.prog w = .ok true w := by kernel_rfl
  have hs : (sizeOf 30).run Try.prog w = .ok 32 w := by kernel_rfl
  have hx : (xeC e).extract 0 32 = idc e.id := by
    apply Array.ext'
    rw [Array.toList_extract, xeC]
    have hl : (idc e.id).toList.length = 32 := by rw [Array.length_toList, idc_size, h]
    simp only [List.extract_eq_take_drop, List.drop_zero, Nat.sub_zero]
    rw [List.take_append_of_le_length (by omega), List.take_of_length_le (by omega)]
  simp [part, ha, hs, hx]
theorem part_cellQ {t : TypeId} (C : Array Value) (j : Nat) (v : Value) (w : World) (ha : (isAgg t).run Try.prog w = .ok false w) (h : C[j]? = some v) : (part t C j).run Try.prog w = .ok v w := by
  simp [part, ha, h]
set_option maxRecDepth 100000 in
theorem equalIn_xe (e f : Xe) (he : e.id.size = 32) (hf : f.id.size = 32) (w : World) : (Op.equalIn 10000 38 (.agg (xeC e)) (.agg (xeC f))).run Try.prog w = .ok (xeQ e f) w := by
  have hu : Try.prog.underlying 38 = some (.struct (Try.prog.fieldsOf 38)) := by kernel_rfl
  have hst : Try.prog.stoodInHeld 38 = false := by kernel_rfl
  have hfs : (Try.prog.fieldsOf 38).toList.map (fun q => (q.name != "_", q.type, q.offset)) = [(true, 30, 0), (true, 5, 32), (true, 3, 33), (true, 3, 34)] := by kernel_rfl
  rw [run_equalIn_struct w 9999 38 (xeC e) (xeC f) hu hst]
  generalize (Try.prog.fieldsOf 38).toList = fs at hfs
  have hlen : fs.length = 4 := by have := congrArg List.length hfs; simpa using this
  match fs, hlen, hfs with
  | [f0, f1, f2, f3], _, hfs =>
    simp only [List.map_cons, List.map_nil, List.cons.injEq, Prod.mk.injEq, and_true, bne_iff_ne] at hfs
    obtain ⟨⟨n0, t0, o0⟩, ⟨n1, t1, o1⟩, ⟨n2, t2, o2⟩, n3, t3, o3⟩ := hfs
    obtain ⟨a1, a2, a3⟩ := xeC_at e he
    obtain ⟨b1, b2, b3⟩ := xeC_at f hf
    have u8a : (isAgg 5).run Try.prog w = .ok false w := by kernel_rfl
    have i64a : (isAgg 3).run Try.prog w = .ok false w := by kernel_rfl
    have q0 := equalIn_idsQ 9997 e.id f.id he hf w
    have q1 := run_equalIn_int (P := Try.prog) w 9998 5 .u8 .u8 (e.k.toNat : Int) (f.k.toNat : Int) Try.underlying5
    have q2 := run_equalIn_int (P := Try.prog) w 9998 3 .i64 .i64 (e.off : Int) (f.off : Int) Try.underlying3
    have q3 := run_equalIn_int (P := Try.prog) w 9998 3 .i64 .i64 (e.sz : Int) (f.sz : Int) Try.underlying3
    simp only [Op.eqFields, n0, n1, n2, n3, t0, t1, t2, t3, o0, o1, o2, o3, ne_eq, not_false_eq_true, if_true, Sem.run_bind, part_idQ e he, part_idQ f hf, part_cellQ _ _ _ w u8a a1, part_cellQ _ _ _ w u8a b1, part_cellQ _ _ _ w i64a a2, part_cellQ _ _ _ w i64a b2, part_cellQ _ _ _ w i64a a3, part_cellQ _ _ _ w i64a b3, Result.andThen_ok]
    rw [q0, Result.andThen_ok, xeQ]
    cases decide (e.id = f.id) with
    | false => rfl
    | true =>
      simp only [Bool.not_true, Bool.false_eq_true, if_false, Bool.true_and, Sem.run_bind, part_cellQ _ _ _ w u8a a1, part_cellQ _ _ _ w u8a b1, Result.andThen_ok, q1]
      cases ((e.k.toNat : Int) == (f.k.toNat : Int)) with
      | false => rfl
      | true =>
        simp only [Bool.not_true, Bool.false_eq_true, if_false, Bool.true_and, Sem.run_bind, part_cellQ _ _ _ w i64a a2, part_cellQ _ _ _ w i64a b2, Result.andThen_ok, q2]
        cases ((e.off : Int) == (f.off : Int)) with
        | false => rfl
        | true =>
          simp only [Bool.not_true, Bool.false_eq_true, if_false, Bool.true_and, Sem.run_bind, part_cellQ _ _ _ w i64a a3, part_cellQ _ _ _ w i64a b3, Result.andThen_ok, q3]
          cases ((e.sz : Int) == (f.sz : Int)) with
          | false => rfl
          | true => rfl
theorem neq_xe (e f : Xe) (he : e.id.size = 32) (hf : f.id.size = 32) (w : World) : (binOp .neq 38 (.agg (xeC e)) (.agg (xeC f))).run Try.prog w = .ok (.bool (!xeQ e f)) w := by
  rw [run_neq_struct, equalIn_xe e f he hf]; rfl
end Go.Proofs.Ytbdkacfpeokggaa
/- A slice of structs that came in, opened at an index: plain laws on readings, over any program. -/
namespace Go.Proofs.Ytbdkacfpeokggaa
open Go.ChangeShapes Go.WideShapes Go.ChangeAt Go.RowKit
set_option linter.unusedSimpArgs false
set_option linter.unusedVariables false
theorem weightsAll_mem {H : Type} {P : Program} {e : TypeId} : ∀ {l : List (DataW H)} {d : DataW H}, d ∈ l → ∀ n ∈ d.weights P e, n ∈ DataW.weightsAll P e l
  | [], _, h, _, _ => by simp at h
  | x :: l, d, hd, n, hn => by
    simp only [DataW.weightsAll, List.mem_append]
    rcases List.mem_cons.1 hd with rfl | h
    · exact Or.inl hn
    · exact Or.inr (weightsAll_mem h n hn)
theorem open_elem {H : Type} {enc : TypeId × Value → H} {P : Program} {w : World} {t e : TypeId} {d : DataW H} {ps : List MemPlace} {a0 : Option Addr} {len cap : Nat}
    (ht : P.underlying t = some (.slice e)) (hce : 0 < P.cellsOf e) (h : DataW.Trod enc P w 0 (fun _ => true) true t (.slice a0 len cap) d ps) :
    len ≤ maxLen ∧ ∀ i, i < len → ∃ (b off : Nat) (cs : List Value) (D : DataW H) (Pl : List MemPlace) (n : Nat), a0 = some ⟨b, off, none⟩ ∧ b < w.heap.size ∧ cs.length = P.cellsOf e ∧
      (∀ j, j < P.cellsOf e → w.cell? ⟨b, off + i * P.cellsOf e + j, none⟩ = cs[j]?) ∧ DataW.trod enc P w 0 (fun _ => true) true n e cs = some (D, Pl) ∧ ∀ q ∈ D.weights P e, q ∈ d.weights P t := by
  obtain ⟨fuel, hf⟩ := h
  have hcs : (Value.slice a0 len cap).cells.toList = [.slice a0 len cap] := by simp [Value.cells]
  rw [hcs] at hf
  rcases Go.Deep.open_slice ht hf with ⟨h1, _⟩ | ⟨a, l, c, m, n, D, Pl, h1, _, hl, hm, hmm, hx, hi⟩
  · simp only [List.cons.injEq, Value.slice.injEq, and_true] at h1
    obtain ⟨rfl, rfl, rfl⟩ := h1
    exact ⟨by unfold maxLen; omega, fun i hi => by omega⟩
  · simp only [List.cons.injEq, Value.slice.injEq, and_true] at h1
    obtain ⟨rfl, rfl, rfl⟩ := h1
    have hmc : m = cap := by simpa using hmm
    refine ⟨by omega, fun i hil => ?_⟩
    obtain ⟨cs, h2, h3⟩ := hi i (by omega)
    obtain ⟨_, hlen, hcell⟩ := World.cells?_some h2
    obtain ⟨b, off, spot⟩ := a
    have hsp : spot = none := by
      obtain ⟨cs0, k2, _⟩ := hi 0 (by omega)
      obtain ⟨_, klen, kcell⟩ := World.cells?_some k2
      have kc := kcell 0 hce
      rw [Go.Deep.add_add, Nat.zero_mul, Nat.zero_add, show (⟨b, off, spot⟩ : Addr).add 0 = ⟨b, off, spot⟩ from rfl, List.getElem?_eq_getElem (by omega)] at kc
      exact World.cell?_spot kc
    subst hsp
    have hc0 := hcell 0 hce
    rw [Go.Deep.add_add, add_plain, List.getElem?_eq_getElem (by omega)] at hc0
    refine ⟨b, off, cs, D i, Pl i, n, rfl, block_lt_of_cell hc0, hlen, fun j hj => ?_, h3, fun q hq => ?_⟩
    · have := hcell j hj
      rw [Go.Deep.add_add, add_plain, ← Nat.add_assoc] at this
      exact this
    · simp only [Prod.mk.injEq] at hx
      rw [hx.1]
      simp only [DataW.weights, ht, List.mem_cons, List.mem_append]
      exact Or.inr (Or.inl (weightsAll_mem (List.mem_map.2 ⟨i, by simpa using hil, rfl⟩) q hq))
theorem open_cap {H : Type} {enc : TypeId × Value → H} {P : Program} {w : World} {t e : TypeId} {d : DataW H} {ps : List MemPlace} {a0 : Option Addr} {len cap : Nat}
    (ht : P.underlying t = some (.slice e)) (h : DataW.Trod enc P w 0 (fun _ => true) true t (.slice a0 len cap) d ps) : len ≤ cap ∧ cap ≤ maxLen := by
  obtain ⟨fuel, hf⟩ := h
  have hcs : (Value.slice a0 len cap).cells.toList = [.slice a0 len cap] := by simp [Value.cells]
  rw [hcs] at hf
  rcases Go.Deep.open_slice ht hf with ⟨h1, _⟩ | ⟨a, l, c, m, n, D, Pl, h1, _, hl, hm, hmm, hx, hi⟩
  · simp only [List.cons.injEq, Value.slice.injEq, and_true] at h1
    obtain ⟨rfl, rfl, rfl⟩ := h1
    exact ⟨Nat.le_refl _, by unfold maxLen; omega⟩
  · simp only [List.cons.injEq, Value.slice.injEq, and_true] at h1
    obtain ⟨rfl, rfl, rfl⟩ := h1
    have hmc : m = cap := by simpa using hmm
    omega
end Go.Proofs.Ytbdkacfpeokggaa
/- Lists of the document's entries, and of names, that came in, opened. -/
namespace Go.Proofs.Ytbdkacfpeokggaa
open Go.ChangeShapes Go.WideShapes Go.ChangeAt Go.RowKit Go.Joins
set_option linter.unusedSimpArgs false
set_option linter.unusedVariables false
section
variable {H : Type} {enc : TypeId × Value → H} {P : Program} {w : World} {base : Nat} {spare : Nat → Bool} {held : Bool}
theorem trod4x {t : TypeId} {f0 f1 f2 f3 : Field} {fuel : Nat} {cs : List Value} {x : DataW H × List MemPlace} (ht : P.underlying t = some (.struct #[f0, f1, f2, f3])) (h : DataW.trod enc P w base spare held fuel t cs = some x) :
    ∃ y0 y1 y2 y3 n, x.1 = .agg [y0.1, y1.1, y2.1, y3.1] ∧ cs.length = P.cellsOf t ∧ DataW.trod enc P w base spare held n f0.type ((cs.drop f0.offset).take (P.cellsOf f0.type)) = some y0 ∧
      DataW.trod enc P w base spare held n f1.type ((cs.drop f1.offset).take (P.cellsOf f1.type)) = some y1 ∧ DataW.trod enc P w base spare held n f2.type ((cs.drop f2.offset).take (P.cellsOf f2.type)) = some y2 ∧
      DataW.trod enc P w base spare held n f3.type ((cs.drop f3.offset).take (P.cellsOf f3.type)) = some y3 := by
  obtain ⟨xs, n, _, rfl, hl, hlen, hf⟩ := DataW.trod_struct ht h
  match xs, hlen with
  | [y0, y1, y2, y3], _ => exact ⟨y0, y1, y2, y3, n, by simp, hl, by simpa using hf 0 f0 rfl, by simpa using hf 1 f1 rfl, by simpa using hf 2 f2 rfl, by simpa using hf 3 f3 rfl⟩
theorem open_lenx {t e : TypeId} {d : DataW H} {ps : List MemPlace} {a0 : Option Addr} {len cap : Nat} (ht : P.underlying t = some (.slice e)) (h : DataW.Trod enc P w 0 (fun _ => true) true t (.slice a0 len cap) d ps)
    (hsz : ∀ q ∈ d.weights P t, q ≤ reachBytes) : len * P.bytesOf e ≤ reachBytes := by
  obtain ⟨fuel, hf⟩ := h
  have hcs : (Value.slice a0 len cap).cells.toList = [.slice a0 len cap] := by simp [Value.cells]
  rw [hcs] at hf
  rcases Go.Deep.open_slice ht hf with ⟨h1, _⟩ | ⟨a, l, c, m, n, D, Pl, h1, _, hl, hm, hmm, hx, hi⟩
  · simp only [List.cons.injEq, Value.slice.injEq, and_true] at h1
    obtain ⟨rfl, rfl, rfl⟩ := h1
    simp
  · simp only [List.cons.injEq, Value.slice.injEq, and_true] at h1
    obtain ⟨rfl, rfl, rfl⟩ := h1
    simp only [Prod.mk.injEq] at hx
    have := hsz _ (by rw [hx.1]; simp only [DataW.weights, ht]; exact List.mem_cons_self ..)
    refine Nat.le_trans ?_ this
    simp only [List.length_map, List.length_range]
    exact Nat.mul_le_mul_right _ (by omega)
end
theorem u8_valx (a : Int) (h : (Lit.int .u8 a).wf = true) : ∃ x : UInt8, a = (x.toNat : Int) := by
  have h' : 0 ≤ a ∧ a ≤ 255 := by simpa [Lit.wf, IntKind.min, IntKind.max, IntKind.signed, IntKind.bits] using h
  refine ⟨UInt8.ofNat a.toNat, ?_⟩
  simp
  omega
theorem cells_idx (cs : List Value) (hsz : cs.length = 32) (h : ∀ i, i < 32 → ∃ n : Nat, cs[i]? = some (.int .u8 (n : Int)) ∧ n < 256) : ∃ s : ByteArray, s.size = 32 ∧ cs = (idc s).toList := by
  obtain ⟨f, hf⟩ := Go.Deep.choose_lt h
  have hl : ∀ x ∈ (List.range 32).map f, x < 256 := by
    intro x hx
    simp only [List.mem_map, List.mem_range] at hx
    obtain ⟨i, hi, rfl⟩ := hx
    exact (hf i hi).2
  refine ⟨sb ((List.range 32).map f), by rw [sb_size]; simp, ?_⟩
  unfold idc
  rw [byl_sb _ hl]
  apply List.ext_getElem?
  intro i
  by_cases hi : i < 32
  · rw [(hf i hi).1]
    simp [bvc, hi]
  · rw [List.getElem?_eq_none (by omega), List.getElem?_eq_none (by simp [bvc]; omega)]
/-- The cells of a name. -/
theorem trod_idx {H : Type} {enc : TypeId × Value → H} {w : World} {base : Nat} {spare : Nat → Bool} {held : Bool} {fuel : Nat} {cs : List Value} {x : DataW H × List MemPlace}
    (h : DataW.trod enc Try.prog w base spare held fuel 30 cs = some x) : ∃ s : ByteArray, s.size = 32 ∧ cs = (idc s).toList := by
  have hu : Try.prog.underlying 30 = some (.array 32 5) := Try.underlying30
  have hc : Try.prog.cellsOf 5 = 1 := by kernel_rfl
  have hct : Try.prog.cellsOf 30 = 32 := by kernel_rfl
  obtain ⟨xs, m, _, _, hl, hn, hi⟩ := DataW.trod_array hu h
  rw [hct] at hl
  refine cells_idx cs hl (fun i hlt => ?_)
  have := hi i hlt
  rw [hc, Nat.mul_one, List.getElem?_eq_getElem (by omega)] at this
  have e1 : (cs.drop i).take 1 = [cs[i]'(by omega)] := by
    rw [List.drop_eq_getElem_cons (by omega), List.take_succ_cons, List.take_zero]
  rw [e1] at this
  obtain ⟨n, e, _, wn⟩ := DataW.trod_int Try.underlying5 this
  have hb : 0 ≤ n ∧ n ≤ 255 := by simpa [Lit.wf, IntKind.min, IntKind.max, IntKind.signed, IntKind.bits] using wn
  simp at e
  refine ⟨n.toNat, ?_, by omega⟩
  rw [List.getElem?_eq_getElem (by omega), e, show ((n.toNat : Nat) : Int) = n from by omega]
set_option maxRecDepth 100000 in
theorem open_xes {H : Type} {enc : TypeId × Value → H} {w : World} {d : DataW H} {ps : List MemPlace} {a0 : Option Addr} {len cap : Nat}
    (h : DataW.Trod enc Try.prog w 0 (fun _ => true) true 22 (.slice a0 len cap) d ps) (hsz : ∀ q ∈ d.weights Try.prog 22, q ≤ reachBytes) :
    ∃ l, l.length = len ∧ XeL w a0 l ∧ (len + 1) * 56 ≤ 140737488355328 ∧ ∀ e ∈ l, -9223372036854775808 ≤ e.off ∧ e.off ≤ 9223372036854775807 ∧ -9223372036854775808 ≤ e.sz ∧ e.sz ≤ 9223372036854775807 := by
  have ce : Try.prog.cellsOf 48 = 35 := by kernel_rfl
  have be : Try.prog.bytesOf 48 = 56 := by kernel_rfl
  have c9 : Try.prog.cellsOf 3 = 1 := by kernel_rfl
  have c5 : Try.prog.cellsOf 5 = 1 := by kernel_rfl
  have c32 : Try.prog.cellsOf 30 = 32 := by kernel_rfl
  have hl := open_lenx Try.underlying22 h hsz
  rw [be] at hl
  unfold reachBytes at hl
  obtain ⟨_, hall⟩ := open_elem Try.underlying22 (by rw [ce]; omega) h
  have one : ∀ i, i < len → ∃ x : Xe, (x.id.size = 32 ∧ ∃ g o, a0 = some ⟨g, o, none⟩ ∧ g < w.heap.size ∧ ∀ j v, (xeC x)[j]? = some v → w.cell? ⟨g, o + i * 35 + j, none⟩ = some v) ∧ -9223372036854775808 ≤ x.off ∧ x.off ≤ 9223372036854775807 ∧ -9223372036854775808 ≤ x.sz ∧ x.sz ≤ 9223372036854775807 := by
    intro i hi
    obtain ⟨b, off, cs, D, Pl, n, ha, hb, hlen, hcell, htrod, hw⟩ := hall i hi
    rw [ce] at hlen hcell
    obtain ⟨y0, y1, y2, y3, m, hx, _, t0, t1, t2, t3⟩ := trod4x Try.underlying48 htrod
    simp only [c9, c5, c32] at t0 t1 t2 t3
    obtain ⟨s, hs, e0⟩ := trod_idx t0
    obtain ⟨k1, e1, _, w1⟩ := DataW.trod_int Try.underlying5 t1
    obtain ⟨k2, e2, _, w2⟩ := DataW.trod_int Try.underlying3 t2
    obtain ⟨k3, e3, _, w3⟩ := DataW.trod_int Try.underlying3 t3
    obtain ⟨kk, rfl⟩ := u8_valx k1 w1
    have b2 : -9223372036854775808 ≤ k2 ∧ k2 ≤ 9223372036854775807 := by simpa [Lit.wf, IntKind.min, IntKind.max, IntKind.signed, IntKind.bits] using w2
    have b3 : -9223372036854775808 ≤ k3 ∧ k3 ≤ 9223372036854775807 := by simpa [Lit.wf, IntKind.min, IntKind.max, IntKind.signed, IntKind.bits] using w3
    have hcs : cs = (xeC ⟨s, kk, k2, k3⟩).toList := by
      have q : cs = (cs.take 32) ++ ((cs.drop 32).take 1 ++ ((cs.drop 33).take 1 ++ (cs.drop 34).take 1)) := by
        have r1 : (cs.drop 34).take 1 = cs.drop 34 := List.take_of_length_le (by rw [List.length_drop]; omega)
        rw [r1]
        conv => lhs; rw [← List.take_append_drop 32 cs]
        congr 1
        conv => lhs; rw [← List.take_append_drop 1 (cs.drop 32), List.drop_drop]
        congr 1
        conv => lhs; rw [← List.take_append_drop 1 (cs.drop 33), List.drop_drop]
      refine q.trans ?_
      rw [e1, e2, e3]
      have e0' : cs.take 32 = (idc s).toList := by simpa using e0
      rw [e0']
      simp [xeC]
    exact ⟨⟨s, kk, k2, k3⟩, ⟨hs, b, off, ha, hb, fun j v hv => by
      have hj : j < 35 := by
        have := (Array.getElem?_eq_some_iff.1 hv).1
        rw [xeC_size _ hs] at this
        exact this
      rw [hcell j hj, hcs, Array.getElem?_toList, hv]⟩, b2.1, b2.2, b3.1, b3.2⟩
  haveI : Inhabited Xe := ⟨⟨⟨#[]⟩, 0, 0, 0⟩⟩
  obtain ⟨q, hq⟩ := Go.Deep.choose_lt one
  refine ⟨(List.range len).map q, by simp, fun i x hx => ?_, by omega, fun e he => ?_⟩
  · rw [List.getElem?_map] at hx
    obtain ⟨j, hj, rfl⟩ := Option.map_eq_some_iff.1 hx
    have hi : i < len := by have := (List.getElem?_eq_some_iff.1 hj).1; simpa using this
    have : j = i := by rw [List.getElem?_range hi] at hj; cases hj; rfl
    subst this
    exact (hq j hi).1
  · obtain ⟨j, hj, rfl⟩ := List.mem_map.1 he
    exact (hq j (List.mem_range.1 hj)).2
/-- Names of a slice. -/
def NmL (w : World) (a : Option Addr) (l : List ByteArray) : Prop := ∀ i s, l[i]? = some s → s.size = 32 ∧ ∃ g o, a = some ⟨g, o, none⟩ ∧ g < w.heap.size ∧ ∀ j v, (idc s)[j]? = some v → w.cell? ⟨g, o + i * 32 + j, none⟩ = some v
theorem NmL.below {w w' : World} {a : Option Addr} {l : List ByteArray} (h : NmL w a l) (hb : Below w.heap.size w w') : NmL w' a l := fun i s hs => by
  obtain ⟨h1, g, o, h2, h3, h4⟩ := h i s hs
  exact ⟨h1, g, o, h2, Nat.lt_of_lt_of_le h3 hb.size, fun j v hv => by rw [hb.cell h3]; exact h4 j v hv⟩
theorem open_nms {H : Type} {enc : TypeId × Value → H} {w : World} {d : DataW H} {ps : List MemPlace} {a0 : Option Addr} {len cap : Nat}
    (h : DataW.Trod enc Try.prog w 0 (fun _ => true) true 23 (.slice a0 len cap) d ps) :
    ∃ l, l.length = len ∧ NmL w a0 l ∧ len ≤ maxLen := by
  have ce : Try.prog.cellsOf 30 = 32 := by kernel_rfl
  obtain ⟨hl, hall⟩ := open_elem Try.underlying23 (by rw [ce]; omega) h
  have one : ∀ i, i < len → ∃ x : ByteArray, x.size = 32 ∧ ∃ g o, a0 = some ⟨g, o, none⟩ ∧ g < w.heap.size ∧ ∀ j v, (idc x)[j]? = some v → w.cell? ⟨g, o + i * 32 + j, none⟩ = some v := by
    intro i hi
    obtain ⟨b, off, cs, D, Pl, n, ha, hb, hlen, hcell, htrod, hw⟩ := hall i hi
    rw [ce] at hlen hcell
    obtain ⟨s, hs, rfl⟩ := trod_idx htrod
    exact ⟨s, hs, b, off, ha, hb, fun j v hv => by
      have hj : j < 32 := by
        have := (Array.getElem?_eq_some_iff.1 hv).1
        rw [idc_size, hs] at this
        exact this
      rw [hcell j hj, Array.getElem?_toList, hv]⟩
  haveI : Inhabited ByteArray := ⟨⟨#[]⟩⟩
  obtain ⟨q, hq⟩ := Go.Deep.choose_lt one
  refine ⟨(List.range len).map q, by simp, fun i x hx => ?_, hl⟩
  rw [List.getElem?_map] at hx
  obtain ⟨j, hj, rfl⟩ := Option.map_eq_some_iff.1 hx
  have hi : i < len := by have := (List.getElem?_eq_some_iff.1 hj).1; simpa using this
  have : j = i := by rw [List.getElem?_range hi] at hj; cases hj; rfl
  subst this
  exact hq j hi
end Go.Proofs.Ytbdkacfpeokggaa
/- IdxFinds: what it holds, and plain facts. -/
namespace Go.Proofs.Ytbdkacfpeokggaa
open Go.RowKit
set_option linter.unusedSimpArgs false
set_option linter.unusedVariables false
structure FS (w0 : World) (am : Option Addr) (l : List Xe) (ao : Option Addr) (os : List ByteArray) (gI : Nat) (sT : ByteArray) (L : List Xe) (W : World) : Prop where
  xm : XeL W am l
  no : NmL W ao os
  ix : IxS W gI sT L
  bel : Below w0.heap.size w0 W
theorem FS.next {w0 W W' : World} {am ao : Option Addr} {l L : List Xe} {os : List ByteArray} {gI : Nat} {sT : ByteArray} (h : FS w0 am l ao os gI sT L W) (hb : Below W.heap.size W W') : FS w0 am l ao os gI sT L W' :=
  ⟨h.xm.below hb, h.no.below hb, h.ix.below hb, h.bel.trans (hb.mono h.bel.size)⟩
theorem XeL.front {w : World} {a : Option Addr} {l m : List Xe} (h : XeL w a (l ++ m)) : XeL w a l := fun i e he => h i e (by
  rw [List.getElem?_append_left (List.getElem?_eq_some_iff.1 he).1]; exact he)
theorem NmL.get {w : World} {a : Option Addr} {l : List ByteArray} (h : NmL w a l) {i : Nat} {s : ByteArray} (hs : l[i]? = some s) : ∃ g o, a = some ⟨g, o, none⟩ ∧ g < w.heap.size ∧ s.size = 32 ∧ ∀ j v, (idc s)[j]? = some v → w.cell? ⟨g, o + i * 32 + j, none⟩ = some v := by
  obtain ⟨h1, g, o, h2, h3, h4⟩ := h i s hs
  exact ⟨g, o, h2, h3, h1, h4⟩
theorem xbE_cases : ∀ (r d : List Xe), xbE d r = 0 ∨ xbE d r = 1 ∨ xbE d r = 7
  | [], d => .inl rfl
  | e :: r, d => by
    unfold xbE
    split
    · exact .inr (.inl rfl)
    · split
      · exact .inr (.inr rfl)
      · exact xbE_cases r (d ++ [e])
theorem bE_cases (l : List Xe) : bE l = 0 ∨ bE l = 1 ∨ bE l = 7 := xbE_cases l []
/-- Two indexes of the same entries have the same bytes. -/
theorem same_ix {s R R' : ByteArray} {l l' L : List Xe} (h : IsIx R s L) (hp : L.Perm l) (h' : BdX s l' R') (h0 : bE l' = 0) (hq : l'.Perm l) : R' = R := by
  obtain ⟨L', q1, q2, q3⟩ := h'.2 h0
  have e : L' = L := rise_one ((q1.trans hq).trans hp.symm) q2.ri h.2.1.ri
  rw [q3, e]
  apply bl_inj
  rw [h.2.2]; rfl
theorem fanB_end {L : List Xe} : fanB L 256 = L.length := by
  unfold fanB
  rw [List.countP_eq_length]
  intro e _
  exact decide_eq_true (fst8_lt e)
theorem at_first {L : List Xe} (h : Rise L) {i b : Nat} {e : Xe} (he : L[i]? = some e) (h1 : fanB L b ≤ i) (h2 : i < fanL L b) : f8 e.id = b := by
  have q1 := (h.fan he b).2 h2
  have q2 : ¬ fst8 e < b := fun q => by have := (h.fanb he b).1 q; omega
  rw [fst8_f8] at q1 q2
  omega
theorem fan_le (L : List Xe) (b : Nat) : fanB L b ≤ fanL L b := by
  unfold fanB fanL
  refine List.countP_mono_left (fun e _ q => ?_)
  have := of_decide_eq_true q
  exact decide_eq_true (by omega)
/-- Has one of these this name? -/
def anyX (l : List Xe) (x : ByteArray) : Bool := l.any (fun e => decide (e.id = x))
theorem anyX_snoc (l : List Xe) (e : Xe) (x : ByteArray) : anyX (l ++ [e]) x = (anyX l x || decide (e.id = x)) := by simp [anyX]
theorem anyX_fnd {l L : List Xe} (hp : L.Perm l) (x : ByteArray) : anyX l x = (fnd L x).isSome := by
  cases q : fnd L x with
  | none =>
    rw [fnd_none] at q
    simp only [anyX, Option.isSome_none, List.any_eq_false, decide_eq_true_eq]
    intro e he
    exact q e (hp.mem_iff.2 he)
  | some e =>
    obtain ⟨h1, h2⟩ := fnd_some q
    simp only [anyX, Option.isSome_some, List.any_eq_true, decide_eq_true_eq]
    exact ⟨e, hp.mem_iff.1 h1, h2⟩
end Go.Proofs.Ytbdkacfpeokggaa
