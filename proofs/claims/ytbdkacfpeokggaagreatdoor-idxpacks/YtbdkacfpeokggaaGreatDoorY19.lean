import Derived.Test.YtbdkacfpeokggaaGreatDoorY18
import Derived.Test.YtbdkacfpeokggaaGreatDoorY12
import Derived.Test.YtbdkacfpeokggaaGreatDoorY11
import Derived.Test.YtbdkacfpeokggaaGreatDoorY8
import Derived.Test.YtbdkacfpeokggaaGreatDoorY10
/- idx.From; a pack's entries as an index's. -/
namespace Go.Proofs.YtbdkacfpeokggaaGreatDoor
open Go.RowKit
set_option linter.unusedSimpArgs false
set_option linter.unusedVariables false
/-- A pack's entry as one that may be indexed. -/
def xeO (e : Ent) : Xe := ⟨e.id, e.k, (e.off : Int), (e.sz : Int)⟩
theorem xeC_xeO (e : Ent) : xeC (xeO e) = enC e := rfl
theorem EnL.xe {w : World} {a : Option Addr} {l : List Ent} (h : EnL w a l) (hi : ∀ x ∈ l, x.id.size = 32) : XeL w a (l.map xeO) := by
  intro i e he
  rw [List.getElem?_map] at he
  obtain ⟨d, hd, rfl⟩ := Option.map_eq_some_iff.1 he
  obtain ⟨g, z, C, h1, h2, h3⟩ := h i d hd
  exact ⟨hi d (List.mem_of_getElem? hd), g, z, h1, h2.lt, fun j v hv => by rw [h2.cell]; exact h3 j v hv⟩
/-- The entries of a pack that was built. -/
def exs (l : List Ob) : List Xe := (ens 4 l).map xeO
theorem ens_mem : ∀ (l : List Ob) (a : Nat) (e : Ent), e ∈ ens a l → ∃ i o, l[i]? = some o ∧ e = enO (a + lenL (l.take i)) o
  | [], _, e, h => by simp [ens] at h
  | o :: l, a, e, h => by
    rw [ens, List.mem_cons] at h
    rcases h with rfl | h
    · exact ⟨0, o, rfl, by simp [lenL]⟩
    · obtain ⟨i, o', h1, h2⟩ := ens_mem l _ e h
      refine ⟨i + 1, o', by simpa using h1, ?_⟩
      rw [h2, List.take_succ_cons, lenL]
      congr 1
      omega
theorem ens_names : ∀ (l : List Ob) (a : Nat), (ens a l).map (·.id) = l.map nmO
  | [], _ => rfl
  | o :: l, a => by rw [ens, List.map_cons, List.map_cons, ens_names l]; rfl
theorem exs_len (l : List Ob) : (exs l).length = l.length := by rw [exs, List.length_map, ens_length]
theorem exs_ids (l : List Ob) : ∀ e ∈ exs l, e.id.size = 32 := fun e he => by
  obtain ⟨d, hd, rfl⟩ := List.mem_map.1 he
  exact ens_ids l 4 d hd
theorem exs_get {l : List Ob} {i : Nat} {o : Ob} (h : l[i]? = some o) : (exs l)[i]? = some (xeO (enO (4 + lenL (l.take i)) o)) := by
  rw [exs, List.getElem?_map, ens_get l 4 i o h]; rfl
theorem exs_gd {l : List Ob} (h : buE l = 0) : GdX (exs l) := by
  have g := buE_ok h
  refine ⟨fun e he => ?_, ?_, by rw [exs_len]; exact g.len⟩
  · obtain ⟨d, hd, rfl⟩ := List.mem_map.1 he
    obtain ⟨i, o, h1, rfl⟩ := ens_mem l 4 d hd
    have ho := g.ok o (List.mem_of_getElem? h1)
    have h2 := lenL_take_le l i
    have h3 := g.sz
    simp only [okO, decide_eq_true_eq] at ho
    rw [okX_iff]
    simp only [xeO, enO]
    omega
  · have h1 : ((exs l).map (fun e : Xe => e.id)).Nodup := by
      have e : (exs l).map (fun e : Xe => e.id) = (ens 4 l).map (·.id) := by rw [exs, List.map_map]; rfl
      rw [e, ens_names]; exact g.nd
    exact List.pairwise_map.1 h1
/-- What From tells. -/
def FmS (S : ByteArray) (e : Ending) : Prop :=
  (∃ m R, PkO S m ∧ (∀ x ∈ m, x.id.size = 32) ∧ e = .returned (.tuple #[.string R, .int .i64 (bE (m.map xeO))]) ∧ BdX (sb (sha (byl S))) (m.map xeO) R) ∨
    ((∀ m, ¬ PkO S m) ∧ e = .returned (.tuple #[.string ⟨#[]⟩, .int .i64 4]))
theorem PkO.ids {S : ByteArray} {m : List Ent} (h : PkO S m) : ∀ x ∈ m, x.id.size = 32 := by
  obtain ⟨_, _, a, hs, _⟩ := h
  exact hs.1.ids
theorem row_slX {w : World} {B n : Nat} {v : Value} {xs : List Value} {T : TypeId} (h : w.ownsRow B T 35 v n xs) : ∃ a c, v = .slice a n c ∧ (a = none ∨ ∃ g o, a = some ⟨g, o, none⟩) := by
  rcases h.2 with ⟨h1, h0⟩ | ⟨g, cap, cur, h1, _⟩
  · exact ⟨none, 0, by rw [h1, h0], .inl rfl⟩
  · exact ⟨_, _, h1, .inr ⟨g, 0, rfl⟩⟩
set_option maxHeartbeats 2000000 in
set_option maxRecDepth 100000 in
theorem from_any (S : ByteArray) (w : World) (hS : S.size ≤ 140737488355328) (hL : Lst w) :
    Calls Tryz.prog 9 #[.string S] w fun e w' => FmS S e ∧ Below w.heap.size w w' := by
  have HL : Hid (Lst w) := hL
  have HSC : Hid (Calls Tryz.prog 40 #[.string S] w fun e w' => ∃ a n c er l, e = .returned (.tuple #[.slice a n c, .int .i64 er]) ∧ ScA S l er ∧ (er = 0 → XeL w' a (l.map xeO) ∧ l.length = n ∧ (a = none ∨ ∃ g o, a = some ⟨g, o, none⟩) ∧ n ≤ 65536) ∧ Below w.heap.size w w') := by
    refine (scan_any S w hS hL).mono ?_
    rintro e w' ⟨l, v, er, h1, h2, h3, h4⟩
    obtain ⟨a, c, rfl, hA⟩ := row_slX h3
    refine ⟨a, l.length, c, er, l, h1, h2, fun h0 => ?_, h4⟩
    rcases h2 with ⟨_, hp⟩ | ⟨q, _⟩
    · obtain ⟨a', c', hv, hE⟩ := row_enl h3 rfl hp.ids
      injection hv with hv _ _
      subst hv
      obtain ⟨_, _, z, hs, _⟩ := hp
      exact ⟨hE.xe hs.1.ids, rfl, hA, Rn.few hs.1 (fun l e h1 h2 => by simp [tkS] at h2; omega)⟩
    · omega
  have HSM : Hid (∀ W, Lst W → Calls Tryz.prog 26 #[.string S] W fun e w' => e = .returned (.agg (idc (sb (sha (byl S))))) ∧ Below W.heap.size W w') := fun W hW => sum_id S W hW (by omega)
  obtain ⟨X, hX⟩ : ∃ X, sb (sha (byl S)) = X := ⟨_, rfl⟩
  have HX : Hid (sb (sha (byl S)) = X) := hX
  have HX32 : Hid (X.size = 32) := by rw [← hX]; exact sha_size _
  rw [hX] at HSM
  clear hL hX
  go_enter Tryz.func9, Tryz.ntmps9
  go_wp2_with fail
  refine HSC.out.mono ?_
  rintro e w1 ⟨a, n, c, er, l, rfl, hSA, hXL, hb1⟩
  have HB1 : Hid (Below w.heap.size w w1) := hb1
  rcases hSA with ⟨rfl, hp⟩ | ⟨rfl, rfl, hno⟩
  · obtain ⟨h1, h2, h3, h4⟩ := hXL rfl
    have HP : Hid (PkO S l) := hp
    have HBD : Hid (∀ W, Below w1.heap.size w1 W → Calls Tryz.prog 7 #[.agg (idc X), .slice a n c] W fun e w' => ∃ R, e = .returned (.tuple #[.string R, .int .i64 (bE (l.map xeO))]) ∧ BdX X (l.map xeO) R ∧ Below W.heap.size W w') := fun W hW =>
      ibuild_any sort_none X (l.map xeO) a n c W HX32.out (h1.below hW) (by rw [List.length_map]; exact h2) h3 (by omega)
    clear h1 h2 h3 hp hXL hb1
    go_wp2_with (first
      | (go_at_call 26; refine (HSM.out _ (HL.out.below HB1.out)).mono ?_; rintro e w2 ⟨rfl, hb2⟩; have HB2 : Hid (Below w1.heap.size w1 w2) := hb2; clear hb2)
      | (go_at_call 7; refine (HBD.out w2 HB2.out).mono ?_; rintro e w3 ⟨R, rfl, hR, hb3⟩; have HR : Hid (BdX X (l.map xeO) R ∧ Below w2.heap.size w2 w3) := ⟨hR, hb3⟩; clear hR hb3)
      | fail)
    go_ret2
    refine ⟨.inl ⟨l, R, HP.out, HP.out.ids, rfl, by rw [HX.out]; exact HR.out.1⟩, ?_⟩
    have q := HB1.out.trans (HB2.out.mono HB1.out.size)
    exact q.trans (HR.out.2.mono q.size)
  · have HN : Hid (∀ m, ¬ PkO S m) := hno
    clear hno hXL hb1
    go_wp2
    go_ret2
    exact ⟨.inr ⟨HN.out, rfl⟩, HB1.out⟩
end Go.Proofs.YtbdkacfpeokggaaGreatDoor
/- idx.Index: At, Pack. -/
namespace Go.Proofs.YtbdkacfpeokggaaGreatDoor
open Go.RowKit
set_option linter.unusedSimpArgs false
set_option linter.unusedVariables false
set_option maxHeartbeats 1000000 in
set_option maxRecDepth 100000 in
theorem pack_any (g : Nat) (s : ByteArray) (l : List Xe) (w : World) (h : IxS w g s l) : Calls Tryz.prog 25 #[.pointer (some ⟨g, 0, none⟩)] w fun e w' => e = .returned (.agg (idc s)) ∧ Below w.heap.size w w' := by
  obtain ⟨a, n, c, hB, hX, hl, hc, hA⟩ := h.row
  have hs := h.id
  obtain ⟨D, hD⟩ : ∃ D, idc s = D := ⟨_, rfl⟩
  obtain ⟨Z, hZ⟩ : ∃ Z, ixC s (fanL l) (.slice a n c) = Z := ⟨_, rfl⟩
  have HI : Hid ((Tryz.prog.info? 23).map (·.size) = some D.size ∧ D.all (·.oneCell') = true ∧ D.size = 32) := by rw [← hD]; exact ⟨info_32 (by rw [idc_size, hs]), idc_allX s, by rw [idc_size, hs]⟩
  have HZ : Hid (∀ j v, D[j]? = some v → Z[0 + j]? = some v) := fun j v hv => by rw [← hZ]; exact ixC_id s _ _ hs j v (by rw [hD]; exact hv)
  rw [hZ] at hB
  rw [hD]
  have H1 : Hid (Bk (w.alloc (.cells z32c 23)) g Z 115 ∧ Bk (w.alloc (.cells z32c 23)) w.heap.size z32c 23 ∧ Below w.heap.size w (w.alloc (.cells z32c 23))) := ⟨hB.alloc _, bk_new _ _ _, (Below.refl _ _).alloc (Nat.le_refl _) _⟩
  have hz := zero_id
  clear h hB hX hl hc hA hs hD hZ
  go_enter Tryz.func25, Tryz.ntmps25
  go_wp2_with (first
    | (refine wpList_get rfl 23 (.tmp 8) rfl g 0 Z D 115 _ rfl H1.out.1 HZ.out Tryz.underlying23 rfl HI.out.1 ?_)
    | (refine wpList_stoX rfl 23 (.tmp 2) (.tmp 9) rfl w.heap.size D z32c 23 rfl rfl H1.out.2.1 HI.out.1 (by rw [HI.out.2.2]; exact z32c_size) HI.out.2.1 ?_; intro w7 HB7 HG7)
    | fail)
  refine bodyPost_ret (results_cell_row rfl _ _ w.heap.size 23 D (0, 0) _ rfl HB7.out Tryz.underlying23 rfl HI.out.1) rfl ⟨rfl, ?_⟩
  exact below_own H1.out.2.2 H1.out.2.2.size HG7.out (Nat.le_refl _)
set_option maxHeartbeats 4000000 in
set_option maxRecDepth 100000 in
theorem at_yes (g : Nat) (s : ByteArray) (l : List Xe) (i : Nat) (e : Xe) (w : World) (h : IxS w g s l) (he : l[i]? = some e) (hn : l.length ≤ 65536) : Calls Tryz.prog 57 #[.pointer (some ⟨g, 0, none⟩), .int .i64 (i : Int)] w fun r w' => r = .returned (.tuple #[.agg (xeC e), .int .i64 0]) ∧ Below w.heap.size w w' := by
  obtain ⟨a, n, c, hB, hX, hl, hc, hA⟩ := h.row
  have hin : i < n := by rw [← hl]; exact (List.getElem?_eq_some_iff.1 he).1
  have hiz : (i : Int) < (n : Nat) := by omega
  have hi0 : (0 : Int) ≤ i := by omega
  have hi1 : ¬ (i : Int) < 0 := by omega
  have hi2 : ¬ (n : Int) ≤ i := by omega
  obtain ⟨ga, oa, rfl, hga, h32, hcells⟩ := hX.get he
  have hrow : ∀ W, Below w.heap.size w W → W.cell? ⟨g, 288, none⟩ = some (.slice (some ⟨ga, oa, none⟩) n c) := fun W hW => by
    rw [(hB.below hW hB.lt).cell]; exact ixC_row s _ _ h.id
  have hz : ∀ w, (zeroValue 34).run Tryz.prog w = .ok (.agg z35X) w := Tryz.zeroValue34
  obtain ⟨X, hXe⟩ : ∃ X, xeC e = X := ⟨_, rfl⟩
  have HIX : Hid ((Tryz.prog.info? 34).map (·.size) = some X.toList.length ∧ X.all (·.oneCell') = true ∧ X.size = 35) := by rw [← hXe]; exact ⟨by rw [inf_xe35, Array.length_toList, xeC_size e h32], xeC_all e, xeC_size e h32⟩
  have hb1 : Below w.heap.size w (w.alloc (.cells z35X 34)) := (Below.refl _ _).alloc (Nat.le_refl _) _
  have hrow1 := hrow _ hb1
  have HB1 : Hid (Bk (w.alloc (.cells z35X 34)) w.heap.size z35X 34 ∧ Below w.heap.size w (w.alloc (.cells z35X 34))) := ⟨bk_new _ _ _, hb1⟩
  have HCE : Hid (∀ j v, X[j]? = some v → (w.alloc (.cells z35X 34)).cell? ⟨ga, oa + i * 35 + j, none⟩ = some v) := fun j v hv => by
    rw [hb1.cell hga]; exact hcells j v (by rw [hXe]; exact hv)
  rw [hXe]
  clear h hB hX hl hc hA hcells hrow hb1 hXe he h32
  go_enter Tryz.func57, Tryz.ntmps57
  go_wp2_with (first
    | (refine wpList_load_mid rfl 34 (.tmp 26) rfl ga (oa + i * 35) rfl X.toList _ (fun j v hv => HCE.out j v (by rwa [Array.getElem?_toList] at hv)) Tryz.underlying34 rfl HIX.out.1 ?_)
    | (refine wpList_stoX rfl 34 (.tmp 4) (.tmp 27) rfl w.heap.size X z35X 34 rfl rfl HB1.out.1 (info_xe HIX.out.2.2) (by rw [HIX.out.2.2]; rfl) HIX.out.2.1 ?_; intro w7 HB7 HG7)
    | fail)
  refine bodyPost_ret (results_cell_tmp_row rfl _ _ w.heap.size 34 X (0, 0) _ rfl HB7.out Tryz.underlying34 rfl (info_xe HIX.out.2.2)) rfl ⟨rfl, ?_⟩
  exact below_own HB1.out.2 HB1.out.2.size HG7.out (Nat.le_refl _)
end Go.Proofs.YtbdkacfpeokggaaGreatDoor
/- Two entries compared. -/
namespace Go.Proofs.YtbdkacfpeokggaaGreatDoor
open Go.RowKit
set_option linter.unusedSimpArgs false
set_option linter.unusedVariables false
theorem eqItems_idsD (d : Nat) (a b : ByteArray) (ha : a.size = 32) (hb : b.size = 32) (w : World) : ∀ is : List Nat, (∀ i ∈ is, i < 32) →
    (Op.eqItems (d + 1) 5 1 (idc a) (idc b) is).run Tryz.prog w = .ok (is.all fun i => (byl a).getD i 0 == (byl b).getD i 0) w
  | [], _ => by simp [Op.eqItems]
  | i :: is, h => by
    have hi : i < 32 := h i (List.mem_cons_self ..)
    have ih := eqItems_idsD d a b ha hb w is (fun j hj => h j (List.mem_cons_of_mem _ hj))
    have e1 : (byl a).getD i 0 = a[i].toNat := by rw [List.getD, byl_getD a i (by omega)]; rfl
    have e2 : (byl b).getD i 0 = b[i].toNat := by rw [List.getD, byl_getD b i (by omega)]; rfl
    have e3 := run_equalIn_int (P := Tryz.prog) w d 5 .u8 .u8 (a[i].toNat : Int) (b[i].toNat : Int) Tryz.underlying5
    simp only [Op.eqItems, Sem.run_bind, Nat.mul_one, part_id a i (by omega), part_id b i (by omega), Result.andThen_ok, e3, List.all_cons, e1, e2]
    by_cases e : a[i].toNat = b[i].toNat
    · have e4 : ((a[i].toNat : Int) == (b[i].toNat : Int)) = true := by rw [e]; simp
      simp only [e4, Bool.not_true, Bool.false_eq_true, if_false, ih, e, beq_self_eq_true, Bool.true_and]
    · have e4 : ((a[i].toNat : Int) == (b[i].toNat : Int)) = false := by rw [beq_eq_false_iff_ne]; omega
      have e5 : (a[i].toNat == b[i].toNat) = false := by rw [beq_eq_false_iff_ne]; exact e
      simp only [e4, Bool.not_false, if_true, Sem.run_pure, e5, Bool.false_and]
theorem equalIn_idsD (d : Nat) (a b : ByteArray) (ha : a.size = 32) (hb : b.size = 32) (w : World) : (Op.equalIn (d + 2) 23 (.agg (idc a)) (.agg (idc b))).run Tryz.prog w = .ok (decide (a = b)) w := by
  have hc : Tryz.prog.cellsOf 5 = 1 := by kernel_rfl
  obtain ⟨i0, hi⟩ := info_of_underlying Tryz.underlying5
  have hu : Tryz.prog.underlying 23 = some (.array 32 5) := Tryz.underlying23
  rw [run_equalIn_array w (d + 1) (idc a) (idc b) hu hi, hc, eqItems_idsD d a b ha hb w _ (fun i hi => by simpa using hi), ids_all a b ha hb]
/-- Whether two entries are the same. -/
def enQ (e f : Ent) : Bool := decide (e.id = f.id) && (((e.k.toNat : Int) == (f.k.toNat : Int)) && (((e.off : Int) == (f.off : Int)) && ((e.sz : Int) == (f.sz : Int))))
theorem enQ_self (e : Ent) : enQ e e = true := by simp [enQ]
theorem enQ_iff (e f : Ent) : enQ e f = true ↔ e = f := by
  constructor
  · intro h
    simp only [enQ, Bool.and_eq_true, decide_eq_true_eq, beq_iff_eq] at h
    obtain ⟨h1, h2, h3, h4⟩ := h
    obtain ⟨a, b, c, d⟩ := e
    obtain ⟨a', b', c', d'⟩ := f
    simp only at h1 h2 h3 h4
    subst h1
    have h2' : b = b' := UInt8.toNat.inj (by omega)
    subst h2'
    have h3' : c = c' := by omega
    have h4' : d = d' := by omega
    subst h3' h4'
    rfl
  · rintro rfl; exact enQ_self e
theorem part_idE (e : Ent) (h : e.id.size = 32) (w : World) : (part 23 (enC e) 0).run Tryz.prog w = .ok (.agg (idc e.id)) w := by
  have ha : (isAgg 23).run Tryz.prog w = .ok true w := by kernel_rfl
  have hs : (sizeOf 23).run Tryz.prog w = .ok 32 w := by kernel_rfl
  have hx : (enC e).extract 0 32 = idc e.id := by
    apply Array.ext'
    rw [Array.toList_extract, enC]
    have hl : (idc e.id).toList.length = 32 := by rw [Array.length_toList, idc_size, h]
    simp only [List.extract_eq_take_drop, List.drop_zero, Nat.sub_zero]
    rw [List.take_append_of_le_length (by omega), List.take_of_length_le (by omega)]
  simp [part, ha, hs, hx]
theorem part_cell {t : TypeId} (C : Array Value) (j : Nat) (v : Value) (w : World) (ha : (isAgg t).run Tryz.prog w = .ok false w) (h : C[j]? = some v) : (part t C j).run Tryz.prog w = .ok v w := by
  simp [part, ha, h]
set_option maxRecDepth 100000 in
theorem equalIn_enp (e f : Ent) (he : e.id.size = 32) (hf : f.id.size = 32) (w : World) : (Op.equalIn 10000 34 (.agg (enC e)) (.agg (enC f))).run Tryz.prog w = .ok (enQ e f) w := by
  have hu : Tryz.prog.underlying 34 = some (.struct (Tryz.prog.fieldsOf 34)) := by kernel_rfl
  have hst : Tryz.prog.stoodInHeld 34 = false := by kernel_rfl
  have hfs : (Tryz.prog.fieldsOf 34).toList.map (fun q => (q.name != "_", q.type, q.offset)) = [(true, 23, 0), (true, 5, 32), (true, 3, 33), (true, 3, 34)] := by kernel_rfl
  rw [run_equalIn_struct w 9999 34 (enC e) (enC f) hu hst]
  generalize (Tryz.prog.fieldsOf 34).toList = fs at hfs
  have hlen : fs.length = 4 := by have := congrArg List.length hfs; simpa using this
  match fs, hlen, hfs with
  | [f0, f1, f2, f3], _, hfs =>
    simp only [List.map_cons, List.map_nil, List.cons.injEq, Prod.mk.injEq, and_true, bne_iff_ne] at hfs
    obtain ⟨⟨n0, t0, o0⟩, ⟨n1, t1, o1⟩, ⟨n2, t2, o2⟩, n3, t3, o3⟩ := hfs
    obtain ⟨a1, a2, a3⟩ := enC_at e he
    obtain ⟨b1, b2, b3⟩ := enC_at f hf
    have u8a : (isAgg 5).run Tryz.prog w = .ok false w := by kernel_rfl
    have i64a : (isAgg 3).run Tryz.prog w = .ok false w := by kernel_rfl
    have q0 := equalIn_idsD 9997 e.id f.id he hf w
    have q1 := run_equalIn_int (P := Tryz.prog) w 9998 5 .u8 .u8 (e.k.toNat : Int) (f.k.toNat : Int) Tryz.underlying5
    have q2 := run_equalIn_int (P := Tryz.prog) w 9998 3 .i64 .i64 (e.off : Int) (f.off : Int) Tryz.underlying3
    have q3 := run_equalIn_int (P := Tryz.prog) w 9998 3 .i64 .i64 (e.sz : Int) (f.sz : Int) Tryz.underlying3
    simp only [Op.eqFields, n0, n1, n2, n3, t0, t1, t2, t3, o0, o1, o2, o3, ne_eq, not_false_eq_true, if_true, Sem.run_bind, part_idE e he, part_idE f hf, part_cell _ _ _ w u8a a1, part_cell _ _ _ w u8a b1, part_cell _ _ _ w i64a a2, part_cell _ _ _ w i64a b2, part_cell _ _ _ w i64a a3, part_cell _ _ _ w i64a b3, Result.andThen_ok]
    rw [q0, Result.andThen_ok, enQ]
    cases decide (e.id = f.id) with
    | false => rfl
    | true =>
      simp only [Bool.not_true, Bool.false_eq_true, if_false, Bool.true_and, Sem.run_bind, part_cell _ _ _ w u8a a1, part_cell _ _ _ w u8a b1, Result.andThen_ok, q1]
      cases ((e.k.toNat : Int) == (f.k.toNat : Int)) with
      | false => rfl
      | true =>
        simp only [Bool.not_true, Bool.false_eq_true, if_false, Bool.true_and, Sem.run_bind, part_cell _ _ _ w i64a a2, part_cell _ _ _ w i64a b2, Result.andThen_ok, q2]
        cases ((e.off : Int) == (f.off : Int)) with
        | false => rfl
        | true =>
          simp only [Bool.not_true, Bool.false_eq_true, if_false, Bool.true_and, Sem.run_bind, part_cell _ _ _ w i64a a3, part_cell _ _ _ w i64a b3, Result.andThen_ok, q3]
          cases ((e.sz : Int) == (f.sz : Int)) with
          | false => rfl
          | true => rfl
theorem neq_enp (e f : Ent) (he : e.id.size = 32) (hf : f.id.size = 32) (w : World) : (binOp .neq 34 (.agg (enC e)) (.agg (enC f))).run Tryz.prog w = .ok (.bool (!enQ e f)) w := by
  rw [run_neq_struct, equalIn_enp e f he hf]; rfl
set_option maxRecDepth 100000 in
theorem equalIn_enr (e f : Ent) (he : e.id.size = 32) (hf : f.id.size = 32) (w : World) : (Op.equalIn 10000 69 (.agg (enC e)) (.agg (enC f))).run Tryz.prog w = .ok (enQ e f) w := by
  have hu : Tryz.prog.underlying 69 = some (.struct (Tryz.prog.fieldsOf 69)) := by kernel_rfl
  have hst : Tryz.prog.stoodInHeld 69 = false := by kernel_rfl
  have hfs : (Tryz.prog.fieldsOf 69).toList.map (fun q => (q.name != "_", q.type, q.offset)) = [(true, 23, 0), (true, 5, 32), (true, 3, 33), (true, 3, 34)] := by kernel_rfl
  rw [run_equalIn_struct w 9999 69 (enC e) (enC f) hu hst]
  generalize (Tryz.prog.fieldsOf 69).toList = fs at hfs
  have hlen : fs.length = 4 := by have := congrArg List.length hfs; simpa using this
  match fs, hlen, hfs with
  | [f0, f1, f2, f3], _, hfs =>
    simp only [List.map_cons, List.map_nil, List.cons.injEq, Prod.mk.injEq, and_true, bne_iff_ne] at hfs
    obtain ⟨⟨n0, t0, o0⟩, ⟨n1, t1, o1⟩, ⟨n2, t2, o2⟩, n3, t3, o3⟩ := hfs
    obtain ⟨a1, a2, a3⟩ := enC_at e he
    obtain ⟨b1, b2, b3⟩ := enC_at f hf
    have u8a : (isAgg 5).run Tryz.prog w = .ok false w := by kernel_rfl
    have i64a : (isAgg 3).run Tryz.prog w = .ok false w := by kernel_rfl
    have q0 := equalIn_idsD 9997 e.id f.id he hf w
    have q1 := run_equalIn_int (P := Tryz.prog) w 9998 5 .u8 .u8 (e.k.toNat : Int) (f.k.toNat : Int) Tryz.underlying5
    have q2 := run_equalIn_int (P := Tryz.prog) w 9998 3 .i64 .i64 (e.off : Int) (f.off : Int) Tryz.underlying3
    have q3 := run_equalIn_int (P := Tryz.prog) w 9998 3 .i64 .i64 (e.sz : Int) (f.sz : Int) Tryz.underlying3
    simp only [Op.eqFields, n0, n1, n2, n3, t0, t1, t2, t3, o0, o1, o2, o3, ne_eq, not_false_eq_true, if_true, Sem.run_bind, part_idE e he, part_idE f hf, part_cell _ _ _ w u8a a1, part_cell _ _ _ w u8a b1, part_cell _ _ _ w i64a a2, part_cell _ _ _ w i64a b2, part_cell _ _ _ w i64a a3, part_cell _ _ _ w i64a b3, Result.andThen_ok]
    rw [q0, Result.andThen_ok, enQ]
    cases decide (e.id = f.id) with
    | false => rfl
    | true =>
      simp only [Bool.not_true, Bool.false_eq_true, if_false, Bool.true_and, Sem.run_bind, part_cell _ _ _ w u8a a1, part_cell _ _ _ w u8a b1, Result.andThen_ok, q1]
      cases ((e.k.toNat : Int) == (f.k.toNat : Int)) with
      | false => rfl
      | true =>
        simp only [Bool.not_true, Bool.false_eq_true, if_false, Bool.true_and, Sem.run_bind, part_cell _ _ _ w i64a a2, part_cell _ _ _ w i64a b2, Result.andThen_ok, q2]
        cases ((e.off : Int) == (f.off : Int)) with
        | false => rfl
        | true =>
          simp only [Bool.not_true, Bool.false_eq_true, if_false, Bool.true_and, Sem.run_bind, part_cell _ _ _ w i64a a3, part_cell _ _ _ w i64a b3, Result.andThen_ok, q3]
          cases ((e.sz : Int) == (f.sz : Int)) with
          | false => rfl
          | true => rfl
theorem neq_enr (e f : Ent) (he : e.id.size = 32) (hf : f.id.size = 32) (w : World) : (binOp .neq 69 (.agg (enC e)) (.agg (enC f))).run Tryz.prog w = .ok (.bool (!enQ e f)) w := by
  rw [run_neq_struct, equalIn_enr e f he hf]; rfl
end Go.Proofs.YtbdkacfpeokggaaGreatDoor
/- Plain facts of packs that were built: each record, and what is told of what is left. -/
namespace Go.Proofs.YtbdkacfpeokggaaGreatDoor
open Go.RowKit
set_option linter.unusedSimpArgs false
set_option linter.unusedVariables false
theorem split_atP {l : List Ob} {i : Nat} {o : Ob} (hi : l[i]? = some o) : l = l.take i ++ o :: l.drop (i + 1) := by
  have hlt : i < l.length := (List.getElem?_eq_some_iff.1 hi).1
  conv => lhs; rw [← List.take_append_drop i l, List.drop_eq_getElem_cons hlt]
  rw [List.getElem?_eq_getElem hlt] at hi
  injection hi with hi
  rw [hi]
theorem rec_le {l : List Ob} (h : buE l = 0) (i : Nat) (o : Ob) (hi : l[i]? = some o) : 4 + lenL (l.take i) + (9 + o.p.size) < (buS l).size := by
  have e := lenL_take_succ l i o hi
  have e2 := lenL_take_le l (i + 1)
  rw [buS_size h, trl_size]
  omega
theorem rec_at {l : List Ob} (h : buE l = 0) (i : Nat) (o : Ob) (hi : l[i]? = some o) : (buS l).extract (4 + lenL (l.take i)) (4 + lenL (l.take i) + (9 + o.p.size)) = recO o := by
  apply bl_inj
  rw [bl_extract, List.drop_take, buS_ok h]
  have hA : (mk4 ++ recL (l.take i)).length = 4 + lenL (l.take i) := by rw [List.length_append, recL_length]; rfl
  have hw : mk4 ++ recL l ++ bl (trl l.length) = (mk4 ++ recL (l.take i)) ++ (bl (recO o) ++ (recL (l.drop (i + 1)) ++ bl (trl l.length))) := by
    have e : recL l = recL (l.take i) ++ (bl (recO o) ++ recL (l.drop (i + 1))) := by
      conv => lhs; rw [split_atP hi, recL_append, recL]
    rw [e]
    simp
  rw [show 4 + lenL (l.take i) + (9 + o.p.size) - (4 + lenL (l.take i)) = 9 + o.p.size from by omega, hw, ← hA, List.drop_left, List.take_append_of_le_length (by rw [bl_length, recO_size]; exact Nat.le_refl _), List.take_of_length_le (by rw [bl_length, recO_size]; exact Nat.le_refl _)]
theorem one_rec (o : Ob) (ho : okO o = true) : onO (recO o) = o ∧ onE (recO o) = 0 := by
  obtain ⟨h1, h2, h3⟩ := at_rec o (recO o) ⟨#[]⟩ (by apply bl_inj; rw [bl_append]; simp [bl]) ho
  rw [onO, onE, if_pos ⟨h1, h3⟩, if_pos ⟨h1, h3⟩, h2]
  exact ⟨rfl, rfl⟩
theorem read_rec {l : List Ob} (h : buE l = 0) (i : Nat) (o : Ob) (hi : l[i]? = some o) : rdO (buS l) ((4 + lenL (l.take i) : Nat) : Int) = o ∧ rdE (buS l) ((4 + lenL (l.take i) : Nat) : Int) = 0 := by
  obtain ⟨h1, h2⟩ := rd_bu h i o hi
  have hle := rec_le h i o hi
  obtain ⟨y1, _, y3⟩ := ft_yes h1
  have hc : (0 : Int) ≤ ((4 + lenL (l.take i) : Nat) : Int) ∧ ((4 + lenL (l.take i) : Nat) : Int) ≤ ((buS l).size : Int) := by omega
  rw [rdO, rdE, if_pos hc, if_pos hc, Int.toNat_natCast, y1, y3, h2]
  exact ⟨rfl, rfl⟩
theorem cut_bl (s : ByteArray) (q : Nat) (hq : q ≤ s.size) : bl (s.extract 0 q) = (bl s).take q := extract_take s q hq
theorem cut_size (s : ByteArray) (q : Nat) (hq : q ≤ s.size) : (s.extract 0 q).size = q := by rw [← bl_length, cut_bl s q hq, List.length_take, bl_length]; omega
theorem cwN_small {q : Nat} (h : q < 4) (l : List Ob) : cwN q 4 l = 0 := by
  cases l with
  | nil => rfl
  | cons o l => rw [cwN, if_neg (by omega)]
theorem cut_pm {l : List Ob} {q : Nat} (h : buE l = 0) (hq : q < (buS l).size) (h4 : 4 ≤ q) : pmB ((buS l).extract 0 q) = true := by
  refine pmB_bu (t := (recL l ++ bl (trl l.length)).take (q - 4)) ?_
  rw [cut_bl _ _ (by omega), buS_ok h, List.append_assoc, List.take_append, List.take_of_length_le (by rw [mk4_length]; exact h4)]
  rfl
/-- What is left of a pack tells all that are whole. -/
theorem cut_sv {l : List Ob} {m : List Ent} {q : Nat} (h : buE l = 0) (hq : q < (buS l).size) (hs : SvA ((buS l).extract 0 q) m) : m = ens 4 (l.take (cwN q 4 l)) := by
  have g := buE_ok h
  by_cases h4 : 4 ≤ q
  · have hp := cut_pm h hq h4
    rcases hs with ⟨h1, _⟩ | ⟨_, a, h2⟩
    · rw [hp] at h1; cases h1
    · obtain ⟨h3, _⟩ := stk_cut (tk := tkA) (s := (buS l).extract 0 q) q g (by rw [← buS_size h]; exact hq) h4 (by rw [cut_bl _ _ (by omega), buS_ok h]) (fun i o hi => g.tkA i o hi)
      exact (h2.one h3).2
  · have hz := cut_size (buS l) q (by omega)
    rcases hs with ⟨_, h1⟩ | ⟨h1, _⟩
    · rw [h1, cwN_small (by omega)]; rfl
    · have := pm4 h1; omega
/-- What is left of a pack is none. -/
theorem cut_sc {l : List Ob} {m : List Ent} {q : Nat} {er : Int} (h : buE l = 0) (hq : q < (buS l).size) (hs : ScA ((buS l).extract 0 q) m er) : er = 4 := by
  have g := buE_ok h
  rcases hs with ⟨_, h1⟩ | ⟨h1, _⟩
  rotate_left
  · exact h1
  exfalso
  obtain ⟨_, hp, a, h2, h3⟩ := h1
  have hz := cut_size (buS l) q (by omega)
  have h4 : 4 ≤ q := by have := pm4 hp; omega
  obtain ⟨h5, h6⟩ := stk_cut (tk := tkS) (s := (buS l).extract 0 q) q g (by rw [← buS_size h]; exact hq) h4 (by rw [cut_bl _ _ (by omega), buS_ok h]) (fun i o hi => g.tkS i o hi)
  obtain ⟨rfl, rfl⟩ := h2.one h5
  have := (at_trl (ens 4 (l.take (cwN q 4 l))).length (frmO ((buS l).extract 0 q) (4 + lenL (l.take (cwN q 4 l)))) ⟨#[]⟩ (by rw [ens_length, List.length_take]; have := g.len; omega) (by rw [h3]; apply bl_inj; rw [bl_append]; simp [bl])).2
  rw [h6] at this
  cases this
theorem ens_take (l : List Ob) (j i : Nat) (o : Ob) (hi : l[i]? = some o) (hj : i < j) : (ens 4 (l.take j))[i]? = some (enO (4 + lenL (l.take i)) o) := by
  have h1 : (l.take j)[i]? = some o := by rw [List.getElem?_take_of_lt hj]; exact hi
  rw [ens_get _ 4 i o h1, List.take_take, Nat.min_eq_left (by omega)]
/-- The load of an entry, in a class of worlds. -/
theorem quiet_en {o : Oper} {a : Act} {C : World → Prop} {K : Act → Prop} (x : Operand) (ho : o.op = .load 34 x) (g z : Nat) (D : Array Value) (e : Ent) (he : e.id.size = 32) (hx : a.eval x = .pointer (some ⟨g, z, none⟩))
    (hc : ∀ w, C w → Bk w g D 34) (hD : ∀ j v, (enC e)[j]? = some v → D[z + j]? = some v) (hn : K (a.put o.dst (.agg (enC e)))) : o.quiet Tryz.prog a C K :=
  quiet_val10 (.agg (enC e)) (fun w hw => by
    have h := hc w hw
    have hr := run_loadVar_mid (P := Tryz.prog) w g z 34 (enC e).toList _ (fun j v hv => by rw [h.cell]; exact hD j v (by rwa [Array.getElem?_toList] at hv)) Tryz.underlying34 rfl (by rw [Array.length_toList]; exact info_en (enC_size e he))
    unfold execOp
    simp [ho, hx, Instr.loadAt, Instr.sureAddr, hr]) hn
end Go.Proofs.YtbdkacfpeokggaaGreatDoor
/- Rows of objects read as lists; what a copied list gives. -/
namespace Go.Proofs.YtbdkacfpeokggaaGreatDoor
open Go.RowKit
set_option linter.unusedSimpArgs false
set_option linter.unusedVariables false
theorem obv_get : ∀ (l : List Ob) (i : Nat) (o : Ob), l[i]? = some o → (obv l)[i * 2]? = some (.int .u8 (o.k.toNat : Int)) ∧ (obv l)[i * 2 + 1]? = some (.string o.p)
  | [], _, _, h => by simp at h
  | a :: l, 0, o, h => by simp at h; subst h; simp [obv]
  | a :: l, i + 1, o, h => by
    obtain ⟨h1, h2⟩ := obv_get l i o (by simpa using h)
    have e : obv (a :: l) = Value.int .u8 (a.k.toNat : Int) :: Value.string a.p :: obv l := rfl
    rw [e, show (i + 1) * 2 = i * 2 + 1 + 1 from by omega, show i * 2 + 1 + 1 + 1 = i * 2 + 1 + 1 + 1 from rfl]
    simp only [List.getElem?_cons_succ]
    exact ⟨h1, h2⟩
theorem obv_length (l : List Ob) : (obv l).length = l.length * 2 := by
  induction l with
  | nil => rfl
  | cons a l ih =>
    have e : obv (a :: l) = Value.int .u8 (a.k.toNat : Int) :: Value.string a.p :: obv l := rfl
    rw [e, List.length_cons, List.length_cons, ih, List.length_cons]; omega
/-- Objects whose payloads are short enough to be at all. -/
def ObZ (l : List Ob) : Prop := ∀ o ∈ l, o.p.size ≤ 140737488351232
theorem ObL.sz {w : World} {a : Option Addr} {l : List Ob} (h : ObL w a l) : ObZ l := fun o ho => by
  obtain ⟨i, hi, e⟩ := List.getElem_of_mem ho
  obtain ⟨_, _, _, _, _, _, h6⟩ := h i o (by rw [List.getElem?_eq_getElem hi, e])
  exact h6
theorem row_obl {w : World} {B n m : Nat} {v : Value} {l x : List Ob} (h : w.ownsRow B 59 2 v m (obv (l ++ x))) (hz : ObZ l) (hm : (l ++ x).length = m) :
    ∃ a c, v = .slice a m c ∧ ObL w a l := by
  rcases h.2 with ⟨rfl, h0⟩ | ⟨g, cap, cur, rfl, hle, hg, hnc, _, hc, ht⟩
  · subst h0
    have : l = [] := by
      have := List.eq_nil_of_length_eq_zero hm
      exact (List.append_eq_nil_iff.1 this).1
    subst this
    exact ⟨none, 0, rfl, fun i o hi => by simp at hi⟩
  · refine ⟨some ⟨g, 0, none⟩, cap, rfl, fun i o hi => ⟨g, 0, rfl, (Array.getElem?_eq_some_iff.1 hg).1, ?_, ?_, hz o (List.mem_of_getElem? hi)⟩⟩
    all_goals
      have hil : i < l.length := (List.getElem?_eq_some_iff.1 hi).1
      have hil2 : i < m := by rw [← hm, List.length_append]; omega
      have hix : (l ++ x)[i]? = some o := by rw [List.getElem?_append_left hil]; exact hi
      obtain ⟨q1, q2⟩ := obv_get _ i o hix
      have hb : Bk w g cur 59 := hg
    · rw [← ht, List.getElem?_take, if_pos (by omega), Array.getElem?_toList] at q1
      rw [hb.cell, Nat.zero_add]; exact q1
    · rw [← ht, List.getElem?_take, if_pos (by omega), Array.getElem?_toList] at q2
      rw [hb.cell, Nat.zero_add]; exact q2
theorem row_obl0 {w : World} {B m : Nat} {v : Value} {l : List Ob} (h : w.ownsRow B 59 2 v m (obv l)) (hz : ObZ l) (hm : l.length = m) : ∃ a c, v = .slice a m c ∧ ObL w a l := by
  have := row_obl (x := []) (n := 0) (by rw [List.append_nil]; exact h) hz (by rw [List.append_nil]; exact hm)
  exact this
/-- What own gives is a list. -/
theorem own_list {w : World} {B n g cp : Nat} {l : List Ob} (h : w.ownsRow B 59 2 (.slice (some ⟨g, 0, none⟩) (n + 1) cp) (n + 1) (obv (l ++ [mkO]))) (hz : ObZ l) (hm : l.length = n) : ObL w (some ⟨g, 0, none⟩) l := by
  obtain ⟨a, c, h1, h2⟩ := row_obl (n := 0) h hz (by rw [List.length_append, List.length_singleton, hm])
  injection h1 with h1 _ _
  rw [h1]; exact h2
theorem neq_obj (k : UInt8) (p : ByteArray) (w : World) : (binOp .neq 59 (.agg #[.int .u8 (k.toNat : Int), .string p]) (.agg #[.int .u8 (k.toNat : Int), .string p])).run Tryz.prog w = .ok (.bool false) w := by
  have hu : Tryz.prog.underlying 59 = some (.struct (Tryz.prog.fieldsOf 59)) := by kernel_rfl
  have hst : Tryz.prog.stoodInHeld 59 = false := by kernel_rfl
  have hfs : (Tryz.prog.fieldsOf 59).toList.map (fun q => (q.name != "_", q.type, q.offset)) = [(true, 5, 0), (true, 9, 1)] := by kernel_rfl
  rw [run_neq_struct, run_equalIn_struct w 9999 59 _ _ hu hst]
  generalize (Tryz.prog.fieldsOf 59).toList = fs at hfs
  have hlen : fs.length = 2 := by have := congrArg List.length hfs; simpa using this
  match fs, hlen, hfs with
  | [f0, f1], _, hfs =>
    simp only [List.map_cons, List.map_nil, List.cons.injEq, Prod.mk.injEq, and_true, bne_iff_ne] at hfs
    obtain ⟨⟨n0, t0, o0⟩, n1, t1, o1⟩ := hfs
    have u8a : (isAgg 5).run Tryz.prog w = .ok false w := by kernel_rfl
    have sa : (isAgg 9).run Tryz.prog w = .ok false w := by kernel_rfl
    have q1 : (Op.equalIn 9999 5 (.int .u8 (k.toNat : Int)) (.int .u8 (k.toNat : Int))).run Tryz.prog w = .ok true w := by
      have := run_equalIn_int (P := Tryz.prog) w 9998 5 .u8 .u8 (k.toNat : Int) (k.toNat : Int) Tryz.underlying5
      rwa [beq_self_eq_true] at this
    have q2 : (Op.equalIn 9999 9 (.string p) (.string p)).run Tryz.prog w = .ok true w := by
      have := run_equalIn_string (P := Tryz.prog) w 9998 9 p p Tryz.underlying9
      rwa [beq_self_eq_true] at this
    have p1 : (part 5 #[.int .u8 (k.toNat : Int), .string p] 0).run Tryz.prog w = .ok (.int .u8 (k.toNat : Int)) w := part_cell _ _ _ w u8a rfl
    have p2 : (part 9 #[.int .u8 (k.toNat : Int), .string p] 1).run Tryz.prog w = .ok (.string p) w := part_cell _ _ _ w sa rfl
    simp only [Op.eqFields, n0, n1, t0, t1, o0, o1, ne_eq, not_false_eq_true, if_true, Sem.run_bind, p1, p2, Result.andThen_ok, q1, q2, Bool.not_true, Bool.false_eq_true, if_false, Sem.run_pure]
end Go.Proofs.YtbdkacfpeokggaaGreatDoor
