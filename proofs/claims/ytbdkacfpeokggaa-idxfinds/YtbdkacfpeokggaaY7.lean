import Derived.Test.YtbdkacfpeokggaaY3
import Derived.Test.YtbdkacfpeokggaaY6
import Derived.Laws.ResultCell
import Derived.RegionTactic
import Derived.BigRegion
import Derived.Laws.MakeOwn
import Derived.Test.YtbdkacfpeokggaaChecked
import Derived.BigQuiet
import Derived.Deep.QuietTactic
/- idx.takeEntry. -/
namespace Go.Proofs.Ytbdkacfpeokggaa
open Go.RowKit
set_option linter.unusedSimpArgs false
set_option linter.unusedVariables false
theorem Step.then {b : Nat} {w w1 w2 : World} {s1 s2 : ByteArray} (h1 : Step b w w1 s1) (h2 : Step b w1 w2 s2) : Step b w w2 s2 :=
  ⟨h2.os.trans h1.os, h2.tape.trans h1.tape, h2.output.trans h1.output, Nat.le_trans h1.size h2.size, h2.cell, h2.frozen, fun k hk hne => (h2.block k (Nat.lt_of_lt_of_le hk h1.size) hne).trans (h1.block k hk hne)⟩
theorem cell_blkX {w w' : World} {r j : Nat} (h : w'.heap[r]? = w.heap[r]?) : w'.cell? ⟨r, j, none⟩ = w.cell? ⟨r, j, none⟩ ∧ w'.frozen? ⟨r, j, none⟩ = w.frozen? ⟨r, j, none⟩ := by simp [World.cell?, World.frozen?, h]
/-- An entry that is being taken: the reader, the entry's block and that of the answer. -/
structure TE (w : World) (b : Nat) (t : ByteArray) (C : Array Value) (wr : World) : Prop where
  rd : Step b w wr t
  rb : Bk wr w.heap.size z35X 38
  nb : Bk wr (w.heap.size + 1) C 38
  bl : b < w.heap.size
theorem TE.step {w wr w' : World} {b : Nat} {t t' : ByteArray} {C : Array Value} (h : TE w b t C wr) (hs : Step b wr w' t') : TE w b t' C w' := by
  have hb := h.bl
  refine ⟨h.rd.then hs, ?_, ?_, hb⟩
  · unfold Bk; rw [hs.block _ h.rb.lt (by omega)]; exact h.rb
  · unfold Bk; rw [hs.block _ h.nb.lt (by omega)]; exact h.nb
theorem TE.turn {w wr w' : World} {b : Nat} {t : ByteArray} {C C' : Array Value} (h : TE w b t C wr) (hg : wr.grownBy w' (some (w.heap.size + 1))) (hn : Bk w' (w.heap.size + 1) C' 38) : TE w b t C' w' := by
  have hb := h.bl
  have hlt : b < wr.heap.size := Nat.lt_of_lt_of_le hb h.rd.size
  have hne : ∀ k, k < w.heap.size → some k ≠ some (w.heap.size + 1) := fun k hk e => by injection e with e; omega
  have q := cell_blkX (j := 0) (hg.block b hlt (hne b hb))
  refine ⟨⟨hg.os.trans h.rd.os, hg.tape.trans h.rd.tape, hg.output.trans h.rd.output, Nat.le_trans h.rd.size hg.size, by rw [q.1]; exact h.rd.cell, by rw [q.2]; exact h.rd.frozen, fun k hk hk2 => (hg.block k (Nat.lt_of_lt_of_le hk h.rd.size) (hne k hk)).trans (h.rd.block k hk hk2)⟩, ?_, hn, hb⟩
  unfold Bk
  rw [hg.block _ h.rb.lt (fun e => by injection e with e; omega)]
  exact h.rb
theorem z35_size : z35X.size = 35 := rfl
theorem xe_eq (C : Array Value) (e : Xe) (h : e.id.size = 32) (hC : C.size = 35) (h1 : ∀ j, j < 32 → C[j]? = (idc e.id)[j]?) (h2 : C[32]? = some (.int .u8 (e.k.toNat : Int))) (h3 : C[33]? = some (.int .i64 e.off)) (h4 : C[34]? = some (.int .i64 e.sz)) : C = xeC e := by
  obtain ⟨k1, k2, k3⟩ := xeC_at e h
  apply Array.ext_getElem?
  intro i
  by_cases q : i < 32
  · have hi : i < (idc e.id).size := by rw [idc_size, h]; exact q
    have := xeC_id e h i _ (Array.getElem?_eq_getElem hi)
    rw [Nat.zero_add] at this
    rw [h1 i q, this, Array.getElem?_eq_getElem hi]
  · by_cases q2 : i < 35
    · have : i = 32 ∨ i = 33 ∨ i = 34 := by omega
      rcases this with rfl | rfl | rfl
      · rw [h2, k1]
      · rw [h3, k2]
      · rw [h4, k3]
    · rw [Array.getElem?_eq_none (by omega), Array.getElem?_eq_none (by rw [xeC_size e h]; omega)]
/-- The name copied in. -/
theorem TE.copy {w wr : World} {b : Nat} {t x : ByteArray} (h : TE w b t z35X wr) (hx : x.size = 32) :
    ∃ w', (∀ ty, (Builtin.copy_ #[67, 9] ty #[.slice (some ⟨w.heap.size + 1, 0, none⟩) 32 32, .string x]).run Try.prog wr = .ok (goInt 32) w') ∧ TE w b t (putA z35X 0 (bvc (byl x))) w' := by
  have hi : (Try.prog.info? 5).map (·.size) = some 1 := by kernel_rfl
  have hm : Nat.min x.size 32 = 32 := by rw [hx]; rfl
  refine ⟨wr.setCells (w.heap.size + 1) 0 (bvc ((byl x).take 32)), fun ty => ?_, ?_⟩
  · have q := copy_str wr 67 9 ty 5 (w.heap.size + 1) 0 32 32 x Try.underlying67 hi (fun j hj => by
      rw [hm] at hj
      rw [h.nb.cell, Nat.zero_add, Array.getElem?_eq_getElem (by rw [z35_size]; omega)]; rfl) (fun j _ => h.nb.frozen _)
    rw [hm] at q
    exact q
  · have e : (byl x).take 32 = byl x := List.take_of_length_le (by rw [byl_length, hx]; omega)
    rw [e]
    exact h.turn (grown_puts _ _ _ (World.grownBy.refl _ _)) (Blk.puts _ _ _ _ h.nb)
theorem bl_ex (t : ByteArray) (k : Nat) : bl (t.extract k t.size) = (bl t).drop k := by
  rw [bl_extract, List.take_of_length_le (by rw [bl_length]; exact Nat.le_refl _)]
theorem ex_size (t : ByteArray) (k : Nat) : (t.extract k t.size).size = t.size - k := by
  rw [← bl_length, bl_ex, List.length_drop, bl_length]
set_option maxHeartbeats 4000000 in
set_option maxRecDepth 100000 in
theorem takeEntry_any (t : ByteArray) (b : Nat) (w : World) (hc : w.cell? ⟨b, 0, none⟩ = some (.string t)) (hf : w.frozen? ⟨b, 0, none⟩ = false) (hb : b < w.heap.size) (ht : 41 ≤ t.size) (hs : t.size ≤ 100000000) :
    Calls Try.prog 38 #[.pointer (some ⟨b, 0, none⟩)] w fun e w' => e = .returned (.agg (xeC (rdXe (bl t)))) ∧ Step b w w' (t.extract 41 t.size) := by
  have hm : ∀ {n : Nat}, n ≤ 100000000 → n ≤ maxLen := fun h => by unfold maxLen; omega
  have T0 : Hid (TE w b t z35X ((w.alloc (.cells z35X 38)).alloc (.cells z35X 38))) := by
    have q := bk_new (w.alloc (.cells z35X 38)) z35X 38
    rw [al_size] at q
    exact ⟨Step.of_below (((Below.refl _ _).alloc (Nat.le_refl _) _).alloc (by rw [al_size]; omega) _) hb hc hf, (bk_new _ _ _).alloc _, q, hb⟩
  have hsl := slice32 (w.heap.size + 1)
  obtain ⟨x, hx⟩ : ∃ x, t.extract 0 32 = x := ⟨_, rfl⟩
  obtain ⟨t1, ht1⟩ : ∃ t1, t.extract 32 t.size = t1 := ⟨_, rfl⟩
  obtain ⟨t2, ht2⟩ : ∃ t2, t1.extract 1 t1.size = t2 := ⟨_, rfl⟩
  obtain ⟨t3, ht3⟩ : ∃ t3, t2.extract 4 t2.size = t3 := ⟨_, rfl⟩
  obtain ⟨t4, ht4⟩ : ∃ t4, t3.extract 4 t3.size = t4 := ⟨_, rfl⟩
  have b1 : bl t1 = (bl t).drop 32 := by rw [← ht1]; exact bl_ex t 32
  have b2 : bl t2 = (bl t).drop 33 := by rw [← ht2, bl_ex, b1, List.drop_drop]
  have b3 : bl t3 = (bl t).drop 37 := by rw [← ht3, bl_ex, b2, List.drop_drop]
  have b4 : bl t4 = (bl t).drop 41 := by rw [← ht4, bl_ex, b3, List.drop_drop]
  have s1 : t1.size = t.size - 32 := by rw [← ht1]; exact ex_size t 32
  have s2 : t2.size = t.size - 33 := by rw [← ht2, ex_size, s1]; omega
  have s3 : t3.size = t.size - 37 := by rw [← ht3, ex_size, s2]; omega
  have hxs : x.size = 32 := by rw [← hx, ← bl_length, bl_extract, List.length_drop, List.length_take, bl_length]; omega
  obtain ⟨kz, hkz⟩ : ∃ k, fixV ((bl t1).take 1) = k := ⟨_, rfl⟩
  obtain ⟨oz, hoz⟩ : ∃ k, fixV ((bl t2).take 4) = k := ⟨_, rfl⟩
  obtain ⟨zz, hzz⟩ : ∃ k, fixV ((bl t3).take 4) = k := ⟨_, rfl⟩
  have lk : kz < 256 := by rw [← hkz]; have := fix_lt t1 1 (by omega); omega
  have lo : oz < 4294967296 := by rw [← hoz]; have := fix_lt t2 4 (by omega); omega
  have lz : zz < 4294967296 := by rw [← hzz]; have := fix_lt t3 4 (by omega); omega
  obtain ⟨X, hXe⟩ : ∃ X, xeC (rdXe (bl t)) = X := ⟨_, rfl⟩
  have hid : (rdXe (bl t)).id = x := by
    apply bl_inj
    show (bl t).take 32 = bl x
    rw [← hx, bl_extract, List.drop_zero]
  have hid32 : (rdXe (bl t)).id.size = 32 := by rw [hid, hxs]
  have hkk : ((rdXe (bl t)).k.toNat : Int) = (kz : Int) := by
    have q : (bl t1).take 1 = [((bl t).drop 32).headD 0] := by
      rw [b1]
      cases hq : (bl t).drop 32 with
      | nil =>
        have := congrArg List.length hq
        rw [List.length_drop, bl_length] at this
        simp at this
        omega
      | cons a r => rfl
    rw [← hkz, q]
    show _ = ((fixV [((bl t).drop 32).headD 0] : Nat) : Int)
    simp [fixV, rdXe]
  have HXX : Hid (∀ W, Bk W (w.heap.size + 1) (putA z35X 0 (bvc (byl x))) 38 → Bk (((W.setCell ⟨w.heap.size + 1, 32, none⟩ (.int .u8 (kz : Int))).setCell ⟨w.heap.size + 1, 33, none⟩ (.int .i64 (oz : Int))).setCell ⟨w.heap.size + 1, 34, none⟩ (.int .i64 (zz : Int))) (w.heap.size + 1) X 38) := fun W hW => by
    have q := ((hW.set 32 (.int .u8 (kz : Int))).set 33 (.int .i64 (oz : Int))).set 34 (.int .i64 (zz : Int))
    have hps : (putA z35X 0 (bvc (byl x))).size = 35 := by rw [putA_size, z35_size]
    have e : (((putA z35X 0 (bvc (byl x))).setIfInBounds 32 (.int .u8 (kz : Int))).setIfInBounds 33 (.int .i64 (oz : Int))).setIfInBounds 34 (.int .i64 (zz : Int)) = X := by
      rw [← hXe]
      refine xe_eq _ _ hid32 (by simp [hps]) (fun j hj => ?_) ?_ ?_ ?_
      · rw [Array.getElem?_setIfInBounds_ne (by omega), Array.getElem?_setIfInBounds_ne (by omega), Array.getElem?_setIfInBounds_ne (by omega), putA_get _ _ _ _ (by simp [bvc, byl_length, hxs, z35_size]), if_pos (by simp [bvc, byl_length, hxs]; omega), hid, idc, List.getElem?_toArray, Nat.sub_zero]
      · rw [Array.getElem?_setIfInBounds_ne (by omega), Array.getElem?_setIfInBounds_ne (by omega), Array.getElem?_setIfInBounds_self_of_lt (by rw [hps]; omega), hkk]
      · rw [Array.getElem?_setIfInBounds_ne (by omega), Array.getElem?_setIfInBounds_self_of_lt (by simp [hps])]
        rw [← hoz, b2]; rfl
      · rw [Array.getElem?_setIfInBounds_self_of_lt (by simp [hps])]
        rw [← hzz, b3]; rfl
    rw [e] at q
    exact q
  have HIX : Hid ((Try.prog.info? 38).map (·.size) = some X.size ∧ X.all (·.oneCell') = true ∧ X.size = 35) := by rw [← hXe]; exact ⟨info_xe (xeC_size _ hid32), xeC_all _, xeC_size _ hid32⟩
  have h4 : t.extract 41 t.size = t4 := by apply bl_inj; rw [bl_ex, b4]
  have HS : Hid (t1.size = t.size - 32 ∧ t2.size = t.size - 33 ∧ t3.size = t.size - 37) := ⟨s1, s2, s3⟩
  have HT : Hid (t.extract 32 t.size = t1 ∧ t1.extract 1 t1.size = t2 ∧ t2.extract 4 t2.size = t3 ∧ t3.extract 4 t3.size = t4) := ⟨ht1, ht2, ht3, ht4⟩
  have HF : Hid (fixV ((bl t1).take 1) = kz ∧ fixV ((bl t2).take 4) = oz ∧ fixV ((bl t3).take 4) = zz) := ⟨hkz, hoz, hzz⟩
  have hq0 : (putA z35X 0 (bvc (byl x)))[32]? = some (.int .u8 0) ∧ (putA z35X 0 (bvc (byl x)))[33]? = some (.int .i64 0) ∧ (putA z35X 0 (bvc (byl x)))[34]? = some (.int .i64 0) := by
    have hle : 0 + (bvc (byl x)).length ≤ z35X.size := by simp [bvc, byl_length, hxs, z35_size]
    refine ⟨?_, ?_, ?_⟩ <;> (rw [putA_get _ _ _ _ hle, if_neg (by simp [bvc, byl_length, hxs])]; rfl)
  have HQ0 : Hid _ := hq0
  rw [h4, hXe]
  clear hc hf b1 b2 b3 b4 s1 s2 s3 ht1 ht2 ht3 ht4 hkz hoz hzz hid hid32 hkk hXe h4 hq0
  have HX : Hid (t.extract 0 32 = x ∧ x.size = 32) := ⟨hx, hxs⟩
  clear hx hxs
  go_enter Try.func38, Try.ntmps38
  go_wp2_with fail
  refine (take_ok t b _ (hm hs) T0.out.rd.cell T0.out.rd.frozen (Nat.lt_of_lt_of_le hb T0.out.rd.size) 32 (by omega)).mono ?_
  rintro e w1 ⟨rfl, hst1⟩
  rw [HX.out.1]
  rw [HT.out.1] at hst1
  have T1 : Hid (TE w b t1 z35X w1) := T0.out.step hst1
  obtain ⟨w2, hcp, hT2⟩ := T1.out.copy HX.out.2
  have T2 : Hid (TE w b t1 (putA z35X 0 (bvc (byl x))) w2) := hT2
  clear hst1 T0 hT2 T1
  go_wp2_with (first
    | (refine wpList_copyX rfl (.tmp 18) (.tmp 19) 67 9 rfl (.slice (some ⟨w.heap.size + 1, 0, none⟩) 32 32) (.string x) (goInt 32) w2 rfl rfl (hcp _) ?_)
    | fail)
  refine (fixed_ok t1 b w2 (hm (by rw [HS.out.1]; omega)) T2.out.rd.cell T2.out.rd.frozen (Nat.lt_of_lt_of_le hb T2.out.rd.size) 1 (by omega) (by omega) (by rw [HS.out.1]; omega)).mono ?_
  rintro e w3 ⟨rfl, hst3⟩
  rw [HF.out.1]
  rw [HT.out.2.1] at hst3
  have T3 : Hid (TE w b t2 (putA z35X 0 (bvc (byl x))) w3) := T2.out.step hst3
  clear hst3 T2 hcp hsl
  go_wp2_with fail
  refine (fixed_ok t2 b w3 (hm (by rw [HS.out.2.1]; omega)) T3.out.rd.cell T3.out.rd.frozen (Nat.lt_of_lt_of_le hb T3.out.rd.size) 4 (by omega) (by omega) (by rw [HS.out.2.1]; omega)).mono ?_
  rintro e w4 ⟨rfl, hst4⟩
  rw [HF.out.2.1]
  rw [HT.out.2.2.1] at hst4
  have T4 : Hid (TE w b t3 (putA z35X 0 (bvc (byl x))) w4) := T3.out.step hst4
  clear hst4 T3
  go_wp2_with fail
  refine (fixed_ok t3 b w4 (hm (by rw [HS.out.2.2]; omega)) T4.out.rd.cell T4.out.rd.frozen (Nat.lt_of_lt_of_le hb T4.out.rd.size) 4 (by omega) (by omega) (by rw [HS.out.2.2]; omega)).mono ?_
  rintro e w5 ⟨rfl, hst5⟩
  rw [HF.out.2.2]
  rw [HT.out.2.2.2] at hst5
  have T5 : Hid (TE w b t4 (putA z35X 0 (bvc (byl x))) w5) := T4.out.step hst5
  have y1 : w5.cell? ⟨w.heap.size + 1, 32, none⟩ = some (.int .u8 0) := by rw [T5.out.nb.cell]; exact HQ0.out.1
  have y2 : w5.cell? ⟨w.heap.size + 1, 33, none⟩ = some (.int .i64 0) := by rw [T5.out.nb.cell]; exact HQ0.out.2.1
  have y3 : w5.cell? ⟨w.heap.size + 1, 34, none⟩ = some (.int .i64 0) := by rw [T5.out.nb.cell]; exact HQ0.out.2.2
  have z1 : w5.frozen? ⟨w.heap.size + 1, 32, none⟩ = false := T5.out.nb.frozen _
  have z2 : w5.frozen? ⟨w.heap.size + 1, 33, none⟩ = false := T5.out.nb.frozen _
  have z3 : w5.frozen? ⟨w.heap.size + 1, 34, none⟩ = false := T5.out.nb.frozen _
  have q1 : IntKind.u8.wrap (kz : Int) = (kz : Int) := by simp [IntKind.wrap, IntKind.bits, IntKind.signed]; omega
  have q2 : IntKind.i64.wrap (oz : Int) = (oz : Int) := by rw [IntKind.wrap_i64]; omega
  have q3 : IntKind.i64.wrap (zz : Int) = (zz : Int) := by rw [IntKind.wrap_i64]; omega
  have BX := HXX.out w5 T5.out.nb
  have T6 : Hid (TE w b t4 X (((w5.setCell ⟨w.heap.size + 1, 32, none⟩ (.int .u8 (kz : Int))).setCell ⟨w.heap.size + 1, 33, none⟩ (.int .i64 (oz : Int))).setCell ⟨w.heap.size + 1, 34, none⟩ (.int .i64 (zz : Int)))) := T5.out.turn (Lib.grownBy_setB (Lib.grownBy_setB (Lib.grownBy_setB (World.grownBy.refl _ _) 32 _) 33 _) 34 _) BX
  clear hst5 T4 BX HXX T5
  go_wp2_with (first
    | (refine wpList_get rfl 38 (.tmp 3) rfl (w.heap.size + 1) 0 X X 38 _ rfl T6.out.nb (fun j v hv => by rw [Nat.zero_add]; exact hv) Try.underlying38 rfl HIX.out.1 ?_)
    | (refine wpList_stoX rfl 38 (.tmp 2) (.tmp 45) rfl w.heap.size X z35X 38 rfl rfl T6.out.rb HIX.out.1 (by rw [HIX.out.2.2]; rfl) HIX.out.2.1 ?_; intro w7 HB7 HG7)
    | fail)
  refine bodyPost_ret (results_cell_row rfl _ _ w.heap.size 38 X (0, 0) _ rfl HB7.out Try.underlying38 rfl HIX.out.1) rfl ⟨rfl, ?_⟩
  have hg := HG7.out
  have h6 := T6.out.rd
  have hne : ∀ k, k < w.heap.size → some k ≠ some w.heap.size := fun k hk e => by injection e with e; omega
  have q := cell_blkX (j := 0) (hg.block b (Nat.lt_of_lt_of_le hb h6.size) (hne b hb))
  exact ⟨hg.os.trans h6.os, hg.tape.trans h6.tape, hg.output.trans h6.output, Nat.le_trans h6.size hg.size, by rw [q.1]; exact h6.cell, by rw [q.2]; exact h6.frozen, fun k hk hk2 => (hg.block k (Nat.lt_of_lt_of_le hk h6.size) (hne k hk)).trans (h6.block k hk hk2)⟩
end Go.Proofs.Ytbdkacfpeokggaa
/- idx.take. -/
namespace Go.Proofs.Ytbdkacfpeokggaa
open Go.RowKit
set_option linter.unusedSimpArgs false
set_option linter.unusedVariables false
/-- A row that is being filled. -/
structure TkR (w : World) (s : ByteArray) (b g m : Nat) (t : ByteArray) (l : List Xe) (wr : World) : Prop where
  rc : wr.cell? ⟨b, 0, none⟩ = some (.string t)
  rf : wr.frozen? ⟨b, 0, none⟩ = false
  rl : b < wr.heap.size
  row : ∃ C, Bk wr g C 38 ∧ C.size = m * 35 ∧ ∀ i e, l[i]? = some e → ∀ j, j < 35 → C[i * 35 + j]? = (xeC e)[j]?
  bel : Below w.heap.size w wr
  hb : w.heap.size < b
  hg : b < g
  zb : Bk wr w.heap.size (idc s) 30
theorem TkR.step {w wr w' : World} {s t t' : ByteArray} {b g m : Nat} {l : List Xe} (h : TkR w s b g m t l wr) (hs : Step b wr w' t') : TkR w s b g m t' l w' := by
  have h1 := h.hb
  have h2 := h.hg
  obtain ⟨C, c1, c2⟩ := h.row
  refine ⟨hs.cell, hs.frozen, Nat.lt_of_lt_of_le h.rl hs.size, ⟨C, ?_, c2⟩, h.bel.trans (hs.below (by omega) h.bel.size), h.hb, h.hg, ?_⟩
  · unfold Bk; rw [hs.block _ c1.lt (by omega)]; exact c1
  · unfold Bk; rw [hs.block _ h.zb.lt (by omega)]; exact h.zb
theorem TkR.put {w wr w' : World} {s t : ByteArray} {b g m : Nat} {l : List Xe} {C' : Array Value} {e : Xe} (h : TkR w s b g m t l wr) (hg : wr.grownBy w' (some g)) (hC : Bk w' g C' 38) (hz : C'.size = m * 35) (hn : ∀ i e', (l ++ [e])[i]? = some e' → ∀ j, j < 35 → C'[i * 35 + j]? = (xeC e')[j]?) : TkR w s b g m t (l ++ [e]) w' := by
  have h1 := h.hb
  have h2 := h.hg
  have q := cell_blkX (j := 0) (hg.block b h.rl (fun e => by injection e with e; omega))
  refine ⟨by rw [q.1]; exact h.rc, by rw [q.2]; exact h.rf, Nat.lt_of_lt_of_le h.rl hg.size, ⟨C', hC, hz, hn⟩, below_own h.bel h.bel.size hg (by omega), h.hb, h.hg, ?_⟩
  unfold Bk; rw [hg.block _ h.zb.lt (fun e => by injection e with e; omega)]; exact h.zb
theorem take_snocXt {l : List Xe} {k : Nat} {e : Xe} (h : l[k]? = some e) : l.take (k + 1) = l.take k ++ [e] := by
  rw [List.take_add_one, h]; rfl
theorem inf_xe3 : (Try.prog.info? 38).map (fun i => (i.zero, i.size, i.bytes)) = some (some (.agg z35X), 35, 56) := inf_xe
theorem make_xe (n : Nat) (hn : n ≤ 65536) (u : World) : (Instr.makeSlice 24 (.int .i64 (n : Int)) (.int .i64 (n : Int))).run Try.prog u = .ok (.slice (some ⟨u.heap.size, 0, none⟩) n n) (u.alloc (.cells (madeCells (Value.agg z35X).cells (n * 35)) 38)) := by
  obtain ⟨i0, hi, hz0, hz1, hz2⟩ := info_parts inf_xe
  have h := run_makeSlice u 24 38 i0 (.agg z35X) Try.underlying24 hi hz0 .i64 .i64 (n : Int) (n : Int) (by omega) (Int.le_refl _) (by rw [hz1]; omega) (by rw [hz2]; omega) (by omega)
  rw [hz1, Int.toNat_natCast] at h
  exact h
set_option maxHeartbeats 4000000 in
set_option maxRecDepth 100000 in
theorem itake_any (S : ByteArray) (w : World) (h1 : 1064 ≤ S.size) (h2 : S.size ≤ 2688040) :
    Calls Try.prog 22 #[.string S] w fun e w' => ∃ g n, e = .returned (.tuple #[.agg (idc (rdS (bl S))), .slice (some ⟨g, 0, none⟩) n n]) ∧ n = (S.size - 1064) / 41 ∧ XeL w' (some ⟨g, 0, none⟩) (rdA (bl S)) ∧ Below w.heap.size w w' := by
  obtain ⟨s, hs⟩ : ∃ s, rdS (bl S) = s := ⟨_, rfl⟩
  have hss : s.size = 32 := by
    rw [← hs, ← bl_length]
    show (((bl S).drop 4).take 32).length = 32
    rw [List.length_take, List.length_drop, bl_length]; omega
  obtain ⟨x, hx⟩ : ∃ x, S.extract 4 S.size = x := ⟨_, rfl⟩
  have hxs : x.size = S.size - 4 := by rw [← hx]; exact ex_size S 4
  have hxb : (byl x).take 32 = byl s := by
    rw [← hs, ← hx]
    show List.take 32 ((bl (S.extract 4 S.size)).map UInt8.toNat) = ((((bl S).drop 4).take 32).map UInt8.toNat)
    rw [bl_ex, List.map_take]
  have hsl := slice32 w.heap.size
  have hcp : ∀ W, Bk W w.heap.size z32c 30 → ∀ ty, (Builtin.copy_ #[67, 9] ty #[.slice (some ⟨w.heap.size, 0, none⟩) 32 32, .string x]).run Try.prog W = .ok (goInt 32) (W.setCells w.heap.size 0 (bvc (byl s))) := fun W hW ty => by
    have hi : (Try.prog.info? 5).map (·.size) = some 1 := by kernel_rfl
    have hm : Nat.min x.size 32 = 32 := by rw [hxs]; exact Nat.min_eq_right (by omega)
    have q := copy_str W 67 9 ty 5 w.heap.size 0 32 32 x Try.underlying67 hi (fun j hj => by
      rw [hm] at hj
      rw [hW.cell, Nat.zero_add, Array.getElem?_eq_getElem (by rw [z32c_size]; omega)]; rfl) (fun j _ => hW.frozen _)
    rw [hm, hxb] at q
    exact q
  have hz := zero_id
  have c1 := hcp (w.alloc (.cells z32c 30)) (bk_new _ _ _)
  have c2 := hcp (w.alloc (.cells z32c 30)).drew (bk_new _ _ _)
  have h4 : (4 : Int) ≤ S.size := by omega
  clear hcp hxb
  obtain ⟨T, hT⟩ : ∃ T, S.extract 1064 S.size = T := ⟨_, rfl⟩
  have hTs : T.size = S.size - 1064 := by rw [← hT]; exact ex_size S 1064
  have hTb : bl T = (bl S).drop 1064 := by rw [← hT]; exact bl_ex S 1064
  obtain ⟨n, hn⟩ : ∃ n, (S.size - 1064) / 41 = n := ⟨_, rfl⟩
  have hn6 : n ≤ 65536 := by omega
  have HN : Hid (41 * n ≤ T.size) := by show 41 * n ≤ T.size; omega
  have hmk := make_xe n hn6
  have hdv : (T.size : Int) / 41 = (n : Int) := by omega
  have h5 : (1064 : Int) ≤ S.size := by omega
  have hTm : T.size ≤ maxLen := by unfold maxLen; omega
  have hTq : T.size ≤ 2688040 := by omega
  obtain ⟨L, hL⟩ : ∃ L, rdA (bl S) = L := ⟨_, rfl⟩
  have hLl : L.length = n := by rw [← hL, rdA, rdL_len, bl_length, hn]
  have HLg : Hid (∀ k, k < n → L[k]? = some (rdXe ((bl T).drop (41 * k)))) := fun k hk => by
    rw [← hL, rdA, bl_length, hn, rdL_get _ _ _ hk, hTb]
  have HI : Hid ((Try.prog.info? 30).map (·.size) = some (idc s).size ∧ (idc s).all (·.oneCell') = true ∧ (idc s).size = 32 ∧ L.length = n) := ⟨info_32 (by rw [idc_size, hss]), idc_allX s, by rw [idc_size, hss], hLl⟩
  rw [hs, hL, hn]
  clear hTb hn hL hLl hs hTs
  go_enter Try.func22, Try.ntmps22
  go_wp2_with fail
  go_region
  have hput : putA z32c 0 (bvc (byl s)) = idc s := by
    have hle : 0 + (bvc (byl s)).length ≤ z32c.size := by rw [z32c_size]; simp [bvc, byl_length, hss]
    apply Array.ext_getElem?
    intro j
    rw [putA_get _ _ _ _ hle]
    by_cases hj : j < 32
    · rw [if_pos (by simp [bvc, byl_length, hss]; omega), idc, List.getElem?_toArray, Nat.sub_zero]
    · rw [if_neg (by simp [bvc, byl_length, hss]; omega), Array.getElem?_eq_none (by rw [z32c_size]; omega), Array.getElem?_eq_none (by rw [idc_size, hss]; omega)]
  have hB0 : Bk ((w.alloc (.cells z32c 30)).drew.setCells w.heap.size 0 (bvc (byl s))) w.heap.size (idc s) 30 := by
    rw [← hput]
    exact Blk.puts _ _ _ _ (bk_new _ _ _)
  have hbel : Below w.heap.size w ((w.alloc (.cells z32c 30)).drew.setCells w.heap.size 0 (bvc (byl s))) := below_own (((Below.refl _ _).alloc (Nat.le_refl _) _).drew) (by show w.heap.size ≤ (w.alloc _).heap.size; rw [al_size]; omega) (grown_puts _ _ _ (World.grownBy.refl _ _)) (Nat.le_refl _)
  obtain ⟨W1, hW1⟩ : ∃ W1, (w.alloc (.cells z32c 30)).drew.setCells w.heap.size 0 (bvc (byl s)) = W1 := ⟨_, rfl⟩
  rw [hW1] at hB0 hbel ⊢
  have H1 : Hid (Bk W1 w.heap.size (idc s) 30 ∧ Below w.heap.size w W1) := ⟨hB0, hbel⟩
  clear c1 c2 hz hsl hW1 hB0 hbel hput hx hxs hss h4
  go_wp2_with fail
  refine (new_any T W1).mono ?_
  rintro e w2 ⟨rfl, rfl⟩
  have H2 : Hid (Bk (W1.alloc (.cells #[.string T] 100)) W1.heap.size #[.string T] 100) := bk_new _ _ _
  have hcell : (W1.alloc (.cells #[.string T] 100)).cell? ⟨W1.heap.size, 0, none⟩ = some (.string T) := by rw [H2.out.cell]; rfl
  go_wp2_with fail
  refine (left_any T W1.heap.size _ hTm hcell).mono ?_
  rintro e w3 ⟨rfl, hw3⟩
  obtain rfl := hw3.symm
  have hsz : w.heap.size < W1.heap.size := H1.out.1.lt
  have T0 : Hid (TkR w s W1.heap.size (W1.heap.size + 1) n T (L.take 0) ((W1.alloc (.cells #[.string T] 100)).alloc (.cells (madeCells (Value.agg z35X).cells (n * 35)) 38))) := by
    have q := bk_new (W1.alloc (.cells #[.string T] 100)) (madeCells (Value.agg z35X).cells (n * 35)) 38
    rw [al_size] at q
    refine ⟨?_, (H2.out.alloc _).frozen _, (H2.out.alloc _).lt, ⟨_, q, by simp [madeCells], fun i e he => by simp at he⟩, (H1.out.2.alloc H1.out.2.size _).alloc (by rw [al_size]; have := H1.out.2.size; omega) _, hsz, by omega, (H1.out.1.alloc _).alloc _⟩
    rw [(H2.out.alloc _).cell]; rfl
  clear hcell H2 H1 hT h5
  obtain ⟨b, hb⟩ : ∃ b, W1.heap.size = b := ⟨_, rfl⟩
  go_wp2_with fail
  clear hdv hmk
  go_loopw [19] (fun v wr => ∃ (k : Nat) (t : ByteArray), v = .int .i64 k ∧ k ≤ n ∧ Hid (TkR w s b (b + 1) n t (L.take k) wr) ∧ Hid (bl t = (bl T).drop (41 * k))) (fun v _ => n - (intOf v).toNat)
  case atStart =>
    rw [hb] at T0
    exact ⟨0, T, rfl, Nat.zero_le _, T0.out, rfl⟩
  case round =>
    obtain ⟨k, t, rfl, hk, HR, HT⟩ := hrel
    clear T0
    by_cases hlt : k < n
    · have hkz : (k : Int) < (n : Nat) := by omega
      have ht : t.size = T.size - 41 * k := by
        have := congrArg List.length HT.out
        rw [List.length_drop, bl_length, bl_length] at this
        exact this
      have h41 := HN.out
      have HE : Hid (L[k]? = some (rdXe (bl t))) := by rw [HT.out]; exact HLg.out k hlt
      have hid : (rdXe (bl t)).id.size = 32 := by
        show (⟨((bl t).take 32).toArray⟩ : ByteArray).size = 32
        rw [← bl_length]
        show ((bl t).take 32).length = 32
        rw [List.length_take, bl_length]; omega
      have HCA : Hid (Calls Try.prog 38 #[.pointer (some ⟨b, 0, none⟩)] wr fun e w' => e = .returned (.agg (xeC (rdXe (bl t)))) ∧ Step b wr w' (t.extract 41 t.size)) := takeEntry_any t b wr HR.out.rc HR.out.rf HR.out.rl (by omega) (by omega)
      obtain ⟨E, hE⟩ : ∃ E, rdXe (bl t) = E := ⟨_, rfl⟩
      rw [hE] at HE hid HCA
      obtain ⟨X, hX⟩ : ∃ X, xeC E = X := ⟨_, rfl⟩
      rw [hX] at HCA
      have HIX : Hid ((Try.prog.info? 38).map (·.size) = some X.size ∧ X.all (·.oneCell') = true ∧ X.size = 35) := by rw [← hX]; exact ⟨info_xe (xeC_size _ hid), xeC_all _, xeC_size _ hid⟩
      have HXE : Hid (xeC E = X) := hX
      have HT2 : Hid (bl (t.extract 41 t.size) = (bl T).drop (41 * (k + 1))) := by
        show _ = _
        rw [bl_ex, HT.out, List.drop_drop]; congr 1
      clear hE hX hid ht h41
      go_wp2_with fail
      refine HCA.out.mono ?_
      rintro e w4 ⟨rfl, hst⟩
      have HR2 : Hid (TkR w s b (b + 1) n (t.extract 41 t.size) (L.take k) w4) := HR.out.step hst
      obtain ⟨C, hC1, hC2, hC3⟩ := HR2.out.row
      have HC : Hid (Bk w4 (b + 1) C 38 ∧ C.size = n * 35 ∧ ∀ i e, (L.take k)[i]? = some e → ∀ j, j < 35 → C[i * 35 + j]? = (xeC e)[j]?) := ⟨hC1, hC2, hC3⟩
      have hle : k * 35 + X.size ≤ C.size := by rw [HIX.out.2.2, hC2]; omega
      clear HR hst HCA hC1 hC2 hC3
      go_wp2_with (first
        | (refine wpList_put rfl 38 (.tmp 26) (.tmp 25) rfl (b + 1) (k * 35) C X 38 rfl rfl HC.out.1 HIX.out.1 hle HIX.out.2.1 ?_; intro w5 HB5 HG5 hz5)
        | fail)
      have hk35 : k * 35 + X.toList.length ≤ C.size := by rw [Array.length_toList]; exact hle
      have HR5 : Hid (TkR w s b (b + 1) n (t.extract 41 t.size) (L.take (k + 1)) w5) := by
        have e1 : L.take (k + 1) = L.take k ++ [E] := take_snocXt HE.out
        rw [e1]
        refine HR2.out.put HG5.out HB5.out (by rw [putC_size]; exact HC.out.2.1) (fun i e' he' j hj => ?_)
        rw [putC_get _ _ _ _ hk35, Array.length_toList, HIX.out.2.2]
        have hlk : (L.take k).length = k := by rw [List.length_take, HI.out.2.2.2]; omega
        by_cases hi : i < k
        · rw [List.getElem?_append_left (by rw [hlk]; exact hi)] at he'
          rw [if_neg (by omega)]
          exact HC.out.2.2 i e' he' j hj
        · have hi2 : i = k := by
            have := (List.getElem?_eq_some_iff.1 he').1
            rw [List.length_append, hlk, List.length_singleton] at this
            omega
          subst hi2
          rw [List.getElem?_append_right (by omega), hlk, Nat.sub_self, List.getElem?_cons_zero] at he'
          injection he' with he'
          subst he'
          rw [if_pos ⟨by omega, by omega⟩, Array.getElem?_toList, HXE.out, show i * 35 + j - i * 35 = j by omega]
      clear HR2 HB5 HG5 hz5 HC hk35 hle
      go_wp2
      go_roundw
      case rel => exact ⟨k + 1, _, by go_num, by omega, HR5.out, HT2.out⟩
      case measure => simp [intOf]; omega
    · have hkz : ¬ (k : Int) < (n : Nat) := by omega
      obtain rfl : k = n := by omega
      have HR9 : Hid (TkR w s b (b + 1) k t L wr) := by
        have := HR.out
        rw [List.take_of_length_le (by rw [HI.out.2.2.2]; omega)] at this
        exact this
      clear HR
      have HZ : Hid (Bk wr w.heap.size (idc s) 30) := HR9.out.zb
      have HI2 : Hid (L.length = k ∧ ∀ e ∈ L, e.id.size = 32) := ⟨HI.out.2.2.2, fun e he => by
        obtain ⟨i, hi⟩ := List.mem_iff_getElem?.1 he
        have hik : i < k := by rw [← HI.out.2.2.2]; exact (List.getElem?_eq_some_iff.1 hi).1
        rw [HLg.out i hik] at hi
        injection hi with hi
        rw [← hi]
        show (⟨(((bl T).drop (41 * i)).take 32).toArray⟩ : ByteArray).size = 32
        rw [← bl_length]
        show (((bl T).drop (41 * i)).take 32).length = 32
        have := HN.out
        rw [List.length_take, List.length_drop, bl_length]; omega⟩
      go_wp2_with (first
        | (refine wpList_get rfl 30 (.tmp 2) rfl w.heap.size 0 (idc s) (idc s) 30 _ rfl HZ.out (fun j v hv => by rw [Nat.zero_add]; exact hv) Try.underlying30 rfl HI.out.1 ?_)
        | (refine wpList_stoX rfl 30 (.tmp 2) (.tmp 28) rfl w.heap.size (idc s) (idc s) 30 rfl rfl HZ.out HI.out.1 rfl HI.out.2.1 ?_; intro w7 HB7 HG7)
        | fail)
      refine bodyPost_ret (results_cell_tmp_row rfl _ _ w.heap.size 30 (idc s) (0, 0) _ rfl HB7.out Try.underlying30 rfl HI.out.1) rfl ⟨b + 1, k, rfl, rfl, ?_, ?_⟩
      · intro i e he
        have h6 := HR9.out
        obtain ⟨C, c1, c2, c3⟩ := h6.row
        have hgg := h6.hg
        have hbb := h6.hb
        have hc7 : Bk w7 (b + 1) C 38 := by
          unfold Bk
          rw [HG7.out.block (b + 1) c1.lt (fun e => by injection e with e; omega)]
          exact c1
        have hid : e.id.size = 32 := HI2.out.2 e (List.mem_of_getElem? he)
        refine ⟨hid, b + 1, 0, rfl, hc7.lt, fun j v hv => ?_⟩
        have hj : j < 35 := by
          have := (Array.getElem?_eq_some_iff.1 hv).1
          rw [xeC_size e hid] at this; exact this
        rw [hc7.cell, Nat.zero_add, c3 i e he j hj, hv]
      · exact below_own HR9.out.bel HR9.out.bel.size HG7.out (Nat.le_refl _)
end Go.Proofs.Ytbdkacfpeokggaa
/- Plain facts of indexes: places by the first byte and by halving; rising step by step. -/
namespace Go.Proofs.Ytbdkacfpeokggaa
set_option linter.unusedSimpArgs false
set_option linter.unusedVariables false
/-- A name's first byte. -/
def f8 (x : ByteArray) : Nat := ((bl x).headD 0).toNat
theorem fst8_f8 (e : Xe) : fst8 e = f8 e.id := rfl
theorem f8_lt (x : ByteArray) : f8 x < 256 := UInt8.toNat_lt _
theorem cmpB_head : ∀ a b : List UInt8, Lib.compareBytes a b < 0 → (a.headD 0).toNat ≤ (b.headD 0).toNat
  | [], _, _ => by simp
  | _ :: _, [], h => by simp [Lib.compareBytes] at h
  | x :: a, y :: b, h => by
    rw [Lib.compareBytes] at h
    show x.toNat ≤ y.toNat
    by_cases h1 : x < y
    · rw [UInt8.lt_iff_toNat_lt] at h1; omega
    · rw [if_neg h1] at h
      by_cases h2 : y < x
      · rw [if_pos h2] at h; omega
      · rw [UInt8.lt_iff_toNat_lt] at h2; omega
theorem f8_le {a b : ByteArray} (h : ltN a b = true) : f8 a ≤ f8 b := cmpB_head _ _ (of_decide_eq_true h)
theorem f8_ltN {a b : ByteArray} (h : f8 a < f8 b) : ltN a b = true := by
  refine ltN_ne (fun e => ?_) ?_
  · rw [e] at h; omega
  · rw [Bool.eq_false_iff]; intro g; have := f8_le g; omega
/-- Places and counts, where what holds behind holds ahead. -/
theorem place_cnt {α : Type} {p : α → Bool} : ∀ {l : List α}, l.Pairwise (fun a b => p b = true → p a = true) → ∀ {i : Nat} {a : α}, l[i]? = some a → (p a = true ↔ i < l.countP p)
  | [], _, i, a, h => by simp at h
  | x :: r, hp, i, a, h => by
    obtain ⟨h1, h2⟩ := List.pairwise_cons.1 hp
    cases hx : p x with
    | true =>
      rw [List.countP_cons_of_pos hx]
      cases i with
      | zero => rw [List.getElem?_cons_zero] at h; injection h with h; subst h; simp [hx]
      | succ i => rw [List.getElem?_cons_succ] at h; rw [place_cnt h2 h]; omega
    | false =>
      have hr : r.countP p = 0 := List.countP_eq_zero.2 (fun b hb q => by rw [h1 b hb q] at hx; cases hx)
      rw [List.countP_cons_of_neg (by rw [hx]; simp), hr]
      cases i with
      | zero => rw [List.getElem?_cons_zero] at h; injection h with h; subst h; simp [hx]
      | succ i =>
        rw [List.getElem?_cons_succ] at h
        constructor
        · intro q; rw [h1 a (List.mem_of_getElem? h) q] at hx; cases hx
        · intro q; omega
theorem range_cnt (k : Nat) : ∀ n, (List.range n).countP (fun i => decide (i < k)) = min n k
  | 0 => by simp
  | n + 1 => by
    rw [List.range_succ, List.countP_append, range_cnt k n, List.countP_cons, List.countP_nil]
    by_cases h : n < k
    · simp [h]; omega
    · simp [h]; omega
/-- How many names stand ahead of this one. -/
def cntN (l : List Xe) (x : ByteArray) : Nat := l.countP (fun e => ltN e.id x)
theorem Rise.fan {l : List Xe} (h : Rise l) {i : Nat} {e : Xe} (he : l[i]? = some e) (b : Nat) : fst8 e ≤ b ↔ i < fanL l b := by
  have q := place_cnt (p := fun e : Xe => decide (fst8 e ≤ b)) (h.imp (fun {a c} r s => decide_eq_true (Nat.le_trans (f8_le r) (of_decide_eq_true s)))) he
  rw [← decide_eq_true_iff (p := fst8 e ≤ b)]; exact q
theorem Rise.fanb {l : List Xe} (h : Rise l) {i : Nat} {e : Xe} (he : l[i]? = some e) (b : Nat) : fst8 e < b ↔ i < fanB l b := by
  have q := place_cnt (p := fun e : Xe => decide (fst8 e < b)) (h.imp (fun {a c} r s => decide_eq_true (Nat.lt_of_le_of_lt (f8_le r) (of_decide_eq_true s)))) he
  rw [← decide_eq_true_iff (p := fst8 e < b)]; exact q
theorem Rise.cnt {l : List Xe} (h : Rise l) {i : Nat} {e : Xe} (he : l[i]? = some e) (x : ByteArray) : ltN e.id x = true ↔ i < cntN l x :=
  place_cnt (p := fun e : Xe => ltN e.id x) (h.imp (fun {a c} r s => ltN_trans r s)) he
theorem cntN_ge (l : List Xe) (x : ByteArray) : fanB l (f8 x) ≤ cntN l x := by
  refine List.countP_mono_left (fun e _ q => ?_)
  exact f8_ltN (of_decide_eq_true q)
theorem cntN_le (l : List Xe) (x : ByteArray) : cntN l x ≤ fanL l (f8 x) := by
  refine List.countP_mono_left (fun e _ q => ?_)
  exact decide_eq_true (f8_le q)
theorem cntN_len (l : List Xe) (x : ByteArray) : cntN l x ≤ l.length := List.countP_le_length
/-- The halving's answer. -/
theorem half_cnt {l : List Xe} (h : Rise l) (x : ByteArray) (q : Nat → Bool) (hq : ∀ i e, l[fanB l (f8 x) + i]? = some e → q i = ltN e.id x) :
    fanB l (f8 x) + (List.range (fanL l (f8 x) - fanB l (f8 x))).countP q = cntN l x := by
  have h1 := cntN_ge l x
  have h2 := cntN_le l x
  have h3 := fanL_le l (f8 x)
  have e : (List.range (fanL l (f8 x) - fanB l (f8 x))).countP q = (List.range (fanL l (f8 x) - fanB l (f8 x))).countP (fun i => decide (i < cntN l x - fanB l (f8 x))) := by
    refine List.countP_congr (fun i hi => ?_)
    rw [List.mem_range] at hi
    obtain ⟨e, he⟩ : ∃ e, l[fanB l (f8 x) + i]? = some e := ⟨_, List.getElem?_eq_getElem (by omega)⟩
    rw [hq i e he, h.cnt he, decide_eq_true_iff]
    omega
  rw [e, range_cnt]
  omega
/-- What Find finds. -/
def fnd (l : List Xe) (x : ByteArray) : Option Xe := l.find? (fun e => decide (e.id = x))
theorem fnd_some {l : List Xe} {x : ByteArray} {e : Xe} (h : fnd l x = some e) : e ∈ l ∧ e.id = x := ⟨List.mem_of_find?_eq_some h, of_decide_eq_true (List.find?_some (p := fun e : Xe => decide (e.id = x)) h)⟩
theorem fnd_mem {l : List Xe} (h : Aprt l) {e : Xe} (he : e ∈ l) : fnd l e.id = some e := by
  cases q : fnd l e.id with
  | none =>
    have := List.find?_eq_none.1 q e he
    simp at this
  | some d =>
    obtain ⟨h1, h2⟩ := fnd_some q
    obtain ⟨i, hi⟩ := List.mem_iff_getElem?.1 he
    obtain ⟨j, hj⟩ := List.mem_iff_getElem?.1 h1
    have := apart_one h hj hi h2
    subst this
    rw [hi] at hj; injection hj with hj; rw [hj]
theorem fnd_none {l : List Xe} {x : ByteArray} : fnd l x = none ↔ ∀ e ∈ l, e.id ≠ x := by
  unfold fnd
  rw [List.find?_eq_none]
  simp
theorem fnd_at {l : List Xe} (h : Rise l) (x : ByteArray) {e : Xe} (he : l[cntN l x]? = some e) (hx : e.id = x) : fnd l x = some e := by
  rw [← hx]; exact fnd_mem h.apart (List.mem_of_getElem? he)
theorem fnd_end {l : List Xe} (h : Rise l) (x : ByteArray) (he : cntN l x = fanL l (f8 x)) : fnd l x = none := by
  rw [fnd_none]
  intro e hm hx
  obtain ⟨i, hi⟩ := List.mem_iff_getElem?.1 hm
  have h1 := (h.fan hi (f8 x)).1 (by rw [fst8_f8, hx]; exact Nat.le_refl _)
  have h2 := (h.cnt hi x).2 (by omega)
  rw [hx, ltN_irr] at h2
  cases h2
theorem fnd_ne {l : List Xe} (h : Rise l) (x : ByteArray) {e : Xe} (he : l[cntN l x]? = some e) (hx : e.id ≠ x) : fnd l x = none := by
  rw [fnd_none]
  intro d hm hd
  obtain ⟨i, hi⟩ := List.mem_iff_getElem?.1 hm
  have h1 : ¬ i < cntN l x := fun q => by
    have := (h.cnt hi x).2 q
    rw [hd, ltN_irr] at this; cases this
  by_cases q : i = cntN l x
  · subst q; rw [he] at hi; injection hi with hi; exact hx (hi ▸ hd)
  · have hlt : cntN l x < i := by omega
    obtain ⟨hi2, rfl⟩ := List.getElem?_eq_some_iff.1 hi
    obtain ⟨hj2, rfl⟩ := List.getElem?_eq_some_iff.1 he
    have := List.pairwise_iff_getElem.1 h (cntN l x) i hj2 hi2 hlt
    rw [hd] at this
    have q2 := (h.cnt he x).1 this
    omega
/-- Do they rise, each against the one ahead of it? -/
def okR : Option Xe → List Xe → Bool
  | _, [] => true
  | o, e :: r => (okX e && (match o with | none => true | some d => ltN d.id e.id)) && okR (some e) r
theorem okR_some : ∀ (l : List Xe) (d : Xe), okR (some d) l = true ↔ (∀ e ∈ l, okX e = true) ∧ Rise (d :: l)
  | [], d => by simp [okR, Rise]
  | e :: r, d => by
    rw [okR, Bool.and_eq_true, Bool.and_eq_true, okR_some r e]
    show (okX e = true ∧ ltN d.id e.id = true) ∧ _ ↔ _
    constructor
    · rintro ⟨⟨h1, h2⟩, h3, h4⟩
      refine ⟨fun x hx => ?_, ?_⟩
      · rcases List.mem_cons.1 hx with rfl | hx
        · exact h1
        · exact h3 x hx
      · refine List.pairwise_cons.2 ⟨fun x hx => ?_, h4⟩
        rcases List.mem_cons.1 hx with rfl | hx
        · exact h2
        · exact ltN_trans h2 ((List.pairwise_cons.1 h4).1 x hx)
    · rintro ⟨h1, h2⟩
      obtain ⟨h3, h4⟩ := List.pairwise_cons.1 h2
      exact ⟨⟨h1 e List.mem_cons_self, h3 e List.mem_cons_self⟩, fun x hx => h1 x (List.mem_cons_of_mem _ hx), h4⟩
theorem okR_iff (l : List Xe) : okR none l = true ↔ (∀ e ∈ l, okX e = true) ∧ Rise l := by
  cases l with
  | nil => simp [okR, Rise]
  | cons e r =>
    rw [okR, Bool.and_eq_true, Bool.and_eq_true, okR_some r e]
    constructor
    · rintro ⟨⟨h1, _⟩, h3, h4⟩
      refine ⟨fun x hx => ?_, h4⟩
      rcases List.mem_cons.1 hx with rfl | hx
      · exact h1
      · exact h3 x hx
    · rintro ⟨h1, h2⟩
      exact ⟨⟨h1 e List.mem_cons_self, rfl⟩, fun x hx => h1 x (List.mem_cons_of_mem _ hx), h2⟩
/-- An index's bytes. -/
def IsIx (S : ByteArray) (s : ByteArray) (l : List Xe) : Prop := s.size = 32 ∧ OkL l ∧ bl S = ixB s l
theorem IsIx.take {S s : ByteArray} {l : List Xe} (h : IsIx S s l) : rdS (bl S) = s ∧ rdA (bl S) = l := by rw [h.2.2]; exact rd_ix h.1 h.2.1
end Go.Proofs.Ytbdkacfpeokggaa
/- A region that draws its order, over a class of worlds of one's own: each operation gives the same value in every world of the class. -/
namespace Go.Proofs.Ytbdkacfpeokggaa
open Go.RowKit
set_option linter.unusedSimpArgs false
set_option linter.unusedVariables false
theorem region_class10 {P : Program} {id : Nat} {Q : Exit → Act → World → Prop} {a : Act} {w : World} {l : List Oper} (C : World → Prop) (hm : P.follows .mixedOrders = true) (hB : Region.lexB .any l.toArray = true) (hC : C w.drew)
    (h : wpQuiet P l.toArray C (fun a' => ∀ w', C w' → Q .normal a' w') l a) : (Code.region id l.toArray true).wp P Q a w :=
  wp_region_quiet (C := C) hm hB hC (by simpa using h)
theorem quiet_val10 {P : Program} {o : Oper} {a : Act} {C : World → Prop} {K : Act → Prop} (v : Value) (h : ∀ w, C w → (execOp a.eval o).run P w = .ok (.value v) w) (hn : K (a.put o.dst v)) : o.quiet P a C K :=
  ⟨v, fun w hw => by unfold Oper.quietAt; rw [h w hw]; exact ⟨rfl, rfl⟩, hn⟩
theorem quiet_call10 {P : Program} {o : Oper} {a : Act} {C : World → Prop} {K : Act → Prop} (v : Value) (f : FuncId) (args : Array Value) (h : ∀ w, C w → (execOp a.eval o).run P w = .ok (.enter f args) w)
    (hc : ∀ w, C w → Calls P f args w (fun e w'' => e = .returned v ∧ C w'')) (hn : K (a.put o.dst v)) : o.quiet P a C K :=
  ⟨v, fun w hw => by unfold Oper.quietAt; rw [h w hw]; exact ⟨rfl, hc w hw⟩, hn⟩
theorem quiet_str10 {o : Oper} {a : Act} {C : World → Prop} {K : Act → Prop} (x : Operand) (ho : o.op = .load 9 x) (g f : Nat) (s : ByteArray) (hx : a.eval x = .pointer (some ⟨g, f, none⟩))
    (hc : ∀ w, C w → w.cell? ⟨g, f, none⟩ = some (.string s)) (hn : K (a.put o.dst (.string s))) : o.quiet Try.prog a C K :=
  quiet_val10 (.string s) (fun w hw => by
    have h := hc w hw
    have ha : (isAgg 9).run Try.prog w = .ok false w := by kernel_rfl
    unfold execOp
    simp [ho, hx, Instr.loadAt, Instr.sureAddr, loadVar, ha, h]) hn
end Go.Proofs.Ytbdkacfpeokggaa
