import Derived.Test.YtpfknjnigcefgaaGreatDoorY10
import Derived.Test.YtpfknjnigcefgaaGreatDoorY5
import Derived.Test.YtpfknjnigcefgaaGreatDoorY8
import Derived.Laws.ResultCell
import Derived.Test.YtpfknjnigcefgaaGreatDoorChecked
import Derived.Shelf.SlSortCmp.WholeK
import Derived.Shelf.SlSorted.Search
import Derived.Shelf.SlicesE.Clone
/- The walk of a reader's Fixed. -/
namespace Go.Proofs.YtpfknjnigcefgaaGreatDoor
open Go.RowKit
set_option linter.unusedSimpArgs false
set_option linter.unusedVariables false
theorem ret_ue {a b : Nat} {k l : IntKind} {c : Int} (h : a = b) : Ending.returned (.tuple #[.int k a, .int l c]) = .returned (.tuple #[.int k b, .int l c]) := by rw [h]
set_option maxHeartbeats 400000 in
theorem fixed_nil (w : World) (m : Int) :
    Calls Tryz.prog 117 #[.pointer none, .int .i64 m] w fun e w' => e = .returned (.tuple #[.int .u64 0, .int .i64 2]) ∧ w' = w := by
  go_enter Tryz.func117, Tryz.ntmps117
  go_wp2
  go_ret2
  exact ⟨rfl, rfl⟩
set_option maxHeartbeats 400000 in
theorem fixed_arg (s : ByteArray) (b : Nat) (w : World) (hs : s.size ≤ maxLen) (hc : w.cell? ⟨b, 0, none⟩ = some (.string s)) (hf : w.frozen? ⟨b, 0, none⟩ = false) (hb : b < w.heap.size) (m : Int) (hm : isW m = false) :
    Calls Tryz.prog 117 #[.pointer (some ⟨b, 0, none⟩), .int .i64 m] w fun e w' => e = .returned (.tuple #[.int .u64 0, .int .i64 1]) ∧ Step b w w' s := by
  have HS := still hb hc hf
  go_enter Tryz.func117, Tryz.ntmps117
  go_wp2_with (go_at_call 104; refine (isWidth_any _ _).mono ?_; rintro e w' ⟨rfl, rfl⟩; rw [hm])
  go_ret2
  exact ⟨rfl, HS⟩
set_option maxHeartbeats 400000 in
theorem fixed_no (s : ByteArray) (b : Nat) (w : World) (hs : s.size ≤ maxLen) (hc : w.cell? ⟨b, 0, none⟩ = some (.string s)) (hf : w.frozen? ⟨b, 0, none⟩ = false) (hb : b < w.heap.size) (d : Nat) (hd1 : 1 ≤ d) (hd2 : d ≤ 8) (hl : s.size < d) :
    Calls Tryz.prog 117 #[.pointer (some ⟨b, 0, none⟩), .int .i64 d] w fun e w' => e = .returned (.tuple #[.int .u64 0, .int .i64 4]) ∧ Step b w w' s := by
  have hiw : isW (d : Int) = true := isW_yes (by omega) (by omega)
  go_enter Tryz.func117, Tryz.ntmps117
  go_wp2_with (go_at_call 104; refine (isWidth_any _ _).mono ?_; rintro e w' ⟨rfl, rfl⟩; rw [hiw])
  refine (taker_any _ _).mono ?_
  rintro e w1 ⟨rfl, rfl⟩
  go_wp2_with fail
  refine (take1_no s b w'.heap.size 0 d _ hs (al_ptr _ _ _) (al_cell _ hb hc) (by omega) (by omega)).mono ?_
  rintro e w1 ⟨rfl, rfl⟩
  go_wp2
  refine wp_loop_rounds 1 ?_
  rw [rounds_succ]
  go_wp2
  go_ret2
  exact ⟨rfl, untaken _ hb hc hf⟩
set_option maxHeartbeats 400000 in
theorem fixed_ok (s : ByteArray) (b : Nat) (w : World) (hs : s.size ≤ maxLen) (hc : w.cell? ⟨b, 0, none⟩ = some (.string s)) (hf : w.frozen? ⟨b, 0, none⟩ = false) (hb : b < w.heap.size) (d : Nat) (hd1 : 1 ≤ d) (hd2 : d ≤ 8) (hl : d ≤ s.size) :
    Calls Tryz.prog 117 #[.pointer (some ⟨b, 0, none⟩), .int .i64 d] w fun e w' => e = .returned (.tuple #[.int .u64 (fixV ((bl s).take d)), .int .i64 0]) ∧ Step b w w' (s.extract d s.size) := by
  have hiw : isW (d : Int) = true := isW_yes (by omega) (by omega)
  obtain ⟨t, ht⟩ : ∃ t, t = s.extract 0 d := ⟨_, rfl⟩
  have htz : t.size = d := by subst ht; simp; omega
  have HT : Hid (bl t = (bl s).take d) := by subst ht; exact extract_take s d hl
  go_enter Tryz.func117, Tryz.ntmps117
  go_wp2_with (go_at_call 104; refine (isWidth_any _ _).mono ?_; rintro e w' ⟨rfl, rfl⟩; rw [hiw])
  refine (taker_any _ _).mono ?_
  rintro e w1 ⟨rfl, rfl⟩
  go_wp2_with fail
  refine (take1_ok s b w'.heap.size 0 d _ hs (al_ptr _ _ _) (al_cell _ hb hc) (al_frozen _ hb hf) (by omega)).mono ?_
  rintro e w1 ⟨rfl, rfl⟩
  rw [Nat.zero_add, ← ht]
  clear ht
  have HW : Hid (Step b w' ((w'.setCell ⟨b, 0, none⟩ (.string (s.extract d s.size))).alloc (.cells #[.pointer (some ⟨b, 0, none⟩)] 139)).drew (s.extract d s.size)) := taken _ hb hc hf
  go_wp2
  go_loop [8, 25] (fun v i => ∃ (k acc : Nat), k ≤ d ∧ acc < 2 ^ 64 ∧ i = .int .i64 k ∧ v = .int .u64 acc ∧ Hid (acc = fixV ((bl t).take k))) (fun _ i => 10 - (intOf i).toNat)
  case atStart => exact ⟨0, 0, by omega, by omega, rfl, rfl, rfl⟩
  case round =>
    obtain ⟨k, acc, hk1, hacc, rfl, rfl, HR⟩ := hrel
    by_cases hlt : k < d
    · have hkt : k < t.size := by omega
      go_wp2
      go_round
      case rel =>
        have hlt256 := t[k].toNat_lt
        have hl : acc < 256 ^ k := by
          have := fixV_lt ((bl t).take k)
          rw [← HR.out, List.length_take, bl_length, htz, Nat.min_eq_left (by omega)] at this
          exact this
        obtain ⟨e1, e2⟩ := fixStep acc t[k].toNat k hlt256 (by omega) hl
        refine ⟨k + 1, _, by omega, e2, by go_num, ?_, ?_⟩
        · rw [← e1, show IntKind.u64.wrap (t[k].toNat : Int) = t[k].toNat from by rw [IntKind.wrap_u64]; omega]
        · rw [take_snoc t k hkt, fixV_snoc, ← HR.out]; rfl
      case measure => simp [intOf]; omega
    · go_wp2
      go_ret2
      refine ⟨ret_ue ?_, HW.out⟩
      have e : k = d := by omega
      rw [HR.out, HT.out, List.take_take, e, Nat.min_self]
end Go.Proofs.YtpfknjnigcefgaaGreatDoor
/- wire.Reader.Left. -/
namespace Go.Proofs.YtpfknjnigcefgaaGreatDoor
open Go.RowKit
set_option linter.unusedSimpArgs false
set_option linter.unusedVariables false
set_option maxHeartbeats 400000 in
theorem left_any (s : ByteArray) (b : Nat) (w : World) (hs : s.size ≤ maxLen) (hc : w.cell? ⟨b, 0, none⟩ = some (.string s)) :
    Calls Tryz.prog 81 #[.pointer (some ⟨b, 0, none⟩)] w fun e w' => e = .returned (.int .i64 s.size) ∧ w' = w := by
  unfold maxLen at hs
  go_enter Tryz.func81, Tryz.ntmps81
  go_wp2
  go_ret
  exact ⟨rfl, rfl⟩
set_option maxHeartbeats 400000 in
theorem left_nil (w : World) : Calls Tryz.prog 81 #[.pointer none] w fun e w' => e = .returned (.int .i64 0) ∧ w' = w := by
  go_enter Tryz.func81, Tryz.ntmps81
  go_wp2
  go_ret
  exact ⟨rfl, rfl⟩
end Go.Proofs.YtpfknjnigcefgaaGreatDoor
/- idx.takeEntry. -/
namespace Go.Proofs.YtpfknjnigcefgaaGreatDoor
open Go.RowKit
set_option linter.unusedSimpArgs false
set_option linter.unusedVariables false
theorem Step.then {b : Nat} {w w1 w2 : World} {s1 s2 : ByteArray} (h1 : Step b w w1 s1) (h2 : Step b w1 w2 s2) : Step b w w2 s2 :=
  ⟨h2.os.trans h1.os, h2.tape.trans h1.tape, h2.output.trans h1.output, Nat.le_trans h1.size h2.size, h2.cell, h2.frozen, fun k hk hne => (h2.block k (Nat.lt_of_lt_of_le hk h1.size) hne).trans (h1.block k hk hne)⟩
theorem cell_blkX {w w' : World} {r j : Nat} (h : w'.heap[r]? = w.heap[r]?) : w'.cell? ⟨r, j, none⟩ = w.cell? ⟨r, j, none⟩ ∧ w'.frozen? ⟨r, j, none⟩ = w.frozen? ⟨r, j, none⟩ := by simp [World.cell?, World.frozen?, h]
/-- An entry that is being taken: the reader, the entry's block and that of the answer. -/
structure TE (w : World) (b : Nat) (t : ByteArray) (C : Array Value) (wr : World) : Prop where
  rd : Step b w wr t
  rb : Bk wr w.heap.size z35X 34
  nb : Bk wr (w.heap.size + 1) C 34
  bl : b < w.heap.size
theorem TE.step {w wr w' : World} {b : Nat} {t t' : ByteArray} {C : Array Value} (h : TE w b t C wr) (hs : Step b wr w' t') : TE w b t' C w' := by
  have hb := h.bl
  refine ⟨h.rd.then hs, ?_, ?_, hb⟩
  · unfold Bk; rw [hs.block _ h.rb.lt (by omega)]; exact h.rb
  · unfold Bk; rw [hs.block _ h.nb.lt (by omega)]; exact h.nb
theorem TE.turn {w wr w' : World} {b : Nat} {t : ByteArray} {C C' : Array Value} (h : TE w b t C wr) (hg : wr.grownBy w' (some (w.heap.size + 1))) (hn : Bk w' (w.heap.size + 1) C' 34) : TE w b t C' w' := by
  have hb := h.bl
  have hlt : b < wr.heap.size := Nat.lt_of_lt_of_le hb h.rd.size
  have hne : ∀ k, k < w.heap.size → some k ≠ some (w.heap.size + 1) := fun k hk e => by injection e with e; omega
  have q := cell_blkX (j := 0) (hg.block b hlt (hne b hb))
  refine ⟨⟨hg.os.trans h.rd.os, hg.tape.trans h.rd.tape, hg.output.trans h.rd.output, Nat.le_trans h.rd.size hg.size, by rw [q.1]; exact h.rd.cell, by rw [q.2]; exact h.rd.frozen, fun k hk hk2 => (hg.block k (Nat.lt_of_lt_of_le hk h.rd.size) (hne k hk)).trans (h.rd.block k hk hk2)⟩, ?_, hn, hb⟩
  unfold Bk
  rw [hg.block _ h.rb.lt (fun e => by injection e with e; omega)]
  exact h.rb
theorem z35_size : z35X.size = 35 := rfl
theorem xe_eq (C : Array Value) (e : Xe) (h : e.id.size = 32) (hC : C.size = 35) (h1 : ∀ j, j < 32 → C[j]? = (idc e.id)[j]?) (h2 : C[32]? = some (.int .u8 (e.k.toNat : Int))) (h3 : C[33]? = some (.int .i64 e.off)) (h4 : C[34]? = some (.int .i64 e.sz)) : C = xeC e := by
  obtain ⟨k1, k2, k3⟩ := xeC_at e h
  apply Array.ext_getElem?
  intro i
  by_cases q : i < 32
  · have hi : i < (idc e.id).size := by rw [idc_size, h]; exact q
    have := xeC_id e h i _ (Array.getElem?_eq_getElem hi)
    rw [Nat.zero_add] at this
    rw [h1 i q, this, Array.getElem?_eq_getElem hi]
  · by_cases q2 : i < 35
    · have : i = 32 ∨ i = 33 ∨ i = 34 := by omega
      rcases this with rfl | rfl | rfl
      · rw [h2, k1]
      · rw [h3, k2]
      · rw [h4, k3]
    · rw [Array.getElem?_eq_none (by omega), Array.getElem?_eq_none (by rw [xeC_size e h]; omega)]
/-- The name copied in. -/
theorem TE.copy {w wr : World} {b : Nat} {t x : ByteArray} (h : TE w b t z35X wr) (hx : x.size = 32) :
    ∃ w', (∀ ty, (Builtin.copy_ #[82, 9] ty #[.slice (some ⟨w.heap.size + 1, 0, none⟩) 32 32, .string x]).run Tryz.prog wr = .ok (goInt 32) w') ∧ TE w b t (putA z35X 0 (bvc (byl x))) w' := by
  have hi : (Tryz.prog.info? 5).map (·.size) = some 1 := by kernel_rfl
  have hm : Nat.min x.size 32 = 32 := by rw [hx]; rfl
  refine ⟨wr.setCells (w.heap.size + 1) 0 (bvc ((byl x).take 32)), fun ty => ?_, ?_⟩
  · have q := copy_str wr 82 9 ty 5 (w.heap.size + 1) 0 32 32 x Tryz.underlying82 hi (fun j hj => by
      rw [hm] at hj
      rw [h.nb.cell, Nat.zero_add, Array.getElem?_eq_getElem (by rw [z35_size]; omega)]; rfl) (fun j _ => h.nb.frozen _)
    rw [hm] at q
    exact q
  · have e : (byl x).take 32 = byl x := List.take_of_length_le (by rw [byl_length, hx]; omega)
    rw [e]
    exact h.turn (grown_puts _ _ _ (World.grownBy.refl _ _)) (Blk.puts _ _ _ _ h.nb)
theorem bl_ex (t : ByteArray) (k : Nat) : bl (t.extract k t.size) = (bl t).drop k := by
  rw [bl_extract, List.take_of_length_le (by rw [bl_length]; exact Nat.le_refl _)]
theorem ex_size (t : ByteArray) (k : Nat) : (t.extract k t.size).size = t.size - k := by
  rw [← bl_length, bl_ex, List.length_drop, bl_length]
set_option maxHeartbeats 4000000 in
set_option maxRecDepth 100000 in
theorem takeEntry_any (t : ByteArray) (b : Nat) (w : World) (hc : w.cell? ⟨b, 0, none⟩ = some (.string t)) (hf : w.frozen? ⟨b, 0, none⟩ = false) (hb : b < w.heap.size) (ht : 41 ≤ t.size) (hs : t.size ≤ 100000000) :
    Calls Tryz.prog 82 #[.pointer (some ⟨b, 0, none⟩)] w fun e w' => e = .returned (.agg (xeC (rdXe (bl t)))) ∧ Step b w w' (t.extract 41 t.size) := by
  have hm : ∀ {n : Nat}, n ≤ 100000000 → n ≤ maxLen := fun h => by unfold maxLen; omega
  have T0 : Hid (TE w b t z35X ((w.alloc (.cells z35X 34)).alloc (.cells z35X 34))) := by
    have q := bk_new (w.alloc (.cells z35X 34)) z35X 34
    rw [al_size] at q
    exact ⟨Step.of_below (((Below.refl _ _).alloc (Nat.le_refl _) _).alloc (by rw [al_size]; omega) _) hb hc hf, (bk_new _ _ _).alloc _, q, hb⟩
  have hsl := slice32 (w.heap.size + 1)
  obtain ⟨x, hx⟩ : ∃ x, t.extract 0 32 = x := ⟨_, rfl⟩
  obtain ⟨t1, ht1⟩ : ∃ t1, t.extract 32 t.size = t1 := ⟨_, rfl⟩
  obtain ⟨t2, ht2⟩ : ∃ t2, t1.extract 1 t1.size = t2 := ⟨_, rfl⟩
  obtain ⟨t3, ht3⟩ : ∃ t3, t2.extract 4 t2.size = t3 := ⟨_, rfl⟩
  obtain ⟨t4, ht4⟩ : ∃ t4, t3.extract 4 t3.size = t4 := ⟨_, rfl⟩
  have b1 : bl t1 = (bl t).drop 32 := by rw [← ht1]; exact bl_ex t 32
  have b2 : bl t2 = (bl t).drop 33 := by rw [← ht2, bl_ex, b1, List.drop_drop]
  have b3 : bl t3 = (bl t).drop 37 := by rw [← ht3, bl_ex, b2, List.drop_drop]
  have b4 : bl t4 = (bl t).drop 41 := by rw [← ht4, bl_ex, b3, List.drop_drop]
  have s1 : t1.size = t.size - 32 := by rw [← ht1]; exact ex_size t 32
  have s2 : t2.size = t.size - 33 := by rw [← ht2, ex_size, s1]; omega
  have s3 : t3.size = t.size - 37 := by rw [← ht3, ex_size, s2]; omega
  have hxs : x.size = 32 := by rw [← hx, ← bl_length, bl_extract, List.length_drop, List.length_take, bl_length]; omega
  obtain ⟨kz, hkz⟩ : ∃ k, fixV ((bl t1).take 1) = k := ⟨_, rfl⟩
  obtain ⟨oz, hoz⟩ : ∃ k, fixV ((bl t2).take 4) = k := ⟨_, rfl⟩
  obtain ⟨zz, hzz⟩ : ∃ k, fixV ((bl t3).take 4) = k := ⟨_, rfl⟩
  have lk : kz < 256 := by rw [← hkz]; have := fix_lt t1 1 (by omega); omega
  have lo : oz < 4294967296 := by rw [← hoz]; have := fix_lt t2 4 (by omega); omega
  have lz : zz < 4294967296 := by rw [← hzz]; have := fix_lt t3 4 (by omega); omega
  obtain ⟨X, hXe⟩ : ∃ X, xeC (rdXe (bl t)) = X := ⟨_, rfl⟩
  have hid : (rdXe (bl t)).id = x := by
    apply bl_inj
    show (bl t).take 32 = bl x
    rw [← hx, bl_extract, List.drop_zero]
  have hid32 : (rdXe (bl t)).id.size = 32 := by rw [hid, hxs]
  have hkk : ((rdXe (bl t)).k.toNat : Int) = (kz : Int) := by
    have q : (bl t1).take 1 = [((bl t).drop 32).headD 0] := by
      rw [b1]
      cases hq : (bl t).drop 32 with
      | nil =>
        have := congrArg List.length hq
        rw [List.length_drop, bl_length] at this
        simp at this
        omega
      | cons a r => rfl
    rw [← hkz, q]
    show _ = ((fixV [((bl t).drop 32).headD 0] : Nat) : Int)
    simp [fixV, rdXe]
  have HXX : Hid (∀ W, Bk W (w.heap.size + 1) (putA z35X 0 (bvc (byl x))) 34 → Bk (((W.setCell ⟨w.heap.size + 1, 32, none⟩ (.int .u8 (kz : Int))).setCell ⟨w.heap.size + 1, 33, none⟩ (.int .i64 (oz : Int))).setCell ⟨w.heap.size + 1, 34, none⟩ (.int .i64 (zz : Int))) (w.heap.size + 1) X 34) := fun W hW => by
    have q := ((hW.set 32 (.int .u8 (kz : Int))).set 33 (.int .i64 (oz : Int))).set 34 (.int .i64 (zz : Int))
    have hps : (putA z35X 0 (bvc (byl x))).size = 35 := by rw [putA_size, z35_size]
    have e : (((putA z35X 0 (bvc (byl x))).setIfInBounds 32 (.int .u8 (kz : Int))).setIfInBounds 33 (.int .i64 (oz : Int))).setIfInBounds 34 (.int .i64 (zz : Int)) = X := by
      rw [← hXe]
      refine xe_eq _ _ hid32 (by simp [hps]) (fun j hj => ?_) ?_ ?_ ?_
      · rw [Array.getElem?_setIfInBounds_ne (by omega), Array.getElem?_setIfInBounds_ne (by omega), Array.getElem?_setIfInBounds_ne (by omega), putA_get _ _ _ _ (by simp [bvc, byl_length, hxs, z35_size]), if_pos (by simp [bvc, byl_length, hxs]; omega), hid, idc, List.getElem?_toArray, Nat.sub_zero]
      · rw [Array.getElem?_setIfInBounds_ne (by omega), Array.getElem?_setIfInBounds_ne (by omega), Array.getElem?_setIfInBounds_self_of_lt (by rw [hps]; omega), hkk]
      · rw [Array.getElem?_setIfInBounds_ne (by omega), Array.getElem?_setIfInBounds_self_of_lt (by simp [hps])]
        rw [← hoz, b2]; rfl
      · rw [Array.getElem?_setIfInBounds_self_of_lt (by simp [hps])]
        rw [← hzz, b3]; rfl
    rw [e] at q
    exact q
  have HIX : Hid ((Tryz.prog.info? 34).map (·.size) = some X.size ∧ X.all (·.oneCell') = true ∧ X.size = 35) := by rw [← hXe]; exact ⟨info_xe (xeC_size _ hid32), xeC_all _, xeC_size _ hid32⟩
  have h4 : t.extract 41 t.size = t4 := by apply bl_inj; rw [bl_ex, b4]
  have HS : Hid (t1.size = t.size - 32 ∧ t2.size = t.size - 33 ∧ t3.size = t.size - 37) := ⟨s1, s2, s3⟩
  have HT : Hid (t.extract 32 t.size = t1 ∧ t1.extract 1 t1.size = t2 ∧ t2.extract 4 t2.size = t3 ∧ t3.extract 4 t3.size = t4) := ⟨ht1, ht2, ht3, ht4⟩
  have HF : Hid (fixV ((bl t1).take 1) = kz ∧ fixV ((bl t2).take 4) = oz ∧ fixV ((bl t3).take 4) = zz) := ⟨hkz, hoz, hzz⟩
  have hq0 : (putA z35X 0 (bvc (byl x)))[32]? = some (.int .u8 0) ∧ (putA z35X 0 (bvc (byl x)))[33]? = some (.int .i64 0) ∧ (putA z35X 0 (bvc (byl x)))[34]? = some (.int .i64 0) := by
    have hle : 0 + (bvc (byl x)).length ≤ z35X.size := by simp [bvc, byl_length, hxs, z35_size]
    refine ⟨?_, ?_, ?_⟩ <;> (rw [putA_get _ _ _ _ hle, if_neg (by simp [bvc, byl_length, hxs])]; rfl)
  have HQ0 : Hid _ := hq0
  rw [h4, hXe]
  clear hc hf b1 b2 b3 b4 s1 s2 s3 ht1 ht2 ht3 ht4 hkz hoz hzz hid hid32 hkk hXe h4 hq0
  have HX : Hid (t.extract 0 32 = x ∧ x.size = 32) := ⟨hx, hxs⟩
  clear hx hxs
  go_enter Tryz.func82, Tryz.ntmps82
  go_wp2_with fail
  refine (take_ok t b _ (hm hs) T0.out.rd.cell T0.out.rd.frozen (Nat.lt_of_lt_of_le hb T0.out.rd.size) 32 (by omega)).mono ?_
  rintro e w1 ⟨rfl, hst1⟩
  rw [HX.out.1]
  rw [HT.out.1] at hst1
  have T1 : Hid (TE w b t1 z35X w1) := T0.out.step hst1
  obtain ⟨w2, hcp, hT2⟩ := T1.out.copy HX.out.2
  have T2 : Hid (TE w b t1 (putA z35X 0 (bvc (byl x))) w2) := hT2
  clear hst1 T0 hT2 T1
  go_wp2_with (first
    | (refine wpList_copyX rfl (.tmp 18) (.tmp 19) 82 9 rfl (.slice (some ⟨w.heap.size + 1, 0, none⟩) 32 32) (.string x) (goInt 32) w2 rfl rfl (hcp _) ?_)
    | fail)
  refine (fixed_ok t1 b w2 (hm (by rw [HS.out.1]; omega)) T2.out.rd.cell T2.out.rd.frozen (Nat.lt_of_lt_of_le hb T2.out.rd.size) 1 (by omega) (by omega) (by rw [HS.out.1]; omega)).mono ?_
  rintro e w3 ⟨rfl, hst3⟩
  rw [HF.out.1]
  rw [HT.out.2.1] at hst3
  have T3 : Hid (TE w b t2 (putA z35X 0 (bvc (byl x))) w3) := T2.out.step hst3
  clear hst3 T2 hcp hsl
  go_wp2_with fail
  refine (fixed_ok t2 b w3 (hm (by rw [HS.out.2.1]; omega)) T3.out.rd.cell T3.out.rd.frozen (Nat.lt_of_lt_of_le hb T3.out.rd.size) 4 (by omega) (by omega) (by rw [HS.out.2.1]; omega)).mono ?_
  rintro e w4 ⟨rfl, hst4⟩
  rw [HF.out.2.1]
  rw [HT.out.2.2.1] at hst4
  have T4 : Hid (TE w b t3 (putA z35X 0 (bvc (byl x))) w4) := T3.out.step hst4
  clear hst4 T3
  go_wp2_with fail
  refine (fixed_ok t3 b w4 (hm (by rw [HS.out.2.2]; omega)) T4.out.rd.cell T4.out.rd.frozen (Nat.lt_of_lt_of_le hb T4.out.rd.size) 4 (by omega) (by omega) (by rw [HS.out.2.2]; omega)).mono ?_
  rintro e w5 ⟨rfl, hst5⟩
  rw [HF.out.2.2]
  rw [HT.out.2.2.2] at hst5
  have T5 : Hid (TE w b t4 (putA z35X 0 (bvc (byl x))) w5) := T4.out.step hst5
  have y1 : w5.cell? ⟨w.heap.size + 1, 32, none⟩ = some (.int .u8 0) := by rw [T5.out.nb.cell]; exact HQ0.out.1
  have y2 : w5.cell? ⟨w.heap.size + 1, 33, none⟩ = some (.int .i64 0) := by rw [T5.out.nb.cell]; exact HQ0.out.2.1
  have y3 : w5.cell? ⟨w.heap.size + 1, 34, none⟩ = some (.int .i64 0) := by rw [T5.out.nb.cell]; exact HQ0.out.2.2
  have z1 : w5.frozen? ⟨w.heap.size + 1, 32, none⟩ = false := T5.out.nb.frozen _
  have z2 : w5.frozen? ⟨w.heap.size + 1, 33, none⟩ = false := T5.out.nb.frozen _
  have z3 : w5.frozen? ⟨w.heap.size + 1, 34, none⟩ = false := T5.out.nb.frozen _
  have q1 : IntKind.u8.wrap (kz : Int) = (kz : Int) := by simp [IntKind.wrap, IntKind.bits, IntKind.signed]; omega
  have q2 : IntKind.i64.wrap (oz : Int) = (oz : Int) := by rw [IntKind.wrap_i64]; omega
  have q3 : IntKind.i64.wrap (zz : Int) = (zz : Int) := by rw [IntKind.wrap_i64]; omega
  have BX := HXX.out w5 T5.out.nb
  have T6 : Hid (TE w b t4 X (((w5.setCell ⟨w.heap.size + 1, 32, none⟩ (.int .u8 (kz : Int))).setCell ⟨w.heap.size + 1, 33, none⟩ (.int .i64 (oz : Int))).setCell ⟨w.heap.size + 1, 34, none⟩ (.int .i64 (zz : Int)))) := T5.out.turn (Lib.grownBy_setB (Lib.grownBy_setB (Lib.grownBy_setB (World.grownBy.refl _ _) 32 _) 33 _) 34 _) BX
  clear hst5 T4 BX HXX T5
  go_wp2_with (first
    | (refine wpList_get rfl 34 (.tmp 3) rfl (w.heap.size + 1) 0 X X 34 _ rfl T6.out.nb (fun j v hv => by rw [Nat.zero_add]; exact hv) Tryz.underlying34 rfl HIX.out.1 ?_)
    | (refine wpList_stoX rfl 34 (.tmp 2) (.tmp 45) rfl w.heap.size X z35X 34 rfl rfl T6.out.rb HIX.out.1 (by rw [HIX.out.2.2]; rfl) HIX.out.2.1 ?_; intro w7 HB7 HG7)
    | fail)
  refine bodyPost_ret (results_cell_row rfl _ _ w.heap.size 34 X (0, 0) _ rfl HB7.out Tryz.underlying34 rfl HIX.out.1) rfl ⟨rfl, ?_⟩
  have hg := HG7.out
  have h6 := T6.out.rd
  have hne : ∀ k, k < w.heap.size → some k ≠ some w.heap.size := fun k hk e => by injection e with e; omega
  have q := cell_blkX (j := 0) (hg.block b (Nat.lt_of_lt_of_le hb h6.size) (hne b hb))
  exact ⟨hg.os.trans h6.os, hg.tape.trans h6.tape, hg.output.trans h6.output, Nat.le_trans h6.size hg.size, by rw [q.1]; exact h6.cell, by rw [q.2]; exact h6.frozen, fun k hk hk2 => (hg.block k (Nat.lt_of_lt_of_le hk h6.size) (hne k hk)).trans (h6.block k hk hk2)⟩
end Go.Proofs.YtpfknjnigcefgaaGreatDoor
/- The layings of slices.SortFunc, slices.Clone at entries, of sort.Search. -/
namespace Go.Proofs.YtpfknjnigcefgaaGreatDoor
open Go.Shelf
def laysF6_ren : Go.Shelf.Ren := ⟨fun | 6 => 26 | 15 => 58 | 14 => 57 | 28 => 99 | 29 => 100 | 20 => 91 | 21 => 92 | 22 => 93 | 23 => 94 | 24 => 95 | 25 => 96 | 26 => 97 | 27 => 98 | 46 => 122 | 47 => 123 | 48 => 124 | 49 => 125 | 50 => 126 | 57 => 147 | n => n, fun | 22 => 25 | 24 => 34 | 25 => 63 | 3 => 3 | 39 => 115 | 0 => 0 | 53 => 97 | 55 => 86 | 4 => 4 | 46 => 146 | 45 => 145 | 50 => 68 | 5 => 5 | 9 => 9 | 66 => 174 | 70 => 178 | 76 => 196 | 77 => 111 | n => n, fun | n => n⟩
theorem laysF6 : Go.Proofs.SlLaysF0.n6 Tryz.prog laysF6_ren := {
  mixed := by kernel_rfl
  f6 := ⟨Tryz.f26.name, by decide, Tryz.func26.trans (congrArg some (by kernel_rfl))⟩
  f14 := ⟨Tryz.f57.name, by decide, Tryz.func57.trans (congrArg some (by kernel_rfl))⟩
  f15 := Tryz.func58.trans (congrArg some (by kernel_rfl))
  f20 := ⟨Tryz.f91.name, by decide, Tryz.func91.trans (congrArg some (by kernel_rfl))⟩
  f21 := ⟨Tryz.f92.name, by decide, Tryz.func92.trans (congrArg some (by kernel_rfl))⟩
  f22 := ⟨Tryz.f93.name, by decide, Tryz.func93.trans (congrArg some (by kernel_rfl))⟩
  f23 := ⟨Tryz.f94.name, by decide, Tryz.func94.trans (congrArg some (by kernel_rfl))⟩
  f24 := ⟨Tryz.f95.name, by decide, Tryz.func95.trans (congrArg some (by kernel_rfl))⟩
  f25 := ⟨Tryz.f96.name, by decide, Tryz.func96.trans (congrArg some (by kernel_rfl))⟩
  f26 := ⟨Tryz.f97.name, by decide, Tryz.func97.trans (congrArg some (by kernel_rfl))⟩
  f27 := ⟨Tryz.f98.name, by decide, Tryz.func98.trans (congrArg some (by kernel_rfl))⟩
  f28 := Tryz.func99.trans (congrArg some (by kernel_rfl))
  f29 := Tryz.func100.trans (congrArg some (by kernel_rfl))
  f46 := ⟨Tryz.f122.name, by decide, Tryz.func122.trans (congrArg some (by kernel_rfl))⟩
  f47 := Tryz.func123.trans (congrArg some (by kernel_rfl))
  f48 := Tryz.func124.trans (congrArg some (by kernel_rfl))
  f49 := ⟨Tryz.f125.name, by decide, Tryz.func125.trans (congrArg some (by kernel_rfl))⟩
  f50 := ⟨Tryz.f126.name, by decide, Tryz.func126.trans (congrArg some (by kernel_rfl))⟩
  f57 := ⟨Tryz.f147.name, by decide, Tryz.func147.trans (congrArg some (by kernel_rfl))⟩
  t0 := Tryz.underlying0
  a0 := Tryz.isAgg0
  z0 := Tryz.sizeOf0
  v0 := Tryz.zeroValue0
  t3 := Tryz.underlying3
  a3 := Tryz.isAgg3
  z3 := Tryz.sizeOf3
  v3 := Tryz.zeroValue3
  t4 := Tryz.underlying4
  a4 := Tryz.isAgg4
  z4 := Tryz.sizeOf4
  v4 := Tryz.zeroValue4
  t5 := Tryz.underlying5
  a5 := Tryz.isAgg5
  z5 := Tryz.sizeOf5
  v5 := Tryz.zeroValue5
  t9 := Tryz.underlying9
  a9 := Tryz.isAgg9
  z9 := Tryz.sizeOf9
  v9 := Tryz.zeroValue9
  t22 := Tryz.underlying25
  a22 := Tryz.isAgg25
  z22 := Tryz.sizeOf25
  v22 := Tryz.zeroValue25
  t25 := Tryz.underlying63
  a25 := Tryz.isAgg63
  z25 := Tryz.sizeOf63
  v25 := Tryz.zeroValue63
  t39 := Tryz.underlying115
  a39 := Tryz.isAgg115
  z39 := Tryz.sizeOf115
  v39 := Tryz.zeroValue115
  t45 := Tryz.underlying145
  a45 := Tryz.isAgg145
  z45 := Tryz.sizeOf145
  v45 := Tryz.zeroValue145
  t46 := Tryz.underlying146
  a46 := Tryz.isAgg146
  z46 := Tryz.sizeOf146
  v46 := Tryz.zeroValue146
  t50 := Tryz.underlying68
  a50 := Tryz.isAgg68
  z50 := Tryz.sizeOf68
  v50 := Tryz.zeroValue68
  t53 := Tryz.underlying97
  a53 := Tryz.isAgg97
  z53 := Tryz.sizeOf97
  v53 := Tryz.zeroValue97
  t55 := Tryz.underlying86
  a55 := Tryz.isAgg86
  z55 := Tryz.sizeOf86
  v55 := Tryz.zeroValue86
  t66 := Tryz.underlying174
  a66 := Tryz.isAgg174
  z66 := Tryz.sizeOf174
  v66 := Tryz.zeroValue174
  t70 := Tryz.underlying178
  a70 := Tryz.isAgg178
  z70 := Tryz.sizeOf178
  v70 := Tryz.zeroValue178
  t76 := Tryz.underlying196
  a76 := Tryz.isAgg196
  z76 := Tryz.sizeOf196
  v76 := Tryz.zeroValue196
  t77 := Tryz.underlying111
  a77 := Tryz.isAgg111
  z77 := Tryz.sizeOf111
  v77 := Tryz.zeroValue111 }
def laysO16_ren : Go.Shelf.Ren := ⟨fun | 16 => 79 | n => n, fun | 3 => 3 | 35 => 137 | 4 => 4 | 38 => 115 | n => n, fun | n => n⟩
theorem laysO16 : Go.Proofs.SlLaysO.n16 Tryz.prog laysO16_ren := {
  mixed := by kernel_rfl
  f16 := Tryz.func79.trans (congrArg some (by kernel_rfl))
  t3 := Tryz.underlying3
  a3 := Tryz.isAgg3
  z3 := Tryz.sizeOf3
  v3 := Tryz.zeroValue3
  t4 := Tryz.underlying4
  a4 := Tryz.isAgg4
  z4 := Tryz.sizeOf4
  v4 := Tryz.zeroValue4
  t35 := Tryz.underlying137
  a35 := Tryz.isAgg137
  z35 := Tryz.sizeOf137
  v35 := Tryz.zeroValue137
  t38 := Tryz.underlying115
  a38 := Tryz.isAgg115
  z38 := Tryz.sizeOf115
  v38 := Tryz.zeroValue115 }
def laysE41_ren : Go.Shelf.Ren := ⟨fun | 41 => 25 | n => n, fun | 22 => 25 | 23 => 34 | 4 => 4 | n => n, fun | n => n⟩
theorem laysE41 : Go.Proofs.SlLaysE0.n41 Tryz.prog laysE41_ren := {
  mixed := by kernel_rfl
  f41 := ⟨Tryz.f25.name, by decide, Tryz.func25.trans (congrArg some (by kernel_rfl))⟩
  t4 := Tryz.underlying4
  a4 := Tryz.isAgg4
  z4 := Tryz.sizeOf4
  v4 := Tryz.zeroValue4
  t22 := Tryz.underlying25
  a22 := Tryz.isAgg25
  z22 := Tryz.sizeOf25
  v22 := Tryz.zeroValue25 }
end Go.Proofs.YtpfknjnigcefgaaGreatDoor
