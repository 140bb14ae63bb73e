import Derived.Test.YtbfoiocbmhhdbaaGreatY5
import Derived.Test.YtbfoiocbmhhdbaaGreatY1
import Derived.Test.YtbfoiocbmhhdbaaGreatY4
import Derived.Laws.ResultCell
import Derived.Test.YtbfoiocbmhhdbaaGreatY2
import Derived.Lib.BytesEntry
import Derived.Laws.Externs
import Derived.Deep.QuietTactic
import Derived.BigQuiet
import Derived.Sort.Grow
import Derived.Deep.Draws
import Derived.BigCall
/- The walks of a reader's Take. -/
namespace Go.Proofs.YtbfoiocbmhhdbaaGreat
open Go.RowKit
set_option linter.unusedSimpArgs false
set_option linter.unusedVariables false
set_option maxHeartbeats 400000 in
theorem take_arg (s : ByteArray) (b : Nat) (w : World) (hs : s.size ≤ maxLen) (hc : w.cell? ⟨b, 0, none⟩ = some (.string s)) (hf : w.frozen? ⟨b, 0, none⟩ = false) (hb : b < w.heap.size) (n : Int) (hn : n < 0) :
    Calls Tryz.prog 74 #[.pointer (some ⟨b, 0, none⟩), .int .i64 n] w fun e w' => e = .returned (.tuple #[.string ⟨#[]⟩, .int .i64 1]) ∧ Step b w w' s := by
  have HS := still hb hc hf
  go_enter Tryz.func74, Tryz.ntmps74
  go_wp2
  go_ret2
  exact ⟨rfl, HS⟩
set_option maxHeartbeats 400000 in
theorem take_no (s : ByteArray) (b : Nat) (w : World) (hs : s.size ≤ maxLen) (hc : w.cell? ⟨b, 0, none⟩ = some (.string s)) (hf : w.frozen? ⟨b, 0, none⟩ = false) (hb : b < w.heap.size) (n : Nat) (hn : s.size < n) (hn2 : n ≤ 9223372036854775807) :
    Calls Tryz.prog 74 #[.pointer (some ⟨b, 0, none⟩), .int .i64 n] w fun e w' => e = .returned (.tuple #[.string ⟨#[]⟩, .int .i64 4]) ∧ Step b w w' s := by
  have hs' := hs
  unfold maxLen at hs'
  go_enter Tryz.func74, Tryz.ntmps74
  go_wp2_with fail
  refine (taker_any _ _).mono ?_
  rintro e w1 ⟨rfl, rfl⟩
  go_wp2_with fail
  refine (take1_no s b w.heap.size 0 n _ hs (al_ptr _ _ _) (al_cell _ hb hc) (by omega) (by omega)).mono ?_
  rintro e w1 ⟨rfl, rfl⟩
  go_wp2
  go_ret2
  exact ⟨rfl, untaken _ hb hc hf⟩
set_option maxHeartbeats 400000 in
theorem take_ok (s : ByteArray) (b : Nat) (w : World) (hs : s.size ≤ maxLen) (hc : w.cell? ⟨b, 0, none⟩ = some (.string s)) (hf : w.frozen? ⟨b, 0, none⟩ = false) (hb : b < w.heap.size) (n : Nat) (hn : n ≤ s.size) :
    Calls Tryz.prog 74 #[.pointer (some ⟨b, 0, none⟩), .int .i64 n] w fun e w' => e = .returned (.tuple #[.string (s.extract 0 n), .int .i64 0]) ∧ Step b w w' (s.extract n s.size) := by
  have hs' := hs
  unfold maxLen at hs'
  go_enter Tryz.func74, Tryz.ntmps74
  go_wp2_with fail
  refine (taker_any _ _).mono ?_
  rintro e w1 ⟨rfl, rfl⟩
  go_wp2_with fail
  refine (take1_ok s b w.heap.size 0 n _ hs (al_ptr _ _ _) (al_cell _ hb hc) (al_frozen _ hb hf) (by omega)).mono ?_
  rintro e w1 ⟨rfl, rfl⟩
  rw [Nat.zero_add]
  go_wp2
  go_ret2
  exact ⟨rfl, taken _ hb hc hf⟩
set_option maxHeartbeats 400000 in
theorem take_nil (w : World) (n : Int) :
    Calls Tryz.prog 74 #[.pointer none, .int .i64 n] w fun e w' => e = .returned (.tuple #[.string ⟨#[]⟩, .int .i64 2]) ∧ w' = w := by
  go_enter Tryz.func74, Tryz.ntmps74
  go_wp2
  go_ret2
  exact ⟨rfl, rfl⟩
end Go.Proofs.YtbfoiocbmhhdbaaGreat
/- The walk of a reader's Fixed. -/
namespace Go.Proofs.YtbfoiocbmhhdbaaGreat
open Go.RowKit
set_option linter.unusedSimpArgs false
set_option linter.unusedVariables false
theorem ret_ue {a b : Nat} {k l : IntKind} {c : Int} (h : a = b) : Ending.returned (.tuple #[.int k a, .int l c]) = .returned (.tuple #[.int k b, .int l c]) := by rw [h]
set_option maxHeartbeats 400000 in
theorem fixed_nil (w : World) (m : Int) :
    Calls Tryz.prog 75 #[.pointer none, .int .i64 m] w fun e w' => e = .returned (.tuple #[.int .u64 0, .int .i64 2]) ∧ w' = w := by
  go_enter Tryz.func75, Tryz.ntmps75
  go_wp2
  go_ret2
  exact ⟨rfl, rfl⟩
set_option maxHeartbeats 400000 in
theorem fixed_arg (s : ByteArray) (b : Nat) (w : World) (hs : s.size ≤ maxLen) (hc : w.cell? ⟨b, 0, none⟩ = some (.string s)) (hf : w.frozen? ⟨b, 0, none⟩ = false) (hb : b < w.heap.size) (m : Int) (hm : isW m = false) :
    Calls Tryz.prog 75 #[.pointer (some ⟨b, 0, none⟩), .int .i64 m] w fun e w' => e = .returned (.tuple #[.int .u64 0, .int .i64 1]) ∧ Step b w w' s := by
  have HS := still hb hc hf
  go_enter Tryz.func75, Tryz.ntmps75
  go_wp2_with (go_at_call 104; refine (isWidth_any _ _).mono ?_; rintro e w' ⟨rfl, rfl⟩; rw [hm])
  go_ret2
  exact ⟨rfl, HS⟩
set_option maxHeartbeats 400000 in
theorem fixed_no (s : ByteArray) (b : Nat) (w : World) (hs : s.size ≤ maxLen) (hc : w.cell? ⟨b, 0, none⟩ = some (.string s)) (hf : w.frozen? ⟨b, 0, none⟩ = false) (hb : b < w.heap.size) (d : Nat) (hd1 : 1 ≤ d) (hd2 : d ≤ 8) (hl : s.size < d) :
    Calls Tryz.prog 75 #[.pointer (some ⟨b, 0, none⟩), .int .i64 d] w fun e w' => e = .returned (.tuple #[.int .u64 0, .int .i64 4]) ∧ Step b w w' s := by
  have hiw : isW (d : Int) = true := isW_yes (by omega) (by omega)
  go_enter Tryz.func75, Tryz.ntmps75
  go_wp2_with (go_at_call 104; refine (isWidth_any _ _).mono ?_; rintro e w' ⟨rfl, rfl⟩; rw [hiw])
  refine (taker_any _ _).mono ?_
  rintro e w1 ⟨rfl, rfl⟩
  go_wp2_with fail
  refine (take1_no s b w'.heap.size 0 d _ hs (al_ptr _ _ _) (al_cell _ hb hc) (by omega) (by omega)).mono ?_
  rintro e w1 ⟨rfl, rfl⟩
  go_wp2
  refine wp_loop_rounds 1 ?_
  rw [rounds_succ]
  go_wp2
  go_ret2
  exact ⟨rfl, untaken _ hb hc hf⟩
set_option maxHeartbeats 400000 in
theorem fixed_ok (s : ByteArray) (b : Nat) (w : World) (hs : s.size ≤ maxLen) (hc : w.cell? ⟨b, 0, none⟩ = some (.string s)) (hf : w.frozen? ⟨b, 0, none⟩ = false) (hb : b < w.heap.size) (d : Nat) (hd1 : 1 ≤ d) (hd2 : d ≤ 8) (hl : d ≤ s.size) :
    Calls Tryz.prog 75 #[.pointer (some ⟨b, 0, none⟩), .int .i64 d] w fun e w' => e = .returned (.tuple #[.int .u64 (fixV ((bl s).take d)), .int .i64 0]) ∧ Step b w w' (s.extract d s.size) := by
  have hiw : isW (d : Int) = true := isW_yes (by omega) (by omega)
  obtain ⟨t, ht⟩ : ∃ t, t = s.extract 0 d := ⟨_, rfl⟩
  have htz : t.size = d := by subst ht; simp; omega
  have HT : Hid (bl t = (bl s).take d) := by subst ht; exact extract_take s d hl
  go_enter Tryz.func75, Tryz.ntmps75
  go_wp2_with (go_at_call 104; refine (isWidth_any _ _).mono ?_; rintro e w' ⟨rfl, rfl⟩; rw [hiw])
  refine (taker_any _ _).mono ?_
  rintro e w1 ⟨rfl, rfl⟩
  go_wp2_with fail
  refine (take1_ok s b w'.heap.size 0 d _ hs (al_ptr _ _ _) (al_cell _ hb hc) (al_frozen _ hb hf) (by omega)).mono ?_
  rintro e w1 ⟨rfl, rfl⟩
  rw [Nat.zero_add, ← ht]
  clear ht
  have HW : Hid (Step b w' ((w'.setCell ⟨b, 0, none⟩ (.string (s.extract d s.size))).alloc (.cells #[.pointer (some ⟨b, 0, none⟩)] 155)).drew (s.extract d s.size)) := taken _ hb hc hf
  go_wp2
  go_loop [8, 25] (fun v i => ∃ (k acc : Nat), k ≤ d ∧ acc < 2 ^ 64 ∧ i = .int .i64 k ∧ v = .int .u64 acc ∧ Hid (acc = fixV ((bl t).take k))) (fun _ i => 10 - (intOf i).toNat)
  case atStart => exact ⟨0, 0, by omega, by omega, rfl, rfl, rfl⟩
  case round =>
    obtain ⟨k, acc, hk1, hacc, rfl, rfl, HR⟩ := hrel
    by_cases hlt : k < d
    · have hkt : k < t.size := by omega
      go_wp2
      go_round
      case rel =>
        have hlt256 := t[k].toNat_lt
        have hl : acc < 256 ^ k := by
          have := fixV_lt ((bl t).take k)
          rw [← HR.out, List.length_take, bl_length, htz, Nat.min_eq_left (by omega)] at this
          exact this
        obtain ⟨e1, e2⟩ := fixStep acc t[k].toNat k hlt256 (by omega) hl
        refine ⟨k + 1, _, by omega, e2, by go_num, ?_, ?_⟩
        · rw [← e1, show IntKind.u64.wrap (t[k].toNat : Int) = t[k].toNat from by rw [IntKind.wrap_u64]; omega]
        · rw [take_snoc t k hkt, fixV_snoc, ← HR.out]; rfl
      case measure => simp [intOf]; omega
    · go_wp2
      go_ret2
      refine ⟨ret_ue ?_, HW.out⟩
      have e : k = d := by omega
      rw [HR.out, HT.out, List.take_take, e, Nat.min_self]
end Go.Proofs.YtbfoiocbmhhdbaaGreat
/- wire.Reader.Left. -/
namespace Go.Proofs.YtbfoiocbmhhdbaaGreat
open Go.RowKit
set_option linter.unusedSimpArgs false
set_option linter.unusedVariables false
set_option maxHeartbeats 400000 in
theorem left_any (s : ByteArray) (b : Nat) (w : World) (hs : s.size ≤ maxLen) (hc : w.cell? ⟨b, 0, none⟩ = some (.string s)) :
    Calls Tryz.prog 76 #[.pointer (some ⟨b, 0, none⟩)] w fun e w' => e = .returned (.int .i64 s.size) ∧ w' = w := by
  unfold maxLen at hs
  go_enter Tryz.func76, Tryz.ntmps76
  go_wp2
  go_ret
  exact ⟨rfl, rfl⟩
set_option maxHeartbeats 400000 in
theorem left_nil (w : World) : Calls Tryz.prog 76 #[.pointer none] w fun e w' => e = .returned (.int .i64 0) ∧ w' = w := by
  go_enter Tryz.func76, Tryz.ntmps76
  go_wp2
  go_ret
  exact ⟨rfl, rfl⟩
end Go.Proofs.YtbfoiocbmhhdbaaGreat
/- idx.takeEntry. -/
namespace Go.Proofs.YtbfoiocbmhhdbaaGreat
open Go.RowKit
set_option linter.unusedSimpArgs false
set_option linter.unusedVariables false
theorem Step.then {b : Nat} {w w1 w2 : World} {s1 s2 : ByteArray} (h1 : Step b w w1 s1) (h2 : Step b w1 w2 s2) : Step b w w2 s2 :=
  ⟨h2.os.trans h1.os, h2.tape.trans h1.tape, h2.output.trans h1.output, Nat.le_trans h1.size h2.size, h2.cell, h2.frozen, fun k hk hne => (h2.block k (Nat.lt_of_lt_of_le hk h1.size) hne).trans (h1.block k hk hne)⟩
theorem cell_blkX {w w' : World} {r j : Nat} (h : w'.heap[r]? = w.heap[r]?) : w'.cell? ⟨r, j, none⟩ = w.cell? ⟨r, j, none⟩ ∧ w'.frozen? ⟨r, j, none⟩ = w.frozen? ⟨r, j, none⟩ := by simp [World.cell?, World.frozen?, h]
/-- An entry that is being taken: the reader, the entry's block and that of the answer. -/
structure TE (w : World) (b : Nat) (t : ByteArray) (C : Array Value) (wr : World) : Prop where
  rd : Step b w wr t
  rb : Bk wr w.heap.size z35X 50
  nb : Bk wr (w.heap.size + 1) C 50
  bl : b < w.heap.size
theorem TE.step {w wr w' : World} {b : Nat} {t t' : ByteArray} {C : Array Value} (h : TE w b t C wr) (hs : Step b wr w' t') : TE w b t' C w' := by
  have hb := h.bl
  refine ⟨h.rd.then hs, ?_, ?_, hb⟩
  · unfold Bk; rw [hs.block _ h.rb.lt (by omega)]; exact h.rb
  · unfold Bk; rw [hs.block _ h.nb.lt (by omega)]; exact h.nb
theorem TE.turn {w wr w' : World} {b : Nat} {t : ByteArray} {C C' : Array Value} (h : TE w b t C wr) (hg : wr.grownBy w' (some (w.heap.size + 1))) (hn : Bk w' (w.heap.size + 1) C' 50) : TE w b t C' w' := by
  have hb := h.bl
  have hlt : b < wr.heap.size := Nat.lt_of_lt_of_le hb h.rd.size
  have hne : ∀ k, k < w.heap.size → some k ≠ some (w.heap.size + 1) := fun k hk e => by injection e with e; omega
  have q := cell_blkX (j := 0) (hg.block b hlt (hne b hb))
  refine ⟨⟨hg.os.trans h.rd.os, hg.tape.trans h.rd.tape, hg.output.trans h.rd.output, Nat.le_trans h.rd.size hg.size, by rw [q.1]; exact h.rd.cell, by rw [q.2]; exact h.rd.frozen, fun k hk hk2 => (hg.block k (Nat.lt_of_lt_of_le hk h.rd.size) (hne k hk)).trans (h.rd.block k hk hk2)⟩, ?_, hn, hb⟩
  unfold Bk
  rw [hg.block _ h.rb.lt (fun e => by injection e with e; omega)]
  exact h.rb
theorem z35_size : z35X.size = 35 := rfl
theorem xe_eq (C : Array Value) (e : Xe) (h : e.id.size = 32) (hC : C.size = 35) (h1 : ∀ j, j < 32 → C[j]? = (idc e.id)[j]?) (h2 : C[32]? = some (.int .u8 (e.k.toNat : Int))) (h3 : C[33]? = some (.int .i64 e.off)) (h4 : C[34]? = some (.int .i64 e.sz)) : C = xeC e := by
  obtain ⟨k1, k2, k3⟩ := xeC_at e h
  apply Array.ext_getElem?
  intro i
  by_cases q : i < 32
  · have hi : i < (idc e.id).size := by rw [idc_size, h]; exact q
    have := xeC_id e h i _ (Array.getElem?_eq_getElem hi)
    rw [Nat.zero_add] at this
    rw [h1 i q, this, Array.getElem?_eq_getElem hi]
  · by_cases q2 : i < 35
    · have : i = 32 ∨ i = 33 ∨ i = 34 := by omega
      rcases this with rfl | rfl | rfl
      · rw [h2, k1]
      · rw [h3, k2]
      · rw [h4, k3]
    · rw [Array.getElem?_eq_none (by omega), Array.getElem?_eq_none (by rw [xeC_size e h]; omega)]
/-- The name copied in. -/
theorem TE.copy {w wr : World} {b : Nat} {t x : ByteArray} (h : TE w b t z35X wr) (hx : x.size = 32) :
    ∃ w', (∀ ty, (Builtin.copy_ #[131, 9] ty #[.slice (some ⟨w.heap.size + 1, 0, none⟩) 32 32, .string x]).run Tryz.prog wr = .ok (goInt 32) w') ∧ TE w b t (putA z35X 0 (bvc (byl x))) w' := by
  have hi : (Tryz.prog.info? 5).map (·.size) = some 1 := by kernel_rfl
  have hm : Nat.min x.size 32 = 32 := by rw [hx]; rfl
  refine ⟨wr.setCells (w.heap.size + 1) 0 (bvc ((byl x).take 32)), fun ty => ?_, ?_⟩
  · have q := copy_str wr 131 9 ty 5 (w.heap.size + 1) 0 32 32 x Tryz.underlying131 hi (fun j hj => by
      rw [hm] at hj
      rw [h.nb.cell, Nat.zero_add, Array.getElem?_eq_getElem (by rw [z35_size]; omega)]; rfl) (fun j _ => h.nb.frozen _)
    rw [hm] at q
    exact q
  · have e : (byl x).take 32 = byl x := List.take_of_length_le (by rw [byl_length, hx]; omega)
    rw [e]
    exact h.turn (grown_puts _ _ _ (World.grownBy.refl _ _)) (Blk.puts _ _ _ _ h.nb)
theorem bl_ex (t : ByteArray) (k : Nat) : bl (t.extract k t.size) = (bl t).drop k := by
  rw [bl_extract, List.take_of_length_le (by rw [bl_length]; exact Nat.le_refl _)]
theorem ex_size (t : ByteArray) (k : Nat) : (t.extract k t.size).size = t.size - k := by
  rw [← bl_length, bl_ex, List.length_drop, bl_length]
set_option maxHeartbeats 4000000 in
set_option maxRecDepth 100000 in
theorem takeEntry_any (t : ByteArray) (b : Nat) (w : World) (hc : w.cell? ⟨b, 0, none⟩ = some (.string t)) (hf : w.frozen? ⟨b, 0, none⟩ = false) (hb : b < w.heap.size) (ht : 41 ≤ t.size) (hs : t.size ≤ 100000000) :
    Calls Tryz.prog 90 #[.pointer (some ⟨b, 0, none⟩)] w fun e w' => e = .returned (.agg (xeC (rdXe (bl t)))) ∧ Step b w w' (t.extract 41 t.size) := by
  have hm : ∀ {n : Nat}, n ≤ 100000000 → n ≤ maxLen := fun h => by unfold maxLen; omega
  have T0 : Hid (TE w b t z35X ((w.alloc (.cells z35X 50)).alloc (.cells z35X 50))) := by
    have q := bk_new (w.alloc (.cells z35X 50)) z35X 50
    rw [al_size] at q
    exact ⟨Step.of_below (((Below.refl _ _).alloc (Nat.le_refl _) _).alloc (by rw [al_size]; omega) _) hb hc hf, (bk_new _ _ _).alloc _, q, hb⟩
  have hsl := slice32 (w.heap.size + 1)
  obtain ⟨x, hx⟩ : ∃ x, t.extract 0 32 = x := ⟨_, rfl⟩
  obtain ⟨t1, ht1⟩ : ∃ t1, t.extract 32 t.size = t1 := ⟨_, rfl⟩
  obtain ⟨t2, ht2⟩ : ∃ t2, t1.extract 1 t1.size = t2 := ⟨_, rfl⟩
  obtain ⟨t3, ht3⟩ : ∃ t3, t2.extract 4 t2.size = t3 := ⟨_, rfl⟩
  obtain ⟨t4, ht4⟩ : ∃ t4, t3.extract 4 t3.size = t4 := ⟨_, rfl⟩
  have b1 : bl t1 = (bl t).drop 32 := by rw [← ht1]; exact bl_ex t 32
  have b2 : bl t2 = (bl t).drop 33 := by rw [← ht2, bl_ex, b1, List.drop_drop]
  have b3 : bl t3 = (bl t).drop 37 := by rw [← ht3, bl_ex, b2, List.drop_drop]
  have b4 : bl t4 = (bl t).drop 41 := by rw [← ht4, bl_ex, b3, List.drop_drop]
  have s1 : t1.size = t.size - 32 := by rw [← ht1]; exact ex_size t 32
  have s2 : t2.size = t.size - 33 := by rw [← ht2, ex_size, s1]; omega
  have s3 : t3.size = t.size - 37 := by rw [← ht3, ex_size, s2]; omega
  have hxs : x.size = 32 := by rw [← hx, ← bl_length, bl_extract, List.length_drop, List.length_take, bl_length]; omega
  obtain ⟨kz, hkz⟩ : ∃ k, fixV ((bl t1).take 1) = k := ⟨_, rfl⟩
  obtain ⟨oz, hoz⟩ : ∃ k, fixV ((bl t2).take 4) = k := ⟨_, rfl⟩
  obtain ⟨zz, hzz⟩ : ∃ k, fixV ((bl t3).take 4) = k := ⟨_, rfl⟩
  have lk : kz < 256 := by rw [← hkz]; have := fix_lt t1 1 (by omega); omega
  have lo : oz < 4294967296 := by rw [← hoz]; have := fix_lt t2 4 (by omega); omega
  have lz : zz < 4294967296 := by rw [← hzz]; have := fix_lt t3 4 (by omega); omega
  obtain ⟨X, hXe⟩ : ∃ X, xeC (rdXe (bl t)) = X := ⟨_, rfl⟩
  have hid : (rdXe (bl t)).id = x := by
    apply bl_inj
    show (bl t).take 32 = bl x
    rw [← hx, bl_extract, List.drop_zero]
  have hid32 : (rdXe (bl t)).id.size = 32 := by rw [hid, hxs]
  have hkk : ((rdXe (bl t)).k.toNat : Int) = (kz : Int) := by
    have q : (bl t1).take 1 = [((bl t).drop 32).headD 0] := by
      rw [b1]
      cases hq : (bl t).drop 32 with
      | nil =>
        have := congrArg List.length hq
        rw [List.length_drop, bl_length] at this
        simp at this
        omega
      | cons a r => rfl
    rw [← hkz, q]
    show _ = ((fixV [((bl t).drop 32).headD 0] : Nat) : Int)
    simp [fixV, rdXe]
  have HXX : Hid (∀ W, Bk W (w.heap.size + 1) (putA z35X 0 (bvc (byl x))) 50 → Bk (((W.setCell ⟨w.heap.size + 1, 32, none⟩ (.int .u8 (kz : Int))).setCell ⟨w.heap.size + 1, 33, none⟩ (.int .i64 (oz : Int))).setCell ⟨w.heap.size + 1, 34, none⟩ (.int .i64 (zz : Int))) (w.heap.size + 1) X 50) := fun W hW => by
    have q := ((hW.set 32 (.int .u8 (kz : Int))).set 33 (.int .i64 (oz : Int))).set 34 (.int .i64 (zz : Int))
    have hps : (putA z35X 0 (bvc (byl x))).size = 35 := by rw [putA_size, z35_size]
    have e : (((putA z35X 0 (bvc (byl x))).setIfInBounds 32 (.int .u8 (kz : Int))).setIfInBounds 33 (.int .i64 (oz : Int))).setIfInBounds 34 (.int .i64 (zz : Int)) = X := by
      rw [← hXe]
      refine xe_eq _ _ hid32 (by simp [hps]) (fun j hj => ?_) ?_ ?_ ?_
      · rw [Array.getElem?_setIfInBounds_ne (by omega), Array.getElem?_setIfInBounds_ne (by omega), Array.getElem?_setIfInBounds_ne (by omega), putA_get _ _ _ _ (by simp [bvc, byl_length, hxs, z35_size]), if_pos (by simp [bvc, byl_length, hxs]; omega), hid, idc, List.getElem?_toArray, Nat.sub_zero]
      · rw [Array.getElem?_setIfInBounds_ne (by omega), Array.getElem?_setIfInBounds_ne (by omega), Array.getElem?_setIfInBounds_self_of_lt (by rw [hps]; omega), hkk]
      · rw [Array.getElem?_setIfInBounds_ne (by omega), Array.getElem?_setIfInBounds_self_of_lt (by simp [hps])]
        rw [← hoz, b2]; rfl
      · rw [Array.getElem?_setIfInBounds_self_of_lt (by simp [hps])]
        rw [← hzz, b3]; rfl
    rw [e] at q
    exact q
  have HIX : Hid ((Tryz.prog.info? 50).map (·.size) = some X.size ∧ X.all (·.oneCell') = true ∧ X.size = 35) := by rw [← hXe]; exact ⟨info_xe (xeC_size _ hid32), xeC_all _, xeC_size _ hid32⟩
  have h4 : t.extract 41 t.size = t4 := by apply bl_inj; rw [bl_ex, b4]
  have HS : Hid (t1.size = t.size - 32 ∧ t2.size = t.size - 33 ∧ t3.size = t.size - 37) := ⟨s1, s2, s3⟩
  have HT : Hid (t.extract 32 t.size = t1 ∧ t1.extract 1 t1.size = t2 ∧ t2.extract 4 t2.size = t3 ∧ t3.extract 4 t3.size = t4) := ⟨ht1, ht2, ht3, ht4⟩
  have HF : Hid (fixV ((bl t1).take 1) = kz ∧ fixV ((bl t2).take 4) = oz ∧ fixV ((bl t3).take 4) = zz) := ⟨hkz, hoz, hzz⟩
  have hq0 : (putA z35X 0 (bvc (byl x)))[32]? = some (.int .u8 0) ∧ (putA z35X 0 (bvc (byl x)))[33]? = some (.int .i64 0) ∧ (putA z35X 0 (bvc (byl x)))[34]? = some (.int .i64 0) := by
    have hle : 0 + (bvc (byl x)).length ≤ z35X.size := by simp [bvc, byl_length, hxs, z35_size]
    refine ⟨?_, ?_, ?_⟩ <;> (rw [putA_get _ _ _ _ hle, if_neg (by simp [bvc, byl_length, hxs])]; rfl)
  have HQ0 : Hid _ := hq0
  rw [h4, hXe]
  clear hc hf b1 b2 b3 b4 s1 s2 s3 ht1 ht2 ht3 ht4 hkz hoz hzz hid hid32 hkk hXe h4 hq0
  have HX : Hid (t.extract 0 32 = x ∧ x.size = 32) := ⟨hx, hxs⟩
  clear hx hxs
  go_enter Tryz.func90, Tryz.ntmps90
  go_wp2_with fail
  refine (take_ok t b _ (hm hs) T0.out.rd.cell T0.out.rd.frozen (Nat.lt_of_lt_of_le hb T0.out.rd.size) 32 (by omega)).mono ?_
  rintro e w1 ⟨rfl, hst1⟩
  rw [HX.out.1]
  rw [HT.out.1] at hst1
  have T1 : Hid (TE w b t1 z35X w1) := T0.out.step hst1
  obtain ⟨w2, hcp, hT2⟩ := T1.out.copy HX.out.2
  have T2 : Hid (TE w b t1 (putA z35X 0 (bvc (byl x))) w2) := hT2
  clear hst1 T0 hT2 T1
  go_wp2_with (first
    | (refine wpList_copyX rfl (.tmp 18) (.tmp 19) 131 9 rfl (.slice (some ⟨w.heap.size + 1, 0, none⟩) 32 32) (.string x) (goInt 32) w2 rfl rfl (hcp _) ?_)
    | fail)
  refine (fixed_ok t1 b w2 (hm (by rw [HS.out.1]; omega)) T2.out.rd.cell T2.out.rd.frozen (Nat.lt_of_lt_of_le hb T2.out.rd.size) 1 (by omega) (by omega) (by rw [HS.out.1]; omega)).mono ?_
  rintro e w3 ⟨rfl, hst3⟩
  rw [HF.out.1]
  rw [HT.out.2.1] at hst3
  have T3 : Hid (TE w b t2 (putA z35X 0 (bvc (byl x))) w3) := T2.out.step hst3
  clear hst3 T2 hcp hsl
  go_wp2_with fail
  refine (fixed_ok t2 b w3 (hm (by rw [HS.out.2.1]; omega)) T3.out.rd.cell T3.out.rd.frozen (Nat.lt_of_lt_of_le hb T3.out.rd.size) 4 (by omega) (by omega) (by rw [HS.out.2.1]; omega)).mono ?_
  rintro e w4 ⟨rfl, hst4⟩
  rw [HF.out.2.1]
  rw [HT.out.2.2.1] at hst4
  have T4 : Hid (TE w b t3 (putA z35X 0 (bvc (byl x))) w4) := T3.out.step hst4
  clear hst4 T3
  go_wp2_with fail
  refine (fixed_ok t3 b w4 (hm (by rw [HS.out.2.2]; omega)) T4.out.rd.cell T4.out.rd.frozen (Nat.lt_of_lt_of_le hb T4.out.rd.size) 4 (by omega) (by omega) (by rw [HS.out.2.2]; omega)).mono ?_
  rintro e w5 ⟨rfl, hst5⟩
  rw [HF.out.2.2]
  rw [HT.out.2.2.2] at hst5
  have T5 : Hid (TE w b t4 (putA z35X 0 (bvc (byl x))) w5) := T4.out.step hst5
  have y1 : w5.cell? ⟨w.heap.size + 1, 32, none⟩ = some (.int .u8 0) := by rw [T5.out.nb.cell]; exact HQ0.out.1
  have y2 : w5.cell? ⟨w.heap.size + 1, 33, none⟩ = some (.int .i64 0) := by rw [T5.out.nb.cell]; exact HQ0.out.2.1
  have y3 : w5.cell? ⟨w.heap.size + 1, 34, none⟩ = some (.int .i64 0) := by rw [T5.out.nb.cell]; exact HQ0.out.2.2
  have z1 : w5.frozen? ⟨w.heap.size + 1, 32, none⟩ = false := T5.out.nb.frozen _
  have z2 : w5.frozen? ⟨w.heap.size + 1, 33, none⟩ = false := T5.out.nb.frozen _
  have z3 : w5.frozen? ⟨w.heap.size + 1, 34, none⟩ = false := T5.out.nb.frozen _
  have q1 : IntKind.u8.wrap (kz : Int) = (kz : Int) := by simp [IntKind.wrap, IntKind.bits, IntKind.signed]; omega
  have q2 : IntKind.i64.wrap (oz : Int) = (oz : Int) := by rw [IntKind.wrap_i64]; omega
  have q3 : IntKind.i64.wrap (zz : Int) = (zz : Int) := by rw [IntKind.wrap_i64]; omega
  have BX := HXX.out w5 T5.out.nb
  have T6 : Hid (TE w b t4 X (((w5.setCell ⟨w.heap.size + 1, 32, none⟩ (.int .u8 (kz : Int))).setCell ⟨w.heap.size + 1, 33, none⟩ (.int .i64 (oz : Int))).setCell ⟨w.heap.size + 1, 34, none⟩ (.int .i64 (zz : Int)))) := T5.out.turn (Lib.grownBy_setB (Lib.grownBy_setB (Lib.grownBy_setB (World.grownBy.refl _ _) 32 _) 33 _) 34 _) BX
  clear hst5 T4 BX HXX T5
  go_wp2_with (first
    | (refine wpList_get rfl 50 (.tmp 3) rfl (w.heap.size + 1) 0 X X 50 _ rfl T6.out.nb (fun j v hv => by rw [Nat.zero_add]; exact hv) Tryz.underlying50 rfl HIX.out.1 ?_)
    | (refine wpList_stoX rfl 50 (.tmp 2) (.tmp 45) rfl w.heap.size X z35X 50 rfl rfl T6.out.rb HIX.out.1 (by rw [HIX.out.2.2]; rfl) HIX.out.2.1 ?_; intro w7 HB7 HG7)
    | fail)
  refine bodyPost_ret (results_cell_row rfl _ _ w.heap.size 50 X (0, 0) _ rfl HB7.out Tryz.underlying50 rfl HIX.out.1) rfl ⟨rfl, ?_⟩
  have hg := HG7.out
  have h6 := T6.out.rd
  have hne : ∀ k, k < w.heap.size → some k ≠ some w.heap.size := fun k hk e => by injection e with e; omega
  have q := cell_blkX (j := 0) (hg.block b (Nat.lt_of_lt_of_le hb h6.size) (hne b hb))
  exact ⟨hg.os.trans h6.os, hg.tape.trans h6.tape, hg.output.trans h6.output, Nat.le_trans h6.size hg.size, by rw [q.1]; exact h6.cell, by rw [q.2]; exact h6.frozen, fun k hk hk2 => (hg.block k (Nat.lt_of_lt_of_le hk h6.size) (hne k hk)).trans (h6.block k hk hk2)⟩
end Go.Proofs.YtbfoiocbmhhdbaaGreat
/- midx.takeId. -/
namespace Go.Proofs.YtbfoiocbmhhdbaaGreat
open Go.RowKit
set_option linter.unusedSimpArgs false
set_option linter.unusedVariables false
/-- A name that is being taken: the reader, the answer's block and the name's. -/
structure TI (w : World) (b : Nat) (t : ByteArray) (C : Array Value) (wr : World) : Prop where
  rd : Step b w wr t
  rb : Bk wr w.heap.size z32c 48
  nb : Bk wr (w.heap.size + 1) C 48
  bl : b < w.heap.size
theorem TI.step {w wr w' : World} {b : Nat} {t t' : ByteArray} {C : Array Value} (h : TI w b t C wr) (hs : Step b wr w' t') : TI w b t' C w' := by
  have hb := h.bl
  refine ⟨h.rd.then hs, ?_, ?_, hb⟩
  · unfold Bk; rw [hs.block _ h.rb.lt (by omega)]; exact h.rb
  · unfold Bk; rw [hs.block _ h.nb.lt (by omega)]; exact h.nb
theorem TI.turn {w wr w' : World} {b : Nat} {t : ByteArray} {C C' : Array Value} (h : TI w b t C wr) (hg : wr.grownBy w' (some (w.heap.size + 1))) (hn : Bk w' (w.heap.size + 1) C' 48) : TI w b t C' w' := by
  have hb := h.bl
  have hlt : b < wr.heap.size := Nat.lt_of_lt_of_le hb h.rd.size
  have hne : ∀ k, k < w.heap.size → some k ≠ some (w.heap.size + 1) := fun k hk e => by injection e with e; omega
  have q := cell_blkX (j := 0) (hg.block b hlt (hne b hb))
  refine ⟨⟨hg.os.trans h.rd.os, hg.tape.trans h.rd.tape, hg.output.trans h.rd.output, Nat.le_trans h.rd.size hg.size, by rw [q.1]; exact h.rd.cell, by rw [q.2]; exact h.rd.frozen, fun k hk hk2 => (hg.block k (Nat.lt_of_lt_of_le hk h.rd.size) (hne k hk)).trans (h.rd.block k hk hk2)⟩, ?_, hn, hb⟩
  unfold Bk
  rw [hg.block _ h.rb.lt (fun e => by injection e with e; omega)]
  exact h.rb
theorem put_idc (x : ByteArray) (hx : x.size = 32) : putA z32c 0 (bvc (byl x)) = idc x := by
  have hle : 0 + (bvc (byl x)).length ≤ z32c.size := by rw [z32c_size]; simp [bvc, byl_length, hx]
  apply Array.ext_getElem?
  intro j
  rw [putA_get _ _ _ _ hle]
  by_cases hj : j < 32
  · rw [if_pos (by simp [bvc, byl_length, hx]; omega), idc, List.getElem?_toArray, Nat.sub_zero]
  · rw [if_neg (by simp [bvc, byl_length, hx]; omega), Array.getElem?_eq_none (by rw [z32c_size]; omega), Array.getElem?_eq_none (by rw [idc_size, hx]; omega)]
/-- The name copied in. -/
theorem TI.copy {w wr : World} {b : Nat} {t x : ByteArray} (h : TI w b t z32c wr) (hx : x.size = 32) :
    ∃ w', (∀ ty, (Builtin.copy_ #[131, 9] ty #[.slice (some ⟨w.heap.size + 1, 0, none⟩) 32 32, .string x]).run Tryz.prog wr = .ok (goInt 32) w') ∧ TI w b t (idc x) w' := by
  have hi : (Tryz.prog.info? 5).map (·.size) = some 1 := by kernel_rfl
  have hm : Nat.min x.size 32 = 32 := by rw [hx]; rfl
  refine ⟨wr.setCells (w.heap.size + 1) 0 (bvc ((byl x).take 32)), fun ty => ?_, ?_⟩
  · have q := copy_str wr 131 9 ty 5 (w.heap.size + 1) 0 32 32 x Tryz.underlying131 hi (fun j hj => by
      rw [hm] at hj
      rw [h.nb.cell, Nat.zero_add, Array.getElem?_eq_getElem (by rw [z32c_size]; omega)]; rfl) (fun j _ => h.nb.frozen _)
    rw [hm] at q
    exact q
  · have e : (byl x).take 32 = byl x := List.take_of_length_le (by rw [byl_length, hx]; omega)
    rw [e, ← put_idc x hx]
    exact h.turn (grown_puts _ _ _ (World.grownBy.refl _ _)) (Blk.puts _ _ _ _ h.nb)
set_option maxHeartbeats 4000000 in
set_option maxRecDepth 100000 in
theorem takeId_any (t : ByteArray) (b : Nat) (w : World) (hc : w.cell? ⟨b, 0, none⟩ = some (.string t)) (hf : w.frozen? ⟨b, 0, none⟩ = false) (hb : b < w.heap.size) (ht : 32 ≤ t.size) (hs : t.size ≤ maxLen) :
    Calls Tryz.prog 77 #[.pointer (some ⟨b, 0, none⟩)] w fun e w' => e = .returned (.agg (idc ⟨((bl t).take 32).toArray⟩)) ∧ Step b w w' (t.extract 32 t.size) := by
  have T0 : Hid (TI w b t z32c ((w.alloc (.cells z32c 48)).alloc (.cells z32c 48))) := by
    have q := bk_new (w.alloc (.cells z32c 48)) z32c 48
    rw [al_size] at q
    exact ⟨Step.of_below (((Below.refl _ _).alloc (Nat.le_refl _) _).alloc (by rw [al_size]; omega) _) hb hc hf, (bk_new _ _ _).alloc _, q, hb⟩
  have hsl := slice32 (w.heap.size + 1)
  obtain ⟨x, hx⟩ : ∃ x, t.extract 0 32 = x := ⟨_, rfl⟩
  obtain ⟨t1, ht1⟩ : ∃ t1, t.extract 32 t.size = t1 := ⟨_, rfl⟩
  have hxs : x.size = 32 := by rw [← hx, ← bl_length, bl_extract, List.length_drop, List.length_take, bl_length]; omega
  have hX : (⟨((bl t).take 32).toArray⟩ : ByteArray) = x := by
    apply bl_inj
    show (bl t).take 32 = bl x
    rw [← hx, bl_extract, List.drop_zero]
  rw [hX, ht1]
  have HX : Hid (t.extract 0 32 = x ∧ t.extract 32 t.size = t1 ∧ x.size = 32) := ⟨hx, ht1, hxs⟩
  have HM : Hid (t.size ≤ maxLen) := hs
  have HI : Hid ((Tryz.prog.info? 48).map (·.size) = some (idc x).size ∧ (idc x).all (·.oneCell') = true ∧ (idc x).size = 32) := ⟨info_32 (by rw [idc_size, hxs]), idc_allX x, by rw [idc_size, hxs]⟩
  obtain ⟨X, hXe⟩ : ∃ X, idc x = X := ⟨_, rfl⟩
  rw [hXe] at HI ⊢
  have HXE : Hid (idc x = X) := hXe
  clear hc hf hx ht1 hxs hX hs hXe
  go_enter Tryz.func77, Tryz.ntmps77
  go_wp2_with fail
  refine (take_ok t b _ HM.out T0.out.rd.cell T0.out.rd.frozen (Nat.lt_of_lt_of_le hb T0.out.rd.size) 32 (by omega)).mono ?_
  rintro e w1 ⟨rfl, hst1⟩
  rw [HX.out.1]
  rw [HX.out.2.1] at hst1
  have T1 : Hid (TI w b t1 z32c w1) := T0.out.step hst1
  obtain ⟨w2, hcp, hT2⟩ := T1.out.copy HX.out.2.2
  have T2 : Hid (TI w b t1 X w2) := by rw [← HXE.out]; exact hT2
  clear hst1 T0 hT2 T1
  go_wp2_with (first
    | (refine wpList_copyX rfl (.tmp 11) (.tmp 12) 131 9 rfl (.slice (some ⟨w.heap.size + 1, 0, none⟩) 32 32) (.string x) (goInt 32) w2 rfl rfl (hcp _) ?_)
    | (refine wpList_get rfl 48 (.tmp 3) rfl (w.heap.size + 1) 0 X X 48 _ rfl T2.out.nb (fun j v hv => by rw [Nat.zero_add]; exact hv) Tryz.underlying48 rfl HI.out.1 ?_)
    | (refine wpList_stoX rfl 48 (.tmp 2) (.tmp 14) rfl w.heap.size X z32c 48 rfl rfl T2.out.rb HI.out.1 (by rw [HI.out.2.2]; exact z32c_size.symm) HI.out.2.1 ?_; intro w7 HB7 HG7)
    | fail)
  refine bodyPost_ret (results_cell_row rfl _ _ w.heap.size 48 X (0, 0) _ rfl HB7.out Tryz.underlying48 rfl HI.out.1) rfl ⟨rfl, ?_⟩
  have hg := HG7.out
  have h6 := T2.out.rd
  have hne : ∀ k, k < w.heap.size → some k ≠ some w.heap.size := fun k hk e => by injection e with e; omega
  have q := cell_blkX (j := 0) (hg.block b (Nat.lt_of_lt_of_le hb h6.size) (hne b hb))
  exact ⟨hg.os.trans h6.os, hg.tape.trans h6.tape, hg.output.trans h6.output, Nat.le_trans h6.size hg.size, by rw [q.1]; exact h6.cell, by rw [q.2]; exact h6.frozen, fun k hk hk2 => (hg.block k (Nat.lt_of_lt_of_le hk h6.size) (hne k hk)).trans (h6.block k hk hk2)⟩
end Go.Proofs.YtbfoiocbmhhdbaaGreat
/- bytes.Compare, digest.Less. -/
namespace Go.Proofs.YtbfoiocbmhhdbaaGreat
open Go.RowKit
set_option linter.unusedSimpArgs false
set_option linter.unusedVariables false
theorem byl_back (s : ByteArray) : Lib.bytesOf ((byl s).map Int.ofNat) = s.data.toList := by
  simp only [Lib.bytesOf, byl, List.map_map]
  conv => rhs; rw [← List.map_id s.data.toList]
  apply List.map_congr_left
  intro x _
  simp
theorem load_id (s : ByteArray) (g : Nat) (T : TypeId) (w : World) (hs : s.size = 32) (hB : Blk w g (idc s) T) {P : Program} :
    (Extern.Bytes.bytesOf (.slice (some ⟨g, 0, none⟩) 32 32)).run P w = .ok s w := by
  have h := Lib.run_loadBytesX (P := P) w ((byl s).map Int.ofNat) ⟨g, 0, none⟩ .empty (fun j x hj => by
    have hjl : j < s.size := by have := (List.getElem?_eq_some_iff.1 hj).1; simpa [byl_length] using this
    rw [Addr.add_mid, Nat.zero_add, hB.cell, idc_get s j hjl]
    rw [List.getElem?_map, byl_getD s j hjl] at hj
    simp only [Option.map_some, Option.some.injEq] at hj
    rw [← hj]; rfl)
  rw [byl_back, show ((byl s).map Int.ofNat).length = 32 from by simp [byl_length, hs]] at h
  show (Extern.Bytes.loadBytes ⟨g, 0, none⟩ 32 .empty).run P w = _
  rw [h]
  congr 1
  apply ByteArray.ext
  simp [ByteArray.empty, ByteArray.emptyWithCapacity]
  rfl
/-- What bytes.Compare says of two names. -/
def cmpId (a b : ByteArray) : Int := Lib.compareBytes a.data.toList b.data.toList
theorem compare_ids (a b : ByteArray) (ga gb : Nat) (Ta Tb : TypeId) (w : World) (ha : a.size = 32) (hb : b.size = 32) (hA : Blk w ga (idc a) Ta) (hB : Blk w gb (idc b) Tb) {P : Program} :
    (Extern.BytealgCompare.compare #[.slice (some ⟨ga, 0, none⟩) 32 32, .slice (some ⟨gb, 0, none⟩) 32 32]).run P w = .ok (.int .i64 (cmpId a b)) w := by
  change Sem.run P (do pure (goInt (Extern.BytealgCompare.cmp (← Extern.Bytes.bytesOf (.slice (some ⟨ga, 0, none⟩) 32 32)) (← Extern.Bytes.bytesOf (.slice (some ⟨gb, 0, none⟩) 32 32))))) w = _
  simp only [Sem.run_bind, load_id a ga Ta w ha hA, load_id b gb Tb w hb hB, Result.andThen, Sem.run_pure]
  rw [Lib.cmp_eq]
  rfl
set_option maxHeartbeats 400000 in
set_option maxRecDepth 100000 in
theorem bcompare_any (a b : ByteArray) (ga gb : Nat) (Ta Tb : TypeId) (w : World) (ha : a.size = 32) (hb : b.size = 32) (hA : Blk w ga (idc a) Ta) (hB : Blk w gb (idc b) Tb) :
    Calls Tryz.prog 59 #[.slice (some ⟨ga, 0, none⟩) 32 32, .slice (some ⟨gb, 0, none⟩) 32 32] w fun e w' => e = .returned (.int .i64 (cmpId a b)) ∧ w' = w := by
  have HC := compare_ids a b ga gb Ta Tb w ha hb hA hB (P := Tryz.prog)
  have HH : Hid ((Extern.BytealgCompare.compare #[.slice (some ⟨ga, 0, none⟩) 32 32, .slice (some ⟨gb, 0, none⟩) 32 32]).run Tryz.prog w = .ok (.int .i64 (cmpId a b)) w) := HC
  clear HC hA hB
  go_enter Tryz.func59, Tryz.ntmps59
  go_wp2
  rw [run_callFunc_extern Tryz.func95 (by kernel_rfl) (by kernel_rfl) (by kernel_rfl) (e := Extern.BytealgCompare.compare) (by kernel_rfl), HH.out]
  simp only [Result.andThen]
  rw [Oper.upon_value]
  go_wp2
  go_ret
  exact ⟨rfl, rfl⟩
def lessB (a b : ByteArray) : Bool := decide (cmpId a b < 0)
set_option maxHeartbeats 400000 in
set_option maxRecDepth 100000 in
theorem less_any (a b : ByteArray) (w : World) (ha : a.size = 32) (hb : b.size = 32) :
    Calls Tryz.prog 43 #[.agg (idc a), .agg (idc b)] w fun e w' => e = .returned (.bool (lessB a b)) ∧ Below w.heap.size w w' := by
  have h1 := slice32 w.heap.size
  have h2 := slice32 (w.heap.size + 1)
  go_enter Tryz.func43, Tryz.ntmps43
  go_wp2
  have hA : Blk ((w.alloc (.cells (idc a) 48)).alloc (.cells (idc b) 48)) w.heap.size (idc a) 48 := Blk.grown (blk_new w _) (World.grownBy_alloc _ _ none) (by simp)
  have hB : Blk ((w.alloc (.cells (idc a) 48)).alloc (.cells (idc b) 48)) (w.heap.size + 1) (idc b) 48 := by
    have e := blk_new (w.alloc (.cells (idc a) 48)) (.cells (idc b) 48)
    rwa [alloc_size] at e
  have HAB : Hid (Blk ((w.alloc (.cells (idc a) 48)).alloc (.cells (idc b) 48)) w.heap.size (idc a) 48 ∧ Blk ((w.alloc (.cells (idc a) 48)).alloc (.cells (idc b) 48)) (w.heap.size + 1) (idc b) 48) := ⟨hA, hB⟩
  clear hA hB
  go_quiet ((go_at_call 59; exact Calls.quiet_of_same (bcompare_any a b _ _ 48 48 _ ha hb (HAB.out.1.drewN _) (HAB.out.2.drewN _))))
  go_wp2
  go_ret
  refine ⟨rfl, ?_⟩
  exact below_of_grown (((World.grownBy_alloc w _ none).trans (World.grownBy_alloc _ _ none)).trans (grown_drewN _ nq none))
end Go.Proofs.YtbfoiocbmhhdbaaGreat
/- idx.mayBeIndexed, digest.Less and idx.order with what they leave behind. -/
namespace Go.Proofs.YtbfoiocbmhhdbaaGreat
open Go.RowKit
set_option linter.unusedSimpArgs false
set_option linter.unusedVariables false
theorem okX_eq (e : Xe) (r : Bool) (h : r = true ↔ (1 ≤ (e.k.toNat : Int) ∧ (e.k.toNat : Int) ≤ 5 ∧ 4 ≤ e.off ∧ e.off ≤ 67108864 ∧ 0 ≤ e.sz ∧ e.sz ≤ 2097152)) : r = okX e := by
  rw [Bool.eq_iff_iff, h, okX_iff]
  omega
theorem retBX {a b : Bool} (h : a = b) : Ending.returned (.bool a) = .returned (.bool b) := by rw [h]
set_option maxHeartbeats 4000000 in
set_option maxRecDepth 100000 in
theorem maybe_any (e : Xe) (w : World) (h : e.id.size = 32) : Calls Tryz.prog 51 #[.agg (xeC e)] w fun r w' => r = .returned (.bool (okX e)) ∧ w' = w.alloc (.cells (xeC e) 50) := by
  obtain ⟨c1, c2, c3⟩ := xeC_at e h
  have hb := bk_new w (xeC e) 50
  have k1 : (w.alloc (.cells (xeC e) 50)).cell? ⟨w.heap.size, 32, none⟩ = some (.int .u8 (e.k.toNat : Int)) := by rw [hb.cell]; exact c1
  have k2 : (w.alloc (.cells (xeC e) 50)).cell? ⟨w.heap.size, 33, none⟩ = some (.int .i64 e.off) := by rw [hb.cell]; exact c2
  have k3 : (w.alloc (.cells (xeC e) 50)).cell? ⟨w.heap.size, 34, none⟩ = some (.int .i64 e.sz) := by rw [hb.cell]; exact c3
  clear hb c1 c2 c3
  have HE := okX_eq e
  obtain ⟨r, hr⟩ : ∃ r, okX e = r := ⟨_, rfl⟩
  rw [hr] at HE ⊢
  obtain ⟨C, hC⟩ : ∃ C, xeC e = C := ⟨_, rfl⟩
  rw [hC] at k1 k2 k3 ⊢
  obtain ⟨ei, ek, eo, ez⟩ := e
  simp only at k1 k2 k3 HE
  obtain ⟨K, hK⟩ : ∃ K : Int, (ek.toNat : Int) = K := ⟨_, rfl⟩
  rw [hK] at k1 HE
  have HH : Hid (∀ (q : Bool), (q = true ↔ 1 ≤ K ∧ K ≤ 5 ∧ 4 ≤ eo ∧ eo ≤ 67108864 ∧ 0 ≤ ez ∧ ez ≤ 2097152) → q = r) := HE
  clear HE hr hC h hK
  by_cases g1 : 1 ≤ K
  · by_cases g2 : K ≤ 5
    · by_cases g3 : 4 ≤ eo
      · by_cases g4 : eo ≤ 67108864
        · by_cases g5 : 0 ≤ ez
          · go_enter Tryz.func51, Tryz.ntmps51
            go_wp2
            go_ret
            exact ⟨retBX (HH.out _ (by simp [g1, g2, g3, g4, g5] <;> omega)), rfl⟩
          · go_enter Tryz.func51, Tryz.ntmps51
            go_wp2
            go_ret
            exact ⟨retBX (HH.out _ (by simp [g1, g2, g3, g4, g5] <;> omega)), rfl⟩
        · go_enter Tryz.func51, Tryz.ntmps51
          go_wp2
          go_ret
          exact ⟨retBX (HH.out _ (by simp [g1, g2, g3, g4] <;> omega)), rfl⟩
      · go_enter Tryz.func51, Tryz.ntmps51
        go_wp2
        go_ret
        exact ⟨retBX (HH.out _ (by simp [g1, g2, g3] <;> omega)), rfl⟩
    · go_enter Tryz.func51, Tryz.ntmps51
      go_wp2
      go_ret
      exact ⟨retBX (HH.out _ (by simp [g1, g2] <;> omega)), rfl⟩
  · go_enter Tryz.func51, Tryz.ntmps51
    go_wp2
    go_ret
    exact ⟨retBX (HH.out _ (by simp [g1] <;> omega)), rfl⟩
set_option maxHeartbeats 400000 in
set_option maxRecDepth 100000 in
/-- digest.Less, with what it leaves behind. -/
theorem less_grow (a b : ByteArray) (w : World) (ha : a.size = 32) (hb : b.size = 32) :
    Calls Tryz.prog 43 #[.agg (idc a), .agg (idc b)] w fun e w' => e = .returned (.bool (ltN a b)) ∧ ∃ q os, w' = Sort.grow (w.drewN q) os := by
  have h1 := slice32 w.heap.size
  have h2 := slice32 (w.heap.size + 1)
  go_enter Tryz.func43, Tryz.ntmps43
  go_wp2
  have hA : Blk ((w.alloc (.cells (idc a) 48)).alloc (.cells (idc b) 48)) w.heap.size (idc a) 48 := Blk.grown (blk_new w _) (World.grownBy_alloc _ _ none) (by simp)
  have hB : Blk ((w.alloc (.cells (idc a) 48)).alloc (.cells (idc b) 48)) (w.heap.size + 1) (idc b) 48 := by
    have e := blk_new (w.alloc (.cells (idc a) 48)) (.cells (idc b) 48)
    rwa [alloc_size] at e
  have HAB : Hid (Blk ((w.alloc (.cells (idc a) 48)).alloc (.cells (idc b) 48)) w.heap.size (idc a) 48 ∧ Blk ((w.alloc (.cells (idc a) 48)).alloc (.cells (idc b) 48)) (w.heap.size + 1) (idc b) 48) := ⟨hA, hB⟩
  clear hA hB
  go_quiet ((go_at_call 59; exact Calls.quiet_of_same (bcompare_any a b _ _ 48 48 _ ha hb (HAB.out.1.drewN _) (HAB.out.2.drewN _))))
  go_wp2
  go_ret
  refine ⟨rfl, nq, #[.cells (idc a) 48, .cells (idc b) 48], ?_⟩
  rw [Sort.alloc_eq_grow, Sort.alloc_eq_grow, Sort.grow_grow]
  rfl
/-- What order says. -/
def ordI (a b : Xe) : Int := if a.id = b.id then 0 else if ltN a.id b.id = true then -1 else 1
theorem grow_below (w : World) (q : Nat) (os : Array Obj) : Below w.heap.size w (Sort.grow (w.drewN q) os) := by
  refine ⟨rfl, rfl, rfl, ?_, fun i hi => ?_⟩
  · show w.heap.size ≤ (w.heap ++ os).size
    rw [Array.size_append]; omega
  · show (w.heap ++ os)[i]? = _
    rw [Array.getElem?_append_left hi]
theorem retIX {a b : Int} (h : a = b) : Ending.returned (.int .i64 a) = .returned (.int .i64 b) := by rw [h]
set_option maxHeartbeats 4000000 in
set_option maxRecDepth 100000 in
theorem order_any (a b : Xe) (w : World) (ha : a.id.size = 32) (hb : b.id.size = 32) :
    Calls Tryz.prog 53 #[.agg (xeC a), .agg (xeC b)] w fun e w' => e = .returned (.int .i64 (ordI a b)) ∧ ∃ q os, w' = Sort.grow (w.drewN q) os := by
  have HE : Hid (∀ u, (binOp .eql 48 (.agg (idc a.id)) (.agg (idc b.id))).run Tryz.prog u = .ok (.bool (decide (a.id = b.id))) u) := eql_ids a.id b.id ha hb
  have HL : Hid (∀ u, Calls Tryz.prog 43 #[.agg (idc a.id), .agg (idc b.id)] u fun e w' => e = .returned (.bool (ltN a.id b.id)) ∧ ∃ q os, w' = Sort.grow (u.drewN q) os) := fun u => less_grow a.id b.id u ha hb
  have HI : Hid ((Tryz.prog.info? 48).map (·.size) = some (idc a.id).size ∧ (Tryz.prog.info? 48).map (·.size) = some (idc b.id).size) := ⟨info_32 (by rw [idc_size, ha]), info_32 (by rw [idc_size, hb])⟩
  obtain ⟨A, hA⟩ : ∃ A, idc a.id = A := ⟨_, rfl⟩
  obtain ⟨B, hB⟩ : ∃ B, idc b.id = B := ⟨_, rfl⟩
  have HCA : Hid (∀ j v, A[j]? = some v → (xeC a)[0 + j]? = some v) := fun j v hv => xeC_id a ha j v (by rw [hA]; exact hv)
  have HCB : Hid (∀ j v, B[j]? = some v → (xeC b)[0 + j]? = some v) := fun j v hv => xeC_id b hb j v (by rw [hB]; exact hv)
  rw [hA, hB] at HE HL HI
  obtain ⟨O, hO⟩ : ∃ O, ordI a b = O := ⟨_, rfl⟩
  rw [hO]
  obtain ⟨D, hD⟩ : ∃ D, decide (a.id = b.id) = D := ⟨_, rfl⟩
  obtain ⟨L, hL⟩ : ∃ L, ltN a.id b.id = L := ⟨_, rfl⟩
  have HOO : Hid (O = if D = true then 0 else if L = true then -1 else 1) := by
    show O = _
    rw [← hO, ← hD, ← hL, ordI]
    by_cases h : a.id = b.id <;> simp [h]
  rw [hD] at HE
  rw [hL] at HL
  obtain ⟨XA, hXA⟩ : ∃ X, xeC a = X := ⟨_, rfl⟩
  obtain ⟨XB, hXB⟩ : ∃ X, xeC b = X := ⟨_, rfl⟩
  rw [hXA] at HCA ⊢
  rw [hXB] at HCB ⊢
  clear hA hB hO hD hL hXA hXB ha hb a b
  have b1 := (bk_new w XA 50).alloc (.cells XB 50)
  have b2 := bk_new (w.alloc (.cells XA 50)) XB 50
  rw [al_size] at b2
  have HB1 : Hid (Bk ((w.alloc (.cells XA 50)).alloc (.cells XB 50)) w.heap.size XA 50) := b1
  have HB2 : Hid (Bk ((w.alloc (.cells XA 50)).alloc (.cells XB 50)) (w.heap.size + 1) XB 50) := b2
  have HW0 : Hid (∃ os, (w.alloc (.cells XA 50)).alloc (.cells XB 50) = Sort.grow w os) := ⟨_, by rw [Sort.alloc_eq_grow, Sort.alloc_eq_grow, Sort.grow_grow]⟩
  have hE := HE.out
  clear b1 b2 HE
  have arm1 := Tryz.underlying48
  cases D with
  | true =>
    have hO : O = 0 := HOO.out
    subst hO
    go_enter Tryz.func53, Tryz.ntmps53
    go_wp2_with (first
      | (refine wpList_get rfl 48 (.tmp 6) rfl w.heap.size 0 XA A 50 _ rfl HB1.out HCA.out arm1 rfl HI.out.1 ?_)
      | (refine wpList_get rfl 48 (.tmp 8) rfl (w.heap.size + 1) 0 XB B 50 _ rfl HB2.out HCB.out arm1 rfl HI.out.2 ?_))
    go_ret
    obtain ⟨os, h⟩ := HW0.out
    rw [h]
    exact ⟨rfl, 0, os, rfl⟩
  | false =>
    have hO' : O = if L = true then -1 else 1 := HOO.out
    cases L with
    | true =>
      have hO : O = -1 := hO'
      subst hO
      go_enter Tryz.func53, Tryz.ntmps53
      go_wp2_with (first
        | (go_at_call 43; refine (HL.out _).mono ?_; rintro e w1 ⟨rfl, q, os, rfl⟩)
        | (refine wpList_get rfl 48 (.tmp 6) rfl w.heap.size 0 XA A 50 _ rfl HB1.out HCA.out arm1 rfl HI.out.1 ?_)
        | (refine wpList_get rfl 48 (.tmp 8) rfl (w.heap.size + 1) 0 XB B 50 _ rfl HB2.out HCB.out arm1 rfl HI.out.2 ?_)
        | (refine wpList_get rfl 48 (.tmp 12) rfl w.heap.size 0 XA A 50 _ rfl HB1.out HCA.out arm1 rfl HI.out.1 ?_)
        | (refine wpList_get rfl 48 (.tmp 14) rfl (w.heap.size + 1) 0 XB B 50 _ rfl HB2.out HCB.out arm1 rfl HI.out.2 ?_))
      go_ret
      obtain ⟨os0, h⟩ := HW0.out
      rw [h]
      exact ⟨rfl, q, os0 ++ os, by rw [← Sort.grow_grow]; rfl⟩
    | false =>
      have hO : O = 1 := hO'
      subst hO
      go_enter Tryz.func53, Tryz.ntmps53
      go_wp2_with (first
        | (go_at_call 43; refine (HL.out _).mono ?_; rintro e w1 ⟨rfl, q, os, rfl⟩)
        | (refine wpList_get rfl 48 (.tmp 6) rfl w.heap.size 0 XA A 50 _ rfl HB1.out HCA.out arm1 rfl HI.out.1 ?_)
        | (refine wpList_get rfl 48 (.tmp 8) rfl (w.heap.size + 1) 0 XB B 50 _ rfl HB2.out HCB.out arm1 rfl HI.out.2 ?_)
        | (refine wpList_get rfl 48 (.tmp 12) rfl w.heap.size 0 XA A 50 _ rfl HB1.out HCA.out arm1 rfl HI.out.1 ?_)
        | (refine wpList_get rfl 48 (.tmp 14) rfl (w.heap.size + 1) 0 XB B 50 _ rfl HB2.out HCB.out arm1 rfl HI.out.2 ?_))
      go_ret
      obtain ⟨os0, h⟩ := HW0.out
      rw [h]
      exact ⟨rfl, q, os0 ++ os, by rw [← Sort.grow_grow]; rfl⟩
end Go.Proofs.YtbfoiocbmhhdbaaGreat
