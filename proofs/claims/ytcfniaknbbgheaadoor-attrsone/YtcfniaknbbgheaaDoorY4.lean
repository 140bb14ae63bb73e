import Derived.Test.YtcfniaknbbgheaaDoorY2
import Derived.Test.YtcfniaknbbgheaaDoorY3
import Derived.Test.YtcfniaknbbgheaaDoorChecked
import Derived.Shelf.Strings.Builder1
import Derived.Lib.OthersKept
import Derived.WalkKit
import Derived.BigCall
import Derived.Shelf.Strings.BuilderK
import Derived.OwnWalk
/- attrs.taker: number, text, node, fits. -/
namespace Go.Proofs.YtcfniaknbbgheaaDoor
open Go.RowKit
set_option linter.unusedSimpArgs false
set_option linter.unusedVariables false
/-- What lies there: a taker over a reader. -/
structure TS (t r : Nat) (s : ByteArray) (u : Bool) (w : World) : Prop where
  tk : Bk w t #[.pointer (some ⟨r, 0, none⟩), .bool u] 74
  rc : w.cell? ⟨r, 0, none⟩ = some (.string s)
  rf : w.frozen? ⟨r, 0, none⟩ = false
  rl : r < w.heap.size
  ne : t ≠ r
/-- All but the two blocks is as it was. -/
structure Kt (t r : Nat) (w w' : World) : Prop where
  os : w'.os = w.os
  tape : w'.tape = w.tape
  output : w'.output = w.output
  size : w.heap.size ≤ w'.heap.size
  block : ∀ k, k < w.heap.size → k ≠ t → k ≠ r → w'.heap[k]? = w.heap[k]?
theorem Kt.trans {t r : Nat} {a b c : World} (h : Kt t r a b) (k : Kt t r b c) : Kt t r a c :=
  ⟨k.os.trans h.os, k.tape.trans h.tape, k.output.trans h.output, Nat.le_trans h.size k.size, fun i hi h1 h2 => (k.block i (Nat.lt_of_lt_of_le hi h.size) h1 h2).trans (h.block i hi h1 h2)⟩
theorem Kt.bk {t r : Nat} {w w' : World} (h : Kt t r w w') {b : Nat} {C : Array Value} {T : TypeId} (hb : Bk w b C T) (h1 : b ≠ t) (h2 : b ≠ r) : Bk w' b C T := by
  unfold Bk; rw [h.block b hb.lt h1 h2]; exact hb
theorem Kt.below {t r B : Nat} {w0 w w' : World} (h : Kt t r w w') (hb : Below B w0 w) (hz : B ≤ w.heap.size) (h1 : B ≤ t) (h2 : B ≤ r) : Below B w0 w' :=
  ⟨h.os.trans hb.os, h.tape.trans hb.tape, h.output.trans hb.output, Nat.le_trans hb.size h.size, fun i hi => (h.block i (by omega) (by omega) (by omega)).trans (hb.block i hi)⟩
theorem Kt.of_below {t r : Nat} {w w' : World} (h : Below w.heap.size w w') : Kt t r w w' := ⟨h.os, h.tape, h.output, h.size, fun i hi _ _ => h.block i hi⟩
theorem Kt.grown {t r : Nat} {w w' : World} (h : Kt t r w w') {x : Nat} {w1 : World} (hg : w.grownBy w1 (some x)) : True := trivial
theorem cell_blk {w w' : World} {r j : Nat} (h : w'.heap[r]? = w.heap[r]?) : w'.cell? ⟨r, j, none⟩ = w.cell? ⟨r, j, none⟩ ∧ w'.frozen? ⟨r, j, none⟩ = w.frozen? ⟨r, j, none⟩ := by
  simp [World.cell?, World.frozen?, h]
theorem TS.keep {t r : Nat} {s : ByteArray} {u : Bool} {w w' : World} (h : TS t r s u w) (hb : Below w.heap.size w w') : TS t r s u w' :=
  ⟨h.tk.below hb h.tk.lt, by rw [hb.cell (p := ⟨r, 0, none⟩) h.rl]; exact h.rc, by rw [hb.frozen (p := ⟨r, 0, none⟩) h.rl]; exact h.rf, Nat.lt_of_lt_of_le h.rl hb.size, h.ne⟩
theorem TS.grown {t r : Nat} {s : ByteArray} {u : Bool} {w w' : World} {b : Option Nat} (h : TS t r s u w) (hg : w.grownBy w' b) (h1 : b ≠ some t) (h2 : b ≠ some r) : TS t r s u w' := by
  have q := cell_blk (j := 0) (hg.block r h.rl (fun e => h2 e.symm))
  exact ⟨h.tk.grown hg h1, by rw [q.1]; exact h.rc, by rw [q.2]; exact h.rf, Nat.lt_of_lt_of_le h.rl hg.size, h.ne⟩
/-- A reader's step, and then the mark stored. -/
theorem TS.step {t r : Nat} {s s' : ByteArray} {u : Bool} {w w1 : World} (h : TS t r s u w) (hs : Step r w w1 s') (v : Bool) :
    TS t r s' v (w1.setCell ⟨t, 1, none⟩ (.bool v)) ∧ Kt t r w (w1.setCell ⟨t, 1, none⟩ (.bool v)) ∧ Bk w1 t #[.pointer (some ⟨r, 0, none⟩), .bool u] 74 := by
  have hb1 : Bk w1 t #[.pointer (some ⟨r, 0, none⟩), .bool u] 74 := by
    unfold Bk; rw [hs.block t h.tk.lt h.ne]; exact h.tk
  have hg : w1.grownBy (w1.setCell ⟨t, 1, none⟩ (.bool v)) (some t) := Lib.grownBy_setB (World.grownBy.refl _ _) 1 _
  have hrl : r < w1.heap.size := Nat.lt_of_lt_of_le h.rl hs.size
  have q := cell_blk (j := 0) (hg.block r hrl (fun e => h.ne (by cases e; rfl)))
  refine ⟨⟨hb1.set 1 _, by rw [q.1]; exact hs.cell, by rw [q.2]; exact hs.frozen, Nat.lt_of_lt_of_le hrl hg.size, h.ne⟩, ⟨hg.os.trans hs.os, hg.tape.trans hs.tape, hg.output.trans hs.output, Nat.le_trans hs.size hg.size, fun k hk h1 h2 => ?_⟩, hb1⟩
  rw [hg.block k (Nat.lt_of_lt_of_le hk hs.size) (fun e => h1 (by cases e; rfl))]
  exact hs.block k hk h2
/-- What a number taken tells. -/
structure NumS (s : ByteArray) (u : Bool) (most n : Nat) (s' : ByteArray) (u' : Bool) : Prop where
  bd : n ≤ most
  sz : s'.size ≤ s.size
  yes : u' = false → u = false ∧ bl s = e8 n ++ bl s'
  no : u = false → ∀ m r, m ≤ most → m < 2 ^ 64 → bl s = e8 m ++ r → u' = false ∧ n = m ∧ bl s' = r
theorem by_list (s : ByteArray) (a r : List UInt8) (h : bl s = a ++ r) : s = ⟨a.toArray⟩ ++ ⟨r.toArray⟩ := bl_inj (by rw [bl_append, h]; rfl)
theorem e8_sb (m : Nat) : (⟨(e8 m).toArray⟩ : ByteArray) = sb (encS m) := rfl
theorem num_bad {s : ByteArray} {u : Bool} {most : Nat} (hk : shK s = 0) : NumS s u most 0 s true := by
  refine ⟨Nat.zero_le _, Nat.le_refl _, fun h => (by cases h), fun _ m r _ hm h => ?_⟩
  have := sh_enc m s ⟨r.toArray⟩ hm (by rw [← e8_sb]; exact by_list s _ _ h)
  have := slen_pos m
  omega
theorem num_split {s : ByteArray} (hk : shK s ≠ 0) : bl s = e8 (shN s) ++ bl (s.extract (shK s) s.size) := by
  have h1 := sh_again s hk
  have h2 := split_at s (shK s) (shK_le s)
  rw [← h1] at h2
  have h3 := congrArg bl h2
  rw [bl_append] at h3
  exact h3.symm
theorem num_front {s : ByteArray} {m : Nat} {r : List UInt8} (hm : m < 2 ^ 64) (h : bl s = e8 m ++ r) : shK s ≠ 0 ∧ shN s = m ∧ bl (s.extract (shK s) s.size) = r := by
  have h1 := sh_enc m s ⟨r.toArray⟩ hm (by rw [← e8_sb]; exact by_list s _ _ h)
  have hp := slen_pos m
  refine ⟨by omega, h1.1, ?_⟩
  have h2 := num_split (s := s) (by omega)
  rw [h1.1, h] at h2
  exact (List.append_cancel_left h2).symm
theorem ext_size10 (s : ByteArray) (k : Nat) : (s.extract k s.size).size ≤ s.size := by simp
theorem num_unfit {s : ByteArray} {u : Bool} {most : Nat} (hk : shK s ≠ 0) (h : u = true ∨ most < shN s) : NumS s u most 0 (s.extract (shK s) s.size) true := by
  refine ⟨Nat.zero_le _, ext_size10 _ _, fun h => (by cases h), fun hu m r hmm hm he => ?_⟩
  have := num_front hm he
  rcases h with h | h
  · rw [hu] at h; cases h
  · omega
theorem num_fit {s : ByteArray} {most : Nat} (hk : shK s ≠ 0) (h : shN s ≤ most) : NumS s false most (shN s) (s.extract (shK s) s.size) false :=
  ⟨h, ext_size10 _ _, fun _ => ⟨rfl, num_split hk⟩, fun hu m r hmm hm he => ⟨rfl, (num_front hm he).2.1, (num_front hm he).2.2⟩⟩
set_option maxHeartbeats 2000000 in
set_option maxRecDepth 100000 in
theorem number_any (t r : Nat) (s : ByteArray) (u : Bool) (most : Nat) (w : World) (h : TS t r s u w) (hs : s.size ≤ 140737488351232) (hm : most ≤ 18446744073709551615) :
    Calls Tryd.prog 27 #[.pointer (some ⟨t, 0, none⟩), .int .u64 (most : Int)] w fun e w' => ∃ n s' u', e = .returned (.int .u64 ((n : Nat) : Int)) ∧ TS t r s' u' w' ∧ Kt t r w w' ∧ NumS s u most n s' u' := by
  have HT : Hid (TS t r s u w) := h
  have k0 : w.cell? ⟨t, 0, none⟩ = some (.pointer (some ⟨r, 0, none⟩)) := by rw [h.tk.cell]; rfl
  by_cases hk : shK s = 0
  · have HR := uint_no s r w (by unfold maxLen; omega) h.rc h.rf h.rl hk
    have HC : Hid _ := HR
    have HN : Hid (NumS s u most 0 s true) := num_bad hk
    clear HR h
    go_enter Tryd.func27, Tryd.ntmps27
    go_wp2_with fail
    refine Calls.mono HC.out ?_
    rintro e w1 ⟨rfl, hst⟩
    obtain ⟨t1, t2, t3⟩ := HT.out.step hst true
    have H1 : Hid (TS t r s true (w1.setCell ⟨t, 1, none⟩ (.bool true)) ∧ Kt t r w (w1.setCell ⟨t, 1, none⟩ (.bool true))) := ⟨t1, t2⟩
    have k1 : w1.cell? ⟨t, 1, none⟩ = some (.bool u) := by rw [t3.cell]; rfl
    have kf := t3.frozen 1
    have k2 : (w1.setCell ⟨t, 1, none⟩ (.bool true)).cell? ⟨t, 1, none⟩ = some (.bool true) := by rw [t1.tk.cell]; rfl
    clear hst t1 t2 t3
    cases u
    · go_wp2
      go_ret
      exact ⟨0, s, true, rfl, H1.out.1, H1.out.2, HN.out⟩
    · go_wp2
      go_ret
      exact ⟨0, s, true, rfl, H1.out.1, H1.out.2, HN.out⟩
  · have HR := uint_ok s r w (by unfold maxLen; omega) h.rc h.rf h.rl hk
    have hlt := shN_lt s
    have HU : Hid (u = true ∨ most < shN s → NumS s u most 0 (s.extract (shK s) s.size) true) := num_unfit hk
    have HF : Hid (shN s ≤ most → NumS s false most (shN s) (s.extract (shK s) s.size) false) := num_fit hk
    obtain ⟨n, hn⟩ : ∃ n, shN s = n := ⟨_, rfl⟩
    obtain ⟨s', hs'⟩ : ∃ s', s.extract (shK s) s.size = s' := ⟨_, rfl⟩
    rw [hn, hs'] at HR HU HF
    rw [hn] at hlt
    have HC : Hid _ := HR
    clear HR h hn hs' hk
    go_enter Tryd.func27, Tryd.ntmps27
    go_wp2_with fail
    refine Calls.mono HC.out ?_
    rintro e w1 ⟨rfl, hst⟩
    cases u with
    | true =>
      have HN : Hid (NumS s true most 0 s' true) := HU.out (.inl rfl)
      clear HU HF
      obtain ⟨t1, t2, t3⟩ := HT.out.step hst true
      have H1 : Hid (TS t r s' true (w1.setCell ⟨t, 1, none⟩ (.bool true)) ∧ Kt t r w (w1.setCell ⟨t, 1, none⟩ (.bool true))) := ⟨t1, t2⟩
      have k1 : w1.cell? ⟨t, 1, none⟩ = some (.bool true) := by rw [t3.cell]; rfl
      have kf := t3.frozen 1
      have k2 : (w1.setCell ⟨t, 1, none⟩ (.bool true)).cell? ⟨t, 1, none⟩ = some (.bool true) := by rw [t1.tk.cell]; rfl
      clear hst t1 t2 t3
      go_wp2
      go_ret
      exact ⟨0, s', true, rfl, H1.out.1, H1.out.2, HN.out⟩
    | false =>
      by_cases hmn : most < n
      · have hmz : (most : Int) < n := by omega
        have HN : Hid (NumS s false most 0 s' true) := HU.out (.inr hmn)
        clear HU HF
        obtain ⟨t1, t2, t3⟩ := HT.out.step hst true
        have H1 : Hid (TS t r s' true (w1.setCell ⟨t, 1, none⟩ (.bool true)) ∧ Kt t r w (w1.setCell ⟨t, 1, none⟩ (.bool true))) := ⟨t1, t2⟩
        have k1 : w1.cell? ⟨t, 1, none⟩ = some (.bool false) := by rw [t3.cell]; rfl
        have kf := t3.frozen 1
        have k2 : (w1.setCell ⟨t, 1, none⟩ (.bool true)).cell? ⟨t, 1, none⟩ = some (.bool true) := by rw [t1.tk.cell]; rfl
        clear hst t1 t2 t3
        go_wp2
        go_ret
        exact ⟨0, s', true, rfl, H1.out.1, H1.out.2, HN.out⟩
      · have hmz : ¬ (most : Int) < n := by omega
        have HN : Hid (NumS s false most n s' false) := HF.out (by omega)
        clear HU HF
        obtain ⟨t1, t2, t3⟩ := HT.out.step hst false
        have H1 : Hid (TS t r s' false (w1.setCell ⟨t, 1, none⟩ (.bool false)) ∧ Kt t r w (w1.setCell ⟨t, 1, none⟩ (.bool false))) := ⟨t1, t2⟩
        have k1 : w1.cell? ⟨t, 1, none⟩ = some (.bool false) := by rw [t3.cell]; rfl
        have kf := t3.frozen 1
        have k2 : (w1.setCell ⟨t, 1, none⟩ (.bool false)).cell? ⟨t, 1, none⟩ = some (.bool false) := by rw [t1.tk.cell]; rfl
        clear hst t1 t2 t3
        go_wp2
        go_ret
        exact ⟨n, s', false, rfl, H1.out.1, H1.out.2, HN.out⟩
/-- What a text taken tells. -/
structure TxtS (s : ByteArray) (u : Bool) (most : Nat) (x s' : ByteArray) (u' : Bool) : Prop where
  bd : x.size ≤ most
  sz : s'.size ≤ s.size
  yes : u' = false → u = false ∧ bl s = tx x ++ bl s'
  no : u = false → ∀ y r, y.size ≤ most → y.size < 2 ^ 64 → bl s = tx y ++ r → u' = false ∧ x = y ∧ bl s' = r
theorem e8_length (n : Nat) : (e8 n).length = slen n := by unfold e8; rw [by8_length, encS_length]
theorem txt_front {s y : ByteArray} {r : List UInt8} (hm : y.size < 2 ^ 64) (h : bl s = tx y ++ r) :
    shK s ≠ 0 ∧ shN s = y.size ∧ shK s + shN s ≤ s.size ∧ s.extract (shK s) (shK s + shN s) = y ∧ bl (s.extract (shK s + shN s) s.size) = r := by
  unfold tx at h
  rw [List.append_assoc] at h
  obtain ⟨h1, h2, h3⟩ := num_front hm h
  have h4 := sh_enc y.size s ⟨(bl y ++ r).toArray⟩ hm (by rw [← e8_sb]; exact by_list s _ _ h)
  have hk : shK s = (e8 y.size).length := by rw [e8_length]; exact h4.2
  have hsz : s.size = (e8 y.size).length + (y.size + r.length) := by rw [← bl_length s, h]; simp [bl_length]
  refine ⟨h1, h2, by omega, bl_inj ?_, ?_⟩
  · rw [bl_extract, h, h2, hk, List.take_append, List.drop_append]
    have e1 : (e8 y.size).length + y.size - (e8 y.size).length = y.size := by omega
    rw [e1, List.take_of_length_le (by omega), List.drop_length, Nat.sub_self, List.drop_zero, List.nil_append, List.take_append_of_le_length (by rw [bl_length]; omega), List.take_of_length_le (by rw [bl_length]; omega)]
  · rw [bl_extract, take_all, h, h2, hk, List.drop_append]
    have e1 : (e8 y.size).length + y.size - (e8 y.size).length = y.size := by omega
    rw [e1, List.drop_eq_nil_of_le (by omega), List.nil_append, List.drop_append, bl_length, Nat.sub_self, List.drop_eq_nil_of_le (by rw [bl_length]; omega)]
    rfl
theorem txt_split {s : ByteArray} (hk : shK s ≠ 0) (hl : shK s + shN s ≤ s.size) : bl s = tx (s.extract (shK s) (shK s + shN s)) ++ bl (s.extract (shK s + shN s) s.size) ∧ (s.extract (shK s) (shK s + shN s)).size = shN s := by
  have hz : (s.extract (shK s) (shK s + shN s)).size = shN s := by simp; omega
  refine ⟨?_, hz⟩
  unfold tx
  rw [hz, List.append_assoc]
  have h1 := num_split hk
  rw [h1]
  congr 1
  rw [← bl_append, bl_extract, take_all, bl_append, bl_extract, bl_extract, take_all]
  conv => lhs; rw [← List.take_append_drop (shN s) ((bl s).drop (shK s))]
  rw [List.drop_drop, List.drop_take, Nat.add_sub_cancel_left]
theorem txt_bad {s : ByteArray} {u : Bool} {most : Nat} (h : shK s = 0 ∨ most < shN s ∨ s.size - shK s < shN s) : TxtS s u most ⟨#[]⟩ s true := by
  refine ⟨Nat.zero_le _, Nat.le_refl _, fun h => (by cases h), fun _ y r h1 hm he => ?_⟩
  have := txt_front hm he
  have := shK_le s
  omega
theorem txt_unfit {s : ByteArray} {most : Nat} (hk : shK s ≠ 0) : TxtS s true most ⟨#[]⟩ (s.extract (shK s + shN s) s.size) true :=
  ⟨Nat.zero_le _, ext_size10 _ _, fun h => (by cases h), fun h => (by cases h)⟩
theorem txt_fit {s : ByteArray} {most : Nat} (hk : shK s ≠ 0) (hn : shN s ≤ most) (hl : shK s + shN s ≤ s.size) : TxtS s false most (s.extract (shK s) (shK s + shN s)) (s.extract (shK s + shN s) s.size) false :=
  ⟨by rw [(txt_split hk hl).2]; exact hn, ext_size10 _ _, fun _ => ⟨rfl, (txt_split hk hl).1⟩, fun hu y r hmm hm he => ⟨rfl, (txt_front hm he).2.2.2.1, (txt_front hm he).2.2.2.2⟩⟩
theorem text_fail (s : ByteArray) (b : Nat) (w : World) (hs : s.size ≤ maxLen) (hc : w.cell? ⟨b, 0, none⟩ = some (.string s)) (hf : w.frozen? ⟨b, 0, none⟩ = false) (hb : b < w.heap.size) (m : Nat) (hm : m ≤ 9223372036854775807) (h : shK s = 0 ∨ m < shN s ∨ s.size - shK s < shN s) :
    Calls Tryd.prog 51 #[.pointer (some ⟨b, 0, none⟩), .int .i64 m] w fun e w' => e = .returned (.tuple #[.string ⟨#[]⟩, .int .i64 4]) ∧ Step b w w' s := by
  by_cases h1 : shK s = 0
  · exact text_no1 s b w hs hc hf hb m hm h1
  · by_cases h2 : m < shN s
    · exact text_no2 s b w hs hc hf hb m hm h1 h2
    · exact text_no3 s b w hs hc hf hb m hm h1 (by omega) (by omega)
set_option maxHeartbeats 2000000 in
set_option maxRecDepth 100000 in
theorem ttext_any (t r : Nat) (s : ByteArray) (u : Bool) (most : Nat) (w : World) (h : TS t r s u w) (hs : s.size ≤ 140737488351232) (hm : most ≤ 140737488351232) :
    Calls Tryd.prog 28 #[.pointer (some ⟨t, 0, none⟩), .int .i64 (most : Int)] w fun e w' => ∃ x s' u', e = .returned (.string x) ∧ TS t r s' u' w' ∧ Kt t r w w' ∧ TxtS s u most x s' u' := by
  have HT : Hid (TS t r s u w) := h
  have k0 : w.cell? ⟨t, 0, none⟩ = some (.pointer (some ⟨r, 0, none⟩)) := by rw [h.tk.cell]; rfl
  by_cases hk : shK s = 0 ∨ most < shN s ∨ s.size - shK s < shN s
  · have HR := text_fail s r w (by unfold maxLen; omega) h.rc h.rf h.rl most (by omega) hk
    have HC : Hid _ := HR
    have HN : Hid (TxtS s u most ⟨#[]⟩ s true) := txt_bad hk
    clear HR h hk
    go_enter Tryd.func28, Tryd.ntmps28
    go_wp2_with fail
    refine Calls.mono HC.out ?_
    rintro e w1 ⟨rfl, hst⟩
    obtain ⟨t1, t2, t3⟩ := HT.out.step hst true
    have H1 : Hid (TS t r s true (w1.setCell ⟨t, 1, none⟩ (.bool true)) ∧ Kt t r w (w1.setCell ⟨t, 1, none⟩ (.bool true))) := ⟨t1, t2⟩
    have k1 : w1.cell? ⟨t, 1, none⟩ = some (.bool u) := by rw [t3.cell]; rfl
    have kf := t3.frozen 1
    have k2 : (w1.setCell ⟨t, 1, none⟩ (.bool true)).cell? ⟨t, 1, none⟩ = some (.bool true) := by rw [t1.tk.cell]; rfl
    clear hst t1 t2 t3
    cases u
    · go_wp2
      go_ret
      exact ⟨_, s, true, rfl, H1.out.1, H1.out.2, HN.out⟩
    · go_wp2
      go_ret
      exact ⟨_, s, true, rfl, H1.out.1, H1.out.2, HN.out⟩
  · have g1 : shK s ≠ 0 := by omega
    have g2 : shN s ≤ most := by omega
    have g3 : shK s + shN s ≤ s.size := by have := shK_le s; omega
    have HR := text_ok s r w (by unfold maxLen; omega) h.rc h.rf h.rl most (by omega) g1 g2 g3
    have HU : Hid (TxtS s true most ⟨#[]⟩ (s.extract (shK s + shN s) s.size) true) := txt_unfit g1
    have HF : Hid (TxtS s false most (s.extract (shK s) (shK s + shN s)) (s.extract (shK s + shN s) s.size) false) := txt_fit g1 g2 g3
    obtain ⟨x, hx⟩ : ∃ x, s.extract (shK s) (shK s + shN s) = x := ⟨_, rfl⟩
    obtain ⟨s', hs'⟩ : ∃ s', s.extract (shK s + shN s) s.size = s' := ⟨_, rfl⟩
    rw [hx, hs'] at HR HF
    rw [hs'] at HU
    have HC : Hid _ := HR
    clear HR h hx hs' hk g1 g2 g3
    go_enter Tryd.func28, Tryd.ntmps28
    go_wp2_with fail
    refine Calls.mono HC.out ?_
    rintro e w1 ⟨rfl, hst⟩
    cases u with
    | true =>
      obtain ⟨t1, t2, t3⟩ := HT.out.step hst true
      have H1 : Hid (TS t r s' true (w1.setCell ⟨t, 1, none⟩ (.bool true)) ∧ Kt t r w (w1.setCell ⟨t, 1, none⟩ (.bool true))) := ⟨t1, t2⟩
      have k1 : w1.cell? ⟨t, 1, none⟩ = some (.bool true) := by rw [t3.cell]; rfl
      have kf := t3.frozen 1
      have k2 : (w1.setCell ⟨t, 1, none⟩ (.bool true)).cell? ⟨t, 1, none⟩ = some (.bool true) := by rw [t1.tk.cell]; rfl
      clear hst t1 t2 t3
      go_wp2
      go_ret
      exact ⟨_, s', true, rfl, H1.out.1, H1.out.2, HU.out⟩
    | false =>
      obtain ⟨t1, t2, t3⟩ := HT.out.step hst false
      have H1 : Hid (TS t r s' false (w1.setCell ⟨t, 1, none⟩ (.bool false)) ∧ Kt t r w (w1.setCell ⟨t, 1, none⟩ (.bool false))) := ⟨t1, t2⟩
      have k1 : w1.cell? ⟨t, 1, none⟩ = some (.bool false) := by rw [t3.cell]; rfl
      have kf := t3.frozen 1
      have k2 : (w1.setCell ⟨t, 1, none⟩ (.bool false)).cell? ⟨t, 1, none⟩ = some (.bool false) := by rw [t1.tk.cell]; rfl
      clear hst t1 t2 t3
      go_wp2
      go_ret
      exact ⟨_, s', false, rfl, H1.out.1, H1.out.2, HF.out⟩
/-- What a node taken tells. -/
structure NodS (s : ByteArray) (u : Bool) (n : Nat) (s' : ByteArray) (u' : Bool) : Prop where
  bd : n < 256
  sz : s'.size ≤ s.size
  yes : u' = false → u = false ∧ bl s = [UInt8.ofNat n] ++ bl s'
  no : u = false → ∀ c r, bl s = [c] ++ r → u' = false ∧ UInt8.ofNat n = c ∧ bl s' = r
theorem nod_bad {s : ByteArray} {u : Bool} (h : s.size < 1) : NodS s u 0 s true := by
  refine ⟨by omega, Nat.le_refl _, fun h => (by cases h), fun _ c r he => ?_⟩
  have := congrArg List.length he
  rw [bl_length] at this
  simp at this
  omega
theorem nod_ok {s : ByteArray} {u : Bool} (h : 1 ≤ s.size) : NodS s u (fixV ((bl s).take 1)) (s.extract 1 s.size) u ∧ fixV ((bl s).take 1) < 256 := by
  obtain ⟨c, r, hb⟩ : ∃ c r, bl s = c :: r := by
    cases hh : bl s with
    | nil => have := bl_length s; rw [hh] at this; simp at this; omega
    | cons c r => exact ⟨c, r, rfl⟩
  have hr : bl (s.extract 1 s.size) = r := by rw [bl_extract, take_all, hb]; rfl
  have hf : fixV ((bl s).take 1) = c.toNat := by rw [hb]; simp [fixV]
  have hc : UInt8.ofNat c.toNat = c := by simp
  rw [hf]
  refine ⟨⟨c.toNat_lt, ext_size10 _ _, fun hu => ⟨hu, ?_⟩, fun hu c' r' he => ?_⟩, c.toNat_lt⟩
  · rw [hc, hr, hb]; rfl
  · rw [hb] at he
    cases he
    exact ⟨hu, hc, hr⟩
set_option maxHeartbeats 2000000 in
set_option maxRecDepth 100000 in
theorem node_any (t r : Nat) (s : ByteArray) (u : Bool) (w : World) (h : TS t r s u w) (hs : s.size ≤ 140737488351232) :
    Calls Tryd.prog 26 #[.pointer (some ⟨t, 0, none⟩)] w fun e w' => ∃ n s' u', e = .returned (.int .u8 ((n : Nat) : Int)) ∧ TS t r s' u' w' ∧ Kt t r w w' ∧ NodS s u n s' u' := by
  have HT : Hid (TS t r s u w) := h
  have k0 : w.cell? ⟨t, 0, none⟩ = some (.pointer (some ⟨r, 0, none⟩)) := by rw [h.tk.cell]; rfl
  by_cases hk : s.size < 1
  · have HR := fixed_no s r w (by unfold maxLen; omega) h.rc h.rf h.rl 1 (by omega) (by omega) hk
    have HC : Hid _ := HR
    have HN : Hid (NodS s u 0 s true) := nod_bad hk
    clear HR h hk
    go_enter Tryd.func26, Tryd.ntmps26
    go_wp2_with fail
    refine Calls.mono HC.out ?_
    rintro e w1 ⟨rfl, hst⟩
    obtain ⟨t1, t2, t3⟩ := HT.out.step hst true
    have H1 : Hid (TS t r s true (w1.setCell ⟨t, 1, none⟩ (.bool true)) ∧ Kt t r w (w1.setCell ⟨t, 1, none⟩ (.bool true))) := ⟨t1, t2⟩
    have k1 : w1.cell? ⟨t, 1, none⟩ = some (.bool u) := by rw [t3.cell]; rfl
    have kf := t3.frozen 1
    clear hst t1 t2 t3
    cases u
    · go_wp2
      go_ret
      exact ⟨0, s, true, rfl, H1.out.1, H1.out.2, HN.out⟩
    · go_wp2
      go_ret
      exact ⟨0, s, true, rfl, H1.out.1, H1.out.2, HN.out⟩
  · have HR := fixed_ok s r w (by unfold maxLen; omega) h.rc h.rf h.rl 1 (by omega) (by omega) (by omega)
    have hno := nod_ok (s := s) (u := u) (by omega)
    obtain ⟨n, hn⟩ : ∃ n, fixV ((bl s).take 1) = n := ⟨_, rfl⟩
    obtain ⟨s', hs'⟩ : ∃ s', s.extract 1 s.size = s' := ⟨_, rfl⟩
    rw [hn, hs'] at HR hno
    have HN : Hid (NodS s u n s' u) := hno.1
    have hn2 := hno.2
    have HC : Hid _ := HR
    clear HR h hk hn hs' hno
    go_enter Tryd.func26, Tryd.ntmps26
    go_wp2_with fail
    refine Calls.mono HC.out ?_
    rintro e w1 ⟨rfl, hst⟩
    obtain ⟨t1, t2, t3⟩ := HT.out.step hst u
    have H1 : Hid (TS t r s' u (w1.setCell ⟨t, 1, none⟩ (.bool u)) ∧ Kt t r w (w1.setCell ⟨t, 1, none⟩ (.bool u))) := ⟨t1, t2⟩
    have k1 : w1.cell? ⟨t, 1, none⟩ = some (.bool u) := by rw [t3.cell]; rfl
    have kf := t3.frozen 1
    clear hst t1 t2 t3
    cases u
    · go_wp2
      go_ret
      exact ⟨n, s', false, rfl, H1.out.1, H1.out.2, HN.out⟩
    · go_wp2
      go_ret
      exact ⟨n, s', true, rfl, H1.out.1, H1.out.2, HN.out⟩
set_option maxHeartbeats 2000000 in
set_option maxRecDepth 100000 in
theorem fits_any10 (t r : Nat) (s : ByteArray) (u : Bool) (w : World) (h : TS t r s u w) (hs : s.size ≤ 140737488351232) :
    Calls Tryd.prog 29 #[.pointer (some ⟨t, 0, none⟩)] w fun e w' => e = .returned (.bool (!u && decide (s.size = 0))) ∧ w' = w := by
  have k0 : w.cell? ⟨t, 0, none⟩ = some (.pointer (some ⟨r, 0, none⟩)) := by rw [h.tk.cell]; rfl
  have k1 : w.cell? ⟨t, 1, none⟩ = some (.bool u) := by rw [h.tk.cell]; rfl
  have HC : Hid _ := end_any s r w (by unfold maxLen; omega) h.rc
  cases u with
  | true =>
    clear h HC
    go_enter Tryd.func29, Tryd.ntmps29
    go_wp2
    go_ret
    exact ⟨rfl, rfl⟩
  | false =>
    have he : endE s = 0 ∧ decide (s.size = 0) = true ∨ endE s = 4 ∧ decide (s.size = 0) = false := by
      unfold endE
      by_cases h : s.size = 0
      · exact .inl ⟨if_pos h, decide_eq_true h⟩
      · exact .inr ⟨if_neg h, decide_eq_false h⟩
    rcases he with ⟨e1, e2⟩ | ⟨e1, e2⟩
    · rw [e1] at HC
      rw [e2]
      clear h e1 e2
      go_enter Tryd.func29, Tryd.ntmps29
      go_wp2_with fail
      refine Calls.mono HC.out ?_
      rintro e w1 ⟨rfl, rfl⟩
      go_wp2
      go_ret
      exact ⟨rfl, rfl⟩
    · rw [e1] at HC
      rw [e2]
      clear h e1 e2
      go_enter Tryd.func29, Tryd.ntmps29
      go_wp2_with fail
      refine Calls.mono HC.out ?_
      rintro e w1 ⟨rfl, rfl⟩
      go_wp2
      go_ret
      exact ⟨rfl, rfl⟩
end Go.Proofs.YtcfniaknbbgheaaDoor
/- attrs.areXattrs, Check. -/
namespace Go.Proofs.YtcfniaknbbgheaaDoor
open Go.RowKit
set_option linter.unusedSimpArgs false
set_option linter.unusedVariables false
theorem xB_yes {x : ByteArray × ByteArray} (h1 : rnE x.1.data.toList = 0) (h2 : x.2.size ≤ 4096) : xB x = true := by unfold xB; rw [decide_eq_true h1, decide_eq_true h2]; rfl
theorem xB_nm {x : ByteArray × ByteArray} (h1 : rnE x.1.data.toList ≠ 0) : xB x = false := by unfold xB; rw [decide_eq_false h1]; rfl
theorem xB_vl {x : ByteArray × ByteArray} (h1 : ¬ x.2.size ≤ 4096) : xB x = false := by unfold xB; rw [decide_eq_false h1, Bool.and_false]
set_option maxHeartbeats 2000000 in
set_option maxRecDepth 100000 in
theorem areX_any (ad : Option Addr) (c n : Nat) (xs : List (ByteArray × ByteArray)) (w : World) (hX : XaL w ad xs) (hl : xs.length = n) (hn : n ≤ 4611686018427387904) (hT : U8 w) :
    Calls Tryd.prog 38 #[.slice ad n c] w fun e w' => e = .returned (.bool (xsB xs)) ∧ Below w.heap.size w w' := by
  have HX : Hid (XaL w ad xs) := hX
  have HT : Hid (U8 w) := hT
  have HL : Hid (xs.length = n) := hl
  clear hX hT
  by_cases h16 : n ≤ 16
  · have h16z : ¬ (16 : Int) < n := by omega
    clear hl
    go_enter Tryd.func38, Tryd.ntmps38
    go_wp2
    go_loopw [10] (fun v wr => ∃ k : Nat, v = .int .i64 k ∧ k ≤ n ∧ Hid (Below w.heap.size w wr) ∧ Hid (∀ i, i < k → xAt xs i = true)) (fun v _ => n - (intOf v).toNat)
    case atStart => exact ⟨0, rfl, Nat.zero_le _, Below.refl _ _, fun i hi => by omega⟩
    case round =>
      obtain ⟨k, rfl, hk, HB, HE⟩ := hrel
      by_cases hlt : k < n
      · have hkz : (k : Int) < (n : Nat) := by omega
        obtain ⟨x, hx⟩ : ∃ x, xs[k]? = some x := ⟨xs[k]'(by rw [HL.out]; exact hlt), List.getElem?_eq_getElem _⟩
        obtain ⟨g, o, rfl, hg, hc1, hc2, hs1, hs2⟩ := HX.out.below HB.out k x hx
        have HY : Hid (0 < k → ∃ y, xs[k - 1]? = some y ∧ wr.cell? ⟨g, o + (k - 1) * 2, none⟩ = some (.string y.1)) := fun h0 => by
          obtain ⟨y, hy⟩ : ∃ y, xs[k - 1]? = some y := ⟨xs[k - 1]'(by rw [HL.out]; omega), List.getElem?_eq_getElem _⟩
          obtain ⟨g', o', e, _, hc, _⟩ := HX.out.below HB.out (k - 1) y hy
          cases e
          exact ⟨y, hy, hc⟩
        obtain ⟨x1, x2⟩ := x
        simp only at hc1 hc2 hs1 hs2
        have H1 : Hid (xs[k]? = some (x1, x2)) := hx
        have HCK : Hid (∀ u, Below wr.heap.size wr u → Calls Tryd.prog 55 #[.string x1] u fun e w' => e = .returned (.int .i64 (rnE x1.data.toList)) ∧ Below u.heap.size u w') := fun u hu => check_any x1 u (by omega) ((HT.out.below HB.out).below hu)
        obtain ⟨r, hr⟩ : ∃ r, rnE x1.data.toList = r := ⟨_, rfl⟩
        rw [hr] at HCK
        have HR : Hid (rnE x1.data.toList = r) := hr
        have hgs : w.heap.size ≤ wr.heap.size := HB.out.size
        clear hx hr
        by_cases hr0 : r = 0
        · subst hr0
          by_cases hv : (x2.size : Int) ≤ 4096
          · have hvz : ¬ (4096 : Int) < x2.size := by omega
            have HXB : Hid (xB (x1, x2) = true) := xB_yes HR.out (by show x2.size ≤ 4096; omega)
            by_cases hk0 : 0 < k
            · obtain ⟨y, hy, hyc⟩ := HY.out hk0
              obtain ⟨y1, y2⟩ := y
              have HYY : Hid (xs[k - 1]? = some (y1, y2)) := hy
              simp only at hyc
              have hk0z : (0 : Int) < k := by omega
              have hkm : ((k : Int) - 1).toNat = k - 1 := by omega
              obtain ⟨q, hq⟩ : ∃ q, Op.bytesLess y1.toList x1.toList = q := ⟨_, rfl⟩
              have HLS : Hid (∀ u, Calls Tryd.prog 56 #[.string y1, .string x1] u fun e w' => e = .returned (.bool q) ∧ w' = u) := fun u => hq ▸ less4 y1 x1 u
              have HQ : Hid (xAt xs k = q) := by rw [xAt_two hk0 H1.out HYY.out HXB.out]; exact hq
              clear hy hq HY
              go_wp2_with fail
              refine (HCK.out _ ((Below.refl _ _).alloc (Nat.le_refl _) _)).mono ?_
              rintro e w1 ⟨rfl, hb⟩
              have HB1 : Hid (Below wr.heap.size wr w1) := ((Below.refl _ _).alloc (Nat.le_refl _) _).trans (hb.mono (by simp))
              have hc3 : w1.cell? ⟨wr.heap.size, 1, none⟩ = some (.string x2) := by
                rw [hb.cell (p := ⟨wr.heap.size, 1, none⟩) (by simp)]
                rw [World.cell?_alloc_new]; rfl
              have hc4 : w1.cell? ⟨wr.heap.size, 0, none⟩ = some (.string x1) := by
                rw [hb.cell (p := ⟨wr.heap.size, 0, none⟩) (by simp)]
                rw [World.cell?_alloc_new]; rfl
              have hc5 : w1.cell? ⟨g, o + (k - 1) * 2, none⟩ = some (.string y1) := by
                rw [HB1.out.cell (p := ⟨g, o + (k - 1) * 2, none⟩) hg]; exact hyc
              have hg1 : g < w1.heap.size := Nat.lt_of_lt_of_le hg HB1.out.size
              clear hb
              cases q with
              | true =>
                go_wp2
                go_quiet (first | (go_at_call 56; refine Calls.quiet_of_same (HLS.out _)) | fail)
                go_wp2
                go_roundw
                case rel => exact ⟨k + 1, by go_num, by omega, below_drewN (HB.out.trans (HB1.out.mono hgs)) _, fun i hi => by
                  by_cases hik : i < k
                  · exact HE.out i hik
                  · obtain rfl : i = k := by omega
                    exact HQ.out⟩
                case measure => simp [intOf]; omega
              | false =>
                go_wp2
                go_quiet (first | (go_at_call 56; refine Calls.quiet_of_same (HLS.out _)) | fail)
                go_wp2
                go_ret
                exact ⟨retB (xsB_no (by rw [HL.out]; exact hlt) HQ.out).symm, below_drewN (HB.out.trans (HB1.out.mono hgs)) _⟩
            · have hk0z : ¬ (0 : Int) < k := by omega
              go_wp2_with fail
              refine (HCK.out _ ((Below.refl _ _).alloc (Nat.le_refl _) _)).mono ?_
              rintro e w1 ⟨rfl, hb⟩
              have HB1 : Hid (Below wr.heap.size wr w1) := ((Below.refl _ _).alloc (Nat.le_refl _) _).trans (hb.mono (by simp))
              have hc3 : w1.cell? ⟨wr.heap.size, 1, none⟩ = some (.string x2) := by
                rw [hb.cell (p := ⟨wr.heap.size, 1, none⟩) (by simp)]
                rw [World.cell?_alloc_new]; rfl
              clear hb
              go_wp2
              go_quiet (fail)
              go_wp2
              go_roundw
              case rel => exact ⟨k + 1, by go_num, by omega, below_drewN (HB.out.trans (HB1.out.mono hgs)) _, fun i hi => by
                obtain rfl : i = 0 := by omega
                obtain rfl : k = 0 := by omega
                exact xAt_zero H1.out HXB.out⟩
              case measure => simp [intOf]; omega
          · have hvz : (4096 : Int) < x2.size := by omega
            have HXB : Hid (xB (x1, x2) = false) := xB_vl (by show ¬ x2.size ≤ 4096; omega)
            clear HY
            go_wp2_with fail
            refine (HCK.out _ ((Below.refl _ _).alloc (Nat.le_refl _) _)).mono ?_
            rintro e w1 ⟨rfl, hb⟩
            have HB1 : Hid (Below wr.heap.size wr w1) := ((Below.refl _ _).alloc (Nat.le_refl _) _).trans (hb.mono (by simp))
            have hc3 : w1.cell? ⟨wr.heap.size, 1, none⟩ = some (.string x2) := by
              rw [hb.cell (p := ⟨wr.heap.size, 1, none⟩) (by simp)]
              rw [World.cell?_alloc_new]; rfl
            clear hb
            go_wp2
            go_ret
            exact ⟨retB (xsB_no (by rw [HL.out]; exact hlt) (xAt_bad H1.out HXB.out)).symm, HB.out.trans (HB1.out.mono hgs)⟩
        · have hrz : ((r : Int) != 0) = true := by simp [hr0]
          have HXB : Hid (xB (x1, x2) = false) := xB_nm (by show ¬ _; rw [HR.out]; exact hr0)
          clear HY
          go_wp2_with fail
          refine (HCK.out _ ((Below.refl _ _).alloc (Nat.le_refl _) _)).mono ?_
          rintro e w1 ⟨rfl, hb⟩
          have HB1 : Hid (Below wr.heap.size wr w1) := ((Below.refl _ _).alloc (Nat.le_refl _) _).trans (hb.mono (by simp))
          clear hb
          go_wp2
          go_ret
          exact ⟨retB (xsB_no (by rw [HL.out]; exact hlt) (xAt_bad H1.out HXB.out)).symm, HB.out.trans (HB1.out.mono hgs)⟩
      · have hkz : ¬ (k : Int) < (n : Nat) := by omega
        go_wp2
        go_ret
        exact ⟨retB (xsB_yes (by rw [HL.out]; exact h16) fun i hi => HE.out i (by rw [HL.out] at hi; omega)).symm, HB.out⟩
  · have h16z : (16 : Int) < n := by omega
    have hx : xsB xs = false := by unfold xsB; rw [decide_eq_false (by omega)]; rfl
    rw [hx]
    go_enter Tryd.func38, Tryd.ntmps38
    go_wp2
    go_ret
    exact ⟨rfl, Below.refl _ _⟩
end Go.Proofs.YtcfniaknbbgheaaDoor
/- attrs.Check. -/
namespace Go.Proofs.YtcfniaknbbgheaaDoor
open Go.RowKit
set_option linter.unusedSimpArgs false
set_option linter.unusedVariables false
theorem ck_out {a : At} {b1 b2 b3 b4 b5 : Bool} (h1 : ndB a.nd = b1) (h2 : mdB a.md = b2) (h3 : mtB a.mt = b3) (h4 : tgB a.nd a.tg = b4) (h5 : xsB a.xs = b5) : ckE a = if (b1 && (b2 && (b3 && (b4 && b5)))) = true then 0 else 1 := by
  unfold ckE okA; rw [h1, h2, h3, h4, h5]
set_option maxHeartbeats 4000000 in
set_option maxRecDepth 100000 in
theorem acheck_any (nd md ui gi : Nat) (mt : Int) (tg : ByteArray) (xs : List (ByteArray × ByteArray)) (ad : Option Addr) (n c : Nat) (w : World) (hX : XaL w ad xs) (hl : xs.length = n) (hn : n ≤ 4611686018427387904) (ht : tg.size ≤ 140737488351232) (hT : U8 w) :
    Calls Tryd.prog 14 #[atV nd md ui gi mt tg (.slice ad n c)] w fun e w' => e = .returned (.int .i64 (ckE ⟨nd, md, ui, gi, mt, tg, xs⟩)) ∧ Below w.heap.size w w' := by
  obtain ⟨b1, h1⟩ : ∃ q, ndB nd = q := ⟨_, rfl⟩
  obtain ⟨b2, h2⟩ : ∃ q, mdB md = q := ⟨_, rfl⟩
  obtain ⟨b3, h3⟩ : ∃ q, mtB mt = q := ⟨_, rfl⟩
  obtain ⟨b4, h4⟩ : ∃ q, tgB nd tg = q := ⟨_, rfl⟩
  obtain ⟨b5, h5⟩ : ∃ q, xsB xs = q := ⟨_, rfl⟩
  have hck := ck_out (a := ⟨nd, md, ui, gi, mt, tg, xs⟩) h1 h2 h3 h4 h5
  rw [hck]
  have C1 : Hid (∀ u, Calls Tryd.prog 33 #[.int .u8 (nd : Int)] u fun e w' => e = .returned (.bool b1) ∧ w' = u) := fun u => h1 ▸ isNode_any nd u
  have C2 : Hid (∀ u, Calls Tryd.prog 34 #[.int .u32 (md : Int)] u fun e w' => e = .returned (.bool b2) ∧ w' = u) := fun u => h2 ▸ isMode_any md u
  have C3 : Hid (∀ u, Calls Tryd.prog 36 #[.int .i64 mt] u fun e w' => e = .returned (.bool b3) ∧ w' = u) := fun u => h3 ▸ isTick_any mt u
  have C4 : Hid (∀ u, Calls Tryd.prog 37 #[.int .u8 (nd : Int), .string tg] u fun e w' => e = .returned (.bool b4) ∧ w' = u) := fun u => h4 ▸ isTarget_any nd tg u (by omega)
  have C5 : Hid (∀ u, Below w.heap.size w u → Calls Tryd.prog 38 #[.slice ad n c] u fun e w' => e = .returned (.bool b5) ∧ Below u.heap.size u w') := fun u hu => h5 ▸ areX_any ad c n xs u (hX.below hu) hl hn (hT.below hu)
  clear hck h1 h2 h3 h4 h5 hX hT
  cases b1
  · go_enter Tryd.func14, Tryd.ntmps14
    go_wp2_with fail
    refine (C1.out _).mono ?_
    rintro e w1 ⟨rfl, rfl⟩
    go_wp2
    go_ret
    exact ⟨rfl, (Below.refl _ _).alloc (Nat.le_refl _) _⟩
  cases b2
  · go_enter Tryd.func14, Tryd.ntmps14
    go_wp2_with fail
    refine (C1.out _).mono ?_
    rintro e w1 ⟨rfl, rfl⟩
    go_wp2_with fail
    refine (C2.out _).mono ?_
    rintro e w1 ⟨rfl, rfl⟩
    go_wp2
    go_ret
    exact ⟨rfl, (Below.refl _ _).alloc (Nat.le_refl _) _⟩
  cases b3
  · go_enter Tryd.func14, Tryd.ntmps14
    go_wp2_with fail
    refine (C1.out _).mono ?_
    rintro e w1 ⟨rfl, rfl⟩
    go_wp2_with fail
    refine (C2.out _).mono ?_
    rintro e w1 ⟨rfl, rfl⟩
    go_wp2_with fail
    refine (C3.out _).mono ?_
    rintro e w1 ⟨rfl, rfl⟩
    go_wp2
    go_ret
    exact ⟨rfl, (Below.refl _ _).alloc (Nat.le_refl _) _⟩
  cases b4
  · go_enter Tryd.func14, Tryd.ntmps14
    go_wp2_with fail
    refine (C1.out _).mono ?_
    rintro e w1 ⟨rfl, rfl⟩
    go_wp2_with fail
    refine (C2.out _).mono ?_
    rintro e w1 ⟨rfl, rfl⟩
    go_wp2_with fail
    refine (C3.out _).mono ?_
    rintro e w1 ⟨rfl, rfl⟩
    go_wp2_with fail
    refine (C4.out _).mono ?_
    rintro e w1 ⟨rfl, rfl⟩
    go_wp2
    go_ret
    exact ⟨rfl, (Below.refl _ _).alloc (Nat.le_refl _) _⟩
  · go_enter Tryd.func14, Tryd.ntmps14
    go_wp2_with fail
    refine (C1.out _).mono ?_
    rintro e w1 ⟨rfl, rfl⟩
    go_wp2_with fail
    refine (C2.out _).mono ?_
    rintro e w1 ⟨rfl, rfl⟩
    go_wp2_with fail
    refine (C3.out _).mono ?_
    rintro e w1 ⟨rfl, rfl⟩
    go_wp2_with fail
    refine (C4.out _).mono ?_
    rintro e w1 ⟨rfl, rfl⟩
    go_wp2_with fail
    refine (C5.out _ ((Below.refl _ _).alloc (Nat.le_refl _) _)).mono ?_
    rintro e w1 ⟨rfl, hb⟩
    have HB : Hid (Below w.heap.size w w1) := ((Below.refl _ _).alloc (Nat.le_refl _) _).trans (hb.mono (by simp))
    clear hb
    cases b5
    · go_wp2
      go_ret
      exact ⟨rfl, HB.out⟩
    · go_wp2
      go_ret
      exact ⟨rfl, HB.out⟩
end Go.Proofs.YtcfniaknbbgheaaDoor
/- The layings of strings.Builder. -/
namespace Go.Proofs.YtcfniaknbbgheaaDoor
open Go.Shelf
def lays169_ren : Go.Shelf.Ren := ⟨fun | 169 => 23 | n => n, fun | 70 => 57 | 9 => 9 | 0 => 0 | 72 => 60 | 37 => 58 | 127 => 101 | 3 => 3 | 5 => 5 | n => n, fun | n => n⟩
theorem lays169 : Go.Proofs.Lays.n169 Tryd.prog lays169_ren := {
  mixed := by kernel_rfl
  f169 := Tryd.func23.trans (congrArg some (by kernel_rfl))
  t0 := Tryd.underlying0
  a0 := Tryd.isAgg0
  z0 := Tryd.sizeOf0
  v0 := Tryd.zeroValue0
  t3 := Tryd.underlying3
  a3 := Tryd.isAgg3
  z3 := Tryd.sizeOf3
  v3 := Tryd.zeroValue3
  t9 := Tryd.underlying9
  a9 := Tryd.isAgg9
  z9 := Tryd.sizeOf9
  v9 := Tryd.zeroValue9
  t37 := Tryd.underlying58
  a37 := Tryd.isAgg58
  z37 := Tryd.sizeOf58
  v37 := Tryd.zeroValue58
  t70 := Tryd.underlying57
  a70 := Tryd.isAgg57
  z70 := Tryd.sizeOf57
  v70 := Tryd.zeroValue57
  t72 := Tryd.underlying60
  a72 := Tryd.isAgg60
  z72 := Tryd.sizeOf60
  v72 := Tryd.zeroValue60
  t127 := Tryd.underlying101
  a127 := Tryd.isAgg101
  z127 := Tryd.sizeOf101
  v127 := Tryd.zeroValue101 }
def lays166_ren : Go.Shelf.Ren := ⟨fun | 166 => 42 | 240 => 46 | 276 => 59 | n => n, fun | 0 => 0 | 3 => 3 | 4 => 4 | 5 => 5 | 9 => 9 | 20 => 20 | 37 => 58 | 70 => 57 | 72 => 60 | 75 => 66 | 164 => 115 | 80 => 69 | n => n, fun | n => n⟩
theorem lays166 : Go.Proofs.Lays.n166 Tryd.prog lays166_ren := {
  mixed := by kernel_rfl
  f166 := Tryd.func42.trans (congrArg some (by kernel_rfl))
  f240 := Tryd.func46.trans (congrArg some (by kernel_rfl))
  f276 := Tryd.func59.trans (congrArg some (by kernel_rfl))
  t0 := Tryd.underlying0
  a0 := Tryd.isAgg0
  z0 := Tryd.sizeOf0
  v0 := Tryd.zeroValue0
  t3 := Tryd.underlying3
  a3 := Tryd.isAgg3
  z3 := Tryd.sizeOf3
  v3 := Tryd.zeroValue3
  t4 := Tryd.underlying4
  a4 := Tryd.isAgg4
  z4 := Tryd.sizeOf4
  v4 := Tryd.zeroValue4
  t9 := Tryd.underlying9
  a9 := Tryd.isAgg9
  z9 := Tryd.sizeOf9
  v9 := Tryd.zeroValue9
  t20 := Tryd.underlying20
  a20 := Tryd.isAgg20
  z20 := Tryd.sizeOf20
  v20 := Tryd.zeroValue20
  t37 := Tryd.underlying58
  a37 := Tryd.isAgg58
  z37 := Tryd.sizeOf58
  v37 := Tryd.zeroValue58
  t70 := Tryd.underlying57
  a70 := Tryd.isAgg57
  z70 := Tryd.sizeOf57
  v70 := Tryd.zeroValue57
  t72 := Tryd.underlying60
  a72 := Tryd.isAgg60
  z72 := Tryd.sizeOf60
  v72 := Tryd.zeroValue60
  t75 := Tryd.underlying66
  a75 := Tryd.isAgg66
  z75 := Tryd.sizeOf66
  v75 := Tryd.zeroValue66
  t164 := Tryd.underlying115
  a164 := Tryd.isAgg115
  z164 := Tryd.sizeOf115
  v164 := Tryd.zeroValue115 }
theorem extra166 : Builder.Extra Tryd.prog lays166_ren := {
  sizeBuilder := by kernel_rfl
  liesBuilder := by kernel_rfl
  t5 := Tryd.underlying5
  a5 := Tryd.isAgg5
  z5 := Tryd.sizeOf5
  v5 := Tryd.zeroValue5
  infoByte := by kernel_rfl
  cellsByte := by kernel_rfl
  sizeByte := by kernel_rfl
  neB5 := by decide }
theorem extra169 : Builder.Extra Tryd.prog lays169_ren := {
  sizeBuilder := by kernel_rfl
  liesBuilder := by kernel_rfl
  t5 := Tryd.underlying5
  a5 := Tryd.isAgg5
  z5 := Tryd.sizeOf5
  v5 := Tryd.zeroValue5
  infoByte := by kernel_rfl
  cellsByte := by kernel_rfl
  sizeByte := by kernel_rfl
  neB5 := by decide }
end Go.Proofs.YtcfniaknbbgheaaDoor
/- The laying of strings.Builder.WriteByte. -/
namespace Go.Proofs.YtcfniaknbbgheaaDoor
open Go.Shelf
def lays167_ren : Go.Shelf.Ren := ⟨fun | 167 => 22 | 240 => 46 | 276 => 59 | n => n, fun | 0 => 0 | 3 => 3 | 4 => 4 | 5 => 5 | 9 => 9 | 20 => 20 | 37 => 58 | 70 => 57 | 72 => 60 | 75 => 66 | 164 => 115 | 80 => 69 | n => n, fun | n => n⟩
theorem lays167 : Go.Proofs.Lays.n167 Tryd.prog lays167_ren := {
  mixed := by kernel_rfl
  f167 := Tryd.func22.trans (congrArg some (by kernel_rfl))
  f240 := Tryd.func46.trans (congrArg some (by kernel_rfl))
  f276 := Tryd.func59.trans (congrArg some (by kernel_rfl))
  t0 := Tryd.underlying0
  a0 := Tryd.isAgg0
  z0 := Tryd.sizeOf0
  v0 := Tryd.zeroValue0
  t4 := Tryd.underlying4
  a4 := Tryd.isAgg4
  z4 := Tryd.sizeOf4
  v4 := Tryd.zeroValue4
  t5 := Tryd.underlying5
  a5 := Tryd.isAgg5
  z5 := Tryd.sizeOf5
  v5 := Tryd.zeroValue5
  t9 := Tryd.underlying9
  a9 := Tryd.isAgg9
  z9 := Tryd.sizeOf9
  v9 := Tryd.zeroValue9
  t20 := Tryd.underlying20
  a20 := Tryd.isAgg20
  z20 := Tryd.sizeOf20
  v20 := Tryd.zeroValue20
  t37 := Tryd.underlying58
  a37 := Tryd.isAgg58
  z37 := Tryd.sizeOf58
  v37 := Tryd.zeroValue58
  t70 := Tryd.underlying57
  a70 := Tryd.isAgg57
  z70 := Tryd.sizeOf57
  v70 := Tryd.zeroValue57
  t72 := Tryd.underlying60
  a72 := Tryd.isAgg60
  z72 := Tryd.sizeOf60
  v72 := Tryd.zeroValue60
  t75 := Tryd.underlying66
  a75 := Tryd.isAgg66
  z75 := Tryd.sizeOf66
  v75 := Tryd.zeroValue66
  t164 := Tryd.underlying115
  a164 := Tryd.isAgg115
  z164 := Tryd.sizeOf115
  v164 := Tryd.zeroValue115 }
theorem extra167 : Builder.Extra Tryd.prog lays167_ren := {
  sizeBuilder := by kernel_rfl
  liesBuilder := by kernel_rfl
  t5 := Tryd.underlying5
  a5 := Tryd.isAgg5
  z5 := Tryd.sizeOf5
  v5 := Tryd.zeroValue5
  infoByte := by kernel_rfl
  cellsByte := by kernel_rfl
  sizeByte := by kernel_rfl
  neB5 := by decide }
end Go.Proofs.YtcfniaknbbgheaaDoor
/- strings.Builder, all but WriteByte. -/
namespace Go.Proofs.YtcfniaknbbgheaaDoor
open Go.RowKit
set_option linter.unusedSimpArgs false
set_option linter.unusedVariables false
/-- A builder that holds these bytes. -/
abbrev Bld (B b : Nat) (l : List UInt8) (w : World) : Prop := Lib.IsBuilderF 60 5 B b (Lib.byteCells l) w
abbrev Oth (b : Nat) (w w' : World) : Prop := Lib.OthersKept 5 (some b) w w'
theorem str_cells (s : ByteArray) : Lib.strCells s = Lib.byteCells s.data.toList := by
  unfold Lib.strCells Lib.byteCells
  rfl
theorem writeS (B b : Nat) (l : List UInt8) (s : ByteArray) (w : World) (h : Bld B b l w) (hlen : l.length + s.size ≤ 140737488355328) (hBw : B ≤ w.heap.size) :
    Calls Tryd.prog 42 #[.pointer (some ⟨b, 0, none⟩), .string s] w fun e w' => e = .returned (.tuple #[.int .i64 s.size, .nilIface]) ∧ Bld B b (l ++ s.data.toList) w' ∧ Below B w w' ∧ Oth b w w' :=
  (Any.Builder_WriteString_k lays166 extra166 B b (Lib.byteCells l) s w h (by rw [Lib.byteCells_length]; exact hlen) hBw).mono fun e w' ⟨he, h1, h2, h3⟩ =>
    ⟨he, by rw [Bld, Lib.byteCells_append, ← str_cells]; exact Or.inr h1, h2, h3⟩
theorem buildS (B b : Nat) (l : List UInt8) (w : World) (h : Bld B b l w) (hBw : B ≤ w.heap.size) :
    Calls Tryd.prog 23 #[.pointer (some ⟨b, 0, none⟩)] w fun e w' => e = .returned (.string ⟨l.toArray⟩) ∧ Bld B b l w' ∧ Below B w w' ∧ Oth b w w' :=
  Any.Builder_String_any_k lays169 extra169 B b l w h hBw
theorem fresh_bld (w : World) : Bld w.heap.size w.heap.size [] (w.alloc (.cells #[.pointer none, .slice none 0 0] 60)) := Lib.IsBuilderF.of (Lib.fresh_isBuilder _ _ w)
end Go.Proofs.YtcfniaknbbgheaaDoor
