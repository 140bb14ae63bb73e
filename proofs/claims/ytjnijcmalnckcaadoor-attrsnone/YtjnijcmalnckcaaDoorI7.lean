/- attrs.taker: number, text, node, fits. -/
import Derived.Test.YtjnijcmalnckcaaDoorI0
import Derived.Test.YtjnijcmalnckcaaDoorI1
import Derived.Test.YtjnijcmalnckcaaDoorM0
import Derived.Test.YtjnijcmalnckcaaDoorP6
import Derived.Test.YtjnijcmalnckcaaDoorW10F
import Derived.Test.YtjnijcmalnckcaaDoorW5E
namespace Go.Proofs.YtjnijcmalnckcaaDoor
open Go.RowKit
set_option linter.unusedSimpArgs false
set_option linter.unusedVariables false
/-- What lies there: a taker over a reader. -/
structure TS (t r : Nat) (s : ByteArray) (u : Bool) (w : World) : Prop where
  tk : Bk w t #[.pointer (some ⟨r, 0, none⟩), .bool u] 78
  rc : w.cell? ⟨r, 0, none⟩ = some (.string s)
  rf : w.frozen? ⟨r, 0, none⟩ = false
  rl : r < w.heap.size
  ne : t ≠ r
/-- All but the two blocks is as it was. -/
structure Kt (t r : Nat) (w w' : World) : Prop where
  os : w'.os = w.os
  tape : w'.tape = w.tape
  output : w'.output = w.output
  size : w.heap.size ≤ w'.heap.size
  block : ∀ k, k < w.heap.size → k ≠ t → k ≠ r → w'.heap[k]? = w.heap[k]?
theorem Kt.trans {t r : Nat} {a b c : World} (h : Kt t r a b) (k : Kt t r b c) : Kt t r a c :=
  ⟨k.os.trans h.os, k.tape.trans h.tape, k.output.trans h.output, Nat.le_trans h.size k.size, fun i hi h1 h2 => (k.block i (Nat.lt_of_lt_of_le hi h.size) h1 h2).trans (h.block i hi h1 h2)⟩
theorem Kt.bk {t r : Nat} {w w' : World} (h : Kt t r w w') {b : Nat} {C : Array Value} {T : TypeId} (hb : Bk w b C T) (h1 : b ≠ t) (h2 : b ≠ r) : Bk w' b C T := by
  unfold Bk; rw [h.block b hb.lt h1 h2]; exact hb
theorem Kt.below {t r B : Nat} {w0 w w' : World} (h : Kt t r w w') (hb : Below B w0 w) (hz : B ≤ w.heap.size) (h1 : B ≤ t) (h2 : B ≤ r) : Below B w0 w' :=
  ⟨h.os.trans hb.os, h.tape.trans hb.tape, h.output.trans hb.output, Nat.le_trans hb.size h.size, fun i hi => (h.block i (by omega) (by omega) (by omega)).trans (hb.block i hi)⟩
theorem Kt.of_below {t r : Nat} {w w' : World} (h : Below w.heap.size w w') : Kt t r w w' := ⟨h.os, h.tape, h.output, h.size, fun i hi _ _ => h.block i hi⟩
theorem Kt.grown {t r : Nat} {w w' : World} (h : Kt t r w w') {x : Nat} {w1 : World} (hg : w.grownBy w1 (some x)) : True := trivial
theorem cell_blk {w w' : World} {r j : Nat} (h : w'.heap[r]? = w.heap[r]?) : w'.cell? ⟨r, j, none⟩ = w.cell? ⟨r, j, none⟩ ∧ w'.frozen? ⟨r, j, none⟩ = w.frozen? ⟨r, j, none⟩ := by
  simp [World.cell?, World.frozen?, h]
theorem TS.keep {t r : Nat} {s : ByteArray} {u : Bool} {w w' : World} (h : TS t r s u w) (hb : Below w.heap.size w w') : TS t r s u w' :=
  ⟨h.tk.below hb h.tk.lt, by rw [hb.cell (p := ⟨r, 0, none⟩) h.rl]; exact h.rc, by rw [hb.frozen (p := ⟨r, 0, none⟩) h.rl]; exact h.rf, Nat.lt_of_lt_of_le h.rl hb.size, h.ne⟩
theorem TS.grown {t r : Nat} {s : ByteArray} {u : Bool} {w w' : World} {b : Option Nat} (h : TS t r s u w) (hg : w.grownBy w' b) (h1 : b ≠ some t) (h2 : b ≠ some r) : TS t r s u w' := by
  have q := cell_blk (j := 0) (hg.block r h.rl (fun e => h2 e.symm))
  exact ⟨h.tk.grown hg h1, by rw [q.1]; exact h.rc, by rw [q.2]; exact h.rf, Nat.lt_of_lt_of_le h.rl hg.size, h.ne⟩
/-- A reader's step, and then the mark stored. -/
theorem TS.step {t r : Nat} {s s' : ByteArray} {u : Bool} {w w1 : World} (h : TS t r s u w) (hs : Step r w w1 s') (v : Bool) :
    TS t r s' v (w1.setCell ⟨t, 1, none⟩ (.bool v)) ∧ Kt t r w (w1.setCell ⟨t, 1, none⟩ (.bool v)) ∧ Bk w1 t #[.pointer (some ⟨r, 0, none⟩), .bool u] 78 := by
  have hb1 : Bk w1 t #[.pointer (some ⟨r, 0, none⟩), .bool u] 78 := by
    unfold Bk; rw [hs.block t h.tk.lt h.ne]; exact h.tk
  have hg : w1.grownBy (w1.setCell ⟨t, 1, none⟩ (.bool v)) (some t) := Lib.grownBy_setB (World.grownBy.refl _ _) 1 _
  have hrl : r < w1.heap.size := Nat.lt_of_lt_of_le h.rl hs.size
  have q := cell_blk (j := 0) (hg.block r hrl (fun e => h.ne (by cases e; rfl)))
  refine ⟨⟨hb1.set 1 _, by rw [q.1]; exact hs.cell, by rw [q.2]; exact hs.frozen, Nat.lt_of_lt_of_le hrl hg.size, h.ne⟩, ⟨hg.os.trans hs.os, hg.tape.trans hs.tape, hg.output.trans hs.output, Nat.le_trans hs.size hg.size, fun k hk h1 h2 => ?_⟩, hb1⟩
  rw [hg.block k (Nat.lt_of_lt_of_le hk hs.size) (fun e => h1 (by cases e; rfl))]
  exact hs.block k hk h2
/-- What a number taken tells. -/
structure NumS (s : ByteArray) (u : Bool) (most n : Nat) (s' : ByteArray) (u' : Bool) : Prop where
  bd : n ≤ most
  sz : s'.size ≤ s.size
  yes : u' = false → u = false ∧ bl s = e8 n ++ bl s'
  no : u = false → ∀ m r, m ≤ most → m < 2 ^ 64 → bl s = e8 m ++ r → u' = false ∧ n = m ∧ bl s' = r
theorem by_list (s : ByteArray) (a r : List UInt8) (h : bl s = a ++ r) : s = ⟨a.toArray⟩ ++ ⟨r.toArray⟩ := bl_inj (by rw [bl_append, h]; rfl)
theorem e8_sb (m : Nat) : (⟨(e8 m).toArray⟩ : ByteArray) = sb (encS m) := rfl
theorem num_bad {s : ByteArray} {u : Bool} {most : Nat} (hk : shK s = 0) : NumS s u most 0 s true := by
  refine ⟨Nat.zero_le _, Nat.le_refl _, fun h => (by cases h), fun _ m r _ hm h => ?_⟩
  have := sh_enc m s ⟨r.toArray⟩ hm (by rw [← e8_sb]; exact by_list s _ _ h)
  have := slen_pos m
  omega
theorem num_split {s : ByteArray} (hk : shK s ≠ 0) : bl s = e8 (shN s) ++ bl (s.extract (shK s) s.size) := by
  have h1 := sh_again s hk
  have h2 := split_at s (shK s) (shK_le s)
  rw [← h1] at h2
  have h3 := congrArg bl h2
  rw [bl_append] at h3
  exact h3.symm
theorem num_front {s : ByteArray} {m : Nat} {r : List UInt8} (hm : m < 2 ^ 64) (h : bl s = e8 m ++ r) : shK s ≠ 0 ∧ shN s = m ∧ bl (s.extract (shK s) s.size) = r := by
  have h1 := sh_enc m s ⟨r.toArray⟩ hm (by rw [← e8_sb]; exact by_list s _ _ h)
  have hp := slen_pos m
  refine ⟨by omega, h1.1, ?_⟩
  have h2 := num_split (s := s) (by omega)
  rw [h1.1, h] at h2
  exact (List.append_cancel_left h2).symm
theorem ext_size10 (s : ByteArray) (k : Nat) : (s.extract k s.size).size ≤ s.size := by simp
theorem num_unfit {s : ByteArray} {u : Bool} {most : Nat} (hk : shK s ≠ 0) (h : u = true ∨ most < shN s) : NumS s u most 0 (s.extract (shK s) s.size) true := by
  refine ⟨Nat.zero_le _, ext_size10 _ _, fun h => (by cases h), fun hu m r hmm hm he => ?_⟩
  have := num_front hm he
  rcases h with h | h
  · rw [hu] at h; cases h
  · omega
theorem num_fit {s : ByteArray} {most : Nat} (hk : shK s ≠ 0) (h : shN s ≤ most) : NumS s false most (shN s) (s.extract (shK s) s.size) false :=
  ⟨h, ext_size10 _ _, fun _ => ⟨rfl, num_split hk⟩, fun hu m r hmm hm he => ⟨rfl, (num_front hm he).2.1, (num_front hm he).2.2⟩⟩
set_option maxHeartbeats 2000000 in
set_option maxRecDepth 100000 in
theorem number_any (t r : Nat) (s : ByteArray) (u : Bool) (most : Nat) (w : World) (h : TS t r s u w) (hs : s.size ≤ 140737488351232) (hm : most ≤ 18446744073709551615) :
    Calls Tryd.prog 32 #[.pointer (some ⟨t, 0, none⟩), .int .u64 (most : Int)] w fun e w' => ∃ n s' u', e = .returned (.int .u64 ((n : Nat) : Int)) ∧ TS t r s' u' w' ∧ Kt t r w w' ∧ NumS s u most n s' u' := by
  have HT : Hid (TS t r s u w) := h
  have k0 : w.cell? ⟨t, 0, none⟩ = some (.pointer (some ⟨r, 0, none⟩)) := by rw [h.tk.cell]; rfl
  by_cases hk : shK s = 0
  · have HR := uint_no s r w (by unfold maxLen; omega) h.rc h.rf h.rl hk
    have HC : Hid _ := HR
    have HN : Hid (NumS s u most 0 s true) := num_bad hk
    clear HR h
    go_enter Tryd.func32, Tryd.ntmps32
    go_wp2_with fail
    refine Calls.mono HC.out ?_
    rintro e w1 ⟨rfl, hst⟩
    obtain ⟨t1, t2, t3⟩ := HT.out.step hst true
    have H1 : Hid (TS t r s true (w1.setCell ⟨t, 1, none⟩ (.bool true)) ∧ Kt t r w (w1.setCell ⟨t, 1, none⟩ (.bool true))) := ⟨t1, t2⟩
    have k1 : w1.cell? ⟨t, 1, none⟩ = some (.bool u) := by rw [t3.cell]; rfl
    have kf := t3.frozen 1
    have k2 : (w1.setCell ⟨t, 1, none⟩ (.bool true)).cell? ⟨t, 1, none⟩ = some (.bool true) := by rw [t1.tk.cell]; rfl
    clear hst t1 t2 t3
    cases u
    · go_wp2
      go_ret
      exact ⟨0, s, true, rfl, H1.out.1, H1.out.2, HN.out⟩
    · go_wp2
      go_ret
      exact ⟨0, s, true, rfl, H1.out.1, H1.out.2, HN.out⟩
  · have HR := uint_ok s r w (by unfold maxLen; omega) h.rc h.rf h.rl hk
    have hlt := shN_lt s
    have HU : Hid (u = true ∨ most < shN s → NumS s u most 0 (s.extract (shK s) s.size) true) := num_unfit hk
    have HF : Hid (shN s ≤ most → NumS s false most (shN s) (s.extract (shK s) s.size) false) := num_fit hk
    obtain ⟨n, hn⟩ : ∃ n, shN s = n := ⟨_, rfl⟩
    obtain ⟨s', hs'⟩ : ∃ s', s.extract (shK s) s.size = s' := ⟨_, rfl⟩
    rw [hn, hs'] at HR HU HF
    rw [hn] at hlt
    have HC : Hid _ := HR
    clear HR h hn hs' hk
    go_enter Tryd.func32, Tryd.ntmps32
    go_wp2_with fail
    refine Calls.mono HC.out ?_
    rintro e w1 ⟨rfl, hst⟩
    cases u with
    | true =>
      have HN : Hid (NumS s true most 0 s' true) := HU.out (.inl rfl)
      clear HU HF
      obtain ⟨t1, t2, t3⟩ := HT.out.step hst true
      have H1 : Hid (TS t r s' true (w1.setCell ⟨t, 1, none⟩ (.bool true)) ∧ Kt t r w (w1.setCell ⟨t, 1, none⟩ (.bool true))) := ⟨t1, t2⟩
      have k1 : w1.cell? ⟨t, 1, none⟩ = some (.bool true) := by rw [t3.cell]; rfl
      have kf := t3.frozen 1
      have k2 : (w1.setCell ⟨t, 1, none⟩ (.bool true)).cell? ⟨t, 1, none⟩ = some (.bool true) := by rw [t1.tk.cell]; rfl
      clear hst t1 t2 t3
      go_wp2
      go_ret
      exact ⟨0, s', true, rfl, H1.out.1, H1.out.2, HN.out⟩
    | false =>
      by_cases hmn : most < n
      · have hmz : (most : Int) < n := by omega
        have HN : Hid (NumS s false most 0 s' true) := HU.out (.inr hmn)
        clear HU HF
        obtain ⟨t1, t2, t3⟩ := HT.out.step hst true
        have H1 : Hid (TS t r s' true (w1.setCell ⟨t, 1, none⟩ (.bool true)) ∧ Kt t r w (w1.setCell ⟨t, 1, none⟩ (.bool true))) := ⟨t1, t2⟩
        have k1 : w1.cell? ⟨t, 1, none⟩ = some (.bool false) := by rw [t3.cell]; rfl
        have kf := t3.frozen 1
        have k2 : (w1.setCell ⟨t, 1, none⟩ (.bool true)).cell? ⟨t, 1, none⟩ = some (.bool true) := by rw [t1.tk.cell]; rfl
        clear hst t1 t2 t3
        go_wp2
        go_ret
        exact ⟨0, s', true, rfl, H1.out.1, H1.out.2, HN.out⟩
      · have hmz : ¬ (most : Int) < n := by omega
        have HN : Hid (NumS s false most n s' false) := HF.out (by omega)
        clear HU HF
        obtain ⟨t1, t2, t3⟩ := HT.out.step hst false
        have H1 : Hid (TS t r s' false (w1.setCell ⟨t, 1, none⟩ (.bool false)) ∧ Kt t r w (w1.setCell ⟨t, 1, none⟩ (.bool false))) := ⟨t1, t2⟩
        have k1 : w1.cell? ⟨t, 1, none⟩ = some (.bool false) := by rw [t3.cell]; rfl
        have kf := t3.frozen 1
        have k2 : (w1.setCell ⟨t, 1, none⟩ (.bool false)).cell? ⟨t, 1, none⟩ = some (.bool false) := by rw [t1.tk.cell]; rfl
        clear hst t1 t2 t3
        go_wp2
        go_ret
        exact ⟨n, s', false, rfl, H1.out.1, H1.out.2, HN.out⟩
/-- What a text taken tells. -/
structure TxtS (s : ByteArray) (u : Bool) (most : Nat) (x s' : ByteArray) (u' : Bool) : Prop where
  bd : x.size ≤ most
  sz : s'.size ≤ s.size
  yes : u' = false → u = false ∧ bl s = tx x ++ bl s'
  no : u = false → ∀ y r, y.size ≤ most → y.size < 2 ^ 64 → bl s = tx y ++ r → u' = false ∧ x = y ∧ bl s' = r
theorem e8_length (n : Nat) : (e8 n).length = slen n := by unfold e8; rw [by8_length, encS_length]
theorem txt_front {s y : ByteArray} {r : List UInt8} (hm : y.size < 2 ^ 64) (h : bl s = tx y ++ r) :
    shK s ≠ 0 ∧ shN s = y.size ∧ shK s + shN s ≤ s.size ∧ s.extract (shK s) (shK s + shN s) = y ∧ bl (s.extract (shK s + shN s) s.size) = r := by
  unfold tx at h
  rw [List.append_assoc] at h
  obtain ⟨h1, h2, h3⟩ := num_front hm h
  have h4 := sh_enc y.size s ⟨(bl y ++ r).toArray⟩ hm (by rw [← e8_sb]; exact by_list s _ _ h)
  have hk : shK s = (e8 y.size).length := by rw [e8_length]; exact h4.2
  have hsz : s.size = (e8 y.size).length + (y.size + r.length) := by rw [← bl_length s, h]; simp [bl_length]
  refine ⟨h1, h2, by omega, bl_inj ?_, ?_⟩
  · rw [bl_extract, h, h2, hk, List.take_append, List.drop_append]
    have e1 : (e8 y.size).length + y.size - (e8 y.size).length = y.size := by omega
    rw [e1, List.take_of_length_le (by omega), List.drop_length, Nat.sub_self, List.drop_zero, List.nil_append, List.take_append_of_le_length (by rw [bl_length]; omega), List.take_of_length_le (by rw [bl_length]; omega)]
  · rw [bl_extract, take_all, h, h2, hk, List.drop_append]
    have e1 : (e8 y.size).length + y.size - (e8 y.size).length = y.size := by omega
    rw [e1, List.drop_eq_nil_of_le (by omega), List.nil_append, List.drop_append, bl_length, Nat.sub_self, List.drop_eq_nil_of_le (by rw [bl_length]; omega)]
    rfl
theorem txt_split {s : ByteArray} (hk : shK s ≠ 0) (hl : shK s + shN s ≤ s.size) : bl s = tx (s.extract (shK s) (shK s + shN s)) ++ bl (s.extract (shK s + shN s) s.size) ∧ (s.extract (shK s) (shK s + shN s)).size = shN s := by
  have hz : (s.extract (shK s) (shK s + shN s)).size = shN s := by simp; omega
  refine ⟨?_, hz⟩
  unfold tx
  rw [hz, List.append_assoc]
  have h1 := num_split hk
  rw [h1]
  congr 1
  rw [← bl_append, bl_extract, take_all, bl_append, bl_extract, bl_extract, take_all]
  conv => lhs; rw [← List.take_append_drop (shN s) ((bl s).drop (shK s))]
  rw [List.drop_drop, List.drop_take, Nat.add_sub_cancel_left]
theorem txt_bad {s : ByteArray} {u : Bool} {most : Nat} (h : shK s = 0 ∨ most < shN s ∨ s.size - shK s < shN s) : TxtS s u most ⟨#[]⟩ s true := by
  refine ⟨Nat.zero_le _, Nat.le_refl _, fun h => (by cases h), fun _ y r h1 hm he => ?_⟩
  have := txt_front hm he
  have := shK_le s
  omega
theorem txt_unfit {s : ByteArray} {most : Nat} (hk : shK s ≠ 0) : TxtS s true most ⟨#[]⟩ (s.extract (shK s + shN s) s.size) true :=
  ⟨Nat.zero_le _, ext_size10 _ _, fun h => (by cases h), fun h => (by cases h)⟩
theorem txt_fit {s : ByteArray} {most : Nat} (hk : shK s ≠ 0) (hn : shN s ≤ most) (hl : shK s + shN s ≤ s.size) : TxtS s false most (s.extract (shK s) (shK s + shN s)) (s.extract (shK s + shN s) s.size) false :=
  ⟨by rw [(txt_split hk hl).2]; exact hn, ext_size10 _ _, fun _ => ⟨rfl, (txt_split hk hl).1⟩, fun hu y r hmm hm he => ⟨rfl, (txt_front hm he).2.2.2.1, (txt_front hm he).2.2.2.2⟩⟩
theorem text_fail (s : ByteArray) (b : Nat) (w : World) (hs : s.size ≤ maxLen) (hc : w.cell? ⟨b, 0, none⟩ = some (.string s)) (hf : w.frozen? ⟨b, 0, none⟩ = false) (hb : b < w.heap.size) (m : Nat) (hm : m ≤ 9223372036854775807) (h : shK s = 0 ∨ m < shN s ∨ s.size - shK s < shN s) :
    Calls Tryd.prog 57 #[.pointer (some ⟨b, 0, none⟩), .int .i64 m] w fun e w' => e = .returned (.tuple #[.string ⟨#[]⟩, .int .i64 4]) ∧ Step b w w' s := by
  by_cases h1 : shK s = 0
  · exact text_no1 s b w hs hc hf hb m hm h1
  · by_cases h2 : m < shN s
    · exact text_no2 s b w hs hc hf hb m hm h1 h2
    · exact text_no3 s b w hs hc hf hb m hm h1 (by omega) (by omega)
set_option maxHeartbeats 2000000 in
set_option maxRecDepth 100000 in
theorem ttext_any (t r : Nat) (s : ByteArray) (u : Bool) (most : Nat) (w : World) (h : TS t r s u w) (hs : s.size ≤ 140737488351232) (hm : most ≤ 140737488351232) :
    Calls Tryd.prog 33 #[.pointer (some ⟨t, 0, none⟩), .int .i64 (most : Int)] w fun e w' => ∃ x s' u', e = .returned (.string x) ∧ TS t r s' u' w' ∧ Kt t r w w' ∧ TxtS s u most x s' u' := by
  have HT : Hid (TS t r s u w) := h
  have k0 : w.cell? ⟨t, 0, none⟩ = some (.pointer (some ⟨r, 0, none⟩)) := by rw [h.tk.cell]; rfl
  by_cases hk : shK s = 0 ∨ most < shN s ∨ s.size - shK s < shN s
  · have HR := text_fail s r w (by unfold maxLen; omega) h.rc h.rf h.rl most (by omega) hk
    have HC : Hid _ := HR
    have HN : Hid (TxtS s u most ⟨#[]⟩ s true) := txt_bad hk
    clear HR h hk
    go_enter Tryd.func33, Tryd.ntmps33
    go_wp2_with fail
    refine Calls.mono HC.out ?_
    rintro e w1 ⟨rfl, hst⟩
    obtain ⟨t1, t2, t3⟩ := HT.out.step hst true
    have H1 : Hid (TS t r s true (w1.setCell ⟨t, 1, none⟩ (.bool true)) ∧ Kt t r w (w1.setCell ⟨t, 1, none⟩ (.bool true))) := ⟨t1, t2⟩
    have k1 : w1.cell? ⟨t, 1, none⟩ = some (.bool u) := by rw [t3.cell]; rfl
    have kf := t3.frozen 1
    have k2 : (w1.setCell ⟨t, 1, none⟩ (.bool true)).cell? ⟨t, 1, none⟩ = some (.bool true) := by rw [t1.tk.cell]; rfl
    clear hst t1 t2 t3
    cases u
    · go_wp2
      go_ret
      exact ⟨_, s, true, rfl, H1.out.1, H1.out.2, HN.out⟩
    · go_wp2
      go_ret
      exact ⟨_, s, true, rfl, H1.out.1, H1.out.2, HN.out⟩
  · have g1 : shK s ≠ 0 := by omega
    have g2 : shN s ≤ most := by omega
    have g3 : shK s + shN s ≤ s.size := by have := shK_le s; omega
    have HR := text_ok s r w (by unfold maxLen; omega) h.rc h.rf h.rl most (by omega) g1 g2 g3
    have HU : Hid (TxtS s true most ⟨#[]⟩ (s.extract (shK s + shN s) s.size) true) := txt_unfit g1
    have HF : Hid (TxtS s false most (s.extract (shK s) (shK s + shN s)) (s.extract (shK s + shN s) s.size) false) := txt_fit g1 g2 g3
    obtain ⟨x, hx⟩ : ∃ x, s.extract (shK s) (shK s + shN s) = x := ⟨_, rfl⟩
    obtain ⟨s', hs'⟩ : ∃ s', s.extract (shK s + shN s) s.size = s' := ⟨_, rfl⟩
    rw [hx, hs'] at HR HF
    rw [hs'] at HU
    have HC : Hid _ := HR
    clear HR h hx hs' hk g1 g2 g3
    go_enter Tryd.func33, Tryd.ntmps33
    go_wp2_with fail
    refine Calls.mono HC.out ?_
    rintro e w1 ⟨rfl, hst⟩
    cases u with
    | true =>
      obtain ⟨t1, t2, t3⟩ := HT.out.step hst true
      have H1 : Hid (TS t r s' true (w1.setCell ⟨t, 1, none⟩ (.bool true)) ∧ Kt t r w (w1.setCell ⟨t, 1, none⟩ (.bool true))) := ⟨t1, t2⟩
      have k1 : w1.cell? ⟨t, 1, none⟩ = some (.bool true) := by rw [t3.cell]; rfl
      have kf := t3.frozen 1
      have k2 : (w1.setCell ⟨t, 1, none⟩ (.bool true)).cell? ⟨t, 1, none⟩ = some (.bool true) := by rw [t1.tk.cell]; rfl
      clear hst t1 t2 t3
      go_wp2
      go_ret
      exact ⟨_, s', true, rfl, H1.out.1, H1.out.2, HU.out⟩
    | false =>
      obtain ⟨t1, t2, t3⟩ := HT.out.step hst false
      have H1 : Hid (TS t r s' false (w1.setCell ⟨t, 1, none⟩ (.bool false)) ∧ Kt t r w (w1.setCell ⟨t, 1, none⟩ (.bool false))) := ⟨t1, t2⟩
      have k1 : w1.cell? ⟨t, 1, none⟩ = some (.bool false) := by rw [t3.cell]; rfl
      have kf := t3.frozen 1
      have k2 : (w1.setCell ⟨t, 1, none⟩ (.bool false)).cell? ⟨t, 1, none⟩ = some (.bool false) := by rw [t1.tk.cell]; rfl
      clear hst t1 t2 t3
      go_wp2
      go_ret
      exact ⟨_, s', false, rfl, H1.out.1, H1.out.2, HF.out⟩
/-- What a node taken tells. -/
structure NodS (s : ByteArray) (u : Bool) (n : Nat) (s' : ByteArray) (u' : Bool) : Prop where
  bd : n < 256
  sz : s'.size ≤ s.size
  yes : u' = false → u = false ∧ bl s = [UInt8.ofNat n] ++ bl s'
  no : u = false → ∀ c r, bl s = [c] ++ r → u' = false ∧ UInt8.ofNat n = c ∧ bl s' = r
theorem nod_bad {s : ByteArray} {u : Bool} (h : s.size < 1) : NodS s u 0 s true := by
  refine ⟨by omega, Nat.le_refl _, fun h => (by cases h), fun _ c r he => ?_⟩
  have := congrArg List.length he
  rw [bl_length] at this
  simp at this
  omega
theorem nod_ok {s : ByteArray} {u : Bool} (h : 1 ≤ s.size) : NodS s u (fixV ((bl s).take 1)) (s.extract 1 s.size) u ∧ fixV ((bl s).take 1) < 256 := by
  obtain ⟨c, r, hb⟩ : ∃ c r, bl s = c :: r := by
    cases hh : bl s with
    | nil => have := bl_length s; rw [hh] at this; simp at this; omega
    | cons c r => exact ⟨c, r, rfl⟩
  have hr : bl (s.extract 1 s.size) = r := by rw [bl_extract, take_all, hb]; rfl
  have hf : fixV ((bl s).take 1) = c.toNat := by rw [hb]; simp [fixV]
  have hc : UInt8.ofNat c.toNat = c := by simp
  rw [hf]
  refine ⟨⟨c.toNat_lt, ext_size10 _ _, fun hu => ⟨hu, ?_⟩, fun hu c' r' he => ?_⟩, c.toNat_lt⟩
  · rw [hc, hr, hb]; rfl
  · rw [hb] at he
    cases he
    exact ⟨hu, hc, hr⟩
set_option maxHeartbeats 2000000 in
set_option maxRecDepth 100000 in
theorem node_any (t r : Nat) (s : ByteArray) (u : Bool) (w : World) (h : TS t r s u w) (hs : s.size ≤ 140737488351232) :
    Calls Tryd.prog 31 #[.pointer (some ⟨t, 0, none⟩)] w fun e w' => ∃ n s' u', e = .returned (.int .u8 ((n : Nat) : Int)) ∧ TS t r s' u' w' ∧ Kt t r w w' ∧ NodS s u n s' u' := by
  have HT : Hid (TS t r s u w) := h
  have k0 : w.cell? ⟨t, 0, none⟩ = some (.pointer (some ⟨r, 0, none⟩)) := by rw [h.tk.cell]; rfl
  by_cases hk : s.size < 1
  · have HR := fixed_no s r w (by unfold maxLen; omega) h.rc h.rf h.rl 1 (by omega) (by omega) hk
    have HC : Hid _ := HR
    have HN : Hid (NodS s u 0 s true) := nod_bad hk
    clear HR h hk
    go_enter Tryd.func31, Tryd.ntmps31
    go_wp2_with fail
    refine Calls.mono HC.out ?_
    rintro e w1 ⟨rfl, hst⟩
    obtain ⟨t1, t2, t3⟩ := HT.out.step hst true
    have H1 : Hid (TS t r s true (w1.setCell ⟨t, 1, none⟩ (.bool true)) ∧ Kt t r w (w1.setCell ⟨t, 1, none⟩ (.bool true))) := ⟨t1, t2⟩
    have k1 : w1.cell? ⟨t, 1, none⟩ = some (.bool u) := by rw [t3.cell]; rfl
    have kf := t3.frozen 1
    clear hst t1 t2 t3
    cases u
    · go_wp2
      go_ret
      exact ⟨0, s, true, rfl, H1.out.1, H1.out.2, HN.out⟩
    · go_wp2
      go_ret
      exact ⟨0, s, true, rfl, H1.out.1, H1.out.2, HN.out⟩
  · have HR := fixed_ok s r w (by unfold maxLen; omega) h.rc h.rf h.rl 1 (by omega) (by omega) (by omega)
    have hno := nod_ok (s := s) (u := u) (by omega)
    obtain ⟨n, hn⟩ : ∃ n, fixV ((bl s).take 1) = n := ⟨_, rfl⟩
    obtain ⟨s', hs'⟩ : ∃ s', s.extract 1 s.size = s' := ⟨_, rfl⟩
    rw [hn, hs'] at HR hno
    have HN : Hid (NodS s u n s' u) := hno.1
    have hn2 := hno.2
    have HC : Hid _ := HR
    clear HR h hk hn hs' hno
    go_enter Tryd.func31, Tryd.ntmps31
    go_wp2_with fail
    refine Calls.mono HC.out ?_
    rintro e w1 ⟨rfl, hst⟩
    obtain ⟨t1, t2, t3⟩ := HT.out.step hst u
    have H1 : Hid (TS t r s' u (w1.setCell ⟨t, 1, none⟩ (.bool u)) ∧ Kt t r w (w1.setCell ⟨t, 1, none⟩ (.bool u))) := ⟨t1, t2⟩
    have k1 : w1.cell? ⟨t, 1, none⟩ = some (.bool u) := by rw [t3.cell]; rfl
    have kf := t3.frozen 1
    clear hst t1 t2 t3
    cases u
    · go_wp2
      go_ret
      exact ⟨n, s', false, rfl, H1.out.1, H1.out.2, HN.out⟩
    · go_wp2
      go_ret
      exact ⟨n, s', true, rfl, H1.out.1, H1.out.2, HN.out⟩
set_option maxHeartbeats 2000000 in
set_option maxRecDepth 100000 in
theorem fits_any10 (t r : Nat) (s : ByteArray) (u : Bool) (w : World) (h : TS t r s u w) (hs : s.size ≤ 140737488351232) :
    Calls Tryd.prog 34 #[.pointer (some ⟨t, 0, none⟩)] w fun e w' => e = .returned (.bool (!u && decide (s.size = 0))) ∧ w' = w := by
  have k0 : w.cell? ⟨t, 0, none⟩ = some (.pointer (some ⟨r, 0, none⟩)) := by rw [h.tk.cell]; rfl
  have k1 : w.cell? ⟨t, 1, none⟩ = some (.bool u) := by rw [h.tk.cell]; rfl
  have HC : Hid _ := end_any s r w (by unfold maxLen; omega) h.rc
  cases u with
  | true =>
    clear h HC
    go_enter Tryd.func34, Tryd.ntmps34
    go_wp2
    go_ret
    exact ⟨rfl, rfl⟩
  | false =>
    have he : endE s = 0 ∧ decide (s.size = 0) = true ∨ endE s = 4 ∧ decide (s.size = 0) = false := by
      unfold endE
      by_cases h : s.size = 0
      · exact .inl ⟨if_pos h, decide_eq_true h⟩
      · exact .inr ⟨if_neg h, decide_eq_false h⟩
    rcases he with ⟨e1, e2⟩ | ⟨e1, e2⟩
    · rw [e1] at HC
      rw [e2]
      clear h e1 e2
      go_enter Tryd.func34, Tryd.ntmps34
      go_wp2_with fail
      refine Calls.mono HC.out ?_
      rintro e w1 ⟨rfl, rfl⟩
      go_wp2
      go_ret
      exact ⟨rfl, rfl⟩
    · rw [e1] at HC
      rw [e2]
      clear h e1 e2
      go_enter Tryd.func34, Tryd.ntmps34
      go_wp2_with fail
      refine Calls.mono HC.out ?_
      rintro e w1 ⟨rfl, rfl⟩
      go_wp2
      go_ret
      exact ⟨rfl, rfl⟩
end Go.Proofs.YtjnijcmalnckcaaDoor
