/- shards.add: a shard, times a number, laid over a sum. -/
import Derived.Test.YtblmblbkfdcbjabJ1
namespace Go.Proofs.Ytblmblbkfdcbjab
open Go.RowKit
set_option linter.unusedSimpArgs false
set_option linter.unusedVariables false
/-- The first n values of a function; the bytes of a text. -/
def fl (n : Nat) (f : Nat → UInt8) : List UInt8 := (List.range n).map f
def bt (s : ByteArray) (p : Nat) : UInt8 := s.data.toList.getD p 0
theorem fl_len (n : Nat) (f : Nat → UInt8) : (fl n f).length = n := by simp [fl]
theorem fl_get (n : Nat) (f : Nat → UInt8) (p : Nat) (h : p < n) : (fl n f)[p]? = some (f p) := by rw [fl, List.getElem?_map, List.getElem?_range h]; rfl
theorem fl_congr (n : Nat) (f g : Nat → UInt8) (h : ∀ p, p < n → f p = g p) : fl n f = fl n g := by
  apply List.map_congr_left
  intro p hp
  exact h p (by simpa using hp)
theorem fl_set (n : Nat) (f : Nat → UInt8) (i : Nat) (v : UInt8) : (fl n f).set i v = fl n (fun p => if p = i then v else f p) := by
  apply List.ext_getElem?
  intro p
  rw [List.getElem?_set, fl_len]
  by_cases hp : p < n
  · rw [fl_get n _ p hp, fl_get n _ p hp]
    by_cases e : i = p
    · subst e; simp [hp]
    · rw [if_neg e, if_neg (fun h => e h.symm)]
  · rw [List.getElem?_eq_none (by rw [fl_len]; omega), List.getElem?_eq_none (by rw [fl_len]; omega)]
    split
    · rw [if_neg (by omega)]
    · rfl
theorem fl_zero (n : Nat) : fl n (fun _ => 0) = List.replicate n 0 := by
  apply List.ext_getElem?
  intro p
  by_cases hp : p < n
  · rw [fl_get n _ p hp, List.getElem?_replicate, if_pos hp]
  · rw [List.getElem?_eq_none (by rw [fl_len]; omega), List.getElem?_eq_none (by simp; omega)]
theorem bt_at (s : ByteArray) (p : Nat) (h : p < s.size) : s[p] = bt s p := by
  unfold bt
  rw [List.getD, List.getElem?_eq_getElem (by simpa using h), Option.getD_some, Array.getElem_toList]
  rfl
theorem bt_out (s : ByteArray) (p : Nat) (h : s.size ≤ p) : bt s p = 0 := by
  unfold bt
  rw [List.getD, List.getElem?_eq_none (by simpa using h)]; rfl
/-- A sum under way. -/
structure Ad (w : World) (g gt : Nat) (l : List UInt8) (b : UInt8) (wr : World) : Prop where
  a : Bk wr g (rc l) 5
  t : Bk wr gt (rc (tb b 256)) 50
  gr : w.grownBy wr (some g)
theorem Ad.step {w wr : World} {g gt : Nat} {l : List UInt8} {b : UInt8} (h : Ad w g gt l b wr) (hne : g ≠ gt) (j : Nat) (v : UInt8) : Ad w g gt (l.set j v) b (wr.setCell ⟨g, j, none⟩ (c8 v)) where
  a := by rw [← rc_set]; exact h.a.set j _
  t := h.t.grown (Lib.grownBy_setB (World.grownBy.refl _ _) j _) (by simpa using hne)
  gr := Lib.grownBy_setB h.gr j _
theorem Ad.drew {w wr : World} {g gt : Nat} {l : List UInt8} {b : UInt8} (h : Ad w g gt l b wr) : Ad w g gt l b wr.drew := ⟨h.a, h.t, h.gr.trans ⟨rfl, rfl, rfl, Nat.le_refl _, fun _ _ _ => rfl⟩⟩
set_option maxHeartbeats 1000000 in
set_option maxRecDepth 100000 in
theorem add_any (g n : Nat) (f : Nat → UInt8) (s : ByteArray) (b : UInt8) (w : World) (hB : Bk w g (rc (fl n f)) 5) (hs : s.size = n) (hn : n ≤ 4611686018427387904) :
    Calls Try.prog 20 #[.slice (some ⟨g, 0, none⟩) n n, .string s, c8 b] w fun e w' => e = .returned (.tuple #[]) ∧ Bk w' g (rc (fl n (fun p => f p ^^^ mul b (bt s p)))) 5 ∧ w.grownBy w' (some g) := by
  have HI := size_tab
  have hz := (zero_of_info info_tab).1
  have HB : Hid (Bk w g (rc (fl n f)) 5) := hB
  have hgl : g < w.heap.size := hB.lt
  clear hB
  go_enter Try.func20, Try.ntmps20
  go_wp2_with fail
  refine (multiples_any b _).mono ?_
  rintro e w1 ⟨rfl, hb1⟩
  have B1 : Hid (Below w.heap.size w w1) := hb1
  have hz1 : w.heap.size ≤ w1.heap.size := hb1.size
  clear hb1
  go_wp2_with (first
    | (refine wpList_put rfl 50 (.tmp 6) (.tmp 9) rfl w1.heap.size 0 (rc zt) (rc (tb b 256)) 50 rfl rfl (bk_new w1 (rc zt) 50) (HI _ (tb_len _ _)) (by rw [rc_size, rc_size, zt_len, tb_len]; omega) (rc_one _) ?_; intro w2 HB2 HG2 hs2))
  have HA : Hid (Ad w g w1.heap.size (fl n f) b w2) := by
    refine ⟨((HB.out.below B1.out hgl).alloc _).grown HG2.out (by simp; omega), ?_, ?_⟩
    · have := HB2.out
      rwa [putC_all _ _ (by rw [zt_len, tb_len])] at this
    · exact gr_of_below (below_own (B1.out.alloc hz1 _) (by simp; omega) HG2.out hz1) _
  clear HB2 HG2 hs2
  have hne : g ≠ w1.heap.size := by omega
  go_wp2_with fail
  go_loopw [12] (fun t wr => ∃ i : Nat, i ≤ n ∧ t = .int .i64 i ∧ Hid (Ad w g w1.heap.size (fl n (fun p => if p < i then f p ^^^ mul b (bt s p) else f p)) b wr)) (fun t _ => n - (intOf t).toNat)
  case atStart => exact ⟨0, by omega, rfl, by
    have : fl n (fun p => if p < 0 then f p ^^^ mul b (bt s p) else f p) = fl n f := fl_congr n _ _ (fun p _ => by rw [if_neg (by omega)])
    show Ad _ _ _ _ _ _
    rw [this]
    exact HA.out⟩
  case round =>
    clear HA
    obtain ⟨i, hi, rfl, HA⟩ := hrel
    by_cases hlt : i < n
    · have hiz : (i : Int) < (n : Nat) := by omega
      have his : i < s.size := by omega
      have hc1 : wr.cell? ⟨g, i, none⟩ = some (c8 (f i)) := by rw [HA.out.a.cell, rc_get, fl_get n _ i hlt, if_neg (by omega)]; rfl
      have hf1 := HA.out.a.frozen i
      have hy8 := (s[i]).toNat_lt
      have hc2 : wr.cell? ⟨w1.heap.size, s[i].toNat, none⟩ = some (c8 (mul b s[i])) := by rw [HA.out.t.cell, rc_get, tb_get b 256 _ (by omega), if_pos (by omega), UInt8.ofNat_toNat]; rfl
      have HN : Hid (Ad w g w1.heap.size (fl n (fun p => if p < i + 1 then f p ^^^ mul b (bt s p) else f p)) b (wr.drew.setCell ⟨g, i, none⟩ (c8 (f i ^^^ mul b s[i])))) := by
        have h1 := HA.out.drew.step hne i (f i ^^^ mul b s[i])
        rw [fl_set] at h1
        have e : fl n (fun p => if p < i + 1 then f p ^^^ mul b (bt s p) else f p) = fl n (fun p => if p = i then f i ^^^ mul b s[i] else if p < i then f p ^^^ mul b (bt s p) else f p) := fl_congr n _ _ (fun p hp => by
          by_cases e : p = i
          · subst e; rw [if_pos (by omega), if_pos rfl, bt_at]
          · rw [if_neg e]
            by_cases h2 : p < i
            · rw [if_pos h2, if_pos (by omega)]
            · rw [if_neg h2, if_neg (by omega)])
        show Ad _ _ _ _ _ _
        rw [e]
        exact h1
      have hx8 := (f i).toNat_lt
      have hm8 := (mul b s[i]).toNat_lt
      have HX := xor8 (f i) (mul b s[i])
      go_wp2
      go_region_with (go_at_call 27; refine (plus_any (f i) (mul b s[i]) _).mono ?_; rintro e w' ⟨rfl, rfl⟩)
      all_goals
        go_wp2
        go_roundw
        case rel => exact ⟨i + 1, by omega, by go_num, HN.out⟩
        case measure => simp [intOf]; omega
    · have hiz : ¬ (i : Int) < (n : Nat) := by omega
      have HF : Hid (Ad w g w1.heap.size (fl n (fun p => f p ^^^ mul b (bt s p))) b wr) := by
        have e : fl n (fun p => f p ^^^ mul b (bt s p)) = fl n (fun p => if p < i then f p ^^^ mul b (bt s p) else f p) := fl_congr n _ _ (fun p hp => by rw [if_pos (by omega)])
        show Ad _ _ _ _ _ _
        rw [e]
        exact HA.out
      go_wp2
      go_end0
      exact ⟨rfl, HF.out.a, HF.out.gr⟩
end Go.Proofs.Ytblmblbkfdcbjab
