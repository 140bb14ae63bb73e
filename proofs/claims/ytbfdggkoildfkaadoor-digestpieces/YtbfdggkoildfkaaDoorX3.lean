/- The walk of wire.Hex. -/
import Derived.Test.YtbfdggkoildfkaaDoorX2
import Derived.Deep.RegionHeld3
import Derived.Deep.DeepAppendRoom
import Derived.Deep.AppendLies
namespace Go.Proofs.YtbfdggkoildfkaaDoor
open Go.RowKit
set_option linter.unusedSimpArgs false
set_option linter.unusedVariables false
/-- append where there is room, onto a row of the call's own, as one step of a region that draws. -/
theorem step_append_spare {P : Program} {w : World} {ops : Array Oper} {o : Oper} {a : Act} {K : Act → World → Prop} {Q : Exit → Act → World → Prop} {E : Prop} (hgd : o.guard = none) (s x : Operand) (t : TypeId)
    (ho : o.op = .call { callee := .builtin .append, args := #[s, x], argTypes := #[t, t] })
    (base : Nat) (e : TypeId) (i : TypeInfo) (size : Nat) (ht : P.underlying t = some (.slice e)) (hi : P.info? e = some i) (hsize : i.size = size)
    (g n cap : Nat) (xs : List Value) (hs : a.eval s = .slice (some ⟨g, 0, none⟩) n cap) (hown : w.ownsRow base e size (.slice (some ⟨g, 0, none⟩) n cap) n xs)
    (ad : Addr) (m c : Nat) (news : List Value) (hx : a.eval x = .slice (some ad) m c) (hl : news.length = m * size) (hnews : ∀ j u, news[j]? = some u → w.cell? (ad.add j) = some u) (h1 : ∀ u ∈ news, u.oneCell' = true)
    (hroom : n + m ≤ cap)
    (h : ∀ w', w'.ownsRow base e size (.slice (some ⟨g, 0, none⟩) (n + m) cap) (n + m) (xs ++ news) → w.grownBy w' (some g) → K (a.put o.dst (.slice (some ⟨g, 0, none⟩) (n + m) cap)) w') :
    if Region.wanted o (yielded ops a.tmps) = true then Oper.wp P o a w K Q else E := by
  have hw : Region.wanted o (yielded ops a.tmps) = true := by simp [Region.wanted, hgd]
  rw [if_pos hw]
  exact wp_append_own_spare w s x t ho base e i size ht hi hsize g n cap xs hs hown ad m c news hx hl hnews h1 hroom h
theorem make_u8_cap (n : Nat) (hn : 2 * n ≤ 281474976710656) (u : World) : (Instr.makeSlice 47 (.int .i64 0) (.int .i64 (2 * (n : Int)))).run Tryd.prog u =
    .ok (.slice (some ⟨u.heap.size, 0, none⟩) 0 (2 * n)) (u.alloc (.cells (madeCells #[.int .u8 0] (2 * n)) 5)) := by
  obtain ⟨i0, hi, hz0, hz1, hz2⟩ := info_parts info_u8
  have h := run_make (P := Tryd.prog) u 47 5 i0 (.int .u8 0) Tryd.underlying47 hi hz0 .i64 .i64 0 (2 * (n : Int)) (by omega) (by omega) (by rw [hz2]; omega) (by omega)
  rw [show (2 * (n : Int)).toNat = 2 * n from by omega] at h
  simpa [hz1, Value.cells] using h
/-- Numbers as cells of bytes. -/
def bv (xs : List Nat) : List Value := xs.map fun x : Nat => Value.int .u8 (x : Int)
theorem bv_append (a b : List Nat) : bv (a ++ b) = bv a ++ bv b := by simp [bv]
theorem bv_length (a : List Nat) : (bv a).length = a.length := by simp [bv]
/-- A row of bytes of the call's own, as a string. -/
theorem own_conv {w : World} {base n : Nat} {v : Value} {xs : List Nat} (h : w.ownsRow base 5 1 v n (bv xs)) :
    (convert 47 9 v).run Tryd.prog w = .ok (.string (sb xs)) w := by
  obtain ⟨hl, h⟩ := h
  rcases h with ⟨rfl, rfl⟩ | ⟨g, cap, cur, rfl, _, hg, hn, _, hc, ht⟩
  · have : xs = [] := by cases xs with | nil => rfl | cons a b => simp [bv] at hl
    subst this
    exact run_convert_bytes_nil w 47 5 Tryd.underlying47 Tryd.underlying5 0 0 9 Tryd.underlying9
  · have hxl : xs.length = n := by simpa [bv] using hl
    rw [← sb_nums]
    refine run_convert_bytes_arg w 47 5 Tryd.underlying47 Tryd.underlying5 g 0 n cap _ (by simp [hxl]) (fun i hi => ?_) 9 Tryd.underlying9
    rw [Nat.zero_add, cell_of_row w g i cur 5 (0, 0) hg, List.getD, List.getElem?_map]
    have e : (cur.toList.take (n * 1))[i]? = (bv xs)[i]? := by rw [ht]
    rw [List.getElem?_take_of_lt (by omega), Array.getElem?_toList, bv, List.getElem?_map, List.getElem?_eq_getElem (by omega)] at e
    rw [e, List.getElem?_eq_getElem (by omega)]
    rfl
theorem own_drew {w : World} {base : Nat} {e : TypeId} {size n : Nat} {v : Value} {xs : List Value} (h : w.ownsRow base e size v n xs) (o : Obj) : ((w.alloc o).drew).ownsRow base e size v n xs := h.alloc o
theorem news_two (w : World) (a b : Value) (T : TypeId) : ∀ (j : Nat) (u : Value), [a, b][j]? = some u → ((w.alloc (.cells #[a, b] T)).drew).cell? ((⟨w.heap.size, 0, none⟩ : Addr).add j) = some u := by
  intro j u h
  have e : ((w.alloc (.cells #[a, b] T)).drew).cell? ((⟨w.heap.size, 0, none⟩ : Addr).add j) = (w.alloc (.cells #[a, b] T)).cell? ((⟨w.heap.size, 0, none⟩ : Addr).add j) := rfl
  rw [e, WideShapes.add_plain, Nat.zero_add, World.cell?_alloc_new]
  simpa using h
theorem one_two (a b : Int) : ∀ u ∈ [Value.int .u8 a, Value.int .u8 b], u.oneCell' = true := by
  intro u hu
  simp at hu
  rcases hu with rfl | rfl <;> rfl
theorem keep_far {wr w1 : World} {o : Obj} {g off : Nat} {v : Value} (hg : ((wr.alloc o).drew).grownBy w1 (some g)) (h0 : 1 < g) (hz : 1 < wr.heap.size) (t : wr.cell? ⟨1, off, none⟩ = some v) : w1.cell? ⟨1, off, none⟩ = some v := by
  rw [hg.cell_far ⟨1, off, none⟩ (by show 1 < (wr.alloc o).heap.size; rw [World.size_alloc]; omega) (by simp; omega)]
  show (wr.alloc o).cell? ⟨1, off, none⟩ = some v
  rw [World.cell?_alloc_past _ _ _ hz]; exact t
theorem hex_own (s : ByteArray) (k : Nat) (hk : k < s.size) {w1 : World} {base g cap : Nat} (h : w1.ownsRow base 5 1 (.slice (some ⟨g, 0, none⟩) (2 * k + 2) cap) (2 * k + 2) (bv (hexL ((bl s).take k)) ++ [.int .u8 (dg (s[k].toNat / 16) : Nat), .int .u8 (dg (s[k].toNat % 16) : Nat)])) :
    w1.ownsRow base 5 1 (.slice (some ⟨g, 0, none⟩) (2 * (k + 1)) cap) (2 * (k + 1)) (bv (hexL ((bl s).take (k + 1)))) := by
  have e : bv (hexL ((bl s).take (k + 1))) = bv (hexL ((bl s).take k)) ++ [.int .u8 (dg (s[k].toNat / 16) : Nat), .int .u8 (dg (s[k].toNat % 16) : Nat)] := by
    rw [take_snoc s k hk, hexL_append, bv_append]; rfl
  rw [e, show 2 * (k + 1) = 2 * k + 2 from by omega]
  exact h
theorem hex_size {wr w1 : World} {o : Obj} {row : Option Nat} {g : Nat} (hg : ((wr.alloc o).drew).grownBy w1 row) (hz : g < wr.heap.size) : g < w1.heap.size := by
  have h : (wr.alloc o).heap.size ≤ w1.heap.size := hg.size
  simp at h
  omega
theorem hex_below {w wr w1 : World} {o : Obj} {g : Nat} (hb : Below g w wr) (hz : g < wr.heap.size) (hg : ((wr.alloc o).drew).grownBy w1 (some g)) : Below g w w1 :=
  ((hb.alloc (by omega) o).drew).grown hg (by show g ≤ (wr.alloc o).heap.size; simp; omega) (fun k hk => by cases hk; exact Nat.le_refl _)
set_option maxHeartbeats 800000 in
set_option maxRecDepth 100000 in
theorem hex_any (s : ByteArray) (w : World) (hs : s.size ≤ 140737488351232) (hT : TabIs w) (hw : 1 < w.heap.size) :
    Calls Tryd.prog 34 #[.string s] w fun e w' => e = .returned (.string (sb (hexL (bl s)))) ∧ Below w.heap.size w w' := by
  have hmk := make_u8_cap s.size (by omega) w
  have HT : Hid (TabIs w) := hT
  clear hT
  go_enter Tryd.func34, Tryd.ntmps34
  go_wp2
  go_loopw [3, 11] (fun v i wr => ∃ k : Nat, k ≤ s.size ∧ i = .int .i64 k ∧ v = .slice (some ⟨w.heap.size, 0, none⟩) (2 * k) (2 * s.size) ∧
      wr.ownsRow w.heap.size 5 1 (.slice (some ⟨w.heap.size, 0, none⟩) (2 * k) (2 * s.size)) (2 * k) (bv (hexL ((bl s).take k))) ∧ w.heap.size < wr.heap.size ∧ Below w.heap.size w wr) (fun _ i _ => s.size - (intOf i).toNat)
  case atStart =>
    refine ⟨0, by omega, rfl, rfl, ⟨rfl, Or.inr ⟨w.heap.size, 2 * s.size, _, rfl, Nat.le_refl _, heap_alloc_new w _, by omega, by unfold maxLen; omega, ?_, rfl⟩⟩, by simp, by go_grown⟩
    rw [size_madeCells]; omega
  case round =>
    obtain ⟨k, hk, rfl, rfl, hown, hz, hbel⟩ := hrel
    by_cases hlt : k < s.size
    · have hTk := HT.out.below hbel hw
      have t1 : wr.cell? ⟨1, ((s[k].toNat : Int) / 16).toNat, none⟩ = some (.int .u8 (dg (s[k].toNat / 16) : Nat)) := by
        rw [show ((s[k].toNat : Int) / 16).toNat = s[k].toNat / 16 from by omega]; exact hTk (s[k].toNat / 16) (by have := s[k].toNat_lt; omega)
      have t2 : wr.cell? ⟨1, ((s[k].toNat : Int) % 16).toNat, none⟩ = some (.int .u8 (dg (s[k].toNat % 16) : Nat)) := by
        rw [show ((s[k].toNat : Int) % 16).toNat = s[k].toNat % 16 from by omega]; exact hTk (s[k].toNat % 16) (by have := s[k].toNat_lt; omega)
      clear hTk
      have ha : bits .and .u8 (s[k].toNat : Int) 15 = (s[k].toNat : Int) % 16 := by rw [u8_and_15 _ s[k].toNat_lt]; omega
      have b1 : (0 : Int) ≤ (s[k].toNat : Int) / 16 := by omega
      have b2 : (s[k].toNat : Int) / 16 < 16 := by have := s[k].toNat_lt; omega
      have b3 : (s[k].toNat : Int) % 16 < 16 := by omega
      have b4 : (0 : Int) ≤ (s[k].toNat : Int) % 16 := by omega
      obtain ⟨i0, hi, hz0, hz1, hz2⟩ := info_parts info_u8
      go_wp2_with fail
      go_region_held3 (fun w' => w'.cell? ⟨1, ((s[k].toNat : Int) / 16).toNat, none⟩ = some (.int .u8 (dg (s[k].toNat / 16) : Nat)) ∧ w'.cell? ⟨1, ((s[k].toNat : Int) % 16).toNat, none⟩ = some (.int .u8 (dg (s[k].toNat % 16) : Nat)))
        (first | go_keep | (exact ⟨keep_far hgrow hw (by omega) t1, keep_far hgrow hw (by omega) t2⟩))
        ((refine step_append_spare (by rfl) _ _ _ (by rfl) w.heap.size 5 i0 1 Tryd.underlying47 hi hz1 w.heap.size (2 * k) (2 * s.size) _ (by rfl) (own_drew hown _) ⟨wr.heap.size, 0, none⟩ 2 2 [.int .u8 (dg (s[k].toNat / 16) : Nat), .int .u8 (dg (s[k].toNat % 16) : Nat)] (by rfl) rfl (news_two wr _ _ _) (one_two _ _) (by omega) ?_; intro w1 hown1 hgrow))
      all_goals go_wp2
      all_goals go_roundw
      all_goals first
        | exact ⟨k + 1, by omega, by go_num, by rw [show 2 * k + 2 = 2 * (k + 1) from by omega], hex_own s k hlt hown1, hex_size hgrow hz, hex_below hbel hz hgrow⟩
        | (simp [intOf]; omega)
    · have hke : k = s.size := by omega
      subst hke
      have hc := own_conv hown
      rw [List.take_of_length_le (by rw [bl_length]; exact Nat.le_refl _)] at hc
      go_wp2
      go_ret
      exact ⟨rfl, hbel⟩
end Go.Proofs.YtbfdggkoildfkaaDoor
