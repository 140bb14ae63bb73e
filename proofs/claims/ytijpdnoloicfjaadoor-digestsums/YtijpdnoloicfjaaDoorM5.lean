import Derived.Test.YtijpdnoloicfjaaDoorM4
import Derived.Deep.RegionHeld3
import Derived.Deep.DeepAppendRoom
import Derived.Deep.AppendLies
import Derived.Test.YtijpdnoloicfjaaDoorM3
import Derived.Test.YtijpdnoloicfjaaDoorM1
import Derived.Deep.RegionWith
import Derived.Test.YtijpdnoloicfjaaDoorCards
import Derived.Test.YtijpdnoloicfjaaDoorTie
import Derived.ProofKit
import Derived.Deep.DeepHandedRow
import Derived.Lib.LaidTab
import Derived.OpenShut
import Derived.Deep.Slices
import Derived.Lib.ConvBytes
import Derived.Laws.IdiomStrings
/- The walk of wire.Hex. -/
namespace Go.Proofs.YtijpdnoloicfjaaDoor
open Go.RowKit
set_option linter.unusedSimpArgs false
set_option linter.unusedVariables false
/-- append where there is room, onto a row of the call's own, as one step of a region that draws. -/
theorem step_append_spare {P : Program} {w : World} {ops : Array Oper} {o : Oper} {a : Act} {K : Act → World → Prop} {Q : Exit → Act → World → Prop} {E : Prop} (hgd : o.guard = none) (s x : Operand) (t : TypeId)
    (ho : o.op = .call { callee := .builtin .append, args := #[s, x], argTypes := #[t, t] })
    (base : Nat) (e : TypeId) (i : TypeInfo) (size : Nat) (ht : P.underlying t = some (.slice e)) (hi : P.info? e = some i) (hsize : i.size = size)
    (g n cap : Nat) (xs : List Value) (hs : a.eval s = .slice (some ⟨g, 0, none⟩) n cap) (hown : w.ownsRow base e size (.slice (some ⟨g, 0, none⟩) n cap) n xs)
    (ad : Addr) (m c : Nat) (news : List Value) (hx : a.eval x = .slice (some ad) m c) (hl : news.length = m * size) (hnews : ∀ j u, news[j]? = some u → w.cell? (ad.add j) = some u) (h1 : ∀ u ∈ news, u.oneCell' = true)
    (hroom : n + m ≤ cap)
    (h : ∀ w', w'.ownsRow base e size (.slice (some ⟨g, 0, none⟩) (n + m) cap) (n + m) (xs ++ news) → w.grownBy w' (some g) → K (a.put o.dst (.slice (some ⟨g, 0, none⟩) (n + m) cap)) w') :
    if Region.wanted o (yielded ops a.tmps) = true then Oper.wp P o a w K Q else E := by
  have hw : Region.wanted o (yielded ops a.tmps) = true := by simp [Region.wanted, hgd]
  rw [if_pos hw]
  exact wp_append_own_spare w s x t ho base e i size ht hi hsize g n cap xs hs hown ad m c news hx hl hnews h1 hroom h
theorem make_u8_cap (n : Nat) (hn : 2 * n ≤ 281474976710656) (u : World) : (Instr.makeSlice 37 (.int .i64 0) (.int .i64 (2 * (n : Int)))).run Tryd.prog u =
    .ok (.slice (some ⟨u.heap.size, 0, none⟩) 0 (2 * n)) (u.alloc (.cells (madeCells #[.int .u8 0] (2 * n)) 5)) := by
  obtain ⟨i0, hi, hz0, hz1, hz2⟩ := info_parts info_u8
  have h := run_make (P := Tryd.prog) u 37 5 i0 (.int .u8 0) Tryd.underlying37 hi hz0 .i64 .i64 0 (2 * (n : Int)) (by omega) (by omega) (by rw [hz2]; omega) (by omega)
  rw [show (2 * (n : Int)).toNat = 2 * n from by omega] at h
  simpa [hz1, Value.cells] using h
/-- Numbers as cells of bytes. -/
def bv (xs : List Nat) : List Value := xs.map fun x : Nat => Value.int .u8 (x : Int)
theorem bv_append (a b : List Nat) : bv (a ++ b) = bv a ++ bv b := by simp [bv]
theorem bv_length (a : List Nat) : (bv a).length = a.length := by simp [bv]
/-- A row of bytes of the call's own, as a string. -/
theorem own_conv {w : World} {base n : Nat} {v : Value} {xs : List Nat} (h : w.ownsRow base 5 1 v n (bv xs)) :
    (convert 37 9 v).run Tryd.prog w = .ok (.string (sb xs)) w := by
  obtain ⟨hl, h⟩ := h
  rcases h with ⟨rfl, rfl⟩ | ⟨g, cap, cur, rfl, _, hg, hn, _, hc, ht⟩
  · have : xs = [] := by cases xs with | nil => rfl | cons a b => simp [bv] at hl
    subst this
    exact run_convert_bytes_nil w 37 5 Tryd.underlying37 Tryd.underlying5 0 0 9 Tryd.underlying9
  · have hxl : xs.length = n := by simpa [bv] using hl
    rw [← sb_nums]
    refine run_convert_bytes_arg w 37 5 Tryd.underlying37 Tryd.underlying5 g 0 n cap _ (by simp [hxl]) (fun i hi => ?_) 9 Tryd.underlying9
    rw [Nat.zero_add, cell_of_row w g i cur 5 (0, 0) hg, List.getD, List.getElem?_map]
    have e : (cur.toList.take (n * 1))[i]? = (bv xs)[i]? := by rw [ht]
    rw [List.getElem?_take_of_lt (by omega), Array.getElem?_toList, bv, List.getElem?_map, List.getElem?_eq_getElem (by omega)] at e
    rw [e, List.getElem?_eq_getElem (by omega)]
    rfl
theorem own_drew {w : World} {base : Nat} {e : TypeId} {size n : Nat} {v : Value} {xs : List Value} (h : w.ownsRow base e size v n xs) (o : Obj) : ((w.alloc o).drew).ownsRow base e size v n xs := h.alloc o
theorem news_two (w : World) (a b : Value) (T : TypeId) : ∀ (j : Nat) (u : Value), [a, b][j]? = some u → ((w.alloc (.cells #[a, b] T)).drew).cell? ((⟨w.heap.size, 0, none⟩ : Addr).add j) = some u := by
  intro j u h
  have e : ((w.alloc (.cells #[a, b] T)).drew).cell? ((⟨w.heap.size, 0, none⟩ : Addr).add j) = (w.alloc (.cells #[a, b] T)).cell? ((⟨w.heap.size, 0, none⟩ : Addr).add j) := rfl
  rw [e, WideShapes.add_plain, Nat.zero_add, World.cell?_alloc_new]
  simpa using h
theorem one_two (a b : Int) : ∀ u ∈ [Value.int .u8 a, Value.int .u8 b], u.oneCell' = true := by
  intro u hu
  simp at hu
  rcases hu with rfl | rfl <;> rfl
theorem keep_far {wr w1 : World} {o : Obj} {g off : Nat} {v : Value} (hg : ((wr.alloc o).drew).grownBy w1 (some g)) (h0 : 1 < g) (hz : 1 < wr.heap.size) (t : wr.cell? ⟨1, off, none⟩ = some v) : w1.cell? ⟨1, off, none⟩ = some v := by
  rw [hg.cell_far ⟨1, off, none⟩ (by show 1 < (wr.alloc o).heap.size; rw [World.size_alloc]; omega) (by simp; omega)]
  show (wr.alloc o).cell? ⟨1, off, none⟩ = some v
  rw [World.cell?_alloc_past _ _ _ hz]; exact t
theorem hex_own (s : ByteArray) (k : Nat) (hk : k < s.size) {w1 : World} {base g cap : Nat} (h : w1.ownsRow base 5 1 (.slice (some ⟨g, 0, none⟩) (2 * k + 2) cap) (2 * k + 2) (bv (hexL ((bl s).take k)) ++ [.int .u8 (dg (s[k].toNat / 16) : Nat), .int .u8 (dg (s[k].toNat % 16) : Nat)])) :
    w1.ownsRow base 5 1 (.slice (some ⟨g, 0, none⟩) (2 * (k + 1)) cap) (2 * (k + 1)) (bv (hexL ((bl s).take (k + 1)))) := by
  have e : bv (hexL ((bl s).take (k + 1))) = bv (hexL ((bl s).take k)) ++ [.int .u8 (dg (s[k].toNat / 16) : Nat), .int .u8 (dg (s[k].toNat % 16) : Nat)] := by
    rw [take_snoc s k hk, hexL_append, bv_append]; rfl
  rw [e, show 2 * (k + 1) = 2 * k + 2 from by omega]
  exact h
theorem hex_size {wr w1 : World} {o : Obj} {row : Option Nat} {g : Nat} (hg : ((wr.alloc o).drew).grownBy w1 row) (hz : g < wr.heap.size) : g < w1.heap.size := by
  have h : (wr.alloc o).heap.size ≤ w1.heap.size := hg.size
  simp at h
  omega
theorem hex_below {w wr w1 : World} {o : Obj} {g : Nat} (hb : Below g w wr) (hz : g < wr.heap.size) (hg : ((wr.alloc o).drew).grownBy w1 (some g)) : Below g w w1 :=
  ((hb.alloc (by omega) o).drew).grown hg (by show g ≤ (wr.alloc o).heap.size; simp; omega) (fun k hk => by cases hk; exact Nat.le_refl _)
set_option maxHeartbeats 800000 in
set_option maxRecDepth 100000 in
theorem hex_any (s : ByteArray) (w : World) (hs : s.size ≤ 140737488351232) (hT : TabIs w) (hw : 1 < w.heap.size) :
    Calls Tryd.prog 27 #[.string s] w fun e w' => e = .returned (.string (sb (hexL (bl s)))) ∧ Below w.heap.size w w' := by
  have hmk := make_u8_cap s.size (by omega) w
  have HT : Hid (TabIs w) := hT
  clear hT
  go_enter Tryd.func27, Tryd.ntmps27
  go_wp2
  go_loopw [3, 11] (fun v i wr => ∃ k : Nat, k ≤ s.size ∧ i = .int .i64 k ∧ v = .slice (some ⟨w.heap.size, 0, none⟩) (2 * k) (2 * s.size) ∧
      wr.ownsRow w.heap.size 5 1 (.slice (some ⟨w.heap.size, 0, none⟩) (2 * k) (2 * s.size)) (2 * k) (bv (hexL ((bl s).take k))) ∧ w.heap.size < wr.heap.size ∧ Below w.heap.size w wr) (fun _ i _ => s.size - (intOf i).toNat)
  case atStart =>
    refine ⟨0, by omega, rfl, rfl, ⟨rfl, Or.inr ⟨w.heap.size, 2 * s.size, _, rfl, Nat.le_refl _, heap_alloc_new w _, by omega, by unfold maxLen; omega, ?_, rfl⟩⟩, by simp, by go_grown⟩
    rw [size_madeCells]; omega
  case round =>
    obtain ⟨k, hk, rfl, rfl, hown, hz, hbel⟩ := hrel
    by_cases hlt : k < s.size
    · have hTk := HT.out.below hbel hw
      have t1 : wr.cell? ⟨1, ((s[k].toNat : Int) / 16).toNat, none⟩ = some (.int .u8 (dg (s[k].toNat / 16) : Nat)) := by
        rw [show ((s[k].toNat : Int) / 16).toNat = s[k].toNat / 16 from by omega]; exact hTk (s[k].toNat / 16) (by have := s[k].toNat_lt; omega)
      have t2 : wr.cell? ⟨1, ((s[k].toNat : Int) % 16).toNat, none⟩ = some (.int .u8 (dg (s[k].toNat % 16) : Nat)) := by
        rw [show ((s[k].toNat : Int) % 16).toNat = s[k].toNat % 16 from by omega]; exact hTk (s[k].toNat % 16) (by have := s[k].toNat_lt; omega)
      clear hTk
      have ha : bits .and .u8 (s[k].toNat : Int) 15 = (s[k].toNat : Int) % 16 := by rw [u8_and_15 _ s[k].toNat_lt]; omega
      have b1 : (0 : Int) ≤ (s[k].toNat : Int) / 16 := by omega
      have b2 : (s[k].toNat : Int) / 16 < 16 := by have := s[k].toNat_lt; omega
      have b3 : (s[k].toNat : Int) % 16 < 16 := by omega
      have b4 : (0 : Int) ≤ (s[k].toNat : Int) % 16 := by omega
      obtain ⟨i0, hi, hz0, hz1, hz2⟩ := info_parts info_u8
      go_wp2_with fail
      go_region_held3 (fun w' => w'.cell? ⟨1, ((s[k].toNat : Int) / 16).toNat, none⟩ = some (.int .u8 (dg (s[k].toNat / 16) : Nat)) ∧ w'.cell? ⟨1, ((s[k].toNat : Int) % 16).toNat, none⟩ = some (.int .u8 (dg (s[k].toNat % 16) : Nat)))
        (first | go_keep | (exact ⟨keep_far hgrow hw (by omega) t1, keep_far hgrow hw (by omega) t2⟩))
        ((refine step_append_spare (by rfl) _ _ _ (by rfl) w.heap.size 5 i0 1 Tryd.underlying37 hi hz1 w.heap.size (2 * k) (2 * s.size) _ (by rfl) (own_drew hown _) ⟨wr.heap.size, 0, none⟩ 2 2 [.int .u8 (dg (s[k].toNat / 16) : Nat), .int .u8 (dg (s[k].toNat % 16) : Nat)] (by rfl) rfl (news_two wr _ _ _) (one_two _ _) (by omega) ?_; intro w1 hown1 hgrow))
      all_goals go_wp2
      all_goals go_roundw
      all_goals first
        | exact ⟨k + 1, by omega, by go_num, by rw [show 2 * k + 2 = 2 * (k + 1) from by omega], hex_own s k hlt hown1, hex_size hgrow hz, hex_below hbel hz hgrow⟩
        | (simp [intOf]; omega)
    · have hke : k = s.size := by omega
      subst hke
      have hc := own_conv hown
      rw [List.take_of_length_le (by rw [bl_length]; exact Nat.le_refl _)] at hc
      go_wp2
      go_ret
      exact ⟨rfl, hbel⟩
end Go.Proofs.YtijpdnoloicfjaaDoor
/- Plain facts: a short number's bytes, one after another. -/
namespace Go.Proofs.YtijpdnoloicfjaaDoor
set_option linter.unusedSimpArgs false
set_option linter.unusedVariables false
open Go
theorem encS_small (n : Nat) (h : n < 128) : encS n = [n] := by
  have e : slen n = 1 := by
    have h1 := slen_pos n
    rcases Nat.lt_or_ge 1 (slen n) with g | g
    · have h2 := slen_lo n (by omega) g
      have h3 : 128 ^ 1 ≤ 128 ^ (slen n - 1) := Nat.pow_le_pow_right (by omega) (by omega)
      omega
    · omega
  unfold encS; rw [e]; rfl
theorem encS_step (n : Nat) (h : 128 ≤ n) (hn : n < 2 ^ 64) : encS n = (n % 128 + 128) :: encS (n / 128) := by
  have a1 := slen_pos n
  have a2 := slen_hi n hn
  have q1 := slen_pos (n / 128)
  have q2 := slen_hi (n / 128) (by omega)
  have g : 1 < slen n := by
    rcases Nat.lt_or_ge 1 (slen n) with g | g
    · exact g
    · have : slen n = 1 := by omega
      rw [this] at a2; omega
  have a3 := slen_lo n hn g
  have e : slen n = slen (n / 128) + 1 := by
    rcases Nat.lt_trichotomy (slen n) (slen (n / 128) + 1) with c | c | c
    · have q3 := slen_lo (n / 128) (by omega) (by omega)
      have x1 : 128 ^ (slen n - 1) ≤ 128 ^ (slen (n / 128) - 1) := Nat.pow_le_pow_right (by omega) (by omega)
      have x2 : 128 ^ slen n = 128 ^ (slen n - 1) * 128 := by rw [← Nat.pow_succ]; congr 1; omega
      omega
    · exact c
    · have x1 : 128 ^ slen (n / 128) ≤ 128 ^ (slen n - 2) := Nat.pow_le_pow_right (by omega) (by omega)
      have x2 : 128 ^ (slen n - 1) = 128 ^ (slen n - 2) * 128 := by rw [← Nat.pow_succ]; congr 1; omega
      omega
  unfold encS
  rw [e, show slen (n / 128) + 1 - 1 = (slen (n / 128) - 1) + 1 from by omega, encN]
end Go.Proofs.YtijpdnoloicfjaaDoor
/- The document's own fits, and a byte as a string. -/
namespace Go.Proofs.YtijpdnoloicfjaaDoor
open Go.RowKit
set_option linter.unusedSimpArgs false
set_option linter.unusedVariables false
/-- One byte, as a slice of its own, as a string. -/
theorem conv1 (w : World) (v : Int) : (convert 37 9 (.slice (some ⟨w.heap.size, 0, none⟩) 1 1)).run Tryd.prog (w.alloc (.cells #[.int .u8 v] 5)) = .ok (.string (strOfNums [v])) (w.alloc (.cells #[.int .u8 v] 5)) :=
  run_convert_bytes_arg _ 37 5 Tryd.underlying37 Tryd.underlying5 _ 0 1 1 [v] rfl (fun i hi => by
    have : i = 0 := by omega
    subst this
    rw [World.cell?_alloc_new]; rfl) 9 Tryd.underlying9
theorem one_size (v : Int) : (strOfNums [v]).size = 1 := strOfNums_size _
theorem one_is (n : Nat) (v : Int) (h : v = n) : strOfNums [v] = sb [n] := by rw [h]; exact sb_nums [n]
/-- Whether a number fits a width of 1 to 8 bytes. -/
def fitB (n d : Nat) : Bool := decide (n < 256 ^ d)
theorem fitB_yes {n d : Nat} (h : n < 256 ^ d) : fitB n d = true := decide_eq_true h
theorem fitB_no {n d : Nat} (h : 256 ^ d ≤ n) : fitB n d = false := decide_eq_false (by omega)
set_option maxHeartbeats 400000 in
theorem fits_any (n d : Nat) (w : World) (hn : n < 18446744073709551616) (hd1 : 1 ≤ d) (hd2 : d ≤ 8) :
    Calls Tryd.prog 46 #[.int .u64 n, .int .i64 d] w fun e w' => e = .returned (.bool (fitB n d)) ∧ w' = w := by
  have hb : (fitB n d = true ∧ n < 256 ^ d) ∨ (fitB n d = false ∧ 256 ^ d ≤ n) := by
    rcases Nat.lt_or_ge n (256 ^ d) with h | h
    · exact Or.inl ⟨fitB_yes h, h⟩
    · exact Or.inr ⟨fitB_no h, h⟩
  have h8 : d = 1 ∨ d = 2 ∨ d = 3 ∨ d = 4 ∨ d = 5 ∨ d = 6 ∨ d = 7 ∨ d = 8 := by omega
  rcases h8 with h | h | h | h | h | h | h | h
  all_goals subst h
  all_goals rcases hb with ⟨e, h⟩ | ⟨e, h⟩
  all_goals rw [e]
  all_goals clear e
  all_goals simp only [Nat.reducePow] at h
  all_goals first
    | (exfalso; omega)
    | (go_enter Tryd.func46, Tryd.ntmps46
       go_wp2
       go_ret
       refine ⟨ret_bool ?_, rfl⟩
       first | (simp; done) | (simp; omega))
end Go.Proofs.YtijpdnoloicfjaaDoor
/- The walk of the document's own PutFixed (munimentref01). -/
namespace Go.Proofs.YtijpdnoloicfjaaDoor
open Go.RowKit
set_option linter.unusedSimpArgs false
set_option linter.unusedVariables false
set_option maxHeartbeats 400000 in
theorem rputFixed_no (s : ByteArray) (x d : Int) (w : World) (h0 : 0 ≤ x) (h1 : x ≤ 18446744073709551615) (hno : isW d = true → 256 ^ d.toNat ≤ x.toNat) :
    Calls Tryd.prog 43 #[.string s, .int .u64 x, .int .i64 d] w fun e w' => e = .returned (.tuple #[.string ⟨#[]⟩, .int .i64 1]) ∧ w' = w := by
  have H : Hid (isW d = true → 256 ^ d.toNat ≤ x.toNat) := hno
  clear hno
  by_cases h3 : d < 1
  · clear H
    go_enter Tryd.func43, Tryd.ntmps43
    go_wp2
    go_ret2
    exact ⟨rfl, rfl⟩
  · by_cases h4 : 8 < d
    · clear H
      go_enter Tryd.func43, Tryd.ntmps43
      go_wp2
      go_ret2
      exact ⟨rfl, rfl⟩
    · obtain ⟨m, rfl⟩ := Int.eq_ofNat_of_zero_le (show 0 ≤ d by omega)
      obtain ⟨n, rfl⟩ := Int.eq_ofNat_of_zero_le h0
      have hf : fitB n m = false := fitB_no (by simpa using H.out (isW_yes (by omega) (by omega)))
      clear H
      have h5 : (1 : Int) ≤ m := by omega
      go_enter Tryd.func43, Tryd.ntmps43
      go_wp2_with (go_at_call 46; refine (fits_any n m _ (by omega) (by omega) (by omega)).mono ?_; rintro e w' ⟨rfl, rfl⟩; rw [hf])
      go_ret2
      exact ⟨rfl, rfl⟩
theorem fix_more (s a : ByteArray) (n d k : Nat) (h : a = s ++ sb ((fixN d n).take k)) (hk : k < d) :
    a ++ strOfNums [(n : Int) / 2 ^ (8 * (d - 1 - k)) % 256] = s ++ sb ((fixN d n).take (k + 1)) := by
  have e1 : ((n : Int) / 2 ^ (8 * (d - 1 - k)) % 256) = ((n / 256 ^ (d - 1 - k) % 256 : Nat) : Int) := by
    rw [pow256]; rfl
  have e2 := fixN_get d n (d - 1 - k) (by omega)
  rw [show d - 1 - (d - 1 - k) = k from by omega] at e2
  have hl : k < (fixN d n).length := by rw [fixN_length]; exact hk
  have e3 : (fixN d n).take (k + 1) = (fixN d n).take k ++ [n / 256 ^ (d - 1 - k) % 256] := by
    rw [List.take_succ_eq_append_getElem hl]
    rw [List.getElem?_eq_getElem hl] at e2
    simp only [Option.some.injEq] at e2
    rw [e2]
  rw [one_is _ _ e1, e3, h]
  apply bl_inj
  simp [bl_append, bl_sb, by8]
set_option maxHeartbeats 400000 in
set_option maxRecDepth 100000 in
theorem rputFixed_ok (s : ByteArray) (n : Nat) (d : Nat) (w : World) (hn : n < 18446744073709551616) (hd1 : 1 ≤ d) (hd2 : d ≤ 8) (hfit : n < 256 ^ d) (hs : s.size ≤ 4611686018427387904) :
    Calls Tryd.prog 43 #[.string s, .int .u64 n, .int .i64 d] w fun e w' => e = .returned (.tuple #[.string (s ++ sb (fixN d n)), .int .i64 0]) ∧ Below w.heap.size w w' := by
  have hf : fitB n d = true := fitB_yes hfit
  clear hfit
  have hc1 := conv1
  have hz1 := one_size
  have e1 : ¬ ((d : Int) < 1) := by omega
  have e2 : ¬ ((8 : Int) < d) := by omega
  go_enter Tryd.func43, Tryd.ntmps43
  go_wp2_with (go_at_call 46; refine (fits_any n d _ hn hd1 hd2).mono ?_; rintro e w' ⟨rfl, rfl⟩; rw [hf])
  go_loopw [0, 8] (fun v i wr => ∃ (k : Nat) (a : ByteArray), k ≤ d ∧ i = .int .i64 ((d : Int) - 1 - k) ∧ v = .string a ∧ a.size = s.size + k ∧ Hid (a = s ++ sb ((fixN d n).take k)) ∧ Below w'.heap.size w' wr) (fun _ i _ => (intOf i + 1).toNat)
  case atStart => exact ⟨0, s, by omega, by go_num, rfl, rfl, by show s = _; apply bl_inj; rw [bl_append]; simp [bl_sb, by8], Below.refl _ _⟩
  case round =>
    obtain ⟨k, a, hk, rfl, rfl, haz, HE, hbel⟩ := hrel
    have hb0 := hbel.size
    have hab : a.size ≤ 4611686018427387914 := by omega
    have HZ : Hid (a.size = s.size + k) := haz
    clear haz
    by_cases hlt : k < d
    · go_wp2
      go_roundw
      case rel => exact ⟨k + 1, _, by omega, by go_num, rfl, by rw [append_size, one_size]; have := HZ.out; omega, fix_more s a n d k HE.out hlt, hbel.alloc hb0 _⟩
      case measure => simp [intOf]; omega
    · go_wp2
      go_ret2
      have hkd : k = d := by omega
      refine ⟨ret_se ?_, hbel⟩
      rw [HE.out, hkd, List.take_of_length_le (by rw [fixN_length]; exact Nat.le_refl _)]
end Go.Proofs.YtijpdnoloicfjaaDoor
/- Plain facts: two sums. -/
namespace Go.Proofs.YtijpdnoloicfjaaDoor
set_option linter.unusedSimpArgs false
set_option linter.unusedVariables false
/-- The sum, reckoned with its numbers handed on. -/
def rdsL : List (BitVec 32) → List (BitVec 32) → V8 → V8
  | k :: ks, w :: ws, v => rdsL ks ws (v.rnd k w)
  | _, _, v => v
theorem rds_L (m : List Nat) (v : V8) : ∀ n t, n + t = 64 → rdsL (KL.drop t) ((sch m 64).drop t) (rds m v t) = rds m v 64
  | 0, t, h => by
    have : t = 64 := by omega
    subst this
    rw [show KL.drop 64 = [] from rfl]; rfl
  | n + 1, t, h => by
    have hk : KL.drop t = KT t :: KL.drop (t + 1) := by
      have hl : t < KL.length := by show t < 64; omega
      rw [List.drop_eq_getElem_cons hl]
      simp [KT, List.getD, hl]
    have hw : (sch m 64).drop t = wt m t :: (sch m 64).drop (t + 1) := by
      have hl : t < (sch m 64).length := by rw [sch_length]; omega
      rw [List.drop_eq_getElem_cons hl]
      simp [wt, List.getD, hl]
    rw [hk, hw, rdsL]
    exact rds_L m v n (t + 1) (by omega)
def compL (m : List Nat) (v : V8) : V8 := v.add (rdsL KL (sch m 64) v)
theorem comp_L (m : List Nat) (v : V8) : comp m v = compL m v := by
  have := rds_L m v 64 0 rfl
  simp only [List.drop_zero] at this
  rw [comp, compL, ← this]; rfl
theorem sha_one (m : List Nat) (h : (padded m).length / 64 = 1) : sha m = outB (compL (blk (padded m) 0) H0) := by
  rw [sha, shaV, h, hs, comp_L]; rfl
theorem sha_abc : sha [97, 98, 99] = [186, 120, 22, 191, 143, 1, 207, 234, 65, 65, 64, 222, 93, 174, 34, 35, 176, 3, 97, 163, 150, 23, 122, 156, 180, 16, 255, 97, 242, 0, 21, 173] := by
  rw [sha_one _ (by decide)]
  decide +kernel
theorem sha_nil : sha [] = [227, 176, 196, 66, 152, 252, 28, 20, 154, 251, 244, 200, 153, 111, 185, 36, 39, 174, 65, 228, 100, 155, 147, 76, 164, 149, 153, 27, 120, 82, 184, 85] := by
  rw [sha_one _ (by decide)]
  decide +kernel
end Go.Proofs.YtijpdnoloicfjaaDoor
/- digest.Text, digest.Of, the document's own Fixed and Whole, the law's awake. -/
namespace Go.Proofs.YtijpdnoloicfjaaDoor
open Go.RowKit
set_option linter.unusedSimpArgs false
set_option linter.unusedVariables false
/-- A name's cells, of its 32 bytes. -/
def idc (s : ByteArray) : Array Value := (bvc (byl s)).toArray
theorem idc_size (s : ByteArray) : (idc s).size = s.size := by simp [idc, bvc, byl_length]
theorem shc_idc (m : List Nat) : shc m = idc (sb (sha m)) := by
  have h := byl_sb (sha m) (outB_lt _)
  rw [idc, h]; rfl
theorem byl_getD (s : ByteArray) (i : Nat) (h : i < s.size) : (byl s)[i]? = some (s[i].toNat) := by
  simp only [byl, List.getElem?_map]
  rw [List.getElem?_eq_getElem (by simpa using h)]
  rfl
theorem idc_get (s : ByteArray) (i : Nat) (h : i < s.size) : (idc s)[i]? = some (.int .u8 (s[i].toNat : Int)) := by
  rw [idc, List.getElem?_toArray, bvc, List.getElem?_map, byl_getD s i h]; rfl
/-- All the listed variables. -/
structure All (w : World) : Prop where
  l : Lst w
  t : TabIs w
theorem All.lt {w : World} (H : All w) : 2 < w.heap.size := H.l.lt
theorem All.grown {w w' : World} {r : Option Nat} (H : All w) (hg : w.grownBy w' r) (hr : ∀ j, r = some j → 2 < j) : All w' :=
  ⟨H.l.grown hg hr, fun v hv => hg.cell (H.t v hv) (fun e => by have := hr _ e.symm; simp at this)⟩
theorem All.below {w w' : World} (H : All w) (hb : Below w.heap.size w w') : All w' := H.grown (grown_of_below hb none) (by simp)
theorem All.alloc {w : World} (H : All w) (o : Obj) : All (w.alloc o) := H.grown (World.grownBy_alloc w o none) (by simp)
theorem slice32 (g : Nat) (w : World) : (Instr.sliceAt 23 (.pointer (some ⟨g, 0, none⟩)) none none none).run Tryd.prog w = .ok (.slice (some ⟨g, 0, none⟩) 32 32) w := by
  have e1 : Tryd.prog.elem 23 = 5 := by kernel_rfl
  have e2 : Tryd.prog.arrayLen 23 = 32 := by kernel_rfl
  have e0 : Tryd.prog.underlying 23 = some (.array (Tryd.prog.arrayLen 23) (Tryd.prog.elem 23)) := by kernel_rfl
  rw [run_sliceAt_array_all (P := Tryd.prog) w 23 ⟨g, 0, none⟩ e0]
  rw [e1, e2, sizeOf_u8']
  simp [slicedAt, Result.andThen, Addr.add]
theorem conv32 (s : ByteArray) (g : Nat) (T : TypeId) (w : World) (hs : s.size = 32) (hB : Blk w g (idc s) T) :
    (convert 37 9 (.slice (some ⟨g, 0, none⟩) 32 32)).run Tryd.prog w = .ok (.string s) w := by
  have h := run_convert_bytes_arg w 37 5 Tryd.underlying37 Tryd.underlying5 g 0 32 32 ((byl s).map Int.ofNat) (by simp [byl_length, hs]) (fun i hi => by
    rw [Nat.zero_add, hB.cell, idc_get s i (by omega), List.getD, List.getElem?_map, byl_getD s i (by omega)]; rfl) 9 Tryd.underlying9
  rw [sb_nums, sb_byl] at h
  exact h
set_option maxHeartbeats 400000 in
set_option maxRecDepth 100000 in
theorem text_any (s : ByteArray) (w : World) (hs : s.size = 32) (hA : All w) :
    Calls Tryd.prog 11 #[.agg (idc s)] w fun e w' => e = .returned (.string (sb (hexL (bl s)))) ∧ Below w.heap.size w w' := by
  have HA : Hid (All w) := hA
  have hlt := hA.lt
  have h1 := slice32 w.heap.size
  have h2 := conv32 s w.heap.size 23 (w.alloc (.cells (idc s) 23)) hs (blk_new _ _)
  clear hA
  go_enter Tryd.func11, Tryd.ntmps11
  go_wp2_with (go_at_call 27; refine (hex_any s _ (by omega) (HA.out.alloc _).t (by rw [alloc_size]; omega)).mono ?_; rintro e w1 ⟨rfl, hb1⟩)
  go_ret
  exact ⟨rfl, ((Below.refl _ _).alloc (Nat.le_refl _) _).trans (hb1.mono (by rw [alloc_size]; omega))⟩
set_option maxHeartbeats 400000 in
theorem rfixed_any (n : Nat) (w : World) (hn : n < 18446744073709551616) :
    Calls Tryd.prog 34 #[.int .u64 (n : Int), .int .i64 8] w fun e w' => e = .returned (.string ((⟨#[]⟩ : ByteArray) ++ sb (fixN 8 n))) ∧ Below w.heap.size w w' := by
  go_enter Tryd.func34, Tryd.ntmps34
  go_wp2_with (go_at_call 43; refine (rputFixed_ok ⟨#[]⟩ n 8 _ hn (by omega) (by omega) (by omega) (by decide)).mono ?_; rintro e w1 ⟨rfl, hb1⟩)
  go_ret
  exact ⟨rfl, hb1⟩
/-- What an object's name is the sum of. -/
def whl (k : Nat) (p : ByteArray) : List Nat := k :: (fixN 8 p.size ++ byl p)
theorem conv_any (w : World) (g : Nat) (v : Int) (h : w.cell? ⟨g, 0, none⟩ = some (.int .u8 v)) : (convert 37 9 (.slice (some ⟨g, 0, none⟩) 1 1)).run Tryd.prog w = .ok (.string (strOfNums [v])) w :=
  run_convert_bytes_arg _ 37 5 Tryd.underlying37 Tryd.underlying5 _ 0 1 1 [v] rfl (fun i hi => by
    have : i = 0 := by omega
    subst this
    exact h) 9 Tryd.underlying9
theorem sb_append (a b : List Nat) : sb (a ++ b) = sb a ++ sb b := by
  apply bl_inj
  rw [bl_append, bl_sb, bl_sb, bl_sb, by8, by8, by8, List.map_append]
theorem whole_eq (k : Nat) (p : ByteArray) (hk : k < 256) : strOfNums [(k : Int)] ++ ((⟨#[]⟩ : ByteArray) ++ sb (fixN 8 p.size)) ++ p = sb (whl k p) := by
  rw [show ((⟨#[]⟩ : ByteArray) ++ sb (fixN 8 p.size)) = sb (fixN 8 p.size) from ByteArray.empty_append, one_is k k rfl]
  have : whl k p = [k] ++ fixN 8 p.size ++ byl p := by simp [whl]
  rw [this, sb_append, sb_append, sb_byl]
theorem wrap64s (n : Nat) (h : n < 18446744073709551616) : IntKind.u64.wrap (n : Int) = (n : Int) := by
  simp [IntKind.wrap, IntKind.bits, IntKind.signed]
  omega
set_option maxHeartbeats 400000 in
set_option maxRecDepth 100000 in
theorem whole_any (k : Nat) (p : ByteArray) (w : World) (hk : k < 256) (hp : p.size ≤ 2000) :
    Calls Tryd.prog 26 #[.int .u8 (k : Int), .string p] w fun e w' => e = .returned (.string (sb (whl k p))) ∧ Below w.heap.size w w' := by
  have c1 := fun w => conv1 w (k : Int)
  have c2 := fun (W : World) (h : W.cell? ⟨w.heap.size, 0, none⟩ = some (.int .u8 (k : Int))) => conv_any W w.heap.size (k : Int) h
  have c3 := conv_any (w.alloc (.cells #[.int .u8 (k : Int)] 5)).drew w.heap.size (k : Int) (by show (w.alloc (.cells #[.int .u8 (k : Int)] 5)).cell? _ = _; rw [World.cell?_alloc_new]; rfl)
  have hz := one_size (k : Int)
  have hwr : IntKind.u64.wrap (p.size : Int) = (p.size : Int) := wrap64s _ (by omega)
  have hl8 := lenstr p.size
  go_enter Tryd.func26, Tryd.ntmps26
  go_wp2
  go_region_with (go_at_call 34; refine (rfixed_any p.size _ (by omega)).mono ?_; rintro e w1 ⟨rfl, hb1⟩; obtain ⟨hc, hf⟩ := bcellD hb1)
  all_goals go_wp2
  all_goals go_ret
  all_goals refine ⟨ret_str (whole_eq k p hk), ?_⟩
  all_goals first
    | exact (((Below.refl _ _).alloc (Nat.le_refl _) _).drew).trans (hb1.mono (by show w.heap.size ≤ (w.alloc _).heap.size; rw [alloc_size]; omega))
    | exact (((Below.refl _ _).drew).trans hb1).alloc hb1.size _
theorem conv1s (w : World) (o : Obj) (v : Int) : (convert 37 9 (.slice (some ⟨w.heap.size + 1, 0, none⟩) 1 1)).run Tryd.prog ((w.alloc o).alloc (.cells #[.int .u8 v] 5)) = .ok (.string (strOfNums [v])) ((w.alloc o).alloc (.cells #[.int .u8 v] 5)) := by
  have h := conv1 (w.alloc o) v
  rwa [alloc_size] at h
theorem pre_eq (k : Nat) (n : Nat) : strOfNums [(k : Int)] ++ sb (fixN 8 n) = sb (k :: fixN 8 n) := by
  rw [one_is k k rfl, ← sb_append]; rfl
theorem byl_pre (k n : Nat) (hk : k < 256) : byl (sb (k :: fixN 8 n)) = k :: fixN 8 n := byl_sb _ (by
  intro x hx
  simp only [List.mem_cons] at hx
  rcases hx with rfl | hx
  · exact hk
  · exact fixN_lt _ _ x hx)
end Go.Proofs.YtijpdnoloicfjaaDoor
/- The three listed tables: what the rows' list gives, and a world for the witness that holds them. -/
namespace Go.Proofs.YtijpdnoloicfjaaDoor
open Go.ChangeShapes Go.WideShapes Go.ChangeAt Go.RowKit
set_option linter.unusedSimpArgs false
set_option linter.unusedVariables false
theorem own : ownKnob Tryd.prog.godebug = none := by kernel_rfl
theorem laidOut : laidOutB Tryd.prog = true := by kernel_rfl
def tab16 : List Int := [48, 49, 50, 51, 52, 53, 54, 55, 56, 57, 97, 98, 99, 100, 101, 102]
def tab8 : List Int := [1779033703, 3144134277, 1013904242, 2773480762, 1359893119, 2600822924, 528734635, 1541459225]
def tab64 : List Int := [1116352408, 1899447441, 3049323471, 3921009573, 961987163, 1508970993, 2453635748, 2870763221, 3624381080, 310598401, 607225278, 1426881987, 1925078388, 2162078206, 2614888103, 3248222580, 3835390401, 4022224774, 264347078, 604807628, 770255983, 1249150122, 1555081692, 1996064986, 2554220882, 2821834349, 2952996808, 3210313671, 3336571891, 3584528711, 113926993, 338241895, 666307205, 773529912, 1294757372, 1396182291, 1695183700, 1986661051, 2177026350, 2456956037, 2730485921, 2820302411, 3259730800, 3345764771, 3516065817, 3600352804, 4094571909, 275423344, 430227734, 506948616, 659060556, 883997877, 958139571, 1322822218, 1537002063, 1747873779, 1955562222, 2024104815, 2227730452, 2361852424, 2428436474, 2756734187, 3204031479, 3329325298]
theorem gD : Tryd.prog.globalNamed "muniment/wire.digits" = some 1 := by kernel_rfl
theorem gH : Tryd.prog.globalNamed "muniment/digest.firstNumbers" = some 0 := by kernel_rfl
theorem gK : Tryd.prog.globalNamed "muniment/digest.constants" = some 2 := by kernel_rfl
theorem tD : (Tryd.prog.globals[1]?).map (·.type) = some 68 := by kernel_rfl
theorem tH : (Tryd.prog.globals[0]?).map (·.type) = some 39 := by kernel_rfl
theorem tK : (Tryd.prog.globals[2]?).map (·.type) = some 49 := by kernel_rfl
theorem cD : Tryd.prog.cellsOf 68 = 16 := by kernel_rfl
theorem cH : Tryd.prog.cellsOf 39 = 8 := by kernel_rfl
theorem cK : Tryd.prog.cellsOf 49 = 64 := by kernel_rfl
theorem c8 : Tryd.prog.cellsOf 5 = 1 := by kernel_rfl
theorem c32' : Tryd.prog.cellsOf 38 = 1 := by kernel_rfl
theorem laid_next {P : Program} {W : World} {name : String} {k : IntKind} {zs : List Int} {rest : List (String × DataW Unit)} {g : Nat} {t e : TypeId} {n : Nat} {ps : List MemPlace}
    (hg : P.globalNamed name = some g) (hty : (P.globals[g]?).map (·.type) = some t) (ht : P.underlying t = some (.array n e)) (he : P.underlying e = some (.int k)) (hce : P.cellsOf e = 1) (hct : P.cellsOf t = n)
    (h : DataW.LaidVars P W ((name, Lib.tabData k zs) :: rest) ps) : Lib.TabIs P W name k zs ∧ ∃ qs, DataW.LaidVars P W rest qs := by
  obtain ⟨g', t', cs, fuel, p, q, hg', ht', hvar, hd, hr, _⟩ := h
  obtain rfl := Option.some.inj (hg.symm.trans hg')
  obtain rfl := Option.some.inj (hty.symm.trans ht')
  refine ⟨?_, q, hr⟩
  unfold Lib.TabIs
  rw [hvar, ← Lib.cells_of_tab ht he hce hct hd]
theorem laid_all {W : World} (h : laidMet Tryd.prog [("muniment/wire.digits", Lib.tabData .u8 tab16), ("muniment/digest.firstNumbers", Lib.tabData .u32 tab8), ("muniment/digest.constants", Lib.tabData .u32 tab64)] W) : All W := by
  obtain ⟨ps, h, _⟩ := h
  obtain ⟨h1, qs, h⟩ := laid_next gD tD Tryd.underlying68 Tryd.underlying5 c8 cD h
  obtain ⟨h2, qs2, h⟩ := laid_next gH tH Tryd.underlying39 Tryd.underlying38 c32' cH h
  obtain ⟨h3, qs3, h⟩ := laid_next gK tK Tryd.underlying49 Tryd.underlying38 c32' cK h
  refine ⟨⟨?_, ?_⟩, ?_⟩
  · intro v hv
    rw [h3.cell gK v (by simpa [tab64] using hv)]
    have : ∀ v : Fin 64, tab64.getD v.val 0 = ((KT v.val).toNat : Int) := by decide +kernel
    rw [this ⟨v, hv⟩]
  · intro v hv
    rw [h2.cell gH v (by simpa [tab8] using hv)]
    have : ∀ v : Fin 8, tab8.getD v.val 0 = ((H0.list.getD v.val 0).toNat : Int) := by decide +kernel
    rw [this ⟨v, hv⟩]
  · intro v hv
    rw [h1.cell gD v (by simpa [tab16] using hv)]
    have : ∀ v : Fin 16, tab16.getD v.val 0 = (dg v.val : Int) := by decide +kernel
    rw [this ⟨v, hv⟩]
/-- A table's block, as its initialiser lays it. -/
def lay (k : IntKind) (zs : List Int) (o : Obj) : Obj := match o with
  | .cells _ t frozen => .cells (zs.map fun z => Value.int k z).toArray t frozen
  | o => o
/-- A world for the witness. -/
noncomputable def laidW (os : Os) : World := { World.holding Tryd.prog os ⟨#[], #[], []⟩ with heap := (((World.holding Tryd.prog os ⟨#[], #[], []⟩).heap.modify 1 (lay .u8 tab16)).modify 0 (lay .u32 tab8)).modify 2 (lay .u32 tab64) }
end Go.Proofs.YtijpdnoloicfjaaDoor
/- A name that came in, opened: 32 bytes. -/
namespace Go.Proofs.YtijpdnoloicfjaaDoor
open Go.ChangeShapes Go.WideShapes Go.ChangeAt Go.RowKit
set_option linter.unusedSimpArgs false
set_option linter.unusedVariables false
theorem u8_bds {n : Int} (h : (Lit.int .u8 n).wf = true) : 0 ≤ n ∧ n ≤ 255 := by
  simpa [Lit.wf, IntKind.min, IntKind.max, IntKind.signed, IntKind.bits] using h
theorem cells_id (cs : Array Value) (hsz : cs.size = 32) (h : ∀ i, i < 32 → ∃ n : Nat, cs[i]? = some (.int .u8 (n : Int)) ∧ n < 256) : ∃ s : ByteArray, s.size = 32 ∧ cs = idc s := by
  obtain ⟨f, hf⟩ := Go.Deep.choose_lt h
  have hl : ∀ x ∈ (List.range 32).map f, x < 256 := by
    intro x hx
    simp only [List.mem_map, List.mem_range] at hx
    obtain ⟨i, hi, rfl⟩ := hx
    exact (hf i hi).2
  refine ⟨sb ((List.range 32).map f), by rw [sb_size]; simp, ?_⟩
  unfold idc
  rw [byl_sb _ hl]
  apply Array.ext_getElem?
  intro i
  by_cases hi : i < 32
  · rw [(hf i hi).1, List.getElem?_toArray]
    simp [bvc, hi]
  · rw [Array.getElem?_eq_none (by omega), Array.getElem?_eq_none (by simp [bvc]; omega)]
theorem open_id {H : Type} {enc : TypeId × Value → H} {w : World} {r : Reach} {b0 base : Nat} {spare : Nat → Bool} {held : Bool} {v : Value} {d : DataW H} {ps : List MemPlace}
    (hv : Value.okWide Tryd.prog w r b0 23 v) (h : DataW.Trod enc Tryd.prog w base spare held 23 v d ps) : ∃ s : ByteArray, s.size = 32 ∧ v = .agg (idc s) := by
  have hu : Tryd.prog.underlying 23 = some (.array 32 5) := Tryd.underlying23
  have hc : Tryd.prog.cellsOf 5 = 1 := by kernel_rfl
  have hct : Tryd.prog.cellsOf 23 = 32 := by kernel_rfl
  unfold Value.okWide at hv
  rw [hu] at hv
  obtain ⟨cs, rfl, hsz, _⟩ := hv
  rw [hct] at hsz
  obtain ⟨fuel, hf⟩ := h
  have hcs : (Value.agg cs).cells.toList = cs.toList := by simp [Value.cells]
  rw [hcs] at hf
  obtain ⟨xs, m, _, _, hl, hn, hi⟩ := DataW.trod_array hu hf
  obtain ⟨s, hs, rfl⟩ := cells_id cs hsz (fun i hlt => by
    have := hi i hlt
    rw [hc, Nat.mul_one, List.getElem?_eq_getElem (by omega)] at this
    have e1 : (cs.toList.drop i).take 1 = [cs[i]'(by omega)] := by
      rw [List.drop_eq_getElem_cons (by rw [Array.length_toList]; omega)]
      simp
    rw [e1] at this
    obtain ⟨n, e, _, wn⟩ := DataW.trod_int Tryd.underlying5 this
    have hb := u8_bds wn
    simp at e
    refine ⟨n.toNat, ?_, by omega⟩
    rw [Array.getElem?_eq_getElem (by omega), e, show ((n.toNat : Nat) : Int) = n from by omega])
  exact ⟨s, hs, rfl⟩
end Go.Proofs.YtijpdnoloicfjaaDoor
/- A string's bytes as a row of the call's own, and back. -/
namespace Go.Proofs.YtijpdnoloicfjaaDoor
open Go.RowKit
set_option linter.unusedSimpArgs false
set_option linter.unusedVariables false
/-- A row that a conversion has made: its cells; the mark stands behind them. -/
abbrev Cvb (w : World) (g : Nat) (C : Array Value) : Prop := w.heap[g]? = some (.cells C 5 (C.size, C.size + 1))
theorem Cvb.cell {w : World} {g : Nat} {C : Array Value} (h : Cvb w g C) (j : Nat) : w.cell? ⟨g, j, none⟩ = C[j]? := cell_of_row w g j C _ _ h
theorem Cvb.frozen {w : World} {g : Nat} {C : Array Value} (h : Cvb w g C) (j : Nat) (hj : j < C.size) : w.frozen? ⟨g, j, none⟩ = false := by
  have h' : w.heap[g]? = some (.cells C 5 (C.size, C.size + 1)) := h
  simp only [World.frozen?, h']
  simp; omega
theorem Cvb.set {w : World} {g : Nat} {C : Array Value} (h : Cvb w g C) (i : Nat) (v : Value) : Cvb (w.setCell ⟨g, i, none⟩ v) g (C.setIfInBounds i v) := by
  have := Joins.block_setCell (i := i) h v
  unfold Cvb
  rw [this]; simp
theorem conv_bytes (s : ByteArray) (u : World) : ∃ (cap : Nat) (W : World) (C : Array Value), (convert 9 37 (.string s)).run Tryd.prog u = .ok (.slice (some ⟨u.heap.size, 0, none⟩) s.size cap) W ∧
    Below u.heap.size u W ∧ W.heap.size = u.heap.size + 1 ∧ Cvb W u.heap.size C ∧ s.size ≤ C.size ∧ s.size ≤ cap ∧ ∀ j (hj : j < s.size), C[j]? = some (.int .u8 (s[j].toNat : Int)) := by
  refine ⟨grownCap u s.size 0 5, Lib.bytesWorld u 5 s, Lib.bytesCells u 5 s, Lib.run_convert_string_bytes u _ _ _ s Tryd.underlying9 Tryd.underlying37 Tryd.underlying5, ?_, Lib.bytesWorld_size _ _ _, Lib.bytesWorld_at_new _ _ _, ?_, ?_, ?_⟩
  · refine ⟨?_, ?_, ?_, by rw [Lib.bytesWorld_size]; omega, fun k hk => Lib.bytesWorld_at_old _ _ _ _ hk⟩
    all_goals simp [Lib.bytesWorld, World.freeze, World.alloc, World.drew, -World.alloc_eq, -World.drew_eq]
  · simp [Lib.bytesCells]
  · exact grownCap_ge _ _ _ _
  · intro j hj
    have hj' : j < s.data.size := hj
    rw [Lib.bytesCells, Array.getElem?_append_left (by simpa using hj)]
    simp only [Array.getElem?_map, Array.getElem?_eq_getElem hj', Option.map_some]
    rfl
theorem conv_back (w : World) (g cap n : Nat) (C : Array Value) (l : List UInt8) (h : Cvb w g C) (hl : l.length = n) (hC : ∀ j (hj : j < l.length), C[j]? = some (.int .u8 (l[j].toNat : Int))) :
    (convert 37 9 (.slice (some ⟨g, 0, none⟩) n cap)).run Tryd.prog w = .ok (.string ⟨l.toArray⟩) w := by
  subst hl
  refine run_convert_bytes_back w 37 9 5 ⟨g, 0, none⟩ cap l Tryd.underlying37 Tryd.underlying5 Tryd.underlying9 (fun j hj => ?_)
  rw [WideShapes.add_plain, Nat.zero_add, h.cell, hC j hj]
/-- Bytes as numbers, one of them laid anew. -/
def setNums (s : ByteArray) (j : Nat) (X : Int) : List Int := ((bl s).map fun b : UInt8 => (b.toNat : Int)).set j X
theorem setNums_length (s : ByteArray) (j : Nat) (X : Int) : (setNums s j X).length = s.size := by simp [setNums, bl_length]
def trnS (s : ByteArray) (j : Nat) (X : Int) : ByteArray := strOfNums (setNums s j X)
theorem conv_set (s : ByteArray) (w : World) (g cap j : Nat) (C : Array Value) (h : Cvb w g C) (hj : j < s.size) (hz : s.size ≤ C.size) (hC : ∀ j (hj : j < s.size), C[j]? = some (.int .u8 (s[j].toNat : Int))) (X : Int) :
    (convert 37 9 (.slice (some ⟨g, 0, none⟩) s.size cap)).run Tryd.prog (w.setCell ⟨g, j, none⟩ (.int .u8 X)) = .ok (.string (trnS s j X)) (w.setCell ⟨g, j, none⟩ (.int .u8 X)) := by
  refine run_convert_bytes_arg _ 37 5 Tryd.underlying37 Tryd.underlying5 g 0 s.size cap _ (setNums_length s j X) (fun i hi => ?_) 9 Tryd.underlying9
  rw [Nat.zero_add, (h.set j _).cell, Array.getElem?_setIfInBounds, setNums, List.getD, List.getElem?_set]
  by_cases e : j = i
  · subst e
    rw [if_pos rfl, if_pos (by omega), if_pos rfl, if_pos (by simp [bl_length]; exact hj)]
    rfl
  · rw [if_neg e, if_neg e, hC i hi, List.getElem?_map, List.getElem?_eq_getElem (by rw [bl_length]; exact hi)]
    rfl
theorem bl_nums (l : List Int) : bl (strOfNums l) = l.map (fun x => UInt8.ofNat x.toNat) := rfl
theorem bl_trn (s : ByteArray) (j : Nat) (X : Int) : bl (trnS s j X) = (bl s).set j (UInt8.ofNat X.toNat) := by
  rw [trnS, bl_nums, setNums, List.map_set, List.map_map]
  congr 1
  have : ((fun x : Int => UInt8.ofNat x.toNat) ∘ fun b : UInt8 => (b.toNat : Int)) = id := by funext b; simp
  rw [this, List.map_id]
end Go.Proofs.YtijpdnoloicfjaaDoor
