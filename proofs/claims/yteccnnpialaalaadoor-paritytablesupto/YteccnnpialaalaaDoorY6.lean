import Derived.Test.YteccnnpialaalaaDoorY5
import Derived.Test.YteccnnpialaalaaDoorY1
import Derived.Deep.RegionHeld3
import Derived.Deep.DeepAppendRoom
import Derived.Deep.AppendLies
import Derived.Test.YteccnnpialaalaaDoorY2
import Derived.Test.YteccnnpialaalaaDoorY4
import Derived.Deep.RegionWith
import Derived.Test.YteccnnpialaalaaDoorY3
/- The walk of wire.Unhex. -/
namespace Go.Proofs.YteccnnpialaalaaDoor
open Go.RowKit
set_option linter.unusedSimpArgs false
set_option linter.unusedVariables false
theorem info_u8 : (Tryd.prog.info? 5).map (fun i => (i.zero, i.size, i.bytes)) = some (some (.int .u8 0), 1, 1) := by kernel_rfl
theorem make_u8 (n : Nat) (hn : n ≤ 281474976710656) (u : World) : (Instr.makeSlice 48 (.int .i64 n) (.int .i64 n)).run Tryd.prog u =
    .ok (.slice (some ⟨u.heap.size, 0, none⟩) n n) (u.alloc (.cells (madeCells #[.int .u8 0] n) 5)) := by
  obtain ⟨i0, hi, hz0, hz1, hz2⟩ := info_parts info_u8
  have h := run_make (P := Tryd.prog) u 48 5 i0 (.int .u8 0) Tryd.underlying48 hi hz0 .i64 .i64 (n : Int) (n : Int) (by omega) (Int.le_refl _) (by rw [hz2]; omega) (by omega)
  rw [Int.toNat_natCast] at h
  simpa [hz1, Value.cells] using h
theorem u8_sh4_or (x y : Nat) (hx : x < 16) (hy : y < 16) : bits .or .u8 ((x : Int) * 16) (y : Int) = ((x * 16 + y : Nat) : Int) := by
  have h := u8_shl4_or x y hx hy
  have e : IntKind.u8.wrap ((x : Int) * 16) = (x : Int) * 16 := by rw [IntKind.wrap_u8']; omega
  rwa [e] at h
theorem made_size (n : Nat) : (madeCells #[Value.int .u8 0] n).size = n := by
  simp [madeCells]
theorem made_get (n j : Nat) (h : j < n) : (madeCells #[Value.int .u8 0] n)[j]? = some (.int .u8 0) := by
  have e : j % 1 = 0 := Nat.mod_one j
  simp [madeCells, h, e]
theorem ret_uh {s : ByteArray} {a : ByteArray} {b : Int} (h : a = uhS s ∧ b = uhE s) : Ending.returned (.tuple #[.string a, .int .i64 b]) = .returned (.tuple #[.string (uhS s), .int .i64 (uhE s)]) := by rw [h.1, h.2]
theorem uh_next (m : List Nat) (k n : Nat) (arr : Array Value) (b : Int) (v : Nat) (hk : k < n) (hsz : arr.size = n) (hml : m.length = k) (hall : ∀ j, j < n → ∃ z, arr[j]? = some (.int .u8 z))
    (harr : ∀ j, j < k → arr[j]? = some (.int .u8 (m.getD j 0))) (hb : b = v) :
    (arr.setIfInBounds k (.int .u8 b)).size = n ∧ (m ++ [v]).length = k + 1 ∧ (∀ j, j < n → ∃ z, (arr.setIfInBounds k (.int .u8 b))[j]? = some (.int .u8 z)) ∧
      ∀ j, j < k + 1 → (arr.setIfInBounds k (.int .u8 b))[j]? = some (.int .u8 ((m ++ [v]).getD j 0)) := by
  refine ⟨by simp [hsz], by simp [hml], fun j hj => ?_, fun j hj => ?_⟩
  · rw [Array.getElem?_setIfInBounds]
    split
    · exact ⟨b, by simp [hsz]; omega⟩
    · exact hall j hj
  · rw [Array.getElem?_setIfInBounds]
    split
    · rename_i e; subst e; rw [if_pos (by omega), hb, List.getD, List.getElem?_append_right (by omega), hml]; simp
    · rw [harr j (by omega), List.getD, List.getD, List.getElem?_append_left (by omega)]
theorem uh_conv (m : List Nat) (n : Nat) (arr : Array Value) (w : World) (T : TypeId) (hsz : arr.size = n) (hml : m.length = n) (harr : ∀ j, j < n → arr[j]? = some (.int .u8 (m.getD j 0))) :
    (convert 48 9 (.slice (some ⟨w.heap.size, 0, none⟩) n n)).run Tryd.prog (w.alloc (.cells arr T)) = .ok (.string (sb m)) (w.alloc (.cells arr T)) := by
  rw [← sb_nums]
  refine run_convert_bytes_arg _ 48 5 Tryd.underlying48 Tryd.underlying5 _ 0 n n _ (by simp [hml]) (fun i hi => ?_) 9 Tryd.underlying9
  rw [Nat.zero_add, World.cell?_alloc_new, harr i hi, List.getD, List.getD, List.getElem?_map, List.getElem?_eq_getElem (by omega)]
  rfl
set_option maxHeartbeats 400000 in
theorem unhex_odd (s : ByteArray) (w : World) (hs : s.size ≤ 281474976710656) (ho : s.size % 2 = 1) :
    Calls Tryd.prog 52 #[.string s] w fun e w' => e = .returned (.tuple #[.string (uhS s), .int .i64 (uhE s)]) ∧ w' = w := by
  have HN := uh_none (unhexL_odd _ (bl s) (Nat.le_refl _) (by rw [bl_length]; exact ho))
  rw [HN.1, HN.2]
  clear HN
  have h1 : (((s.size : Int) % 2) != 0) = true := by rw [bne_iff_ne]; omega
  go_enter Tryd.func52, Tryd.ntmps52
  go_wp2
  go_ret2
  exact ⟨rfl, rfl⟩
set_option maxHeartbeats 800000 in
set_option maxRecDepth 100000 in
theorem unhex_even (s : ByteArray) (w : World) (n : Nat) (hs : s.size ≤ 281474976710656) (ho : s.size = 2 * n) (hT : TabIs w) (hw : 0 < w.heap.size) :
    Calls Tryd.prog 52 #[.string s] w fun e w' => e = .returned (.tuple #[.string (uhS s), .int .i64 (uhE s)]) ∧ Below w.heap.size w w' := by
  have h1 : (((s.size : Int) % 2) != 0) = false := by rw [bne_eq_false_iff_eq]; omega
  have h2 : (s.size : Int) / 2 = n := by omega
  have hmk := make_u8 n (by omega) w
  have HO : Hid (s.size = 2 * n) := ho
  have HT : Hid (TabIs w) := hT
  clear hT
  have hn2 : 2 * n ≤ 281474976710656 := by omega
  clear ho
  go_enter Tryd.func52, Tryd.ntmps52
  go_wp2
  go_loopw [20] (fun i wr => ∃ (k : Nat) (m : List Nat) (arr : Array Value), k ≤ n ∧ i = .int .i64 k ∧ wr = w.alloc (.cells arr 5) ∧ Hid ((arr.size = n ∧ m.length = k ∧ (∀ j, j < n → ∃ z, arr[j]? = some (.int .u8 z)) ∧ ∀ j, j < k → arr[j]? = some (.int .u8 (m.getD j 0))) ∧ unhexL (bl s) = (unhexL ((bl s).drop (2 * k))).map (m ++ ·))) (fun i _ => n - (intOf i).toNat)
  case atStart =>
    refine ⟨0, [], _, by omega, rfl, rfl, ⟨⟨?_, rfl, fun j hj => ⟨0, ?_⟩, fun j hj => by omega⟩, ?_⟩⟩
    · exact made_size n
    · exact made_get n j hj
    · simp
  case round =>
    obtain ⟨k, m, arr, hk, rfl, rfl, HR⟩ := hrel
    have hTk : TabIs (w.alloc (.cells arr 5)) := HT.out.below ((Below.refl _ _).alloc (Nat.le_refl _) _) hw
    have HTk : Hid (TabIs (w.alloc (.cells arr 5))) := hTk
    clear hTk
    by_cases hlt : k < n
    · have g1 : 2 * k < s.size := by have := HO.out; omega
      have g2 : 2 * k + 1 < s.size := by have := HO.out; omega
      obtain ⟨z, hz⟩ := HR.out.1.2.2.1 k hlt
      cases ea : dvl s[2 * k].toNat with
      | none =>
        have HA : Hid (dvl s[2 * k].toNat = none) := ea
        clear ea
        go_wp2_with fail
        refine (digitValue_any _ _ (by exact s[2 * k].toNat_lt) HTk.out).mono ?_
        rintro e w1 ⟨rfl, hw1⟩
        subst hw1
        rw [HA.out]
        go_wp2_with fail
        refine (digitValue_any _ _ (by exact s[2 * k + 1].toNat_lt) HTk.out).mono ?_
        rintro e w1 ⟨rfl, hw1⟩
        subst hw1
        go_wp2
        go_ret2
        refine ⟨ret_uh ?_, by go_grown⟩
        have hn := uh_none (unhex_bad s (2 * k) m g2 HR.out.2 (Or.inl HA.out))
        exact ⟨hn.1.symm, hn.2.symm⟩
      | some x =>
        have HA : Hid (dvl s[2 * k].toNat = some x) := ea
        clear ea
        cases eb : dvl s[2 * k + 1].toNat with
        | none =>
          have HB : Hid (dvl s[2 * k + 1].toNat = none) := eb
          clear eb
          go_wp2_with fail
          refine (digitValue_any _ _ (by exact s[2 * k].toNat_lt) HTk.out).mono ?_
          rintro e w1 ⟨rfl, hw1⟩
          subst hw1
          rw [HA.out]
          go_wp2_with fail
          refine (digitValue_any _ _ (by exact s[2 * k + 1].toNat_lt) HTk.out).mono ?_
          rintro e w1 ⟨rfl, hw1⟩
          subst hw1
          rw [HB.out]
          go_wp2
          go_ret2
          refine ⟨ret_uh ?_, by go_grown⟩
          have hn := uh_none (unhex_bad s (2 * k) m g2 HR.out.2 (Or.inr HB.out))
          exact ⟨hn.1.symm, hn.2.symm⟩
        | some y =>
          have HB : Hid (dvl s[2 * k + 1].toNat = some y) := eb
          clear eb
          have hx := (dvl_some HA.out).1
          have hy := (dvl_some HB.out).1
          go_wp2_with fail
          refine (digitValue_any _ _ (by exact s[2 * k].toNat_lt) HTk.out).mono ?_
          rintro e w1 ⟨rfl, hw1⟩
          subst hw1
          rw [HA.out]
          go_wp2_with fail
          refine (digitValue_any _ _ (by exact s[2 * k + 1].toNat_lt) HTk.out).mono ?_
          rintro e w1 ⟨rfl, hw1⟩
          subst hw1
          rw [HB.out]
          go_wp2
          go_roundw
          case rel =>
            obtain ⟨⟨a1, a2, a3, a4⟩, a5⟩ := HR.out
            refine ⟨k + 1, m ++ [x * 16 + y], _, by omega, by go_num, rfl, ⟨uh_next m k n arr _ _ hlt a1 a2 a3 a4 ?_, ?_⟩⟩
            · exact u8_sh4_or x y hx hy
            · exact unhex_step s (2 * k) m x y g2 a5 HA.out HB.out
          case measure => simp [intOf]; omega
    · have hkn : k = n := by omega
      subst hkn
      obtain ⟨⟨a1, a2, a3, a4⟩, a5⟩ := HR.out
      have hc := uh_conv m k arr w 5 a1 a2 a4
      clear a1 a3 a4
      have A2 : Hid (m.length = k) := a2
      have A5 : Hid (unhexL (bl s) = (unhexL ((bl s).drop (2 * k))).map (m ++ ·)) := a5
      clear a2 a5
      go_wp2
      go_ret2
      refine ⟨ret_uh ?_, by go_grown⟩
      have hn := uh_some (unhex_all s (2 * k) m (by have := HO.out; omega) A5.out)
      exact ⟨hn.1.symm, hn.2.symm⟩
end Go.Proofs.YteccnnpialaalaaDoor
/- The walk of wire.Hex. -/
namespace Go.Proofs.YteccnnpialaalaaDoor
open Go.RowKit
set_option linter.unusedSimpArgs false
set_option linter.unusedVariables false
/-- append where there is room, onto a row of the call's own, as one step of a region that draws. -/
theorem step_append_spare {P : Program} {w : World} {ops : Array Oper} {o : Oper} {a : Act} {K : Act → World → Prop} {Q : Exit → Act → World → Prop} {E : Prop} (hgd : o.guard = none) (s x : Operand) (t : TypeId)
    (ho : o.op = .call { callee := .builtin .append, args := #[s, x], argTypes := #[t, t] })
    (base : Nat) (e : TypeId) (i : TypeInfo) (size : Nat) (ht : P.underlying t = some (.slice e)) (hi : P.info? e = some i) (hsize : i.size = size)
    (g n cap : Nat) (xs : List Value) (hs : a.eval s = .slice (some ⟨g, 0, none⟩) n cap) (hown : w.ownsRow base e size (.slice (some ⟨g, 0, none⟩) n cap) n xs)
    (ad : Addr) (m c : Nat) (news : List Value) (hx : a.eval x = .slice (some ad) m c) (hl : news.length = m * size) (hnews : ∀ j u, news[j]? = some u → w.cell? (ad.add j) = some u) (h1 : ∀ u ∈ news, u.oneCell' = true)
    (hroom : n + m ≤ cap)
    (h : ∀ w', w'.ownsRow base e size (.slice (some ⟨g, 0, none⟩) (n + m) cap) (n + m) (xs ++ news) → w.grownBy w' (some g) → K (a.put o.dst (.slice (some ⟨g, 0, none⟩) (n + m) cap)) w') :
    if Region.wanted o (yielded ops a.tmps) = true then Oper.wp P o a w K Q else E := by
  have hw : Region.wanted o (yielded ops a.tmps) = true := by simp [Region.wanted, hgd]
  rw [if_pos hw]
  exact wp_append_own_spare w s x t ho base e i size ht hi hsize g n cap xs hs hown ad m c news hx hl hnews h1 hroom h
theorem make_u8_cap (n : Nat) (hn : 2 * n ≤ 281474976710656) (u : World) : (Instr.makeSlice 48 (.int .i64 0) (.int .i64 (2 * (n : Int)))).run Tryd.prog u =
    .ok (.slice (some ⟨u.heap.size, 0, none⟩) 0 (2 * n)) (u.alloc (.cells (madeCells #[.int .u8 0] (2 * n)) 5)) := by
  obtain ⟨i0, hi, hz0, hz1, hz2⟩ := info_parts info_u8
  have h := run_make (P := Tryd.prog) u 48 5 i0 (.int .u8 0) Tryd.underlying48 hi hz0 .i64 .i64 0 (2 * (n : Int)) (by omega) (by omega) (by rw [hz2]; omega) (by omega)
  rw [show (2 * (n : Int)).toNat = 2 * n from by omega] at h
  simpa [hz1, Value.cells] using h
/-- Numbers as cells of bytes. -/
def bvX (xs : List Nat) : List Value := xs.map fun x : Nat => Value.int .u8 (x : Int)
theorem bvX_append (a b : List Nat) : bvX (a ++ b) = bvX a ++ bvX b := by simp [bvX]
theorem bv_length (a : List Nat) : (bvX a).length = a.length := by simp [bvX]
/-- A row of bytes of the call's own, as a string. -/
theorem own_conv {w : World} {base n : Nat} {v : Value} {xs : List Nat} (h : w.ownsRow base 5 1 v n (bvX xs)) :
    (convert 48 9 v).run Tryd.prog w = .ok (.string (sb xs)) w := by
  obtain ⟨hl, h⟩ := h
  rcases h with ⟨rfl, rfl⟩ | ⟨g, cap, cur, rfl, _, hg, hn, _, hc, ht⟩
  · have : xs = [] := by cases xs with | nil => rfl | cons a b => simp [bvX] at hl
    subst this
    exact run_convert_bytes_nil w 48 5 Tryd.underlying48 Tryd.underlying5 0 0 9 Tryd.underlying9
  · have hxl : xs.length = n := by simpa [bvX] using hl
    rw [← sb_nums]
    refine run_convert_bytes_arg w 48 5 Tryd.underlying48 Tryd.underlying5 g 0 n cap _ (by simp [hxl]) (fun i hi => ?_) 9 Tryd.underlying9
    rw [Nat.zero_add, cell_of_row w g i cur 5 (0, 0) hg, List.getD, List.getElem?_map]
    have e : (cur.toList.take (n * 1))[i]? = (bvX xs)[i]? := by rw [ht]
    rw [List.getElem?_take_of_lt (by omega), Array.getElem?_toList, bvX, List.getElem?_map, List.getElem?_eq_getElem (by omega)] at e
    rw [e, List.getElem?_eq_getElem (by omega)]
    rfl
theorem own_drew {w : World} {base : Nat} {e : TypeId} {size n : Nat} {v : Value} {xs : List Value} (h : w.ownsRow base e size v n xs) (o : Obj) : ((w.alloc o).drew).ownsRow base e size v n xs := h.alloc o
theorem news_two (w : World) (a b : Value) (T : TypeId) : ∀ (j : Nat) (u : Value), [a, b][j]? = some u → ((w.alloc (.cells #[a, b] T)).drew).cell? ((⟨w.heap.size, 0, none⟩ : Addr).add j) = some u := by
  intro j u h
  have e : ((w.alloc (.cells #[a, b] T)).drew).cell? ((⟨w.heap.size, 0, none⟩ : Addr).add j) = (w.alloc (.cells #[a, b] T)).cell? ((⟨w.heap.size, 0, none⟩ : Addr).add j) := rfl
  rw [e, WideShapes.add_plain, Nat.zero_add, World.cell?_alloc_new]
  simpa using h
theorem one_two (a b : Int) : ∀ u ∈ [Value.int .u8 a, Value.int .u8 b], u.oneCell' = true := by
  intro u hu
  simp at hu
  rcases hu with rfl | rfl <;> rfl
theorem keep_far {wr w1 : World} {o : Obj} {g off : Nat} {v : Value} (hg : ((wr.alloc o).drew).grownBy w1 (some g)) (h0 : 0 < g) (hz : 0 < wr.heap.size) (t : wr.cell? ⟨0, off, none⟩ = some v) : w1.cell? ⟨0, off, none⟩ = some v := by
  rw [hg.cell_far ⟨0, off, none⟩ (by show 0 < (wr.alloc o).heap.size; rw [World.size_alloc]; omega) (by simp; omega)]
  show (wr.alloc o).cell? ⟨0, off, none⟩ = some v
  rw [World.cell?_alloc_past _ _ _ hz]; exact t
theorem hex_own (s : ByteArray) (k : Nat) (hk : k < s.size) {w1 : World} {base g cap : Nat} (h : w1.ownsRow base 5 1 (.slice (some ⟨g, 0, none⟩) (2 * k + 2) cap) (2 * k + 2) (bvX (hexL ((bl s).take k)) ++ [.int .u8 (dg (s[k].toNat / 16) : Nat), .int .u8 (dg (s[k].toNat % 16) : Nat)])) :
    w1.ownsRow base 5 1 (.slice (some ⟨g, 0, none⟩) (2 * (k + 1)) cap) (2 * (k + 1)) (bvX (hexL ((bl s).take (k + 1)))) := by
  have e : bvX (hexL ((bl s).take (k + 1))) = bvX (hexL ((bl s).take k)) ++ [.int .u8 (dg (s[k].toNat / 16) : Nat), .int .u8 (dg (s[k].toNat % 16) : Nat)] := by
    rw [take_snoc s k hk, hexL_append, bvX_append]; rfl
  rw [e, show 2 * (k + 1) = 2 * k + 2 from by omega]
  exact h
theorem hex_size {wr w1 : World} {o : Obj} {row : Option Nat} {g : Nat} (hg : ((wr.alloc o).drew).grownBy w1 row) (hz : g < wr.heap.size) : g < w1.heap.size := by
  have h : (wr.alloc o).heap.size ≤ w1.heap.size := hg.size
  simp at h
  omega
theorem hex_below {w wr w1 : World} {o : Obj} {g : Nat} (hb : Below g w wr) (hz : g < wr.heap.size) (hg : ((wr.alloc o).drew).grownBy w1 (some g)) : Below g w w1 :=
  ((hb.alloc (by omega) o).drew).grown hg (by show g ≤ (wr.alloc o).heap.size; simp; omega) (fun k hk => by cases hk; exact Nat.le_refl _)
set_option maxHeartbeats 800000 in
set_option maxRecDepth 100000 in
theorem hex_any (s : ByteArray) (w : World) (hs : s.size ≤ 140737488351232) (hT : TabIs w) (hw : 0 < w.heap.size) :
    Calls Tryd.prog 53 #[.string s] w fun e w' => e = .returned (.string (sb (hexL (bl s)))) ∧ Below w.heap.size w w' := by
  have hmk := make_u8_cap s.size (by omega) w
  have HT : Hid (TabIs w) := hT
  clear hT
  go_enter Tryd.func53, Tryd.ntmps53
  go_wp2
  go_loopw [3, 11] (fun v i wr => ∃ k : Nat, k ≤ s.size ∧ i = .int .i64 k ∧ v = .slice (some ⟨w.heap.size, 0, none⟩) (2 * k) (2 * s.size) ∧
      wr.ownsRow w.heap.size 5 1 (.slice (some ⟨w.heap.size, 0, none⟩) (2 * k) (2 * s.size)) (2 * k) (bvX (hexL ((bl s).take k))) ∧ w.heap.size < wr.heap.size ∧ Below w.heap.size w wr) (fun _ i _ => s.size - (intOf i).toNat)
  case atStart =>
    refine ⟨0, by omega, rfl, rfl, ⟨rfl, Or.inr ⟨w.heap.size, 2 * s.size, _, rfl, Nat.le_refl _, heap_alloc_new w _, by omega, by unfold maxLen; omega, ?_, rfl⟩⟩, by simp, by go_grown⟩
    rw [size_madeCells]; omega
  case round =>
    obtain ⟨k, hk, rfl, rfl, hown, hz, hbel⟩ := hrel
    by_cases hlt : k < s.size
    · have hTk := HT.out.below hbel hw
      have t1 : wr.cell? ⟨0, ((s[k].toNat : Int) / 16).toNat, none⟩ = some (.int .u8 (dg (s[k].toNat / 16) : Nat)) := by
        rw [show ((s[k].toNat : Int) / 16).toNat = s[k].toNat / 16 from by omega]; exact hTk (s[k].toNat / 16) (by have := s[k].toNat_lt; omega)
      have t2 : wr.cell? ⟨0, ((s[k].toNat : Int) % 16).toNat, none⟩ = some (.int .u8 (dg (s[k].toNat % 16) : Nat)) := by
        rw [show ((s[k].toNat : Int) % 16).toNat = s[k].toNat % 16 from by omega]; exact hTk (s[k].toNat % 16) (by have := s[k].toNat_lt; omega)
      clear hTk
      have ha : bits .and .u8 (s[k].toNat : Int) 15 = (s[k].toNat : Int) % 16 := by rw [u8_and_15 _ s[k].toNat_lt]; omega
      have b1 : (0 : Int) ≤ (s[k].toNat : Int) / 16 := by omega
      have b2 : (s[k].toNat : Int) / 16 < 16 := by have := s[k].toNat_lt; omega
      have b3 : (s[k].toNat : Int) % 16 < 16 := by omega
      have b4 : (0 : Int) ≤ (s[k].toNat : Int) % 16 := by omega
      obtain ⟨i0, hi, hz0, hz1, hz2⟩ := info_parts info_u8
      go_wp2_with fail
      go_region_held3 (fun w' => w'.cell? ⟨0, ((s[k].toNat : Int) / 16).toNat, none⟩ = some (.int .u8 (dg (s[k].toNat / 16) : Nat)) ∧ w'.cell? ⟨0, ((s[k].toNat : Int) % 16).toNat, none⟩ = some (.int .u8 (dg (s[k].toNat % 16) : Nat)))
        (first | go_keep | (exact ⟨keep_far hgrow hw (by omega) t1, keep_far hgrow hw (by omega) t2⟩))
        ((refine step_append_spare (by rfl) _ _ _ (by rfl) w.heap.size 5 i0 1 Tryd.underlying48 hi hz1 w.heap.size (2 * k) (2 * s.size) _ (by rfl) (own_drew hown _) ⟨wr.heap.size, 0, none⟩ 2 2 [.int .u8 (dg (s[k].toNat / 16) : Nat), .int .u8 (dg (s[k].toNat % 16) : Nat)] (by rfl) rfl (news_two wr _ _ _) (one_two _ _) (by omega) ?_; intro w1 hown1 hgrow))
      all_goals go_wp2
      all_goals go_roundw
      all_goals first
        | exact ⟨k + 1, by omega, by go_num, by rw [show 2 * k + 2 = 2 * (k + 1) from by omega], hex_own s k hlt hown1, hex_size hgrow hz, hex_below hbel hz hgrow⟩
        | (simp [intOf]; omega)
    · have hke : k = s.size := by omega
      subst hke
      have hc := own_conv hown
      rw [List.take_of_length_le (by rw [bl_length]; exact Nat.le_refl _)] at hc
      go_wp2
      go_ret
      exact ⟨rfl, hbel⟩
end Go.Proofs.YteccnnpialaalaaDoor
/- Plain facts: a short number's bytes, one after another. -/
namespace Go.Proofs.YteccnnpialaalaaDoor
set_option linter.unusedSimpArgs false
set_option linter.unusedVariables false
open Go
theorem encS_small (n : Nat) (h : n < 128) : encS n = [n] := by
  have e : slen n = 1 := by
    have h1 := slen_pos n
    rcases Nat.lt_or_ge 1 (slen n) with g | g
    · have h2 := slen_lo n (by omega) g
      have h3 : 128 ^ 1 ≤ 128 ^ (slen n - 1) := Nat.pow_le_pow_right (by omega) (by omega)
      omega
    · omega
  unfold encS; rw [e]; rfl
theorem encS_step (n : Nat) (h : 128 ≤ n) (hn : n < 2 ^ 64) : encS n = (n % 128 + 128) :: encS (n / 128) := by
  have a1 := slen_pos n
  have a2 := slen_hi n hn
  have q1 := slen_pos (n / 128)
  have q2 := slen_hi (n / 128) (by omega)
  have g : 1 < slen n := by
    rcases Nat.lt_or_ge 1 (slen n) with g | g
    · exact g
    · have : slen n = 1 := by omega
      rw [this] at a2; omega
  have a3 := slen_lo n hn g
  have e : slen n = slen (n / 128) + 1 := by
    rcases Nat.lt_trichotomy (slen n) (slen (n / 128) + 1) with c | c | c
    · have q3 := slen_lo (n / 128) (by omega) (by omega)
      have x1 : 128 ^ (slen n - 1) ≤ 128 ^ (slen (n / 128) - 1) := Nat.pow_le_pow_right (by omega) (by omega)
      have x2 : 128 ^ slen n = 128 ^ (slen n - 1) * 128 := by rw [← Nat.pow_succ]; congr 1; omega
      omega
    · exact c
    · have x1 : 128 ^ slen (n / 128) ≤ 128 ^ (slen n - 2) := Nat.pow_le_pow_right (by omega) (by omega)
      have x2 : 128 ^ (slen n - 1) = 128 ^ (slen n - 2) * 128 := by rw [← Nat.pow_succ]; congr 1; omega
      omega
  unfold encS
  rw [e, show slen (n / 128) + 1 - 1 = (slen (n / 128) - 1) + 1 from by omega, encN]
end Go.Proofs.YteccnnpialaalaaDoor
/- The document's own fits, and a byte as a string. -/
namespace Go.Proofs.YteccnnpialaalaaDoor
open Go.RowKit
set_option linter.unusedSimpArgs false
set_option linter.unusedVariables false
/-- One byte, as a slice of its own, as a string. -/
theorem conv1 (w : World) (v : Int) : (convert 48 9 (.slice (some ⟨w.heap.size, 0, none⟩) 1 1)).run Tryd.prog (w.alloc (.cells #[.int .u8 v] 5)) = .ok (.string (strOfNums [v])) (w.alloc (.cells #[.int .u8 v] 5)) :=
  run_convert_bytes_arg _ 48 5 Tryd.underlying48 Tryd.underlying5 _ 0 1 1 [v] rfl (fun i hi => by
    have : i = 0 := by omega
    subst this
    rw [World.cell?_alloc_new]; rfl) 9 Tryd.underlying9
theorem one_size (v : Int) : (strOfNums [v]).size = 1 := strOfNums_size _
theorem one_is (n : Nat) (v : Int) (h : v = n) : strOfNums [v] = sb [n] := by rw [h]; exact sb_nums [n]
end Go.Proofs.YteccnnpialaalaaDoor
/- The document's own fits, and a byte as a string. -/
namespace Go.Proofs.YteccnnpialaalaaDoor
open Go.RowKit
set_option linter.unusedSimpArgs false
set_option linter.unusedVariables false
/-- Whether a number fits a width of 1 to 8 bytes. -/
def fitB (n d : Nat) : Bool := decide (n < 256 ^ d)
theorem fitB_yes {n d : Nat} (h : n < 256 ^ d) : fitB n d = true := decide_eq_true h
theorem fitB_no {n d : Nat} (h : 256 ^ d ≤ n) : fitB n d = false := decide_eq_false (by omega)
set_option maxHeartbeats 400000 in
theorem fits_any (n d : Nat) (w : World) (hn : n < 18446744073709551616) (hd1 : 1 ≤ d) (hd2 : d ≤ 8) :
    Calls Tryd.prog 81 #[.int .u64 n, .int .i64 d] w fun e w' => e = .returned (.bool (fitB n d)) ∧ w' = w := by
  have hb : (fitB n d = true ∧ n < 256 ^ d) ∨ (fitB n d = false ∧ 256 ^ d ≤ n) := by
    rcases Nat.lt_or_ge n (256 ^ d) with h | h
    · exact Or.inl ⟨fitB_yes h, h⟩
    · exact Or.inr ⟨fitB_no h, h⟩
  have h8 : d = 1 ∨ d = 2 ∨ d = 3 ∨ d = 4 ∨ d = 5 ∨ d = 6 ∨ d = 7 ∨ d = 8 := by omega
  rcases h8 with h | h | h | h | h | h | h | h
  all_goals subst h
  all_goals rcases hb with ⟨e, h⟩ | ⟨e, h⟩
  all_goals rw [e]
  all_goals clear e
  all_goals simp only [Nat.reducePow] at h
  all_goals first
    | (exfalso; omega)
    | (go_enter Tryd.func81, Tryd.ntmps81
       go_wp2
       go_ret
       refine ⟨ret_bool ?_, rfl⟩
       first | (simp; done) | (simp; omega))
end Go.Proofs.YteccnnpialaalaaDoor
/- The walk of the document's own PutFixed (munimentref01). -/
namespace Go.Proofs.YteccnnpialaalaaDoor
open Go.RowKit
set_option linter.unusedSimpArgs false
set_option linter.unusedVariables false
set_option maxHeartbeats 400000 in
theorem rputFixed_no (s : ByteArray) (x d : Int) (w : World) (h0 : 0 ≤ x) (h1 : x ≤ 18446744073709551615) (hno : isW d = true → 256 ^ d.toNat ≤ x.toNat) :
    Calls Tryd.prog 72 #[.string s, .int .u64 x, .int .i64 d] w fun e w' => e = .returned (.tuple #[.string ⟨#[]⟩, .int .i64 1]) ∧ w' = w := by
  have H : Hid (isW d = true → 256 ^ d.toNat ≤ x.toNat) := hno
  clear hno
  by_cases h3 : d < 1
  · clear H
    go_enter Tryd.func72, Tryd.ntmps72
    go_wp2
    go_ret2
    exact ⟨rfl, rfl⟩
  · by_cases h4 : 8 < d
    · clear H
      go_enter Tryd.func72, Tryd.ntmps72
      go_wp2
      go_ret2
      exact ⟨rfl, rfl⟩
    · obtain ⟨m, rfl⟩ := Int.eq_ofNat_of_zero_le (show 0 ≤ d by omega)
      obtain ⟨n, rfl⟩ := Int.eq_ofNat_of_zero_le h0
      have hf : fitB n m = false := fitB_no (by simpa using H.out (isW_yes (by omega) (by omega)))
      clear H
      have h5 : (1 : Int) ≤ m := by omega
      go_enter Tryd.func72, Tryd.ntmps72
      go_wp2_with (go_at_call 81; refine (fits_any n m _ (by omega) (by omega) (by omega)).mono ?_; rintro e w' ⟨rfl, rfl⟩; rw [hf])
      go_ret2
      exact ⟨rfl, rfl⟩
theorem fix_more (s a : ByteArray) (n d k : Nat) (h : a = s ++ sb ((fixN d n).take k)) (hk : k < d) :
    a ++ strOfNums [(n : Int) / 2 ^ (8 * (d - 1 - k)) % 256] = s ++ sb ((fixN d n).take (k + 1)) := by
  have e1 : ((n : Int) / 2 ^ (8 * (d - 1 - k)) % 256) = ((n / 256 ^ (d - 1 - k) % 256 : Nat) : Int) := by
    rw [pow256]; rfl
  have e2 := fixN_get d n (d - 1 - k) (by omega)
  rw [show d - 1 - (d - 1 - k) = k from by omega] at e2
  have hl : k < (fixN d n).length := by rw [fixN_length]; exact hk
  have e3 : (fixN d n).take (k + 1) = (fixN d n).take k ++ [n / 256 ^ (d - 1 - k) % 256] := by
    rw [List.take_succ_eq_append_getElem hl]
    rw [List.getElem?_eq_getElem hl] at e2
    simp only [Option.some.injEq] at e2
    rw [e2]
  rw [one_is _ _ e1, e3, h]
  apply bl_inj
  simp [bl_append, bl_sb, by8]
set_option maxHeartbeats 400000 in
set_option maxRecDepth 100000 in
theorem rputFixed_ok (s : ByteArray) (n : Nat) (d : Nat) (w : World) (hn : n < 18446744073709551616) (hd1 : 1 ≤ d) (hd2 : d ≤ 8) (hfit : n < 256 ^ d) (hs : s.size ≤ 4611686018427387904) :
    Calls Tryd.prog 72 #[.string s, .int .u64 n, .int .i64 d] w fun e w' => e = .returned (.tuple #[.string (s ++ sb (fixN d n)), .int .i64 0]) ∧ Below w.heap.size w w' := by
  have hf : fitB n d = true := fitB_yes hfit
  clear hfit
  have hc1 := conv1
  have hz1 := one_size
  have e1 : ¬ ((d : Int) < 1) := by omega
  have e2 : ¬ ((8 : Int) < d) := by omega
  go_enter Tryd.func72, Tryd.ntmps72
  go_wp2_with (go_at_call 81; refine (fits_any n d _ hn hd1 hd2).mono ?_; rintro e w' ⟨rfl, rfl⟩; rw [hf])
  go_loopw [0, 8] (fun v i wr => ∃ (k : Nat) (a : ByteArray), k ≤ d ∧ i = .int .i64 ((d : Int) - 1 - k) ∧ v = .string a ∧ a.size = s.size + k ∧ Hid (a = s ++ sb ((fixN d n).take k)) ∧ Below w'.heap.size w' wr) (fun _ i _ => (intOf i + 1).toNat)
  case atStart => exact ⟨0, s, by omega, by go_num, rfl, rfl, by show s = _; apply bl_inj; rw [bl_append]; simp [bl_sb, by8], Below.refl _ _⟩
  case round =>
    obtain ⟨k, a, hk, rfl, rfl, haz, HE, hbel⟩ := hrel
    have hb0 := hbel.size
    have hab : a.size ≤ 4611686018427387914 := by omega
    have HZ : Hid (a.size = s.size + k) := haz
    clear haz
    by_cases hlt : k < d
    · go_wp2
      go_roundw
      case rel => exact ⟨k + 1, _, by omega, by go_num, rfl, by rw [append_size, one_size]; have := HZ.out; omega, fix_more s a n d k HE.out hlt, hbel.alloc hb0 _⟩
      case measure => simp [intOf]; omega
    · go_wp2
      go_ret2
      have hkd : k = d := by omega
      refine ⟨ret_se ?_, hbel⟩
      rw [HE.out, hkd, List.take_of_length_le (by rw [fixN_length]; exact Nat.le_refl _)]
end Go.Proofs.YteccnnpialaalaaDoor
/- Plain facts: two sums. -/
namespace Go.Proofs.YteccnnpialaalaaDoor
set_option linter.unusedSimpArgs false
set_option linter.unusedVariables false
/-- The sum, reckoned with its numbers handed on. -/
def rdsL : List (BitVec 32) → List (BitVec 32) → V8 → V8
  | k :: ks, w :: ws, v => rdsL ks ws (v.rnd k w)
  | _, _, v => v
theorem rds_L (m : List Nat) (v : V8) : ∀ n t, n + t = 64 → rdsL (KL.drop t) ((sch m 64).drop t) (rds m v t) = rds m v 64
  | 0, t, h => by
    have : t = 64 := by omega
    subst this
    rw [show KL.drop 64 = [] from rfl]; rfl
  | n + 1, t, h => by
    have hk : KL.drop t = KT t :: KL.drop (t + 1) := by
      have hl : t < KL.length := by show t < 64; omega
      rw [List.drop_eq_getElem_cons hl]
      simp [KT, List.getD, hl]
    have hw : (sch m 64).drop t = wt m t :: (sch m 64).drop (t + 1) := by
      have hl : t < (sch m 64).length := by rw [sch_length]; omega
      rw [List.drop_eq_getElem_cons hl]
      simp [wt, List.getD, hl]
    rw [hk, hw, rdsL]
    exact rds_L m v n (t + 1) (by omega)
def compL (m : List Nat) (v : V8) : V8 := v.add (rdsL KL (sch m 64) v)
theorem comp_L (m : List Nat) (v : V8) : comp m v = compL m v := by
  have := rds_L m v 64 0 rfl
  simp only [List.drop_zero] at this
  rw [comp, compL, ← this]; rfl
theorem sha_one (m : List Nat) (h : (padded m).length / 64 = 1) : sha m = outB (compL (blk (padded m) 0) H0) := by
  rw [sha, shaV, h, hs, comp_L]; rfl
theorem sha_abc : sha [97, 98, 99] = [186, 120, 22, 191, 143, 1, 207, 234, 65, 65, 64, 222, 93, 174, 34, 35, 176, 3, 97, 163, 150, 23, 122, 156, 180, 16, 255, 97, 242, 0, 21, 173] := by
  rw [sha_one _ (by decide)]
  decide +kernel
theorem sha_nil : sha [] = [227, 176, 196, 66, 152, 252, 28, 20, 154, 251, 244, 200, 153, 111, 185, 36, 39, 174, 65, 228, 100, 155, 147, 76, 164, 149, 153, 27, 120, 82, 184, 85] := by
  rw [sha_one _ (by decide)]
  decide +kernel
end Go.Proofs.YteccnnpialaalaaDoor
/- What an object's name is the sum of. -/
namespace Go.Proofs.YteccnnpialaalaaDoor
/-- What an object's name is the sum of. -/
def whl (k : Nat) (p : ByteArray) : List Nat := k :: (fixN 8 p.size ++ byl p)
end Go.Proofs.YteccnnpialaalaaDoor
/- digest.Text, digest.Of, the document's own Fixed and Whole, the law's awake. -/
namespace Go.Proofs.YteccnnpialaalaaDoor
open Go.RowKit
set_option linter.unusedSimpArgs false
set_option linter.unusedVariables false
theorem shc_idc (m : List Nat) : shc m = idc (sb (sha m)) := by
  have h := byl_sb (sha m) (outB_lt _)
  rw [idc, h]; rfl
set_option maxHeartbeats 400000 in
theorem rfixed_any (n : Nat) (w : World) (hn : n < 18446744073709551616) :
    Calls Tryd.prog 55 #[.int .u64 (n : Int), .int .i64 8] w fun e w' => e = .returned (.string ((⟨#[]⟩ : ByteArray) ++ sb (fixN 8 n))) ∧ Below w.heap.size w w' := by
  go_enter Tryd.func55, Tryd.ntmps55
  go_wp2_with (go_at_call 72; refine (rputFixed_ok ⟨#[]⟩ n 8 _ hn (by omega) (by omega) (by omega) (by decide)).mono ?_; rintro e w1 ⟨rfl, hb1⟩)
  go_ret
  exact ⟨rfl, hb1⟩
theorem conv_any (w : World) (g : Nat) (v : Int) (h : w.cell? ⟨g, 0, none⟩ = some (.int .u8 v)) : (convert 48 9 (.slice (some ⟨g, 0, none⟩) 1 1)).run Tryd.prog w = .ok (.string (strOfNums [v])) w :=
  run_convert_bytes_arg _ 48 5 Tryd.underlying48 Tryd.underlying5 _ 0 1 1 [v] rfl (fun i hi => by
    have : i = 0 := by omega
    subst this
    exact h) 9 Tryd.underlying9
theorem sb_append (a b : List Nat) : sb (a ++ b) = sb a ++ sb b := by
  apply bl_inj
  rw [bl_append, bl_sb, bl_sb, bl_sb, by8, by8, by8, List.map_append]
theorem whole_eq (k : Nat) (p : ByteArray) (hk : k < 256) : strOfNums [(k : Int)] ++ ((⟨#[]⟩ : ByteArray) ++ sb (fixN 8 p.size)) ++ p = sb (whl k p) := by
  rw [show ((⟨#[]⟩ : ByteArray) ++ sb (fixN 8 p.size)) = sb (fixN 8 p.size) from ByteArray.empty_append, one_is k k rfl]
  have : whl k p = [k] ++ fixN 8 p.size ++ byl p := by simp [whl]
  rw [this, sb_append, sb_append, sb_byl]
theorem wrap64s (n : Nat) (h : n < 18446744073709551616) : IntKind.u64.wrap (n : Int) = (n : Int) := by
  simp [IntKind.wrap, IntKind.bits, IntKind.signed]
  omega
theorem conv1s (w : World) (o : Obj) (v : Int) : (convert 48 9 (.slice (some ⟨w.heap.size + 1, 0, none⟩) 1 1)).run Tryd.prog ((w.alloc o).alloc (.cells #[.int .u8 v] 5)) = .ok (.string (strOfNums [v])) ((w.alloc o).alloc (.cells #[.int .u8 v] 5)) := by
  have h := conv1 (w.alloc o) v
  rwa [alloc_size] at h
theorem pre_eq (k : Nat) (n : Nat) : strOfNums [(k : Int)] ++ sb (fixN 8 n) = sb (k :: fixN 8 n) := by
  rw [one_is k k rfl, ← sb_append]; rfl
theorem byl_pre (k n : Nat) (hk : k < 256) : byl (sb (k :: fixN 8 n)) = k :: fixN 8 n := byl_sb _ (by
  intro x hx
  simp only [List.mem_cons] at hx
  rcases hx with rfl | hx
  · exact hk
  · exact fixN_lt _ _ x hx)
end Go.Proofs.YteccnnpialaalaaDoor
/- parity: tables as plain data; mayBe, numbers, Check. -/
namespace Go.Proofs.YteccnnpialaalaaDoor
open Go.RowKit
set_option linter.unusedSimpArgs false
set_option linter.unusedVariables false
/-- May there be so many units; may a table be? -/
def mayN (d p z : Int) : Bool := decide (1 ≤ d ∧ d ≤ 32 ∧ 1 ≤ p ∧ p ≤ 64 - d ∧ 0 ≤ z ∧ z ≤ 67108864)
theorem mayN_iff (d p z : Int) : mayN d p z = true ↔ (1 ≤ d ∧ d ≤ 32 ∧ 1 ≤ p ∧ p ≤ 64 - d ∧ 0 ≤ z ∧ z ≤ 67108864) := by simp [mayN]
def okT (d p z : Int) (n : Nat) : Bool := mayN d p z && decide ((n : Int) = d + p)
theorem mayN_no {d p z : Int} (h : ¬ (1 ≤ d ∧ d ≤ 32 ∧ 1 ≤ p ∧ p ≤ 64 - d ∧ 0 ≤ z ∧ z ≤ 67108864)) : mayN d p z = false := by
  cases hm : mayN d p z with
  | false => rfl
  | true => exact absurd ((mayN_iff d p z).1 hm) h
theorem ret_b17 {a b : Bool} (h : b = a) : Ending.returned (.bool a) = .returned (.bool b) := by rw [h]
set_option maxHeartbeats 2000000 in
set_option maxRecDepth 100000 in
theorem mayBe17 (d p z : Int) (w : World) : Calls Tryd.prog 26 #[.int .i64 d, .int .i64 p, .int .i64 z] w fun e w' => e = .returned (.bool (mayN d p z)) ∧ w' = w := by
  by_cases h1 : 1 ≤ d
  · by_cases h2 : d ≤ 32
    · have hw : IntKind.i64.wrap (64 - d) = 64 - d := by rw [IntKind.wrap_i64]; omega
      by_cases h3 : 1 ≤ p
      · by_cases h4 : p ≤ 64 - d
        · by_cases h5 : 0 ≤ z
          · by_cases h6 : z ≤ 67108864
            · have HF : Hid (mayN d p z = true) := (mayN_iff d p z).2 ⟨h1, h2, h3, h4, h5, h6⟩
              go_enter Tryd.func26, Tryd.ntmps26
              go_wp2
              go_ret
              exact ⟨ret_b17 HF.out, rfl⟩
            · have HF : Hid (mayN d p z = false) := mayN_no (by omega)
              go_enter Tryd.func26, Tryd.ntmps26
              go_wp2
              go_ret
              exact ⟨ret_b17 HF.out, rfl⟩
          · have HF : Hid (mayN d p z = false) := mayN_no (by omega)
            go_enter Tryd.func26, Tryd.ntmps26
            go_wp2
            go_ret
            exact ⟨ret_b17 HF.out, rfl⟩
        · have HF : Hid (mayN d p z = false) := mayN_no (by omega)
          go_enter Tryd.func26, Tryd.ntmps26
          go_wp2
          go_ret
          exact ⟨ret_b17 HF.out, rfl⟩
      · have HF : Hid (mayN d p z = false) := mayN_no (by omega)
        go_enter Tryd.func26, Tryd.ntmps26
        go_wp2
        go_ret
        exact ⟨ret_b17 HF.out, rfl⟩
    · have HF : Hid (mayN d p z = false) := mayN_no (by omega)
      go_enter Tryd.func26, Tryd.ntmps26
      go_wp2
      go_ret
      exact ⟨ret_b17 HF.out, rfl⟩
  · have HF : Hid (mayN d p z = false) := mayN_no (by omega)
    go_enter Tryd.func26, Tryd.ntmps26
    go_wp2
    go_ret
    exact ⟨ret_b17 HF.out, rfl⟩
/-- A table that is handed on, in its box. -/
theorem box17 (d p z : Int) (a : Option Addr) (n c : Nat) (w : World) : Bk (w.alloc (.cells #[.int .i64 d, .int .i64 p, .int .i64 z, .slice a n c] 29)) w.heap.size #[.int .i64 d, .int .i64 p, .int .i64 z, .slice a n c] 29 := bk_new _ _ _
def ckE17 (d p z : Int) (n : Nat) : Int := if okT d p z n = true then 0 else 1
theorem ret_i17 {a b : Int} (h : b = a) : Ending.returned (.int .i64 a) = .returned (.int .i64 b) := by rw [h]
set_option maxHeartbeats 2000000 in
set_option maxRecDepth 100000 in
theorem check17 (d p z : Int) (a : Option Addr) (n c : Nat) (w : World) : Calls Tryd.prog 8 #[.agg #[.int .i64 d, .int .i64 p, .int .i64 z, .slice a n c]] w fun e w' => e = .returned (.int .i64 (ckE17 d p z n)) ∧ Below w.heap.size w w' := by
  have hb := box17 d p z a n c w
  have HB : Hid (Below w.heap.size w (w.alloc (.cells #[.int .i64 d, .int .i64 p, .int .i64 z, .slice a n c] 29))) := (Below.refl _ _).alloc (Nat.le_refl _) _
  have c0 : (w.alloc (.cells #[.int .i64 d, .int .i64 p, .int .i64 z, .slice a n c] 29)).cell? ⟨w.heap.size, 0, none⟩ = some (.int .i64 d) := by rw [hb.cell]; rfl
  have c1 : (w.alloc (.cells #[.int .i64 d, .int .i64 p, .int .i64 z, .slice a n c] 29)).cell? ⟨w.heap.size, 1, none⟩ = some (.int .i64 p) := by rw [hb.cell]; rfl
  have c2 : (w.alloc (.cells #[.int .i64 d, .int .i64 p, .int .i64 z, .slice a n c] 29)).cell? ⟨w.heap.size, 2, none⟩ = some (.int .i64 z) := by rw [hb.cell]; rfl
  have c3 : (w.alloc (.cells #[.int .i64 d, .int .i64 p, .int .i64 z, .slice a n c] 29)).cell? ⟨w.heap.size, 3, none⟩ = some (.slice a n c) := by rw [hb.cell]; rfl
  have hm := mayBe17 d p z (w.alloc (.cells #[.int .i64 d, .int .i64 p, .int .i64 z, .slice a n c] 29))
  clear hb
  cases hmn : mayN d p z with
  | false =>
    rw [hmn] at hm
    have HC : Hid (ckE17 d p z n = 1) := by show _ = _; simp [ckE17, okT, hmn]
    clear hmn
    go_enter Tryd.func8, Tryd.ntmps8
    go_wp2_with fail
    refine hm.mono ?_
    rintro e w1 ⟨rfl, rfl⟩
    go_wp2
    go_ret
    exact ⟨ret_i17 HC.out, HB.out⟩
  | true =>
    rw [hmn] at hm
    obtain ⟨q1, q2, q3, q4, q5, q6⟩ := (mayN_iff d p z).1 hmn
    have hw : IntKind.i64.wrap (d + p) = d + p := by rw [IntKind.wrap_i64]; omega
    by_cases hn : (n : Int) = d + p
    · have HC : Hid (ckE17 d p z n = 0) := by show _ = _; simp [ckE17, okT, hmn, hn]
      clear hmn
      go_enter Tryd.func8, Tryd.ntmps8
      go_wp2_with fail
      refine hm.mono ?_
      rintro e w1 ⟨rfl, rfl⟩
      go_wp2
      go_ret
      exact ⟨ret_i17 HC.out, HB.out⟩
    · have HC : Hid (ckE17 d p z n = 1) := by show _ = _; simp [ckE17, okT, hmn, hn]
      have hnb : ((n : Int) == d + p) = false := by rw [beq_eq_false_iff_ne]; exact hn
      clear hmn
      go_enter Tryd.func8, Tryd.ntmps8
      go_wp2_with fail
      refine hm.mono ?_
      rintro e w1 ⟨rfl, rfl⟩
      go_wp2
      go_ret
      exact ⟨ret_i17 HC.out, HB.out⟩
/-- The four numbers that stand first. -/
theorem numbers17 (d p z : Int) (w : World) : Calls Tryd.prog 19 #[.int .i64 d, .int .i64 p, .int .i64 z] w fun e w' => e = .returned (.agg #[.int .i64 1, .int .i64 d, .int .i64 p, .int .i64 z]) ∧ Below w.heap.size w w' := by
  have hb : Bk (w.alloc (.cells #[.int .i64 1, .int .i64 d, .int .i64 p, .int .i64 z] 53)) w.heap.size #[.int .i64 1, .int .i64 d, .int .i64 p, .int .i64 z] 53 := bk_new _ _ _
  have HB : Hid (Bk (w.alloc (.cells #[.int .i64 1, .int .i64 d, .int .i64 p, .int .i64 z] 53)) w.heap.size #[.int .i64 1, .int .i64 d, .int .i64 p, .int .i64 z] 53) := hb
  have hi4 : (Tryd.prog.info? 53).map (·.size) = some 4 := by kernel_rfl
  clear hb
  go_enter Tryd.func19, Tryd.ntmps19
  go_wp2
  exact bodyPost_ret (results_cell_row rfl _ _ w.heap.size 53 #[.int .i64 1, .int .i64 d, .int .i64 p, .int .i64 z] (0, 0) _ rfl HB.out Tryd.underlying53 rfl hi4) rfl ⟨rfl, (Below.refl _ _).alloc (Nat.le_refl _) _⟩
end Go.Proofs.YteccnnpialaalaaDoor
