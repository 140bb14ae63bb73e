/- The walk of wire.Unhex. -/
import Derived.Test.YtbfdggkoildfkaaDoorX1
import Derived.Test.YtbfdggkoildfkaaDoorW1F
namespace Go.Proofs.YtbfdggkoildfkaaDoor
open Go.RowKit
set_option linter.unusedSimpArgs false
set_option linter.unusedVariables false
theorem info_u8 : (Tryd.prog.info? 5).map (fun i => (i.zero, i.size, i.bytes)) = some (some (.int .u8 0), 1, 1) := by kernel_rfl
theorem make_u8 (n : Nat) (hn : n ≤ 281474976710656) (u : World) : (Instr.makeSlice 47 (.int .i64 n) (.int .i64 n)).run Tryd.prog u =
    .ok (.slice (some ⟨u.heap.size, 0, none⟩) n n) (u.alloc (.cells (madeCells #[.int .u8 0] n) 5)) := by
  obtain ⟨i0, hi, hz0, hz1, hz2⟩ := info_parts info_u8
  have h := run_make (P := Tryd.prog) u 47 5 i0 (.int .u8 0) Tryd.underlying47 hi hz0 .i64 .i64 (n : Int) (n : Int) (by omega) (Int.le_refl _) (by rw [hz2]; omega) (by omega)
  rw [Int.toNat_natCast] at h
  simpa [hz1, Value.cells] using h
theorem u8_sh4_or (x y : Nat) (hx : x < 16) (hy : y < 16) : bits .or .u8 ((x : Int) * 16) (y : Int) = ((x * 16 + y : Nat) : Int) := by
  have h := u8_shl4_or x y hx hy
  have e : IntKind.u8.wrap ((x : Int) * 16) = (x : Int) * 16 := by rw [IntKind.wrap_u8']; omega
  rwa [e] at h
theorem made_size (n : Nat) : (madeCells #[Value.int .u8 0] n).size = n := by
  simp [madeCells]
theorem made_get (n j : Nat) (h : j < n) : (madeCells #[Value.int .u8 0] n)[j]? = some (.int .u8 0) := by
  have e : j % 1 = 0 := Nat.mod_one j
  simp [madeCells, h, e]
theorem ret_uh {s : ByteArray} {a : ByteArray} {b : Int} (h : a = uhS s ∧ b = uhE s) : Ending.returned (.tuple #[.string a, .int .i64 b]) = .returned (.tuple #[.string (uhS s), .int .i64 (uhE s)]) := by rw [h.1, h.2]
theorem uh_next (m : List Nat) (k n : Nat) (arr : Array Value) (b : Int) (v : Nat) (hk : k < n) (hsz : arr.size = n) (hml : m.length = k) (hall : ∀ j, j < n → ∃ z, arr[j]? = some (.int .u8 z))
    (harr : ∀ j, j < k → arr[j]? = some (.int .u8 (m.getD j 0))) (hb : b = v) :
    (arr.setIfInBounds k (.int .u8 b)).size = n ∧ (m ++ [v]).length = k + 1 ∧ (∀ j, j < n → ∃ z, (arr.setIfInBounds k (.int .u8 b))[j]? = some (.int .u8 z)) ∧
      ∀ j, j < k + 1 → (arr.setIfInBounds k (.int .u8 b))[j]? = some (.int .u8 ((m ++ [v]).getD j 0)) := by
  refine ⟨by simp [hsz], by simp [hml], fun j hj => ?_, fun j hj => ?_⟩
  · rw [Array.getElem?_setIfInBounds]
    split
    · exact ⟨b, by simp [hsz]; omega⟩
    · exact hall j hj
  · rw [Array.getElem?_setIfInBounds]
    split
    · rename_i e; subst e; rw [if_pos (by omega), hb, List.getD, List.getElem?_append_right (by omega), hml]; simp
    · rw [harr j (by omega), List.getD, List.getD, List.getElem?_append_left (by omega)]
theorem uh_conv (m : List Nat) (n : Nat) (arr : Array Value) (w : World) (T : TypeId) (hsz : arr.size = n) (hml : m.length = n) (harr : ∀ j, j < n → arr[j]? = some (.int .u8 (m.getD j 0))) :
    (convert 47 9 (.slice (some ⟨w.heap.size, 0, none⟩) n n)).run Tryd.prog (w.alloc (.cells arr T)) = .ok (.string (sb m)) (w.alloc (.cells arr T)) := by
  rw [← sb_nums]
  refine run_convert_bytes_arg _ 47 5 Tryd.underlying47 Tryd.underlying5 _ 0 n n _ (by simp [hml]) (fun i hi => ?_) 9 Tryd.underlying9
  rw [Nat.zero_add, World.cell?_alloc_new, harr i hi, List.getD, List.getD, List.getElem?_map, List.getElem?_eq_getElem (by omega)]
  rfl
set_option maxHeartbeats 400000 in
theorem unhex_odd (s : ByteArray) (w : World) (hs : s.size ≤ 281474976710656) (ho : s.size % 2 = 1) :
    Calls Tryd.prog 24 #[.string s] w fun e w' => e = .returned (.tuple #[.string (uhS s), .int .i64 (uhE s)]) ∧ w' = w := by
  have HN := uh_none (unhexL_odd _ (bl s) (Nat.le_refl _) (by rw [bl_length]; exact ho))
  rw [HN.1, HN.2]
  clear HN
  have h1 : (((s.size : Int) % 2) != 0) = true := by rw [bne_iff_ne]; omega
  go_enter Tryd.func24, Tryd.ntmps24
  go_wp2
  go_ret2
  exact ⟨rfl, rfl⟩
set_option maxHeartbeats 800000 in
set_option maxRecDepth 100000 in
theorem unhex_even (s : ByteArray) (w : World) (n : Nat) (hs : s.size ≤ 281474976710656) (ho : s.size = 2 * n) (hT : TabIs w) (hw : 1 < w.heap.size) :
    Calls Tryd.prog 24 #[.string s] w fun e w' => e = .returned (.tuple #[.string (uhS s), .int .i64 (uhE s)]) ∧ Below w.heap.size w w' := by
  have h1 : (((s.size : Int) % 2) != 0) = false := by rw [bne_eq_false_iff_eq]; omega
  have h2 : (s.size : Int) / 2 = n := by omega
  have hmk := make_u8 n (by omega) w
  have HO : Hid (s.size = 2 * n) := ho
  have HT : Hid (TabIs w) := hT
  clear hT
  have hn2 : 2 * n ≤ 281474976710656 := by omega
  clear ho
  go_enter Tryd.func24, Tryd.ntmps24
  go_wp2
  go_loopw [20] (fun i wr => ∃ (k : Nat) (m : List Nat) (arr : Array Value), k ≤ n ∧ i = .int .i64 k ∧ wr = w.alloc (.cells arr 5) ∧ Hid ((arr.size = n ∧ m.length = k ∧ (∀ j, j < n → ∃ z, arr[j]? = some (.int .u8 z)) ∧ ∀ j, j < k → arr[j]? = some (.int .u8 (m.getD j 0))) ∧ unhexL (bl s) = (unhexL ((bl s).drop (2 * k))).map (m ++ ·))) (fun i _ => n - (intOf i).toNat)
  case atStart =>
    refine ⟨0, [], _, by omega, rfl, rfl, ⟨⟨?_, rfl, fun j hj => ⟨0, ?_⟩, fun j hj => by omega⟩, ?_⟩⟩
    · exact made_size n
    · exact made_get n j hj
    · simp
  case round =>
    obtain ⟨k, m, arr, hk, rfl, rfl, HR⟩ := hrel
    have hTk : TabIs (w.alloc (.cells arr 5)) := HT.out.below ((Below.refl _ _).alloc (Nat.le_refl _) _) hw
    have HTk : Hid (TabIs (w.alloc (.cells arr 5))) := hTk
    clear hTk
    by_cases hlt : k < n
    · have g1 : 2 * k < s.size := by have := HO.out; omega
      have g2 : 2 * k + 1 < s.size := by have := HO.out; omega
      obtain ⟨z, hz⟩ := HR.out.1.2.2.1 k hlt
      cases ea : dvl s[2 * k].toNat with
      | none =>
        have HA : Hid (dvl s[2 * k].toNat = none) := ea
        clear ea
        go_wp2_with fail
        refine (digitValue_any _ _ (by exact s[2 * k].toNat_lt) HTk.out).mono ?_
        rintro e w1 ⟨rfl, hw1⟩
        subst hw1
        rw [HA.out]
        go_wp2_with fail
        refine (digitValue_any _ _ (by exact s[2 * k + 1].toNat_lt) HTk.out).mono ?_
        rintro e w1 ⟨rfl, hw1⟩
        subst hw1
        go_wp2
        go_ret2
        refine ⟨ret_uh ?_, by go_grown⟩
        have hn := uh_none (unhex_bad s (2 * k) m g2 HR.out.2 (Or.inl HA.out))
        exact ⟨hn.1.symm, hn.2.symm⟩
      | some x =>
        have HA : Hid (dvl s[2 * k].toNat = some x) := ea
        clear ea
        cases eb : dvl s[2 * k + 1].toNat with
        | none =>
          have HB : Hid (dvl s[2 * k + 1].toNat = none) := eb
          clear eb
          go_wp2_with fail
          refine (digitValue_any _ _ (by exact s[2 * k].toNat_lt) HTk.out).mono ?_
          rintro e w1 ⟨rfl, hw1⟩
          subst hw1
          rw [HA.out]
          go_wp2_with fail
          refine (digitValue_any _ _ (by exact s[2 * k + 1].toNat_lt) HTk.out).mono ?_
          rintro e w1 ⟨rfl, hw1⟩
          subst hw1
          rw [HB.out]
          go_wp2
          go_ret2
          refine ⟨ret_uh ?_, by go_grown⟩
          have hn := uh_none (unhex_bad s (2 * k) m g2 HR.out.2 (Or.inr HB.out))
          exact ⟨hn.1.symm, hn.2.symm⟩
        | some y =>
          have HB : Hid (dvl s[2 * k + 1].toNat = some y) := eb
          clear eb
          have hx := (dvl_some HA.out).1
          have hy := (dvl_some HB.out).1
          go_wp2_with fail
          refine (digitValue_any _ _ (by exact s[2 * k].toNat_lt) HTk.out).mono ?_
          rintro e w1 ⟨rfl, hw1⟩
          subst hw1
          rw [HA.out]
          go_wp2_with fail
          refine (digitValue_any _ _ (by exact s[2 * k + 1].toNat_lt) HTk.out).mono ?_
          rintro e w1 ⟨rfl, hw1⟩
          subst hw1
          rw [HB.out]
          go_wp2
          go_roundw
          case rel =>
            obtain ⟨⟨a1, a2, a3, a4⟩, a5⟩ := HR.out
            refine ⟨k + 1, m ++ [x * 16 + y], _, by omega, by go_num, rfl, ⟨uh_next m k n arr _ _ hlt a1 a2 a3 a4 ?_, ?_⟩⟩
            · exact u8_sh4_or x y hx hy
            · exact unhex_step s (2 * k) m x y g2 a5 HA.out HB.out
          case measure => simp [intOf]; omega
    · have hkn : k = n := by omega
      subst hkn
      obtain ⟨⟨a1, a2, a3, a4⟩, a5⟩ := HR.out
      have hc := uh_conv m k arr w 5 a1 a2 a4
      clear a1 a3 a4
      have A2 : Hid (m.length = k) := a2
      have A5 : Hid (unhexL (bl s) = (unhexL ((bl s).drop (2 * k))).map (m ++ ·)) := a5
      clear a2 a5
      go_wp2
      go_ret2
      refine ⟨ret_uh ?_, by go_grown⟩
      have hn := uh_some (unhex_all s (2 * k) m (by have := HO.out; omega) A5.out)
      exact ⟨hn.1.symm, hn.2.symm⟩
end Go.Proofs.YtbfdggkoildfkaaDoor
