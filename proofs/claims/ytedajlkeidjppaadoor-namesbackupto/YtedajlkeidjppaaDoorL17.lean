/- The walk of munimentlaw04.NamesBack. -/
import Derived.Test.YtedajlkeidjppaaDoorN26
import Derived.Test.YtedajlkeidjppaaDoorN7
import Derived.Test.YtedajlkeidjppaaDoorP20
namespace Go.Proofs.YtedajlkeidjppaaDoor
open Go.RowKit
set_option linter.unusedSimpArgs false
set_option linter.unusedVariables false
theorem at_mem {t : ByteArray} {L : List UInt8} (h : t.data.toList = L) (i : Nat) (hi : i < t.size) : t[i] ∈ L := by
  rw [← h]
  have : t[i] = t.data.toList[i]'(by rw [data_len]; exact hi) := rfl
  rw [this]
  exact List.getElem_mem _
theorem jnS_len (xs : List ByteArray) : (jnS xs).size ≤ 4097 := by
  unfold jnS
  split
  · rename_i h
    simp only [okP, Bool.and_eq_true, decide_eq_true_eq, List.all_eq_true] at h
    have := join_len (xs.map (·.data.toList)) (fun l hl => by
      obtain ⟨x, hx, rfl⟩ := List.mem_map.1 hl
      exact (okN_split (h.2 x hx)).1)
    rw [List.length_map] at this
    rw [show (mkB (47 :: Lib.join (xs.map (·.data.toList)) [47])).size = (47 :: Lib.join (xs.map (·.data.toList)) [47]).length from size_ba _, List.length_cons]
    omega
  · show 0 ≤ 4097; omega
theorem pthX_mem (l : List UInt8) : (pthX l).length ≤ 16 ∧ ∀ x ∈ pthX l, x.size ≤ 255 := by
  unfold pthX
  cases hp : pth l with
  | none => exact ⟨by simp, fun x hx => by simp at hx⟩
  | some ys =>
    have hq : ys = [] ∨ okQ ys = true := by
      unfold pth at hp
      split at hp
      · cases hp
      · split at hp
        · split at hp
          · left; simpa using hp.symm
          · split at hp
            · rename_i h; right; simp only [Option.some.injEq] at hp; rw [← hp]; exact h
            · cases hp
        · cases hp
    rcases hq with rfl | hq
    · exact ⟨by simp, fun x hx => by simp at hx⟩
    · simp only [okQ, Bool.and_eq_true, decide_eq_true_eq, List.all_eq_true] at hq
      refine ⟨by simpa using hq.1, fun x hx => ?_⟩
      simp only [Option.getD_some, List.mem_map] at hx
      obtain ⟨y, hy, rfl⟩ := hx
      rw [show (mkB y).size = y.length from size_ba y]
      exact (okN_split (hq.2 y hy)).1
set_option maxHeartbeats 2000000 in
set_option maxRecDepth 100000 in
theorem back_walk (s t : ByteArray) (a0 : Option Addr) (cap : Nat) (xs : List ByteArray) (w : World) (hL : LieL w a0 xs) (hc : xs.length ≤ cap)
    (hs : s.size ≤ 1048576) (ht : t.size ≤ 1048576) (hx : ∀ x ∈ xs, x.size ≤ 140737488351232) (hn : xs.length * 16 ≤ 140737488351232) (hT : U8 w) (hz : Tz w) (hE : Er w) :
    Calls Tryd.prog 4 #[.string s, .string t, .slice a0 xs.length cap] w fun e w' => e = .returned (.bool true) ∧ Below w.heap.size w w' := by
  have HT : Hid (U8 w ∧ Er w ∧ Tz w) := ⟨hT, hE, hz⟩
  have HL : Hid (LieL w a0 xs) := hL
  have HX : Hid (∀ x ∈ xs, x.size ≤ 140737488351232) := hx
  have hTz : 7 < w.heap.size := hz.2
  clear hT hL hx hz hE
  obtain ⟨V, hV⟩ : ∃ V : ByteArray, (⟨(sh s.data.toList).toArray⟩ : ByteArray) = V := ⟨_, rfl⟩
  have HV : Hid (V.data.toList = sh s.data.toList) := by rw [← hV]; exact list_ba _
  have hVs : V.size ≤ 9437184 := by
    rw [← data_len, HV.out]
    have := sh_len s.data.toList _ (Nat.le_refl _)
    rw [data_len] at this
    omega
  have C1 := show_any s w (by omega) HT.out.2.2
  rw [hV] at C1
  clear hV
  go_enter Tryd.func4, Tryd.ntmps4
  go_wp2_with fail
  refine C1.mono ?_
  clear C1
  rintro e w1 ⟨rfl, hb⟩
  have H1 : Hid (Below w.heap.size w w1) := hb
  clear hb
  go_wp2_with fail
  go_loopw [8] (fun v wr => ∃ k : Nat, v = .int .i64 k ∧ k ≤ V.size ∧ wr = w1) (fun v _ => V.size - (intOf v).toNat)
  case atStart => exact ⟨0, rfl, Nat.zero_le _, rfl⟩
  case round =>
    obtain ⟨k, rfl, hk, rfl⟩ := hrel
    by_cases hlt : k < V.size
    · have hkz : (k : Int) < (V.size : Nat) := by omega
      have hpl := sh_plain s.data.toList.length s.data.toList (Nat.le_refl _) _ (at_mem HV.out k hlt)
      have p1 : ¬ ((V[k].toNat : Nat) : Int) < 32 := by omega
      have p2 : ¬ (126 : Int) < ((V[k].toNat : Nat) : Int) := by omega
      clear hpl
      go_wp2
      go_roundw
      case rel => first | exact ⟨k + 1, by go_num, by omega, rfl⟩ | exact ⟨k + 1, by go_num, by omega, trivial⟩
      case measure => simp [intOf] <;> omega
    · have hkz : ¬ (k : Int) < (V.size : Nat) := by omega
      have C2 := read_any V wr (by omega) (HT.out.2.1.below H1.out HT.out.2.1.lt.1 HT.out.2.1.lt.2) (HT.out.2.2.below H1.out hTz)
      go_wp2_with fail
      refine C2.mono ?_
      clear C2
      rintro e w2 ⟨hA, hb⟩
      have H2 : Hid (Below w.heap.size w w2) := H1.out.trans (hb.mono H1.out.size)
      clear hb
      rcases hA with ⟨T, rfl, hT1, _, hT2⟩ | ⟨_, hno⟩
      · obtain rfl : s = T := ba_ext (hT2 s.data.toList HV.out)
        clear hT1 hT2
        have hss := tl_eq (rfl : s = s)
        have C3 := read_any t w2 (by omega) (HT.out.2.1.below H2.out HT.out.2.1.lt.1 HT.out.2.1.lt.2) (HT.out.2.2.below H2.out hTz)
        go_wp2_with fail
        refine C3.mono ?_
        clear C3
        rintro e w3 ⟨hA, hb⟩
        have H3 : Hid (Below w.heap.size w w3) := H2.out.trans (hb.mono H2.out.size)
        clear hb
        obtain ⟨J, hJ⟩ : ∃ J, jnS xs = J := ⟨_, rfl⟩
        obtain ⟨JE, hJE⟩ : ∃ JE, jnE xs = JE := ⟨_, rfl⟩
        have D1 : Hid (∀ W, Below w.heap.size w W → Calls Tryd.prog 12 #[.slice a0 xs.length cap] W fun e w' => e = .returned (.tuple #[.string J, .int .i64 (JE : Nat)]) ∧ Below W.heap.size W w') := fun W hW => by
          have := join_any a0 cap xs W (HL.out.below hW) hc (fun x hx => by have := HX.out x hx; omega) (by omega) (HT.out.1.below hW)
          rw [hJ, hJE] at this
          exact this
        have D2 : Hid (∀ W, Below w.heap.size w W → JE = 0 → Calls Tryd.prog 13 #[.string J] W fun e w' => ∃ a c, e = .returned (.tuple #[.slice a xs.length c, .int .i64 ((0 : Nat) : Int)]) ∧ Spl W xs a c w') := fun W hW h0 => by
          have h := path_back xs (by rw [hJE]; exact h0)
          rw [hJ] at h
          have := split_any J W (by have := jnS_len xs; rw [hJ] at this; omega) (HT.out.1.below hW)
          rw [h.1, h.2] at this
          exact this
        clear hJ hJE
        obtain ⟨X, hX⟩ : ∃ X, pthX s.data.toList = X := ⟨_, rfl⟩
        obtain ⟨XE, hXE⟩ : ∃ XE, pthE s.data.toList = XE := ⟨_, rfl⟩
        have hX16 := pthX_mem s.data.toList
        rw [hX] at hX16
        have D3 : Hid (∀ W, Below w.heap.size w W → Calls Tryd.prog 13 #[.string s] W fun e w' => ∃ a c, e = .returned (.tuple #[.slice a X.length c, .int .i64 (XE : Nat)]) ∧ Spl W X a c w') := fun W hW => by
          have := split_any s W (by omega) (HT.out.1.below hW)
          rw [hX, hXE] at this
          exact this
        have D4 : Hid (∀ W W1 a c, Below w.heap.size w W → Spl W X a c W1 → XE = 0 → Calls Tryd.prog 12 #[.slice a X.length c] W1 fun e w' => e = .returned (.tuple #[.string s, .int .i64 ((0 : Nat) : Int)]) ∧ Below W1.heap.size W1 w') := fun W W1 a c hW h h0 => by
          have hb := join_back s (by rw [hXE]; exact h0)
          rw [hX] at hb
          have hl := spl_lie h
          have := join_any a c X W1 hl.1 hl.2 (fun x hx => by have := hX16.2 x hx; omega) (by omega) ((HT.out.1.below hW).below h.below)
          rw [hb.1, hb.2] at this
          exact this
        have HX16 : Hid (X.length ≤ 16) := hX16.1
        clear hX hXE hX16
        rcases hA with ⟨U, rfl, hU1, hU2, _⟩ | ⟨rfl, _⟩
        · have C4 := show_any U w3 (by omega) (HT.out.2.2.below H3.out hTz)
          rw [← hU1] at C4
          have hte : (⟨t.data.toList.toArray⟩ : ByteArray) = t := by simp
          rw [hte] at C4
          clear hU1 hU2 hte
          have htt := tl_eq (rfl : t = t)
          go_wp2_with fail
          refine C4.mono ?_
          clear C4
          rintro e w4 ⟨rfl, hb⟩
          have H4 : Hid (Below w.heap.size w w4) := H3.out.trans (hb.mono H3.out.size)
          clear hb
          go_wp2_with fail
          refine (D1.out w4 H4.out).mono ?_
          rintro e w5 ⟨rfl, hb⟩
          have H5 : Hid (Below w.heap.size w w5) := H4.out.trans (hb.mono H4.out.size)
          clear hb
          by_cases hj : JE = 0
          · have hj' : ((JE : Int) == 0) = true := by simp [hj]
            have D2' := D2.out w5 H5.out hj
            clear hj
            go_wp2_with fail
            refine D2'.mono ?_
            clear D2'
            rintro e w6 ⟨a6, c6, rfl, h6⟩
            have H6 : Hid (Below w.heap.size w w6) := H5.out.trans (h6.below.mono H5.out.size)
            have S1 := same_any a6 a0 c6 cap xs xs w6 (spl_lie h6).1 (HL.out.below H6.out) (by omega) (by omega)
            rw [decide_eq_true rfl] at S1
            clear h6
            go_wp2_with fail
            refine S1.mono ?_
            clear S1
            rintro e w7 ⟨rfl, hb⟩
            have H7 : Hid (Below w.heap.size w w7) := H6.out.trans (hb.mono H6.out.size)
            clear hb
            go_wp2_with fail
            refine (D3.out w7 H7.out).mono ?_
            rintro e w8 ⟨a8, c8, rfl, h8⟩
            have H8 : Hid (Below w.heap.size w w8) := H7.out.trans (h8.below.mono H7.out.size)
            by_cases hx0 : XE = 0
            · have hx' : ((XE : Int) == 0) = true := by simp [hx0]
              have D4' := D4.out w7 w8 a8 c8 H7.out h8 hx0
              clear h8 hx0
              go_wp2_with fail
              refine D4'.mono ?_
              clear D4'
              rintro e w9 ⟨rfl, hb⟩
              have H9 : Hid (Below w.heap.size w w9) := H8.out.trans (hb.mono H8.out.size)
              clear hb
              go_wp2_with fail
              refine (awake4 w9 (HT.out.1.below H9.out)).mono ?_
              rintro e w10 ⟨rfl, hb⟩
              have H10 : Hid (Below w.heap.size w w10) := H9.out.trans (hb.mono H9.out.size)
              clear hb
              go_wp2
              go_ret
              exact ⟨rfl, H10.out⟩
            · have hx' : ((XE : Int) == 0) = false := by simp; exact hx0
              clear h8 hx0
              go_wp2_with fail
              refine (awake4 w8 (HT.out.1.below H8.out)).mono ?_
              rintro e w10 ⟨rfl, hb⟩
              have H10 : Hid (Below w.heap.size w w10) := H8.out.trans (hb.mono H8.out.size)
              clear hb
              go_wp2
              go_ret
              exact ⟨rfl, H10.out⟩
          · have hj' : ((JE : Int) == 0) = false := by simp; exact hj
            clear hj
            go_wp2_with fail
            refine (D3.out w5 H5.out).mono ?_
            rintro e w8 ⟨a8, c8, rfl, h8⟩
            have H8 : Hid (Below w.heap.size w w8) := H5.out.trans (h8.below.mono H5.out.size)
            by_cases hx0 : XE = 0
            · have hx' : ((XE : Int) == 0) = true := by simp [hx0]
              have D4' := D4.out w5 w8 a8 c8 H5.out h8 hx0
              clear h8 hx0
              go_wp2_with fail
              refine D4'.mono ?_
              clear D4'
              rintro e w9 ⟨rfl, hb⟩
              have H9 : Hid (Below w.heap.size w w9) := H8.out.trans (hb.mono H8.out.size)
              clear hb
              go_wp2_with fail
              refine (awake4 w9 (HT.out.1.below H9.out)).mono ?_
              rintro e w10 ⟨rfl, hb⟩
              have H10 : Hid (Below w.heap.size w w10) := H9.out.trans (hb.mono H9.out.size)
              clear hb
              go_wp2
              go_ret
              exact ⟨rfl, H10.out⟩
            · have hx' : ((XE : Int) == 0) = false := by simp; exact hx0
              clear h8 hx0
              go_wp2_with fail
              refine (awake4 w8 (HT.out.1.below H8.out)).mono ?_
              rintro e w10 ⟨rfl, hb⟩
              have H10 : Hid (Below w.heap.size w w10) := H8.out.trans (hb.mono H8.out.size)
              clear hb
              go_wp2
              go_ret
              exact ⟨rfl, H10.out⟩
        · go_wp2_with fail
          refine (D1.out w3 H3.out).mono ?_
          rintro e w5 ⟨rfl, hb⟩
          have H5 : Hid (Below w.heap.size w w5) := H3.out.trans (hb.mono H3.out.size)
          clear hb
          by_cases hj : JE = 0
          · have hj' : ((JE : Int) == 0) = true := by simp [hj]
            have D2' := D2.out w5 H5.out hj
            clear hj
            go_wp2_with fail
            refine D2'.mono ?_
            clear D2'
            rintro e w6 ⟨a6, c6, rfl, h6⟩
            have H6 : Hid (Below w.heap.size w w6) := H5.out.trans (h6.below.mono H5.out.size)
            have S1 := same_any a6 a0 c6 cap xs xs w6 (spl_lie h6).1 (HL.out.below H6.out) (by omega) (by omega)
            rw [decide_eq_true rfl] at S1
            clear h6
            go_wp2_with fail
            refine S1.mono ?_
            clear S1
            rintro e w7 ⟨rfl, hb⟩
            have H7 : Hid (Below w.heap.size w w7) := H6.out.trans (hb.mono H6.out.size)
            clear hb
            go_wp2_with fail
            refine (D3.out w7 H7.out).mono ?_
            rintro e w8 ⟨a8, c8, rfl, h8⟩
            have H8 : Hid (Below w.heap.size w w8) := H7.out.trans (h8.below.mono H7.out.size)
            by_cases hx0 : XE = 0
            · have hx' : ((XE : Int) == 0) = true := by simp [hx0]
              have D4' := D4.out w7 w8 a8 c8 H7.out h8 hx0
              clear h8 hx0
              go_wp2_with fail
              refine D4'.mono ?_
              clear D4'
              rintro e w9 ⟨rfl, hb⟩
              have H9 : Hid (Below w.heap.size w w9) := H8.out.trans (hb.mono H8.out.size)
              clear hb
              go_wp2_with fail
              refine (awake4 w9 (HT.out.1.below H9.out)).mono ?_
              rintro e w10 ⟨rfl, hb⟩
              have H10 : Hid (Below w.heap.size w w10) := H9.out.trans (hb.mono H9.out.size)
              clear hb
              go_wp2
              go_ret
              exact ⟨rfl, H10.out⟩
            · have hx' : ((XE : Int) == 0) = false := by simp; exact hx0
              clear h8 hx0
              go_wp2_with fail
              refine (awake4 w8 (HT.out.1.below H8.out)).mono ?_
              rintro e w10 ⟨rfl, hb⟩
              have H10 : Hid (Below w.heap.size w w10) := H8.out.trans (hb.mono H8.out.size)
              clear hb
              go_wp2
              go_ret
              exact ⟨rfl, H10.out⟩
          · have hj' : ((JE : Int) == 0) = false := by simp; exact hj
            clear hj
            go_wp2_with fail
            refine (D3.out w5 H5.out).mono ?_
            rintro e w8 ⟨a8, c8, rfl, h8⟩
            have H8 : Hid (Below w.heap.size w w8) := H5.out.trans (h8.below.mono H5.out.size)
            by_cases hx0 : XE = 0
            · have hx' : ((XE : Int) == 0) = true := by simp [hx0]
              have D4' := D4.out w5 w8 a8 c8 H5.out h8 hx0
              clear h8 hx0
              go_wp2_with fail
              refine D4'.mono ?_
              clear D4'
              rintro e w9 ⟨rfl, hb⟩
              have H9 : Hid (Below w.heap.size w w9) := H8.out.trans (hb.mono H8.out.size)
              clear hb
              go_wp2_with fail
              refine (awake4 w9 (HT.out.1.below H9.out)).mono ?_
              rintro e w10 ⟨rfl, hb⟩
              have H10 : Hid (Below w.heap.size w w10) := H9.out.trans (hb.mono H9.out.size)
              clear hb
              go_wp2
              go_ret
              exact ⟨rfl, H10.out⟩
            · have hx' : ((XE : Int) == 0) = false := by simp; exact hx0
              clear h8 hx0
              go_wp2_with fail
              refine (awake4 w8 (HT.out.1.below H8.out)).mono ?_
              rintro e w10 ⟨rfl, hb⟩
              have H10 : Hid (Below w.heap.size w w10) := H8.out.trans (hb.mono H8.out.size)
              clear hb
              go_wp2
              go_ret
              exact ⟨rfl, H10.out⟩
      · exact absurd HV.out (hno _)
end Go.Proofs.YtedajlkeidjppaaDoor
