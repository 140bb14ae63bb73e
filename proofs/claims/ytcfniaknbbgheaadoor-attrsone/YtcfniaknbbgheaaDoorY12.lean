import Derived.Test.YtcfniaknbbgheaaDoorY11
import Derived.Test.YtcfniaknbbgheaaDoorY1
import Derived.Lib.IndexBytes
/- The document's Modes at any mode. -/
namespace Go.Proofs.YtcfniaknbbgheaaDoor
open Go.RowKit
set_option linter.unusedSimpArgs false
set_option linter.unusedVariables false
/-- A third of a mode. -/
def thd (m : Nat) : Nat → List UInt8
  | 0 => tri m 8 7 6 11 [45, 120, 83, 115]
  | 1 => tri m 5 4 3 10 [45, 120, 83, 115]
  | _ => tri m 2 1 0 9 [45, 120, 84, 116]
/-- How the letters stand. -/
structure MD (w : World) (l : List UInt8) (n g cp : Nat) (wr : World) : Prop where
  bel : Below w.heap.size w wr
  ow : wr.ownsRow w.heap.size 5 1 (.slice (some ⟨g, 0, none⟩) n cp) n (u8c l)
theorem one_u8 (z : Int) : ∀ u ∈ [Value.int .u8 z], u.oneCell' = true := by
  intro u hu
  rw [List.mem_singleton] at hu
  subst hu
  rfl
theorem news_u8 (w : World) (z : Int) : ∀ (j : Nat) (u : Value), [Value.int .u8 z][j]? = some u → (w.alloc (.cells #[.int .u8 z] 5)).cell? ((⟨w.heap.size, 0, none⟩ : Addr).add j) = some u := by
  intro j u hu
  rw [WideShapes.add_plain, Nat.zero_add, World.cell?_alloc_new]
  show ([Value.int .u8 z].toArray)[j]? = some u
  rw [List.getElem?_toArray]
  exact hu
theorem MD.app {w wr w7 : World} {l l' : List UInt8} {n g cp : Nat} {z : Int} {v' : Value} (c : UInt8) (h : MD w l n g cp wr) (hz : z = (c.toNat : Int)) (hl : l' = l ++ [c])
    (hown : w7.ownsRow w.heap.size 5 1 v' (n + 1) (u8c l ++ [.int .u8 z])) (hgrow : (wr.alloc (.cells #[.int .u8 z] 5)).grownBy w7 (Value.slice (some ⟨g, 0, none⟩) n cp).ownBlock) :
    ∃ g' cp', v' = .slice (some ⟨g', 0, none⟩) (n + 1) cp' ∧ MD w l' (n + 1) g' cp' w7 := by
  obtain ⟨g', cp', hv⟩ : ∃ g7 c7, v' = .slice (some ⟨g7, 0, none⟩) (n + 1) c7 := by
    rcases hown.2 with ⟨_, h0⟩ | ⟨g7, c7, cur, h1, _⟩
    · omega
    · exact ⟨g7, c7, h1⟩
  subst hv
  refine ⟨g', cp', rfl, rows_bel (h.bel.alloc h.bel.size _) (by rw [al_size]; have := h.bel.size; omega) (h.ow.alloc _) (Nat.le_refl _) hgrow, ?_⟩
  have e : u8c l' = u8c l ++ [.int .u8 z] := by rw [hl, hz]; simp [u8c]
  rw [e]
  exact hown
theorem mlen (c : UInt8) (m : Nat) : (mlL c m 3).length = 10 := rfl
set_option maxHeartbeats 16000000 in
set_option maxRecDepth 100000 in
theorem rmodes_any (nd m : Nat) (w : World) (h1 : 1 ≤ nd) (h3 : nd ≤ 3) (hmz : m < 4096) : Calls Tryd.prog 11 #[.int .u8 (nd : Int), .int .u32 (m : Int)] w fun e w' => e = .returned (.tuple #[.string ⟨(mlL (ndC nd) m 3).toArray⟩, .int .i64 0]) ∧ Below w.heap.size w w' := by
  have hnd : nd = 1 ∨ nd = 2 ∨ nd = 3 := by omega
  obtain ⟨cz, hcz⟩ : ∃ c : Int, c = ((ndC nd).toNat : Int) := ⟨_, rfl⟩
  have hix : ∀ W, (Instr.index 9 (.string ⟨#[45, 100, 108]⟩) (.int .u8 ((nd : Int) - 1))).run Tryd.prog W = .ok (.int .u8 cz) W := fun W => by rw [hcz]; rcases hnd with rfl | rfl | rfl <;> kernel_rfl
  have hsub : IntKind.u8.wrap ((nd : Int) - 1) = (nd : Int) - 1 := by rcases hnd with rfl | rfl | rfl <;> rfl
  have HCZ : Hid (cz = ((ndC nd).toNat : Int)) := hcz
  obtain ⟨Q, hQ⟩ : ∃ Q : ByteArray, (⟨(mlL (ndC nd) m 3).toArray⟩ : ByteArray) = Q := ⟨_, rfl⟩
  rw [hQ]
  have HQ : Hid ((⟨(mlL (ndC nd) m 3).toArray⟩ : ByteArray) = Q) := hQ
  clear hQ
  have HMZ : Hid (m < 4096) := hmz
  have z1 : ¬ (nd : Int) < 1 := by omega
  have z2 : ¬ 3 < (nd : Int) := by omega
  have z3 : ¬ 4095 < (m : Int) := by omega
  obtain ⟨i0, hi0, hz0, hz1, hz2⟩ := info_parts inf_u8_10
  clear hcz hmz hnd
  go_enter Tryd.func11, Tryd.ntmps11
  go_wp2_with fail
  clear hix hsub
  go_loopw [6, 7] (fun x v wr => ∃ (iz : Int) (i n g cp : Nat), x = .slice (some ⟨g, 0, none⟩) n cp ∧ v = .int .i64 iz ∧ iz = i ∧ i ≤ 3 ∧ n = 1 + 3 * i ∧ Hid (MD w (mlL (ndC nd) m i) n g cp wr)) (fun x v _ => 3 - (intOf v).toNat)
  case atStart => exact ⟨0, 0, 1, _, _, rfl, rfl, rfl, by omega, rfl, (Below.refl _ _).alloc (Nat.le_refl _) _, ⟨rfl, .inr ⟨_, _, #[.int .u8 cz], rfl, Nat.le_refl _, bk_new w #[.int .u8 cz] 5, by decide, by decide, rfl, by rw [HCZ.out]; rfl⟩⟩⟩
  case round =>
    obtain ⟨iz, i, n, g, cp, rfl, rfl, hiz, hi, hn, HR⟩ := hrel
    have hi4 : i = 0 ∨ i = 1 ∨ i = 2 ∨ i = 3 := by omega
    rcases hi4 with rfl | rfl | rfl | rfl
    · obtain rfl : n = 1 := by omega
      obtain rfl : iz = 0 := by omega
      clear hn hi hiz
      obtain ⟨SP, hSP⟩ : ∃ b, ((m : Int) / 2048 % 2 == 1) = b := ⟨_, rfl⟩
      have HSP : Hid (((m : Int) / 2048 % 2 == 1) = SP) := hSP
      go_wp2_with fail
      clear hSP
      go_loopw [6, 10] (fun x v wr => ∃ (k n g cp : Nat), x = .slice (some ⟨g, 0, none⟩) n cp ∧ v = .int .i64 k ∧ k ≤ 3 ∧ n = 1 + k ∧ Hid (MD w (mlL (ndC nd) m 0 ++ (thd m 0).take k) n g cp wr)) (fun x v _ => 3 - (intOf v).toNat)
      case atStart => exact ⟨0, 1, g, cp, rfl, rfl, by omega, rfl, by have q := HR.out; simp only [List.take_zero, List.append_nil]; exact q⟩
      case round =>
        obtain ⟨k, n, g, cp, rfl, rfl, hk, hn, HR⟩ := hrel
        have hk4 : k = 0 ∨ k = 1 ∨ k = 2 ∨ k = 3 := by omega
        rcases hk4 with rfl | rfl | rfl | rfl
        · obtain rfl : n = 1 := by omega
          clear hn hk
          have hb2 : mbit m 8 = 0 ∨ mbit m 8 = 1 := by have := mbit_lt m 8; omega
          rcases hb2 with hb | hb
          · have x1 : ((m : Int) / 64 % 8 / 4 % 2 == 1) = false := by
              have : m / 2 ^ 8 % 2 = 0 := hb
              have e : (m : Int) / 64 % 8 / 4 % 2 = 0 := by omega
              rw [e]; rfl
            have HB : Hid (mbit m 8 = 0) := hb
            clear hb
            go_wp2_with (at_builtin; refine wpList_append_own _ rfl _ _ 58 rfl w.heap.size 5 i0 (.int .u8 0) 1 1 Tryd.underlying58 hi0 hz0 hz1 hz2 rfl (by decide) _ _ _ rfl (HR.out.ow.alloc _) ⟨wr.heap.size, 0, none⟩ 1 1 [.int .u8 45] rfl rfl (news_u8 _ _) (one_u8 _) (by unfold maxLen; omega) (by omega) (by have := HR.out.bel.size; rw [al_size]; omega) ?_)
            intro v' w7 hown hgrow _
            obtain ⟨g7, cp7, rfl, hMD⟩ := HR.out.app 45 (l' := mlL (ndC nd) m 0 ++ (thd m 0).take 1) rfl (by
              have q : (thd m 0).take 1 = (thd m 0).take 0 ++ [45] := by simp only [thd, tri, HB.out]; rfl
              rw [q, List.append_assoc]) hown hgrow
            have HR7 : Hid (MD w (mlL (ndC nd) m 0 ++ (thd m 0).take 1) 2 g7 cp7 w7) := hMD
            clear hown hgrow hMD HR
            go_wp2_with fail
            go_roundw
            case rel => exact ⟨1, 2, g7, cp7, rfl, by go_num, by omega, by omega, HR7.out⟩
            case measure => simp [intOf]
          · have x1 : ((m : Int) / 64 % 8 / 4 % 2 == 1) = true := by
              have : m / 2 ^ 8 % 2 = 1 := hb
              have e : (m : Int) / 64 % 8 / 4 % 2 = 1 := by omega
              rw [e]; rfl
            have HB : Hid (mbit m 8 = 1) := hb
            clear hb
            go_wp2_with (at_builtin; refine wpList_append_own _ rfl _ _ 58 rfl w.heap.size 5 i0 (.int .u8 0) 1 1 Tryd.underlying58 hi0 hz0 hz1 hz2 rfl (by decide) _ _ _ rfl (HR.out.ow.alloc _) ⟨wr.heap.size, 0, none⟩ 1 1 [.int .u8 114] rfl rfl (news_u8 _ _) (one_u8 _) (by unfold maxLen; omega) (by omega) (by have := HR.out.bel.size; rw [al_size]; omega) ?_)
            intro v' w7 hown hgrow _
            obtain ⟨g7, cp7, rfl, hMD⟩ := HR.out.app 114 (l' := mlL (ndC nd) m 0 ++ (thd m 0).take 1) rfl (by
              have q : (thd m 0).take 1 = (thd m 0).take 0 ++ [114] := by simp only [thd, tri, HB.out]; rfl
              rw [q, List.append_assoc]) hown hgrow
            have HR7 : Hid (MD w (mlL (ndC nd) m 0 ++ (thd m 0).take 1) 2 g7 cp7 w7) := hMD
            clear hown hgrow hMD HR
            go_wp2_with fail
            go_roundw
            case rel => exact ⟨1, 2, g7, cp7, rfl, by go_num, by omega, by omega, HR7.out⟩
            case measure => simp [intOf]
        · obtain rfl : n = 2 := by omega
          clear hn hk
          have hb2 : mbit m 7 = 0 ∨ mbit m 7 = 1 := by have := mbit_lt m 7; omega
          rcases hb2 with hb | hb
          · have x1 : ((m : Int) / 64 % 8 / 2 % 2 == 1) = false := by
              have : m / 2 ^ 7 % 2 = 0 := hb
              have e : (m : Int) / 64 % 8 / 2 % 2 = 0 := by omega
              rw [e]; rfl
            have HB : Hid (mbit m 7 = 0) := hb
            clear hb
            go_wp2_with (at_builtin; refine wpList_append_own _ rfl _ _ 58 rfl w.heap.size 5 i0 (.int .u8 0) 1 1 Tryd.underlying58 hi0 hz0 hz1 hz2 rfl (by decide) _ _ _ rfl (HR.out.ow.alloc _) ⟨wr.heap.size, 0, none⟩ 1 1 [.int .u8 45] rfl rfl (news_u8 _ _) (one_u8 _) (by unfold maxLen; omega) (by omega) (by have := HR.out.bel.size; rw [al_size]; omega) ?_)
            intro v' w7 hown hgrow _
            obtain ⟨g7, cp7, rfl, hMD⟩ := HR.out.app 45 (l' := mlL (ndC nd) m 0 ++ (thd m 0).take 2) rfl (by
              have q : (thd m 0).take 2 = (thd m 0).take 1 ++ [45] := by simp only [thd, tri, HB.out]; rfl
              rw [q, List.append_assoc]) hown hgrow
            have HR7 : Hid (MD w (mlL (ndC nd) m 0 ++ (thd m 0).take 2) 3 g7 cp7 w7) := hMD
            clear hown hgrow hMD HR
            go_wp2_with fail
            go_roundw
            case rel => exact ⟨2, 3, g7, cp7, rfl, by go_num, by omega, by omega, HR7.out⟩
            case measure => simp [intOf]
          · have x1 : ((m : Int) / 64 % 8 / 2 % 2 == 1) = true := by
              have : m / 2 ^ 7 % 2 = 1 := hb
              have e : (m : Int) / 64 % 8 / 2 % 2 = 1 := by omega
              rw [e]; rfl
            have HB : Hid (mbit m 7 = 1) := hb
            clear hb
            go_wp2_with (at_builtin; refine wpList_append_own _ rfl _ _ 58 rfl w.heap.size 5 i0 (.int .u8 0) 1 1 Tryd.underlying58 hi0 hz0 hz1 hz2 rfl (by decide) _ _ _ rfl (HR.out.ow.alloc _) ⟨wr.heap.size, 0, none⟩ 1 1 [.int .u8 119] rfl rfl (news_u8 _ _) (one_u8 _) (by unfold maxLen; omega) (by omega) (by have := HR.out.bel.size; rw [al_size]; omega) ?_)
            intro v' w7 hown hgrow _
            obtain ⟨g7, cp7, rfl, hMD⟩ := HR.out.app 119 (l' := mlL (ndC nd) m 0 ++ (thd m 0).take 2) rfl (by
              have q : (thd m 0).take 2 = (thd m 0).take 1 ++ [119] := by simp only [thd, tri, HB.out]; rfl
              rw [q, List.append_assoc]) hown hgrow
            have HR7 : Hid (MD w (mlL (ndC nd) m 0 ++ (thd m 0).take 2) 3 g7 cp7 w7) := hMD
            clear hown hgrow hMD HR
            go_wp2_with fail
            go_roundw
            case rel => exact ⟨2, 3, g7, cp7, rfl, by go_num, by omega, by omega, HR7.out⟩
            case measure => simp [intOf]
        · obtain rfl : n = 3 := by omega
          clear hn hk
          have hb2 : mbit m 6 = 0 ∨ mbit m 6 = 1 := by have := mbit_lt m 6; omega
          rcases hb2 with hb | hb
          · have x1 : ((m : Int) / 64 % 8 % 2 == 1) = false := by
              have : m / 2 ^ 6 % 2 = 0 := hb
              have e : (m : Int) / 64 % 8 % 2 = 0 := by omega
              rw [e]; rfl
            have HB : Hid (mbit m 6 = 0) := hb
            clear hb
            cases SP
            · have HS : Hid (mbit m 11 = 0) := by
                show m / 2 ^ 11 % 2 = 0
                have e := HSP.out
                have e := ne_of_beq_false e
                have e2 : m / 2 ^ 11 % 2 < 2 := Nat.mod_lt _ (by decide)
                omega
              go_wp2_with (at_builtin; refine wpList_append_own _ rfl _ _ 58 rfl w.heap.size 5 i0 (.int .u8 0) 1 1 Tryd.underlying58 hi0 hz0 hz1 hz2 rfl (by decide) _ _ _ rfl (HR.out.ow.alloc _) ⟨wr.heap.size, 0, none⟩ 1 1 [.int .u8 45] rfl rfl (news_u8 _ _) (one_u8 _) (by unfold maxLen; omega) (by omega) (by have := HR.out.bel.size; rw [al_size]; omega) ?_)
              intro v' w7 hown hgrow _
              obtain ⟨g7, cp7, rfl, hMD⟩ := HR.out.app 45 (l' := mlL (ndC nd) m 0 ++ (thd m 0).take 3) rfl (by
                have q : (thd m 0).take 3 = (thd m 0).take 2 ++ [45] := by simp only [thd, tri, HB.out, HS.out]; rfl
                rw [q, List.append_assoc]) hown hgrow
              have HR7 : Hid (MD w (mlL (ndC nd) m 0 ++ (thd m 0).take 3) 4 g7 cp7 w7) := hMD
              clear hown hgrow hMD HR
              go_wp2_with fail
              go_roundw
              case rel => exact ⟨3, 4, g7, cp7, rfl, by go_num, by omega, by omega, HR7.out⟩
              case measure => simp [intOf]
            · have HS : Hid (mbit m 11 = 1) := by
                show m / 2 ^ 11 % 2 = 1
                have e := HSP.out
                have e := eq_of_beq e
                have e2 : m / 2 ^ 11 % 2 < 2 := Nat.mod_lt _ (by decide)
                omega
              go_wp2_with (at_builtin; refine wpList_append_own _ rfl _ _ 58 rfl w.heap.size 5 i0 (.int .u8 0) 1 1 Tryd.underlying58 hi0 hz0 hz1 hz2 rfl (by decide) _ _ _ rfl (HR.out.ow.alloc _) ⟨wr.heap.size, 0, none⟩ 1 1 [.int .u8 83] rfl rfl (news_u8 _ _) (one_u8 _) (by unfold maxLen; omega) (by omega) (by have := HR.out.bel.size; rw [al_size]; omega) ?_)
              intro v' w7 hown hgrow _
              obtain ⟨g7, cp7, rfl, hMD⟩ := HR.out.app 83 (l' := mlL (ndC nd) m 0 ++ (thd m 0).take 3) rfl (by
                have q : (thd m 0).take 3 = (thd m 0).take 2 ++ [83] := by simp only [thd, tri, HB.out, HS.out]; rfl
                rw [q, List.append_assoc]) hown hgrow
              have HR7 : Hid (MD w (mlL (ndC nd) m 0 ++ (thd m 0).take 3) 4 g7 cp7 w7) := hMD
              clear hown hgrow hMD HR
              go_wp2_with fail
              go_roundw
              case rel => exact ⟨3, 4, g7, cp7, rfl, by go_num, by omega, by omega, HR7.out⟩
              case measure => simp [intOf]
          · have x1 : ((m : Int) / 64 % 8 % 2 == 1) = true := by
              have : m / 2 ^ 6 % 2 = 1 := hb
              have e : (m : Int) / 64 % 8 % 2 = 1 := by omega
              rw [e]; rfl
            have HB : Hid (mbit m 6 = 1) := hb
            clear hb
            cases SP
            · have HS : Hid (mbit m 11 = 0) := by
                show m / 2 ^ 11 % 2 = 0
                have e := HSP.out
                have e := ne_of_beq_false e
                have e2 : m / 2 ^ 11 % 2 < 2 := Nat.mod_lt _ (by decide)
                omega
              go_wp2_with (at_builtin; refine wpList_append_own _ rfl _ _ 58 rfl w.heap.size 5 i0 (.int .u8 0) 1 1 Tryd.underlying58 hi0 hz0 hz1 hz2 rfl (by decide) _ _ _ rfl (HR.out.ow.alloc _) ⟨wr.heap.size, 0, none⟩ 1 1 [.int .u8 120] rfl rfl (news_u8 _ _) (one_u8 _) (by unfold maxLen; omega) (by omega) (by have := HR.out.bel.size; rw [al_size]; omega) ?_)
              intro v' w7 hown hgrow _
              obtain ⟨g7, cp7, rfl, hMD⟩ := HR.out.app 120 (l' := mlL (ndC nd) m 0 ++ (thd m 0).take 3) rfl (by
                have q : (thd m 0).take 3 = (thd m 0).take 2 ++ [120] := by simp only [thd, tri, HB.out, HS.out]; rfl
                rw [q, List.append_assoc]) hown hgrow
              have HR7 : Hid (MD w (mlL (ndC nd) m 0 ++ (thd m 0).take 3) 4 g7 cp7 w7) := hMD
              clear hown hgrow hMD HR
              go_wp2_with fail
              go_roundw
              case rel => exact ⟨3, 4, g7, cp7, rfl, by go_num, by omega, by omega, HR7.out⟩
              case measure => simp [intOf]
            · have HS : Hid (mbit m 11 = 1) := by
                show m / 2 ^ 11 % 2 = 1
                have e := HSP.out
                have e := eq_of_beq e
                have e2 : m / 2 ^ 11 % 2 < 2 := Nat.mod_lt _ (by decide)
                omega
              go_wp2_with (at_builtin; refine wpList_append_own _ rfl _ _ 58 rfl w.heap.size 5 i0 (.int .u8 0) 1 1 Tryd.underlying58 hi0 hz0 hz1 hz2 rfl (by decide) _ _ _ rfl (HR.out.ow.alloc _) ⟨wr.heap.size, 0, none⟩ 1 1 [.int .u8 115] rfl rfl (news_u8 _ _) (one_u8 _) (by unfold maxLen; omega) (by omega) (by have := HR.out.bel.size; rw [al_size]; omega) ?_)
              intro v' w7 hown hgrow _
              obtain ⟨g7, cp7, rfl, hMD⟩ := HR.out.app 115 (l' := mlL (ndC nd) m 0 ++ (thd m 0).take 3) rfl (by
                have q : (thd m 0).take 3 = (thd m 0).take 2 ++ [115] := by simp only [thd, tri, HB.out, HS.out]; rfl
                rw [q, List.append_assoc]) hown hgrow
              have HR7 : Hid (MD w (mlL (ndC nd) m 0 ++ (thd m 0).take 3) 4 g7 cp7 w7) := hMD
              clear hown hgrow hMD HR
              go_wp2_with fail
              go_roundw
              case rel => exact ⟨3, 4, g7, cp7, rfl, by go_num, by omega, by omega, HR7.out⟩
              case measure => simp [intOf]
        · obtain rfl : n = 4 := by omega
          clear hn hk
          have HR3 : Hid (MD w (mlL (ndC nd) m 1) 4 g cp wr) := HR.out
          go_wp2_with fail
          go_roundw
          case rel => exact ⟨1, 1, 4, g, cp, rfl, by go_num, by omega, by omega, by omega, HR3.out⟩
          case measure => simp [intOf]
    · obtain rfl : n = 4 := by omega
      obtain rfl : iz = 1 := by omega
      clear hn hi hiz
      obtain ⟨SP, hSP⟩ : ∃ b, ((m : Int) / 1024 % 2 == 1) = b := ⟨_, rfl⟩
      have HSP : Hid (((m : Int) / 1024 % 2 == 1) = SP) := hSP
      go_wp2_with fail
      clear hSP
      go_loopw [6, 10] (fun x v wr => ∃ (k n g cp : Nat), x = .slice (some ⟨g, 0, none⟩) n cp ∧ v = .int .i64 k ∧ k ≤ 3 ∧ n = 4 + k ∧ Hid (MD w (mlL (ndC nd) m 1 ++ (thd m 1).take k) n g cp wr)) (fun x v _ => 3 - (intOf v).toNat)
      case atStart => exact ⟨0, 4, g, cp, rfl, rfl, by omega, rfl, by have q := HR.out; simp only [List.take_zero, List.append_nil]; exact q⟩
      case round =>
        obtain ⟨k, n, g, cp, rfl, rfl, hk, hn, HR⟩ := hrel
        have hk4 : k = 0 ∨ k = 1 ∨ k = 2 ∨ k = 3 := by omega
        rcases hk4 with rfl | rfl | rfl | rfl
        · obtain rfl : n = 4 := by omega
          clear hn hk
          have hb2 : mbit m 5 = 0 ∨ mbit m 5 = 1 := by have := mbit_lt m 5; omega
          rcases hb2 with hb | hb
          · have x1 : ((m : Int) / 8 % 8 / 4 % 2 == 1) = false := by
              have : m / 2 ^ 5 % 2 = 0 := hb
              have e : (m : Int) / 8 % 8 / 4 % 2 = 0 := by omega
              rw [e]; rfl
            have HB : Hid (mbit m 5 = 0) := hb
            clear hb
            go_wp2_with (at_builtin; refine wpList_append_own _ rfl _ _ 58 rfl w.heap.size 5 i0 (.int .u8 0) 1 1 Tryd.underlying58 hi0 hz0 hz1 hz2 rfl (by decide) _ _ _ rfl (HR.out.ow.alloc _) ⟨wr.heap.size, 0, none⟩ 1 1 [.int .u8 45] rfl rfl (news_u8 _ _) (one_u8 _) (by unfold maxLen; omega) (by omega) (by have := HR.out.bel.size; rw [al_size]; omega) ?_)
            intro v' w7 hown hgrow _
            obtain ⟨g7, cp7, rfl, hMD⟩ := HR.out.app 45 (l' := mlL (ndC nd) m 1 ++ (thd m 1).take 1) rfl (by
              have q : (thd m 1).take 1 = (thd m 1).take 0 ++ [45] := by simp only [thd, tri, HB.out]; rfl
              rw [q, List.append_assoc]) hown hgrow
            have HR7 : Hid (MD w (mlL (ndC nd) m 1 ++ (thd m 1).take 1) 5 g7 cp7 w7) := hMD
            clear hown hgrow hMD HR
            go_wp2_with fail
            go_roundw
            case rel => exact ⟨1, 5, g7, cp7, rfl, by go_num, by omega, by omega, HR7.out⟩
            case measure => simp [intOf]
          · have x1 : ((m : Int) / 8 % 8 / 4 % 2 == 1) = true := by
              have : m / 2 ^ 5 % 2 = 1 := hb
              have e : (m : Int) / 8 % 8 / 4 % 2 = 1 := by omega
              rw [e]; rfl
            have HB : Hid (mbit m 5 = 1) := hb
            clear hb
            go_wp2_with (at_builtin; refine wpList_append_own _ rfl _ _ 58 rfl w.heap.size 5 i0 (.int .u8 0) 1 1 Tryd.underlying58 hi0 hz0 hz1 hz2 rfl (by decide) _ _ _ rfl (HR.out.ow.alloc _) ⟨wr.heap.size, 0, none⟩ 1 1 [.int .u8 114] rfl rfl (news_u8 _ _) (one_u8 _) (by unfold maxLen; omega) (by omega) (by have := HR.out.bel.size; rw [al_size]; omega) ?_)
            intro v' w7 hown hgrow _
            obtain ⟨g7, cp7, rfl, hMD⟩ := HR.out.app 114 (l' := mlL (ndC nd) m 1 ++ (thd m 1).take 1) rfl (by
              have q : (thd m 1).take 1 = (thd m 1).take 0 ++ [114] := by simp only [thd, tri, HB.out]; rfl
              rw [q, List.append_assoc]) hown hgrow
            have HR7 : Hid (MD w (mlL (ndC nd) m 1 ++ (thd m 1).take 1) 5 g7 cp7 w7) := hMD
            clear hown hgrow hMD HR
            go_wp2_with fail
            go_roundw
            case rel => exact ⟨1, 5, g7, cp7, rfl, by go_num, by omega, by omega, HR7.out⟩
            case measure => simp [intOf]
        · obtain rfl : n = 5 := by omega
          clear hn hk
          have hb2 : mbit m 4 = 0 ∨ mbit m 4 = 1 := by have := mbit_lt m 4; omega
          rcases hb2 with hb | hb
          · have x1 : ((m : Int) / 8 % 8 / 2 % 2 == 1) = false := by
              have : m / 2 ^ 4 % 2 = 0 := hb
              have e : (m : Int) / 8 % 8 / 2 % 2 = 0 := by omega
              rw [e]; rfl
            have HB : Hid (mbit m 4 = 0) := hb
            clear hb
            go_wp2_with (at_builtin; refine wpList_append_own _ rfl _ _ 58 rfl w.heap.size 5 i0 (.int .u8 0) 1 1 Tryd.underlying58 hi0 hz0 hz1 hz2 rfl (by decide) _ _ _ rfl (HR.out.ow.alloc _) ⟨wr.heap.size, 0, none⟩ 1 1 [.int .u8 45] rfl rfl (news_u8 _ _) (one_u8 _) (by unfold maxLen; omega) (by omega) (by have := HR.out.bel.size; rw [al_size]; omega) ?_)
            intro v' w7 hown hgrow _
            obtain ⟨g7, cp7, rfl, hMD⟩ := HR.out.app 45 (l' := mlL (ndC nd) m 1 ++ (thd m 1).take 2) rfl (by
              have q : (thd m 1).take 2 = (thd m 1).take 1 ++ [45] := by simp only [thd, tri, HB.out]; rfl
              rw [q, List.append_assoc]) hown hgrow
            have HR7 : Hid (MD w (mlL (ndC nd) m 1 ++ (thd m 1).take 2) 6 g7 cp7 w7) := hMD
            clear hown hgrow hMD HR
            go_wp2_with fail
            go_roundw
            case rel => exact ⟨2, 6, g7, cp7, rfl, by go_num, by omega, by omega, HR7.out⟩
            case measure => simp [intOf]
          · have x1 : ((m : Int) / 8 % 8 / 2 % 2 == 1) = true := by
              have : m / 2 ^ 4 % 2 = 1 := hb
              have e : (m : Int) / 8 % 8 / 2 % 2 = 1 := by omega
              rw [e]; rfl
            have HB : Hid (mbit m 4 = 1) := hb
            clear hb
            go_wp2_with (at_builtin; refine wpList_append_own _ rfl _ _ 58 rfl w.heap.size 5 i0 (.int .u8 0) 1 1 Tryd.underlying58 hi0 hz0 hz1 hz2 rfl (by decide) _ _ _ rfl (HR.out.ow.alloc _) ⟨wr.heap.size, 0, none⟩ 1 1 [.int .u8 119] rfl rfl (news_u8 _ _) (one_u8 _) (by unfold maxLen; omega) (by omega) (by have := HR.out.bel.size; rw [al_size]; omega) ?_)
            intro v' w7 hown hgrow _
            obtain ⟨g7, cp7, rfl, hMD⟩ := HR.out.app 119 (l' := mlL (ndC nd) m 1 ++ (thd m 1).take 2) rfl (by
              have q : (thd m 1).take 2 = (thd m 1).take 1 ++ [119] := by simp only [thd, tri, HB.out]; rfl
              rw [q, List.append_assoc]) hown hgrow
            have HR7 : Hid (MD w (mlL (ndC nd) m 1 ++ (thd m 1).take 2) 6 g7 cp7 w7) := hMD
            clear hown hgrow hMD HR
            go_wp2_with fail
            go_roundw
            case rel => exact ⟨2, 6, g7, cp7, rfl, by go_num, by omega, by omega, HR7.out⟩
            case measure => simp [intOf]
        · obtain rfl : n = 6 := by omega
          clear hn hk
          have hb2 : mbit m 3 = 0 ∨ mbit m 3 = 1 := by have := mbit_lt m 3; omega
          rcases hb2 with hb | hb
          · have x1 : ((m : Int) / 8 % 8 % 2 == 1) = false := by
              have : m / 2 ^ 3 % 2 = 0 := hb
              have e : (m : Int) / 8 % 8 % 2 = 0 := by omega
              rw [e]; rfl
            have HB : Hid (mbit m 3 = 0) := hb
            clear hb
            cases SP
            · have HS : Hid (mbit m 10 = 0) := by
                show m / 2 ^ 10 % 2 = 0
                have e := HSP.out
                have e := ne_of_beq_false e
                have e2 : m / 2 ^ 10 % 2 < 2 := Nat.mod_lt _ (by decide)
                omega
              go_wp2_with (at_builtin; refine wpList_append_own _ rfl _ _ 58 rfl w.heap.size 5 i0 (.int .u8 0) 1 1 Tryd.underlying58 hi0 hz0 hz1 hz2 rfl (by decide) _ _ _ rfl (HR.out.ow.alloc _) ⟨wr.heap.size, 0, none⟩ 1 1 [.int .u8 45] rfl rfl (news_u8 _ _) (one_u8 _) (by unfold maxLen; omega) (by omega) (by have := HR.out.bel.size; rw [al_size]; omega) ?_)
              intro v' w7 hown hgrow _
              obtain ⟨g7, cp7, rfl, hMD⟩ := HR.out.app 45 (l' := mlL (ndC nd) m 1 ++ (thd m 1).take 3) rfl (by
                have q : (thd m 1).take 3 = (thd m 1).take 2 ++ [45] := by simp only [thd, tri, HB.out, HS.out]; rfl
                rw [q, List.append_assoc]) hown hgrow
              have HR7 : Hid (MD w (mlL (ndC nd) m 1 ++ (thd m 1).take 3) 7 g7 cp7 w7) := hMD
              clear hown hgrow hMD HR
              go_wp2_with fail
              go_roundw
              case rel => exact ⟨3, 7, g7, cp7, rfl, by go_num, by omega, by omega, HR7.out⟩
              case measure => simp [intOf]
            · have HS : Hid (mbit m 10 = 1) := by
                show m / 2 ^ 10 % 2 = 1
                have e := HSP.out
                have e := eq_of_beq e
                have e2 : m / 2 ^ 10 % 2 < 2 := Nat.mod_lt _ (by decide)
                omega
              go_wp2_with (at_builtin; refine wpList_append_own _ rfl _ _ 58 rfl w.heap.size 5 i0 (.int .u8 0) 1 1 Tryd.underlying58 hi0 hz0 hz1 hz2 rfl (by decide) _ _ _ rfl (HR.out.ow.alloc _) ⟨wr.heap.size, 0, none⟩ 1 1 [.int .u8 83] rfl rfl (news_u8 _ _) (one_u8 _) (by unfold maxLen; omega) (by omega) (by have := HR.out.bel.size; rw [al_size]; omega) ?_)
              intro v' w7 hown hgrow _
              obtain ⟨g7, cp7, rfl, hMD⟩ := HR.out.app 83 (l' := mlL (ndC nd) m 1 ++ (thd m 1).take 3) rfl (by
                have q : (thd m 1).take 3 = (thd m 1).take 2 ++ [83] := by simp only [thd, tri, HB.out, HS.out]; rfl
                rw [q, List.append_assoc]) hown hgrow
              have HR7 : Hid (MD w (mlL (ndC nd) m 1 ++ (thd m 1).take 3) 7 g7 cp7 w7) := hMD
              clear hown hgrow hMD HR
              go_wp2_with fail
              go_roundw
              case rel => exact ⟨3, 7, g7, cp7, rfl, by go_num, by omega, by omega, HR7.out⟩
              case measure => simp [intOf]
          · have x1 : ((m : Int) / 8 % 8 % 2 == 1) = true := by
              have : m / 2 ^ 3 % 2 = 1 := hb
              have e : (m : Int) / 8 % 8 % 2 = 1 := by omega
              rw [e]; rfl
            have HB : Hid (mbit m 3 = 1) := hb
            clear hb
            cases SP
            · have HS : Hid (mbit m 10 = 0) := by
                show m / 2 ^ 10 % 2 = 0
                have e := HSP.out
                have e := ne_of_beq_false e
                have e2 : m / 2 ^ 10 % 2 < 2 := Nat.mod_lt _ (by decide)
                omega
              go_wp2_with (at_builtin; refine wpList_append_own _ rfl _ _ 58 rfl w.heap.size 5 i0 (.int .u8 0) 1 1 Tryd.underlying58 hi0 hz0 hz1 hz2 rfl (by decide) _ _ _ rfl (HR.out.ow.alloc _) ⟨wr.heap.size, 0, none⟩ 1 1 [.int .u8 120] rfl rfl (news_u8 _ _) (one_u8 _) (by unfold maxLen; omega) (by omega) (by have := HR.out.bel.size; rw [al_size]; omega) ?_)
              intro v' w7 hown hgrow _
              obtain ⟨g7, cp7, rfl, hMD⟩ := HR.out.app 120 (l' := mlL (ndC nd) m 1 ++ (thd m 1).take 3) rfl (by
                have q : (thd m 1).take 3 = (thd m 1).take 2 ++ [120] := by simp only [thd, tri, HB.out, HS.out]; rfl
                rw [q, List.append_assoc]) hown hgrow
              have HR7 : Hid (MD w (mlL (ndC nd) m 1 ++ (thd m 1).take 3) 7 g7 cp7 w7) := hMD
              clear hown hgrow hMD HR
              go_wp2_with fail
              go_roundw
              case rel => exact ⟨3, 7, g7, cp7, rfl, by go_num, by omega, by omega, HR7.out⟩
              case measure => simp [intOf]
            · have HS : Hid (mbit m 10 = 1) := by
                show m / 2 ^ 10 % 2 = 1
                have e := HSP.out
                have e := eq_of_beq e
                have e2 : m / 2 ^ 10 % 2 < 2 := Nat.mod_lt _ (by decide)
                omega
              go_wp2_with (at_builtin; refine wpList_append_own _ rfl _ _ 58 rfl w.heap.size 5 i0 (.int .u8 0) 1 1 Tryd.underlying58 hi0 hz0 hz1 hz2 rfl (by decide) _ _ _ rfl (HR.out.ow.alloc _) ⟨wr.heap.size, 0, none⟩ 1 1 [.int .u8 115] rfl rfl (news_u8 _ _) (one_u8 _) (by unfold maxLen; omega) (by omega) (by have := HR.out.bel.size; rw [al_size]; omega) ?_)
              intro v' w7 hown hgrow _
              obtain ⟨g7, cp7, rfl, hMD⟩ := HR.out.app 115 (l' := mlL (ndC nd) m 1 ++ (thd m 1).take 3) rfl (by
                have q : (thd m 1).take 3 = (thd m 1).take 2 ++ [115] := by simp only [thd, tri, HB.out, HS.out]; rfl
                rw [q, List.append_assoc]) hown hgrow
              have HR7 : Hid (MD w (mlL (ndC nd) m 1 ++ (thd m 1).take 3) 7 g7 cp7 w7) := hMD
              clear hown hgrow hMD HR
              go_wp2_with fail
              go_roundw
              case rel => exact ⟨3, 7, g7, cp7, rfl, by go_num, by omega, by omega, HR7.out⟩
              case measure => simp [intOf]
        · obtain rfl : n = 7 := by omega
          clear hn hk
          have HR3 : Hid (MD w (mlL (ndC nd) m 2) 7 g cp wr) := HR.out
          go_wp2_with fail
          go_roundw
          case rel => exact ⟨2, 2, 7, g, cp, rfl, by go_num, by omega, by omega, by omega, HR3.out⟩
          case measure => simp [intOf]
    · obtain rfl : n = 7 := by omega
      obtain rfl : iz = 2 := by omega
      clear hn hi hiz
      obtain ⟨SP, hSP⟩ : ∃ b, ((m : Int) / 512 % 2 == 1) = b := ⟨_, rfl⟩
      have HSP : Hid (((m : Int) / 512 % 2 == 1) = SP) := hSP
      go_wp2_with fail
      clear hSP
      go_loopw [6, 10] (fun x v wr => ∃ (k n g cp : Nat), x = .slice (some ⟨g, 0, none⟩) n cp ∧ v = .int .i64 k ∧ k ≤ 3 ∧ n = 7 + k ∧ Hid (MD w (mlL (ndC nd) m 2 ++ (thd m 2).take k) n g cp wr)) (fun x v _ => 3 - (intOf v).toNat)
      case atStart => exact ⟨0, 7, g, cp, rfl, rfl, by omega, rfl, by have q := HR.out; simp only [List.take_zero, List.append_nil]; exact q⟩
      case round =>
        obtain ⟨k, n, g, cp, rfl, rfl, hk, hn, HR⟩ := hrel
        have hk4 : k = 0 ∨ k = 1 ∨ k = 2 ∨ k = 3 := by omega
        rcases hk4 with rfl | rfl | rfl | rfl
        · obtain rfl : n = 7 := by omega
          clear hn hk
          have hb2 : mbit m 2 = 0 ∨ mbit m 2 = 1 := by have := mbit_lt m 2; omega
          rcases hb2 with hb | hb
          · have x1 : ((m : Int) % 8 / 4 % 2 == 1) = false := by
              have : m / 2 ^ 2 % 2 = 0 := hb
              have e : (m : Int) % 8 / 4 % 2 = 0 := by omega
              rw [e]; rfl
            have HB : Hid (mbit m 2 = 0) := hb
            clear hb
            go_wp2_with (at_builtin; refine wpList_append_own _ rfl _ _ 58 rfl w.heap.size 5 i0 (.int .u8 0) 1 1 Tryd.underlying58 hi0 hz0 hz1 hz2 rfl (by decide) _ _ _ rfl (HR.out.ow.alloc _) ⟨wr.heap.size, 0, none⟩ 1 1 [.int .u8 45] rfl rfl (news_u8 _ _) (one_u8 _) (by unfold maxLen; omega) (by omega) (by have := HR.out.bel.size; rw [al_size]; omega) ?_)
            intro v' w7 hown hgrow _
            obtain ⟨g7, cp7, rfl, hMD⟩ := HR.out.app 45 (l' := mlL (ndC nd) m 2 ++ (thd m 2).take 1) rfl (by
              have q : (thd m 2).take 1 = (thd m 2).take 0 ++ [45] := by simp only [thd, tri, HB.out]; rfl
              rw [q, List.append_assoc]) hown hgrow
            have HR7 : Hid (MD w (mlL (ndC nd) m 2 ++ (thd m 2).take 1) 8 g7 cp7 w7) := hMD
            clear hown hgrow hMD HR
            go_wp2_with fail
            go_roundw
            case rel => exact ⟨1, 8, g7, cp7, rfl, by go_num, by omega, by omega, HR7.out⟩
            case measure => simp [intOf]
          · have x1 : ((m : Int) % 8 / 4 % 2 == 1) = true := by
              have : m / 2 ^ 2 % 2 = 1 := hb
              have e : (m : Int) % 8 / 4 % 2 = 1 := by omega
              rw [e]; rfl
            have HB : Hid (mbit m 2 = 1) := hb
            clear hb
            go_wp2_with (at_builtin; refine wpList_append_own _ rfl _ _ 58 rfl w.heap.size 5 i0 (.int .u8 0) 1 1 Tryd.underlying58 hi0 hz0 hz1 hz2 rfl (by decide) _ _ _ rfl (HR.out.ow.alloc _) ⟨wr.heap.size, 0, none⟩ 1 1 [.int .u8 114] rfl rfl (news_u8 _ _) (one_u8 _) (by unfold maxLen; omega) (by omega) (by have := HR.out.bel.size; rw [al_size]; omega) ?_)
            intro v' w7 hown hgrow _
            obtain ⟨g7, cp7, rfl, hMD⟩ := HR.out.app 114 (l' := mlL (ndC nd) m 2 ++ (thd m 2).take 1) rfl (by
              have q : (thd m 2).take 1 = (thd m 2).take 0 ++ [114] := by simp only [thd, tri, HB.out]; rfl
              rw [q, List.append_assoc]) hown hgrow
            have HR7 : Hid (MD w (mlL (ndC nd) m 2 ++ (thd m 2).take 1) 8 g7 cp7 w7) := hMD
            clear hown hgrow hMD HR
            go_wp2_with fail
            go_roundw
            case rel => exact ⟨1, 8, g7, cp7, rfl, by go_num, by omega, by omega, HR7.out⟩
            case measure => simp [intOf]
        · obtain rfl : n = 8 := by omega
          clear hn hk
          have hb2 : mbit m 1 = 0 ∨ mbit m 1 = 1 := by have := mbit_lt m 1; omega
          rcases hb2 with hb | hb
          · have x1 : ((m : Int) % 8 / 2 % 2 == 1) = false := by
              have : m / 2 ^ 1 % 2 = 0 := hb
              have e : (m : Int) % 8 / 2 % 2 = 0 := by omega
              rw [e]; rfl
            have HB : Hid (mbit m 1 = 0) := hb
            clear hb
            go_wp2_with (at_builtin; refine wpList_append_own _ rfl _ _ 58 rfl w.heap.size 5 i0 (.int .u8 0) 1 1 Tryd.underlying58 hi0 hz0 hz1 hz2 rfl (by decide) _ _ _ rfl (HR.out.ow.alloc _) ⟨wr.heap.size, 0, none⟩ 1 1 [.int .u8 45] rfl rfl (news_u8 _ _) (one_u8 _) (by unfold maxLen; omega) (by omega) (by have := HR.out.bel.size; rw [al_size]; omega) ?_)
            intro v' w7 hown hgrow _
            obtain ⟨g7, cp7, rfl, hMD⟩ := HR.out.app 45 (l' := mlL (ndC nd) m 2 ++ (thd m 2).take 2) rfl (by
              have q : (thd m 2).take 2 = (thd m 2).take 1 ++ [45] := by simp only [thd, tri, HB.out]; rfl
              rw [q, List.append_assoc]) hown hgrow
            have HR7 : Hid (MD w (mlL (ndC nd) m 2 ++ (thd m 2).take 2) 9 g7 cp7 w7) := hMD
            clear hown hgrow hMD HR
            go_wp2_with fail
            go_roundw
            case rel => exact ⟨2, 9, g7, cp7, rfl, by go_num, by omega, by omega, HR7.out⟩
            case measure => simp [intOf]
          · have x1 : ((m : Int) % 8 / 2 % 2 == 1) = true := by
              have : m / 2 ^ 1 % 2 = 1 := hb
              have e : (m : Int) % 8 / 2 % 2 = 1 := by omega
              rw [e]; rfl
            have HB : Hid (mbit m 1 = 1) := hb
            clear hb
            go_wp2_with (at_builtin; refine wpList_append_own _ rfl _ _ 58 rfl w.heap.size 5 i0 (.int .u8 0) 1 1 Tryd.underlying58 hi0 hz0 hz1 hz2 rfl (by decide) _ _ _ rfl (HR.out.ow.alloc _) ⟨wr.heap.size, 0, none⟩ 1 1 [.int .u8 119] rfl rfl (news_u8 _ _) (one_u8 _) (by unfold maxLen; omega) (by omega) (by have := HR.out.bel.size; rw [al_size]; omega) ?_)
            intro v' w7 hown hgrow _
            obtain ⟨g7, cp7, rfl, hMD⟩ := HR.out.app 119 (l' := mlL (ndC nd) m 2 ++ (thd m 2).take 2) rfl (by
              have q : (thd m 2).take 2 = (thd m 2).take 1 ++ [119] := by simp only [thd, tri, HB.out]; rfl
              rw [q, List.append_assoc]) hown hgrow
            have HR7 : Hid (MD w (mlL (ndC nd) m 2 ++ (thd m 2).take 2) 9 g7 cp7 w7) := hMD
            clear hown hgrow hMD HR
            go_wp2_with fail
            go_roundw
            case rel => exact ⟨2, 9, g7, cp7, rfl, by go_num, by omega, by omega, HR7.out⟩
            case measure => simp [intOf]
        · obtain rfl : n = 9 := by omega
          clear hn hk
          have hb2 : mbit m 0 = 0 ∨ mbit m 0 = 1 := by have := mbit_lt m 0; omega
          rcases hb2 with hb | hb
          · have x1 : ((m : Int) % 8 % 2 == 1) = false := by
              have : m / 2 ^ 0 % 2 = 0 := hb
              have e : (m : Int) % 8 % 2 = 0 := by omega
              rw [e]; rfl
            have HB : Hid (mbit m 0 = 0) := hb
            clear hb
            cases SP
            · have HS : Hid (mbit m 9 = 0) := by
                show m / 2 ^ 9 % 2 = 0
                have e := HSP.out
                have e := ne_of_beq_false e
                have e2 : m / 2 ^ 9 % 2 < 2 := Nat.mod_lt _ (by decide)
                omega
              go_wp2_with (at_builtin; refine wpList_append_own _ rfl _ _ 58 rfl w.heap.size 5 i0 (.int .u8 0) 1 1 Tryd.underlying58 hi0 hz0 hz1 hz2 rfl (by decide) _ _ _ rfl (HR.out.ow.alloc _) ⟨wr.heap.size, 0, none⟩ 1 1 [.int .u8 45] rfl rfl (news_u8 _ _) (one_u8 _) (by unfold maxLen; omega) (by omega) (by have := HR.out.bel.size; rw [al_size]; omega) ?_)
              intro v' w7 hown hgrow _
              obtain ⟨g7, cp7, rfl, hMD⟩ := HR.out.app 45 (l' := mlL (ndC nd) m 2 ++ (thd m 2).take 3) rfl (by
                have q : (thd m 2).take 3 = (thd m 2).take 2 ++ [45] := by simp only [thd, tri, HB.out, HS.out]; rfl
                rw [q, List.append_assoc]) hown hgrow
              have HR7 : Hid (MD w (mlL (ndC nd) m 2 ++ (thd m 2).take 3) 10 g7 cp7 w7) := hMD
              clear hown hgrow hMD HR
              go_wp2_with fail
              go_roundw
              case rel => exact ⟨3, 10, g7, cp7, rfl, by go_num, by omega, by omega, HR7.out⟩
              case measure => simp [intOf]
            · have HS : Hid (mbit m 9 = 1) := by
                show m / 2 ^ 9 % 2 = 1
                have e := HSP.out
                have e := eq_of_beq e
                have e2 : m / 2 ^ 9 % 2 < 2 := Nat.mod_lt _ (by decide)
                omega
              go_wp2_with (at_builtin; refine wpList_append_own _ rfl _ _ 58 rfl w.heap.size 5 i0 (.int .u8 0) 1 1 Tryd.underlying58 hi0 hz0 hz1 hz2 rfl (by decide) _ _ _ rfl (HR.out.ow.alloc _) ⟨wr.heap.size, 0, none⟩ 1 1 [.int .u8 84] rfl rfl (news_u8 _ _) (one_u8 _) (by unfold maxLen; omega) (by omega) (by have := HR.out.bel.size; rw [al_size]; omega) ?_)
              intro v' w7 hown hgrow _
              obtain ⟨g7, cp7, rfl, hMD⟩ := HR.out.app 84 (l' := mlL (ndC nd) m 2 ++ (thd m 2).take 3) rfl (by
                have q : (thd m 2).take 3 = (thd m 2).take 2 ++ [84] := by simp only [thd, tri, HB.out, HS.out]; rfl
                rw [q, List.append_assoc]) hown hgrow
              have HR7 : Hid (MD w (mlL (ndC nd) m 2 ++ (thd m 2).take 3) 10 g7 cp7 w7) := hMD
              clear hown hgrow hMD HR
              go_wp2_with fail
              go_roundw
              case rel => exact ⟨3, 10, g7, cp7, rfl, by go_num, by omega, by omega, HR7.out⟩
              case measure => simp [intOf]
          · have x1 : ((m : Int) % 8 % 2 == 1) = true := by
              have : m / 2 ^ 0 % 2 = 1 := hb
              have e : (m : Int) % 8 % 2 = 1 := by omega
              rw [e]; rfl
            have HB : Hid (mbit m 0 = 1) := hb
            clear hb
            cases SP
            · have HS : Hid (mbit m 9 = 0) := by
                show m / 2 ^ 9 % 2 = 0
                have e := HSP.out
                have e := ne_of_beq_false e
                have e2 : m / 2 ^ 9 % 2 < 2 := Nat.mod_lt _ (by decide)
                omega
              go_wp2_with (at_builtin; refine wpList_append_own _ rfl _ _ 58 rfl w.heap.size 5 i0 (.int .u8 0) 1 1 Tryd.underlying58 hi0 hz0 hz1 hz2 rfl (by decide) _ _ _ rfl (HR.out.ow.alloc _) ⟨wr.heap.size, 0, none⟩ 1 1 [.int .u8 120] rfl rfl (news_u8 _ _) (one_u8 _) (by unfold maxLen; omega) (by omega) (by have := HR.out.bel.size; rw [al_size]; omega) ?_)
              intro v' w7 hown hgrow _
              obtain ⟨g7, cp7, rfl, hMD⟩ := HR.out.app 120 (l' := mlL (ndC nd) m 2 ++ (thd m 2).take 3) rfl (by
                have q : (thd m 2).take 3 = (thd m 2).take 2 ++ [120] := by simp only [thd, tri, HB.out, HS.out]; rfl
                rw [q, List.append_assoc]) hown hgrow
              have HR7 : Hid (MD w (mlL (ndC nd) m 2 ++ (thd m 2).take 3) 10 g7 cp7 w7) := hMD
              clear hown hgrow hMD HR
              go_wp2_with fail
              go_roundw
              case rel => exact ⟨3, 10, g7, cp7, rfl, by go_num, by omega, by omega, HR7.out⟩
              case measure => simp [intOf]
            · have HS : Hid (mbit m 9 = 1) := by
                show m / 2 ^ 9 % 2 = 1
                have e := HSP.out
                have e := eq_of_beq e
                have e2 : m / 2 ^ 9 % 2 < 2 := Nat.mod_lt _ (by decide)
                omega
              go_wp2_with (at_builtin; refine wpList_append_own _ rfl _ _ 58 rfl w.heap.size 5 i0 (.int .u8 0) 1 1 Tryd.underlying58 hi0 hz0 hz1 hz2 rfl (by decide) _ _ _ rfl (HR.out.ow.alloc _) ⟨wr.heap.size, 0, none⟩ 1 1 [.int .u8 116] rfl rfl (news_u8 _ _) (one_u8 _) (by unfold maxLen; omega) (by omega) (by have := HR.out.bel.size; rw [al_size]; omega) ?_)
              intro v' w7 hown hgrow _
              obtain ⟨g7, cp7, rfl, hMD⟩ := HR.out.app 116 (l' := mlL (ndC nd) m 2 ++ (thd m 2).take 3) rfl (by
                have q : (thd m 2).take 3 = (thd m 2).take 2 ++ [116] := by simp only [thd, tri, HB.out, HS.out]; rfl
                rw [q, List.append_assoc]) hown hgrow
              have HR7 : Hid (MD w (mlL (ndC nd) m 2 ++ (thd m 2).take 3) 10 g7 cp7 w7) := hMD
              clear hown hgrow hMD HR
              go_wp2_with fail
              go_roundw
              case rel => exact ⟨3, 10, g7, cp7, rfl, by go_num, by omega, by omega, HR7.out⟩
              case measure => simp [intOf]
        · obtain rfl : n = 10 := by omega
          clear hn hk
          have HR3 : Hid (MD w (mlL (ndC nd) m 3) 10 g cp wr) := HR.out
          go_wp2_with fail
          go_roundw
          case rel => exact ⟨3, 3, 10, g, cp, rfl, by go_num, by omega, by omega, by omega, HR3.out⟩
          case measure => simp [intOf]
    · obtain rfl : n = 10 := by omega
      obtain rfl : iz = 3 := by omega
      clear hn hi hiz
      have HCV : (convert 58 9 (.slice (some ⟨g, 0, none⟩) 10 cp)).run Tryd.prog wr = .ok (.string Q) wr := by rw [← HQ.out]; exact conv10 HR.out.ow
      go_wp2_with fail
      go_ret2
      exact ⟨rfl, HR.out.bel⟩
theorem rmodes_no (nd m : Nat) (w : World) (h : ¬ (1 ≤ nd ∧ nd ≤ 3 ∧ m < 4096)) : Calls Tryd.prog 11 #[.int .u8 (nd : Int), .int .u32 (m : Int)] w fun e w' => e = .returned (.tuple #[.string ⟨#[]⟩, .int .i64 1]) ∧ Below w.heap.size w w' := by
  by_cases h1 : (nd : Int) < 1
  · go_enter Tryd.func11, Tryd.ntmps11
    go_wp2_with fail
    go_ret2
    exact ⟨rfl, Below.refl _ _⟩
  · by_cases h2 : 3 < (nd : Int)
    · go_enter Tryd.func11, Tryd.ntmps11
      go_wp2_with fail
      go_ret2
      exact ⟨rfl, Below.refl _ _⟩
    · have h4 : 4095 < (m : Int) := by omega
      go_enter Tryd.func11, Tryd.ntmps11
      go_wp2_with fail
      go_ret2
      exact ⟨rfl, Below.refl _ _⟩
end Go.Proofs.YtcfniaknbbgheaaDoor
/- A text's first rune; where a pattern's runes lie. -/
namespace Go.Proofs.YtcfniaknbbgheaaDoor
open Go.RowKit
set_option linter.unusedSimpArgs false
set_option linter.unusedVariables false
/-- How wide a text's first rune is. -/
def fw (s : ByteArray) : Nat := (Utf8.decode s 0).2
theorem fw_le (s : ByteArray) (h : 0 < s.size) : 1 ≤ fw s ∧ fw s ≤ s.size := by
  have := dec_le s 0 h
  unfold fw; omega
theorem rn_behind (s : ByteArray) (h : 0 < s.size) : rn s.data.toList = (Utf8.decode s 0).1 :: rn (s.extract (fw s) s.size).data.toList := by
  have := rn_at s 0 h
  rw [List.drop_zero, Nat.zero_add] at this
  rw [this]
  rw [Lib.extract_to_end]
  rfl
/-- What lies where: the runes of a pattern. -/
def LieR (w : World) (a0 : Option Addr) (p : List Nat) : Prop :=
  ∀ (i : Nat) c, p[i]? = some c → ∃ b off, a0 = some ⟨b, off, none⟩ ∧ b < w.heap.size ∧ w.cell? ⟨b, off + i, none⟩ = some (.int .i32 (c : Int))
theorem LieR.below {w w' : World} {a0 : Option Addr} {p : List Nat} (h : LieR w a0 p) (hb : Below w.heap.size w w') : LieR w' a0 p := by
  intro i x hx
  obtain ⟨b, off, ha, hlt, hc⟩ := h i x hx
  exact ⟨b, off, ha, Nat.lt_of_lt_of_le hlt hb.size, by rw [hb.cell (p := ⟨b, off + i, none⟩) hlt]; exact hc⟩
end Go.Proofs.YtcfniaknbbgheaaDoor
