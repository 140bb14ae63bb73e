/- The walks of the document's own Unhex and Hex (munimentref01), for texts of at most 1048576 bytes. -/
import Derived.Test.YtehbgkbnbaogoaaDoorX3
import Derived.Test.YtehbgkbnbaogoaaDoorR3
import Derived.Deep.AppendLies
namespace Go.Proofs.YtehbgkbnbaogoaaDoor
open Go.RowKit
set_option linter.unusedSimpArgs false
set_option linter.unusedVariables false
theorem news_one (w : World) (a : Value) (T : TypeId) : ∀ (j : Nat) (u : Value), [a][j]? = some u → (w.alloc (.cells #[a] T)).cell? ((⟨w.heap.size, 0, none⟩ : Addr).add j) = some u := by
  intro j u h
  rw [WideShapes.add_plain, Nat.zero_add, World.cell?_alloc_new]
  simpa using h
theorem one_one (a : Int) : ∀ u ∈ [Value.int .u8 a], u.oneCell' = true := by
  intro u hu
  simp at hu
  subst hu; rfl
theorem app_below {B n : Nat} {w wr w1 : World} {o : Obj} {v : Value} {xs : List Value} {e : TypeId} (hb : Below B w wr) (hz : B ≤ wr.heap.size) (ho : wr.ownsRow B e 1 v n xs) (hg : (wr.alloc o).grownBy w1 v.ownBlock) : Below B w w1 := by
  refine (hb.alloc hz o).grown hg (by simp; omega) (fun k hk => ?_)
  rcases ho.2 with ⟨rfl, _⟩ | ⟨g, cap, cur, rfl, hle, _⟩
  · cases hk
  · simp [Value.ownBlock] at hk; omega
set_option maxHeartbeats 400000 in
theorem runhex_odd (s : ByteArray) (w : World) (hs : s.size ≤ 1048576) (ho : s.size % 2 = 1) :
    Calls Tryd.prog 8 #[.string s] w fun e w' => e = .returned (.tuple #[.string (uhS s), .int .i64 (uhE s)]) ∧ w' = w := by
  have HN := uh_none (unhexL_odd _ (bl s) (Nat.le_refl _) (by rw [bl_length]; exact ho))
  rw [HN.1, HN.2]
  clear HN
  have h1 : (((s.size : Int) % 2) == 1) = true := by rw [beq_iff_eq]; omega
  go_enter Tryd.func8, Tryd.ntmps8
  go_wp2
  go_ret2
  exact ⟨rfl, rfl⟩
set_option maxHeartbeats 800000 in
set_option maxRecDepth 100000 in
theorem runhex_even (s : ByteArray) (w : World) (n : Nat) (hs : s.size ≤ 1048576) (ho : s.size = 2 * n) :
    Calls Tryd.prog 8 #[.string s] w fun e w' => e = .returned (.tuple #[.string (uhS s), .int .i64 (uhE s)]) ∧ Below w.heap.size w w' := by
  have h1 : (((s.size : Int) % 2) == 1) = false := by rw [beq_eq_false_iff_ne]; omega
  have HO : Hid (s.size = 2 * n) := ho
  have hn2 : 2 * n ≤ 1048576 := by omega
  clear ho
  obtain ⟨i0, hi, hz0, hz1, hz2⟩ := info_parts info_u8
  go_enter Tryd.func8, Tryd.ntmps8
  go_wp2
  go_loopw [4, 5] (fun v i wr => ∃ (k : Nat) (m : List Nat), k ≤ n ∧ i = .int .i64 (2 * (k : Int)) ∧ wr.ownsRow w.heap.size 5 1 v k (bv m) ∧ Hid (m.length = k ∧ unhexL (bl s) = (unhexL ((bl s).drop (2 * k))).map (m ++ ·)) ∧ Below w.heap.size w wr) (fun _ i _ => (2 * n - (intOf i).toNat))
  case atStart => exact ⟨0, [], by omega, rfl, World.ownsRow_nil _ _ _ _, ⟨rfl, by simp⟩, Below.refl _ _⟩
  case round =>
    obtain ⟨k, m, hk, rfl, hown, HR, hbel⟩ := hrel
    have hb0 := hbel.size
    by_cases hlt : k < n
    · have g1 : 2 * k < s.size := by have := HO.out; omega
      have g2 : 2 * k + 1 < s.size := by have := HO.out; omega
      cases ea : dvl s[2 * k].toNat with
      | none =>
        have HA : Hid (dvl s[2 * k].toNat = none) := ea
        clear ea
        go_wp2_with fail
        refine (digit_any _ _ (by exact s[2 * k].toNat_lt)).mono ?_
        rintro e w1 ⟨rfl, hw1⟩
        subst hw1
        rw [HA.out]
        go_wp2_with fail
        refine (digit_any _ _ (by exact s[2 * k + 1].toNat_lt)).mono ?_
        rintro e w1 ⟨rfl, hw1⟩
        subst hw1
        go_wp2
        go_ret2
        refine ⟨ret_uh ?_, hbel⟩
        have hn := uh_none (unhex_bad s (2 * k) m g2 HR.out.2 (Or.inl HA.out))
        exact ⟨hn.1.symm, hn.2.symm⟩
      | some x =>
        have HA : Hid (dvl s[2 * k].toNat = some x) := ea
        clear ea
        have hx := (dvl_some HA.out).1
        cases eb : dvl s[2 * k + 1].toNat with
        | none =>
          have HB : Hid (dvl s[2 * k + 1].toNat = none) := eb
          clear eb
          go_wp2_with fail
          refine (digit_any _ _ (by exact s[2 * k].toNat_lt)).mono ?_
          rintro e w1 ⟨rfl, hw1⟩
          subst hw1
          rw [HA.out]
          go_wp2_with fail
          refine (digit_any _ _ (by exact s[2 * k + 1].toNat_lt)).mono ?_
          rintro e w1 ⟨rfl, hw1⟩
          subst hw1
          rw [HB.out]
          go_wp2
          go_ret2
          refine ⟨ret_uh ?_, hbel⟩
          have hn := uh_none (unhex_bad s (2 * k) m g2 HR.out.2 (Or.inr HB.out))
          exact ⟨hn.1.symm, hn.2.symm⟩
        | some y =>
          have HB : Hid (dvl s[2 * k + 1].toNat = some y) := eb
          clear eb
          have hy := (dvl_some HB.out).1
          go_wp2_with fail
          refine (digit_any _ _ (by exact s[2 * k].toNat_lt)).mono ?_
          rintro e w1 ⟨rfl, hw1⟩
          subst hw1
          rw [HA.out]
          go_wp2_with fail
          refine (digit_any _ _ (by exact s[2 * k + 1].toNat_lt)).mono ?_
          rintro e w1 ⟨rfl, hw1⟩
          subst hw1
          rw [HB.out]
          go_wp2_with (at_builtin; refine wpList_append_own _ rfl _ _ 50 rfl w.heap.size 5 i0 (.int .u8 0) 1 1 Tryd.underlying50 hi hz0 hz1 hz2 rfl (by decide) _ _ _ rfl (hown.alloc _) ⟨w1.heap.size, 0, none⟩ 1 1 [.int .u8 (16 * (x : Int) + y)] rfl rfl ?c1 ?c2 ?c3 ?c4 ?c5 ?_)
          case c1 => exact news_one _ _ _
          case c2 => exact one_one _
          case c3 => unfold maxLen; omega
          case c4 => omega
          case c5 => simp; omega
          intro v' w7 hown1 hgrow _
          go_wp2
          go_roundw
          case rel =>
            obtain ⟨a2, a5⟩ := HR.out
            refine ⟨k + 1, m ++ [x * 16 + y], by omega, by go_num, ?_, ⟨by simp [a2], unhex_step s (2 * k) m x y g2 a5 HA.out HB.out⟩, ?_⟩
            · rw [bv_append]
              have e : bv [x * 16 + y] = [.int .u8 (16 * (x : Int) + y)] := by
                show [Value.int .u8 ((x * 16 + y : Nat) : Int)] = _
                congr 2; omega
              rw [e]; exact hown1
            · exact app_below hbel hb0 hown hgrow
          case measure => simp [intOf]; omega
    · have hkn : k = n := by omega
      subst hkn
      have hc := own_conv hown
      have hform : (∃ g c, u4 = .slice (some ⟨g, 0, none⟩) k c) ∨ u4 = .slice none 0 0 := by
        rcases hown.2 with ⟨h, _⟩ | ⟨g, c, _, h, _⟩
        · exact Or.inr h
        · exact Or.inl ⟨g, c, h⟩
      have HR2 : Hid (unhexL (bl s) = (unhexL ((bl s).drop (2 * k))).map (m ++ ·)) := HR.out.2
      have hend : (s.size : Int) ≤ 2 * (k : Int) := by have := HO.out; omega
      clear hown HR
      rcases hform with ⟨g, c, hv⟩ | hv
      · subst hv
        go_wp2
        go_ret2
        refine ⟨ret_uh ?_, hbel⟩
        have hn := uh_some (unhex_all s (2 * k) m (by have := HO.out; omega) HR2.out)
        exact ⟨hn.1.symm, hn.2.symm⟩
      · subst hv
        go_wp2
        go_ret2
        refine ⟨ret_uh ?_, hbel⟩
        have hn := uh_some (unhex_all s (2 * k) m (by have := HO.out; omega) HR2.out)
        exact ⟨hn.1.symm, hn.2.symm⟩
end Go.Proofs.YtehbgkbnbaogoaaDoor
