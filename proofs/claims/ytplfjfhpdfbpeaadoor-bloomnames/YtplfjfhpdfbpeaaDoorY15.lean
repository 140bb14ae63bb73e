import Derived.Test.YtplfjfhpdfbpeaaDoorY4
import Derived.Deep.AppendLies
import Derived.Test.YtplfjfhpdfbpeaaDoorY5
import Derived.Test.YtplfjfhpdfbpeaaDoorY9
import Derived.Test.YtplfjfhpdfbpeaaDoorY11
import Derived.Test.YtplfjfhpdfbpeaaDoorY14
import Derived.Test.YtplfjfhpdfbpeaaDoorY10
import Derived.Test.YtplfjfhpdfbpeaaDoorY7
import Derived.Test.YtplfjfhpdfbpeaaDoorY6
/- The walks of the document's own Unhex and Hex (munimentref01), for texts of at most 1048576 bytes. -/
namespace Go.Proofs.YtplfjfhpdfbpeaaDoor
open Go.RowKit
set_option linter.unusedSimpArgs false
set_option linter.unusedVariables false
theorem news_oneR (w : World) (a : Value) (T : TypeId) : ∀ (j : Nat) (u : Value), [a][j]? = some u → (w.alloc (.cells #[a] T)).cell? ((⟨w.heap.size, 0, none⟩ : Addr).add j) = some u := by
  intro j u h
  rw [WideShapes.add_plain, Nat.zero_add, World.cell?_alloc_new]
  simpa using h
theorem one_one (a : Int) : ∀ u ∈ [Value.int .u8 a], u.oneCell' = true := by
  intro u hu
  simp at hu
  subst hu; rfl
theorem app_below {B n : Nat} {w wr w1 : World} {o : Obj} {v : Value} {xs : List Value} {e : TypeId} (hb : Below B w wr) (hz : B ≤ wr.heap.size) (ho : wr.ownsRow B e 1 v n xs) (hg : (wr.alloc o).grownBy w1 v.ownBlock) : Below B w w1 := by
  refine (hb.alloc hz o).grown hg (by simp; omega) (fun k hk => ?_)
  rcases ho.2 with ⟨rfl, _⟩ | ⟨g, cap, cur, rfl, hle, _⟩
  · cases hk
  · simp [Value.ownBlock] at hk; omega
end Go.Proofs.YtplfjfhpdfbpeaaDoor
/- The walk of the document's own Hex (munimentref01), for texts of at most 1048576 bytes. -/
namespace Go.Proofs.YtplfjfhpdfbpeaaDoor
open Go.RowKit
set_option linter.unusedSimpArgs false
set_option linter.unusedVariables false
theorem tab_get (v : Nat) (h : v < (⟨#[48, 49, 50, 51, 52, 53, 54, 55, 56, 57, 97, 98, 99, 100, 101, 102]⟩ : ByteArray).size) : ((⟨#[48, 49, 50, 51, 52, 53, 54, 55, 56, 57, 97, 98, 99, 100, 101, 102]⟩ : ByteArray)[v]'h).toNat = dg v := by
  have : ∀ v : Fin 16, ((⟨#[48, 49, 50, 51, 52, 53, 54, 55, 56, 57, 97, 98, 99, 100, 101, 102]⟩ : ByteArray)[v.val]'v.isLt).toNat = dg v.val := by decide
  exact this ⟨v, h⟩
theorem rhex_own (s : ByteArray) (k : Nat) (hk : k < s.size) {w1 : World} {base : Nat} {v : Value} (h : w1.ownsRow base 5 1 v (2 * k + 2) (bvX (hexL ((bl s).take k)) ++ [.int .u8 (dg (s[k].toNat / 16) : Nat), .int .u8 (dg (s[k].toNat % 16) : Nat)])) :
    w1.ownsRow base 5 1 v (2 * (k + 1)) (bvX (hexL ((bl s).take (k + 1)))) := by
  have e : bvX (hexL ((bl s).take (k + 1))) = bvX (hexL ((bl s).take k)) ++ [.int .u8 (dg (s[k].toNat / 16) : Nat), .int .u8 (dg (s[k].toNat % 16) : Nat)] := by
    rw [take_snoc s k hk, hexL_append, bvX_append]; rfl
  rw [e, show 2 * (k + 1) = 2 * k + 2 from by omega]
  exact h
theorem app_below_drew {B n : Nat} {w wr w1 : World} {o : Obj} {v : Value} {xs : List Value} {e : TypeId} (hb : Below B w wr) (hz : B ≤ wr.heap.size) (ho : wr.ownsRow B e 1 v n xs) (hg : ((wr.alloc o).drew).grownBy w1 v.ownBlock) : Below B w w1 := by
  refine ((hb.alloc hz o).drew).grown hg (by show B ≤ (wr.alloc o).heap.size; simp; omega) (fun k hk => ?_)
  rcases ho.2 with ⟨rfl, _⟩ | ⟨g, cap, cur, rfl, hle, _⟩
  · cases hk
  · simp [Value.ownBlock] at hk; omega
set_option maxHeartbeats 800000 in
set_option maxRecDepth 100000 in
theorem rhex_any (s : ByteArray) (w : World) (hs : s.size ≤ 1048576) :
    Calls Tryd.prog 60 #[.string s] w fun e w' => e = .returned (.string (sb (hexL (bl s)))) ∧ Below w.heap.size w w' := by
  obtain ⟨i0, hi, hz0, hz1, hz2⟩ := info_parts info_u8
  have hsz16 : (⟨#[48, 49, 50, 51, 52, 53, 54, 55, 56, 57, 97, 98, 99, 100, 101, 102]⟩ : ByteArray).size = 16 := rfl
  go_enter Tryd.func60, Tryd.ntmps60
  go_wp2
  go_loopw [3, 4] (fun v i wr => ∃ k : Nat, k ≤ s.size ∧ i = .int .i64 k ∧ wr.ownsRow w.heap.size 5 1 v (2 * k) (bvX (hexL ((bl s).take k))) ∧ Below w.heap.size w wr) (fun _ i _ => s.size - (intOf i).toNat)
  case atStart => exact ⟨0, by omega, rfl, World.ownsRow_nil _ _ _ _, Below.refl _ _⟩
  case round =>
    obtain ⟨k, hk, rfl, hown, hbel⟩ := hrel
    have hb0 := hbel.size
    by_cases hlt : k < s.size
    · have hlt256 : s[k].toNat < 256 := s[k].toNat_lt
      have hq1 : IntKind.u8.wrap ((s[k].toNat : Int) / 16) = (s[k].toNat : Int) / 16 := by rw [IntKind.wrap_u8']; omega
      have hq2 : ((s[k].toNat : Int)).tmod 16 = (s[k].toNat : Int) % 16 := Int.tmod_eq_emod_of_nonneg (by omega)
      have hv1 : ((⟨#[48, 49, 50, 51, 52, 53, 54, 55, 56, 57, 97, 98, 99, 100, 101, 102]⟩ : ByteArray)[((s[k].toNat : Int) / 16).toNat]'(by show _ < 16; omega)).toNat = dg (s[k].toNat / 16) := by
        rw [tab_get]; congr 1
      have hv2 : ((⟨#[48, 49, 50, 51, 52, 53, 54, 55, 56, 57, 97, 98, 99, 100, 101, 102]⟩ : ByteArray)[((s[k].toNat : Int) % 16).toNat]'(by show _ < 16; omega)).toNat = dg (s[k].toNat % 16) := by
        rw [tab_get]; congr 1
      have b1 : (0 : Int) ≤ (s[k].toNat : Int) / 16 := by omega
      have b2 : (s[k].toNat : Int) / 16 < 16 := by have := s[k].toNat_lt; omega
      have b3 : (s[k].toNat : Int) % 16 < 16 := by omega
      have b4 : (0 : Int) ≤ (s[k].toNat : Int) % 16 := by omega
      go_wp2_with fail
      go_region_held3 (fun w' => True) (trivial)
        ((refine step_append_lies _ (by rfl) _ _ _ (by rfl) w.heap.size 5 i0 (.int .u8 0) 1 1 Tryd.underlying64 hi hz0 hz1 hz2 rfl (by decide) u3 (2 * k) _ (by rfl) (own_drew hown _) ⟨wr.heap.size, 0, none⟩ 2 2 [.int .u8 (dg (s[k].toNat / 16) : Nat), .int .u8 (dg (s[k].toNat % 16) : Nat)] (by rfl) rfl (news_two wr _ _ _) (one_two _ _) (by omega) (by unfold maxLen; omega) (by omega) (by show w.heap.size ≤ (wr.alloc _).heap.size; simp; omega) (wr.heap.size + 1) (by show (wr.alloc _).heap.size = _; simp) ?_; intro g cap w1 hown1 hgrow hat hlt1))
      all_goals go_wp2
      all_goals go_roundw
      all_goals first
        | exact ⟨k + 1, by omega, by go_num, rhex_own s k hlt hown1, app_below_drew hbel hb0 hown hgrow⟩
        | (simp [intOf]; omega)
    · have hke : k = s.size := by omega
      subst hke
      have hc := own_conv hown
      rw [List.take_of_length_le (by rw [bl_length]; exact Nat.le_refl _)] at hc
      have hform : (∃ g c, u3 = .slice (some ⟨g, 0, none⟩) (2 * s.size) c) ∨ u3 = .slice none 0 0 := by
        rcases hown.2 with ⟨h, _⟩ | ⟨g, c, _, h, _⟩
        · exact Or.inr h
        · exact Or.inl ⟨g, c, h⟩
      clear hown
      rcases hform with ⟨g, c, hv⟩ | hv
      · subst hv
        go_wp2
        go_ret
        exact ⟨rfl, hbel⟩
      · subst hv
        go_wp2
        go_ret
        exact ⟨rfl, hbel⟩
end Go.Proofs.YtplfjfhpdfbpeaaDoor
/- The document's own Text (munimentref02). -/
namespace Go.Proofs.YtplfjfhpdfbpeaaDoor
open Go.RowKit
set_option linter.unusedSimpArgs false
set_option linter.unusedVariables false
set_option maxHeartbeats 1000000 in
set_option maxRecDepth 100000 in
theorem rText_any (s : ByteArray) (w : World) (hs : s.size = 32) :
    Calls Tryd.prog 48 #[.agg (idc s)] w fun e w' => e = .returned (.string (sb (hexL (bl s)))) ∧ Below w.heap.size w w' := by
  have h1 := slice32 w.heap.size
  have h2 := conv32 s w.heap.size 36 (w.alloc (.cells (idc s) 36)) hs (blk_new _ _)
  go_enter Tryd.func48, Tryd.ntmps48
  go_wp2_with (go_at_call 60; refine (rhex_any s _ (by omega)).mono ?_; rintro e w1 ⟨rfl, hb1⟩)
  go_ret
  exact ⟨rfl, ((Below.refl _ _).alloc (Nat.le_refl _) _).trans (hb1.mono (by rw [alloc_size]; omega))⟩
end Go.Proofs.YtplfjfhpdfbpeaaDoor
/- The document's Named, Name, Check. -/
namespace Go.Proofs.YtplfjfhpdfbpeaaDoor
open Go.RowKit
set_option linter.unusedSimpArgs false
set_option linter.unusedVariables false
set_option maxHeartbeats 2000000 in
set_option maxRecDepth 100000 in
theorem named_any (s : ByteArray) (w : World) (hs : s.size ≤ 140737488351232) :
    Calls Tryd.prog 51 #[.string s, .string ⟨#[98, 108, 111, 111, 109, 45]⟩, .string ⟨#[46, 98, 102]⟩, .int .i64 1] w fun e w' => e = .returned (.bool (nmB s)) ∧ w' = w := by
  have h1 : (⟨#[98, 108, 111, 111, 109, 45]⟩ : ByteArray) = nmF := rfl
  have h2 : (⟨#[46, 98, 102]⟩ : ByteArray) = nmE := rfl
  have z1 := nmF_size
  have z2 := nmE_size
  rw [h1, h2]
  by_cases h73 : s.size = 73
  · have hz : (s.size : Int) = 73 := by omega
    by_cases hf : s.extract 0 6 = nmF
    · by_cases hb : s.extract 70 73 = nmE
      · obtain ⟨M, hM⟩ : ∃ M, s.extract 6 70 = M := ⟨_, rfl⟩
        have zM : M.size = 64 := by rw [← hM, ByteArray.size_extract, h73]; rfl
        have HN : Hid (nmB s = true ↔ ∀ c ∈ bl M, (dvl c.toNat).isSome = true) := by
          refine ⟨fun h => ?_, fun h => (nmB_iff s).2 ⟨h73, hf, hb, by rw [hM]; exact h⟩⟩
          have := ((nmB_iff s).1 h).mid
          rw [hM] at this
          exact this
        have hb' : s.extract 70 s.size = nmE := by rw [h73]; exact hb
        go_enter Tryd.func51, Tryd.ntmps51
        go_wp2
        go_loopw [10] (fun v wr => ∃ i : Nat, i ≤ 64 ∧ v = .int .i64 i ∧ Hid (∀ c ∈ (bl M).take i, (dvl c.toNat).isSome = true) ∧ wr = w) (fun v _ => 64 - (intOf v).toNat)
        case atStart => exact ⟨0, by omega, rfl, fun c hc => by simp at hc, rfl⟩
        case round =>
          obtain ⟨i, hi, rfl, HT, rfl⟩ := hrel
          by_cases hlt : i < 64
          · have hiM : i < M.size := by omega
            have hiz : (i : Int) < 64 := by omega
            have q1 : (i : Int).tmod 65 = (i : Int) := by rw [Int.tmod_eq_emod_of_nonneg (by omega)]; omega
            have q1e : (i : Int) % 65 = (i : Int) := by omega
            have q2 : ((i : Int) == 64) = false := by rw [beq_eq_false_iff_ne]; omega
            obtain ⟨C, hC⟩ : ∃ C, (M[i]'hiM).toNat = C := ⟨_, rfl⟩
            have hC8 : C < 256 := by rw [← hC]; exact UInt8.toNat_lt _
            have HM : Hid ((bl M)[i]? = some (M[i]'hiM)) := by
              show _ = _
              unfold bl
              rw [List.getElem?_eq_getElem (by rw [Array.length_toList]; exact hiM)]
              rfl
            have HY : Hid ((dvl C).isSome = true → ∀ c ∈ (bl M).take (i + 1), (dvl c.toNat).isSome = true) := by
              intro hd c hc
              rw [List.take_add_one, HM.out, Option.toList_some, List.mem_append] at hc
              rcases hc with hc | hc
              · exact HT.out c hc
              · simp only [List.mem_cons, List.not_mem_nil, or_false] at hc
                rw [hc, hC]; exact hd
            have HX : Hid ((dvl C).isSome = false → nmB s = false) := by
              intro hd
              rw [Bool.eq_false_iff]
              intro h
              have := HN.out.1 h _ (List.mem_of_getElem? HM.out)
              rw [hC, hd] at this
              cases this
            clear HT HM
            by_cases a1 : 48 ≤ C ∧ C ≤ 57
            · have HG : Hid (∀ c ∈ (bl M).take (i + 1), (dvl c.toNat).isSome = true) := HY.out (by rw [dvl, if_pos a1]; rfl)
              have a2 : (48 : Int) ≤ (C : Int) := by omega
              have a3 : (C : Int) ≤ 57 := by omega
              clear a1 HY HX
              go_wp2
              go_roundw
              case rel => exact ⟨i + 1, by omega, by go_num, HG.out, trivial⟩
              case measure => simp [intOf]; omega
            · by_cases b1 : 97 ≤ C ∧ C ≤ 102
              · have HG : Hid (∀ c ∈ (bl M).take (i + 1), (dvl c.toNat).isSome = true) := HY.out (by rw [dvl, if_neg a1, if_pos b1]; rfl)
                have a2 : (48 : Int) ≤ (C : Int) := by omega
                have a3 : ¬ (C : Int) ≤ 57 := by omega
                have a4 : (97 : Int) ≤ (C : Int) := by omega
                have a5 : (C : Int) ≤ 102 := by omega
                clear a1 b1 HY HX
                go_wp2
                go_roundw
                case rel => exact ⟨i + 1, by omega, by go_num, HG.out, trivial⟩
                case measure => simp [intOf]; omega
              · have HG : Hid (nmB s = false) := HX.out (by rw [dvl, if_neg a1, if_neg b1]; rfl)
                clear HX HY
                by_cases c1 : 48 ≤ C
                · have a2 : (48 : Int) ≤ (C : Int) := by omega
                  have a3 : ¬ (C : Int) ≤ 57 := by omega
                  by_cases c2 : 97 ≤ C
                  · have a4 : (97 : Int) ≤ (C : Int) := by omega
                    have a5 : ¬ (C : Int) ≤ 102 := by omega
                    clear a1 b1 c1 c2
                    go_wp2
                    go_ret
                    exact ⟨ret_bQ HG.out, rfl⟩
                  · have a4 : ¬ (97 : Int) ≤ (C : Int) := by omega
                    clear a1 b1 c1 c2
                    go_wp2
                    go_ret
                    exact ⟨ret_bQ HG.out, rfl⟩
                · have a2 : ¬ (48 : Int) ≤ (C : Int) := by omega
                  have a4 : ¬ (97 : Int) ≤ (C : Int) := by omega
                  clear a1 b1 c1
                  go_wp2
                  go_ret
                  exact ⟨ret_bQ HG.out, rfl⟩
          · have HE : Hid (nmB s = true) := by
              have e : i = 64 := by omega
              refine HN.out.2 (fun c hc => HT.out c ?_)
              rw [e, List.take_of_length_le (by rw [bl_length]; omega)]; exact hc
            have hiz : ¬ (i : Int) < 64 := by omega
            go_wp2
            go_ret
            exact ⟨ret_bQ HE.out, rfl⟩
      · have HG : Hid (nmB s = false) := nmB_not (fun h => hb h.back)
        obtain ⟨Q, hQ⟩ : ∃ Q, s.extract 70 73 = Q := ⟨_, rfl⟩
        have hQ' : s.extract 70 s.size = Q := by rw [h73]; exact hQ
        rw [hQ] at hb
        have hne := str_neQ hb
        clear hb
        go_enter Tryd.func51, Tryd.ntmps51
        go_wp2
        go_ret
        exact ⟨ret_bQ HG.out, rfl⟩
    · have HG : Hid (nmB s = false) := nmB_not (fun h => hf h.front)
      obtain ⟨Q, hQ⟩ : ∃ Q, s.extract 0 6 = Q := ⟨_, rfl⟩
      rw [hQ] at hf
      have hne := str_neQ hf
      clear hf
      go_enter Tryd.func51, Tryd.ntmps51
      go_wp2
      go_ret
      exact ⟨ret_bQ HG.out, rfl⟩
  · have HG : Hid (nmB s = false) := nmB_not (fun h => h73 h.len)
    have hzb : ((s.size : Int) != 73) = true := by simp; omega
    have hze : ((s.size : Int) == 73) = false := by rw [beq_eq_false_iff_ne]; omega
    go_enter Tryd.func51, Tryd.ntmps51
    go_wp2
    go_ret
    exact ⟨ret_bQ HG.out, rfl⟩
set_option maxHeartbeats 1000000 in
set_option maxRecDepth 100000 in
theorem rname_any (s : ByteArray) (w : World) (hs : s.size ≤ 140737488351232) :
    Calls Tryd.prog 27 #[.string s] w fun e w' => e = .returned (.string (bnm s)) ∧ Below w.heap.size w w' := by
  obtain ⟨x, hx⟩ : ∃ x, x = sb (sha (byl s)) := ⟨_, rfl⟩
  have hxz : x.size = 32 := by rw [hx]; exact sha_size _
  obtain ⟨t, ht⟩ : ∃ t, t = sb (hexL (bl x)) := ⟨_, rfl⟩
  have htz : t.size = 64 := by rw [ht, sb_size, hexL_length, bl_length, hxz]
  have HS : Hid (Calls Tryd.prog 49 #[.string s] w fun e w' => e = .returned (.agg (idc x)) ∧ Below w.heap.size w w') := by rw [hx, ← shc_idc]; exact rSum_any s w hs
  have HT : Hid (∀ W, Below w.heap.size w W → Calls Tryd.prog 48 #[.agg (idc x)] W fun e w' => e = .returned (.string t) ∧ Below w.heap.size w w') := fun W hW => by
    rw [ht]
    exact (rText_any x W hxz).mono fun e w' q => ⟨q.1, hW.trans (q.2.mono hW.size)⟩
  have HR : Hid (bnm s = nmF ++ t ++ nmE) := by show _ = _; rw [bnm, ht, hx]
  obtain ⟨D, hD⟩ : ∃ D, idc x = D := ⟨_, rfl⟩
  rw [hD] at HS HT
  have h1 : (⟨#[98, 108, 111, 111, 109, 45]⟩ : ByteArray) = nmF := rfl
  have h2 : (⟨#[46, 98, 102]⟩ : ByteArray) = nmE := rfl
  have z1 : nmF.size = 6 := rfl
  have z2 : nmE.size = 3 := rfl
  clear hx ht hD
  go_enter Tryd.func27, Tryd.ntmps27
  go_wp2_with fail
  refine HS.out.mono ?_
  rintro e w1 ⟨rfl, b1⟩
  go_wp2_with fail
  refine (HT.out _ b1).mono ?_
  rintro e w2 ⟨rfl, b2⟩
  go_wp2
  go_ret
  exact ⟨ret_sQ HR.out, b2⟩
set_option maxHeartbeats 1000000 in
set_option maxRecDepth 100000 in
theorem rcheck14 (nm s : ByteArray) (w : World) (hn : nm.size ≤ 140737488351232) (hs : s.size ≤ 140737488351232) :
    Calls Tryd.prog 29 #[.string nm, .string s] w fun e w' => ∃ er, e = .returned (.int .i64 er) ∧ CkR nm s er ∧ Below w.heap.size w w' := by
  have HI : Hid (Calls Tryd.prog 51 #[.string nm, .string ⟨#[98, 108, 111, 111, 109, 45]⟩, .string ⟨#[46, 98, 102]⟩, .int .i64 1] w fun e w' => e = .returned (.bool (nmB nm)) ∧ w' = w) := named_any nm w hn
  have HN : Hid (∀ W, Below w.heap.size w W → Calls Tryd.prog 27 #[.string s] W fun e w' => e = .returned (.string (bnm s)) ∧ Below w.heap.size w w') := fun W hW => (rname_any s W hs).mono fun e w' q => ⟨q.1, hW.trans (q.2.mono hW.size)⟩
  have HD : Hid (∀ W, Below w.heap.size w W → Calls Tryd.prog 23 #[.string s] W fun e w' => ∃ p er, e = .returned (.tuple #[.pointer p, .int .i64 er]) ∧ ((∃ n k r, IsF s n k r) ∧ er = 0 ∨ (∀ n k r, ¬ IsF s n k r) ∧ er = 4) ∧ Below w.heap.size w w') := fun W hW => by
    refine (rdec_any14 s W (by unfold maxLen; omega)).mono ?_
    rintro e w' (⟨n, k, r, f, g, h1, h2⟩ | ⟨h1, h2, h3⟩)
    · exact ⟨_, _, h2.res, .inl ⟨⟨n, k, r, h1⟩, rfl⟩, hW.trans (h2.bel.mono hW.size)⟩
    · exact ⟨_, _, h2, .inr ⟨h1, rfl⟩, hW.trans (h3.mono hW.size)⟩
  obtain ⟨N, hN⟩ : ∃ N, bnm s = N := ⟨_, rfl⟩
  rw [hN] at HN
  have B0 : Hid (Below w.heap.size w w) := Below.refl _ _
  cases hb : nmB nm with
  | false =>
    rw [hb] at HI
    have HR : Hid (CkR nm s 10) := .inl ⟨hb, rfl⟩
    clear hb hN
    go_enter Tryd.func29, Tryd.ntmps29
    go_wp2_with fail
    refine HI.out.mono ?_
    rintro e w1 ⟨rfl, hw⟩
    obtain rfl : w = w1 := hw.symm
    go_wp2
    go_ret
    exact ⟨10, rfl, HR.out, B0.out⟩
  | true =>
    rw [hb] at HI
    by_cases he : N = nm
    · have HR : Hid (∀ er, ((∃ n k r, IsF s n k r) ∧ er = 0 ∨ (∀ n k r, ¬ IsF s n k r) ∧ er = 4) → CkR nm s er) := fun er h => .inr (.inr ⟨hb, by rw [hN]; exact he.symm, h⟩)
      subst he
      clear hb hN
      go_enter Tryd.func29, Tryd.ntmps29
      go_wp2_with fail
      refine HI.out.mono ?_
      rintro e w1 ⟨rfl, hw⟩
      obtain rfl : w = w1 := hw.symm
      go_wp2_with fail
      refine (HN.out _ B0.out).mono ?_
      rintro e w2 ⟨rfl, b2⟩
      go_wp2_with fail
      refine (HD.out _ b2).mono ?_
      rintro e w3 ⟨p, er, rfl, h3, b3⟩
      have H3 : Hid _ := HR.out er h3
      clear h3
      go_wp2
      go_ret
      exact ⟨er, rfl, H3.out, b3⟩
    · have HR : Hid (CkR nm s 9) := .inr (.inl ⟨hb, by rw [hN]; exact fun e => he e.symm, rfl⟩)
      have hne := str_neQ he
      clear hb hN he
      go_enter Tryd.func29, Tryd.ntmps29
      go_wp2_with fail
      refine HI.out.mono ?_
      rintro e w1 ⟨rfl, hw⟩
      obtain rfl : w = w1 := hw.symm
      go_wp2_with fail
      refine (HN.out _ B0.out).mono ?_
      rintro e w2 ⟨rfl, b2⟩
      go_wp2
      go_ret
      exact ⟨9, rfl, HR.out, b2⟩
theorem CkR.one {nm s : ByteArray} {e e' : Int} (h : CkR nm s e) (h' : CkR nm s e') : e = e' := by
  cases hb : nmB nm with
  | false =>
    rcases h with ⟨_, h⟩ | ⟨a, _⟩ | ⟨a, _⟩
    · rcases h' with ⟨_, h'⟩ | ⟨a, _⟩ | ⟨a, _⟩
      · rw [h, h']
      · rw [hb] at a; cases a
      · rw [hb] at a; cases a
    · rw [hb] at a; cases a
    · rw [hb] at a; cases a
  | true =>
    by_cases hn : nm = bnm s
    · rcases h with ⟨a, _⟩ | ⟨_, a, _⟩ | ⟨_, _, c⟩
      · rw [hb] at a; cases a
      · exact absurd hn a
      · rcases h' with ⟨a, _⟩ | ⟨_, a, _⟩ | ⟨_, _, c'⟩
        · rw [hb] at a; cases a
        · exact absurd hn a
        · rcases c with ⟨⟨n, k, r, c1⟩, h⟩ | ⟨c1, h⟩
          · rcases c' with ⟨_, h'⟩ | ⟨c2, h'⟩
            · rw [h, h']
            · exact absurd c1 (c2 n k r)
          · rcases c' with ⟨⟨n, k, r, c2⟩, h'⟩ | ⟨_, h'⟩
            · exact absurd c2 (c1 n k r)
            · rw [h, h']
    · rcases h with ⟨a, _⟩ | ⟨_, _, h⟩ | ⟨_, a, _⟩
      · rw [hb] at a; cases a
      · rcases h' with ⟨a, _⟩ | ⟨_, _, h'⟩ | ⟨_, a, _⟩
        · rw [hb] at a; cases a
        · rw [h, h']
        · exact absurd a hn
      · exact absurd a hn
end Go.Proofs.YtplfjfhpdfbpeaaDoor
/- The document's own Put, PutText, Len. -/
namespace Go.Proofs.YtplfjfhpdfbpeaaDoor
open Go.RowKit
set_option linter.unusedSimpArgs false
set_option linter.unusedVariables false
/-- One byte, as a slice of its own, as a string. -/
theorem put_more (s a : ByteArray) (n y : Nat) (v : Int) (h : a ++ sb (encS y) = s ++ sb (encS n)) (hy : 128 ≤ y) (hy2 : y < 2 ^ 64) (hv : v = (y % 128 + 128 : Nat)) :
    (a ++ strOfNums [v]) ++ sb (encS (y / 128)) = s ++ sb (encS n) := by
  rw [← h, encS_step y hy hy2, one_is _ v hv]
  apply bl_inj
  simp [bl_append, bl_sb, by8]
theorem put_done (s a : ByteArray) (n y : Nat) (v : Int) (h : a ++ sb (encS y) = s ++ sb (encS n)) (hy : y < 128) (hv : v = (y : Nat)) : a ++ strOfNums [v] = s ++ sb (encS n) := by
  rw [← h, encS_small y hy, one_is _ v hv]
theorem slen_step (y : Nat) (h : 128 ≤ y) (hy : y < 2 ^ 64) : slen y = slen (y / 128) + 1 := by
  rw [← encS_length y, ← encS_length (y / 128), encS_step y h hy]; rfl
set_option maxHeartbeats 400000 in
set_option maxRecDepth 100000 in
theorem rput_any (s : ByteArray) (x : Int) (w : World) (h0 : 0 ≤ x) (h1 : x ≤ 18446744073709551615) (hs : s.size ≤ 4611686018427387904) :
    Calls Tryd.prog 42 #[.string s, .int .u64 x] w fun e w' => e = .returned (.string (s ++ sb (encS x.toNat))) ∧ Below w.heap.size w w' := by
  obtain ⟨n, rfl⟩ := Int.eq_ofNat_of_zero_le h0
  rw [Int.toNat_natCast]
  have hc1 := conv1
  have hz1 := one_size
  have hn : n < 18446744073709551616 := by omega
  go_enter Tryd.func42, Tryd.ntmps42
  go_wp2
  go_loopw [0, 1] (fun v i wr => ∃ (y : Nat) (a : ByteArray), i = .int .u64 y ∧ y < 18446744073709551616 ∧ v = .string a ∧ a.size + slen y = s.size + slen n ∧ Hid (a ++ sb (encS y) = s ++ sb (encS n)) ∧ Below w.heap.size w wr) (fun _ i _ => (intOf i).toNat)
  case atStart => exact ⟨n, s, rfl, hn, rfl, rfl, rfl, Below.refl _ _⟩
  case round =>
    obtain ⟨y, a, rfl, hy, rfl, haz, HE, hbel⟩ := hrel
    have hb0 := hbel.size
    have l1 := slen_le n (by omega)
    have hab : a.size ≤ 4611686018427387914 := by omega
    have HZ : Hid (a.size + slen y = s.size + slen n) := haz
    clear haz
    by_cases hy1 : 128 ≤ y
    · go_wp2
      go_roundw
      case rel => exact ⟨y / 128, _, by go_num, by omega, rfl, by rw [append_size, one_size]; have := slen_step y hy1 (by omega); have := HZ.out; omega, put_more s a n y _ HE.out hy1 (by omega) (by omega), hbel.alloc hb0 _⟩
      case measure => simp [intOf]; omega
    · go_wp2
      go_ret
      exact ⟨ret_str (put_done s a n y _ HE.out (by omega) rfl), hbel.alloc hb0 _⟩
end Go.Proofs.YtplfjfhpdfbpeaaDoor
/- The document's Encode. -/
namespace Go.Proofs.YtplfjfhpdfbpeaaDoor
open Go.RowKit
set_option linter.unusedSimpArgs false
set_option linter.unusedVariables false
/-- So many bits of a row, set one behind the other. -/
def enK (m : Nat) (s : List UInt8) : Nat → List UInt8
  | 0 => zrR m
  | i + 1 => if btR s i = true then stR (enK m s i) i else enK m s i
theorem enK_len (m : Nat) (s : List UInt8) : ∀ i, (enK m s i).length = m
  | 0 => zrR_len m
  | i + 1 => by
    rw [enK]
    split
    · rw [stR_len, enK_len m s i]
    · exact enK_len m s i
theorem btR_en (m : Nat) (s : List UInt8) (q : Nat) : ∀ i, i ≤ 8 * m → btR (enK m s i) q = (decide (q < i) && btR s q)
  | 0, _ => by rw [enK, btR_zr]; simp
  | i + 1, h => by
    have ih := btR_en m s q i (by omega)
    rw [enK]
    by_cases hb : btR s i = true
    · rw [if_pos hb, btR_st _ _ _ (by rw [enK_len]; omega), ih]
      by_cases e : q = i
      · subst e; simp [hb]
      · have : (q < i + 1) ↔ (q < i) := by omega
        simp [e, this]
    · rw [if_neg hb, ih]
      by_cases e : q = i
      · subst e; simp [Bool.eq_false_iff.2 hb]
      · have : (q < i + 1) ↔ (q < i) := by omega
        simp [this]
theorem enK_all (m : Nat) (s : List UInt8) (h : s.length = m) : enK m s (8 * m) = s := by
  apply row_ext
  · rw [enK_len, h]
  · intro q hq
    rw [enK_len] at hq
    rw [btR_en m s q _ (Nat.le_refl _)]
    simp [hq]
/-- While the document's filter is written. -/
structure ReS (w : World) (f g n k : Nat) (s r : List UInt8) (W : World) : Prop where
  fil : RfS W f g n k s
  row : Rw W w.heap.size r
  bel : Below w.heap.size w W
theorem ReS.below {w : World} {f g n k : Nat} {s r : List UInt8} {W W' : World} (h : ReS w f g n k s r W) (hb : Below W.heap.size W W') : ReS w f g n k s r W' :=
  ⟨h.fil.below hb, h.row.grown (gr_of_below hb none) (by simp), h.bel.trans (hb.mono h.bel.size)⟩
theorem ReS.bit {w : World} {f g n k : Nat} {s r : List UInt8} {W : World} (h : ReS w f g n k s r W) (hf : f < w.heap.size) (hg : g < w.heap.size) (p : Nat) (hp : p / 8 < r.length) : ReS w f g n k s (stR r p) (W.setCell ⟨w.heap.size, p / 8, none⟩ (.int .u8 ((orB (r.getD (p / 8) 0) (p % 8)).toNat : Int))) := by
  have hg2 := Lib.grownBy_setB (World.grownBy.refl W (some w.heap.size)) (p / 8) (.int .u8 ((orB (r.getD (p / 8) 0) (p % 8)).toNat : Int))
  exact ⟨h.fil.grown hg2 (by simp; omega) (by simp; omega), h.row.set _ hp _, below_own h.bel h.bel.size hg2 (Nat.le_refl _)⟩
set_option maxHeartbeats 2000000 in
set_option maxRecDepth 100000 in
theorem renc_any (f g n k : Nat) (s : List UInt8) (w : World) (hl : 8 * s.length = n) (h : RfS w f g n k s) :
    Calls Tryd.prog 17 #[.pointer (some ⟨f, 0, none⟩)] w fun e w' => e = .returned (.string (enF n k s)) ∧ Below w.heap.size w w' := by
  have hfl := h.lt
  have hgl := h.row.lt
  have h1 := okF_pos h.ok
  have h2 := okF_le h.ok
  have h3 := h.ok.2.2
  obtain ⟨m, hm⟩ : ∃ m, s.length = m := ⟨_, rfl⟩
  have hnm : n = 8 * m := by omega
  have hq : (n : Int).tdiv 8 = (m : Int) := by rw [Int.tdiv_eq_ediv_of_nonneg (by omega)]; omega
  have hmk := make_b8 m (by omega)
  have HS : Hid (ReS w f g n k s (enK m s 0) (w.alloc (.cells (rc (zrR m)) 5))) := ⟨h.below ((Below.refl _ _).alloc (Nat.le_refl _) _), Rw.of_bk (bk_new _ _ _), (Below.refl _ _).alloc (Nat.le_refl _) _⟩
  have HE : Hid (enK m s n = s) := by show _ = _; rw [hnm]; exact enK_all m s hm
  obtain ⟨S1, hS1⟩ : ∃ S : ByteArray, mkT14 ++ sb (encS n) = S := ⟨_, rfl⟩
  obtain ⟨S2, hS2⟩ : ∃ S : ByteArray, S1 ++ sb (encS k) = S := ⟨_, rfl⟩
  have z1 : S1.size ≤ 14 := by
    rw [← hS1, ByteArray.size_append, sb_size, encS_length]
    have := slen_le n (by omega)
    show 4 + _ ≤ _
    omega
  have z2 : S2.size ≤ 24 := by
    rw [← hS2, ByteArray.size_append, sb_size, encS_length]
    have := slen_le k (by omega)
    omega
  have HP1 : Hid (∀ u, ReS w f g n k s s u → Calls Tryd.prog 42 #[.string mkT14, .int .u64 (n : Int)] u fun e w' => e = .returned (.string S1) ∧ ReS w f g n k s s w') := fun u hu => by
    refine (rput_any mkT14 (n : Int) u (by omega) (by omega) (by show 4 ≤ _; omega)).mono ?_
    rintro e w1 ⟨rfl, hb⟩
    exact ⟨by rw [← hS1]; rfl, hu.below hb⟩
  have HP2 : Hid (∀ u, ReS w f g n k s s u → Calls Tryd.prog 42 #[.string S1, .int .u64 (k : Int)] u fun e w' => e = .returned (.string S2) ∧ ReS w f g n k s s w') := fun u hu => by
    refine (rput_any S1 (k : Int) u (by omega) (by omega) (by omega)).mono ?_
    rintro e w1 ⟨rfl, hb⟩
    exact ⟨by rw [← hS2]; rfl, hu.below hb⟩
  have HR : Hid (S2 ++ (⟨s.toArray⟩ : ByteArray) = enF n k s) := by show _ = _; rw [← hS2, ← hS1]; rfl
  have HV : Hid (∀ W, ReS w f g n k s s W → (convert 64 9 (.slice (some ⟨w.heap.size, 0, none⟩) m m)).run Tryd.prog W = .ok (.string ⟨s.toArray⟩) W) := fun W hW => by
    have := conv_row14 w.heap.size m s W (fun j hj => hW.row.cell j hj)
    rw [hm] at this
    exact this
  obtain ⟨B, hB⟩ : ∃ B : ByteArray, (⟨s.toArray⟩ : ByteArray) = B := ⟨_, rfl⟩
  have zB : B.size ≤ 2097152 := by
    rw [← hB]
    show s.toArray.size ≤ _
    rw [List.size_toArray]
    omega
  rw [hB] at HR HV
  have hwr : IntKind.u64.wrap (n : Int) = (n : Int) := by rw [IntKind.wrap_u64]; omega
  have hwk : IntKind.u64.wrap (k : Int) = (k : Int) := by rw [IntKind.wrap_u64]; omega
  have hc0 := (h.below (w' := w.alloc (.cells (rc (zrR m)) 5)) ((Below.refl _ _).alloc (Nat.le_refl _) _)).cells.1
  have hcw := h.cells.1
  have HH : Hid (8 * s.length = n) := hl
  have HNM : Hid (n = 8 * m) := hnm
  have hm8 : m ≤ 2097152 := by omega
  have hqe : (n : Int) / 8 = (m : Int) := by omega
  clear h hS1 hS2 hB hl hm hc0 hnm
  go_enter Tryd.func17, Tryd.ntmps17
  go_wp2
  go_loopw [4] (fun v wr => ∃ i : Nat, i ≤ n ∧ v = .int .i64 i ∧ Hid (ReS w f g n k s (enK m s i) wr)) (fun v _ => n - (intOf v).toNat)
  case atStart => exact ⟨0, Nat.zero_le _, rfl, HS.out⟩
  case round =>
    clear HS
    obtain ⟨i, hi, rfl, HS⟩ := hrel
    obtain ⟨c0, _, cc, c2, hcc⟩ := HS.out.fil.cells
    by_cases hlt : i < n
    · have cb := HS.out.fil.cell i hlt
      cases hv : btR s i with
      | false =>
        have HN : Hid (ReS w f g n k s (enK m s (i + 1)) wr) := by
          have e : enK m s (i + 1) = enK m s i := by rw [enK, if_neg (by rw [hv]; simp)]
          show ReS _ _ _ _ _ _ _ _
          rw [e]; exact HS.out
        rw [hv] at cb
        clear hv HS
        go_wp2
        go_roundw
        case rel => exact ⟨i + 1, by omega, by go_num, HN.out⟩
        case measure => simp [intOf]; omega
      | true =>
        have hil : i / 8 < (enK m s i).length := by have := HNM.out; rw [enK_len]; omega
        have HN : Hid (ReS w f g n k s (enK m s (i + 1)) (wr.setCell ⟨w.heap.size, i / 8, none⟩ (.int .u8 ((orB ((enK m s i).getD (i / 8) 0) (i % 8)).toNat : Int)))) := by
          have e : enK m s (i + 1) = stR (enK m s i) i := by rw [enK, if_pos hv]
          show ReS _ _ _ _ _ _ _ _
          rw [e]; exact HS.out.bit hfl hgl i hil
        have r1 := HS.out.row.cell (i / 8) hil
        have r2 := HS.out.row.frozen (i / 8) hil
        rw [hv] at cb
        have hk : i % 8 < 8 := by omega
        have eo := u8_or_nat ((enK m s i).getD (i / 8) 0).toNat (2 ^ (i % 8)) (UInt8.toNat_lt _) (Nat.pow_lt_pow_right (a := 2) (n := 8) (by omega) hk)
        rw [← orB_toNat _ _ hk] at eo
        obtain ⟨Q, hQ⟩ : ∃ Q, i / 8 = Q := ⟨_, rfl⟩
        obtain ⟨R, hRr⟩ : ∃ R, i % 8 = R := ⟨_, rfl⟩
        obtain ⟨u, hu⟩ : ∃ u, ((enK m s i).getD (i / 8) 0).toNat = u := ⟨_, rfl⟩
        obtain ⟨v, hvv⟩ : ∃ v, (orB ((enK m s i).getD (i / 8) 0) (i % 8)).toNat = v := ⟨_, rfl⟩
        rw [hu] at r1 eo
        rw [hvv] at eo HN
        rw [hQ] at r1 r2 HN
        rw [hRr] at eo
        have q2 : (i : Int).tdiv 8 = (Q : Int) := by rw [Int.tdiv_eq_ediv_of_nonneg (by omega)]; omega
        have q2e : (i : Int) / 8 = (Q : Int) := by omega
        have q3 : (i : Int).tmod 8 = (R : Int) := by rw [Int.tmod_eq_emod_of_nonneg (by omega)]; omega
        have q3e : (i : Int) % 8 = (R : Int) := by omega
        have hQm : Q < m := by have := HNM.out; omega
        have hQz : (Q : Int) < (m : Nat) := by omega
        have hR8 : R < 8 := by omega
        obtain ⟨b, hb⟩ : ∃ b, 2 ^ R = b := ⟨_, rfl⟩
        have hs8 : (2 : Int) ^ R % 256 = (b : Int) := by
          have hb8 : 2 ^ R < 256 := Nat.pow_lt_pow_right (a := 2) (n := 8) (by omega) hR8
          have e : (2 : Int) ^ R = ((2 ^ R : Nat) : Int) := by simp
          rw [e, hb]; omega
        rw [hb] at eo
        clear hQ hRr hu hvv hb hv hil hk HS
        go_wp2_with fail
        go_region
        go_wp2
        go_roundw
        case rel => exact ⟨i + 1, by omega, by go_num, HN.out.below (Below.refl _ _).drew⟩
        case measure => simp [intOf]; omega
    · have HF : Hid (ReS w f g n k s s wr) := by
        have e : i = n := by omega
        have h := HS.out
        rw [e, HE.out] at h
        exact h
      clear HS
      go_wp2_with fail
      refine wp_region_tail (ReS w f g n k s s) 14 (by kernel_rfl) (by kernel_rfl) (HF.out.below (Below.refl _ _).drew) ?_
      simp only [List.take_succ_cons, List.take_zero, List.drop_succ_cons, List.drop_zero]
      repeat (first
        | go_big_quiet_skip
        | (go_big_quiet_want
           first
             | (refine quiet_one 3 _ rfl f 0 (.int .i64 (n : Int)) rfl (fun w => by kernel_rfl) (fun W h => h.fil.cells.1) ?_; go_big_quiet_on; simp only [Act.put, List.setIfInBounds_toArray, List.set_cons_zero, List.set_cons_succ])
             | (refine quiet_one 3 _ rfl f 1 (.int .i64 (k : Int)) rfl (fun w => by kernel_rfl) (fun W h => h.fil.cells.2.1) ?_; go_big_quiet_on; simp only [Act.put, List.setIfInBounds_toArray, List.set_cons_zero, List.set_cons_succ])
             | (refine quiet_call10 (.string S1) 42 #[.string ⟨#[77, 66, 70, 49]⟩, .int .u64 (n : Int)] ?_ ?_ ?_; (focus (intro W hW; go_simp; done)); (focus (intro W hW; exact HP1.out W hW)); go_big_quiet_on; simp only [Act.put, List.setIfInBounds_toArray, List.set_cons_zero, List.set_cons_succ])
             | (refine quiet_call10 (.string S2) 42 #[.string S1, .int .u64 (k : Int)] ?_ ?_ ?_; (focus (intro W hW; go_simp; done)); (focus (intro W hW; exact HP2.out W hW)); go_big_quiet_on; simp only [Act.put, List.setIfInBounds_toArray, List.set_cons_zero, List.set_cons_succ])
             | (refine quiet_val10 (.string B) ?_ ?_; (focus (intro W hW; have hq := HV.out W hW; go_simp; done)); go_big_quiet_on; simp only [Act.put, List.setIfInBounds_toArray, List.set_cons_zero, List.set_cons_succ])
             | (refine quiet_val10 (.int .u64 (n : Int)) ?_ ?_; (focus (intro W hW; go_simp; done)); go_big_quiet_on; simp only [Act.put, List.setIfInBounds_toArray, List.set_cons_zero, List.set_cons_succ])
             | (refine quiet_val10 (.int .u64 (k : Int)) ?_ ?_; (focus (intro W hW; go_simp; done)); go_big_quiet_on; simp only [Act.put, List.setIfInBounds_toArray, List.set_cons_zero, List.set_cons_succ])
             | (go_big_quiet_op; go_big_quiet_on)
             | (refine quiet_val10 (.pointer (some ⟨f, 0, none⟩)) ?_ ?_; (focus (intro W hW; go_simp; done)); go_big_quiet_on; simp only [Act.put, List.setIfInBounds_toArray, List.set_cons_zero, List.set_cons_succ])
             | (refine quiet_val10 (.pointer (some ⟨f, 1, none⟩)) ?_ ?_; (focus (intro W hW; go_simp; done)); go_big_quiet_on; simp only [Act.put, List.setIfInBounds_toArray, List.set_cons_zero, List.set_cons_succ])
             | (refine quiet_val10 (.string (S2 ++ B)) ?_ ?_; (focus (intro W hW; go_simp; done)); go_big_quiet_on; simp only [Act.put, List.setIfInBounds_toArray, List.set_cons_zero, List.set_cons_succ])))
      refine wpQuiet_nil ?_
      intro w9 hw9
      have H9 : Hid (Below w.heap.size w w9) := hw9.bel
      clear hw9 HF
      go_wp2
      go_ret
      refine ⟨?_, H9.out⟩
      show Ending.returned (.string (S2 ++ B)) = _
      rw [HR.out]
end Go.Proofs.YtplfjfhpdfbpeaaDoor
/- bloom: Ones. -/
namespace Go.Proofs.YtplfjfhpdfbpeaaDoor
open Go.RowKit
set_option linter.unusedSimpArgs false
set_option linter.unusedVariables false
theorem tabP_size : Lib.pop8tab.size = 256 := by decide +kernel
theorem tabP8 : ∀ B : Fin 256, wrap64 ((Lib.pop8tab[B.val]'(by rw [tabP_size]; exact B.isLt)).toNat : Int) = (popN B.val : Int) := by decide +kernel
set_option maxHeartbeats 1000000 in
set_option maxRecDepth 100000 in
theorem ones8 (B : Nat) (hb : B < 256) (w : World) : Calls Tryd.prog 44 #[.int .u8 (B : Int)] w fun e w' => e = .returned (.int .i64 (popN B : Int)) ∧ w' = w := by
  have HT : Hid _ := tabP8 ⟨B, hb⟩
  go_enter Tryd.func44, Tryd.ntmps44
  go_wp2
  go_ret
  refine ⟨?_, rfl⟩
  show Ending.returned (.int .i64 _) = _
  have := HT.out
  rw [← this]
set_option maxHeartbeats 1000000 in
set_option maxRecDepth 100000 in
theorem ones_any14 (f g n k : Nat) (s : List UInt8) (w : World) (h : FlS w f g n k s) :
    Calls Tryd.prog 21 #[.pointer (some ⟨f, 0, none⟩)] w fun e w' => e = .returned (.int .i64 (onR s : Int)) ∧ w' = w := by
  have hl := h.len
  have hn := okF_le h.ok
  obtain ⟨c, ht, hc⟩ := h.top
  have c2 : w.cell? ⟨f, 2, none⟩ = some (.slice (some ⟨g, 0, none⟩) s.length c) := by rw [ht.cell]; rfl
  have HR : Hid (Rw w g s) := h.row
  obtain ⟨L, hL⟩ : ∃ L, s.length = L := ⟨_, rfl⟩
  have HL : Hid (s.length = L) := hL
  rw [hL] at c2 hl hc
  clear ht h hL
  go_enter Tryd.func21, Tryd.ntmps21
  go_wp2
  go_loopw [3, 13] (fun v t wr => ∃ i m : Nat, i ≤ L ∧ t = .int .i64 i ∧ v = .int .i64 m ∧ m ≤ 8 * i ∧ Hid (onR (s.take i) = m) ∧ wr = w) (fun _ t _ => L - (intOf t).toNat)
  case atStart => exact ⟨0, 0, Nat.zero_le _, rfl, rfl, by omega, by simp [onR, Hid], rfl⟩
  case round =>
    obtain ⟨i, m, hi, rfl, rfl, hm, HM, rfl⟩ := hrel
    by_cases hlt : i < L
    · have r1 := HR.out.cell i (by rw [HL.out]; exact hlt)
      have HN : Hid _ := onR_take s i (by rw [HL.out]; exact hlt)
      obtain ⟨B, hB⟩ : ∃ B, (s.getD i 0).toNat = B := ⟨_, rfl⟩
      have hB2 : B < 256 := by rw [← hB]; exact UInt8.toNat_lt _
      rw [hB] at r1 HN
      have hp := popN_le B
      obtain ⟨q, hq⟩ : ∃ q, popN B = q := ⟨_, rfl⟩
      have HO : Hid (∀ u, Calls Tryd.prog 44 #[.int .u8 (B : Int)] u fun e w' => e = .returned (.int .i64 (q : Int)) ∧ w' = u) := by rw [← hq]; exact fun u => ones8 B hB2 u
      rw [hq] at hp HN
      clear hB hq
      go_wp2_with fail
      refine (HO.out _).mono ?_
      rintro e w1 ⟨rfl, hw⟩
      subst hw
      go_wp2
      go_roundw
      case rel => exact ⟨i + 1, m + q, by omega, by go_num, by go_num, by omega, by show _ = _; rw [HN.out, HM.out], trivial⟩
      case measure => simp [intOf]; omega
    · have hik : i = L := by omega
      have HK : Hid (onR s = m) := by
        have h := HM.out
        rw [hik, ← HL.out, List.take_length] at h
        exact h
      clear hik
      go_wp2
      go_ret
      exact ⟨by rw [HK.out]; rfl, rfl⟩
end Go.Proofs.YtplfjfhpdfbpeaaDoor
