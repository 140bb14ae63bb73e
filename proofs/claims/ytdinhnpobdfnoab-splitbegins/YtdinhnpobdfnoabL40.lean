/- The walk of SplitBegins. -/
import Derived.Test.YtdinhnpobdfnoabU20
import Derived.Test.YtdinhnpobdfnoabK24
import Derived.Deep.Cut
import Derived.Deep.CutRange
import Derived.Deep.DeepCutAuto
namespace Go.Proofs.Ytdinhnpobdfnoab
open Go.RowKit
set_option linter.unusedSimpArgs false
set_option linter.unusedVariables false
theorem chk_len {α : Type} (ct : List α → Option Nat) (s : List α) : (chk ct s).length ≤ s.length + 1 := by
  unfold chk
  have := pcs_le ct s []
  rw [List.length_append, List.length_map]
  split <;> simp <;> omega
theorem tby_app (a b : ByteArray) : tby (a ++ b) = tby a ++ tby b := by
  show (a ++ b).data.toList = _
  rw [ByteArray.data_append, Array.toList_append]
/-- A list cut, as it is read. -/
theorem cut_ck (p : Pl) (hp : p.ok) (s : ByteArray) (hs : s.size ≤ 1048576) (w : World) : Calls Try.prog 10 #[plV p.B p.F p.M, .string s] w fun e w' => ∃ a c, e = .returned (.tuple #[.slice a (chk (ctA p) (tby s)).length c, .int .i64 0]) ∧ CkL w' a (chk (ctA p) (tby s)) ∧ Below w.heap.size w w' := by
  refine (cut_yes p hp s hs w).mono ?_
  rintro e w' ⟨v, rfl, ho, hb⟩
  obtain ⟨a, c, rfl, hk⟩ := own_ckl ho rfl
  exact ⟨a, c, rfl, hk, hb⟩
set_option maxHeartbeats 4000000 in
set_option maxRecDepth 100000 in
theorem begins_walk (b f m : Int) (s0 s1 s2 : ByteArray) (w : World) (h0 : s0.size ≤ 140737488351232) (h1 : s1.size ≤ 140737488351232) (h2 : s2.size ≤ 140737488351232) :
    Calls Try.prog 4 #[plV b f m, .string s0, .string s1, .string s2] w fun e w' => e = .returned (.bool true) ∧ Below w.heap.size w w' := by
  obtain ⟨p, hp⟩ : ∃ p, plT b f m = p := ⟨_, rfl⟩
  have HOK : Hid p.ok := by rw [← hp]; exact plT_ok b f m
  have HPO : Hid (∀ u, Calls Try.prog 8 #[plV b f m] u fun e w' => e = .returned (plV p.B p.F p.M) ∧ Below u.heap.size u w') := fun u => by rw [← hp]; exact planOf_any b f m u
  obtain ⟨F, hF⟩ : ∃ t, txF s0 20000 = t := ⟨_, rfl⟩
  obtain ⟨A, hA⟩ : ∃ t, txF s1 5000 = t := ⟨_, rfl⟩
  obtain ⟨D, hD⟩ : ∃ t, txF s2 5000 = t := ⟨_, rfl⟩
  have HT0 : Hid (∀ u, Calls Try.prog 9 #[.string s0, .int .i64 20000] u fun e w' => e = .returned (.string F) ∧ w' = u) := fun u => by rw [← hF]; exact text_any s0 20000 u (by unfold maxLen; omega) (by omega)
  have HT1 : Hid (∀ u, Calls Try.prog 9 #[.string s1, .int .i64 5000] u fun e w' => e = .returned (.string A) ∧ w' = u) := fun u => by rw [← hA]; exact text_any s1 5000 u (by unfold maxLen; omega) (by omega)
  have HT2 : Hid (∀ u, Calls Try.prog 9 #[.string s2, .int .i64 5000] u fun e w' => e = .returned (.string D) ∧ w' = u) := fun u => by rw [← hD]; exact text_any s2 5000 u (by unfold maxLen; omega) (by omega)
  have hFs : F.size ≤ 20000 := by rw [← hF, txF_size]; omega
  have hAs : A.size ≤ 5000 := by rw [← hA, txF_size]; omega
  have hDs : D.size ≤ 5000 := by rw [← hD, txF_size]; omega
  obtain ⟨X, hX⟩ : ∃ l, chk (ctA p) (tby (F ++ A)) = l := ⟨_, rfl⟩
  obtain ⟨Y, hY⟩ : ∃ l, chk (ctA p) (tby (F ++ D)) = l := ⟨_, rfl⟩
  obtain ⟨nx, hnx⟩ : ∃ n, X.length = n := ⟨_, rfl⟩
  obtain ⟨ny, hny⟩ : ∃ n, Y.length = n := ⟨_, rfl⟩
  have HCX : Hid (∀ u, Calls Try.prog 10 #[plV p.B p.F p.M, .string (F ++ A)] u fun e w' => ∃ a c, e = .returned (.tuple #[.slice a nx c, .int .i64 0]) ∧ CkL w' a X ∧ Below u.heap.size u w') := fun u => by
    rw [← hnx, ← hX]; exact cut_ck p HOK.out (F ++ A) (by rw [ByteArray.size_append]; omega) u
  have HCY : Hid (∀ u, Calls Try.prog 10 #[plV p.B p.F p.M, .string (F ++ D)] u fun e w' => ∃ a c, e = .returned (.tuple #[.slice a ny c, .int .i64 0]) ∧ CkL w' a Y ∧ Below u.heap.size u w') := fun u => by
    rw [← hny, ← hY]; exact cut_ck p HOK.out (F ++ D) (by rw [ByteArray.size_append]; omega) u
  have hnx2 : nx ≤ 25001 := by rw [← hnx, ← hX]; have := chk_len (ctA p) (tby (F ++ A)); rw [tby_len, ByteArray.size_append] at this; omega
  have hny2 : ny ≤ 25001 := by rw [← hny, ← hY]; have := chk_len (ctA p) (tby (F ++ D)); rw [tby_len, ByteArray.size_append] at this; omega
  have HX : Hid (chk (ctA p) (tby F ++ tby A) = X ∧ X.length = nx ∧ chk (ctA p) (tby F ++ tby D) = Y ∧ Y.length = ny) := by rw [← tby_app, ← tby_app]; exact ⟨hX, hnx, hY, hny⟩
  have hbk := bk_new w #[.int .i64 b, .int .i64 f, .int .i64 m] 35
  have hB0 : Below w.heap.size w (w.alloc (.cells #[.int .i64 b, .int .i64 f, .int .i64 m] 35)) := (Below.refl _ _).alloc (Nat.le_refl _) _
  clear hp hF hA hD hX hY hnx hny
  go_enter Try.func4, Try.ntmps4
  go_wp2_with fail
  refine (awake9_any _).mono ?_
  rintro e w1 ⟨rfl, b1⟩
  have hb1 := hbk.below b1 hbk.lt
  have c0 : w1.cell? ⟨w.heap.size, 0, none⟩ = some (.int .i64 b) := by rw [hb1.cell]; rfl
  have c1 : w1.cell? ⟨w.heap.size, 1, none⟩ = some (.int .i64 f) := by rw [hb1.cell]; rfl
  have c2 : w1.cell? ⟨w.heap.size, 2, none⟩ = some (.int .i64 m) := by rw [hb1.cell]; rfl
  have HB1 : Hid (Below w.heap.size w w1) := hB0.trans (b1.mono hB0.size)
  clear b1 hb1 hbk hB0
  go_wp2_with fail
  refine (HPO.out _).mono ?_
  rintro e w2 ⟨rfl, b2⟩
  have HB2 : Hid (Below w.heap.size w (w2.alloc (.cells #[.int .i64 (p.B : Int), .int .i64 (p.F : Int), .int .i64 (p.M : Int)] 36)) ∧ Bk (w2.alloc (.cells #[.int .i64 (p.B : Int), .int .i64 (p.F : Int), .int .i64 (p.M : Int)] 36)) w2.heap.size #[.int .i64 (p.B : Int), .int .i64 (p.F : Int), .int .i64 (p.M : Int)] 36) := by
    have hB2 := HB1.out.trans (b2.mono HB1.out.size)
    exact ⟨hB2.alloc hB2.size _, bk_new _ _ _⟩
  clear b2 c0 c1 c2 HB1 HPO
  go_wp2_with fail
  refine (HT0.out _).mono ?_
  rintro e w3 ⟨rfl, rfl⟩
  obtain ⟨gq, hgq⟩ : ∃ g, g = w2.heap.size := ⟨_, rfl⟩
  generalize (w2.alloc (.cells #[.int .i64 (p.B : Int), .int .i64 (p.F : Int), .int .i64 (p.M : Int)] 36)) = W3 at HB2 ⊢
  rw [← hgq] at HB2 ⊢
  clear hgq HT0
  go_upto_region 5 with fail
  have hq3 : gq < W3.heap.size := HB2.out.2.lt
  go_cut [10, 11] from 22 (fun x y wx => ∃ a c, x = .slice a nx c ∧ y = .int .i64 0 ∧ Hid (CkL wx a X ∧ Below w.heap.size w wx ∧ Bk wx gq #[.int .i64 (p.B : Int), .int .i64 (p.F : Int), .int .i64 (p.M : Int)] 36))
  case first =>
    have k0 : W3.cell? ⟨gq, 0, none⟩ = some (.int .i64 (p.B : Int)) := by rw [HB2.out.2.cell]; rfl
    have k1 : W3.cell? ⟨gq, 1, none⟩ = some (.int .i64 (p.F : Int)) := by rw [HB2.out.2.cell]; rfl
    have k2 : W3.cell? ⟨gq, 2, none⟩ = some (.int .i64 (p.M : Int)) := by rw [HB2.out.2.cell]; rfl
    go_region_with (first
      | (go_at_call 9; refine (HT1.out _).mono ?_; rintro e w4 ⟨rfl, rfl⟩)
      | (go_at_call 10; refine (HCX.out _).mono ?_; rintro e w4 ⟨a, c, rfl, kX, b4⟩))
    all_goals
      go_wp2_with fail
      go_meet
      have hA := (Below.refl W3.heap.size W3).drew.trans b4
      exact ⟨a, c, rfl, rfl, kX, HB2.out.1.trans (hA.mono HB2.out.1.size), HB2.out.2.below hA hq3⟩
  case rest =>
    obtain ⟨aX, cX, rfl, rfl, HBX⟩ := hcut
    clear HB2 hq3
    go_upto_region 6 with fail
    have hq3 : gq < wc.heap.size := HBX.out.2.2.lt
    go_cut [12, 13] from 31 (fun x y wx => ∃ a c, x = .slice a ny c ∧ y = .int .i64 0 ∧ Hid (CkL wx aX X ∧ CkL wx a Y ∧ Below w.heap.size w wx))
    case first =>
      have k0 : wc.cell? ⟨gq, 0, none⟩ = some (.int .i64 (p.B : Int)) := by rw [HBX.out.2.2.cell]; rfl
      have k1 : wc.cell? ⟨gq, 1, none⟩ = some (.int .i64 (p.F : Int)) := by rw [HBX.out.2.2.cell]; rfl
      have k2 : wc.cell? ⟨gq, 2, none⟩ = some (.int .i64 (p.M : Int)) := by rw [HBX.out.2.2.cell]; rfl
      go_region_with (first
        | (go_at_call 9; refine (HT2.out _).mono ?_; rintro e w4 ⟨rfl, rfl⟩)
        | (go_at_call 10; refine (HCY.out _).mono ?_; rintro e w4 ⟨a, c, rfl, kY, b4⟩))
      all_goals
        go_wp2_with fail
        go_meet
        have hA := (Below.refl wc.heap.size wc).drew.trans b4
        exact ⟨a, c, rfl, rfl, HBX.out.1.below hA, kY, HBX.out.2.1.trans (hA.mono HBX.out.2.1.size)⟩
    case rest =>
      obtain ⟨aY, cY, rfl, rfl, HBY⟩ := hcut
      clear HBX hq3 HT1 HT2 HCX HCY
      go_wp2
      go_loopw [14, 15] (fun x y wr => ∃ i n : Nat, i ≤ nx ∧ i ≤ ny ∧ n ≤ F.size ∧ x = .int .i64 (n : Int) ∧ y = .int .i64 (i : Int) ∧ Hid (X.drop i = chk (ctA p) ((tby F ++ tby A).drop n) ∧ Y.drop i = chk (ctA p) ((tby F ++ tby D).drop n)) ∧ Hid (CkL wr aX X ∧ CkL wr aY Y ∧ Below w.heap.size w wr)) (fun _ y _ => nx - (intOf y).toNat)
      case atStart => exact ⟨0, 0, Nat.zero_le _, Nat.zero_le _, Nat.zero_le _, rfl, rfl, ⟨by rw [List.drop_zero, List.drop_zero, HX.out.1], by rw [List.drop_zero, List.drop_zero, HX.out.2.2.1]⟩, HBY.out⟩
      case round =>
        clear HBY
        obtain ⟨i, n, hi1, hi2, hnF, rfl, rfl, HI, HW⟩ := hrel
        by_cases hx : i < nx
        · have hxz : (i : Int) < (nx : Nat) := by omega
          by_cases hy : i < ny
          · have hyz : (i : Int) < (ny : Nat) := by omega
            have hi0 : (0 : Int) ≤ i := by omega
            obtain ⟨q, v, hxi, hfx, hdx, hlx⟩ := chk_at (ct := ctA p) (s := tby F ++ tby A) (n := n) (i := i) (by rw [HX.out.1]; exact HI.out.1) (by rw [HX.out.1, HX.out.2.1]; exact hx)
            obtain ⟨q', v', hyi, hfy, hdy, hly⟩ := chk_at (ct := ctA p) (s := tby F ++ tby D) (n := n) (i := i) (by rw [HX.out.2.2.1]; exact HI.out.2) (by rw [HX.out.2.2.1, HX.out.2.2.2]; exact hy)
            rw [HX.out.1] at hxi hdx
            rw [HX.out.2.2.1] at hyi hdy
            obtain ⟨gX, rfl, _, x1, x2⟩ := HW.out.1 i (q, v) hxi
            obtain ⟨gY, rfl, _, y1, y2⟩ := HW.out.2.1 i (q', v') hyi
            simp only at x1 x2 y1 y2
            rw [List.length_append, tby_len, tby_len] at hlx hly
            have hlf := hfx.lev
            have hlf' := hfy.lev
            have HE : Hid (∀ (h1 : n + q ≤ F.size) (h2 : n + q' ≤ F.size) (h3 : i + 1 < nx) (h4 : i + 1 < ny), q = q' ∧ v = v') := fun h1 h2 h3 h4 => by
              have d1 : (tby F ++ tby A).drop n = (tby F).drop n ++ tby A := List.drop_append_of_le_length (by rw [tby_len]; exact hnF)
              have d2 : (tby F ++ tby D).drop n = (tby F).drop n ++ tby D := List.drop_append_of_le_length (by rw [tby_len]; exact hnF)
              rw [d1] at hfx
              rw [d2] at hfy
              have nel : ∀ (Z : List (Nat × Nat)) (S : List UInt8) (k r : Nat), Z.length = k → i + 1 < k → Z.drop (i + 1) = chk (ctA p) (S.drop (n + r)) → n + r < S.length := fun Z S k r hk h hd => by
                have : Z.drop (i + 1) ≠ [] := fun e => by
                  have e2 := congrArg List.length e
                  rw [List.length_drop, hk] at e2
                  simp at e2; omega
                rw [hd] at this
                have h5 := chk_ne.1 this
                have h6 := List.length_pos_iff.2 h5
                rw [List.length_drop] at h6
                omega
              have l1 := nel X _ nx q HX.out.2.1 h3 hdx
              have l2 := nel Y _ ny q' HX.out.2.2.2 h4 hdy
              rw [List.length_append, tby_len, tby_len] at l1 l2
              refine hfx.same hfy ?_ ?_ ?_ ?_
              · rw [List.length_drop, tby_len]; omega
              · rw [List.length_drop, tby_len]; omega
              · rw [List.length_append, List.length_drop, tby_len, tby_len]; omega
              · rw [List.length_append, List.length_drop, tby_len, tby_len]; omega
            have HD : Hid (X.drop (i + 1) = chk (ctA p) ((tby F ++ tby A).drop (n + q)) ∧ Y.drop (i + 1) = chk (ctA p) ((tby F ++ tby D).drop (n + q'))) := ⟨hdx, hdy⟩
            clear hxi hyi hfx hfy hdx hdy
            by_cases c1 : F.size < n + q
            · have e1 : (n : Int) + q > F.size := by omega
              go_wp2
              go_ret
              exact ⟨rfl, HW.out.2.2⟩
            · have e1 : ¬ (n : Int) + q > F.size := by omega
              by_cases c2 : F.size < n + q'
              · have e2 : (n : Int) + q' > F.size := by omega
                go_wp2
                go_ret
                exact ⟨rfl, HW.out.2.2⟩
              · have e2 : ¬ (n : Int) + q' > F.size := by omega
                by_cases c3 : i + 1 = nx
                · have e3 : ((i : Int) == (nx : Int) - 1) = true := by simp; omega
                  clear c3
                  go_wp2
                  go_ret
                  exact ⟨rfl, HW.out.2.2⟩
                · have e3 : ((i : Int) == (nx : Int) - 1) = false := by simp; omega
                  by_cases c4 : i + 1 = ny
                  · have e4 : ((i : Int) == (ny : Int) - 1) = true := by simp; omega
                    clear c4
                    go_wp2
                    go_ret
                    exact ⟨rfl, HW.out.2.2⟩
                  · have e4 : ((i : Int) == (ny : Int) - 1) = false := by simp; omega
                    obtain ⟨rfl, rfl⟩ := HE.out (by omega) (by omega) (by omega) (by omega)
                    have hqq : ((q : Int) == q) = true := by simp
                    have hvv : ((v : Int) == v) = true := by simp
                    clear HE HI
                    go_wp2
                    go_quiet (fail)
                    go_wp2
                    go_roundw
                    case rel => exact ⟨i + 1, n + q, by omega, by omega, by omega, by go_num, by go_num, HD.out, HW.out.1.below (below_drewN (Below.refl _ _) _), HW.out.2.1.below (below_drewN (Below.refl _ _) _), below_drewN HW.out.2.2 _⟩
                    case measure => simp [intOf]; omega
          · have hyz : ¬ (i : Int) < (ny : Nat) := by omega
            go_wp2
            go_ret
            exact ⟨rfl, HW.out.2.2⟩
        · have hxz : ¬ (i : Int) < (nx : Nat) := by omega
          go_wp2
          go_ret
          exact ⟨rfl, HW.out.2.2⟩
end Go.Proofs.Ytdinhnpobdfnoab
