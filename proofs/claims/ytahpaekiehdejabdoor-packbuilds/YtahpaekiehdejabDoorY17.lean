import Derived.Test.YtahpaekiehdejabDoorY12
import Derived.Test.YtahpaekiehdejabDoorY16
import Derived.Test.YtahpaekiehdejabDoorY10
import Derived.Test.YtahpaekiehdejabDoorRows
import Derived.ProofKit
import Derived.Deep.Slices
import Derived.Lib.SmallJoins
import Derived.SizedLaws
import Derived.Deep.Strs
/- Two copied lists, one appended to the other; packs of more objects begin alike. -/
namespace Go.Proofs.YtahpaekiehdejabDoor
open Go.RowKit
set_option linter.unusedSimpArgs false
set_option linter.unusedVariables false
theorem obv_append (a b : List Ob) : obv (a ++ b) = obv a ++ obv b := by simp [obv]
theorem own_trim {w : World} {B n g cp : Nat} {l : List Ob} (h : w.ownsRow B 41 2 (.slice (some ⟨g, 0, none⟩) (n + 1) cp) (n + 1) (obv (l ++ [mkO]))) (hm : l.length = n) :
    w.ownsRow B 41 2 (.slice (some ⟨g, 0, none⟩) n cp) n (obv l) := by
  refine ⟨by rw [obv_length, hm], .inr ?_⟩
  rcases h.2 with ⟨h1, _⟩ | ⟨g', cap, cur, h1, hle, hg, hnc, hcm, hc, ht⟩
  · cases h1
  · injection h1 with h1 _ h3
    injection h1 with h1
    injection h1 with h1
    subst h1 h3
    refine ⟨g, cp, cur, rfl, hle, hg, by omega, hcm, hc, ?_⟩
    have := congrArg (List.take (n * 2)) ht
    rw [List.take_take, Nat.min_eq_left (by omega), obv_append, List.take_append_of_le_length (by rw [obv_length, hm]; exact Nat.le_refl _)] at this
    rw [this]
    exact List.take_of_length_le (by rw [obv_length, hm]; exact Nat.le_refl _)
theorem own_cells {w : World} {B n g cp : Nat} {l : List Ob} (h : w.ownsRow B 41 2 (.slice (some ⟨g, 0, none⟩) n cp) n (obv l)) : ∀ j u, (obv l)[j]? = some u → w.cell? ((⟨g, 0, none⟩ : Addr).add j) = some u := by
  intro j u hu
  rcases h.2 with ⟨h1, _⟩ | ⟨g', cap, cur, h1, hle, hg, hnc, hcm, hc, ht⟩
  · cases h1
  · injection h1 with h1 _ h3
    injection h1 with h1
    injection h1 with h1
    subst h1
    have hb : Bk w g cur 41 := hg
    have hj : j < (obv l).length := (List.getElem?_eq_some_iff.1 hu).1
    rw [h.1] at hj
    rw [WideShapes.add_plain, Nat.zero_add, hb.cell]
    rw [← ht, List.getElem?_take, if_pos hj, Array.getElem?_toList] at hu
    exact hu
theorem obv_one (l : List Ob) : ∀ u ∈ obv l, u.oneCell' = true := by
  intro u hu
  simp only [obv, List.mem_flatMap] at hu
  obtain ⟨o, _, ho⟩ := hu
  exact one_two_o _ _ u ho
/-- One list appended to the copy of another. -/
theorem app_two {w w1 w2 : World} {n1 n2 g1 cp1 g2 cp2 : Nat} {l more : List Ob} (h1 : w1.ownsRow w.heap.size 41 2 (.slice (some ⟨g1, 0, none⟩) (n1 + 1) cp1) (n1 + 1) (obv (l ++ [mkO]))) (hb1 : Below w.heap.size w w1)
    (h2 : w2.ownsRow w1.heap.size 41 2 (.slice (some ⟨g2, 0, none⟩) (n2 + 1) cp2) (n2 + 1) (obv (more ++ [mkO]))) (hb2 : Below w1.heap.size w1 w2) (hl : l.length = n1) (hm : more.length = n2) (hn : (n1 + n2) * 24 ≤ 140737488355328) (hz : ObZ (l ++ more)) :
    ∃ a c w3, (Builtin.append_ #[32, 32] 32 #[.slice (some ⟨g1, 0, none⟩) n1 cp1, .slice (some ⟨g2, 0, none⟩) n2 cp2]).run Tryd.prog w2 = .ok (.slice a (n1 + n2) c) w3 ∧ Hid (ObL w3 a (l ++ more) ∧ Below w.heap.size w w3) := by
  obtain ⟨i0, hi, hz0, hz1, hz2⟩ := info_parts inf_obj
  have t1 : w2.ownsRow w.heap.size 41 2 (.slice (some ⟨g1, 0, none⟩) n1 cp1) n1 (obv l) := rows_keep (own_trim h1 hl) (fun g _ hg => hb2.block g hg)
  have t2 := own_trim h2 hm
  have hB : Below w.heap.size w w2 := hb1.trans (hb2.mono hb1.size)
  obtain ⟨v', w3, hrun, hown, hgrow, _, hat⟩ := run_append_own_at (P := Tryd.prog) (w := w2) w.heap.size 32 32 41 i0 (.agg #[.int .u8 0, .string ⟨#[]⟩]) 2 24 Tryd.underlying32 hi hz0 hz1 hz2 rfl (by decide) (.slice (some ⟨g1, 0, none⟩) n1 cp1) n1 (obv l) t1 ⟨g2, 0, none⟩ n2 cp2 (obv more)
    (by rw [obv_length, hm]) (own_cells t2) (obv_one more) (by unfold maxLen; omega) hn hB.size
  rw [← obv_append] at hown
  obtain ⟨a, c, rfl, hO⟩ := row_obl0 hown hz (by rw [List.length_append, hl, hm])
  exact ⟨a, c, w3, hrun, hO, rows_bel hB hB.size t1 (Nat.le_refl _) hgrow⟩
theorem cwN_all (l : List Ob) : ∀ (a n : Nat), a + lenL l ≤ n → cwN n a l = l.length := by
  induction l with
  | nil => intro a n _; rfl
  | cons o l ih =>
    intro a n h
    rw [lenL] at h
    rw [cwN, if_pos (by omega), ih _ _ (by omega), List.length_cons]; omega
/-- Packs that begin with the same objects begin alike. -/
theorem front_same {l m : List Ob} (h : buE l = 0) (h' : buE (l ++ m) = 0) : (buS l).extract 0 (4 + lenL l) = (buS (l ++ m)).extract 0 (4 + lenL l) := by
  have hz := buS_size h
  have hz' := buS_size h'
  rw [lenL_append] at hz'
  apply bl_inj
  rw [extract_take _ _ (by omega), extract_take _ _ (by omega), buS_ok h, buS_ok h', recL_append]
  have hA : (mk4 ++ recL l).length = 4 + lenL l := by rw [List.length_append, recL_length]; rfl
  rw [← hA, List.take_left, show mk4 ++ (recL l ++ recL m) ++ bl (trl (l ++ m).length) = (mk4 ++ recL l) ++ (recL m ++ bl (trl (l ++ m).length)) from by simp, List.take_left]
end Go.Proofs.YtahpaekiehdejabDoor
/- The walk of munimentlaw11.PackBuilds. -/
namespace Go.Proofs.YtahpaekiehdejabDoor
open Go.RowKit
set_option linter.unusedSimpArgs false
set_option linter.unusedVariables false
theorem quiet_two {P : Program} {o : Oper} {a : Act} {C : World → Prop} {K : Act → Prop} (t : TypeId) (x : Operand) (ho : o.op = .load t x) (g f : Nat) (v1 v2 : Value) (d : TypeDesc) (hx : a.eval x = .pointer (some ⟨g, f, none⟩))
    (hc : ∀ w, C w → w.cell? ⟨g, f, none⟩ = some v1) (hc2 : ∀ w, C w → w.cell? ⟨g, f + 1, none⟩ = some v2) (hu : P.underlying t = some d) (hd : d.isRow = true) (hi : (P.info? t).map (·.size) = some 2) (hn : K (a.put o.dst (.agg #[v1, v2]))) : o.quiet P a C K :=
  quiet_val10 (.agg #[v1, v2]) (fun w hw => by
    have h := hc w hw
    have h2 := hc2 w hw
    have hr := run_loadVar_mid (P := P) w g f t [v1, v2] d (fun j v hv => by
      match j, hv with
      | 0, hv => simp at hv; subst hv; exact h
      | 1, hv => simp at hv; subst hv; exact h2
      | j + 2, hv => simp at hv) hu hd hi
    unfold execOp
    simp [ho, hx, Instr.loadAt, Instr.sureAddr, hr]) hn
theorem inf2_M : (Tryd.prog.info? 41).map (·.size) = some 2 := by kernel_rfl
theorem inf2_L : (Tryd.prog.info? 52).map (·.size) = some 2 := by kernel_rfl
/-- What own gives: the list, and the mark behind it. -/
theorem own_mark {w : World} {B n g cp : Nat} {l : List Ob} (h : w.ownsRow B 41 2 (.slice (some ⟨g, 0, none⟩) (n + 1) cp) (n + 1) (obv (l ++ [mkO]))) (hm : l.length = n) : w.cell? ⟨g, n * 2, none⟩ = some (.int .u8 77) ∧ n + 1 ≤ cp ∧ g < w.heap.size := by
  rcases h.2 with ⟨h1, h0⟩ | ⟨g', cap, cur, h1, hle, hg, hnc, h5, hc, ht⟩
  · omega
  · injection h1 with h1 h2 h3
    injection h1 with h1
    injection h1 with h1
    subst h1
    subst h3
    have hb : Bk w g cur 41 := hg
    have hix : (l ++ [mkO])[n]? = some mkO := by rw [← hm]; simp
    obtain ⟨q1, q2⟩ := obv_get _ n mkO hix
    rw [← ht, List.getElem?_take, if_pos (by omega), Array.getElem?_toList] at q1
    exact ⟨by rw [hb.cell]; exact q1, hnc, (Array.getElem?_eq_some_iff.1 hg).1⟩
set_option maxHeartbeats 4000000 in
set_option maxRecDepth 100000 in
theorem builds11 (l : List Ob) (ad : Option Addr) (n c : Nat) (w : World) (hO : ObL w ad l) (hl : l.length = n) (hn : (n + 1) * 24 ≤ 140737488355328) (hL : Lst w) :
    Calls Tryd.prog 4 #[.slice ad n c] w fun e w' => e = .returned (.bool true) ∧ Below w.heap.size w w' := by
  have HO : Hid (ObL w ad l) := hO
  have HL : Hid (l.length = n) := hl
  have HLs : Hid (Lst w) := hL
  have hnz : n ≤ 140737488355328 := by omega
  have hnz2 : (n : Int) + 1 ≤ 140737488355329 := by omega
  have HOW : Hid _ := own11 l ad n c w hO hl hn
  obtain ⟨Sx, hSx⟩ : ∃ Sx, Sx = buS l := ⟨_, rfl⟩
  obtain ⟨Ex, hEx⟩ : ∃ Ex, Ex = buE l := ⟨_, rfl⟩
  have HBA : Hid (∀ a m W, ObL W a l → Lst W → Calls Tryd.prog 11 #[.slice a n m] W fun e w' => e = .returned (.tuple #[.string Sx, .int .i64 Ex]) ∧ Below W.heap.size W w') := fun a m W h1 h2 => by rw [hSx, hEx]; exact build_any l a n m W h1 hl hnz h2
  have HBR : Hid (∀ a m W, ObL W a l → Calls Tryd.prog 12 #[.slice a n m] W fun e w' => e = .returned (.tuple #[.string Sx, .int .i64 Ex]) ∧ Below W.heap.size W w') := fun a m W h1 => by rw [hSx, hEx]; exact rbuild_any l a n m W h1 hl hnz
  clear hO hl hL hSx hEx hn
  go_enter Tryd.func4, Tryd.ntmps4
  go_wp2_with fail
  refine Calls.mono HOW.out ?_
  rintro e w1 ⟨gm, cp, rfl, q1, b1⟩
  have hml := own_mark q1 HL.out
  have HM1 : Hid (ObL w1 (some ⟨gm, 0, none⟩) l) := own_list q1 HO.out.sz HL.out
  have HK1 : Hid (w1.cell? ⟨gm, n * 2, none⟩ = some (.int .u8 77)) := hml.1
  have hcp : n + 1 ≤ cp := hml.2.1
  have hgm : gm < w1.heap.size := hml.2.2
  have B1 : Hid (Below w.heap.size w w1) := b1
  clear q1 b1 hml HOW
  go_wp2_with fail
  refine (HBA.out _ _ _ HM1.out (HLs.out.below B1.out)).mono ?_
  rintro e w2 ⟨rfl, b2⟩
  have B2 : Hid (Below w1.heap.size w1 w2) := b2
  clear b2 HBA
  go_wp2_with fail
  refine (HBR.out _ _ _ ((HO.out.below B1.out).below B2.out)).mono ?_
  rintro e w3 ⟨rfl, b3⟩
  have B3 : Hid (Below w1.heap.size w1 w3) := B2.out.trans (b3.mono B2.out.size)
  have HM3 : Hid (ObL w3 (some ⟨gm, 0, none⟩) l) := HM1.out.below B3.out
  have HO3 : Hid (ObL w3 ad l) := (HO.out.below B1.out).below B3.out
  have HK3 : Hid (w3.cell? ⟨gm, n * 2, none⟩ = some (.int .u8 77)) := by
    show _ = _
    rw [B3.out.cell (p := ⟨gm, n * 2, none⟩) hgm]; exact HK1.out
  have B4 : Hid (Below w.heap.size w w3) := B1.out.trans (B3.out.mono B1.out.size)
  have hgm3 : gm < w3.heap.size := Nat.lt_of_lt_of_le hgm B3.out.size
  clear b3 HBR B2 HM1 HK1 hgm
  go_wp2
  go_loopw [8] (fun v wr => ∃ (k : Nat), v = .int .i64 k ∧ k ≤ n ∧ Hid (Below w3.heap.size w3 wr)) (fun v _ => n - (intOf v).toNat)
  case atStart => exact ⟨0, rfl, Nat.zero_le _, Below.refl _ _⟩
  case round =>
    obtain ⟨k, rfl, hk, HR⟩ := hrel
    by_cases hlt : k < n
    · have hkz : (k : Int) < (n : Nat) := by omega
      obtain ⟨o, ho⟩ : ∃ o, l[k]? = some o := ⟨l[k]'(by rw [HL.out]; exact hlt), List.getElem?_eq_getElem _⟩
      obtain ⟨g, z, rfl, hg, hc0, hc1, hpz⟩ := HO3.out k o ho
      obtain ⟨g', z', hgz, _, hm0, hm1, _⟩ := HM3.out k o ho
      obtain ⟨rfl, rfl⟩ : gm = g' ∧ 0 = z' := by injection hgz with h; injection h with h1 h2; exact ⟨h1, h2⟩
      rw [Nat.zero_add] at hm0 hm1
      obtain ⟨kk, p⟩ := o
      simp only at hc0 hc1 hpz hm0 hm1
      obtain ⟨ce, hce⟩ : ∃ ce, ce = ckE ⟨kk, p⟩ := ⟨_, rfl⟩
      have HC0 : Hid (∀ W, Below w3.heap.size w3 W → W.cell? ⟨g, z + k * 2, none⟩ = some (.int .u8 (kk.toNat : Int))) := fun W hW => by rw [hW.cell (p := ⟨g, z + k * 2, none⟩) hg]; exact hc0
      have HL0 : Hid (∀ W, Below w3.heap.size w3 W → W.cell? ⟨g, z + k * 2, none⟩ = some (.int .u8 (kk.toNat : Int))) := HC0
      have HL1 : Hid (∀ W, Below w3.heap.size w3 W → W.cell? ⟨g, z + k * 2 + 1, none⟩ = some (.string p)) := fun W hW => by rw [hW.cell (p := ⟨g, z + k * 2 + 1, none⟩) hg]; exact hc1
      have HM0 : Hid (∀ W, Below w3.heap.size w3 W → W.cell? ⟨gm, k * 2, none⟩ = some (.int .u8 (kk.toNat : Int))) := fun W hW => by rw [hW.cell (p := ⟨gm, k * 2, none⟩) hgm3]; exact hm0
      have HM1 : Hid (∀ W, Below w3.heap.size w3 W → W.cell? ⟨gm, k * 2 + 1, none⟩ = some (.string p)) := fun W hW => by rw [hW.cell (p := ⟨gm, k * 2 + 1, none⟩) hgm3]; exact hm1
      have HCP : Hid (∀ W, Below w3.heap.size w3 W → Calls Tryd.prog 13 #[.agg #[.int .u8 (kk.toNat : Int), .string p]] W (fun e w'' => e = .returned (.int .i64 ce) ∧ Below w3.heap.size w3 w'')) := fun W hW => (check11 ⟨kk, p⟩ W (by unfold maxLen; simp only; omega)).mono fun e w' h => ⟨by rw [hce]; exact h.1, hW.trans (h.2.mono hW.size)⟩
      have HCR : Hid (∀ W, Below w3.heap.size w3 W → Calls Tryd.prog 14 #[.agg #[.int .u8 (kk.toNat : Int), .string p]] W (fun e w'' => e = .returned (.int .i64 ce) ∧ Below w3.heap.size w3 w'')) := fun W hW => (rcheck11 ⟨kk, p⟩ W (by unfold maxLen; simp only; omega)).mono fun e w' h => ⟨by rw [hce]; exact h.1, hW.trans (h.2.mono hW.size)⟩
      have HRD : Hid (Below w3.heap.size w3 wr.drew) := HR.out.drew
      clear ho hc0 hc1 hm0 hm1 hgz hce HC0
      go_wp2_with fail
      refine region_class10 (fun W => Below w3.heap.size w3 W) (by kernel_rfl) (by kernel_rfl) HRD.out ?_
      (go_big_quiet_want; refine quiet_val10 (.slice (some ⟨gm, 0, none⟩) n cp) ?_ ?_; (focus (intro W hW; go_simp; done)); go_big_quiet_on; simp only [Act.put, List.setIfInBounds_toArray, List.set_cons_zero, List.set_cons_succ])
      (go_big_quiet_want; refine quiet_val10 (.int .i64 (k : Int)) ?_ ?_; (focus (intro W hW; go_simp; done)); go_big_quiet_on; simp only [Act.put, List.setIfInBounds_toArray, List.set_cons_zero, List.set_cons_succ])
      (go_big_quiet_want; refine quiet_val10 (.pointer (some ⟨gm, k * 2, none⟩)) ?_ ?_; (focus (intro W hW; go_simp; done)); go_big_quiet_on; simp only [Act.put, List.setIfInBounds_toArray, List.set_cons_zero, List.set_cons_succ])
      (go_big_quiet_want; refine quiet_val10 (.pointer (some ⟨gm, k * 2, none⟩)) ?_ ?_; (focus (intro W hW; go_simp; done)); go_big_quiet_on; simp only [Act.put, List.setIfInBounds_toArray, List.set_cons_zero, List.set_cons_succ])
      (go_big_quiet_want; refine quiet_one 5 (.tmp 30) rfl gm (k * 2) (.int .u8 (kk.toNat : Int)) rfl isagg_u8 HM0.out ?_; go_big_quiet_on; simp only [Act.put, List.setIfInBounds_toArray, List.set_cons_zero, List.set_cons_succ])
      (go_big_quiet_want; refine quiet_val10 (.slice (some ⟨g, z, none⟩) n c) ?_ ?_; (focus (intro W hW; go_simp; done)); go_big_quiet_on; simp only [Act.put, List.setIfInBounds_toArray, List.set_cons_zero, List.set_cons_succ])
      (go_big_quiet_want; refine quiet_val10 (.int .i64 (k : Int)) ?_ ?_; (focus (intro W hW; go_simp; done)); go_big_quiet_on; simp only [Act.put, List.setIfInBounds_toArray, List.set_cons_zero, List.set_cons_succ])
      (go_big_quiet_want; refine quiet_val10 (.pointer (some ⟨g, z + k * 2, none⟩)) ?_ ?_; (focus (intro W hW; go_simp; done)); go_big_quiet_on; simp only [Act.put, List.setIfInBounds_toArray, List.set_cons_zero, List.set_cons_succ])
      (go_big_quiet_want; refine quiet_val10 (.pointer (some ⟨g, z + k * 2, none⟩)) ?_ ?_; (focus (intro W hW; go_simp; done)); go_big_quiet_on; simp only [Act.put, List.setIfInBounds_toArray, List.set_cons_zero, List.set_cons_succ])
      (go_big_quiet_want; refine quiet_one 5 (.tmp 35) rfl g (z + k * 2) (.int .u8 (kk.toNat : Int)) rfl isagg_u8 HL0.out ?_; go_big_quiet_on; simp only [Act.put, List.setIfInBounds_toArray, List.set_cons_zero, List.set_cons_succ])
      (go_big_quiet_want; refine quiet_val10 (.bool false) ?_ ?_; (focus (intro W hW; go_simp; done)); go_big_quiet_on; simp only [Act.put, List.setIfInBounds_toArray, List.set_cons_zero, List.set_cons_succ])
      (go_big_quiet_want; refine quiet_val10 (.bool false) ?_ ?_; (focus (intro W hW; go_simp; done)); go_big_quiet_on; simp only [Act.put, List.setIfInBounds_toArray, List.set_cons_zero, List.set_cons_succ])
      (go_big_quiet_want; refine quiet_val10 (.slice (some ⟨gm, 0, none⟩) n cp) ?_ ?_; (focus (intro W hW; go_simp; done)); go_big_quiet_on; simp only [Act.put, List.setIfInBounds_toArray, List.set_cons_zero, List.set_cons_succ])
      (go_big_quiet_want; refine quiet_val10 (.int .i64 (k : Int)) ?_ ?_; (focus (intro W hW; go_simp; done)); go_big_quiet_on; simp only [Act.put, List.setIfInBounds_toArray, List.set_cons_zero, List.set_cons_succ])
      (go_big_quiet_want; refine quiet_val10 (.pointer (some ⟨gm, k * 2, none⟩)) ?_ ?_; (focus (intro W hW; go_simp; done)); go_big_quiet_on; simp only [Act.put, List.setIfInBounds_toArray, List.set_cons_zero, List.set_cons_succ])
      (go_big_quiet_want; refine quiet_val10 (.pointer (some ⟨gm, k * 2 + 1, none⟩)) ?_ ?_; (focus (intro W hW; go_simp; done)); go_big_quiet_on; simp only [Act.put, List.setIfInBounds_toArray, List.set_cons_zero, List.set_cons_succ])
      (go_big_quiet_want; refine quiet_one 9 (.tmp 42) rfl gm (k * 2 + 1) (.string p) rfl isagg_str HM1.out ?_; go_big_quiet_on; simp only [Act.put, List.setIfInBounds_toArray, List.set_cons_zero, List.set_cons_succ])
      (go_big_quiet_want; refine quiet_val10 (.slice (some ⟨g, z, none⟩) n c) ?_ ?_; (focus (intro W hW; go_simp; done)); go_big_quiet_on; simp only [Act.put, List.setIfInBounds_toArray, List.set_cons_zero, List.set_cons_succ])
      (go_big_quiet_want; refine quiet_val10 (.int .i64 (k : Int)) ?_ ?_; (focus (intro W hW; go_simp; done)); go_big_quiet_on; simp only [Act.put, List.setIfInBounds_toArray, List.set_cons_zero, List.set_cons_succ])
      (go_big_quiet_want; refine quiet_val10 (.pointer (some ⟨g, z + k * 2, none⟩)) ?_ ?_; (focus (intro W hW; go_simp; done)); go_big_quiet_on; simp only [Act.put, List.setIfInBounds_toArray, List.set_cons_zero, List.set_cons_succ])
      (go_big_quiet_want; refine quiet_val10 (.pointer (some ⟨g, z + k * 2 + 1, none⟩)) ?_ ?_; (focus (intro W hW; go_simp; done)); go_big_quiet_on; simp only [Act.put, List.setIfInBounds_toArray, List.set_cons_zero, List.set_cons_succ])
      (go_big_quiet_want; refine quiet_one 9 (.tmp 47) rfl g (z + k * 2 + 1) (.string p) rfl isagg_str HL1.out ?_; go_big_quiet_on; simp only [Act.put, List.setIfInBounds_toArray, List.set_cons_zero, List.set_cons_succ])
      (go_big_quiet_want; refine quiet_val10 (.bool false) ?_ ?_; (focus (intro W hW; go_simp; done)); go_big_quiet_on; simp only [Act.put, List.setIfInBounds_toArray, List.set_cons_zero, List.set_cons_succ])
      (go_big_quiet_want; refine quiet_val10 (.bool false) ?_ ?_; (focus (intro W hW; go_simp; done)); go_big_quiet_on; simp only [Act.put, List.setIfInBounds_toArray, List.set_cons_zero, List.set_cons_succ])
      (go_big_quiet_want; refine quiet_val10 (.bool false) ?_ ?_; (focus (intro W hW; go_simp; done)); go_big_quiet_on; simp only [Act.put, List.setIfInBounds_toArray, List.set_cons_zero, List.set_cons_succ])
      (go_big_quiet_want; refine quiet_val10 (.slice (some ⟨gm, 0, none⟩) n cp) ?_ ?_; (focus (intro W hW; go_simp; done)); go_big_quiet_on; simp only [Act.put, List.setIfInBounds_toArray, List.set_cons_zero, List.set_cons_succ])
      (go_big_quiet_want; refine quiet_val10 (.int .i64 (k : Int)) ?_ ?_; (focus (intro W hW; go_simp; done)); go_big_quiet_on; simp only [Act.put, List.setIfInBounds_toArray, List.set_cons_zero, List.set_cons_succ])
      (go_big_quiet_want; refine quiet_val10 (.pointer (some ⟨gm, k * 2, none⟩)) ?_ ?_; (focus (intro W hW; go_simp; done)); go_big_quiet_on; simp only [Act.put, List.setIfInBounds_toArray, List.set_cons_zero, List.set_cons_succ])
      (go_big_quiet_want; refine quiet_two 41 (.tmp 54) rfl gm (k * 2) (.int .u8 (kk.toNat : Int)) (.string p) _ rfl HM0.out HM1.out Tryd.underlying41 rfl inf2_M ?_; go_big_quiet_on; simp only [Act.put, List.setIfInBounds_toArray, List.set_cons_zero, List.set_cons_succ])
      (go_big_quiet_want; refine quiet_call10 (.int .i64 ce) 13 #[.agg #[.int .u8 (kk.toNat : Int), .string p]] ?_ HCP.out ?_; (focus (intro W hW; go_simp; done)); go_big_quiet_on; simp only [Act.put, List.setIfInBounds_toArray, List.set_cons_zero, List.set_cons_succ])
      (go_big_quiet_want; refine quiet_val10 (.slice (some ⟨g, z, none⟩) n c) ?_ ?_; (focus (intro W hW; go_simp; done)); go_big_quiet_on; simp only [Act.put, List.setIfInBounds_toArray, List.set_cons_zero, List.set_cons_succ])
      (go_big_quiet_want; refine quiet_val10 (.int .i64 (k : Int)) ?_ ?_; (focus (intro W hW; go_simp; done)); go_big_quiet_on; simp only [Act.put, List.setIfInBounds_toArray, List.set_cons_zero, List.set_cons_succ])
      (go_big_quiet_want; refine quiet_val10 (.pointer (some ⟨g, z + k * 2, none⟩)) ?_ ?_; (focus (intro W hW; go_simp; done)); go_big_quiet_on; simp only [Act.put, List.setIfInBounds_toArray, List.set_cons_zero, List.set_cons_succ])
      (go_big_quiet_want; refine quiet_two 52 (.tmp 59) rfl g (z + k * 2) (.int .u8 (kk.toNat : Int)) (.string p) _ rfl HL0.out HL1.out Tryd.underlying52 rfl inf2_L ?_; go_big_quiet_on; simp only [Act.put, List.setIfInBounds_toArray, List.set_cons_zero, List.set_cons_succ])
      (go_big_quiet_want; refine quiet_call10 (.int .i64 ce) 14 #[.agg #[.int .u8 (kk.toNat : Int), .string p]] ?_ HCR.out ?_; (focus (intro W hW; go_simp; done)); go_big_quiet_on; simp only [Act.put, List.setIfInBounds_toArray, List.set_cons_zero, List.set_cons_succ])
      (go_big_quiet_want; refine quiet_val10 (.bool false) ?_ ?_; (focus (intro W hW; go_simp; done)); go_big_quiet_on; simp only [Act.put, List.setIfInBounds_toArray, List.set_cons_zero, List.set_cons_succ])
      (go_big_quiet_want; refine quiet_val10 (.bool false) ?_ ?_; (focus (intro W hW; go_simp; done)); go_big_quiet_on; simp only [Act.put, List.setIfInBounds_toArray, List.set_cons_zero, List.set_cons_succ])
      refine wpQuiet_nil ?_
      intro w8 hw8
      have H8 : Hid (Below w3.heap.size w3 w8) := hw8
      clear hw8
      go_wp2
      go_roundw
      case rel => exact ⟨k + 1, by go_num, by omega, H8.out⟩
      case measure => simp [intOf]; omega
    · have hkz : ¬ (k : Int) < (n : Nat) := by omega
      have hcz : (n : Int) + 1 ≤ (cp : Nat) := by omega
      have hK : wr.cell? ⟨gm, n * 2, none⟩ = some (.int .u8 77) := by rw [HR.out.cell (p := ⟨gm, n * 2, none⟩) hgm3]; exact HK3.out
      have B8 : Hid (Below w.heap.size w wr) := B4.out.trans (HR.out.mono B4.out.size)
      have hnn : (n : Int) < (n : Int) + 1 := by omega
      clear HK3 HM3 HO3 HR
      go_wp2_with fail
      refine (awake11 _ (HLs.out.below B8.out)).mono ?_
      rintro e w9 ⟨rfl, b9⟩
      have B9 : Hid (Below w.heap.size w w9) := B8.out.trans (b9.mono B8.out.size)
      clear b9
      go_wp2
      go_ret
      exact ⟨rfl, B9.out⟩
end Go.Proofs.YtahpaekiehdejabDoor
/- A slice of structs that came in, opened at an index: plain laws on readings, over any program. -/
namespace Go.Proofs.YtahpaekiehdejabDoor
open Go.ChangeShapes Go.WideShapes Go.ChangeAt Go.RowKit
set_option linter.unusedSimpArgs false
set_option linter.unusedVariables false
theorem weightsAll_mem {H : Type} {P : Program} {e : TypeId} : ∀ {l : List (DataW H)} {d : DataW H}, d ∈ l → ∀ n ∈ d.weights P e, n ∈ DataW.weightsAll P e l
  | [], _, h, _, _ => by simp at h
  | x :: l, d, hd, n, hn => by
    simp only [DataW.weightsAll, List.mem_append]
    rcases List.mem_cons.1 hd with rfl | h
    · exact Or.inl hn
    · exact Or.inr (weightsAll_mem h n hn)
theorem open_elem {H : Type} {enc : TypeId × Value → H} {P : Program} {w : World} {t e : TypeId} {d : DataW H} {ps : List MemPlace} {a0 : Option Addr} {len cap : Nat}
    (ht : P.underlying t = some (.slice e)) (hce : 0 < P.cellsOf e) (h : DataW.Trod enc P w 0 (fun _ => true) true t (.slice a0 len cap) d ps) :
    len ≤ maxLen ∧ ∀ i, i < len → ∃ (b off : Nat) (cs : List Value) (D : DataW H) (Pl : List MemPlace) (n : Nat), a0 = some ⟨b, off, none⟩ ∧ b < w.heap.size ∧ cs.length = P.cellsOf e ∧
      (∀ j, j < P.cellsOf e → w.cell? ⟨b, off + i * P.cellsOf e + j, none⟩ = cs[j]?) ∧ DataW.trod enc P w 0 (fun _ => true) true n e cs = some (D, Pl) ∧ ∀ q ∈ D.weights P e, q ∈ d.weights P t := by
  obtain ⟨fuel, hf⟩ := h
  have hcs : (Value.slice a0 len cap).cells.toList = [.slice a0 len cap] := by simp [Value.cells]
  rw [hcs] at hf
  rcases Go.Deep.open_slice ht hf with ⟨h1, _⟩ | ⟨a, l, c, m, n, D, Pl, h1, _, hl, hm, hmm, hx, hi⟩
  · simp only [List.cons.injEq, Value.slice.injEq, and_true] at h1
    obtain ⟨rfl, rfl, rfl⟩ := h1
    exact ⟨by unfold maxLen; omega, fun i hi => by omega⟩
  · simp only [List.cons.injEq, Value.slice.injEq, and_true] at h1
    obtain ⟨rfl, rfl, rfl⟩ := h1
    have hmc : m = cap := by simpa using hmm
    refine ⟨by omega, fun i hil => ?_⟩
    obtain ⟨cs, h2, h3⟩ := hi i (by omega)
    obtain ⟨_, hlen, hcell⟩ := World.cells?_some h2
    obtain ⟨b, off, spot⟩ := a
    have hsp : spot = none := by
      obtain ⟨cs0, k2, _⟩ := hi 0 (by omega)
      obtain ⟨_, klen, kcell⟩ := World.cells?_some k2
      have kc := kcell 0 hce
      rw [Go.Deep.add_add, Nat.zero_mul, Nat.zero_add, show (⟨b, off, spot⟩ : Addr).add 0 = ⟨b, off, spot⟩ from rfl, List.getElem?_eq_getElem (by omega)] at kc
      exact World.cell?_spot kc
    subst hsp
    have hc0 := hcell 0 hce
    rw [Go.Deep.add_add, add_plain, List.getElem?_eq_getElem (by omega)] at hc0
    refine ⟨b, off, cs, D i, Pl i, n, rfl, block_lt_of_cell hc0, hlen, fun j hj => ?_, h3, fun q hq => ?_⟩
    · have := hcell j hj
      rw [Go.Deep.add_add, add_plain, ← Nat.add_assoc] at this
      exact this
    · simp only [Prod.mk.injEq] at hx
      rw [hx.1]
      simp only [DataW.weights, ht, List.mem_cons, List.mem_append]
      exact Or.inr (Or.inl (weightsAll_mem (List.mem_map.2 ⟨i, by simpa using hil, rfl⟩) q hq))
theorem open_cap {H : Type} {enc : TypeId × Value → H} {P : Program} {w : World} {t e : TypeId} {d : DataW H} {ps : List MemPlace} {a0 : Option Addr} {len cap : Nat}
    (ht : P.underlying t = some (.slice e)) (h : DataW.Trod enc P w 0 (fun _ => true) true t (.slice a0 len cap) d ps) : len ≤ cap ∧ cap ≤ maxLen := by
  obtain ⟨fuel, hf⟩ := h
  have hcs : (Value.slice a0 len cap).cells.toList = [.slice a0 len cap] := by simp [Value.cells]
  rw [hcs] at hf
  rcases Go.Deep.open_slice ht hf with ⟨h1, _⟩ | ⟨a, l, c, m, n, D, Pl, h1, _, hl, hm, hmm, hx, hi⟩
  · simp only [List.cons.injEq, Value.slice.injEq, and_true] at h1
    obtain ⟨rfl, rfl, rfl⟩ := h1
    exact ⟨Nat.le_refl _, by unfold maxLen; omega⟩
  · simp only [List.cons.injEq, Value.slice.injEq, and_true] at h1
    obtain ⟨rfl, rfl, rfl⟩ := h1
    have hmc : m = cap := by simpa using hmm
    omega
end Go.Proofs.YtahpaekiehdejabDoor
/- Lists of the document's objects that came in, opened. -/
namespace Go.Proofs.YtahpaekiehdejabDoor
open Go.ChangeShapes Go.WideShapes Go.ChangeAt Go.RowKit Go.Joins
set_option linter.unusedSimpArgs false
set_option linter.unusedVariables false
section
variable {H : Type} {enc : TypeId × Value → H} {P : Program} {w : World} {base : Nat} {spare : Nat → Bool} {held : Bool}
theorem trod2p {t : TypeId} {f0 f1 : Field} {fuel : Nat} {cs : List Value} {x : DataW H × List MemPlace} (ht : P.underlying t = some (.struct #[f0, f1])) (h : DataW.trod enc P w base spare held fuel t cs = some x) :
    ∃ y0 y1 n, x.1 = .agg [y0.1, y1.1] ∧ cs.length = P.cellsOf t ∧ DataW.trod enc P w base spare held n f0.type ((cs.drop f0.offset).take (P.cellsOf f0.type)) = some y0 ∧
      DataW.trod enc P w base spare held n f1.type ((cs.drop f1.offset).take (P.cellsOf f1.type)) = some y1 := by
  obtain ⟨xs, n, _, rfl, hl, hlen, hf⟩ := DataW.trod_struct ht h
  match xs, hlen with
  | [y0, y1], _ => exact ⟨y0, y1, n, by simp, hl, by simpa using hf 0 f0 rfl, by simpa using hf 1 f1 rfl⟩
theorem open_lenp {t e : TypeId} {d : DataW H} {ps : List MemPlace} {a0 : Option Addr} {len cap : Nat} (ht : P.underlying t = some (.slice e)) (h : DataW.Trod enc P w 0 (fun _ => true) true t (.slice a0 len cap) d ps)
    (hsz : ∀ q ∈ d.weights P t, q ≤ reachBytes) : len * P.bytesOf e ≤ reachBytes := by
  obtain ⟨fuel, hf⟩ := h
  have hcs : (Value.slice a0 len cap).cells.toList = [.slice a0 len cap] := by simp [Value.cells]
  rw [hcs] at hf
  rcases Go.Deep.open_slice ht hf with ⟨h1, _⟩ | ⟨a, l, c, m, n, D, Pl, h1, _, hl, hm, hmm, hx, hi⟩
  · simp only [List.cons.injEq, Value.slice.injEq, and_true] at h1
    obtain ⟨rfl, rfl, rfl⟩ := h1
    simp
  · simp only [List.cons.injEq, Value.slice.injEq, and_true] at h1
    obtain ⟨rfl, rfl, rfl⟩ := h1
    simp only [Prod.mk.injEq] at hx
    have := hsz _ (by rw [hx.1]; simp only [DataW.weights, ht]; exact List.mem_cons_self ..)
    refine Nat.le_trans ?_ this
    simp only [List.length_map, List.length_range]
    exact Nat.mul_le_mul_right _ (by omega)
end
theorem len2p {α : Type} : ∀ {l : List α}, l.length = 2 → ∃ a b, l = [a, b]
  | [a, b], _ => ⟨a, b, rfl⟩
  | [], h => by simp at h
  | [_], h => by simp at h
  | _ :: _ :: _ :: _, h => by simp at h
theorem u8_valp (a : Int) (h : (Lit.int .u8 a).wf = true) : ∃ x : UInt8, a = (x.toNat : Int) := by
  have h' : 0 ≤ a ∧ a ≤ 255 := by simpa [Lit.wf, IntKind.min, IntKind.max, IntKind.signed, IntKind.bits] using h
  refine ⟨UInt8.ofNat a.toNat, ?_⟩
  simp
  omega
theorem open_obs {H : Type} {enc : TypeId × Value → H} {w : World} {d : DataW H} {ps : List MemPlace} {a0 : Option Addr} {len cap : Nat}
    (h : DataW.Trod enc Tryd.prog w 0 (fun _ => true) true 47 (.slice a0 len cap) d ps) (hsz : ∀ q ∈ d.weights Tryd.prog 47, q ≤ reachBytes) :
    ∃ l, l.length = len ∧ ObL w a0 l ∧ (len + 1) * 24 ≤ 140737488355328 := by
  have ce : Tryd.prog.cellsOf 52 = 2 := by kernel_rfl
  have be : Tryd.prog.bytesOf 52 = 24 := by kernel_rfl
  have c9 : Tryd.prog.cellsOf 9 = 1 := by kernel_rfl
  have c5 : Tryd.prog.cellsOf 5 = 1 := by kernel_rfl
  have hl := open_lenp Tryd.underlying47 h hsz
  rw [be] at hl
  unfold reachBytes at hl
  obtain ⟨_, hall⟩ := open_elem Tryd.underlying47 (by rw [ce]; omega) h
  have one : ∀ i, i < len → ∃ x : Ob, ∃ g o, a0 = some ⟨g, o, none⟩ ∧ g < w.heap.size ∧ w.cell? ⟨g, o + i * 2, none⟩ = some (.int .u8 (x.k.toNat : Int)) ∧ w.cell? ⟨g, o + i * 2 + 1, none⟩ = some (.string x.p) ∧ x.p.size ≤ 140737488351232 := by
    intro i hi
    obtain ⟨b, off, cs, D, Pl, n, ha, hb, hlen, hcell, htrod, hw⟩ := hall i hi
    rw [ce] at hlen hcell
    obtain ⟨y0, y1, m, hx, _, t0, t1⟩ := trod2p Tryd.underlying52 htrod
    obtain ⟨v0, v1, rfl⟩ := len2p hlen
    simp only [c9, c5] at t0 t1
    obtain ⟨n0, e0, _, w0⟩ := DataW.trod_int Tryd.underlying5 t0
    obtain ⟨s1, e1, hy1, w1⟩ := DataW.trod_string Tryd.underlying9 t1
    simp at e0 e1
    subst e0 e1
    obtain ⟨kk, rfl⟩ := u8_valp n0 w0
    simp only at hx
    have hm1 := hsz s1.data.toList.length (hw _ (by rw [hx, hy1]; simp [DataW.weights, Tryd.underlying52, DataW.weightsEach]))
    have e : s1.data.toList.length = s1.size := Array.length_toList
    rw [e] at hm1
    unfold reachBytes at hm1
    exact ⟨⟨kk, s1⟩, b, off, ha, hb, by simpa using hcell 0 (by omega), by simpa using hcell 1 (by omega), by simp only; omega⟩
  haveI : Inhabited Ob := ⟨⟨0, ⟨#[]⟩⟩⟩
  obtain ⟨q, hq⟩ := Go.Deep.choose_lt one
  refine ⟨(List.range len).map q, by simp, fun i x hx => ?_, by omega⟩
  rw [List.getElem?_map] at hx
  obtain ⟨j, hj, rfl⟩ := Option.map_eq_some_iff.1 hx
  have hi : i < len := by have := (List.getElem?_eq_some_iff.1 hj).1; simpa using this
  have : j = i := by rw [List.getElem?_range hi] at hj; cases hj; rfl
  subst this
  exact hq j hi
end Go.Proofs.YtahpaekiehdejabDoor
