import Derived.Test.YtahpaekiehdejabDoorY17
import Derived.Test.YtahpaekiehdejabDoorY5
import Derived.Test.YtahpaekiehdejabDoorY11
/- The walk of the document's own Hex (munimentref01), for texts of at most 1048576 bytes. -/
namespace Go.Proofs.YtahpaekiehdejabDoor
open Go.RowKit
set_option linter.unusedSimpArgs false
set_option linter.unusedVariables false
theorem tab_get (v : Nat) (h : v < (⟨#[48, 49, 50, 51, 52, 53, 54, 55, 56, 57, 97, 98, 99, 100, 101, 102]⟩ : ByteArray).size) : ((⟨#[48, 49, 50, 51, 52, 53, 54, 55, 56, 57, 97, 98, 99, 100, 101, 102]⟩ : ByteArray)[v]'h).toNat = dg v := by
  have : ∀ v : Fin 16, ((⟨#[48, 49, 50, 51, 52, 53, 54, 55, 56, 57, 97, 98, 99, 100, 101, 102]⟩ : ByteArray)[v.val]'v.isLt).toNat = dg v.val := by decide
  exact this ⟨v, h⟩
theorem rhex_own (s : ByteArray) (k : Nat) (hk : k < s.size) {w1 : World} {base : Nat} {v : Value} (h : w1.ownsRow base 5 1 v (2 * k + 2) (bv (hexL ((bl s).take k)) ++ [.int .u8 (dg (s[k].toNat / 16) : Nat), .int .u8 (dg (s[k].toNat % 16) : Nat)])) :
    w1.ownsRow base 5 1 v (2 * (k + 1)) (bv (hexL ((bl s).take (k + 1)))) := by
  have e : bv (hexL ((bl s).take (k + 1))) = bv (hexL ((bl s).take k)) ++ [.int .u8 (dg (s[k].toNat / 16) : Nat), .int .u8 (dg (s[k].toNat % 16) : Nat)] := by
    rw [take_snoc s k hk, hexL_append, bv_append]; rfl
  rw [e, show 2 * (k + 1) = 2 * k + 2 from by omega]
  exact h
theorem app_below_drew {B n : Nat} {w wr w1 : World} {o : Obj} {v : Value} {xs : List Value} {e : TypeId} (hb : Below B w wr) (hz : B ≤ wr.heap.size) (ho : wr.ownsRow B e 1 v n xs) (hg : ((wr.alloc o).drew).grownBy w1 v.ownBlock) : Below B w w1 := by
  refine ((hb.alloc hz o).drew).grown hg (by show B ≤ (wr.alloc o).heap.size; simp; omega) (fun k hk => ?_)
  rcases ho.2 with ⟨rfl, _⟩ | ⟨g, cap, cur, rfl, hle, _⟩
  · cases hk
  · simp [Value.ownBlock] at hk; omega
set_option maxHeartbeats 800000 in
set_option maxRecDepth 100000 in
theorem rhex_any (s : ByteArray) (w : World) (hs : s.size ≤ 1048576) :
    Calls Tryd.prog 96 #[.string s] w fun e w' => e = .returned (.string (sb (hexL (bl s)))) ∧ Below w.heap.size w w' := by
  obtain ⟨i0, hi, hz0, hz1, hz2⟩ := info_parts info_u8
  have hsz16 : (⟨#[48, 49, 50, 51, 52, 53, 54, 55, 56, 57, 97, 98, 99, 100, 101, 102]⟩ : ByteArray).size = 16 := rfl
  go_enter Tryd.func96, Tryd.ntmps96
  go_wp2
  go_loopw [3, 4] (fun v i wr => ∃ k : Nat, k ≤ s.size ∧ i = .int .i64 k ∧ wr.ownsRow w.heap.size 5 1 v (2 * k) (bv (hexL ((bl s).take k))) ∧ Below w.heap.size w wr) (fun _ i _ => s.size - (intOf i).toNat)
  case atStart => exact ⟨0, by omega, rfl, World.ownsRow_nil _ _ _ _, Below.refl _ _⟩
  case round =>
    obtain ⟨k, hk, rfl, hown, hbel⟩ := hrel
    have hb0 := hbel.size
    by_cases hlt : k < s.size
    · have hlt256 : s[k].toNat < 256 := s[k].toNat_lt
      have hq1 : IntKind.u8.wrap ((s[k].toNat : Int) / 16) = (s[k].toNat : Int) / 16 := by rw [IntKind.wrap_u8']; omega
      have hq2 : ((s[k].toNat : Int)).tmod 16 = (s[k].toNat : Int) % 16 := Int.tmod_eq_emod_of_nonneg (by omega)
      have hv1 : ((⟨#[48, 49, 50, 51, 52, 53, 54, 55, 56, 57, 97, 98, 99, 100, 101, 102]⟩ : ByteArray)[((s[k].toNat : Int) / 16).toNat]'(by show _ < 16; omega)).toNat = dg (s[k].toNat / 16) := by
        rw [tab_get]; congr 1
      have hv2 : ((⟨#[48, 49, 50, 51, 52, 53, 54, 55, 56, 57, 97, 98, 99, 100, 101, 102]⟩ : ByteArray)[((s[k].toNat : Int) % 16).toNat]'(by show _ < 16; omega)).toNat = dg (s[k].toNat % 16) := by
        rw [tab_get]; congr 1
      have b1 : (0 : Int) ≤ (s[k].toNat : Int) / 16 := by omega
      have b2 : (s[k].toNat : Int) / 16 < 16 := by have := s[k].toNat_lt; omega
      have b3 : (s[k].toNat : Int) % 16 < 16 := by omega
      have b4 : (0 : Int) ≤ (s[k].toNat : Int) % 16 := by omega
      go_wp2_with fail
      go_region_held3 (fun w' => True) (trivial)
        ((refine step_append_lies _ (by rfl) _ _ _ (by rfl) w.heap.size 5 i0 (.int .u8 0) 1 1 Tryd.underlying83 hi hz0 hz1 hz2 rfl (by decide) u3 (2 * k) _ (by rfl) (own_drew hown _) ⟨wr.heap.size, 0, none⟩ 2 2 [.int .u8 (dg (s[k].toNat / 16) : Nat), .int .u8 (dg (s[k].toNat % 16) : Nat)] (by rfl) rfl (news_two wr _ _ _) (one_two _ _) (by omega) (by unfold maxLen; omega) (by omega) (by show w.heap.size ≤ (wr.alloc _).heap.size; simp; omega) (wr.heap.size + 1) (by show (wr.alloc _).heap.size = _; simp) ?_; intro g cap w1 hown1 hgrow hat hlt1))
      all_goals go_wp2
      all_goals go_roundw
      all_goals first
        | exact ⟨k + 1, by omega, by go_num, rhex_own s k hlt hown1, app_below_drew hbel hb0 hown hgrow⟩
        | (simp [intOf]; omega)
    · have hke : k = s.size := by omega
      subst hke
      have hc := own_conv hown
      rw [List.take_of_length_le (by rw [bl_length]; exact Nat.le_refl _)] at hc
      have hform : (∃ g c, u3 = .slice (some ⟨g, 0, none⟩) (2 * s.size) c) ∨ u3 = .slice none 0 0 := by
        rcases hown.2 with ⟨h, _⟩ | ⟨g, c, _, h, _⟩
        · exact Or.inr h
        · exact Or.inl ⟨g, c, h⟩
      clear hown
      rcases hform with ⟨g, c, hv⟩ | hv
      · subst hv
        go_wp2
        go_ret
        exact ⟨rfl, hbel⟩
      · subst hv
        go_wp2
        go_ret
        exact ⟨rfl, hbel⟩
end Go.Proofs.YtahpaekiehdejabDoor
/- The document's own Text (munimentref02). -/
namespace Go.Proofs.YtahpaekiehdejabDoor
open Go.RowKit
set_option linter.unusedSimpArgs false
set_option linter.unusedVariables false
set_option maxHeartbeats 1000000 in
set_option maxRecDepth 100000 in
theorem rText_any (s : ByteArray) (w : World) (hs : s.size = 32) :
    Calls Tryd.prog 66 #[.agg (idc s)] w fun e w' => e = .returned (.string (sb (hexL (bl s)))) ∧ Below w.heap.size w w' := by
  have h1 := slice32 w.heap.size
  have h2 := conv32 s w.heap.size 29 (w.alloc (.cells (idc s) 29)) hs (blk_new _ _)
  go_enter Tryd.func66, Tryd.ntmps66
  go_wp2_with (go_at_call 96; refine (rhex_any s _ (by omega)).mono ?_; rintro e w1 ⟨rfl, hb1⟩)
  go_ret
  exact ⟨rfl, ((Below.refl _ _).alloc (Nat.le_refl _) _).trans (hb1.mono (by rw [alloc_size]; omega))⟩
end Go.Proofs.YtahpaekiehdejabDoor
/- The document's own Parse (munimentref02). -/
namespace Go.Proofs.YtahpaekiehdejabDoor
open Go.RowKit
set_option linter.unusedSimpArgs false
set_option linter.unusedVariables false
theorem runhex_all (s : ByteArray) (w : World) (hs : s.size ≤ 140737488351232) :
    Calls Tryd.prog 92 #[.string s] w fun e w' => e = .returned (.tuple #[.string (uhS s), .int .i64 (uhE s)]) ∧ Below w.heap.size w w' := by
  by_cases h : s.size % 2 = 1
  · exact (runhex_odd s w (by omega) h).mono fun e w' ⟨he, hw'⟩ => ⟨he, by subst hw'; exact Below.refl _ _⟩
  · exact runhex_even s w (s.size / 2) (by omega) (by omega)
theorem runhex_size (s : ByteArray) : (uhS s).size ≤ s.size := by
  cases e : unhexL (bl s) with
  | none => rw [(uh_none e).1]; exact Nat.zero_le _
  | some m =>
    have := (hex_unhex _ _ (Nat.le_refl _) m e).2
    rw [bl_length] at this
    rw [(uh_some e).1, sb_size]
    omega
/-- What Parse's two names are, wherever it stands. -/
def SP (w : World) (A : Array Value) (W : World) : Prop :=
  Blk W w.heap.size z32c 29 ∧ Blk W (w.heap.size + 1) A 29 ∧ Below w.heap.size w W
theorem SP.below {w W W' : World} {A : Array Value} (h : SP w A W) (hb : Below W.heap.size W W') : SP w A W' :=
  ⟨h.1.grown (grown_of_below hb none) (by simp), h.2.1.grown (grown_of_below hb none) (by simp), h.2.2.trans (hb.mono h.2.2.size)⟩
theorem SP.new (w : World) : SP w z32c ((w.alloc (.cells z32c 29)).alloc (.cells z32c 29)) := by
  have g2 := World.grownBy_alloc (w.alloc (.cells z32c 29)) (.cells z32c 29) none
  have e := blk_new (w.alloc (.cells z32c 29)) (.cells z32c 29)
  rw [alloc_size] at e
  exact ⟨Blk.grown (blk_new w (.cells z32c 29)) g2 (by simp), e, ((Below.refl _ _).alloc (Nat.le_refl _) _).alloc (by rw [alloc_size]; omega) _⟩
set_option maxHeartbeats 1000000 in
set_option maxRecDepth 100000 in
theorem rParse_bad (t : ByteArray) (w : World) (ht : t.size ≤ 140737488351232) (hbad : ¬ (uhE t = 0 ∧ (uhS t).size = 32)) :
    Calls Tryd.prog 62 #[.string t] w fun e w' => e = .returned (.tuple #[.agg z32c, .int .i64 4]) ∧ Below w.heap.size w w' := by
  go_enter Tryd.func62, Tryd.ntmps62
  go_wp2_with fail
  refine Calls.mono (runhex_all t ((w.alloc (.cells z32c 29)).alloc (.cells z32c 29)) ht) ?_
  rintro e w1 ⟨rfl, hb⟩
  have HP : Hid (SP w z32c w1) := (SP.new w).below hb
  have hsz : (uhS t).size ≤ t.size := runhex_size t
  rcases uhE_cases t with he | he
  · rw [he]
    have hne : ¬ ((uhS t).size : Int) = 32 := by intro h; exact hbad ⟨he, by omega⟩
    clear hb hbad
    go_wp2_with (first
      | (refine wpList_load_row rfl 29 (.tmp 4) rfl (w.heap.size + 1) rfl 29 z32c (0, 0) _ HP.out.2.1 Tryd.underlying29 rfl (info_32 z32c_size) ?_)
      | (refine wpList_store_row rfl 29 (.tmp 2) (.tmp 20) rfl w.heap.size z32c rfl rfl 29 z32c HP.out.1 (info_32 z32c_size) rfl z32c_one ?_))
    refine bodyPost_ret (results_cell_tmp_row rfl _ _ w.heap.size 29 z32c (0, 0) _ rfl (setRow_heap _ _ _ _ _ _ HP.out.1) Tryd.underlying29 rfl (info_32 z32c_size)) rfl ⟨rfl, ?_⟩
    exact below_setRow HP.out.2.2 (Nat.le_refl _) _
  · rw [he]
    clear hb hbad
    go_wp2_with (first
      | (refine wpList_load_row rfl 29 (.tmp 4) rfl (w.heap.size + 1) rfl 29 z32c (0, 0) _ HP.out.2.1 Tryd.underlying29 rfl (info_32 z32c_size) ?_)
      | (refine wpList_store_row rfl 29 (.tmp 2) (.tmp 20) rfl w.heap.size z32c rfl rfl 29 z32c HP.out.1 (info_32 z32c_size) rfl z32c_one ?_))
    refine bodyPost_ret (results_cell_tmp_row rfl _ _ w.heap.size 29 z32c (0, 0) _ rfl (setRow_heap _ _ _ _ _ _ HP.out.1) Tryd.underlying29 rfl (info_32 z32c_size)) rfl ⟨rfl, ?_⟩
    exact below_setRow HP.out.2.2 (Nat.le_refl _) _
end Go.Proofs.YtahpaekiehdejabDoor
/- The document's own Parse (munimentref02): a name's text. -/
namespace Go.Proofs.YtahpaekiehdejabDoor
open Go.RowKit
set_option linter.unusedSimpArgs false
set_option linter.unusedVariables false
/-- So many bytes of a text laid into a name of noughts. -/
def fp (q : ByteArray) : Nat → Array Value
  | 0 => z32c
  | j + 1 => (fp q j).setIfInBounds j (.int .u8 (((byl q).getD j 0 : Nat) : Int))
theorem fp_size (q : ByteArray) : ∀ j, (fp q j).size = 32
  | 0 => z32c_size
  | j + 1 => by rw [fp, Array.size_setIfInBounds]; exact fp_size q j
theorem fp_get (q : ByteArray) (hq : q.size = 32) : ∀ j, j ≤ 32 → ∀ i, i < j → (fp q j)[i]? = (idc q)[i]?
  | 0, _, i, hi => by omega
  | j + 1, hj, i, hi => by
    rw [fp, Array.getElem?_setIfInBounds]
    by_cases e : j = i
    · subst e
      rw [if_pos rfl, if_pos (by rw [fp_size]; omega)]
      have hl : j < (byl q).length := by rw [byl_length]; omega
      rw [idc, List.getElem?_toArray, bvc, List.getElem?_map, List.getElem?_eq_getElem hl, List.getD, List.getElem?_eq_getElem hl]; rfl
    · rw [if_neg e]; exact fp_get q hq j (by omega) i (by omega)
theorem fp_all (q : ByteArray) (hq : q.size = 32) : fp q 32 = idc q := by
  apply Array.ext_getElem?
  intro i
  by_cases h : i < 32
  · exact fp_get q hq 32 (Nat.le_refl _) i h
  · rw [Array.getElem?_eq_none (by rw [fp_size]; omega), Array.getElem?_eq_none (by rw [idc_size]; omega)]
theorem idc_ones (s : ByteArray) : (idc s).all (·.oneCell') = true := Array.all_eq_true_iff_forall_mem.2 (by intro v hv; exact bvc_one _ v (by simpa [idc] using hv))
set_option maxHeartbeats 1000000 in
set_option maxRecDepth 100000 in
theorem rParse_good (t : ByteArray) (w : World) (ht : t.size ≤ 140737488351232) (he : uhE t = 0) (hz : (uhS t).size = 32) :
    Calls Tryd.prog 62 #[.string t] w fun e w' => e = .returned (.tuple #[.agg (idc (uhS t)), .int .i64 0]) ∧ Below w.heap.size w w' := by
  go_enter Tryd.func62, Tryd.ntmps62
  go_wp2_with fail
  refine Calls.mono (runhex_all t ((w.alloc (.cells z32c 29)).alloc (.cells z32c 29)) ht) ?_
  rintro e w1 ⟨rfl, hb⟩
  have HS : Hid (SP w (fp (uhS t) 0) w1) := (SP.new w).below hb
  rw [he]
  obtain ⟨q, hq⟩ : ∃ q, q = uhS t := ⟨_, rfl⟩
  rw [← hq] at hz HS ⊢
  have hzi : ((q.size : Int) = 32) := by omega
  have HU : Hid (q = uhS t) := hq
  clear hb hq he
  go_wp2
  go_loopw [7] (fun i wr => ∃ j : Nat, j ≤ 32 ∧ i = .int .i64 (j : Int) ∧ Hid (SP w (fp q j) wr)) (fun i _ => 40 - (intOf i).toNat)
  case atStart => exact ⟨0, by omega, rfl, HS.out⟩
  case round =>
    clear HS
    obtain ⟨j, hj, rfl, HR⟩ := hrel
    by_cases hj0 : j < 32
    · have hjq : j < q.size := by omega
      obtain ⟨u, hu⟩ : ∃ u, (fp q j)[j]? = some u := ⟨_, Array.getElem?_eq_getElem (by rw [fp_size]; exact hj0)⟩
      have hc3 : wr.cell? ⟨w.heap.size + 1, j, none⟩ = some u := by rw [HR.out.2.1.cell]; exact hu
      have hf3 : wr.frozen? ⟨w.heap.size + 1, j, none⟩ = false := HR.out.2.1.frozen j
      have HV : Hid ((byl q).getD j 0 = q[j].toNat) := by show (byl q).getD j 0 = q[j].toNat; rw [List.getD, byl_getD q j hjq]; rfl
      clear hu
      go_wp2
      go_roundw
      case rel =>
        refine ⟨j + 1, by omega, by go_num, ?_⟩
        have hS := HR.out
        have e : fp q (j + 1) = (fp q j).setIfInBounds j (.int .u8 (q[j].toNat : Int)) := by rw [← HV.out]; rfl
        have gg : wr.grownBy (wr.setCell ⟨w.heap.size + 1, j, none⟩ (.int .u8 (q[j].toNat : Int))) (some (w.heap.size + 1)) := Lib.grownBy_setB (World.grownBy.refl wr (some (w.heap.size + 1))) j _
        refine ⟨hS.1.grown gg (by simp), ?_, hS.2.2.setCell (by show w.heap.size ≤ w.heap.size + 1; omega) _⟩
        rw [e]
        exact hS.2.1.set _ _
      case measure => simp [intOf]; omega
    · have hj1 : j = 32 := by omega
      subst hj1
      have HP : Hid (SP w (idc q) wr) := by rw [← fp_all q hz]; exact HR.out
      clear HR hj hj0
      rw [show ((32 : Nat) : Int) = (32 : Int) from rfl]
      have hiq : (Tryd.prog.info? 29).map (·.size) = some (idc q).size := info_32 (by rw [idc_size]; exact hz)
      go_wp2_with (first
        | (refine wpList_load_row rfl 29 (.tmp 4) rfl (w.heap.size + 1) rfl 29 (idc q) (0, 0) _ HP.out.2.1 Tryd.underlying29 rfl hiq ?_)
        | (refine wpList_store_row rfl 29 (.tmp 2) (.tmp 30) rfl w.heap.size (idc q) rfl rfl 29 z32c HP.out.1 hiq (by rw [z32c_size, idc_size, hz]) (idc_ones q) ?_))
      refine bodyPost_ret (results_cell_tmp_row rfl _ _ w.heap.size 29 (idc q) (0, 0) _ rfl (setRow_heap _ _ _ _ _ _ HP.out.1) Tryd.underlying29 rfl hiq) rfl ⟨by rw [← HU.out]; rfl, ?_⟩
      exact below_setRow HP.out.2.2 (Nat.le_refl _) _
end Go.Proofs.YtahpaekiehdejabDoor
/- The document's own Read, One, Span, Label, Sum, Fits (munimentref11). -/
namespace Go.Proofs.YtahpaekiehdejabDoor
open Go.RowKit
set_option linter.unusedSimpArgs false
set_option linter.unusedVariables false
theorem atN_zero {s : ByteArray} : ((atN s : Int) == 0) = !atB s := by
  unfold atN
  cases h : atB s with
  | true => rw [if_pos rfl]; simp; omega
  | false => simp
theorem ft_at (s : ByteArray) : (atB s = true ∧ ftO s = atO s ∧ ftE s = 0) ∨ (atB s = false ∧ ftO s = ⟨0, ⟨#[]⟩⟩ ∧ ftE s = 4) := by
  cases h : atB s with
  | true => exact .inl ⟨rfl, by simp [ftO, h], by simp [ftE, h]⟩
  | false => exact .inr ⟨rfl, by simp [ftO, h], by simp [ftE, h]⟩
set_option maxHeartbeats 1000000 in
set_option maxRecDepth 100000 in
theorem rread_any (s : ByteArray) (off : Int) (w : World) (hs : s.size ≤ 140737488355328) :
    Calls Tryd.prog 21 #[.string s, .int .i64 off] w fun r w' => r = .returned (.tuple #[.agg #[.int .u8 ((rdO s off).k.toNat : Int), .string (rdO s off).p], .int .i64 (rdE s off)]) ∧ Below w.heap.size w w' := by
  have hb0 : Bk (w.alloc (.cells #[.int .u8 0, .string ⟨#[]⟩] 52)) w.heap.size #[.int .u8 0, .string ⟨#[]⟩] 52 := bk_new _ _ _
  have HB0 : Hid (Below w.heap.size w (w.alloc (.cells #[.int .u8 0, .string ⟨#[]⟩] 52))) := (Below.refl _ _).alloc (Nat.le_refl _) _
  have HK0 : Hid (Bk (w.alloc (.cells #[.int .u8 0, .string ⟨#[]⟩] 52)) w.heap.size #[.int .u8 0, .string ⟨#[]⟩] 52) := hb0
  clear hb0
  by_cases h1 : off < 0
  · have HR : Hid (((rdO s off).k.toNat : Int) = 0 ∧ (rdO s off).p = ⟨#[]⟩ ∧ rdE s off = 1) := by
      show _ ∧ _
      rw [rdO, rdE, if_neg (by omega), if_neg (by omega)]; exact ⟨rfl, rfl, rfl⟩
    go_enter Tryd.func21, Tryd.ntmps21
    go_wp2
    refine bodyPost_ret (res_cell_tmp (u := 5) rfl _ _ w.heap.size 52 #[.int .u8 0, .string ⟨#[]⟩] (0, 0) _ rfl (bk_new _ _ _) Tryd.underlying52 rfl inf_rob) rfl ⟨ret_oe HR.out, ?_⟩
    exact HB0.out
  by_cases h2 : (s.size : Int) < off
  · have HR : Hid (((rdO s off).k.toNat : Int) = 0 ∧ (rdO s off).p = ⟨#[]⟩ ∧ rdE s off = 1) := by
      show _ ∧ _
      rw [rdO, rdE, if_neg (by omega), if_neg (by omega)]; exact ⟨rfl, rfl, rfl⟩
    go_enter Tryd.func21, Tryd.ntmps21
    go_wp2
    refine bodyPost_ret (res_cell_tmp (u := 5) rfl _ _ w.heap.size 52 #[.int .u8 0, .string ⟨#[]⟩] (0, 0) _ rfl (bk_new _ _ _) Tryd.underlying52 rfl inf_rob) rfl ⟨ret_oe HR.out, ?_⟩
    exact HB0.out
  obtain ⟨a, rfl⟩ : ∃ a : Nat, off = (a : Int) := ⟨off.toNat, by omega⟩
  have h3 : a ≤ s.size := by omega
  have h3z : (a : Int) ≤ (s.size : Int) := by omega
  have HR : Hid (rdO s (a : Int) = ftO (frmO s a) ∧ rdE s (a : Int) = ftE (frmO s a)) := by
    show _ ∧ _
    rw [rdO, rdE, if_pos (by omega), if_pos (by omega), Int.toNat_natCast]; exact ⟨rfl, rfl⟩
  obtain ⟨x, hx⟩ : ∃ x, s.extract a s.size = x := ⟨_, rfl⟩
  have HX : Hid (x = frmO s a) := hx.symm
  have hxz : x.size ≤ 140737488355328 := by rw [HX.out, frmO_size]; omega
  have hpz := ftO_size x
  clear h1
  go_enter Tryd.func21, Tryd.ntmps21
  go_wp2_with fail
  refine (rat_any x _ (by unfold maxLen; omega)).mono ?_
  rintro e w1 ⟨rfl, hb⟩
  have hbk := HK0.out.below hb HK0.out.lt
  have HB1 : Hid (Below w.heap.size w w1) := HB0.out.trans (hb.mono HB0.out.size)
  have hfa := ft_at x
  have hn0 := atN_zero (s := x)
  obtain ⟨k, hk⟩ : ∃ k, k = (ftO x).k := ⟨_, rfl⟩
  obtain ⟨p, hp⟩ : ∃ p, p = (ftO x).p := ⟨_, rfl⟩
  obtain ⟨n, hn⟩ : ∃ n : Int, n = (atN x : Int) := ⟨_, rfl⟩
  rw [← hk, ← hp, ← hn]
  rw [← hp] at hpz
  rw [← hn] at hn0
  have HO : Hid (k = (ftO x).k ∧ p = (ftO x).p) := ⟨hk, hp⟩
  have hb2 : Bk (w1.alloc (.cells #[.int .u8 (k.toNat : Int), .string p] 52)) w.heap.size #[.int .u8 0, .string ⟨#[]⟩] 52 := hbk.alloc _
  have HK2 : Hid (Bk (w1.alloc (.cells #[.int .u8 (k.toNat : Int), .string p] 52)) w.heap.size #[.int .u8 0, .string ⟨#[]⟩] 52) := hb2
  have d0 : (w1.alloc (.cells #[.int .u8 (k.toNat : Int), .string p] 52)).cell? ⟨w.heap.size, 0, none⟩ = some (.int .u8 0) := by rw [hb2.cell]; rfl
  have d1 : (w1.alloc (.cells #[.int .u8 (k.toNat : Int), .string p] 52)).cell? ⟨w.heap.size, 1, none⟩ = some (.string ⟨#[]⟩) := by rw [hb2.cell]; rfl
  have f0 := hb2.frozen 0
  have f1 := hb2.frozen 1
  have HB2 : Hid (Below w.heap.size w (w1.alloc (.cells #[.int .u8 (k.toNat : Int), .string p] 52))) := HB1.out.alloc HB1.out.size _
  clear hb hbk hb2 hk hp hn
  rcases hfa with ⟨q1, q2, q3⟩ | ⟨q1, q2, q3⟩
  · have hz : (n == 0) = false := by rw [hn0, q1]; rfl
    have HE : Hid (ftE x = 0) := q3
    clear hn0 q1 q2 q3
    go_wp2
    refine bodyPost_ret (res_cell_tmp (u := 5) rfl _ _ w.heap.size 52 #[.int .u8 (k.toNat : Int), .string p] (0, 0) _ rfl (st2 HK2.out _ _) Tryd.underlying52 rfl inf_rob) rfl ⟨ret_oe ?_, ?_⟩
    · rw [HR.out.1, HR.out.2, ← HX.out, HO.out.1, HO.out.2, HE.out]; exact ⟨rfl, rfl, rfl⟩
    · exact below_own HB2.out HB2.out.size (gr2 _ _ _ _) (Nat.le_refl _)
  · have hz : (n == 0) = true := by rw [hn0, q1]; rfl
    have HE : Hid (ftO x = ⟨0, ⟨#[]⟩⟩ ∧ ftE x = 4) := ⟨q2, q3⟩
    clear hn0 q1 q2 q3
    go_wp2
    refine bodyPost_ret (res_cell_tmp (u := 5) rfl _ _ w.heap.size 52 #[.int .u8 0, .string ⟨#[]⟩] (0, 0) _ rfl (st2 HK2.out _ _) Tryd.underlying52 rfl inf_rob) rfl ⟨ret_oe ?_, ?_⟩
    · rw [HR.out.1, HR.out.2, ← HX.out, HE.out.1, HE.out.2]; exact ⟨rfl, rfl, rfl⟩
    · exact below_own HB2.out HB2.out.size (gr2 _ _ _ _) (Nat.le_refl _)
/-- One record, by its length. -/
theorem on_at (s : ByteArray) : (atB s = true ∧ (atN s : Int) = (s.size : Int) ∧ onO s = atO s ∧ onE s = 0) ∨ ((atB s = false ∨ (atB s = true ∧ ¬ (atN s : Int) = (s.size : Int))) ∧ onO s = ⟨0, ⟨#[]⟩⟩ ∧ onE s = 4) := by
  cases h : atB s with
  | false => exact .inr ⟨.inl rfl, by simp [onO, h], by simp [onE, h]⟩
  | true =>
    have hf := at_fits h
    have hn : atN s = 9 + (atO s).p.size := by rw [atN, if_pos h]
    have hr : ufR s = ⟨#[]⟩ ↔ atN s = s.size := by
      rw [hf.2.1, hn]
      generalize (atO s).p.size = z at hf
      have h1 := hf.1
      constructor
      · intro e
        have := congrArg ByteArray.size e
        rw [frmO_size] at this
        have h0 : (⟨#[]⟩ : ByteArray).size = 0 := rfl
        rw [h0] at this
        omega
      · intro e
        apply bl_inj
        have : (frmO s (9 + z)).size = 0 := by rw [frmO_size]; omega
        exact (List.eq_nil_of_length_eq_zero (by rw [bl_length]; exact this)).trans rfl
    by_cases e : atN s = s.size
    · exact .inl ⟨rfl, by omega, by rw [onO, if_pos ⟨h, hr.2 e⟩], by rw [onE, if_pos ⟨h, hr.2 e⟩]⟩
    · exact .inr ⟨.inr ⟨rfl, by omega⟩, by rw [onO, if_neg (fun q => e (hr.1 q.2))], by rw [onE, if_neg (fun q => e (hr.1 q.2))]⟩
set_option maxHeartbeats 1000000 in
set_option maxRecDepth 100000 in
theorem rone_any (s : ByteArray) (w : World) (hs : s.size ≤ 140737488355328) :
    Calls Tryd.prog 23 #[.string s] w fun r w' => r = .returned (.tuple #[.agg #[.int .u8 ((onO s).k.toNat : Int), .string (onO s).p], .int .i64 (onE s)]) ∧ Below w.heap.size w w' := by
  have HB0 : Hid (Below w.heap.size w (w.alloc (.cells #[.int .u8 0, .string ⟨#[]⟩] 52))) := (Below.refl _ _).alloc (Nat.le_refl _) _
  have HK0 : Hid (Bk (w.alloc (.cells #[.int .u8 0, .string ⟨#[]⟩] 52)) w.heap.size #[.int .u8 0, .string ⟨#[]⟩] 52) := bk_new _ _ _
  have hoa := on_at s
  have hn0 := atN_zero (s := s)
  have hfa := ft_at s
  have hpz := ftO_size s
  go_enter Tryd.func23, Tryd.ntmps23
  go_wp2_with fail
  refine (rat_any s _ (by unfold maxLen; omega)).mono ?_
  rintro e w1 ⟨rfl, hb⟩
  have hbk := HK0.out.below hb HK0.out.lt
  have HB1 : Hid (Below w.heap.size w w1) := HB0.out.trans (hb.mono HB0.out.size)
  obtain ⟨k, hk⟩ : ∃ k, k = (ftO s).k := ⟨_, rfl⟩
  obtain ⟨p, hp⟩ : ∃ p, p = (ftO s).p := ⟨_, rfl⟩
  obtain ⟨n, hn⟩ : ∃ n : Int, n = (atN s : Int) := ⟨_, rfl⟩
  rw [← hk, ← hp, ← hn]
  rw [← hp] at hpz
  rw [← hn] at hn0 hoa
  have HO : Hid (k = (ftO s).k ∧ p = (ftO s).p) := ⟨hk, hp⟩
  have hb2 : Bk (w1.alloc (.cells #[.int .u8 (k.toNat : Int), .string p] 52)) w.heap.size #[.int .u8 0, .string ⟨#[]⟩] 52 := hbk.alloc _
  have HK2 : Hid (Bk (w1.alloc (.cells #[.int .u8 (k.toNat : Int), .string p] 52)) w.heap.size #[.int .u8 0, .string ⟨#[]⟩] 52) := hb2
  have d0 : (w1.alloc (.cells #[.int .u8 (k.toNat : Int), .string p] 52)).cell? ⟨w.heap.size, 0, none⟩ = some (.int .u8 0) := by rw [hb2.cell]; rfl
  have d1 : (w1.alloc (.cells #[.int .u8 (k.toNat : Int), .string p] 52)).cell? ⟨w.heap.size, 1, none⟩ = some (.string ⟨#[]⟩) := by rw [hb2.cell]; rfl
  have f0 := hb2.frozen 0
  have f1 := hb2.frozen 1
  have HB2 : Hid (Below w.heap.size w (w1.alloc (.cells #[.int .u8 (k.toNat : Int), .string p] 52))) := HB1.out.alloc HB1.out.size _
  clear hb hbk hb2 hk hp hn
  rcases hoa with ⟨q1, q2, q3, q4⟩ | ⟨q1, q3, q4⟩
  · have hz : (n == 0) = false := by rw [hn0, q1]; rfl
    have hz2 : (n != (s.size : Int)) = false := by rw [bne_eq_false_iff_eq]; exact q2
    have HE : Hid (((onO s).k.toNat : Int) = (k.toNat : Int) ∧ (onO s).p = p ∧ onE s = 0) := by
      rcases hfa with ⟨_, r2, _⟩ | ⟨r1, _, _⟩
      · rw [q3, q4, HO.out.1, HO.out.2, r2]; exact ⟨rfl, rfl, rfl⟩
      · rw [q1] at r1; cases r1
    clear hn0 q1 q2 q3 q4 hfa
    go_wp2
    refine bodyPost_ret (res_cell_tmp (u := 3) rfl _ _ w.heap.size 52 #[.int .u8 (k.toNat : Int), .string p] (0, 0) _ rfl (st2 HK2.out _ _) Tryd.underlying52 rfl inf_rob) rfl ⟨ret_oe HE.out, ?_⟩
    exact below_own HB2.out HB2.out.size (gr2 _ _ _ _) (Nat.le_refl _)
  · have HE : Hid (((onO s).k.toNat : Int) = 0 ∧ (onO s).p = ⟨#[]⟩ ∧ onE s = 4) := by rw [q3, q4]; exact ⟨rfl, rfl, rfl⟩
    rcases q1 with q1 | ⟨q1, q2⟩
    · have hz : (n == 0) = true := by rw [hn0, q1]; rfl
      clear hn0 q1 q3 q4 hfa
      go_wp2
      refine bodyPost_ret (res_cell_tmp (u := 3) rfl _ _ w.heap.size 52 #[.int .u8 0, .string ⟨#[]⟩] (0, 0) _ rfl (st2 HK2.out _ _) Tryd.underlying52 rfl inf_rob) rfl ⟨ret_oe HE.out, ?_⟩
      exact below_own HB2.out HB2.out.size (gr2 _ _ _ _) (Nat.le_refl _)
    · have hz : (n == 0) = false := by rw [hn0, q1]; rfl
      have hz2 : (n != (s.size : Int)) = true := by rw [bne_iff_ne]; exact q2
      clear hn0 q1 q2 q3 q4 hfa
      go_wp2
      refine bodyPost_ret (res_cell_tmp (u := 3) rfl _ _ w.heap.size 52 #[.int .u8 0, .string ⟨#[]⟩] (0, 0) _ rfl (st2 HK2.out _ _) Tryd.underlying52 rfl inf_rob) rfl ⟨ret_oe HE.out, ?_⟩
      exact below_own HB2.out HB2.out.size (gr2 _ _ _ _) (Nat.le_refl _)
theorem rspan_any (e : Ent) (w : World) (he : e.id.size = 32) (ho : e.off ≤ 140737488355328) (hz : e.sz ≤ 140737488355328) :
    Calls Tryd.prog 26 #[.agg (enC e)] w fun r w' => r = .returned (.tuple #[.int .i64 (e.off : Int), .int .i64 (9 + (e.sz : Int))]) ∧ Below w.heap.size w w' := by
  have hb : Bk (w.alloc (.cells (enC e) 76)) w.heap.size (enC e) 76 := bk_new _ _ _
  obtain ⟨_, q1, q2⟩ := enC_at e he
  have c1 : (w.alloc (.cells (enC e) 76)).cell? ⟨w.heap.size, 33, none⟩ = some (.int .i64 (e.off : Int)) := by rw [hb.cell]; exact q1
  have c2 : (w.alloc (.cells (enC e) 76)).cell? ⟨w.heap.size, 34, none⟩ = some (.int .i64 (e.sz : Int)) := by rw [hb.cell]; exact q2
  have HB : Hid (Below w.heap.size w (w.alloc (.cells (enC e) 76))) := (Below.refl _ _).alloc (Nat.le_refl _) _
  clear hb q1 q2
  generalize enC e = C at c1 c2 HB ⊢
  obtain ⟨i, k, a, n⟩ := e
  simp only at c1 c2 ho hz ⊢
  go_enter Tryd.func26, Tryd.ntmps26
  go_wp2
  go_region
  go_wp2
  go_ret2
  exact ⟨rfl, HB.out.drew⟩
set_option maxHeartbeats 400000 in
set_option maxRecDepth 100000 in
theorem rlabel_any (s : ByteArray) (w : World) (hs : s.size = 32) :
    Calls Tryd.prog 31 #[.agg (idc s)] w fun e w' => e = .returned (.string (lbl s)) ∧ Below w.heap.size w w' := by
  have HX : Hid (Bk (w.alloc (.cells (idc s) 29)) w.heap.size (idc s) 29) := bk_new _ _ _
  have hi32 : (Tryd.prog.info? 29).map (·.size) = some (idc s).size := info_32 (by rw [idc_size, hs])
  obtain ⟨t, ht⟩ : ∃ t, t = sb (hexL (bl s)) := ⟨_, rfl⟩
  have htz : t.size = 64 := by rw [ht, sb_size, hexL_length, bl_length, hs]
  have HT : Hid (Calls Tryd.prog 66 #[.agg (idc s)] (w.alloc (.cells (idc s) 29)) fun e w' => e = .returned (.string t) ∧ Below w.heap.size w w') := by
    refine (rText_any s _ hs).mono ?_
    rintro e w' ⟨rfl, h2⟩
    exact ⟨by rw [ht], ((Below.refl _ _).alloc (Nat.le_refl _) _).trans (h2.mono (by rw [al_size]; omega))⟩
  have HL : Hid (lbl s = lbF ++ t ++ lbE) := by show _ = _; rw [lbl, ht]
  have h1 : (⟨#[112, 97, 99, 107, 45]⟩ : ByteArray) = lbF := rfl
  have h2 : (⟨#[46, 112, 107]⟩ : ByteArray) = lbE := rfl
  have z1 : lbF.size = 5 := rfl
  have z2 : lbE.size = 3 := rfl
  clear ht
  go_enter Tryd.func31, Tryd.ntmps31
  go_wp2_with (first
    | (refine wpList_get rfl 29 (.tmp 1) rfl w.heap.size 0 (idc s) (idc s) 29 _ rfl HX.out (fun j u hu => by rw [Nat.zero_add]; exact hu) Tryd.underlying29 rfl hi32 ?_)
    | (go_at_call 66; refine HT.out.mono ?_; rintro e w1 ⟨rfl, hb1⟩)
    | fail)
  go_ret
  exact ⟨ret_s11 HL.out, hb1⟩
theorem quick_id11 (s : ByteArray) (w : World) (hs : s.size ≤ 140737488351232) : Calls Tryd.prog 29 #[.string s] w fun e w' => e = .returned (.agg (idc (sb (sha (byl s))))) ∧ Below w.heap.size w w' := by
  have := quick_any s w hs
  rw [shc_idc] at this
  exact this
set_option maxHeartbeats 400000 in
set_option maxRecDepth 100000 in
theorem rfits11 (a s : ByteArray) (w : World) (ha : a.size ≤ 140737488355328) (hs : s.size ≤ 140737488351232) :
    Calls Tryd.prog 33 #[.string a, .string s] w fun e w' => e = .returned (.bool (ftB11 a s)) ∧ Below w.heap.size w w' := by
  have HSm := quick_id11 s w hs
  have hx32 : (sb (sha (byl s))).size = 32 := sha_size _
  obtain ⟨x, hx⟩ : ∃ x, x = sb (sha (byl s)) := ⟨_, rfl⟩
  rw [← hx] at HSm hx32
  obtain ⟨L, hL⟩ : ∃ L, L = lbl x := ⟨_, rfl⟩
  have HLb : Hid (∀ W, Calls Tryd.prog 31 #[.agg (idc x)] W fun e w' => e = .returned (.string L) ∧ Below W.heap.size W w') := fun W => by rw [hL]; exact rlabel_any x W hx32
  have HSm' : Hid (Calls Tryd.prog 29 #[.string s] w fun e w' => e = .returned (.agg (idc x)) ∧ Below w.heap.size w w') := HSm
  have HF : Hid (ftB11 a s = (bl a == bl L)) := by show _ = _; rw [ftB11, ← hx, hL]
  clear HSm hx hL
  by_cases he : a = L
  · have HE : Hid (ftB11 a s = true) := by show _ = _; rw [HF.out, he]; exact beq_self_eq_true _
    subst he
    go_enter Tryd.func33, Tryd.ntmps33
    go_wp2_with (first
      | (go_at_call 29; refine HSm'.out.mono ?_; rintro e w1 ⟨rfl, hb1⟩)
      | (go_at_call 31; refine (HLb.out _).mono ?_; rintro e w2 ⟨rfl, hb2⟩)
      | fail)
    go_ret
    exact ⟨ret_b11 HE.out, hb1.trans (hb2.mono hb1.size)⟩
  · have HE : Hid (ftB11 a s = false) := by show _ = _; rw [HF.out, beq_eq_false_iff_ne]; exact fun h => he (bl_inj h)
    have hne := str_ne he
    clear he
    go_enter Tryd.func33, Tryd.ntmps33
    go_wp2_with (first
      | (go_at_call 29; refine HSm'.out.mono ?_; rintro e w1 ⟨rfl, hb1⟩)
      | (go_at_call 31; refine (HLb.out _).mono ?_; rintro e w2 ⟨rfl, hb2⟩)
      | fail)
    go_ret
    exact ⟨ret_b11 HE.out, hb1.trans (hb2.mono hb1.size)⟩
end Go.Proofs.YtahpaekiehdejabDoor
/- The document's own Sum (munimentref11). -/
namespace Go.Proofs.YtahpaekiehdejabDoor
open Go.RowKit
set_option linter.unusedSimpArgs false
set_option linter.unusedVariables false
theorem hexd_len11 (t : ByteArray) (h : uhE t = 0) : 2 * (uhS t).size = t.size := by
  have e := congrArg ByteArray.size (hex_uh t h)
  rw [sb_size, hexL_length, bl_length] at e
  omega
theorem ex_bl (s : ByteArray) (a b : Nat) : bl (s.extract a b) = ((bl s).take b).drop a := bl_extract s a b
theorem tk11 (s : ByteArray) : (bl s).take s.size = bl s := List.take_of_length_le (by rw [bl_length]; exact Nat.le_refl _)
theorem lbF_size : lbF.size = 5 := rfl
theorem lbE_size : lbE.size = 3 := rfl
/-- A label's three parts. -/
def isL (s : ByteArray) : Prop := s.size = 72 ∧ s.extract 0 5 = lbF ∧ s.extract 69 s.size = lbE
theorem sm_yes {s : ByteArray} (h : isL s) : smD s = s.extract 5 69 ∧ (s.extract 5 69).size = 64 ∧ smB11 s = decide (uhE (s.extract 5 69) = 0) := by
  obtain ⟨h1, h2, h3⟩ := h
  have p : pfB s lbF = true := by
    rw [pfB, lbF_size, h2]; simp [h1]
  have hc : cpX s lbF = s.extract 5 s.size := by rw [cpX, if_pos p, lbF_size]
  have hcs : (cpX s lbF).size = 67 := by
    rw [hc, ← bl_length, ex_bl, List.length_drop, List.length_take, bl_length]; omega
  have e1 : (cpX s lbF).extract ((cpX s lbF).size - lbE.size) (cpX s lbF).size = lbE := by
    rw [hcs, lbE_size]
    apply bl_inj
    rw [← h3, ex_bl, hc, ex_bl, ex_bl, tk11, List.take_of_length_le (by rw [List.length_drop, bl_length]; omega), List.drop_drop]
  have q : sfB (cpX s lbF) lbE = true := by
    rw [sfB, e1]; rw [hcs, lbE_size]; simp
  have hd : smD s = s.extract 5 69 := by
    rw [smD, csX, if_pos q, hcs, lbE_size, hc]
    apply bl_inj
    rw [ex_bl, ex_bl, ex_bl, tk11, List.drop_zero, List.drop_take]
  have hz : (s.extract 5 69).size = 64 := by
    rw [← bl_length, ex_bl, List.length_drop, List.length_take, bl_length]; omega
  refine ⟨hd, hz, ?_⟩
  rw [smB11, p, q, hd, prE, if_pos hz]
  simp
theorem sm_not {s : ByteArray} (h : ¬ isL s) : smA s = z32c ∧ smE s = 10 := by
  have : smB11 s = false := by
    rw [Bool.eq_false_iff]
    intro hb
    rw [smB11, Bool.and_eq_true, Bool.and_eq_true] at hb
    obtain ⟨⟨p, q⟩, r⟩ := hb
    have r := of_decide_eq_true r
    have r6 : (smD s).size = 64 := by
      unfold prE at r
      split at r
      · assumption
      · cases r
    have p1 : 5 ≤ s.size := pfB_le p
    have hc : cpX s lbF = s.extract 5 s.size := by rw [cpX, if_pos p, lbF_size]
    have hcs : (cpX s lbF).size = s.size - 5 := by
      rw [hc, ← bl_length, ex_bl, List.length_drop, List.length_take, bl_length]; omega
    have q1 : 3 ≤ (cpX s lbF).size := sfB_le q
    have hd : (smD s).size = s.size - 5 - 3 := by
      rw [smD, csX, if_pos q, ← bl_length, ex_bl, List.length_drop, List.length_take, bl_length, lbE_size]; omega
    have h72 : s.size = 72 := by omega
    refine h ⟨h72, ?_, ?_⟩
    · have := p
      simp [pfB, lbF_size] at this
      exact bl_inj this.2
    · have := q
      simp [sfB, lbE_size] at this
      have e := this.2
      rw [hcs, hc, ex_bl, ex_bl, tk11, List.take_of_length_le (by rw [List.length_drop, bl_length]; omega), List.drop_drop, show 5 + (s.size - 5 - 3) = 69 from by omega] at e
      apply bl_inj
      rw [← e, ex_bl, tk11]
  rw [smA, smE, this]
  exact ⟨rfl, rfl⟩
set_option maxHeartbeats 1000000 in
set_option maxRecDepth 100000 in
theorem rsum11 (s : ByteArray) (w : World) (hs : s.size ≤ 140737488351232) :
    Calls Tryd.prog 28 #[.string s] w fun e w' => e = .returned (.tuple #[.agg (smA s), .int .i64 (smE s)]) ∧ Below w.heap.size w w' := by
  have h1 : (⟨#[112, 97, 99, 107, 45]⟩ : ByteArray) = lbF := rfl
  have h2 : (⟨#[46, 112, 107]⟩ : ByteArray) = lbE := rfl
  have HK0 : Hid (Blk (w.alloc (.cells z32c 29)) w.heap.size z32c 29) := blk_new w _
  by_cases h72 : s.size = 72
  case neg =>
    have HN : Hid (smA s = z32c ∧ smE s = 10) := sm_not (fun h => h72 h.1)
    have hz : ((s.size : Int) != 72) = true := by rw [bne_iff_ne]; omega
    clear h72
    go_enter Tryd.func28, Tryd.ntmps28
    go_wp2_with (first
      | (refine wpList_store_row rfl 29 (.tmp 2) (.tmp 19) rfl w.heap.size z32c rfl rfl 29 z32c HK0.out (info_32 z32c_size) rfl z32c_one ?_)
      | fail)
    refine bodyPost_ret (res_cell_tmp (u := 3) rfl _ _ w.heap.size 29 z32c (0, 0) _ rfl (setRow_heap _ _ _ _ _ _ HK0.out) Tryd.underlying29 rfl (info_32 z32c_size)) rfl ⟨ret_ae HN.out, ?_⟩
    exact below_setRow (below_of_grown (World.grownBy_alloc w _ none)) (Nat.le_refl _) _
  have hz : ((s.size : Int) != 72) = false := by rw [bne_eq_false_iff_eq]; omega
  have hz5 : (5 : Int) ≤ (s.size : Int) := by omega
  have hz69 : (69 : Int) ≤ (s.size : Int) := by omega
  obtain ⟨F, hF⟩ : ∃ F, F = s.extract 0 5 := ⟨_, rfl⟩
  obtain ⟨E, hE⟩ : ∃ E, E = s.extract 69 s.size := ⟨_, rfl⟩
  obtain ⟨D, hD⟩ : ∃ D, D = s.extract 5 69 := ⟨_, rfl⟩
  have eF : s.extract 0 5 = F := hF.symm
  have eE : s.extract 69 s.size = E := hE.symm
  have eD : s.extract 5 69 = D := hD.symm
  by_cases hfF : F = lbF
  case neg =>
    have HN : Hid (smA s = z32c ∧ smE s = 10) := sm_not (fun h => hfF (hF.trans h.2.1))
    have hq := str_ne hfF
    have hq2 : (F.toList != lbF.toList) = true := by simp [bne, hq]
    clear h72 hfF hF hE hD
    go_enter Tryd.func28, Tryd.ntmps28
    go_wp2_with (first
      | (refine wpList_store_row rfl 29 (.tmp 2) (.tmp 19) rfl w.heap.size z32c rfl rfl 29 z32c HK0.out (info_32 z32c_size) rfl z32c_one ?_)
      | fail)
    refine bodyPost_ret (res_cell_tmp (u := 3) rfl _ _ w.heap.size 29 z32c (0, 0) _ rfl (setRow_heap _ _ _ _ _ _ HK0.out) Tryd.underlying29 rfl (info_32 z32c_size)) rfl ⟨ret_ae HN.out, ?_⟩
    exact below_setRow (below_of_grown (World.grownBy_alloc w _ none)) (Nat.le_refl _) _
  by_cases heE : E = lbE
  case neg =>
    have HN : Hid (smA s = z32c ∧ smE s = 10) := sm_not (fun h => heE (hE.trans h.2.2))
    have hq := str_ne heE
    have hq2 : (E.toList != lbE.toList) = true := by simp [bne, hq]
    subst hfF
    clear h72 heE hF hE hD
    go_enter Tryd.func28, Tryd.ntmps28
    go_wp2_with (first
      | (refine wpList_store_row rfl 29 (.tmp 2) (.tmp 19) rfl w.heap.size z32c rfl rfl 29 z32c HK0.out (info_32 z32c_size) rfl z32c_one ?_)
      | fail)
    refine bodyPost_ret (res_cell_tmp (u := 3) rfl _ _ w.heap.size 29 z32c (0, 0) _ rfl (setRow_heap _ _ _ _ _ _ HK0.out) Tryd.underlying29 rfl (info_32 z32c_size)) rfl ⟨ret_ae HN.out, ?_⟩
    exact below_setRow (below_of_grown (World.grownBy_alloc w _ none)) (Nat.le_refl _) _
  have hL : isL s := ⟨h72, hF.symm.trans hfF, hE.symm.trans heE⟩
  obtain ⟨d1, d2, d3⟩ := sm_yes hL
  rw [← hD] at d1 d2 d3
  subst hfF
  subst heE
  have hDz : D.size ≤ 140737488351232 := by omega
  obtain ⟨A, er, hAz, hA1, HPa, HN⟩ : ∃ (A : Array Value) (er : Int), A.size = 32 ∧ A.all (·.oneCell') = true ∧ Hid (∀ W, Calls Tryd.prog 62 #[.string D] W fun e w' => e = .returned (.tuple #[.agg A, .int .i64 er]) ∧ Below W.heap.size W w') ∧ Hid ((er = 0 → smA s = A ∧ smE s = 0) ∧ (er ≠ 0 → smA s = z32c ∧ smE s = 10)) := by
    by_cases he : uhE D = 0
    · have hz3 : (uhS D).size = 32 := by have := hexd_len11 D he; omega
      refine ⟨idc (uhS D), 0, by rw [idc_size, hz3], idc_all _, fun W => rParse_good D W hDz he hz3, fun _ => ?_, fun h => absurd rfl h⟩
      have hb : smB11 s = true := by rw [d3, decide_eq_true he]
      rw [smA, smE, hb, if_pos rfl, if_pos rfl, d1, prA, if_pos d2, pid_ok D hz3]
      exact ⟨rfl, rfl⟩
    · refine ⟨z32c, 4, z32c_size, z32c_one, fun W => rParse_bad D W hDz (fun h => he h.1), (fun h => by cases h), fun _ => ?_⟩
      have hb : smB11 s = false := by rw [d3, decide_eq_false he]
      rw [smA, smE, hb]
      exact ⟨rfl, rfl⟩
  have hi32 : (Tryd.prog.info? 29).map (·.size) = some A.size := info_32 hAz
  have hiz : z32c.size = A.size := by rw [hAz]; exact z32c_size
  have HPP : Hid (Calls Tryd.prog 62 #[.string D] (w.alloc (.cells z32c 29)) fun e w' => e = .returned (.tuple #[.agg A, .int .i64 er]) ∧ Hid (Below w.heap.size w w' ∧ Bk w' w.heap.size z32c 29)) := by
    refine (HPa.out _).mono ?_
    rintro e w' ⟨rfl, hb⟩
    exact ⟨rfl, ((Below.refl _ _).alloc (Nat.le_refl _) _).trans (hb.mono (by rw [al_size]; omega)), (bk_new _ _ _).below hb (by rw [al_size]; omega)⟩
  clear h72 hF hE hD hL d1 d2 d3 HPa
  by_cases he : er = 0
  · have HM : Hid (smA s = A ∧ smE s = 0) := HN.out.1 he
    subst he
    clear HN
    go_enter Tryd.func28, Tryd.ntmps28
    go_wp2_with (first
      | (go_at_call 62; refine HPP.out.mono ?_; rintro e w2 ⟨rfl, H2⟩)
      | (refine wpList_store_abs rfl 29 (.tmp 4) (.tmp 24) rfl A z32c 29 w2.heap.size rfl rfl rfl hi32 hiz hA1 ?_; intro w3 HBk HG hsz3; have HK3 : Hid (Bk w3 w2.heap.size A 29) := HBk.out; have HZ3 : Hid (Blk w3 w.heap.size z32c 29) := H2.out.2.grown HG.out (by simp); have HB3 : Hid (Below w.heap.size w w3) := H2.out.1.trans ((below_none HG.out).mono H2.out.1.size))
      | (refine wpList_get rfl 29 (.tmp 4) rfl w2.heap.size 0 A A 29 _ rfl HK3.out (fun j u hu => by rw [Nat.zero_add]; exact hu) Tryd.underlying29 rfl hi32 ?_)
      | (refine wpList_store_row rfl 29 (.tmp 2) (.tmp 29) rfl w.heap.size A rfl rfl 29 z32c HZ3.out hi32 hiz hA1 ?_)
      | fail)
    refine bodyPost_ret (res_cell_tmp (u := 3) rfl _ _ w.heap.size 29 A (0, 0) _ rfl (setRow_heap _ _ _ _ _ _ HZ3.out) Tryd.underlying29 rfl hi32) rfl ⟨ret_ae HM.out, ?_⟩
    exact below_setRow HB3.out (Nat.le_refl _) _
  · have HM : Hid (smA s = z32c ∧ smE s = 10) := HN.out.2 he
    have hne : (er != 0) = true := by rw [bne_iff_ne]; exact he
    clear HN he
    go_enter Tryd.func28, Tryd.ntmps28
    go_wp2_with (first
      | (go_at_call 62; refine HPP.out.mono ?_; rintro e w2 ⟨rfl, H2⟩)
      | (refine wpList_store_abs rfl 29 (.tmp 4) (.tmp 24) rfl A z32c 29 w2.heap.size rfl rfl rfl hi32 hiz hA1 ?_; intro w3 HBk HG hsz3; have HK3 : Hid (Bk w3 w2.heap.size A 29) := HBk.out; have HZ3 : Hid (Blk w3 w.heap.size z32c 29) := H2.out.2.grown HG.out (by simp); have HB3 : Hid (Below w.heap.size w w3) := H2.out.1.trans ((below_none HG.out).mono H2.out.1.size))
      | (refine wpList_store_row rfl 29 (.tmp 2) (.tmp 28) rfl w.heap.size z32c rfl rfl 29 z32c HZ3.out (info_32 z32c_size) rfl z32c_one ?_)
      | fail)
    refine bodyPost_ret (res_cell_tmp (u := 3) rfl _ _ w.heap.size 29 z32c (0, 0) _ rfl (setRow_heap _ _ _ _ _ _ HZ3.out) Tryd.underlying29 rfl (info_32 z32c_size)) rfl ⟨ret_ae HM.out, ?_⟩
    exact below_setRow HB3.out (Nat.le_refl _) _
end Go.Proofs.YtahpaekiehdejabDoor
