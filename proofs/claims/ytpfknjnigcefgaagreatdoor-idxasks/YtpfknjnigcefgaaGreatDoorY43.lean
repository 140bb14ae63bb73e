import Derived.Test.YtpfknjnigcefgaaGreatDoorY42
import Derived.Test.YtpfknjnigcefgaaGreatDoorY33
import Derived.Test.YtpfknjnigcefgaaGreatDoorY34
import Derived.Test.YtpfknjnigcefgaaGreatDoorY9
import Derived.Test.YtpfknjnigcefgaaGreatDoorY27
import Derived.Test.YtpfknjnigcefgaaGreatDoorChecked
import Derived.Shelf.Strings.Builder2
import Derived.Test.YtpfknjnigcefgaaGreatDoorY35
import Derived.Test.YtpfknjnigcefgaaGreatDoorY8
import Derived.Test.YtpfknjnigcefgaaGreatDoorY10
import Derived.Test.YtpfknjnigcefgaaGreatDoorY4
/- The document's Fits. -/
namespace Go.Proofs.YtpfknjnigcefgaaGreatDoor
open Go.RowKit
set_option linter.unusedSimpArgs false
set_option linter.unusedVariables false
set_option maxHeartbeats 2000000 in
set_option maxRecDepth 100000 in
theorem rfits13 (lb S : ByteArray) (w : World) (hl : lb.size ≤ 140737488351232) (hS : S.size ≤ 140737488351232) :
    Calls Tryz.prog 17 #[.string lb, .string S] w fun e w' => FtS lb S e ∧ Below w.heap.size w w' := by
  have HSU : Hid (Calls Tryz.prog 15 #[.string lb] w fun e w' => SmI lb e ∧ Below w.heap.size w w') := rsums13 lb w hl
  obtain ⟨x, hx⟩ : ∃ x, sb (sha (byl S)) = x := ⟨_, rfl⟩
  have hx32 : x.size = 32 := by rw [← hx]; exact sha_size _
  have HXX : Hid (sb (sha (byl S)) = x ∧ x.size = 32) := ⟨hx, hx32⟩
  have HSM : Hid (∀ W, Below w.heap.size w W → Calls Tryz.prog 19 #[.string S] W fun e w' => e = .returned (.agg (idc x)) ∧ Below W.heap.size W w') := fun W hW => by rw [← hx]; exact quick_id11 S W hS
  have hz := zero_id
  clear hx hx32 hl hS
  go_enter Tryz.func17, Tryz.ntmps17
  go_wp2_with fail
  refine HSU.out.mono ?_
  rintro e w1 ⟨hSm, hb1⟩
  have H1 : Hid (Below w.heap.size w w1) := hb1
  have R0 : Hid (Bk (w1.alloc (.cells z32c 23)) w1.heap.size z32c 23) := bk_new _ _ _
  have S0 : Hid (SU w1 z32c z32c ((w1.alloc (.cells z32c 23)).alloc (.cells z32c 23))) := by
    have := bk_new (w1.alloc (.cells z32c 23)) z32c 23
    rw [al_size] at this
    exact ⟨(bk_new _ _ _).alloc _, this, ((Below.refl _ _).alloc (Nat.le_refl _) _).alloc (by rw [al_size]; omega) _⟩
  rcases hSm with ⟨f, g, hlb, rfl⟩ | ⟨hno, rfl⟩
  · obtain ⟨k1, k2, k3, k4⟩ := hlb.uh
    rw [k3, k4]
    have HLB : Hid (IsLb lb f g) := hlb
    have hEQ := eql_ids (uhS g) x k2 HXX.out.2
    have HI : Hid ((Tryz.prog.info? 23).map (·.size) = some (idc (uhS f)).size ∧ (idc (uhS f)).all (·.oneCell') = true ∧ (idc (uhS f)).size = 32 ∧ (Tryz.prog.info? 23).map (·.size) = some (idc (uhS g)).size ∧ (idc (uhS g)).all (·.oneCell') = true ∧ (idc (uhS g)).size = 32) := ⟨info_32 (by rw [idc_size, k1]), idc_allX _, by rw [idc_size, k1], info_32 (by rw [idc_size, k2]), idc_allX _, by rw [idc_size, k2]⟩
    obtain ⟨A, hAe⟩ : ∃ A, idc (uhS f) = A := ⟨_, rfl⟩
    obtain ⟨X, hXe⟩ : ∃ X, idc (uhS g) = X := ⟨_, rfl⟩
    obtain ⟨Y, hYe⟩ : ∃ Y, idc x = Y := ⟨_, rfl⟩
    obtain ⟨b, hb⟩ : ∃ b, decide (uhS g = x) = b := ⟨_, rfl⟩
    have HB : Hid (decide (uhS g = x) = b) := hb
    rw [hXe, hYe, hb] at hEQ
    rw [hYe] at HSM
    rw [hAe, hXe] at HI
    rw [hAe, hXe]
    clear hb1 HSU k1 k2 k3 k4 hlb hAe hXe hYe hb
    go_wp2_with (first
      | (refine wpList_stoX rfl 23 (.tmp 5) (.tmp 11) rfl w1.heap.size A z32c 23 rfl rfl S0.out.b2 HI.out.1 (by rw [HI.out.2.2.1]; exact z32c_size) HI.out.2.1 ?_; intro w5 HB5 HG5; have S5 : Hid (SU w1 A z32c w5) := S0.out.put2 HG5.out HB5.out)
      | (refine wpList_stoX rfl 23 (.tmp 6) (.tmp 12) rfl (w1.heap.size + 1) X z32c 23 rfl rfl S5.out.b3 HI.out.2.2.2.1 (by rw [HI.out.2.2.2.2.2]; exact z32c_size) HI.out.2.2.2.2.1 ?_; intro w6 HB6 HG6; have S6 : Hid (SU w1 A X w6) := S5.out.put3 HG6.out HB6.out)
      | fail)
    clear HB5 HG5 HB6 HG6
    have C1 : Hid (∀ W, SU w1 A X W → Calls Tryz.prog 19 #[.string S] W fun e w' => e = .returned (.agg Y) ∧ SU w1 A X w') := fun W hW => (HSM.out W (H1.out.trans (hW.bel.mono H1.out.size))).mono fun e w' q => ⟨q.1, hW.next q.2⟩
    refine region_class10 (SU w1 A X) (by kernel_rfl) (by kernel_rfl) (S6.out.next ((Below.refl _ _).drew)) ?_
    try simp only [Act.put, List.setIfInBounds_toArray, List.set_cons_zero, List.set_cons_succ]
    repeat (first
      | go_big_quiet_skip
      | (go_big_quiet_want
         first
           | (refine quiet_row 23 _ rfl (w1.heap.size + 1) 0 X X 23 _ rfl (fun _ h => h.b3) (fun j v hv => by rw [Nat.zero_add]; exact hv) Tryz.underlying23 rfl HI.out.2.2.2.1 ?_; go_big_quiet_on; simp only [Act.put, List.setIfInBounds_toArray, List.set_cons_zero, List.set_cons_succ])
           | (refine quiet_call10 (.agg Y) 19 #[.string S] ?_ ?_ ?_; (focus (intro W hW; go_simp; done)); (focus (intro W hW; exact C1.out W hW)); go_big_quiet_on; simp only [Act.put, List.setIfInBounds_toArray, List.set_cons_zero, List.set_cons_succ])
           | (refine quiet_val10 (.bool true) ?_ ?_; (focus (intro W hW; go_simp; done)); go_big_quiet_on; simp only [Act.put, List.setIfInBounds_toArray, List.set_cons_zero, List.set_cons_succ])
           | (refine quiet_val10 (.bool b) ?_ ?_; (focus (intro W hW; go_simp; done)); go_big_quiet_on; simp only [Act.put, List.setIfInBounds_toArray, List.set_cons_zero, List.set_cons_succ])
           | (go_big_quiet_op; go_big_quiet_on)))
    refine wpQuiet_nil ?_
    intro w9 hw9
    have H9 : Hid (Below w1.heap.size w1 w9) := hw9.bel
    clear hw9
    go_wp2
    go_ret
    refine ⟨⟨b, rfl, ?_⟩, H1.out.trans (H9.out.mono H1.out.size)⟩
    rw [← HB.out, HXX.out.1, decide_eq_true_iff]
    constructor
    · exact fun q => ⟨f, g, HLB.out, q⟩
    · rintro ⟨f', g', q1, q2⟩
      obtain ⟨_, rfl⟩ := q1.same HLB.out
      exact q2
  · have HNO : Hid (∀ f g, ¬ IsLb lb f g) := hno
    clear hb1 HSU hno
    go_wp2_with (first
      | (refine wpList_stoX rfl 23 (.tmp 5) (.tmp 11) rfl w1.heap.size z32c z32c 23 rfl rfl S0.out.b2 (info_32 z32c_size) rfl z32c_one ?_; intro w5 HB5 HG5; have S5 : Hid (SU w1 z32c z32c w5) := S0.out.put2 HG5.out HB5.out)
      | (refine wpList_stoX rfl 23 (.tmp 6) (.tmp 12) rfl (w1.heap.size + 1) z32c z32c 23 rfl rfl S5.out.b3 (info_32 z32c_size) rfl z32c_one ?_; intro w6 HB6 HG6; have S6 : Hid (SU w1 z32c z32c w6) := S5.out.put3 HG6.out HB6.out)
      | fail)
    clear HB5 HG5 HB6 HG6
    refine region_class10 (SU w1 z32c z32c) (by kernel_rfl) (by kernel_rfl) (S6.out.next ((Below.refl _ _).drew)) ?_
    try simp only [Act.put, List.setIfInBounds_toArray, List.set_cons_zero, List.set_cons_succ]
    repeat (first
      | go_big_quiet_skip
      | (go_big_quiet_want
         first
           | (refine quiet_val10 (.bool false) ?_ ?_; (focus (intro W hW; go_simp; done)); go_big_quiet_on; simp only [Act.put, List.setIfInBounds_toArray, List.set_cons_zero, List.set_cons_succ])
           | (go_big_quiet_op; go_big_quiet_on)))
    refine wpQuiet_nil ?_
    intro w9 hw9
    have H9 : Hid (Below w1.heap.size w1 w9) := hw9.bel
    clear hw9
    go_wp2
    go_ret
    exact ⟨⟨false, rfl, ⟨fun q => (by cases q), fun ⟨f, g, q, _⟩ => absurd q (HNO.out f g)⟩⟩, H1.out.trans (H9.out.mono H1.out.size)⟩
end Go.Proofs.YtpfknjnigcefgaaGreatDoor
/- The document's Label. -/
namespace Go.Proofs.YtpfknjnigcefgaaGreatDoor
open Go.RowKit
set_option linter.unusedSimpArgs false
set_option linter.unusedVariables false
set_option maxHeartbeats 2000000 in
set_option maxRecDepth 100000 in
theorem rlabel13 (a b : ByteArray) (w : World) (ha : a.size = 32) (hb : b.size = 32) :
    Calls Tryz.prog 20 #[.agg (idc a), .agg (idc b)] w fun e w' => e = .returned (.string (ilb a b)) ∧ Below w.heap.size w w' := by
  obtain ⟨w0, hw0⟩ : ∃ w0, (w.alloc (.cells (idc a) 23)).alloc (.cells (idc b) 23) = w0 := ⟨_, rfl⟩
  have hb0 : Below w.heap.size w w0 := by rw [← hw0]; exact ((Below.refl _ _).alloc (Nat.le_refl _) _).alloc (by rw [al_size]; omega) _
  have k1 : Bk w0 w.heap.size (idc a) 23 := by rw [← hw0]; exact (bk_new _ _ _).alloc _
  have k2 : Bk w0 (w.heap.size + 1) (idc b) 23 := by
    have := bk_new (w.alloc (.cells (idc a) 23)) (idc b) 23
    rw [al_size, hw0] at this
    exact this
  have C1 : Hid (∀ W, Below w0.heap.size w0 W → Bk W w.heap.size (idc a) 23) := fun W hW => k1.below hW k1.lt
  have C2 : Hid (∀ W, Below w0.heap.size w0 W → Bk W (w.heap.size + 1) (idc b) 23) := fun W hW => k2.below hW k2.lt
  have C3 : Hid (∀ W, Below w0.heap.size w0 W → Calls Tryz.prog 49 #[.agg (idc a)] W fun e w' => e = .returned (.string (tx32 a)) ∧ Below w0.heap.size w0 w') := fun W hW => (rText_any a W ha).mono fun e w' q => ⟨q.1, Below.trans hW (q.2.mono (Below.size hW))⟩
  have C4 : Hid (∀ W, Below w0.heap.size w0 W → Calls Tryz.prog 49 #[.agg (idc b)] W fun e w' => e = .returned (.string (tx32 b)) ∧ Below w0.heap.size w0 w') := fun W hW => (rText_any b W hb).mono fun e w' q => ⟨q.1, Below.trans hW (q.2.mono (Below.size hW))⟩
  have HI : Hid ((Tryz.prog.info? 23).map (·.size) = some (idc a).size ∧ (Tryz.prog.info? 23).map (·.size) = some (idc b).size) := ⟨info_32 (by rw [idc_size, ha]), info_32 (by rw [idc_size, hb])⟩
  have HB0 : Hid (Below w.heap.size w w0) := hb0
  obtain ⟨A, hAe⟩ : ∃ A, idc a = A := ⟨_, rfl⟩
  obtain ⟨B, hBe⟩ : ∃ B, idc b = B := ⟨_, rfl⟩
  obtain ⟨ta, hta⟩ : ∃ t, tx32 a = t := ⟨_, rfl⟩
  obtain ⟨tb, htb⟩ : ∃ t, tx32 b = t := ⟨_, rfl⟩
  have za : ta.size = 64 := by rw [← hta]; exact tx32_size ha
  have zb : tb.size = 64 := by rw [← htb]; exact tx32_size hb
  have HR : Hid (ilb a b = (((xF ++ ta) ++ xD) ++ tb) ++ xE) := by show _ = _; rw [← hta, ← htb]; rfl
  rw [hAe] at C1 C3 HI
  rw [hBe] at C2 C4 HI
  rw [hta] at C3
  rw [htb] at C4
  rw [hAe, hBe] at hw0 ⊢
  have h1 : (⟨#[105, 100, 120, 45]⟩ : ByteArray) = xF := rfl
  have h2 : (⟨#[45]⟩ : ByteArray) = xD := rfl
  have h3 : (⟨#[46, 105, 120]⟩ : ByteArray) = xE := rfl
  have z1 : xF.size = 4 := rfl
  have z2 : xD.size = 1 := rfl
  have z3 : xE.size = 3 := rfl
  clear hb0 k1 k2 hAe hBe hta htb
  go_enter Tryz.func20, Tryz.ntmps20
  go_wp2_with fail
  try rw [hw0]
  clear hw0
  refine region_class10 (fun W => Below w0.heap.size w0 W) (by kernel_rfl) (by kernel_rfl) ((Below.refl _ _).drew) ?_
  try simp only [Act.put, List.setIfInBounds_toArray, List.set_cons_zero, List.set_cons_succ]
  repeat (first
    | go_big_quiet_skip
    | (go_big_quiet_want
       first
         | (refine quiet_row 23 _ rfl w.heap.size 0 A A 23 _ rfl C1.out (fun j v hv => by rw [Nat.zero_add]; exact hv) Tryz.underlying23 rfl HI.out.1 ?_; go_big_quiet_on; simp only [Act.put, List.setIfInBounds_toArray, List.set_cons_zero, List.set_cons_succ])
         | (refine quiet_row 23 _ rfl (w.heap.size + 1) 0 B B 23 _ rfl C2.out (fun j v hv => by rw [Nat.zero_add]; exact hv) Tryz.underlying23 rfl HI.out.2 ?_; go_big_quiet_on; simp only [Act.put, List.setIfInBounds_toArray, List.set_cons_zero, List.set_cons_succ])
         | (refine quiet_call10 (.string ta) 49 #[.agg A] ?_ ?_ ?_; (focus (intro W hW; go_simp; done)); (focus (intro W hW; exact C3.out W hW)); go_big_quiet_on; simp only [Act.put, List.setIfInBounds_toArray, List.set_cons_zero, List.set_cons_succ])
         | (refine quiet_call10 (.string tb) 49 #[.agg B] ?_ ?_ ?_; (focus (intro W hW; go_simp; done)); (focus (intro W hW; exact C4.out W hW)); go_big_quiet_on; simp only [Act.put, List.setIfInBounds_toArray, List.set_cons_zero, List.set_cons_succ])
         | (refine quiet_val10 (.string (xF ++ ta)) ?_ ?_; (focus (intro W hW; go_simp; done)); go_big_quiet_on; simp only [Act.put, List.setIfInBounds_toArray, List.set_cons_zero, List.set_cons_succ])
         | (refine quiet_val10 (.string ((xF ++ ta) ++ xD)) ?_ ?_; (focus (intro W hW; go_simp; done)); go_big_quiet_on; simp only [Act.put, List.setIfInBounds_toArray, List.set_cons_zero, List.set_cons_succ])
         | (refine quiet_val10 (.string (((xF ++ ta) ++ xD) ++ tb)) ?_ ?_; (focus (intro W hW; go_simp; done)); go_big_quiet_on; simp only [Act.put, List.setIfInBounds_toArray, List.set_cons_zero, List.set_cons_succ])
         | (refine quiet_val10 (.string ((((xF ++ ta) ++ xD) ++ tb) ++ xE)) ?_ ?_; (focus (intro W hW; go_simp; done)); go_big_quiet_on; simp only [Act.put, List.setIfInBounds_toArray, List.set_cons_zero, List.set_cons_succ])
         | (go_big_quiet_op; go_big_quiet_on)))
  refine wpQuiet_nil ?_
  intro w9 hw9
  have H9 : Hid (Below w0.heap.size w0 w9) := hw9
  clear hw9
  go_wp2
  go_ret
  exact ⟨ret_sX HR.out, HB0.out.trans (H9.out.mono HB0.out.size)⟩
end Go.Proofs.YtpfknjnigcefgaaGreatDoor
/- idx.Build. -/
namespace Go.Proofs.YtpfknjnigcefgaaGreatDoor
open Go.RowKit
set_option linter.unusedSimpArgs false
set_option linter.unusedVariables false
/-- Has one of these this name? -/
def hasX (d : List Xe) (x : ByteArray) : Bool := onL (d.map (fun e : Xe => e.id)) x
theorem hasX_iff (d : List Xe) (x : ByteArray) : hasX d x = true ↔ ∃ e ∈ d, e.id = x := by
  unfold hasX onL
  rw [List.any_eq_true]
  constructor
  · rintro ⟨y, hy, he⟩
    obtain ⟨e, he2, rfl⟩ := List.mem_map.1 hy
    exact ⟨e, he2, bl_inj (eq_of_beq he)⟩
  · rintro ⟨e, he, rfl⟩
    exact ⟨e.id, List.mem_map.2 ⟨e, he, rfl⟩, beq_self_eq_true _⟩
/-- What Build tells as error, entry by entry. -/
def xbE (d : List Xe) : List Xe → Int
  | [] => 0
  | e :: r => if okX e = false ∨ d.length = 65536 then 1 else if hasX d e.id = true then 7 else xbE (d ++ [e]) r
def bE (l : List Xe) : Int := xbE [] l
/-- Entries that make an index. -/
structure GdX (l : List Xe) : Prop where
  ok : ∀ e ∈ l, okX e = true
  ap : Aprt l
  len : l.length ≤ 65536
theorem GdX.nil : GdX [] := ⟨fun e h => (by cases h), List.Pairwise.nil, by simp⟩
theorem GdX.snoc {d : List Xe} {e : Xe} (h : GdX d) (h1 : ¬ (okX e = false ∨ d.length = 65536)) (h2 : hasX d e.id = false) : GdX (d ++ [e]) := by
  have hl := h.len
  refine ⟨fun x hx => ?_, ?_, by rw [List.length_append, List.length_singleton]; omega⟩
  · rcases List.mem_append.1 hx with q | q
    · exact h.ok x q
    · rw [List.mem_singleton] at q
      subst q
      cases ho : okX x with
      | true => rfl
      | false => exact absurd (.inl ho) h1
  · unfold Aprt
    rw [List.pairwise_append]
    refine ⟨h.ap, List.pairwise_singleton _ _, fun a ha b hb hab => ?_⟩
    rw [List.mem_singleton] at hb
    subst hb
    rw [(hasX_iff d b.id).2 ⟨a, ha, hab⟩] at h2
    cases h2
theorem xbE_step (l : List Xe) (k : Nat) (e : Xe) (hk : l[k]? = some e) : xbE (l.take k) (l.drop k) = if okX e = false ∨ k = 65536 then 1 else if hasX (l.take k) e.id = true then 7 else xbE (l.take (k + 1)) (l.drop (k + 1)) := by
  have hlt : k < l.length := (List.getElem?_eq_some_iff.1 hk).1
  rw [List.drop_eq_getElem_cons hlt, xbE]
  have e1 : l[k] = e := by rw [List.getElem?_eq_getElem hlt] at hk; exact Option.some.inj hk
  have hl : (l.take k).length = k := by rw [List.length_take]; omega
  rw [e1, hl, List.take_add_one, hk, Option.toList_some]
theorem xbE_ok : ∀ (r d : List Xe), GdX d → xbE d r = 0 → GdX (d ++ r)
  | [], d, h, _ => by rw [List.append_nil]; exact h
  | e :: r, d, h, hz => by
    rw [xbE] at hz
    by_cases h1 : okX e = false ∨ d.length = 65536
    · rw [if_pos h1] at hz; cases hz
    · rw [if_neg h1] at hz
      cases h2 : hasX d e.id with
      | true => rw [h2, if_pos rfl] at hz; cases hz
      | false =>
        rw [h2, if_neg (by simp)] at hz
        have := xbE_ok r (d ++ [e]) (h.snoc h1 h2) hz
        rwa [List.append_assoc] at this
theorem bE_ok {l : List Xe} (h : bE l = 0) : GdX l := by
  have := xbE_ok l [] GdX.nil h
  rwa [List.nil_append] at this
theorem gd_bE : ∀ (r d : List Xe), GdX (d ++ r) → xbE d r = 0
  | [], d, _ => rfl
  | e :: r, d, h => by
    have h1 : ¬ (okX e = false ∨ d.length = 65536) := by
      rintro (q | q)
      · rw [h.ok e (by simp)] at q; cases q
      · have := h.len; rw [List.length_append, List.length_cons] at this; omega
    have h2 : hasX d e.id = false := by
      rw [Bool.eq_false_iff]
      intro q
      obtain ⟨a, ha, hab⟩ := (hasX_iff d e.id).1 q
      have := h.ap
      unfold Aprt at this
      rw [List.pairwise_append] at this
      exact this.2.2 a ha e (List.mem_cons_self ..) hab
    rw [xbE, if_neg h1, if_neg (by rw [h2]; simp)]
    exact gd_bE r (d ++ [e]) (by rw [List.append_assoc]; exact h)
theorem GdX.bE {l : List Xe} (h : GdX l) : bE l = 0 := gd_bE l [] (by rw [List.nil_append]; exact h)
theorem GdX.perm {l l' : List Xe} (h : GdX l) (p : l.Perm l') : GdX l' := ⟨fun e he => h.ok e (p.mem_iff.2 he), h.ap.perm p, by rw [← p.length_eq]; exact h.len⟩
/-- Sorted, and apart: rising. -/
theorem rise_of {l : List Xe} (h : l.Pairwise fun a b => ltN b.id a.id = false) (ha : Aprt l) : Rise l := by
  refine (h.and ha).imp ?_
  rintro a b ⟨h1, h2⟩
  exact ltN_ne h2 h1
theorem GdX.okl {l L : List Xe} (h : GdX l) (p : L.Perm l) (hi : ∀ e ∈ l, e.id.size = 32) (hr : Rise L) : OkL L := ⟨fun e he => h.ok e (p.mem_iff.1 he), fun e he => hi e (p.mem_iff.1 he), hr, by rw [p.length_eq]; exact h.len⟩
theorem zero_unitX : ∀ w, (zeroValue 59).run Tryz.prog w = .ok (.agg #[]) w := Tryz.zeroValue59
/-- How Build's looking stands. -/
structure BX (w : World) (m : Nat) (s : ByteArray) (d : List Xe) (wr : World) : Prop where
  st : St (fun v => v = .agg #[]) wr m (d.map (fun e : Xe => e.id))
  bel : Below w.heap.size w wr
  bx : Bk wr w.heap.size (idc s) 23
  mlb : w.heap.size < m
theorem BX.keep {w wr w' : World} {m : Nat} {s : ByteArray} {d : List Xe} (h : BX w m s d wr) (hb : Below wr.heap.size wr w') : BX w m s d w' :=
  ⟨h.st.below hb, h.bel.trans (hb.mono h.bel.size), h.bx.below hb h.bx.lt, h.mlb⟩
theorem BX.look {w wr : World} {m : Nat} {s : ByteArray} {d : List Xe} (h : BX w m s d wr) (x : ByteArray) (hx : x.size = 32) : (Instr.lookup 57 (.map (some m)) (.agg (idc x)) true).run Tryz.prog wr = .ok (.tuple #[.agg #[], .bool (hasX d x)]) wr := by
  obtain ⟨v, h1, rfl⟩ := h.st.look Tryz.underlying57 (zero_unitX _) rfl x hx
  exact h1
theorem BX.put {w wr : World} {m : Nat} {s : ByteArray} {d : List Xe} (h : BX w m s d wr) (hn : d.length < 1048576) (e : Xe) (hx : e.id.size = 32) :
    ∃ w', (Instr.mapUpdate 57 (.map (some m)) (.agg (idc e.id)) (.agg #[])).run Tryz.prog wr = .ok () w' ∧ BX w m s (d ++ [e]) w' := by
  obtain ⟨w', h1, h2, h3⟩ := h.st.put Tryz.underlying57 (by rw [List.length_map]; exact hn) e.id hx (.agg #[]) rfl
  obtain ⟨es, c, hm⟩ := h.st.isMap
  refine ⟨w', h1, by rw [List.map_append]; exact h2, below_own h.bel h.bel.size h3 (Nat.le_of_lt h.mlb), h.bx.grown h3 (fun q => ?_), h.mlb⟩
  injection q with q
  have hb' : wr.heap[w.heap.size]? = some (.cells (idc s) 23 (0, 0)) := h.bx
  rw [← q, hm] at hb'
  cases hb'
end Go.Proofs.YtpfknjnigcefgaaGreatDoor
/- The laying of strings.Builder.Grow. -/
namespace Go.Proofs.YtpfknjnigcefgaaGreatDoor
open Go.Shelf
def lays165_ren : Go.Shelf.Ren := ⟨fun | 165 => 60 | 240 => 102 | 241 => 103 | 276 => 128 | 277 => 129 | n => n, fun | 70 => 116 | 3 => 3 | 0 => 0 | 4 => 4 | 9 => 9 | 20 => 20 | 72 => 118 | 37 => 82 | 164 => 180 | 5 => 5 | n => n, fun | n => n⟩
theorem lays165 : Go.Proofs.Lays.n165 Tryz.prog lays165_ren := {
  mixed := by kernel_rfl
  f165 := Tryz.func60.trans (congrArg some (by kernel_rfl))
  f240 := Tryz.func102.trans (congrArg some (by kernel_rfl))
  f241 := Tryz.func103.trans (congrArg some (by kernel_rfl))
  f276 := Tryz.func128.trans (congrArg some (by kernel_rfl))
  f277 := Tryz.func129.trans (congrArg some (by kernel_rfl))
  t0 := Tryz.underlying0
  a0 := Tryz.isAgg0
  z0 := Tryz.sizeOf0
  v0 := Tryz.zeroValue0
  t3 := Tryz.underlying3
  a3 := Tryz.isAgg3
  z3 := Tryz.sizeOf3
  v3 := Tryz.zeroValue3
  t4 := Tryz.underlying4
  a4 := Tryz.isAgg4
  z4 := Tryz.sizeOf4
  v4 := Tryz.zeroValue4
  t9 := Tryz.underlying9
  a9 := Tryz.isAgg9
  z9 := Tryz.sizeOf9
  v9 := Tryz.zeroValue9
  t20 := Tryz.underlying20
  a20 := Tryz.isAgg20
  z20 := Tryz.sizeOf20
  v20 := Tryz.zeroValue20
  t37 := Tryz.underlying82
  a37 := Tryz.isAgg82
  z37 := Tryz.sizeOf82
  v37 := Tryz.zeroValue82
  t70 := Tryz.underlying116
  a70 := Tryz.isAgg116
  z70 := Tryz.sizeOf116
  v70 := Tryz.zeroValue116
  t72 := Tryz.underlying118
  a72 := Tryz.isAgg118
  z72 := Tryz.sizeOf118
  v72 := Tryz.zeroValue118
  t164 := Tryz.underlying180
  a164 := Tryz.isAgg180
  z164 := Tryz.sizeOf180
  v164 := Tryz.zeroValue180 }
end Go.Proofs.YtpfknjnigcefgaaGreatDoor
/- strings.Builder: Write of bytes that lie somewhere, Grow of a fresh one. -/
namespace Go.Proofs.YtpfknjnigcefgaaGreatDoor
open Go.RowKit
set_option linter.unusedSimpArgs false
set_option linter.unusedVariables false
set_option maxHeartbeats 2000000 in
set_option maxRecDepth 100000 in
theorem writeV (B b : Nat) (l L : List UInt8) (g o n c : Nat) (C : Array Value) (T : TypeId) (w : World) (h : Bld B b l w) (hB0 : Bk w g C T) (hT : T ≠ 5) (hgb : g ≠ b) (hL : L.length = n) (hc : ∀ j u, (Lib.byteCells L)[j]? = some u → C[o + j]? = some u) (hlen : l.length + n ≤ 140737488355328) (hBw : B ≤ w.heap.size) :
    Calls Tryz.prog 64 #[.pointer (some ⟨b, 0, none⟩), .slice (some ⟨g, o, none⟩) n c] w fun e w' => e = .returned (.tuple #[.int .i64 n, .nilIface]) ∧ Bld B b (l ++ L) w' ∧ Below B w w' ∧ Oth b w w' := by
  obtain ⟨i0, hi, hz0, hz1, hz2⟩ := info_parts extra166.infoByte
  have hi' : Tryz.prog.info? 5 = some i0 := hi
  have e240 : ∀ args w, (callFunc 102 args).run Tryz.prog w = .ok (.enter 102 args) w := enters_of Tryz.func102 (by kernel_rfl) rfl
  have HCK : Hid (Calls Tryz.prog 102 #[.pointer (some ⟨b, 0, none⟩)] w fun e w' => e = .returned (.tuple #[]) ∧ (Lib.BuilderAtF 118 5 B b (.pointer (some ⟨b, 0, none⟩)) (Lib.byteCells l) w' ∧ Below B w w' ∧ Lib.OthersKept 5 (some b) w w')) := Any.Builder_copyCheck_k { lays166 with } extra166.toX72 B b (Lib.byteCells l) w h
  have HB0 : Hid (Bk w g C T) := hB0
  have HC : Hid (∀ j u, (Lib.byteCells L)[j]? = some u → C[o + j]? = some u) := hc
  have HLL : Hid (L.length = n) := hL
  clear h hB0 hc hi
  have hbl := Lib.byteCells_length l
  have hbL := Lib.byteCells_length L
  go_enter Tryz.func64, Tryz.ntmps64
  go_wp2_with fail
  refine HCK.out.mono ?_
  rintro e w1 ⟨rfl, h1, hb1, hk1⟩
  obtain ⟨hB, v, hbk, hown, hne⟩ := h1
  have c0 : w1.cell? ⟨b, 0, none⟩ = some (.pointer (some ⟨b, 0, none⟩)) := by rw [Lib.cell_of_heap hbk]; rfl
  have c1 : w1.cell? ⟨b, 1, none⟩ = some v := by rw [Lib.cell_of_heap hbk]; rfl
  have HB1 : Hid (Bk w1 g C T) := hk1 g _ HB0.out (fun e => hgb (Option.some.inj e)) (fun c' fz e => by injection e with _ e2; exact hT e2)
  go_wp2_with (at_builtin; refine wpList_append_ownF _ rfl _ _ 82 rfl B 5 i0 (.int .u8 0) 1 1 Tryz.underlying82 hi' hz0 hz1 hz2 rfl (by decide) _ _ _ rfl hown ⟨g, o, none⟩ n c (Lib.byteCells L) rfl ?c0 ?c1 ?c2 ?c3 ?c4 ?c5 ?_)
  case c0 => rw [hbL, HLL.out, Nat.mul_one]
  case c1 =>
    intro j u hj
    rw [WideShapes.add_plain, HB1.out.cell]
    exact HC.out j u hj
  case c2 => exact Lib.byteCells_one L
  case c3 => rw [hbl]; unfold maxLen; omega
  case c4 => rw [hbl]; omega
  case c5 => have := hb1.size; omega
  intro v' w2 hown' hgrow _
  have hlt : b < w1.heap.size := by
    rcases Nat.lt_or_ge b w1.heap.size with h' | h'
    · exact h'
    · simp [Array.getElem?_eq_none h'] at hbk
  have hb2 : w2.heap[b]? = some (.cells #[.pointer (some ⟨b, 0, none⟩), v] 118 (0, 0)) := by
    rw [hgrow.block b hlt (fun e => hne e.symm)]
    exact hbk
  have d0 : w2.cell? ⟨b, 0, none⟩ = some (.pointer (some ⟨b, 0, none⟩)) := by rw [Lib.cell_of_heap hb2]; rfl
  have d1 : w2.cell? ⟨b, 1, none⟩ = some v := by rw [Lib.cell_of_heap hb2]; rfl
  have f1 : w2.frozen? ⟨b, 1, none⟩ = false := Lib.frozen_of_heap hb2 1
  obtain ⟨ao, n', cap, rfl⟩ : ∃ ao n' cap, v' = .slice ao n' cap := by
    rcases hown'.2 with ⟨hv, _⟩ | ⟨g, cap, cur, fz, hv, _⟩
    · exact ⟨_, _, _, hv⟩
    · exact ⟨_, _, _, hv⟩
  have HE : Hid (Bld B b (l ++ L) (w2.setCell ⟨b, 1, none⟩ (.slice ao n' cap)) ∧ Below B w (w2.setCell ⟨b, 1, none⟩ (.slice ao n' cap)) ∧ Oth b w (w2.setCell ⟨b, 1, none⟩ (.slice ao n' cap))) := by
    refine ⟨Or.inr ?_, ?_, (hk1.grown hgrow (Lib.ownsRowF_kind hown)).setCell ⟨b, 1, none⟩ rfl _⟩
    · rw [Lib.byteCells_append]
      exact Lib.BuilderAtF.put (T := 118) (e := 5) hB hb2 (bs' := Lib.byteCells l ++ Lib.byteCells L) (by rw [List.length_append, hbL, hbl, HLL.out]; exact hown') extra166.neB5
    · exact (hb1.grown hgrow (by have := hb1.size; omega) (fun k hk => (hown.lt k hk).1)).setCell (p := ⟨b, 1, none⟩) hB _
  clear hown hown' hgrow hk1 hb1 hbk hb2 hne
  go_wp2
  go_ret2
  exact ⟨rfl, HE.out⟩
theorem extra165 : Builder.Extra Tryz.prog lays165_ren := {
  sizeBuilder := by kernel_rfl
  liesBuilder := by kernel_rfl
  t5 := Tryz.underlying5
  a5 := Tryz.isAgg5
  z5 := Tryz.sizeOf5
  v5 := Tryz.zeroValue5
  infoByte := by kernel_rfl
  cellsByte := by kernel_rfl
  sizeByte := by kernel_rfl
  neB5 := by decide }
/-- Grow of a builder that was just made. -/
theorem growB (n : Nat) (w : World) (hn : n ≤ 281474976710656) :
    Calls Tryz.prog 60 #[.pointer (some ⟨w.heap.size, 0, none⟩), .int .i64 n] (w.alloc (.cells #[.pointer none, .slice none 0 0] 118)) fun e w' => e = .returned (.tuple #[]) ∧ Bld w.heap.size w.heap.size [] w' ∧ Below w.heap.size w w' := by
  refine (Any.Builder_Grow_fresh lays165 extra165 w.heap.size w.heap.size n (w.alloc (.cells #[.pointer none, .slice none 0 0] 118)) (Nat.le_refl _) (bk_new _ _ _) (by rw [al_size]; omega) hn).mono ?_
  rintro e w' ⟨he, h1, h2⟩
  exact ⟨he, .inr (Lib.BuilderAtF.of h1), ((Below.refl _ _).alloc (Nat.le_refl _) _).trans h2⟩
end Go.Proofs.YtpfknjnigcefgaaGreatDoor
/- The laying of strings.Builder.WriteByte. -/
namespace Go.Proofs.YtpfknjnigcefgaaGreatDoor
open Go.Shelf
def lays167_ren : Go.Shelf.Ren := ⟨fun | 167 => 65 | 240 => 102 | 276 => 128 | n => n, fun | 0 => 0 | 3 => 3 | 4 => 4 | 5 => 5 | 9 => 9 | 20 => 20 | 37 => 82 | 70 => 116 | 72 => 118 | 75 => 122 | 164 => 180 | 80 => 65 | n => n, fun | n => n⟩
theorem lays167 : Go.Proofs.Lays.n167 Tryz.prog lays167_ren := {
  mixed := by kernel_rfl
  f167 := Tryz.func65.trans (congrArg some (by kernel_rfl))
  f240 := Tryz.func102.trans (congrArg some (by kernel_rfl))
  f276 := Tryz.func128.trans (congrArg some (by kernel_rfl))
  t0 := Tryz.underlying0
  a0 := Tryz.isAgg0
  z0 := Tryz.sizeOf0
  v0 := Tryz.zeroValue0
  t4 := Tryz.underlying4
  a4 := Tryz.isAgg4
  z4 := Tryz.sizeOf4
  v4 := Tryz.zeroValue4
  t5 := Tryz.underlying5
  a5 := Tryz.isAgg5
  z5 := Tryz.sizeOf5
  v5 := Tryz.zeroValue5
  t9 := Tryz.underlying9
  a9 := Tryz.isAgg9
  z9 := Tryz.sizeOf9
  v9 := Tryz.zeroValue9
  t20 := Tryz.underlying20
  a20 := Tryz.isAgg20
  z20 := Tryz.sizeOf20
  v20 := Tryz.zeroValue20
  t37 := Tryz.underlying82
  a37 := Tryz.isAgg82
  z37 := Tryz.sizeOf82
  v37 := Tryz.zeroValue82
  t70 := Tryz.underlying116
  a70 := Tryz.isAgg116
  z70 := Tryz.sizeOf116
  v70 := Tryz.zeroValue116
  t72 := Tryz.underlying118
  a72 := Tryz.isAgg118
  z72 := Tryz.sizeOf118
  v72 := Tryz.zeroValue118
  t75 := Tryz.underlying122
  a75 := Tryz.isAgg122
  z75 := Tryz.sizeOf122
  v75 := Tryz.zeroValue122
  t164 := Tryz.underlying180
  a164 := Tryz.isAgg180
  z164 := Tryz.sizeOf180
  v164 := Tryz.zeroValue180 }
theorem extra167 : Builder.Extra Tryz.prog lays167_ren := {
  sizeBuilder := by kernel_rfl
  liesBuilder := by kernel_rfl
  t5 := Tryz.underlying5
  a5 := Tryz.isAgg5
  z5 := Tryz.sizeOf5
  v5 := Tryz.zeroValue5
  infoByte := by kernel_rfl
  cellsByte := by kernel_rfl
  sizeByte := by kernel_rfl
  neB5 := by decide }
end Go.Proofs.YtpfknjnigcefgaaGreatDoor
/- strings.Builder. -/
namespace Go.Proofs.YtpfknjnigcefgaaGreatDoor
open Go.RowKit
set_option linter.unusedSimpArgs false
set_option linter.unusedVariables false
theorem writeB (B b : Nat) (l : List UInt8) (c : UInt8) (w : World) (h : Bld B b l w) (hlen : l.length + 1 ≤ 140737488355328) (hBw : B ≤ w.heap.size) :
    Calls Tryz.prog 65 #[.pointer (some ⟨b, 0, none⟩), .int .u8 (c.toNat : Int)] w fun e w' => e = .returned .nilIface ∧ Bld B b (l ++ [c]) w' ∧ Below B w w' ∧ Oth b w w' :=
  (Any.Builder_WriteByte_k lays167 extra167 B b (Lib.byteCells l) (c.toNat : Int) w h (by rw [Lib.byteCells_length]; exact hlen) hBw).mono fun e w' ⟨he, h1, h2, h3⟩ =>
    ⟨he, by rw [Bld, Lib.byteCells_append]; exact Or.inr h1, h2, h3⟩
end Go.Proofs.YtpfknjnigcefgaaGreatDoor
/- idx.Index.bytes: an index's bytes. -/
namespace Go.Proofs.YtpfknjnigcefgaaGreatDoor
open Go.RowKit
set_option linter.unusedSimpArgs false
set_option linter.unusedVariables false
theorem ix_fan (i : Nat) (hi : i < 256) (cs : Array Value) (v : Value) (hc : cs[i]? = some v) (w : World) : (Instr.index 102 (.agg cs) (.int .i64 (i : Int))).run Tryz.prog w = .ok v w := by
  have h0 : (0 : Int) ≤ (i : Int) := by omega
  have h1 : (i : Int) < 256 := by omega
  have ha : (isAgg 3).run Tryz.prog w = .ok false w := by kernel_rfl
  have hs : (sizeOf 3).run Tryz.prog w = .ok 1 w := by kernel_rfl
  simp [Instr.index, run_underlying Tryz.underlying102, asIntOf, h0, h1, go_sem, part, ha, hs, hc]
  intro q
  omega
theorem oth_below {b : Nat} {w w' : World} (h : Below w.heap.size w w') : Oth b w w' := fun k o hk _ _ => (h.block k (Array.getElem?_eq_some_iff.1 hk).1).trans hk
set_option maxHeartbeats 1000000 in
set_option maxRecDepth 100000 in
/-- The closure putNumber. -/
theorem putN (B b n : Nat) (l : List UInt8) (w : World) (hn : n < 4294967296) (h : Bld B b l w) (hlen : l.length ≤ 100000000) (hBw : B ≤ w.heap.size) :
    Calls Tryz.prog 61 #[.int .i64 (n : Int), .pointer (some ⟨b, 0, none⟩)] w fun e w' => e = .returned (.tuple #[]) ∧ Bld B b (l ++ f4 n) w' ∧ Below B w w' ∧ Oth b w w' := by
  have HP : Hid (Calls Tryz.prog 62 #[.string ⟨#[]⟩, .int .u64 (n : Int), .int .i64 4] w fun e w' => e = .returned (.tuple #[.string (⟨#[]⟩ ++ sb (fixN 4 n)), .int .i64 0]) ∧ Below w.heap.size w w') := by
    have := putFixed_ok ⟨#[]⟩ (n : Int) 4 w (by omega) (by omega) (by decide) (by decide) (by rw [Int.toNat_natCast]; exact hn) (by decide)
    rw [Int.toNat_natCast] at this
    exact this
  obtain ⟨Q, hQ⟩ : ∃ Q : ByteArray, (⟨#[]⟩ ++ sb (fixN 4 n) : ByteArray) = Q := ⟨_, rfl⟩
  have hQb : Q.data.toList = f4 n := by
    show bl Q = f4 n
    rw [← hQ, bl_append, bl_sb]; rfl
  have hQs : Q.size = 4 := by rw [← bl_length]; show Q.data.toList.length = 4; rw [hQb, f4_len]
  rw [hQ] at HP
  have HH : Hid (Bld B b l w) := h
  have HQ : Hid (Q.data.toList = f4 n ∧ Q.size = 4) := ⟨hQb, hQs⟩
  have hw1 : IntKind.u64.wrap (n : Int) = (n : Int) := by
    simp [IntKind.wrap, IntKind.bits, IntKind.signed]; omega
  clear hQ hQb hQs h
  go_enter Tryz.func61, Tryz.ntmps61
  go_wp2_with fail
  refine HP.out.mono ?_
  rintro e w1 ⟨rfl, hb1⟩
  have H1 : Hid (Bld B b l w1) := bld_keep11 HH.out hb1
  have HB1 : Hid (Below w.heap.size w w1) := hb1
  clear hb1
  go_wp2_with fail
  refine (writeS B b l Q w1 H1.out (by rw [HQ.out.2]; omega) (Nat.le_trans hBw HB1.out.size)).mono ?_
  rintro e w2 ⟨rfl, h2, hb2, ho2⟩
  have HE : Hid (Bld B b (l ++ f4 n) w2 ∧ Below B w w2 ∧ Oth b w w2) := ⟨by rw [← HQ.out.1]; exact h2, (HB1.out.mono hBw).trans hb2, (oth_below HB1.out).trans ho2⟩
  clear h2 hb2 ho2
  go_wp2
  go_end0
  exact ⟨rfl, HE.out⟩
end Go.Proofs.YtpfknjnigcefgaaGreatDoor
