import Derived.Test.YtpfknjnigcefgaaGreatDoorY32
import Derived.Lib.Bytealg
import Derived.BigCall
import Derived.RegionTactic
import Derived.WalkKit
import Derived.Test.YtpfknjnigcefgaaGreatDoorY11
import Derived.Test.YtpfknjnigcefgaaGreatDoorY13
import Derived.Test.YtpfknjnigcefgaaGreatDoorY16
import Derived.Test.YtpfknjnigcefgaaGreatDoorY10
/- strings.Cut at a dash. -/
namespace Go.Proofs.YtpfknjnigcefgaaGreatDoor
open Go.RowKit
set_option linter.unusedSimpArgs false
set_option linter.unusedVariables false
theorem idx_dash : ∀ (l : List UInt8) (c : UInt8), (Lib.indexByte l c = -1 ∧ c ∉ l) ∨ ∃ i : Nat, Lib.indexByte l c = i ∧ i < l.length ∧ c ∉ l.take i ∧ l[i]? = some c
  | [], c => .inl ⟨rfl, by simp⟩
  | b :: l, c => by
    by_cases hb : b = c
    · subst hb; exact .inr ⟨0, by simp [Lib.indexByte], by simp, by simp, by simp⟩
    · have hb' : (b == c) = false := by simpa using hb
      rcases idx_dash l c with ⟨h1, h2⟩ | ⟨i, h1, h2, h3, h4⟩
      · exact .inl ⟨by simp [Lib.indexByte, hb', h1], by simp only [List.mem_cons, not_or]; exact ⟨fun e => hb e.symm, h2⟩⟩
      · refine .inr ⟨i + 1, ?_, by simp; omega, ?_, by simpa using h4⟩
        · have : ((i : Int) == -1) = false := by first | (simp; done) | (simp; omega)
          simp [Lib.indexByte, hb', h1, this]
        · simp only [List.take_succ_cons, List.mem_cons, not_or]; exact ⟨fun e => hb e.symm, h3⟩
set_option maxRecDepth 100000 in
theorem sidxB (s : ByteArray) (w : World) : Calls Tryz.prog 143 #[.string s, .int .u8 45] w fun e w' => e = .returned (.int .i64 (Lib.indexByte s.data.toList 45)) ∧ w' = w := by
  go_enter Tryz.func143, Tryz.ntmps143
  go_wp2
  rw [run_callFunc_extern Tryz.func152 (by kernel_rfl) (by kernel_rfl) (by kernel_rfl) (e := Extern.BytealgIndexByte.indexByte) (by kernel_rfl), Lib.run_indexByteString]
  simp only [Result.andThen]
  rw [Oper.upon_value]
  go_wp2
  go_ret
  exact ⟨rfl, rfl⟩
set_option maxHeartbeats 1000000 in
set_option maxRecDepth 100000 in
theorem sidx (s : ByteArray) (w : World) (hs : s.size ≤ 140737488355328) : Calls Tryz.prog 119 #[.string s, .string ⟨#[45]⟩] w fun e w' => e = .returned (.int .i64 (Lib.indexByte s.data.toList 45)) ∧ w' = w := by
  by_cases he : s = ⟨#[45]⟩
  · subst he
    have hq : ([45] == (⟨#[45]⟩ : ByteArray).toList) = true := by rw [Lib.toList_data]; rfl
    go_enter Tryz.func119, Tryz.ntmps119
    go_wp2
    go_ret
    exact ⟨rfl, rfl⟩
  · have hq : ([45] == s.toList) = false := by
      have := str_neP (fun q : (⟨#[45]⟩ : ByteArray) = s => he q.symm)
      rw [show (⟨#[45]⟩ : ByteArray).toList = [45] by rw [Lib.toList_data]] at this
      exact this
    go_enter Tryz.func119, Tryz.ntmps119
    go_wp2_with (first
      | (go_at_call 143; refine (sidxB s _).mono ?_; rintro e w1 ⟨rfl, hw⟩; obtain rfl := hw.symm)
      | fail)
    go_ret
    exact ⟨rfl, rfl⟩
/-- What Cut answers. -/
def CutD (s : ByteArray) (e : Ending) : Prop := (e = .returned (.tuple #[.string s, .string ⟨#[]⟩, .bool false]) ∧ (45 : UInt8) ∉ bl s) ∨
  ∃ i : Nat, i < s.size ∧ e = .returned (.tuple #[.string (s.extract 0 i), .string (s.extract (i + 1) s.size), .bool true]) ∧ (45 : UInt8) ∉ (bl s).take i ∧ (bl s)[i]? = some 45
theorem scutD (s : ByteArray) (w : World) (hs : s.size ≤ 140737488355328) :
    Calls Tryz.prog 85 #[.string s, .string ⟨#[45]⟩] w fun e w' => CutD s e ∧ Below w.heap.size w w' := by
  have hix := sidx s w hs
  rcases idx_dash s.data.toList 45 with ⟨h1, h2⟩ | ⟨i, h1, h2, h3, h4⟩
  · rw [h1] at hix
    have H2 : Hid ((45 : UInt8) ∉ bl s) := h2
    clear h1 h2
    go_enter Tryz.func85, Tryz.ntmps85
    go_wp2_with fail
    refine hix.mono ?_
    rintro e w1 ⟨rfl, hw⟩
    subst hw
    go_wp2
    go_ret3
    exact ⟨.inl ⟨rfl, H2.out⟩, Below.refl _ _⟩
  · rw [h1] at hix
    have h2' : i < s.size := by have e : s.data.toList.length = s.size := Array.length_toList; omega
    have H2 : Hid ((45 : UInt8) ∉ (bl s).take i ∧ (bl s)[i]? = some 45) := ⟨h3, h4⟩
    have a1 : (i : Int) + 1 ≤ (s.size : Nat) := by omega
    have a0 : (i : Int) ≤ (s.size : Nat) := by omega
    have a2 : (0 : Int) ≤ i := by omega
    have a3 : wrap64 ((i : Int) + 1) = ((i + 1 : Nat) : Int) := by unfold wrap64; omega
    clear h1 h2 h3 h4
    go_enter Tryz.func85, Tryz.ntmps85
    go_wp2_with fail
    refine hix.mono ?_
    rintro e w1 ⟨rfl, hw⟩
    subst hw
    go_wp2
    go_region
    all_goals go_wp2
    all_goals go_ret3
    all_goals exact ⟨.inr ⟨i, h2', rfl, H2.out⟩, (Below.refl _ _).drew⟩
theorem cutD (s : ByteArray) (w : World) (hs : s.size ≤ 140737488355328) :
    Calls Tryz.prog 43 #[.string s, .string ⟨#[45]⟩] w fun e w' => CutD s e ∧ Below w.heap.size w w' := by
  go_enter Tryz.func43, Tryz.ntmps43
  go_wp2_with fail
  refine (scutD s w hs).mono ?_
  rintro e w1 ⟨hA, hw⟩
  have HW : Hid (Below w.heap.size w w1) := hw
  clear hw
  rcases hA with ⟨rfl, h2⟩ | ⟨i, h1, rfl, h2⟩
  · have H2 : Hid ((45 : UInt8) ∉ bl s) := h2
    clear h2
    go_wp2
    go_ret3
    exact ⟨.inl ⟨rfl, H2.out⟩, HW.out⟩
  · have H2 : Hid ((45 : UInt8) ∉ (bl s).take i ∧ (bl s)[i]? = some 45) := h2
    clear h2
    go_wp2
    go_ret3
    exact ⟨.inr ⟨i, h1, rfl, H2.out⟩, HW.out⟩
end Go.Proofs.YtpfknjnigcefgaaGreatDoor
/- Plain facts of an index's label. -/
namespace Go.Proofs.YtpfknjnigcefgaaGreatDoor
open Go.RowKit
set_option linter.unusedSimpArgs false
set_option linter.unusedVariables false
def xF : ByteArray := ⟨#[105, 100, 120, 45]⟩
def xD : ByteArray := ⟨#[45]⟩
def xE : ByteArray := ⟨#[46, 105, 120]⟩
/-- A label of these digits. -/
def lbI (f g : ByteArray) : ByteArray := (((xF ++ f) ++ xD) ++ g) ++ xE
theorem lbI_bl (f g : ByteArray) : bl (lbI f g) = [105, 100, 120, 45] ++ ((bl f ++ 45 :: bl g) ++ [46, 105, 120]) := by
  rw [lbI, bl_append, bl_append, bl_append, bl_append]
  show [105, 100, 120, 45] ++ bl f ++ [45] ++ bl g ++ [46, 105, 120] = _
  simp
/-- A label that says two sums. -/
def IsLb (s f g : ByteArray) : Prop := s = lbI f g ∧ f.size = 64 ∧ g.size = 64 ∧ uhE f = 0 ∧ uhE g = 0
theorem dash_one : ∀ (a a' b b' : List UInt8), (45 : UInt8) ∉ a → (45 : UInt8) ∉ a' → a ++ 45 :: b = a' ++ 45 :: b' → a = a' ∧ b = b'
  | [], [], b, b', _, _, h => by simpa using h
  | [], x :: a', b, b', _, h2, h => by
    simp only [List.nil_append, List.cons_append, List.cons.injEq] at h
    exact absurd (by rw [← h.1]; exact List.mem_cons_self) h2
  | x :: a, [], b, b', h1, _, h => by
    simp only [List.nil_append, List.cons_append, List.cons.injEq] at h
    exact absurd (by rw [h.1]; exact List.mem_cons_self) h1
  | x :: a, y :: a', b, b', h1, h2, h => by
    simp only [List.cons_append, List.cons.injEq] at h
    obtain ⟨q1, q2⟩ := dash_one a a' b b' (fun q => h1 (List.mem_cons_of_mem _ q)) (fun q => h2 (List.mem_cons_of_mem _ q)) h.2
    exact ⟨by rw [h.1, q1], q2⟩
theorem unhex_dash : ∀ (l : List UInt8), (unhexL l).isSome = true → (45 : UInt8) ∉ l
  | [], _ => by simp
  | [_], h => by simp [unhexL] at h
  | a :: b :: r, h => by
    have hd : dvl (45 : UInt8).toNat = none := by decide
    rw [unhexL] at h
    cases ha : dvl a.toNat with
    | none => rw [ha] at h; simp at h
    | some x =>
      cases hb : dvl b.toNat with
      | none => rw [ha, hb] at h; simp at h
      | some y =>
        cases hr : unhexL r with
        | none => rw [ha, hb, hr] at h; simp at h
        | some m =>
          have ih := unhex_dash r (by rw [hr]; rfl)
          intro q
          simp only [List.mem_cons] at q
          rcases q with q | q | q
          · rw [← q, hd] at ha; cases ha
          · rw [← q, hd] at hb; cases hb
          · exact ih q
theorem IsLb.dash {s f g : ByteArray} (h : IsLb s f g) : (45 : UInt8) ∉ bl f := by
  refine unhex_dash _ ?_
  have := h.2.2.2.1
  unfold uhE at this
  split at this
  · assumption
  · omega
theorem lbI_one {f g f' g' : ByteArray} (h : lbI f g = lbI f' g') (h1 : (45 : UInt8) ∉ bl f) (h2 : (45 : UInt8) ∉ bl f') : f = f' ∧ g = g' := by
  have := congrArg bl h
  rw [lbI_bl, lbI_bl] at this
  have q := List.append_cancel_right (List.append_cancel_left this)
  obtain ⟨q1, q2⟩ := dash_one _ _ _ _ h1 h2 q
  exact ⟨bl_inj q1, bl_inj q2⟩
theorem pfB_iff (s q : ByteArray) : pfB s q = true ↔ ∃ r, s = q ++ r := by
  unfold pfB
  rw [Bool.and_eq_true, decide_eq_true_eq, beq_iff_eq]
  constructor
  · rintro ⟨h1, h2⟩
    refine ⟨s.extract q.size s.size, ?_⟩
    apply bl_inj
    rw [extract_take s _ h1] at h2
    rw [bl_append, bl_ex, ← h2, List.take_append_drop]
  · rintro ⟨r, rfl⟩
    refine ⟨by rw [ByteArray.size_append]; omega, ?_⟩
    rw [extract_take _ _ (by rw [ByteArray.size_append]; omega), bl_append, ← bl_length, List.take_left]
theorem cpX_eq (q r : ByteArray) : cpX (q ++ r) q = r := by
  rw [cpX, if_pos ((pfB_iff _ _).2 ⟨r, rfl⟩)]
  exact drop_front _ q r _ rfl rfl
theorem sfB_iff (s q : ByteArray) : sfB s q = true ↔ ∃ r, s = r ++ q := by
  unfold sfB
  rw [Bool.and_eq_true, decide_eq_true_eq, beq_iff_eq]
  constructor
  · rintro ⟨h1, h2⟩
    refine ⟨s.extract 0 (s.size - q.size), ?_⟩
    apply bl_inj
    rw [bl_append, ← h2, bl_ex, extract_take _ _ (by omega), List.take_append_drop]
  · rintro ⟨r, rfl⟩
    refine ⟨by rw [ByteArray.size_append]; omega, ?_⟩
    rw [drop_front (r ++ q) r q _ rfl (by rw [ByteArray.size_append]; omega)]
theorem csX_eq (r q : ByteArray) : csX (r ++ q) q = r := by
  rw [csX, if_pos ((sfB_iff _ _).2 ⟨r, rfl⟩)]
  apply bl_inj
  rw [extract_take _ _ (by omega), bl_append, ByteArray.size_append, Nat.add_sub_cancel, ← bl_length, List.take_left]
/-- A label comes apart. -/
theorem lbI_parts (f g : ByteArray) : pfB (lbI f g) xF = true ∧ sfB (cpX (lbI f g) xF) xE = true ∧ csX (cpX (lbI f g) xF) xE = (f ++ xD) ++ g := by
  have e : lbI f g = xF ++ (((f ++ xD) ++ g) ++ xE) := by
    apply bl_inj
    simp only [lbI, bl_append, List.append_assoc]
  rw [e, cpX_eq, csX_eq]
  exact ⟨(pfB_iff _ _).2 ⟨_, rfl⟩, (sfB_iff _ _).2 ⟨_, rfl⟩, rfl⟩
theorem lbI_of {s d : ByteArray} {i : Nat} (h1 : pfB s xF = true) (h2 : sfB (cpX s xF) xE = true) (hd : csX (cpX s xF) xE = d) (hi : (bl d)[i]? = some 45) (hi2 : i < d.size) : s = lbI (d.extract 0 i) (d.extract (i + 1) d.size) := by
  obtain ⟨r, rfl⟩ := (pfB_iff _ _).1 h1
  rw [cpX_eq] at h2 hd
  obtain ⟨t, rfl⟩ := (sfB_iff _ _).1 h2
  rw [csX_eq] at hd
  subst hd
  apply bl_inj
  rw [lbI_bl, bl_append, bl_append, extract_take _ _ (by omega), bl_ex]
  have e : bl t = (bl t).take i ++ 45 :: (bl t).drop (i + 1) := by
    obtain ⟨hl, hv⟩ := List.getElem?_eq_some_iff.1 hi
    rw [← hv, ← List.drop_eq_getElem_cons hl, List.take_append_drop]
  show [105, 100, 120, 45] ++ (bl t ++ [46, 105, 120]) = _
  rw [← e]
/-- The digits of a name, and their label. -/
def tx32 (s : ByteArray) : ByteArray := sb (hexL (bl s))
def ilb (a b : ByteArray) : ByteArray := lbI (tx32 a) (tx32 b)
theorem tx32_size {s : ByteArray} (h : s.size = 32) : (tx32 s).size = 64 := by rw [tx32, sb_size, hexL_length, bl_length, h]
theorem ilb_is {a b : ByteArray} (ha : a.size = 32) (hb : b.size = 32) : IsLb (ilb a b) (tx32 a) (tx32 b) := ⟨rfl, tx32_size ha, tx32_size hb, (uh_hex a).2, (uh_hex b).2⟩
theorem pid_tx {a : ByteArray} (ha : a.size = 32) : pid (tx32 a) = idc a := by
  obtain ⟨u1, u2⟩ := uh_hex a
  unfold tx32
  rw [pid_ok _ (by rw [u1]; exact ha), u1]
/-- What Sums tells. -/
def SmI (s : ByteArray) (e : Ending) : Prop :=
  (∃ f g, IsLb s f g ∧ e = .returned (.tuple #[.agg (pid f), .agg (pid g), .int .i64 0])) ∨ ((∀ f g, ¬ IsLb s f g) ∧ e = .returned (.tuple #[.agg z32c, .agg z32c, .int .i64 10]))
theorem SmI.ilb {a b : ByteArray} {e : Ending} (ha : a.size = 32) (hb : b.size = 32) (h : SmI (ilb a b) e) : e = .returned (.tuple #[.agg (idc a), .agg (idc b), .int .i64 0]) := by
  have hi := ilb_is ha hb
  rcases h with ⟨f, g, h1, rfl⟩ | ⟨h1, _⟩
  · obtain ⟨rfl, rfl⟩ := lbI_one (h1.1.symm.trans hi.1) h1.dash hi.dash
    rw [pid_tx ha, pid_tx hb]
  · exact absurd hi (h1 _ _)
end Go.Proofs.YtpfknjnigcefgaaGreatDoor
/- idx.Label, idx.Sums, idx.Fits. -/
namespace Go.Proofs.YtpfknjnigcefgaaGreatDoor
open Go.RowKit
set_option linter.unusedSimpArgs false
set_option linter.unusedVariables false
theorem ret_sX {a b : ByteArray} (h : b = a) : Ending.returned (.string a) = .returned (.string b) := by rw [h]
set_option maxHeartbeats 2000000 in
set_option maxRecDepth 100000 in
theorem label13 (a b : ByteArray) (w : World) (ha : a.size = 32) (hb : b.size = 32) (hA : All w) :
    Calls Tryz.prog 18 #[.agg (idc a), .agg (idc b)] w fun e w' => e = .returned (.string (ilb a b)) ∧ Below w.heap.size w w' := by
  obtain ⟨w0, hw0⟩ : ∃ w0, (w.alloc (.cells (idc a) 23)).alloc (.cells (idc b) 23) = w0 := ⟨_, rfl⟩
  have hb0 : Below w.heap.size w w0 := by rw [← hw0]; exact ((Below.refl _ _).alloc (Nat.le_refl _) _).alloc (by rw [al_size]; omega) _
  have k1 : Bk w0 w.heap.size (idc a) 23 := by rw [← hw0]; exact (bk_new _ _ _).alloc _
  have k2 : Bk w0 (w.heap.size + 1) (idc b) 23 := by
    have := bk_new (w.alloc (.cells (idc a) 23)) (idc b) 23
    rw [al_size, hw0] at this
    exact this
  have C1 : Hid (∀ W, Below w0.heap.size w0 W → Bk W w.heap.size (idc a) 23) := fun W hW => k1.below hW k1.lt
  have C2 : Hid (∀ W, Below w0.heap.size w0 W → Bk W (w.heap.size + 1) (idc b) 23) := fun W hW => k2.below hW k2.lt
  have hA0 : All w0 := hA.below hb0
  have C3 : Hid (∀ W, Below w0.heap.size w0 W → Calls Tryz.prog 46 #[.agg (idc a)] W fun e w' => e = .returned (.string (tx32 a)) ∧ Below w0.heap.size w0 w') := fun W hW => (text_any a W ha (hA0.below hW)).mono fun e w' q => ⟨q.1, Below.trans hW (q.2.mono (Below.size hW))⟩
  have C4 : Hid (∀ W, Below w0.heap.size w0 W → Calls Tryz.prog 46 #[.agg (idc b)] W fun e w' => e = .returned (.string (tx32 b)) ∧ Below w0.heap.size w0 w') := fun W hW => (text_any b W hb (hA0.below hW)).mono fun e w' q => ⟨q.1, Below.trans hW (q.2.mono (Below.size hW))⟩
  have HI : Hid ((Tryz.prog.info? 23).map (·.size) = some (idc a).size ∧ (Tryz.prog.info? 23).map (·.size) = some (idc b).size) := ⟨info_32 (by rw [idc_size, ha]), info_32 (by rw [idc_size, hb])⟩
  have HB0 : Hid (Below w.heap.size w w0) := hb0
  obtain ⟨A, hAe⟩ : ∃ A, idc a = A := ⟨_, rfl⟩
  obtain ⟨B, hBe⟩ : ∃ B, idc b = B := ⟨_, rfl⟩
  obtain ⟨ta, hta⟩ : ∃ t, tx32 a = t := ⟨_, rfl⟩
  obtain ⟨tb, htb⟩ : ∃ t, tx32 b = t := ⟨_, rfl⟩
  have za : ta.size = 64 := by rw [← hta]; exact tx32_size ha
  have zb : tb.size = 64 := by rw [← htb]; exact tx32_size hb
  have HR : Hid (ilb a b = (((xF ++ ta) ++ xD) ++ tb) ++ xE) := by show _ = _; rw [← hta, ← htb]; rfl
  rw [hAe] at C1 C3 HI
  rw [hBe] at C2 C4 HI
  rw [hta] at C3
  rw [htb] at C4
  rw [hAe, hBe] at hw0 ⊢
  have h1 : (⟨#[105, 100, 120, 45]⟩ : ByteArray) = xF := rfl
  have h2 : (⟨#[45]⟩ : ByteArray) = xD := rfl
  have h3 : (⟨#[46, 105, 120]⟩ : ByteArray) = xE := rfl
  have z1 : xF.size = 4 := rfl
  have z2 : xD.size = 1 := rfl
  have z3 : xE.size = 3 := rfl
  clear hb0 k1 k2 hA0 hA hAe hBe hta htb
  go_enter Tryz.func18, Tryz.ntmps18
  go_wp2_with fail
  try rw [hw0]
  clear hw0
  refine region_class10 (fun W => Below w0.heap.size w0 W) (by kernel_rfl) (by kernel_rfl) ((Below.refl _ _).drew) ?_
  try simp only [Act.put, List.setIfInBounds_toArray, List.set_cons_zero, List.set_cons_succ]
  repeat (first
    | go_big_quiet_skip
    | (go_big_quiet_want
       first
         | (refine quiet_row 23 _ rfl w.heap.size 0 A A 23 _ rfl C1.out (fun j v hv => by rw [Nat.zero_add]; exact hv) Tryz.underlying23 rfl HI.out.1 ?_; go_big_quiet_on; simp only [Act.put, List.setIfInBounds_toArray, List.set_cons_zero, List.set_cons_succ])
         | (refine quiet_row 23 _ rfl (w.heap.size + 1) 0 B B 23 _ rfl C2.out (fun j v hv => by rw [Nat.zero_add]; exact hv) Tryz.underlying23 rfl HI.out.2 ?_; go_big_quiet_on; simp only [Act.put, List.setIfInBounds_toArray, List.set_cons_zero, List.set_cons_succ])
         | (refine quiet_call10 (.string ta) 46 #[.agg A] ?_ ?_ ?_; (focus (intro W hW; go_simp; done)); (focus (intro W hW; exact C3.out W hW)); go_big_quiet_on; simp only [Act.put, List.setIfInBounds_toArray, List.set_cons_zero, List.set_cons_succ])
         | (refine quiet_call10 (.string tb) 46 #[.agg B] ?_ ?_ ?_; (focus (intro W hW; go_simp; done)); (focus (intro W hW; exact C4.out W hW)); go_big_quiet_on; simp only [Act.put, List.setIfInBounds_toArray, List.set_cons_zero, List.set_cons_succ])
         | (refine quiet_val10 (.string (xF ++ ta)) ?_ ?_; (focus (intro W hW; go_simp; done)); go_big_quiet_on; simp only [Act.put, List.setIfInBounds_toArray, List.set_cons_zero, List.set_cons_succ])
         | (refine quiet_val10 (.string ((xF ++ ta) ++ xD)) ?_ ?_; (focus (intro W hW; go_simp; done)); go_big_quiet_on; simp only [Act.put, List.setIfInBounds_toArray, List.set_cons_zero, List.set_cons_succ])
         | (refine quiet_val10 (.string (((xF ++ ta) ++ xD) ++ tb)) ?_ ?_; (focus (intro W hW; go_simp; done)); go_big_quiet_on; simp only [Act.put, List.setIfInBounds_toArray, List.set_cons_zero, List.set_cons_succ])
         | (refine quiet_val10 (.string ((((xF ++ ta) ++ xD) ++ tb) ++ xE)) ?_ ?_; (focus (intro W hW; go_simp; done)); go_big_quiet_on; simp only [Act.put, List.setIfInBounds_toArray, List.set_cons_zero, List.set_cons_succ])
         | (go_big_quiet_op; go_big_quiet_on)))
  refine wpQuiet_nil ?_
  intro w9 hw9
  have H9 : Hid (Below w0.heap.size w0 w9) := hw9
  clear hw9
  go_wp2
  go_ret
  exact ⟨ret_sX HR.out, HB0.out.trans (H9.out.mono HB0.out.size)⟩
end Go.Proofs.YtpfknjnigcefgaaGreatDoor
/- What idx.Sums' walk wants. -/
namespace Go.Proofs.YtpfknjnigcefgaaGreatDoor
open Go.RowKit
set_option linter.unusedSimpArgs false
set_option linter.unusedVariables false
theorem results_cct {P : Program} {fn : Func} {p q u : Tmp} {ty : TypeId} (h : fn.results = #[.cell p ty, .cell q ty, .tmp u]) (tmps : Array Value) (w : World) (g g2 : Nat) (t : TypeId) (cs cs2 : Array Value) (fr : Nat × Nat) (d : TypeDesc)
    (hp : tmps.getD p undef = .pointer (some ⟨g, 0, none⟩)) (hq : tmps.getD q undef = .pointer (some ⟨g2, 0, none⟩)) (hg : w.heap[g]? = some (.cells cs t fr)) (hg2 : w.heap[g2]? = some (.cells cs2 t fr))
    (hu : P.underlying ty = some d) (hd : (match d with | .struct _ | .array _ _ => true | _ => false) = true) (hi : (P.info? ty).map (·.size) = some cs.size) (hi2 : (P.info? ty).map (·.size) = some cs2.size) :
    (results fn tmps).run P w = .ok (.tuple #[.agg cs, .agg cs2, tmps.getD u undef]) w := by
  have hp' : tmps[p]?.getD undef = .pointer (some ⟨g, 0, none⟩) := by simpa using hp
  have hq' : tmps[q]?.getD undef = .pointer (some ⟨g2, 0, none⟩) := by simpa using hq
  simp [results, h, hp', hq', asAddr, run_loadVar_row w g t ty cs fr d hg hu hd hi, run_loadVar_row w g2 t ty cs2 fr d hg2 hu hd hi2]
/-- The two sums' blocks. -/
structure SU (w : World) (C D : Array Value) (W : World) : Prop where
  b2 : Bk W w.heap.size C 23
  b3 : Bk W (w.heap.size + 1) D 23
  bel : Below w.heap.size w W
theorem SU.next {w W W' : World} {C D : Array Value} (h : SU w C D W) (hb : Below W.heap.size W W') : SU w C D W' := ⟨h.b2.below hb h.b2.lt, h.b3.below hb h.b3.lt, h.bel.trans (hb.mono h.bel.size)⟩
theorem SU.put2 {w W W' : World} {C D C' : Array Value} (h : SU w C D W) (hg : W.grownBy W' (some w.heap.size)) (hb : Bk W' w.heap.size C' 23) : SU w C' D W' :=
  ⟨hb, h.b3.grown hg (fun e => by injection e with e; omega), below_own h.bel h.bel.size hg (Nat.le_refl _)⟩
theorem SU.put3 {w W W' : World} {C D D' : Array Value} (h : SU w C D W) (hg : W.grownBy W' (some (w.heap.size + 1))) (hb : Bk W' (w.heap.size + 1) D' 23) : SU w C D' W' :=
  ⟨h.b2.grown hg (fun e => by injection e with e; omega), hb, below_own h.bel h.bel.size hg (by omega)⟩
theorem prE_cases (t : ByteArray) : (prE t = 0 ∧ t.size = 64 ∧ uhE t = 0) ∨ prE t ≠ 0 := by
  unfold prE
  split
  · by_cases h : uhE t = 0
    · exact .inl ⟨h, ‹_›, h⟩
    · exact .inr h
  · exact .inr (by decide)
theorem prE_val (t : ByteArray) : prE t = 0 ∨ prE t = 4 := by
  unfold prE
  split
  · unfold uhE; split
    · exact .inl rfl
    · exact .inr rfl
  · exact .inr rfl
theorem setRow_same (w : World) (g : Nat) (cs : Array Value) (t : TypeId) (hg : w.heap[g]? = some (.cells cs t (0, 0))) : w.setRow g cs = w := by
  have e : (w.setRow g cs).heap = w.heap := by
    apply Array.ext_getElem?
    intro i
    by_cases h : i = g
    · subst h; rw [setRow_heap w i cs cs t (0, 0) hg, hg]
    · rw [setRow_other w g i cs h]
  have e2 : w.setRow g cs = { w with heap := (w.setRow g cs).heap } := rfl
  rw [e2, e]
/-- A store of what stands there already changes nothing. -/
theorem quiet_again {P : Program} {o : Oper} {a : Act} {C : World → Prop} {K : Act → Prop} (ty : TypeId) (x y : Operand) (ho : o.op = .store ty x y) (g : Nat) (cs : Array Value) (t : TypeId) (hx : a.eval x = .pointer (some ⟨g, 0, none⟩)) (hy : a.eval y = .agg cs)
    (hc : ∀ w, C w → Bk w g cs t) (hi : (P.info? ty).map (·.size) = some cs.size) (h1 : cs.all (·.oneCell') = true) (hn : K (a.put o.dst undef)) : o.quiet P a C K :=
  ⟨undef, fun w hw => by
    have h := hc w hw
    have hr := run_storeVar_row (P := P) w g t ty cs cs h hi rfl h1
    rw [setRow_same w g cs t h] at hr
    unfold Oper.quietAt execOp
    simp only [ho, hx, hy, Instr.storeAt, Instr.sureAddr, Sem.run_bind, Sem.run_pure, Result.andThen_ok, hr]
    exact ⟨rfl, rfl⟩, hn⟩
end Go.Proofs.YtpfknjnigcefgaaGreatDoor
