import Derived.Test.YtahpaekiehdejabDoorY8
import Derived.Test.YtahpaekiehdejabDoorChecked
import Derived.Shelf.Strings.Builder1
import Derived.Lib.OthersKept
import Derived.WalkKit
import Derived.BigCall
import Derived.Shelf.Strings.BuilderK
import Derived.OwnWalk
import Derived.Test.YtahpaekiehdejabDoorY5
import Derived.Test.YtahpaekiehdejabDoorY3
/- pack.each. -/
namespace Go.Proofs.YtahpaekiehdejabDoor
open Go.RowKit
set_option linter.unusedSimpArgs false
set_option linter.unusedVariables false
theorem Kx.of_grown {B : Nat} {w w' : World} (h : w.grownBy w' none) : Kx B w w' :=
  ⟨h.os, h.tape, h.output, h.size, fun k o hk _ => (h.block k (Array.getElem?_eq_some_iff.1 hk).1 (by simp)).trans hk⟩
/-- A taker of entries: a closure over what lies there. -/
structure Tkr (B F : Nat) (cs : Array Value) (tk : List Ent → Ent → Bool) (E : List Ent → World → Prop) : Prop where
  enter : ∀ args u, (callFunc F args).run Tryd.prog u = .ok (.enter F args) u
  keep : ∀ l w w', E l w → Kx B w w' → E l w'
  lst : ∀ l w, E l w → Lst w
  size : ∀ l w, E l w → B ≤ w.heap.size
  few : ∀ l e, l.length ≤ 65536 → tk l e = true → l.length < 65536
  hand : ∀ l e w, E l w → e.id.size = 32 → l.length ≤ 65536 → Calls Tryd.prog F (#[.agg (enC e)] ++ cs) w fun r w' => r = .returned (.bool (tk l e)) ∧ E (if tk l e = true then l ++ [e] else l) w'
theorem ret_s11 {a b : ByteArray} (h : b = a) : Ending.returned (.string a) = .returned (.string b) := by rw [h]
def szV : Value → Nat
  | .string x => x.size
  | _ => 0
theorem nmO_size (o : Ob) : (nmO o).size = 32 := sha_size _
theorem of_nm (o : Ob) (w : World) (hp : o.p.size ≤ 140737488355328) (hL : Lst w) :
    Calls Tryd.prog 46 #[.int .u8 (o.k.toNat : Int), .string o.p] w fun e w' => e = .returned (.agg (idc (nmO o))) ∧ Below w.heap.size w w' := by
  have := of_big o.k.toNat o.p w o.k.toNat_lt hp hL
  rw [shc_idc] at this
  exact this
theorem Rn.few {tk : List Ent → Ent → Bool} {s : ByteArray} {a : Nat} {l : List Ent} (h : Rn tk s a l) (hf : ∀ l e, l.length ≤ 65536 → tk l e = true → l.length < 65536) : l.length ≤ 65536 := by
  induction h with
  | z => simp
  | st h1 h2 h3 ih => have := hf _ _ ih h3; rw [List.length_append, List.length_singleton]; omega
theorem frmO_step (s : ByteArray) (a : Nat) (h : atB (frmO s a) = true) : ufR (frmO s a) = frmO s (a + 9 + (enA s a).sz) := by
  obtain ⟨_, h2, _⟩ := at_fits h
  rw [h2]
  have e : a + 9 + (enA s a).sz = a + (9 + (atO (frmO s a)).p.size) := by simp only [enA]; rw [Nat.add_assoc]
  rw [e]
  generalize 9 + (atO (frmO s a)).p.size = z
  apply bl_inj
  rw [bl_frmO, bl_frmO, bl_frmO, List.drop_drop]
set_option maxHeartbeats 2000000 in
set_option maxRecDepth 100000 in
theorem each_any (B F : Nat) (cs : Array Value) (tk : List Ent → Ent → Bool) (E : List Ent → World → Prop) (T : Tkr B F cs tk E) (s : ByteArray) (w : World) (hs : s.size ≤ 140737488355328) (h4 : 4 ≤ s.size) (hE : E [] w) :
    Calls Tryd.prog 53 #[.string s, .func (.func F) #[] cs] w fun r w' => ∃ a l, r = .returned (.string (frmO s a)) ∧ Stk tk s a l ∧ E l w' := by
  have HT : Hid (Tkr B F cs tk E) := T
  have HE : Hid (E [] w) := hE
  have h4z : (4 : Int) ≤ (s.size : Int) := by omega
  obtain ⟨r0, hr0⟩ : ∃ r, r = frmO s 4 := ⟨_, rfl⟩
  have hx : s.extract 4 s.size = r0 := by rw [hr0]; rfl
  have HR0 : Hid (r0 = frmO s 4) := hr0
  clear T hE hr0
  go_enter Tryd.func53, Tryd.ntmps53
  go_wp2
  clear hx
  go_loopw [4] (fun v wr => ∃ (a : Nat) (l : List Ent) (r : ByteArray), v = .string r ∧ Hid (r = frmO s a ∧ Rn tk s a l ∧ E l wr)) (fun v _ => szV v)
  case atStart => exact ⟨4, [], r0, rfl, HR0.out, .z, HE.out⟩
  case round =>
    obtain ⟨a, l, r, rfl, HR⟩ := hrel
    have hle := HR.out.2.1.le h4
    have hrz : r.size = s.size - a := by rw [HR.out.1, frmO_size]
    have hrs : r.size ≤ 140737488355328 := by omega
    go_wp2_with fail
    refine (first_any r _ (by unfold maxLen; omega)).mono ?_
    rintro e w1 ⟨rfl, hb1⟩
    have hE1 : E l w1 := HT.out.keep _ _ _ HR.out.2.2 (Kx.of hb1)
    cases hat : atB r with
    | false =>
      obtain ⟨q1, q2, q3, q4⟩ := ft_no hat
      rw [q1, q2, q3, q4]
      have HA : Hid (atB r = false) := hat
      have H1 : Hid (E l w1) := hE1
      clear q1 q2 q3 q4 hat hE1 hb1
      go_wp2
      go_ret
      refine ⟨a, l, ret_s11 HR.out.1.symm, ⟨HR.out.2.1, fun h => ?_⟩, HT.out.keep _ _ _ H1.out (Kx.of ((Below.refl _ _).alloc (Nat.le_refl _) _))⟩
      rw [← HR.out.1, HA.out] at h
      cases h.1
    | true =>
      obtain ⟨q1, q2, q3⟩ := ft_yes hat
      rw [q1, q2, q3]
      have HA : Hid (atB r = true) := hat
      have hfit := at_fits hat
      obtain ⟨o, ho⟩ : ∃ o, o = atO r := ⟨_, rfl⟩
      obtain ⟨bh, hbh⟩ : ∃ bh, bh = ufR r := ⟨_, rfl⟩
      rw [← ho] at hfit
      rw [← ho, ← hbh]
      have HO : Hid (o = atO r) := ho
      have HH : Hid (bh = ufR r) := hbh
      have hbz : bh.size < r.size := by rw [hbh, hfit.2.1, frmO_size]; omega
      have hpz : o.p.size ≤ 2097152 := hfit.2.2
      clear q1 q2 q3 hat hfit ho hbh
      obtain ⟨k, p⟩ := o
      simp only at hpz ⊢
      have hb1' : Bk (w1.alloc (.cells #[.int .u8 (k.toNat : Int), .string p] 41)) w1.heap.size #[.int .u8 (k.toNat : Int), .string p] 41 := bk_new _ _ _
      have hE2 : E l (w1.alloc (.cells #[.int .u8 (k.toNat : Int), .string p] 41)) := HT.out.keep _ _ _ hE1 (Kx.of ((Below.refl _ _).alloc (Nat.le_refl _) _))
      have HOF : Hid (Calls Tryd.prog 46 #[.int .u8 (k.toNat : Int), .string p] (w1.alloc (.cells #[.int .u8 (k.toNat : Int), .string p] 41)) fun e w' => e = .returned (.agg (idc (nmO ⟨k, p⟩))) ∧ Hid (E l w' ∧ Bk w' w1.heap.size #[.int .u8 (k.toNat : Int), .string p] 41 ∧ w1.heap.size < w'.heap.size)) :=
        (of_nm ⟨k, p⟩ _ (by simp only; omega) (HT.out.lst _ _ hE2)).mono fun e w' h => ⟨h.1, HT.out.keep _ _ _ hE2 (Kx.of h.2), hb1'.below h.2 hb1'.lt, Nat.lt_of_lt_of_le hb1'.lt h.2.size⟩
      have hoff : (s.size : Int) - (r.size : Int) = (a : Int) := by omega
      obtain ⟨x, hx⟩ : ∃ x, x = nmO ⟨k, p⟩ := ⟨_, rfl⟩
      rw [← hx] at HOF
      have hxz : x.size = 32 := by rw [hx]; exact nmO_size _
      have HX : Hid (enA s a = ⟨x, k, a, p.size⟩) := by
        show enA s a = _
        simp only [enA, ← HR.out.1, ← HO.out, hx]
      have hi32 : (Tryd.prog.info? 29).map (·.size) = some (idc x).size := info_32 (by rw [idc_size, hxz])
      have hiz : z32c.size = (idc x).size := by rw [idc_size, hxz]; exact z32c_size
      have hbe := build_en ⟨x, k, a, p.size⟩ hxz
      simp only at hbe
      have hfew := HR.out.2.1.few HT.out.few
      have HHD : Hid (∀ u, E l u → Calls Tryd.prog F (#[.agg (enC ⟨x, k, a, p.size⟩)] ++ cs) u fun r w' => r = .returned (.bool (tk l ⟨x, k, a, p.size⟩)) ∧ E (if tk l ⟨x, k, a, p.size⟩ = true then l ++ [⟨x, k, a, p.size⟩] else l) w') :=
        fun u hu => HT.out.hand l ⟨x, k, a, p.size⟩ u hu hxz hfew
      have HRZ : Hid (r.size = s.size - a) := hrz
      clear hx hE1 hE2 hb1 hb1' hfew hrz
      go_wp2_with (first
        | (go_at_call 46; refine HOF.out.mono ?_; rintro e w2 ⟨rfl, H2⟩)
        | (refine wpList_store_abs rfl 29 (.tmp 8) (.tmp 24) rfl (idc x) z32c 29 w2.heap.size rfl rfl rfl hi32 hiz (idc_all x) ?_; intro w3 HBk HG hsz3; have HK : Hid (Bk w3 w2.heap.size (idc x) 29) := HBk.out; have hk3 : Bk w3 w1.heap.size #[.int .u8 (k.toNat : Int), .string p] 41 := H2.out.2.1.grown HG.out (by simp); have z0 : w3.cell? ⟨w1.heap.size, 0, none⟩ = some (.int .u8 (k.toNat : Int)) := by { rw [hk3.cell]; rfl }; have z1 : w3.cell? ⟨w1.heap.size, 1, none⟩ = some (.string p) := by { rw [hk3.cell]; rfl }; clear hk3)
        | (refine wpList_get rfl 29 (.tmp 8) rfl w2.heap.size 0 (idc x) (idc x) 29 _ rfl HK.out (fun j u hu => by rw [Nat.zero_add]; exact hu) Tryd.underlying29 rfl hi32 ?_)
        | (refine wpList_bdR rfl 74 (.tmp 26) (.tmp 28) (.tmp 33) (.tmp 36) rfl (.agg (idc x)) (.int .u8 (k.toNat : Int)) (.int .i64 (a : Int)) (.int .i64 (p.size : Int)) (.agg (enC ⟨x, k, a, p.size⟩)) rfl rfl rfl rfl (hbe _) ?_)
        | fail)
      rw [HT.out.enter, Oper.upon_enter]
      have hE3 : E l w3 := HT.out.keep _ _ _ H2.out.1 (Kx.of_grown HG.out)
      refine Calls.mono (HHD.out w3 hE3) ?_
      rintro e w4 ⟨rfl, hE4⟩
      cases htk : tk l ⟨x, k, a, p.size⟩ with
      | true =>
        rw [htk, if_pos rfl] at hE4
        have H4 : Hid (E (l ++ [⟨x, k, a, p.size⟩]) w4) := hE4
        have HTK : Hid (tk l ⟨x, k, a, p.size⟩ = true) := htk
        clear hE4 htk hE3
        go_wp2
        go_roundw
        case rel =>
          refine ⟨a + 9 + (enA s a).sz, l ++ [enA s a], bh, rfl, ?_, ?_, ?_⟩
          · rw [HH.out, HR.out.1]; exact frmO_step s a (by rw [← HR.out.1]; exact HA.out)
          · exact .st HR.out.2.1 (by rw [← HR.out.1]; exact HA.out) (by rw [HX.out]; exact HTK.out)
          · rw [HX.out]; exact H4.out
        case measure => simp only [szV]; exact hbz
      | false =>
        rw [htk, if_neg (by simp)] at hE4
        have H4 : Hid (E l w4) := hE4
        have HTK : Hid (tk l ⟨x, k, a, p.size⟩ = false) := htk
        clear hE4 htk hE3
        go_wp2
        go_ret
        refine ⟨a, l, ret_s11 HR.out.1.symm, ⟨HR.out.2.1, fun h => ?_⟩, H4.out⟩
        rw [HX.out, HTK.out] at h
        cases h.2
end Go.Proofs.YtahpaekiehdejabDoor
/- strings.HasPrefix at the Mark; pack.Salvage, Scan. -/
namespace Go.Proofs.YtahpaekiehdejabDoor
open Go.RowKit
set_option linter.unusedSimpArgs false
set_option linter.unusedVariables false
/-- The Mark; whether it stands at the front. -/
def mkB : ByteArray := ⟨#[109, 112, 107, 49]⟩
def pmB (s : ByteArray) : Bool := decide (4 ≤ s.size ∧ (bl s).take 4 = mk4)
theorem pmB_yes {s : ByteArray} (h : 4 ≤ s.size) (h2 : s.extract 0 4 = mkB) : pmB s = true := by
  have : (bl s).take 4 = mk4 := by rw [← extract_take s 4 h, h2]; rfl
  simp [pmB, h, this]
theorem pmB_ne {s : ByteArray} (h : 4 ≤ s.size) (h2 : s.extract 0 4 ≠ mkB) : pmB s = false := by
  simp only [pmB, decide_eq_false_iff_not]
  rintro ⟨_, h3⟩
  apply h2
  apply bl_inj
  rw [extract_take s 4 h, h3]; rfl
theorem str_ne {x y : ByteArray} (h : x ≠ y) : (x.toList == y.toList) = false := by
  rw [beq_eq_false_iff_ne, Lib.toList_data, Lib.toList_data]
  intro e
  exact h (bl_inj e)
set_option maxHeartbeats 1000000 in
theorem hasP (s : ByteArray) (w : World) (hs : s.size ≤ maxLen) :
    Calls Tryd.prog 86 #[.string s, .string mkB] w fun e w' => e = .returned (.bool (pmB s)) ∧ w' = w := by
  unfold maxLen at hs
  have hmz : mkB.size = 4 := rfl
  by_cases h4 : 4 ≤ s.size
  · have h4z : (4 : Int) ≤ (s.size : Int) := by omega
    obtain ⟨x, hx⟩ : ∃ x, s.extract 0 4 = x := ⟨_, rfl⟩
    by_cases he : x = mkB
    · subst he
      have HE : Hid (pmB s = true) := pmB_yes h4 hx
      go_enter Tryd.func86, Tryd.ntmps86
      go_wp2
      go_ret
      exact ⟨ret_b11 HE.out, rfl⟩
    · have HE : Hid (pmB s = false) := pmB_ne h4 (by rw [hx]; exact he)
      have hne := str_ne he
      clear he
      go_enter Tryd.func86, Tryd.ntmps86
      go_wp2
      go_ret
      exact ⟨ret_b11 HE.out, rfl⟩
  · have h4z : ¬ (4 : Int) ≤ (s.size : Int) := by omega
    have HE : Hid (pmB s = false) := by show pmB s = false; simp [pmB, h4]
    go_enter Tryd.func86, Tryd.ntmps86
    go_wp2
    go_ret
    exact ⟨ret_b11 HE.out, rfl⟩
set_option maxHeartbeats 1000000 in
theorem hasPrefix11 (s : ByteArray) (w : World) (hs : s.size ≤ maxLen) :
    Calls Tryd.prog 52 #[.string s, .string mkB] w fun e w' => e = .returned (.bool (pmB s)) ∧ w' = w := by
  go_enter Tryd.func52, Tryd.ntmps52
  go_wp2_with fail
  refine (hasP s _ hs).mono ?_
  rintro e w1 ⟨rfl, hw⟩
  obtain rfl : w = w1 := hw.symm
  go_wp2
  go_ret
  exact ⟨rfl, rfl⟩
/-- What Salvage tells. -/
def SvA (s : ByteArray) (l : List Ent) : Prop := (pmB s = false ∧ l = []) ∨ (pmB s = true ∧ ∃ a, Stk tkA s a l)
/-- What Scan tells. -/
def PkO (s : ByteArray) (l : List Ent) : Prop := s.size ≤ 67108864 ∧ pmB s = true ∧ ∃ a, Stk tkS s a l ∧ frmO s a = trl l.length
def ScA (s : ByteArray) (l : List Ent) (er : Int) : Prop := (er = 0 ∧ PkO s l) ∨ (er = 4 ∧ l = [] ∧ ∀ m, ¬ PkO s m)
theorem pm4 {s : ByteArray} (h : pmB s = true) : 4 ≤ s.size := by simp [pmB] at h; exact h.1
theorem SvS.start (w : World) (hL : Lst w) : SvS w w.heap.size [] (w.alloc (.cells #[.slice none 0 0] 56)) :=
  ⟨⟨_, bk_new _ _ _, rows_none⟩, Nat.le_refl _, (Below.refl _ _).alloc (Nat.le_refl _) _, hL⟩
theorem salvT (w : World) (lb : Nat) : Tkr w.heap.size 55 #[.pointer (some ⟨lb, 0, none⟩)] tkA (SvS w lb) where
  enter := fun args u => by
    have h1 : (Tryd.f55.name == "runtime.NumGoroutine") = false := by decide +kernel
    have h2 : Tryd.f55.body.isNone = false := by kernel_rfl
    simp at h1 h2
    simp [callFunc, go_sem, Tryd.func55, h1, h2]
    intro h; rw [h] at h2; cases h2
  keep := fun l a b h k => h.keep k
  lst := fun l a h => h.all
  size := fun l a h => h.bel.size
  few := fun l e h1 h => by
    have : ¬ l.length = 65536 := by simpa [tkA] using h
    omega
  hand := fun l e u h he hl => salv1 w lb l e u h he hl
set_option maxHeartbeats 1000000 in
theorem salvage_any (s : ByteArray) (w : World) (hs : s.size ≤ 140737488355328) (hL : Lst w) :
    Calls Tryd.prog 18 #[.string s] w fun e w' => ∃ l v, e = .returned v ∧ SvA s l ∧ w'.ownsRow w.heap.size 74 35 v l.length (env l) ∧ Below w.heap.size w w' := by
  have HL : Hid (Lst w) := hL
  have hmk : (⟨#[109, 112, 107, 49]⟩ : ByteArray) = mkB := rfl
  clear hL
  go_enter Tryd.func18, Tryd.ntmps18
  go_wp2_with fail
  refine (hasPrefix11 s _ (by unfold maxLen; omega)).mono ?_
  rintro e w1 ⟨rfl, hw⟩
  obtain rfl : w = w1 := hw.symm
  cases hp : pmB s with
  | false =>
    have HP : Hid (pmB s = false) := hp
    clear hp
    go_wp2
    go_ret
    exact ⟨[], _, rfl, .inl ⟨HP.out, rfl⟩, rows_none, Below.refl _ _⟩
  | true =>
    have HP : Hid (pmB s = true) := hp
    clear hp
    go_wp2_with fail
    refine (each_any w.heap.size 55 _ tkA (SvS w w.heap.size) (salvT w w.heap.size) s _ hs (pm4 HP.out) (SvS.start w HL.out)).mono ?_
    rintro e w2 ⟨a, l, rfl, hst, hS⟩
    obtain ⟨v, hb, hr⟩ := hS.row
    have c0 : w2.cell? ⟨w.heap.size, 0, none⟩ = some v := by rw [hb.cell]; rfl
    have HST : Hid (Stk tkA s a l) := hst
    have HS : Hid (SvS w w.heap.size l w2) := hS
    have HR : Hid (w2.ownsRow w.heap.size 74 35 v l.length (env l)) := hr
    clear hst hS hb hr
    go_wp2
    go_ret
    exact ⟨l, _, rfl, .inr ⟨HP.out, a, HST.out⟩, HR.out, HS.out.bel⟩
theorem ScS.start (w w1 : World) (hL : Lst w) (hb : Below w.heap.size w w1) : ScS w w1.heap.size (w1.heap.size + 1 + 1) (w1.heap.size + 1) [] (((w1.alloc (.cells #[.slice none 0 0] 56)).alloc (.map #[] 0)).alloc (.cells #[.map (some (w1.heap.size + 1))] 92)) := by
  have s1 : (w1.alloc (.cells #[.slice none 0 0] 56)).heap.size = w1.heap.size + 1 := al_size _ _
  have s2 : ((w1.alloc (.cells #[.slice none 0 0] 56)).alloc (.map #[] 0)).heap.size = w1.heap.size + 1 + 1 := by rw [al_size, s1]
  have hz := hb.size
  have b3 := bk_new ((w1.alloc (.cells #[.slice none 0 0] 56)).alloc (.map #[] 0)) #[.map (some (w1.heap.size + 1))] 92
  rw [s2] at b3
  have b2 := St.made (fun v => v = .agg #[]) (w1.alloc (.cells #[.slice none 0 0] 56))
  rw [s1] at b2
  refine ⟨⟨⟨_, ((bk_new w1 _ _).alloc _).alloc _, rows_none⟩, hz, ((hb.alloc hz _).alloc (by rw [s1]; omega) _).alloc (by rw [s2]; omega) _, hL⟩, b3, b2.alloc _, by omega⟩
theorem scanT (w : World) (lb mb m : Nat) : Tkr w.heap.size 54 #[.pointer (some ⟨mb, 0, none⟩), .pointer (some ⟨lb, 0, none⟩)] tkS (ScS w lb mb m) where
  enter := fun args u => by
    have h1 : (Tryd.f54.name == "runtime.NumGoroutine") = false := by decide +kernel
    have h2 : Tryd.f54.body.isNone = false := by kernel_rfl
    simp at h1 h2
    simp [callFunc, go_sem, Tryd.func54, h1, h2]
    intro h; rw [h] at h2; cases h2
  keep := fun l a b h k => h.keep k
  lst := fun l a h => h.sv.all
  size := fun l a h => h.sv.bel.size
  few := fun l e h1 h => by
    have : ¬ l.length = 65536 := by simp [tkS] at h; exact h.2
    omega
  hand := fun l e u h he hl => scan1 w lb mb m l e u h he hl
set_option maxHeartbeats 1000000 in
set_option maxRecDepth 100000 in
theorem scan_any (s : ByteArray) (w : World) (hs : s.size ≤ 140737488355328) (hL : Lst w) :
    Calls Tryd.prog 16 #[.string s] w fun e w' => ∃ l v er, e = .returned (.tuple #[v, .int .i64 er]) ∧ ScA s l er ∧ w'.ownsRow w.heap.size 74 35 v l.length (env l) ∧ Below w.heap.size w w' := by
  have HL : Hid (Lst w) := hL
  have hmk : (⟨#[109, 112, 107, 49]⟩ : ByteArray) = mkB := rfl
  clear hL
  by_cases hbig : 67108864 < s.size
  · have hbz : (67108864 : Int) < (s.size : Int) := by omega
    have HN : Hid (∀ m, ¬ PkO s m) := fun m h => by have := h.1; omega
    go_enter Tryd.func16, Tryd.ntmps16
    go_wp2
    go_ret2
    exact ⟨[], _, 4, rfl, .inr ⟨rfl, rfl, HN.out⟩, rows_none, Below.refl _ _⟩
  have hbz : ¬ (67108864 : Int) < (s.size : Int) := by omega
  have HSZ : Hid (s.size ≤ 67108864) := by show s.size ≤ 67108864; omega
  have H1 := fun W => hasPrefix11 s W (by unfold maxLen; omega)
  cases hp : pmB s with
  | false =>
    rw [hp] at H1
    have HN : Hid (∀ m, ¬ PkO s m) := fun m h => by have := h.2.1; rw [hp] at this; cases this
    clear hp hbig
    go_enter Tryd.func16, Tryd.ntmps16
    go_wp2_with fail
    refine (H1 _).mono ?_
    rintro e w1 ⟨rfl, hw⟩
    obtain rfl : w = w1 := hw.symm
    go_wp2
    go_ret2
    exact ⟨[], _, 4, rfl, .inr ⟨rfl, rfl, HN.out⟩, rows_none, Below.refl _ _⟩
  | true =>
    rw [hp] at H1
    have HP : Hid (pmB s = true) := hp
    have HS0 : Hid (ScS w w.heap.size (w.heap.size + 1 + 1) (w.heap.size + 1) [] (((w.alloc (.cells #[.slice none 0 0] 56)).alloc (.map #[] 0)).alloc (.cells #[.map (some (w.heap.size + 1))] 92))) := ScS.start w w HL.out (Below.refl _ _)
    clear hp hbig
    have hmm := @run_makeMap Tryd.prog
    go_enter Tryd.func16, Tryd.ntmps16
    go_wp2_with fail
    refine (H1 _).mono ?_
    rintro e w1 ⟨rfl, hw⟩
    obtain rfl : w = w1 := hw.symm
    clear H1
    go_wp2_with fail
    refine (each_any w.heap.size 54 _ tkS (ScS w w.heap.size (w.heap.size + 1 + 1) (w.heap.size + 1)) (scanT w w.heap.size (w.heap.size + 1 + 1) (w.heap.size + 1)) s _ hs (pm4 HP.out) HS0.out).mono ?_
    rintro e w2 ⟨a, l, rfl, hst, hS⟩
    obtain ⟨v, hb, hr⟩ := hS.sv.row
    obtain ⟨ad, cp, hv⟩ := row_slice hr
    subst hv
    have c0 : w2.cell? ⟨w.heap.size, 0, none⟩ = some (.slice ad l.length cp) := by rw [hb.cell]; rfl
    have hle := hst.1.le (pm4 HP.out)
    have hll : l.length < 9223372036854775808 := by omega
    obtain ⟨R, hR⟩ : ∃ R, R = frmO s a := ⟨_, rfl⟩
    rw [← hR]
    obtain ⟨n, hn⟩ : ∃ n, n = l.length := ⟨_, rfl⟩
    rw [← hn] at c0 hr hll
    have HST : Hid (Stk tkS s a l) := hst
    have HR : Hid (R = frmO s a) := hR
    have HN : Hid (n = l.length) := hn
    have HS : Hid (ScS w w.heap.size (w.heap.size + 1 + 1) (w.heap.size + 1) l w2) := hS
    have HO : Hid (w2.ownsRow w.heap.size 74 35 (.slice ad n cp) n (env l)) := hr
    clear hst hS hr hle hR hn HS0
    go_wp2_with fail
    refine (trailer_any n _ hll).mono ?_
    rintro e w3 ⟨rfl, hb3⟩
    have hbk3 := hb.below hb3 hb.lt
    have c3 : w3.cell? ⟨w.heap.size, 0, none⟩ = some (.slice ad n cp) := by rw [hbk3.cell, HN.out]; rfl
    have HB3 : Hid (Below w.heap.size w w3) := HS.out.sv.bel.trans (hb3.mono HS.out.sv.bel.size)
    have HO3 : Hid (w3.ownsRow w.heap.size 74 35 (.slice ad n cp) n (env l)) := rows_keep HO.out (fun g _ hg => hb3.block g hg)
    obtain ⟨t, ht⟩ : ∃ t, t = trl n := ⟨_, rfl⟩
    rw [← ht]
    have HTR : Hid (t = trl n) := ht
    clear hb hb3 hbk3 ht
    by_cases he : R = t
    · subst he
      go_wp2
      go_ret2
      refine ⟨l, _, 0, rfl, .inl ⟨rfl, HSZ.out, HP.out, a, HST.out, ?_⟩, ?_, HB3.out⟩
      · rw [← HR.out, HTR.out, HN.out]
      · rw [← HN.out]; exact HO3.out
    · have hne := str_ne he
      have HE : Hid (¬ R = t) := he
      clear he
      go_wp2
      go_ret2
      refine ⟨[], _, 4, rfl, .inr ⟨rfl, rfl, ?_⟩, rows_none, HB3.out⟩
      rintro m ⟨_, _, a', hs', he'⟩
      obtain ⟨rfl, rfl⟩ := HST.out.one hs'
      apply HE.out
      rw [HR.out, HTR.out, HN.out, he']
end Go.Proofs.YtahpaekiehdejabDoor
/- pack.Span, Read, One. -/
namespace Go.Proofs.YtahpaekiehdejabDoor
open Go.RowKit
set_option linter.unusedSimpArgs false
set_option linter.unusedVariables false
set_option maxHeartbeats 1000000 in
set_option maxRecDepth 100000 in
theorem span_any (e : Ent) (w : World) (he : e.id.size = 32) (ho : e.off ≤ 140737488355328) (hz : e.sz ≤ 140737488355328) :
    Calls Tryd.prog 25 #[.agg (enC e)] w fun r w' => r = .returned (.tuple #[.int .i64 (e.off : Int), .int .i64 (9 + (e.sz : Int))]) ∧ Below w.heap.size w w' := by
  have hb : Bk (w.alloc (.cells (enC e) 74)) w.heap.size (enC e) 74 := bk_new _ _ _
  obtain ⟨_, q1, q2⟩ := enC_at e he
  have c1 : (w.alloc (.cells (enC e) 74)).cell? ⟨w.heap.size, 33, none⟩ = some (.int .i64 (e.off : Int)) := by rw [hb.cell]; exact q1
  have c2 : (w.alloc (.cells (enC e) 74)).cell? ⟨w.heap.size, 34, none⟩ = some (.int .i64 (e.sz : Int)) := by rw [hb.cell]; exact q2
  have HB : Hid (Below w.heap.size w (w.alloc (.cells (enC e) 74))) := (Below.refl _ _).alloc (Nat.le_refl _) _
  clear hb q1 q2
  generalize enC e = C at c1 c2 HB ⊢
  obtain ⟨i, k, a, n⟩ := e
  simp only at c1 c2 ho hz ⊢
  have g1 : ¬ (9223372036854775798 : Int) < (n : Int) := by omega
  go_enter Tryd.func25, Tryd.ntmps25
  go_wp2
  go_region
  go_wp2
  go_ret2
  exact ⟨rfl, HB.out.drew⟩
/-- What Read tells. -/
def rdO (s : ByteArray) (off : Int) : Ob := if 0 ≤ off ∧ off ≤ s.size then ftO (frmO s off.toNat) else ⟨0, ⟨#[]⟩⟩
def rdE (s : ByteArray) (off : Int) : Int := if 0 ≤ off ∧ off ≤ s.size then ftE (frmO s off.toNat) else 1
theorem ret_oe {o : Ob} {k : Int} {p : ByteArray} {e e' : Int} (h : (o.k.toNat : Int) = k ∧ o.p = p ∧ e' = e) :
    Ending.returned (.tuple #[.agg #[.int .u8 k, .string p], .int .i64 e]) = .returned (.tuple #[.agg #[.int .u8 (o.k.toNat : Int), .string o.p], .int .i64 e']) := by
  obtain ⟨h1, h2, h3⟩ := h
  rw [h1, h2, h3]
theorem ftO_size (s : ByteArray) : (ftO s).p.size ≤ 2097152 := by
  unfold ftO
  split
  · rename_i h; exact (at_fits h).2.2
  · exact Nat.zero_le _
set_option maxHeartbeats 1000000 in
set_option maxRecDepth 100000 in
theorem read_any (s : ByteArray) (off : Int) (w : World) (hs : s.size ≤ 140737488355328) :
    Calls Tryd.prog 20 #[.string s, .int .i64 off] w fun r w' => r = .returned (.tuple #[.agg #[.int .u8 ((rdO s off).k.toNat : Int), .string (rdO s off).p], .int .i64 (rdE s off)]) ∧ Below w.heap.size w w' := by
  have hb0 : Bk (w.alloc (.cells #[.int .u8 0, .string ⟨#[]⟩] 41)) w.heap.size #[.int .u8 0, .string ⟨#[]⟩] 41 := bk_new _ _ _
  have HB0 : Hid (Below w.heap.size w (w.alloc (.cells #[.int .u8 0, .string ⟨#[]⟩] 41))) := (Below.refl _ _).alloc (Nat.le_refl _) _
  have HK0 : Hid (Bk (w.alloc (.cells #[.int .u8 0, .string ⟨#[]⟩] 41)) w.heap.size #[.int .u8 0, .string ⟨#[]⟩] 41) := hb0
  clear hb0
  by_cases h1 : off < 0
  · have HR : Hid (((rdO s off).k.toNat : Int) = 0 ∧ (rdO s off).p = ⟨#[]⟩ ∧ rdE s off = 1) := by
      show _ ∧ _
      rw [rdO, rdE, if_neg (by omega), if_neg (by omega)]; exact ⟨rfl, rfl, rfl⟩
    go_enter Tryd.func20, Tryd.ntmps20
    go_wp2
    refine bodyPost_ret (res_cell_tmp (u := 5) rfl _ _ w.heap.size 41 #[.int .u8 0, .string ⟨#[]⟩] (0, 0) _ rfl (bk_new _ _ _) Tryd.underlying41 rfl inf_ob) rfl ⟨ret_oe HR.out, ?_⟩
    exact HB0.out
  by_cases h2 : (s.size : Int) < off
  · have HR : Hid (((rdO s off).k.toNat : Int) = 0 ∧ (rdO s off).p = ⟨#[]⟩ ∧ rdE s off = 1) := by
      show _ ∧ _
      rw [rdO, rdE, if_neg (by omega), if_neg (by omega)]; exact ⟨rfl, rfl, rfl⟩
    go_enter Tryd.func20, Tryd.ntmps20
    go_wp2
    refine bodyPost_ret (res_cell_tmp (u := 5) rfl _ _ w.heap.size 41 #[.int .u8 0, .string ⟨#[]⟩] (0, 0) _ rfl (bk_new _ _ _) Tryd.underlying41 rfl inf_ob) rfl ⟨ret_oe HR.out, ?_⟩
    exact HB0.out
  obtain ⟨a, rfl⟩ : ∃ a : Nat, off = (a : Int) := ⟨off.toNat, by omega⟩
  have h3 : a ≤ s.size := by omega
  have h3z : (a : Int) ≤ (s.size : Int) := by omega
  have HR : Hid (rdO s (a : Int) = ftO (frmO s a) ∧ rdE s (a : Int) = ftE (frmO s a)) := by
    show _ ∧ _
    rw [rdO, rdE, if_pos (by omega), if_pos (by omega), Int.toNat_natCast]; exact ⟨rfl, rfl⟩
  obtain ⟨x, hx⟩ : ∃ x, s.extract a s.size = x := ⟨_, rfl⟩
  have HX : Hid (x = frmO s a) := hx.symm
  have hxz : x.size ≤ 140737488355328 := by rw [HX.out, frmO_size]; omega
  have hpz := ftO_size x
  clear h1
  go_enter Tryd.func20, Tryd.ntmps20
  go_wp2_with fail
  refine (first_any x _ (by unfold maxLen; omega)).mono ?_
  rintro e w1 ⟨rfl, hb⟩
  have hbk := HK0.out.below hb HK0.out.lt
  have HB1 : Hid (Below w.heap.size w w1) := HB0.out.trans (hb.mono HB0.out.size)
  obtain ⟨k, hk⟩ : ∃ k, k = (ftO x).k := ⟨_, rfl⟩
  obtain ⟨p, hp⟩ : ∃ p, p = (ftO x).p := ⟨_, rfl⟩
  obtain ⟨er, her⟩ : ∃ er, er = ftE x := ⟨_, rfl⟩
  rw [← hk, ← hp, ← her]
  rw [← hp] at hpz
  have HO : Hid (k = (ftO x).k ∧ p = (ftO x).p ∧ er = ftE x) := ⟨hk, hp, her⟩
  have hb2 : Bk (w1.alloc (.cells #[.int .u8 (k.toNat : Int), .string p] 41)) w.heap.size #[.int .u8 0, .string ⟨#[]⟩] 41 := hbk.alloc _
  have HK2 : Hid (Bk (w1.alloc (.cells #[.int .u8 (k.toNat : Int), .string p] 41)) w.heap.size #[.int .u8 0, .string ⟨#[]⟩] 41) := hb2
  have d0 : (w1.alloc (.cells #[.int .u8 (k.toNat : Int), .string p] 41)).cell? ⟨w.heap.size, 0, none⟩ = some (.int .u8 0) := by rw [hb2.cell]; rfl
  have d1 : (w1.alloc (.cells #[.int .u8 (k.toNat : Int), .string p] 41)).cell? ⟨w.heap.size, 1, none⟩ = some (.string ⟨#[]⟩) := by rw [hb2.cell]; rfl
  have f0 := hb2.frozen 0
  have f1 := hb2.frozen 1
  have HB2 : Hid (Below w.heap.size w (w1.alloc (.cells #[.int .u8 (k.toNat : Int), .string p] 41))) := HB1.out.alloc HB1.out.size _
  clear hb hbk hb2 hk hp her
  go_wp2
  refine bodyPost_ret (res_cell_tmp (u := 5) rfl _ _ w.heap.size 41 #[.int .u8 (k.toNat : Int), .string p] (0, 0) _ rfl (st2 HK2.out _ _) Tryd.underlying41 rfl inf_ob) rfl ⟨ret_oe ?_, ?_⟩
  · rw [HR.out.1, HR.out.2, ← HX.out, HO.out.1, HO.out.2.1, HO.out.2.2]; exact ⟨rfl, rfl, rfl⟩
  · exact below_own HB2.out HB2.out.size (gr2 _ _ _ _) (Nat.le_refl _)
theorem str_some {x : ByteArray} (h : x ≠ ⟨#[]⟩) : x.toList.isEmpty = false := by
  rw [Lib.toList_data]
  cases hd : x.data.toList with
  | nil => exact absurd (bl_inj (show bl x = bl ⟨#[]⟩ from hd)) h
  | cons a r => rfl
/-- What One tells. -/
def onO (s : ByteArray) : Ob := if atB s = true ∧ ufR s = ⟨#[]⟩ then atO s else ⟨0, ⟨#[]⟩⟩
def onE (s : ByteArray) : Int := if atB s = true ∧ ufR s = ⟨#[]⟩ then 0 else 4
set_option maxHeartbeats 1000000 in
set_option maxRecDepth 100000 in
theorem one_any (s : ByteArray) (w : World) (hs : s.size ≤ 140737488355328) :
    Calls Tryd.prog 22 #[.string s] w fun r w' => r = .returned (.tuple #[.agg #[.int .u8 ((onO s).k.toNat : Int), .string (onO s).p], .int .i64 (onE s)]) ∧ Below w.heap.size w w' := by
  have HB0 : Hid (Below w.heap.size w (w.alloc (.cells #[.int .u8 0, .string ⟨#[]⟩] 41))) := (Below.refl _ _).alloc (Nat.le_refl _) _
  have HK0 : Hid (Bk (w.alloc (.cells #[.int .u8 0, .string ⟨#[]⟩] 41)) w.heap.size #[.int .u8 0, .string ⟨#[]⟩] 41) := bk_new _ _ _
  go_enter Tryd.func22, Tryd.ntmps22
  go_wp2_with fail
  refine (first_any s _ (by unfold maxLen; omega)).mono ?_
  rintro e w1 ⟨rfl, hb⟩
  have hbk := HK0.out.below hb HK0.out.lt
  have HB1 : Hid (Below w.heap.size w w1) := HB0.out.trans (hb.mono HB0.out.size)
  have hpz := ftO_size s
  obtain ⟨k, hk⟩ : ∃ k, k = (ftO s).k := ⟨_, rfl⟩
  obtain ⟨p, hp⟩ : ∃ p, p = (ftO s).p := ⟨_, rfl⟩
  obtain ⟨R, hR⟩ : ∃ R, R = ftR s := ⟨_, rfl⟩
  rw [← hk, ← hp, ← hR]
  rw [← hp] at hpz
  have HO : Hid (k = (ftO s).k ∧ p = (ftO s).p ∧ R = ftR s) := ⟨hk, hp, hR⟩
  have hb2 : Bk (w1.alloc (.cells #[.int .u8 (k.toNat : Int), .string p] 41)) w.heap.size #[.int .u8 0, .string ⟨#[]⟩] 41 := hbk.alloc _
  have HK2 : Hid (Bk (w1.alloc (.cells #[.int .u8 (k.toNat : Int), .string p] 41)) w.heap.size #[.int .u8 0, .string ⟨#[]⟩] 41) := hb2
  have d0 : (w1.alloc (.cells #[.int .u8 (k.toNat : Int), .string p] 41)).cell? ⟨w.heap.size, 0, none⟩ = some (.int .u8 0) := by rw [hb2.cell]; rfl
  have d1 : (w1.alloc (.cells #[.int .u8 (k.toNat : Int), .string p] 41)).cell? ⟨w.heap.size, 1, none⟩ = some (.string ⟨#[]⟩) := by rw [hb2.cell]; rfl
  have f0 := hb2.frozen 0
  have f1 := hb2.frozen 1
  have HB2 : Hid (Below w.heap.size w (w1.alloc (.cells #[.int .u8 (k.toNat : Int), .string p] 41))) := HB1.out.alloc HB1.out.size _
  clear hb hbk hb2 hk hp hR
  cases hat : atB s with
  | false =>
    have he : ftE s = 4 := (ft_no hat).2.2.2
    rw [he]
    have HN : Hid (((onO s).k.toNat : Int) = 0 ∧ (onO s).p = ⟨#[]⟩ ∧ onE s = 4) := by
      show _ ∧ _
      rw [onO, onE, if_neg (by rw [hat]; simp), if_neg (by rw [hat]; simp)]; exact ⟨rfl, rfl, rfl⟩
    clear hat he
    go_wp2
    refine bodyPost_ret (res_cell_tmp (u := 3) rfl _ _ w.heap.size 41 #[.int .u8 0, .string ⟨#[]⟩] (0, 0) _ rfl (st2 HK2.out _ _) Tryd.underlying41 rfl inf_ob) rfl ⟨ret_oe HN.out, ?_⟩
    exact below_own HB2.out HB2.out.size (gr2 _ _ _ _) (Nat.le_refl _)
  | true =>
    obtain ⟨y1, y2, y3⟩ := ft_yes hat
    rw [y3]
    by_cases hr : R = ⟨#[]⟩
    · have HN : Hid (((onO s).k.toNat : Int) = (k.toNat : Int) ∧ (onO s).p = p ∧ onE s = 0) := by
        show _ ∧ _
        have hc : atB s = true ∧ ufR s = ⟨#[]⟩ := ⟨hat, by rw [← y2, ← HO.out.2.2]; exact hr⟩
        rw [onO, onE, if_pos hc, if_pos hc, HO.out.1, HO.out.2.1, y1]; exact ⟨rfl, rfl, rfl⟩
      subst hr
      clear hat y1 y2 y3
      go_wp2
      refine bodyPost_ret (res_cell_tmp (u := 3) rfl _ _ w.heap.size 41 #[.int .u8 (k.toNat : Int), .string p] (0, 0) _ rfl (st2 HK2.out _ _) Tryd.underlying41 rfl inf_ob) rfl ⟨ret_oe HN.out, ?_⟩
      exact below_own HB2.out HB2.out.size (gr2 _ _ _ _) (Nat.le_refl _)
    · have HN : Hid (((onO s).k.toNat : Int) = 0 ∧ (onO s).p = ⟨#[]⟩ ∧ onE s = 4) := by
        show _ ∧ _
        have hc : ¬ (atB s = true ∧ ufR s = ⟨#[]⟩) := fun h => hr (by rw [HO.out.2.2, y2]; exact h.2)
        rw [onO, onE, if_neg hc, if_neg hc]; exact ⟨rfl, rfl, rfl⟩
      have hem : R.toList.isEmpty = false := str_some hr
      clear hat y1 y2 y3 hr
      go_wp2
      refine bodyPost_ret (res_cell_tmp (u := 3) rfl _ _ w.heap.size 41 #[.int .u8 0, .string ⟨#[]⟩] (0, 0) _ rfl (st2 HK2.out _ _) Tryd.underlying41 rfl inf_ob) rfl ⟨ret_oe HN.out, ?_⟩
      exact below_own HB2.out HB2.out.size (gr2 _ _ _ _) (Nat.le_refl _)
end Go.Proofs.YtahpaekiehdejabDoor
/- The layings of strings.Builder. -/
namespace Go.Proofs.YtahpaekiehdejabDoor
open Go.Shelf
def lays169_ren : Go.Shelf.Ren := ⟨fun | 169 => 48 | n => n, fun | 70 => 108 | 9 => 9 | 0 => 0 | 72 => 110 | 37 => 83 | 127 => 167 | 3 => 3 | 5 => 5 | n => n, fun | n => n⟩
theorem lays169 : Go.Proofs.Lays.n169 Tryd.prog lays169_ren := {
  mixed := by kernel_rfl
  f169 := Tryd.func48.trans (congrArg some (by kernel_rfl))
  t0 := Tryd.underlying0
  a0 := Tryd.isAgg0
  z0 := Tryd.sizeOf0
  v0 := Tryd.zeroValue0
  t3 := Tryd.underlying3
  a3 := Tryd.isAgg3
  z3 := Tryd.sizeOf3
  v3 := Tryd.zeroValue3
  t9 := Tryd.underlying9
  a9 := Tryd.isAgg9
  z9 := Tryd.sizeOf9
  v9 := Tryd.zeroValue9
  t37 := Tryd.underlying83
  a37 := Tryd.isAgg83
  z37 := Tryd.sizeOf83
  v37 := Tryd.zeroValue83
  t70 := Tryd.underlying108
  a70 := Tryd.isAgg108
  z70 := Tryd.sizeOf108
  v70 := Tryd.zeroValue108
  t72 := Tryd.underlying110
  a72 := Tryd.isAgg110
  z72 := Tryd.sizeOf110
  v72 := Tryd.zeroValue110
  t127 := Tryd.underlying167
  a127 := Tryd.isAgg167
  z127 := Tryd.sizeOf167
  v127 := Tryd.zeroValue167 }
def lays166_ren : Go.Shelf.Ren := ⟨fun | 166 => 43 | 240 => 76 | 276 => 101 | n => n, fun | 0 => 0 | 3 => 3 | 4 => 4 | 5 => 5 | 9 => 9 | 20 => 20 | 37 => 83 | 70 => 108 | 72 => 110 | 75 => 112 | 164 => 182 | 80 => 121 | n => n, fun | n => n⟩
theorem lays166 : Go.Proofs.Lays.n166 Tryd.prog lays166_ren := {
  mixed := by kernel_rfl
  f166 := Tryd.func43.trans (congrArg some (by kernel_rfl))
  f240 := Tryd.func76.trans (congrArg some (by kernel_rfl))
  f276 := Tryd.func101.trans (congrArg some (by kernel_rfl))
  t0 := Tryd.underlying0
  a0 := Tryd.isAgg0
  z0 := Tryd.sizeOf0
  v0 := Tryd.zeroValue0
  t3 := Tryd.underlying3
  a3 := Tryd.isAgg3
  z3 := Tryd.sizeOf3
  v3 := Tryd.zeroValue3
  t4 := Tryd.underlying4
  a4 := Tryd.isAgg4
  z4 := Tryd.sizeOf4
  v4 := Tryd.zeroValue4
  t9 := Tryd.underlying9
  a9 := Tryd.isAgg9
  z9 := Tryd.sizeOf9
  v9 := Tryd.zeroValue9
  t20 := Tryd.underlying20
  a20 := Tryd.isAgg20
  z20 := Tryd.sizeOf20
  v20 := Tryd.zeroValue20
  t37 := Tryd.underlying83
  a37 := Tryd.isAgg83
  z37 := Tryd.sizeOf83
  v37 := Tryd.zeroValue83
  t70 := Tryd.underlying108
  a70 := Tryd.isAgg108
  z70 := Tryd.sizeOf108
  v70 := Tryd.zeroValue108
  t72 := Tryd.underlying110
  a72 := Tryd.isAgg110
  z72 := Tryd.sizeOf110
  v72 := Tryd.zeroValue110
  t75 := Tryd.underlying112
  a75 := Tryd.isAgg112
  z75 := Tryd.sizeOf112
  v75 := Tryd.zeroValue112
  t164 := Tryd.underlying182
  a164 := Tryd.isAgg182
  z164 := Tryd.sizeOf182
  v164 := Tryd.zeroValue182 }
theorem extra166 : Builder.Extra Tryd.prog lays166_ren := {
  sizeBuilder := by kernel_rfl
  liesBuilder := by kernel_rfl
  t5 := Tryd.underlying5
  a5 := Tryd.isAgg5
  z5 := Tryd.sizeOf5
  v5 := Tryd.zeroValue5
  infoByte := by kernel_rfl
  cellsByte := by kernel_rfl
  sizeByte := by kernel_rfl
  neB5 := by decide }
theorem extra169 : Builder.Extra Tryd.prog lays169_ren := {
  sizeBuilder := by kernel_rfl
  liesBuilder := by kernel_rfl
  t5 := Tryd.underlying5
  a5 := Tryd.isAgg5
  z5 := Tryd.sizeOf5
  v5 := Tryd.zeroValue5
  infoByte := by kernel_rfl
  cellsByte := by kernel_rfl
  sizeByte := by kernel_rfl
  neB5 := by decide }
end Go.Proofs.YtahpaekiehdejabDoor
/- strings.Builder, all but WriteByte. -/
namespace Go.Proofs.YtahpaekiehdejabDoor
open Go.RowKit
set_option linter.unusedSimpArgs false
set_option linter.unusedVariables false
/-- A builder that holds these bytes. -/
abbrev Bld (B b : Nat) (l : List UInt8) (w : World) : Prop := Lib.IsBuilderF 110 5 B b (Lib.byteCells l) w
abbrev Oth (b : Nat) (w w' : World) : Prop := Lib.OthersKept 5 (some b) w w'
theorem str_cells (s : ByteArray) : Lib.strCells s = Lib.byteCells s.data.toList := by
  unfold Lib.strCells Lib.byteCells
  rfl
theorem writeS (B b : Nat) (l : List UInt8) (s : ByteArray) (w : World) (h : Bld B b l w) (hlen : l.length + s.size ≤ 140737488355328) (hBw : B ≤ w.heap.size) :
    Calls Tryd.prog 43 #[.pointer (some ⟨b, 0, none⟩), .string s] w fun e w' => e = .returned (.tuple #[.int .i64 s.size, .nilIface]) ∧ Bld B b (l ++ s.data.toList) w' ∧ Below B w w' ∧ Oth b w w' :=
  (Any.Builder_WriteString_k lays166 extra166 B b (Lib.byteCells l) s w h (by rw [Lib.byteCells_length]; exact hlen) hBw).mono fun e w' ⟨he, h1, h2, h3⟩ =>
    ⟨he, by rw [Bld, Lib.byteCells_append, ← str_cells]; exact Or.inr h1, h2, h3⟩
theorem buildS (B b : Nat) (l : List UInt8) (w : World) (h : Bld B b l w) (hBw : B ≤ w.heap.size) :
    Calls Tryd.prog 48 #[.pointer (some ⟨b, 0, none⟩)] w fun e w' => e = .returned (.string ⟨l.toArray⟩) ∧ Bld B b l w' ∧ Below B w w' ∧ Oth b w w' :=
  Any.Builder_String_any_k lays169 extra169 B b l w h hBw
theorem fresh_bld (w : World) : Bld w.heap.size w.heap.size [] (w.alloc (.cells #[.pointer none, .slice none 0 0] 110)) := Lib.IsBuilderF.of (Lib.fresh_isBuilder _ _ w)
end Go.Proofs.YtahpaekiehdejabDoor
/- strings.Builder: what is kept; Len. -/
namespace Go.Proofs.YtahpaekiehdejabDoor
open Go.RowKit
set_option linter.unusedSimpArgs false
set_option linter.unusedVariables false
theorem oth_bk11 {b k : Nat} {w w' : World} {C : Array Value} {T : TypeId} (h : Oth b w w') (hb : Bk w k C T) (hk : k ≠ b) (hT : T ≠ 5) : Bk w' k C T :=
  h k _ hb (by simpa using hk) (fun c fz e => hT (by injection e))
theorem grn_keep11 {w w' : World} (h : Below w.heap.size w w') : w.grownBy w' none := ⟨h.os, h.tape, h.output, h.size, fun i hi _ => h.block i hi⟩
theorem bldAt_keep11 {B b : Nat} {p : Value} {l : List Value} {w w' : World} (h : Lib.BuilderAtF 110 5 B b p l w) (hb : Below w.heap.size w w') : Lib.BuilderAtF 110 5 B b p l w' := by
  obtain ⟨h1, v, h2, h3, h4⟩ := h
  have hlt : b < w.heap.size := (Array.getElem?_eq_some_iff.1 h2).1
  exact ⟨h1, v, (hb.block b hlt).trans h2, h3.kept (grn_keep11 hb) (by cases v.ownBlock <;> simp), h4⟩
theorem bld_keep11 {B b : Nat} {l : List UInt8} {w w' : World} (h : Bld B b l w) (hb : Below w.heap.size w w') : Bld B b l w' := by
  rcases h with h | h
  · exact .inl (bldAt_keep11 h hb)
  · exact .inr (bldAt_keep11 h hb)
/-- A map's block is turned, or one of another type: the builder stays. -/
theorem bldAt_apart {B b m : Nat} {p : Value} {l : List Value} {w w' : World} (h : Lib.BuilderAtF 110 5 B b p l w) (hg : w.grownBy w' (some m)) (hm : ∀ C T F, w.heap[m]? = some (.cells C T F) → T ≠ 5 ∧ T ≠ 110) : Lib.BuilderAtF 110 5 B b p l w' := by
  obtain ⟨h1, v, h2, h3, h4⟩ := h
  have hlt : b < w.heap.size := (Array.getElem?_eq_some_iff.1 h2).1
  refine ⟨h1, v, (hg.block b hlt (fun e => by injection e with e; subst e; exact (hm _ _ _ h2).2 rfl)).trans h2, h3.kept hg ?_, h4⟩
  rcases h3.2 with ⟨rfl, _⟩ | ⟨g, cap, cur, fz, rfl, hb, hgg, _⟩
  · exact .inl rfl
  · refine .inr ?_
    simp only [Value.ownBlock]
    intro e
    injection e with e
    subst e
    exact (hm _ _ _ hgg).1 rfl
theorem bld_apart {B b m : Nat} {l : List UInt8} {w w' : World} (h : Bld B b l w) (hg : w.grownBy w' (some m)) (hm : ∀ C T F, w.heap[m]? = some (.cells C T F) → T ≠ 5 ∧ T ≠ 110) : Bld B b l w' := by
  rcases h with h | h
  · exact .inl (bldAt_apart h hg hm)
  · exact .inr (bldAt_apart h hg hm)
theorem bld_lt {B b : Nat} {l : List UInt8} {w : World} (h : Bld B b l w) : B ≤ b ∧ b < w.heap.size := by
  rcases h with ⟨h1, v, h2, _⟩ | ⟨h1, v, h2, _⟩ <;> exact ⟨h1, (Array.getElem?_eq_some_iff.1 h2).1⟩
/-- What a builder's cells are. -/
theorem bld_cells {B b : Nat} {l : List UInt8} {w : World} (h : Bld B b l w) : ∃ p a c, Bk w b #[p, .slice a l.length c] 110 := by
  have key : ∀ p, Lib.BuilderAtF 110 5 B b p (Lib.byteCells l) w → ∃ p a c, Bk w b #[p, .slice a l.length c] 110 := by
    rintro p ⟨h1, v, h2, h3, h4⟩
    rw [Lib.byteCells_length] at h3
    rcases h3.2 with ⟨rfl, h0⟩ | ⟨g, cap, cur, fz, rfl, hb, hgg, _⟩
    · have hl : l.length = 0 := h0
      exact ⟨p, none, 0, by rw [hl]; exact h2⟩
    · exact ⟨_, _, _, h2⟩
  rcases h with h | h
  · exact key _ h
  · exact key _ h
set_option maxHeartbeats 400000 in
theorem lenS (B b : Nat) (l : List UInt8) (w : World) (h : Bld B b l w) : Calls Tryd.prog 44 #[.pointer (some ⟨b, 0, none⟩)] w fun e w' => e = .returned (.int .i64 l.length) ∧ w' = w := by
  obtain ⟨p, a, c, hB⟩ := bld_cells h
  have c1 : w.cell? ⟨b, 1, none⟩ = some (.slice a l.length c) := by rw [hB.cell]; rfl
  clear hB h
  generalize l.length = n at c1 ⊢
  go_enter Tryd.func44, Tryd.ntmps44
  go_wp2
  go_ret
  exact ⟨rfl, rfl⟩
end Go.Proofs.YtahpaekiehdejabDoor
