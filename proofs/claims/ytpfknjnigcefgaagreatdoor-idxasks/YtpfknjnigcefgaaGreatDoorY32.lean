import Derived.Test.YtpfknjnigcefgaaGreatDoorY31
/- pack.each. -/
namespace Go.Proofs.YtpfknjnigcefgaaGreatDoor
open Go.RowKit
set_option linter.unusedSimpArgs false
set_option linter.unusedVariables false
theorem Kx.of_grown {B : Nat} {w w' : World} (h : w.grownBy w' none) : Kx B w w' :=
  ⟨h.os, h.tape, h.output, h.size, fun k o hk _ => (h.block k (Array.getElem?_eq_some_iff.1 hk).1 (by simp)).trans hk⟩
/-- A taker of entries: a closure over what lies there. -/
structure Tkr (B F : Nat) (cs : Array Value) (tk : List Ent → Ent → Bool) (E : List Ent → World → Prop) : Prop where
  enter : ∀ args u, (callFunc F args).run Tryz.prog u = .ok (.enter F args) u
  keep : ∀ l w w', E l w → Kx B w w' → E l w'
  lst : ∀ l w, E l w → Lst w
  size : ∀ l w, E l w → B ≤ w.heap.size
  few : ∀ l e, l.length ≤ 65536 → tk l e = true → l.length < 65536
  hand : ∀ l e w, E l w → e.id.size = 32 → l.length ≤ 65536 → Calls Tryz.prog F (#[.agg (enC e)] ++ cs) w fun r w' => r = .returned (.bool (tk l e)) ∧ E (if tk l e = true then l ++ [e] else l) w'
theorem ret_s11 {a b : ByteArray} (h : b = a) : Ending.returned (.string a) = .returned (.string b) := by rw [h]
def szV : Value → Nat
  | .string x => x.size
  | _ => 0
theorem nmO_size (o : Ob) : (nmO o).size = 32 := sha_size _
theorem of_nm (o : Ob) (w : World) (hp : o.p.size ≤ 140737488355328) (hL : Lst w) :
    Calls Tryz.prog 108 #[.int .u8 (o.k.toNat : Int), .string o.p] w fun e w' => e = .returned (.agg (idc (nmO o))) ∧ Below w.heap.size w w' := by
  have := of_big o.k.toNat o.p w o.k.toNat_lt hp hL
  rw [shc_idc] at this
  exact this
theorem Rn.few {tk : List Ent → Ent → Bool} {s : ByteArray} {a : Nat} {l : List Ent} (h : Rn tk s a l) (hf : ∀ l e, l.length ≤ 65536 → tk l e = true → l.length < 65536) : l.length ≤ 65536 := by
  induction h with
  | z => simp
  | st h1 h2 h3 ih => have := hf _ _ ih h3; rw [List.length_append, List.length_singleton]; omega
theorem frmO_step (s : ByteArray) (a : Nat) (h : atB (frmO s a) = true) : ufR (frmO s a) = frmO s (a + 9 + (enA s a).sz) := by
  obtain ⟨_, h2, _⟩ := at_fits h
  rw [h2]
  have e : a + 9 + (enA s a).sz = a + (9 + (atO (frmO s a)).p.size) := by simp only [enA]; rw [Nat.add_assoc]
  rw [e]
  generalize 9 + (atO (frmO s a)).p.size = z
  apply bl_inj
  rw [bl_frmO, bl_frmO, bl_frmO, List.drop_drop]
set_option maxHeartbeats 2000000 in
set_option maxRecDepth 100000 in
theorem each_any (B F : Nat) (cs : Array Value) (tk : List Ent → Ent → Bool) (E : List Ent → World → Prop) (T : Tkr B F cs tk E) (s : ByteArray) (w : World) (hs : s.size ≤ 140737488355328) (h4 : 4 ≤ s.size) (hE : E [] w) :
    Calls Tryz.prog 69 #[.string s, .func (.func F) #[] cs] w fun r w' => ∃ a l, r = .returned (.string (frmO s a)) ∧ Stk tk s a l ∧ E l w' := by
  have HT : Hid (Tkr B F cs tk E) := T
  have HE : Hid (E [] w) := hE
  have h4z : (4 : Int) ≤ (s.size : Int) := by omega
  obtain ⟨r0, hr0⟩ : ∃ r, r = frmO s 4 := ⟨_, rfl⟩
  have hx : s.extract 4 s.size = r0 := by rw [hr0]; rfl
  have HR0 : Hid (r0 = frmO s 4) := hr0
  clear T hE hr0
  go_enter Tryz.func69, Tryz.ntmps69
  go_wp2
  clear hx
  go_loopw [4] (fun v wr => ∃ (a : Nat) (l : List Ent) (r : ByteArray), v = .string r ∧ Hid (r = frmO s a ∧ Rn tk s a l ∧ E l wr)) (fun v _ => szV v)
  case atStart => exact ⟨4, [], r0, rfl, HR0.out, .z, HE.out⟩
  case round =>
    obtain ⟨a, l, r, rfl, HR⟩ := hrel
    have hle := HR.out.2.1.le h4
    have hrz : r.size = s.size - a := by rw [HR.out.1, frmO_size]
    have hrs : r.size ≤ 140737488355328 := by omega
    go_wp2_with fail
    refine (first_any r _ (by unfold maxLen; omega)).mono ?_
    rintro e w1 ⟨rfl, hb1⟩
    have hE1 : E l w1 := HT.out.keep _ _ _ HR.out.2.2 (Kx.of hb1)
    cases hat : atB r with
    | false =>
      obtain ⟨q1, q2, q3, q4⟩ := ft_no hat
      rw [q1, q2, q3, q4]
      have HA : Hid (atB r = false) := hat
      have H1 : Hid (E l w1) := hE1
      clear q1 q2 q3 q4 hat hE1 hb1
      go_wp2
      go_ret
      refine ⟨a, l, ret_s11 HR.out.1.symm, ⟨HR.out.2.1, fun h => ?_⟩, HT.out.keep _ _ _ H1.out (Kx.of ((Below.refl _ _).alloc (Nat.le_refl _) _))⟩
      rw [← HR.out.1, HA.out] at h
      cases h.1
    | true =>
      obtain ⟨q1, q2, q3⟩ := ft_yes hat
      rw [q1, q2, q3]
      have HA : Hid (atB r = true) := hat
      have hfit := at_fits hat
      obtain ⟨o, ho⟩ : ∃ o, o = atO r := ⟨_, rfl⟩
      obtain ⟨bh, hbh⟩ : ∃ bh, bh = ufR r := ⟨_, rfl⟩
      rw [← ho] at hfit
      rw [← ho, ← hbh]
      have HO : Hid (o = atO r) := ho
      have HH : Hid (bh = ufR r) := hbh
      have hbz : bh.size < r.size := by rw [hbh, hfit.2.1, frmO_size]; omega
      have hpz : o.p.size ≤ 2097152 := hfit.2.2
      clear q1 q2 q3 hat hfit ho hbh
      obtain ⟨k, p⟩ := o
      simp only at hpz ⊢
      have hb1' : Bk (w1.alloc (.cells #[.int .u8 (k.toNat : Int), .string p] 157)) w1.heap.size #[.int .u8 (k.toNat : Int), .string p] 157 := bk_new _ _ _
      have hE2 : E l (w1.alloc (.cells #[.int .u8 (k.toNat : Int), .string p] 157)) := HT.out.keep _ _ _ hE1 (Kx.of ((Below.refl _ _).alloc (Nat.le_refl _) _))
      have HOF : Hid (Calls Tryz.prog 108 #[.int .u8 (k.toNat : Int), .string p] (w1.alloc (.cells #[.int .u8 (k.toNat : Int), .string p] 157)) fun e w' => e = .returned (.agg (idc (nmO ⟨k, p⟩))) ∧ Hid (E l w' ∧ Bk w' w1.heap.size #[.int .u8 (k.toNat : Int), .string p] 157 ∧ w1.heap.size < w'.heap.size)) :=
        (of_nm ⟨k, p⟩ _ (by simp only; omega) (HT.out.lst _ _ hE2)).mono fun e w' h => ⟨h.1, HT.out.keep _ _ _ hE2 (Kx.of h.2), hb1'.below h.2 hb1'.lt, Nat.lt_of_lt_of_le hb1'.lt h.2.size⟩
      have hoff : (s.size : Int) - (r.size : Int) = (a : Int) := by omega
      obtain ⟨x, hx⟩ : ∃ x, x = nmO ⟨k, p⟩ := ⟨_, rfl⟩
      rw [← hx] at HOF
      have hxz : x.size = 32 := by rw [hx]; exact nmO_size _
      have HX : Hid (enA s a = ⟨x, k, a, p.size⟩) := by
        show enA s a = _
        simp only [enA, ← HR.out.1, ← HO.out, hx]
      have hi32 : (Tryz.prog.info? 23).map (·.size) = some (idc x).size := info_32 (by rw [idc_size, hxz])
      have hiz : z32c.size = (idc x).size := by rw [idc_size, hxz]; exact z32c_size
      have hbe := build_en ⟨x, k, a, p.size⟩ hxz
      simp only at hbe
      have hfew := HR.out.2.1.few HT.out.few
      have HHD : Hid (∀ u, E l u → Calls Tryz.prog F (#[.agg (enC ⟨x, k, a, p.size⟩)] ++ cs) u fun r w' => r = .returned (.bool (tk l ⟨x, k, a, p.size⟩)) ∧ E (if tk l ⟨x, k, a, p.size⟩ = true then l ++ [⟨x, k, a, p.size⟩] else l) w') :=
        fun u hu => HT.out.hand l ⟨x, k, a, p.size⟩ u hu hxz hfew
      have HRZ : Hid (r.size = s.size - a) := hrz
      clear hx hE1 hE2 hb1 hb1' hfew hrz
      go_wp2_with (first
        | (go_at_call 108; refine HOF.out.mono ?_; rintro e w2 ⟨rfl, H2⟩)
        | (refine wpList_store_abs rfl 23 (.tmp 8) (.tmp 24) rfl (idc x) z32c 23 w2.heap.size rfl rfl rfl hi32 hiz (idc_all x) ?_; intro w3 HBk HG hsz3; have HK : Hid (Bk w3 w2.heap.size (idc x) 23) := HBk.out; have hk3 : Bk w3 w1.heap.size #[.int .u8 (k.toNat : Int), .string p] 157 := H2.out.2.1.grown HG.out (by simp); have z0 : w3.cell? ⟨w1.heap.size, 0, none⟩ = some (.int .u8 (k.toNat : Int)) := by { rw [hk3.cell]; rfl }; have z1 : w3.cell? ⟨w1.heap.size, 1, none⟩ = some (.string p) := by { rw [hk3.cell]; rfl }; clear hk3)
        | (refine wpList_get rfl 23 (.tmp 8) rfl w2.heap.size 0 (idc x) (idc x) 23 _ rfl HK.out (fun j u hu => by rw [Nat.zero_add]; exact hu) Tryz.underlying23 rfl hi32 ?_)
        | (refine wpList_bdR rfl 34 (.tmp 26) (.tmp 28) (.tmp 33) (.tmp 36) rfl (.agg (idc x)) (.int .u8 (k.toNat : Int)) (.int .i64 (a : Int)) (.int .i64 (p.size : Int)) (.agg (enC ⟨x, k, a, p.size⟩)) rfl rfl rfl rfl (hbe _) ?_)
        | fail)
      rw [HT.out.enter, Oper.upon_enter]
      have hE3 : E l w3 := HT.out.keep _ _ _ H2.out.1 (Kx.of_grown HG.out)
      refine Calls.mono (HHD.out w3 hE3) ?_
      rintro e w4 ⟨rfl, hE4⟩
      cases htk : tk l ⟨x, k, a, p.size⟩ with
      | true =>
        rw [htk, if_pos rfl] at hE4
        have H4 : Hid (E (l ++ [⟨x, k, a, p.size⟩]) w4) := hE4
        have HTK : Hid (tk l ⟨x, k, a, p.size⟩ = true) := htk
        clear hE4 htk hE3
        go_wp2
        go_roundw
        case rel =>
          refine ⟨a + 9 + (enA s a).sz, l ++ [enA s a], bh, rfl, ?_, ?_, ?_⟩
          · rw [HH.out, HR.out.1]; exact frmO_step s a (by rw [← HR.out.1]; exact HA.out)
          · exact .st HR.out.2.1 (by rw [← HR.out.1]; exact HA.out) (by rw [HX.out]; exact HTK.out)
          · rw [HX.out]; exact H4.out
        case measure => simp only [szV]; exact hbz
      | false =>
        rw [htk, if_neg (by simp)] at hE4
        have H4 : Hid (E l w4) := hE4
        have HTK : Hid (tk l ⟨x, k, a, p.size⟩ = false) := htk
        clear hE4 htk hE3
        go_wp2
        go_ret
        refine ⟨a, l, ret_s11 HR.out.1.symm, ⟨HR.out.2.1, fun h => ?_⟩, H4.out⟩
        rw [HX.out, HTK.out] at h
        cases h.2
end Go.Proofs.YtpfknjnigcefgaaGreatDoor
/- strings.HasPrefix at the Mark; pack.Salvage, Scan. -/
namespace Go.Proofs.YtpfknjnigcefgaaGreatDoor
open Go.RowKit
set_option linter.unusedSimpArgs false
set_option linter.unusedVariables false
/-- The Mark; whether it stands at the front. -/
def mkB : ByteArray := ⟨#[109, 112, 107, 49]⟩
def pmB (s : ByteArray) : Bool := decide (4 ≤ s.size ∧ (bl s).take 4 = mk4)
theorem pmB_yes {s : ByteArray} (h : 4 ≤ s.size) (h2 : s.extract 0 4 = mkB) : pmB s = true := by
  have : (bl s).take 4 = mk4 := by rw [← extract_take s 4 h, h2]; rfl
  simp [pmB, h, this]
theorem pmB_ne {s : ByteArray} (h : 4 ≤ s.size) (h2 : s.extract 0 4 ≠ mkB) : pmB s = false := by
  simp only [pmB, decide_eq_false_iff_not]
  rintro ⟨_, h3⟩
  apply h2
  apply bl_inj
  rw [extract_take s 4 h, h3]; rfl
theorem str_neP {x y : ByteArray} (h : x ≠ y) : (x.toList == y.toList) = false := by
  rw [beq_eq_false_iff_ne, Lib.toList_data, Lib.toList_data]
  intro e
  exact h (bl_inj e)
set_option maxHeartbeats 1000000 in
theorem hasP (s : ByteArray) (w : World) (hs : s.size ≤ maxLen) :
    Calls Tryz.prog 106 #[.string s, .string mkB] w fun e w' => e = .returned (.bool (pmB s)) ∧ w' = w := by
  unfold maxLen at hs
  have hmz : mkB.size = 4 := rfl
  by_cases h4 : 4 ≤ s.size
  · have h4z : (4 : Int) ≤ (s.size : Int) := by omega
    obtain ⟨x, hx⟩ : ∃ x, s.extract 0 4 = x := ⟨_, rfl⟩
    by_cases he : x = mkB
    · subst he
      have HE : Hid (pmB s = true) := pmB_yes h4 hx
      go_enter Tryz.func106, Tryz.ntmps106
      go_wp2
      go_ret
      exact ⟨ret_b11 HE.out, rfl⟩
    · have HE : Hid (pmB s = false) := pmB_ne h4 (by rw [hx]; exact he)
      have hne := str_neP he
      clear he
      go_enter Tryz.func106, Tryz.ntmps106
      go_wp2
      go_ret
      exact ⟨ret_b11 HE.out, rfl⟩
  · have h4z : ¬ (4 : Int) ≤ (s.size : Int) := by omega
    have HE : Hid (pmB s = false) := by show pmB s = false; simp [pmB, h4]
    go_enter Tryz.func106, Tryz.ntmps106
    go_wp2
    go_ret
    exact ⟨ret_b11 HE.out, rfl⟩
set_option maxHeartbeats 1000000 in
theorem hasPrefix11 (s : ByteArray) (w : World) (hs : s.size ≤ maxLen) :
    Calls Tryz.prog 68 #[.string s, .string mkB] w fun e w' => e = .returned (.bool (pmB s)) ∧ w' = w := by
  go_enter Tryz.func68, Tryz.ntmps68
  go_wp2_with fail
  refine (hasP s _ hs).mono ?_
  rintro e w1 ⟨rfl, hw⟩
  obtain rfl : w = w1 := hw.symm
  go_wp2
  go_ret
  exact ⟨rfl, rfl⟩
/-- What Salvage tells. -/
def SvA (s : ByteArray) (l : List Ent) : Prop := (pmB s = false ∧ l = []) ∨ (pmB s = true ∧ ∃ a, Stk tkA s a l)
/-- What Scan tells. -/
def PkO (s : ByteArray) (l : List Ent) : Prop := s.size ≤ 67108864 ∧ pmB s = true ∧ ∃ a, Stk tkS s a l ∧ frmO s a = trl l.length
def ScA (s : ByteArray) (l : List Ent) (er : Int) : Prop := (er = 0 ∧ PkO s l) ∨ (er = 4 ∧ l = [] ∧ ∀ m, ¬ PkO s m)
theorem pm4 {s : ByteArray} (h : pmB s = true) : 4 ≤ s.size := by simp [pmB] at h; exact h.1
theorem SvS.start (w : World) (hL : Lst w) : SvS w w.heap.size [] (w.alloc (.cells #[.slice none 0 0] 25)) :=
  ⟨⟨_, bk_new _ _ _, rows_none⟩, Nat.le_refl _, (Below.refl _ _).alloc (Nat.le_refl _) _, hL⟩
theorem ScS.start (w w1 : World) (hL : Lst w) (hb : Below w.heap.size w w1) : ScS w w1.heap.size (w1.heap.size + 1 + 1) (w1.heap.size + 1) [] (((w1.alloc (.cells #[.slice none 0 0] 25)).alloc (.map #[] 0)).alloc (.cells #[.map (some (w1.heap.size + 1))] 57)) := by
  have s1 : (w1.alloc (.cells #[.slice none 0 0] 25)).heap.size = w1.heap.size + 1 := al_size _ _
  have s2 : ((w1.alloc (.cells #[.slice none 0 0] 25)).alloc (.map #[] 0)).heap.size = w1.heap.size + 1 + 1 := by rw [al_size, s1]
  have hz := hb.size
  have b3 := bk_new ((w1.alloc (.cells #[.slice none 0 0] 25)).alloc (.map #[] 0)) #[.map (some (w1.heap.size + 1))] 57
  rw [s2] at b3
  have b2 := St.made (fun v => v = .agg #[]) (w1.alloc (.cells #[.slice none 0 0] 25))
  rw [s1] at b2
  refine ⟨⟨⟨_, ((bk_new w1 _ _).alloc _).alloc _, rows_none⟩, hz, ((hb.alloc hz _).alloc (by rw [s1]; omega) _).alloc (by rw [s2]; omega) _, hL⟩, b3, b2.alloc _, by omega⟩
theorem scanT (w : World) (lb mb m : Nat) : Tkr w.heap.size 70 #[.pointer (some ⟨mb, 0, none⟩), .pointer (some ⟨lb, 0, none⟩)] tkS (ScS w lb mb m) where
  enter := fun args u => by
    have h1 : (Tryz.f70.name == "runtime.NumGoroutine") = false := by decide +kernel
    have h2 : Tryz.f70.body.isNone = false := by kernel_rfl
    simp at h1 h2
    simp [callFunc, go_sem, Tryz.func70, h1, h2]
    intro h; rw [h] at h2; cases h2
  keep := fun l a b h k => h.keep k
  lst := fun l a h => h.sv.all
  size := fun l a h => h.sv.bel.size
  few := fun l e h1 h => by
    have : ¬ l.length = 65536 := by simp [tkS] at h; exact h.2
    omega
  hand := fun l e u h he hl => scan1 w lb mb m l e u h he hl
set_option maxHeartbeats 1000000 in
set_option maxRecDepth 100000 in
theorem scan_any (s : ByteArray) (w : World) (hs : s.size ≤ 140737488355328) (hL : Lst w) :
    Calls Tryz.prog 33 #[.string s] w fun e w' => ∃ l v er, e = .returned (.tuple #[v, .int .i64 er]) ∧ ScA s l er ∧ w'.ownsRow w.heap.size 34 35 v l.length (env l) ∧ Below w.heap.size w w' := by
  have HL : Hid (Lst w) := hL
  have hmk : (⟨#[109, 112, 107, 49]⟩ : ByteArray) = mkB := rfl
  clear hL
  by_cases hbig : 67108864 < s.size
  · have hbz : (67108864 : Int) < (s.size : Int) := by omega
    have HN : Hid (∀ m, ¬ PkO s m) := fun m h => by have := h.1; omega
    go_enter Tryz.func33, Tryz.ntmps33
    go_wp2
    go_ret2
    exact ⟨[], _, 4, rfl, .inr ⟨rfl, rfl, HN.out⟩, rows_none, Below.refl _ _⟩
  have hbz : ¬ (67108864 : Int) < (s.size : Int) := by omega
  have HSZ : Hid (s.size ≤ 67108864) := by show s.size ≤ 67108864; omega
  have H1 := fun W => hasPrefix11 s W (by unfold maxLen; omega)
  cases hp : pmB s with
  | false =>
    rw [hp] at H1
    have HN : Hid (∀ m, ¬ PkO s m) := fun m h => by have := h.2.1; rw [hp] at this; cases this
    clear hp hbig
    go_enter Tryz.func33, Tryz.ntmps33
    go_wp2_with fail
    refine (H1 _).mono ?_
    rintro e w1 ⟨rfl, hw⟩
    obtain rfl : w = w1 := hw.symm
    go_wp2
    go_ret2
    exact ⟨[], _, 4, rfl, .inr ⟨rfl, rfl, HN.out⟩, rows_none, Below.refl _ _⟩
  | true =>
    rw [hp] at H1
    have HP : Hid (pmB s = true) := hp
    have HS0 : Hid (ScS w w.heap.size (w.heap.size + 1 + 1) (w.heap.size + 1) [] (((w.alloc (.cells #[.slice none 0 0] 25)).alloc (.map #[] 0)).alloc (.cells #[.map (some (w.heap.size + 1))] 57))) := ScS.start w w HL.out (Below.refl _ _)
    clear hp hbig
    have hmm := @run_makeMap Tryz.prog
    go_enter Tryz.func33, Tryz.ntmps33
    go_wp2_with fail
    refine (H1 _).mono ?_
    rintro e w1 ⟨rfl, hw⟩
    obtain rfl : w = w1 := hw.symm
    clear H1
    go_wp2_with fail
    refine (each_any w.heap.size 70 _ tkS (ScS w w.heap.size (w.heap.size + 1 + 1) (w.heap.size + 1)) (scanT w w.heap.size (w.heap.size + 1 + 1) (w.heap.size + 1)) s _ hs (pm4 HP.out) HS0.out).mono ?_
    rintro e w2 ⟨a, l, rfl, hst, hS⟩
    obtain ⟨v, hb, hr⟩ := hS.sv.row
    obtain ⟨ad, cp, hv⟩ := row_slice hr
    subst hv
    have c0 : w2.cell? ⟨w.heap.size, 0, none⟩ = some (.slice ad l.length cp) := by rw [hb.cell]; rfl
    have hle := hst.1.le (pm4 HP.out)
    have hll : l.length < 9223372036854775808 := by omega
    obtain ⟨R, hR⟩ : ∃ R, R = frmO s a := ⟨_, rfl⟩
    rw [← hR]
    obtain ⟨n, hn⟩ : ∃ n, n = l.length := ⟨_, rfl⟩
    rw [← hn] at c0 hr hll
    have HST : Hid (Stk tkS s a l) := hst
    have HR : Hid (R = frmO s a) := hR
    have HN : Hid (n = l.length) := hn
    have HS : Hid (ScS w w.heap.size (w.heap.size + 1 + 1) (w.heap.size + 1) l w2) := hS
    have HO : Hid (w2.ownsRow w.heap.size 34 35 (.slice ad n cp) n (env l)) := hr
    clear hst hS hr hle hR hn HS0
    go_wp2_with fail
    refine (trailer_any n _ hll).mono ?_
    rintro e w3 ⟨rfl, hb3⟩
    have hbk3 := hb.below hb3 hb.lt
    have c3 : w3.cell? ⟨w.heap.size, 0, none⟩ = some (.slice ad n cp) := by rw [hbk3.cell, HN.out]; rfl
    have HB3 : Hid (Below w.heap.size w w3) := HS.out.sv.bel.trans (hb3.mono HS.out.sv.bel.size)
    have HO3 : Hid (w3.ownsRow w.heap.size 34 35 (.slice ad n cp) n (env l)) := rows_keep HO.out (fun g _ hg => hb3.block g hg)
    obtain ⟨t, ht⟩ : ∃ t, t = trl n := ⟨_, rfl⟩
    rw [← ht]
    have HTR : Hid (t = trl n) := ht
    clear hb hb3 hbk3 ht
    by_cases he : R = t
    · subst he
      go_wp2
      go_ret2
      refine ⟨l, _, 0, rfl, .inl ⟨rfl, HSZ.out, HP.out, a, HST.out, ?_⟩, ?_, HB3.out⟩
      · rw [← HR.out, HTR.out, HN.out]
      · rw [← HN.out]; exact HO3.out
    · have hne := str_neP he
      have HE : Hid (¬ R = t) := he
      clear he
      go_wp2
      go_ret2
      refine ⟨[], _, 4, rfl, .inr ⟨rfl, rfl, ?_⟩, rows_none, HB3.out⟩
      rintro m ⟨_, _, a', hs', he'⟩
      obtain ⟨rfl, rfl⟩ := HST.out.one hs'
      apply HE.out
      rw [HR.out, HTR.out, HN.out, he']
end Go.Proofs.YtpfknjnigcefgaaGreatDoor
/- pack.Span, Read, One. -/
namespace Go.Proofs.YtpfknjnigcefgaaGreatDoor
open Go.RowKit
set_option linter.unusedSimpArgs false
set_option linter.unusedVariables false
/-- What Read tells. -/
def rdO (s : ByteArray) (off : Int) : Ob := if 0 ≤ off ∧ off ≤ s.size then ftO (frmO s off.toNat) else ⟨0, ⟨#[]⟩⟩
def rdE (s : ByteArray) (off : Int) : Int := if 0 ≤ off ∧ off ≤ s.size then ftE (frmO s off.toNat) else 1
theorem ret_oe {o : Ob} {k : Int} {p : ByteArray} {e e' : Int} (h : (o.k.toNat : Int) = k ∧ o.p = p ∧ e' = e) :
    Ending.returned (.tuple #[.agg #[.int .u8 k, .string p], .int .i64 e]) = .returned (.tuple #[.agg #[.int .u8 (o.k.toNat : Int), .string o.p], .int .i64 e']) := by
  obtain ⟨h1, h2, h3⟩ := h
  rw [h1, h2, h3]
theorem ftO_size (s : ByteArray) : (ftO s).p.size ≤ 2097152 := by
  unfold ftO
  split
  · rename_i h; exact (at_fits h).2.2
  · exact Nat.zero_le _
theorem str_some {x : ByteArray} (h : x ≠ ⟨#[]⟩) : x.toList.isEmpty = false := by
  rw [Lib.toList_data]
  cases hd : x.data.toList with
  | nil => exact absurd (bl_inj (show bl x = bl ⟨#[]⟩ from hd)) h
  | cons a r => rfl
/-- What One tells. -/
def onO (s : ByteArray) : Ob := if atB s = true ∧ ufR s = ⟨#[]⟩ then atO s else ⟨0, ⟨#[]⟩⟩
def onE (s : ByteArray) : Int := if atB s = true ∧ ufR s = ⟨#[]⟩ then 0 else 4
end Go.Proofs.YtpfknjnigcefgaaGreatDoor
/- strings.CutPrefix, CutSuffix; pack.Label, Sum, Fits. -/
namespace Go.Proofs.YtpfknjnigcefgaaGreatDoor
open Go.RowKit
set_option linter.unusedSimpArgs false
set_option linter.unusedVariables false
/-- Whether a text stands at the front, at the end. -/
def pfB (s q : ByteArray) : Bool := decide (q.size ≤ s.size) && (bl (s.extract 0 q.size) == bl q)
def sfB (s q : ByteArray) : Bool := decide (q.size ≤ s.size) && (bl (s.extract (s.size - q.size) s.size) == bl q)
set_option maxHeartbeats 1000000 in
theorem hasPfx (s q : ByteArray) (w : World) (hs : s.size ≤ 140737488355328) (hq : q.size ≤ 16) :
    Calls Tryz.prog 106 #[.string s, .string q] w fun e w' => e = .returned (.bool (pfB s q)) ∧ w' = w := by
  by_cases h4 : q.size ≤ s.size
  · have h4z : (q.size : Int) ≤ (s.size : Int) := by omega
    obtain ⟨x, hx⟩ : ∃ x, s.extract 0 q.size = x := ⟨_, rfl⟩
    by_cases he : x = q
    · have HE : Hid (pfB s q = true) := by show _ = _; rw [pfB, hx, he]; simp [h4]
      subst he
      go_enter Tryz.func106, Tryz.ntmps106
      go_wp2
      go_ret
      exact ⟨ret_b11 HE.out, rfl⟩
    · have HE : Hid (pfB s q = false) := by
        show _ = _
        rw [pfB, hx, Bool.and_eq_false_iff]
        exact .inr (by rw [beq_eq_false_iff_ne]; exact fun h => he (bl_inj h))
      have hne := str_neP he
      clear he
      go_enter Tryz.func106, Tryz.ntmps106
      go_wp2
      go_ret
      exact ⟨ret_b11 HE.out, rfl⟩
  · have h4z : ¬ (q.size : Int) ≤ (s.size : Int) := by omega
    have HE : Hid (pfB s q = false) := by show pfB s q = false; simp [pfB, h4]
    go_enter Tryz.func106, Tryz.ntmps106
    go_wp2
    go_ret
    exact ⟨ret_b11 HE.out, rfl⟩
set_option maxHeartbeats 1000000 in
theorem hasSfx (s q : ByteArray) (w : World) (hs : s.size ≤ 140737488355328) (hq : q.size ≤ 16) :
    Calls Tryz.prog 118 #[.string s, .string q] w fun e w' => e = .returned (.bool (sfB s q)) ∧ w' = w := by
  by_cases h4 : q.size ≤ s.size
  · have h4z : (q.size : Int) ≤ (s.size : Int) := by omega
    obtain ⟨n, hn⟩ : ∃ n, n = s.size - q.size := ⟨_, rfl⟩
    have hnz : (s.size : Int) - (q.size : Int) = (n : Int) := by omega
    have hnl : (n : Int) ≤ (s.size : Int) := by omega
    obtain ⟨x, hx⟩ : ∃ x, s.extract n s.size = x := ⟨_, rfl⟩
    by_cases he : x = q
    · have HE : Hid (sfB s q = true) := by show _ = _; rw [sfB, ← hn, hx, he]; simp [h4]
      subst he
      clear hn
      go_enter Tryz.func118, Tryz.ntmps118
      go_wp2
      go_ret
      exact ⟨ret_b11 HE.out, rfl⟩
    · have HE : Hid (sfB s q = false) := by
        show _ = _
        rw [sfB, ← hn, hx, Bool.and_eq_false_iff]
        exact .inr (by rw [beq_eq_false_iff_ne]; exact fun h => he (bl_inj h))
      have hne := str_neP he
      clear he hn
      go_enter Tryz.func118, Tryz.ntmps118
      go_wp2
      go_ret
      exact ⟨ret_b11 HE.out, rfl⟩
  · have h4z : ¬ (q.size : Int) ≤ (s.size : Int) := by omega
    have HE : Hid (sfB s q = false) := by show sfB s q = false; simp [sfB, h4]
    go_enter Tryz.func118, Tryz.ntmps118
    go_wp2
    go_ret
    exact ⟨ret_b11 HE.out, rfl⟩
/-- What is left when they are cut. -/
def cpX (s q : ByteArray) : ByteArray := if pfB s q = true then s.extract q.size s.size else s
def csX (s q : ByteArray) : ByteArray := if sfB s q = true then s.extract 0 (s.size - q.size) else s
theorem pfB_le {s q : ByteArray} (h : pfB s q = true) : q.size ≤ s.size := by simp [pfB] at h; exact h.1
theorem sfB_le {s q : ByteArray} (h : sfB s q = true) : q.size ≤ s.size := by simp [sfB] at h; exact h.1
theorem ret_sb11 {a b : ByteArray} {e e' : Bool} (h : b = a ∧ e' = e) : Ending.returned (.tuple #[.string a, .bool e]) = .returned (.tuple #[.string b, .bool e']) := by rw [h.1, h.2]
set_option maxHeartbeats 1000000 in
theorem cutP1 (s q : ByteArray) (w : World) (hs : s.size ≤ 140737488355328) (hq : q.size ≤ 16) :
    Calls Tryz.prog 83 #[.string s, .string q] w fun e w' => e = .returned (.tuple #[.string (cpX s q), .bool (pfB s q)]) ∧ w' = w := by
  cases hp : pfB s q with
  | true =>
    have H1 := hasPfx s q w hs hq
    rw [hp] at H1
    have HE : Hid (cpX s q = s.extract q.size s.size) := by show _ = _; rw [cpX, if_pos hp]
    have hle := pfB_le hp
    have h4z : (q.size : Int) ≤ (s.size : Int) := by omega
    clear hp
    go_enter Tryz.func83, Tryz.ntmps83
    go_wp2_with fail
    refine H1.mono ?_
    rintro e w1 ⟨rfl, hw⟩
    obtain rfl : w = w1 := hw.symm
    go_wp2
    go_ret2
    exact ⟨ret_sb11 ⟨HE.out, rfl⟩, rfl⟩
  | false =>
    have H1 := hasPfx s q w hs hq
    rw [hp] at H1
    have HE : Hid (cpX s q = s) := by show _ = _; rw [cpX, if_neg (by rw [hp]; simp)]
    clear hp
    go_enter Tryz.func83, Tryz.ntmps83
    go_wp2_with fail
    refine H1.mono ?_
    rintro e w1 ⟨rfl, hw⟩
    obtain rfl : w = w1 := hw.symm
    go_wp2
    go_ret2
    exact ⟨ret_sb11 ⟨HE.out, rfl⟩, rfl⟩
set_option maxHeartbeats 1000000 in
theorem cutS1 (s q : ByteArray) (w : World) (hs : s.size ≤ 140737488355328) (hq : q.size ≤ 16) :
    Calls Tryz.prog 84 #[.string s, .string q] w fun e w' => e = .returned (.tuple #[.string (csX s q), .bool (sfB s q)]) ∧ w' = w := by
  cases hp : sfB s q with
  | true =>
    have H1 := hasSfx s q w hs hq
    rw [hp] at H1
    obtain ⟨n, hn⟩ : ∃ n, n = s.size - q.size := ⟨_, rfl⟩
    have HE : Hid (csX s q = s.extract 0 n) := by show _ = _; rw [csX, if_pos hp, hn]
    have hle := sfB_le hp
    have hnz : (s.size : Int) - (q.size : Int) = (n : Int) := by omega
    have hnl : (n : Int) ≤ (s.size : Int) := by omega
    clear hp hn
    go_enter Tryz.func84, Tryz.ntmps84
    go_wp2_with fail
    refine H1.mono ?_
    rintro e w1 ⟨rfl, hw⟩
    obtain rfl : w = w1 := hw.symm
    go_wp2
    go_ret2
    exact ⟨ret_sb11 ⟨HE.out, rfl⟩, rfl⟩
  | false =>
    have H1 := hasSfx s q w hs hq
    rw [hp] at H1
    have HE : Hid (csX s q = s) := by show _ = _; rw [csX, if_neg (by rw [hp]; simp)]
    clear hp
    go_enter Tryz.func84, Tryz.ntmps84
    go_wp2_with fail
    refine H1.mono ?_
    rintro e w1 ⟨rfl, hw⟩
    obtain rfl : w = w1 := hw.symm
    go_wp2
    go_ret2
    exact ⟨ret_sb11 ⟨HE.out, rfl⟩, rfl⟩
theorem cutP (s q : ByteArray) (w : World) (hs : s.size ≤ 140737488355328) (hq : q.size ≤ 16) :
    Calls Tryz.prog 41 #[.string s, .string q] w fun e w' => e = .returned (.tuple #[.string (cpX s q), .bool (pfB s q)]) ∧ w' = w := by
  go_enter Tryz.func41, Tryz.ntmps41
  go_wp2_with fail
  refine (cutP1 s q _ hs hq).mono ?_
  rintro e w1 ⟨rfl, hw⟩
  obtain rfl : w = w1 := hw.symm
  go_wp2
  go_ret2
  exact ⟨rfl, rfl⟩
theorem cutS (s q : ByteArray) (w : World) (hs : s.size ≤ 140737488355328) (hq : q.size ≤ 16) :
    Calls Tryz.prog 42 #[.string s, .string q] w fun e w' => e = .returned (.tuple #[.string (csX s q), .bool (sfB s q)]) ∧ w' = w := by
  go_enter Tryz.func42, Tryz.ntmps42
  go_wp2_with fail
  refine (cutS1 s q _ hs hq).mono ?_
  rintro e w1 ⟨rfl, hw⟩
  obtain rfl : w = w1 := hw.symm
  go_wp2
  go_ret2
  exact ⟨rfl, rfl⟩
/-- A pack's label. -/
def lbF : ByteArray := ⟨#[112, 97, 99, 107, 45]⟩
def lbE : ByteArray := ⟨#[46, 112, 107]⟩
def lbl (s : ByteArray) : ByteArray := lbF ++ sb (hexL (bl s)) ++ lbE
theorem grn_keep12 {B : Nat} {w w' : World} (h : Below B w w') (hB : B = w.heap.size := by rfl) : w.grownBy w' none := by
  subst hB
  exact ⟨h.os, h.tape, h.output, h.size, fun i hi _ => h.block i hi⟩
/-- What Parse tells. -/
def prA (t : ByteArray) : Array Value := if t.size = 64 then pid t else z32c
def prE (t : ByteArray) : Int := if t.size = 64 then uhE t else 4
theorem prA_size (t : ByteArray) : (prA t).size = 32 := by unfold prA; split <;> first | exact pid_size t | exact z32c_size
theorem prA_one (t : ByteArray) : (prA t).all (·.oneCell') = true := by unfold prA; split <;> first | exact pid_one t | exact z32c_one
theorem parse11 (t : ByteArray) (w : World) (hm : t.size ≤ 140737488351232) (hA : All w) :
    Calls Tryz.prog 44 #[.string t] w fun e w' => e = .returned (.tuple #[.agg (prA t), .int .i64 (prE t)]) ∧ Below w.heap.size w w' := by
  by_cases h : t.size = 64
  · rw [prA, prE, if_pos h, if_pos h]; exact parse_64 t w h hA
  · rw [prA, prE, if_neg h, if_neg h]; exact parse_bad t w h hm
/-- What Sum tells. -/
def smD (s : ByteArray) : ByteArray := csX (cpX s lbF) lbE
def smB11 (s : ByteArray) : Bool := pfB s lbF && sfB (cpX s lbF) lbE && decide (prE (smD s) = 0)
def smA (s : ByteArray) : Array Value := if smB11 s = true then prA (smD s) else z32c
def smEp (s : ByteArray) : Int := if smB11 s = true then 0 else 10
theorem cpX_size (s q : ByteArray) : (cpX s q).size ≤ s.size := by
  unfold cpX
  split
  · rw [← bl_length, bl_extract, List.length_drop, List.length_take, bl_length]; omega
  · exact Nat.le_refl _
theorem csX_size (s q : ByteArray) : (csX s q).size ≤ s.size := by
  unfold csX
  split
  · rw [← bl_length, bl_extract, List.length_drop, List.length_take, bl_length]; omega
  · exact Nat.le_refl _
theorem ret_ae {A A' : Array Value} {e e' : Int} (h : A' = A ∧ e' = e) : Ending.returned (.tuple #[.agg A, .int .i64 e]) = .returned (.tuple #[.agg A', .int .i64 e']) := by rw [h.1, h.2]
/-- Whether a label fits. -/
def ftB11 (a s : ByteArray) : Bool := bl a == bl (lbl (sb (sha (byl s))))
/-- Sum of a label. -/
theorem sm_lbl (x : ByteArray) (hx : x.size = 32) : smA (lbl x) = idc x ∧ smEp (lbl x) = 0 := by
  obtain ⟨t, ht⟩ : ∃ t, t = sb (hexL (bl x)) := ⟨_, rfl⟩
  have htz : t.size = 64 := by rw [ht, sb_size, hexL_length, bl_length, hx]
  have hl : lbl x = lbF ++ (t ++ lbE) := by rw [lbl, ← ht]; apply bl_inj; simp [bl_append]
  have hlz : (lbl x).size = 72 := by rw [hl, ByteArray.size_append, ByteArray.size_append, htz]; rfl
  have p1 : pfB (lbl x) lbF = true := by
    rw [pfB]
    have : bl ((lbl x).extract 0 lbF.size) = bl lbF := by
      rw [extract_take _ _ (by rw [hlz]; decide), hl, bl_append, ← bl_length, List.take_left]
    rw [this]; simp [hlz]; decide
  have p2 : cpX (lbl x) lbF = t ++ lbE := by rw [cpX, if_pos p1]; exact drop_front (lbl x) lbF (t ++ lbE) _ hl rfl
  have hz2 : (t ++ lbE).size = 67 := by rw [ByteArray.size_append, htz]; rfl
  have p3 : sfB (t ++ lbE) lbE = true := by
    rw [sfB]
    have : (t ++ lbE).extract ((t ++ lbE).size - lbE.size) (t ++ lbE).size = lbE := drop_front (t ++ lbE) t lbE _ rfl (by rw [hz2, htz]; rfl)
    rw [this]; simp [hz2]; decide
  have p4 : csX (t ++ lbE) lbE = t := by
    rw [csX, if_pos p3]
    apply bl_inj
    rw [extract_take _ _ (by omega), bl_append, hz2, show 67 - lbE.size = (bl t).length from by rw [bl_length, htz]; rfl, List.take_left]
  have p5 : smD (lbl x) = t := by rw [smD, p2, p4]
  obtain ⟨u1, u2⟩ := uh_hex x
  rw [← ht] at u1 u2
  have p6 : prE t = 0 := by rw [prE, if_pos htz, u2]
  have p7 : smB11 (lbl x) = true := by rw [smB11, p1, p2, p3, p5, p6]; rfl
  rw [smA, smEp, p7, p5]
  refine ⟨?_, rfl⟩
  show prA t = _
  rw [prA, if_pos htz, pid_ok t (by rw [u1]; exact hx), u1]
end Go.Proofs.YtpfknjnigcefgaaGreatDoor
