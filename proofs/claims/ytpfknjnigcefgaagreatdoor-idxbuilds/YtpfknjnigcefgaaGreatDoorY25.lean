import Derived.Test.YtpfknjnigcefgaaGreatDoorY24
import Derived.Test.YtpfknjnigcefgaaGreatDoorY13
/- Plain facts of packs: what Build makes, and what is found in it and in what is left of it. -/
namespace Go.Proofs.YtpfknjnigcefgaaGreatDoor
set_option linter.unusedSimpArgs false
set_option linter.unusedVariables false
open Go
def mk4 : List UInt8 := [109, 112, 107, 49]
theorem mk4_length : mk4.length = 4 := rfl
def lenL : List Ob → Nat
  | [] => 0
  | o :: l => 9 + o.p.size + lenL l
def recL : List Ob → List UInt8
  | [] => []
  | o :: l => bl (recO o) ++ recL l
def enO (a : Nat) (o : Ob) : Ent := ⟨nmO o, o.k, a, o.p.size⟩
def ens : Nat → List Ob → List Ent
  | _, [] => []
  | a, o :: l => enO a o :: ens (a + 9 + o.p.size) l
theorem recL_length : ∀ l : List Ob, (recL l).length = lenL l
  | [] => rfl
  | o :: l => by rw [recL, lenL, List.length_append, recL_length l, bl_length, recO_size]
theorem recL_append : ∀ a b : List Ob, recL (a ++ b) = recL a ++ recL b
  | [], b => rfl
  | o :: a, b => by rw [List.cons_append, recL, recL, recL_append a b, List.append_assoc]
theorem lenL_append : ∀ a b : List Ob, lenL (a ++ b) = lenL a + lenL b
  | [], b => by simp [lenL]
  | o :: a, b => by rw [List.cons_append, lenL, lenL, lenL_append a b]; omega
theorem ens_length : ∀ (l : List Ob) (a : Nat), (ens a l).length = l.length
  | [], _ => rfl
  | o :: l, a => by rw [ens, List.length_cons, ens_length l, List.length_cons]
theorem ens_append : ∀ (l m : List Ob) (a : Nat), ens a (l ++ m) = ens a l ++ ens (a + lenL l) m
  | [], m, a => by simp [ens, lenL]
  | o :: l, m, a => by
    rw [List.cons_append, ens, ens, ens_append l m, List.cons_append, lenL]
    congr 3
    omega
theorem ens_get : ∀ (l : List Ob) (a i : Nat) (o : Ob), l[i]? = some o → (ens a l)[i]? = some (enO (a + lenL (l.take i)) o)
  | [], _, _, _, h => by simp at h
  | o :: l, a, 0, x, h => by simp at h; subst h; simp [ens, lenL]
  | o :: l, a, i + 1, x, h => by
    rw [ens, List.getElem?_cons_succ, ens_get l _ i x (by simpa using h), List.take_succ_cons, lenL]
    congr 2
    omega
theorem lenL_take_succ (l : List Ob) (i : Nat) (o : Ob) (h : l[i]? = some o) : lenL (l.take (i + 1)) = lenL (l.take i) + (9 + o.p.size) := by
  rw [List.take_add_one, h, Option.toList_some, lenL_append]; rfl
theorem lenL_take_le (l : List Ob) (i : Nat) : lenL (l.take i) ≤ lenL l := by
  conv => rhs; rw [← List.take_append_drop i l, lenL_append]
  omega
theorem lenL_ge : ∀ l : List Ob, 9 * l.length ≤ lenL l
  | [] => by simp [lenL]
  | o :: l => by have := lenL_ge l; rw [lenL, List.length_cons]; omega
/-- Whether one of these has this name. -/
def hasN (d : List Ob) (x : ByteArray) : Bool := d.any (fun o => bl (nmO o) == bl x)
theorem hasN_iff (d : List Ob) (x : ByteArray) : hasN d x = true ↔ x ∈ d.map nmO := by
  rw [hasN, List.any_eq_true, List.mem_map]
  constructor
  · rintro ⟨o, h1, h2⟩
    exact ⟨o, h1, bl_inj (eq_of_beq h2)⟩
  · rintro ⟨o, h1, rfl⟩
    exact ⟨o, h1, beq_self_eq_true _⟩
/-- What is wrong with objects, those ahead of them done. -/
def bdE : List Ob → List Ob → Int
  | _, [] => 0
  | d, o :: l => if okO o = false ∨ d.length = 65536 ∨ 67108864 < 4 + lenL d + 9 + o.p.size + (trl (d.length + 1)).size then 1 else if hasN d (nmO o) = true then 7 else bdE (d ++ [o]) l
def buE (l : List Ob) : Int := bdE [] l
def buS (l : List Ob) : ByteArray := if buE l = 0 then ⟨(mk4 ++ recL l ++ bl (trl l.length)).toArray⟩ else ⟨#[]⟩
/-- Objects that make a pack. -/
structure GdP (l : List Ob) : Prop where
  ok : ∀ o ∈ l, okO o = true
  len : l.length ≤ 65536
  sz : 4 + lenL l + (trl l.length).size ≤ 67108864
  nd : (l.map nmO).Nodup
theorem GdP.nil : GdP [] := ⟨by simp, by simp, by rw [trl_size]; have := encS_le ([] : List Ob).length (by decide); simp only [lenL]; omega, by simp⟩
theorem bdE_ok : ∀ (l d : List Ob), GdP d → bdE d l = 0 → GdP (d ++ l)
  | [], d, hd, _ => by rw [List.append_nil]; exact hd
  | o :: l, d, hd, h => by
    rw [bdE] at h
    split at h
    · cases h
    rename_i h1
    split at h
    · cases h
    rename_i h2
    have h1' := not_or.1 h1
    have h1'' := not_or.1 h1'.2
    have hdl := hd.len
    have g : GdP (d ++ [o]) := by
      refine ⟨?_, ?_, ?_, ?_⟩
      · intro x hx
        rcases List.mem_append.1 hx with hx | hx
        · exact hd.ok x hx
        · rw [List.mem_singleton.1 hx]
          simpa using h1'.1
      · rw [List.length_append, List.length_singleton]
        have := h1''.1
        omega
      · rw [List.length_append, List.length_singleton, lenL_append]
        have := h1''.2
        simp only [lenL]
        omega
      · rw [List.map_append, List.nodup_append]
        refine ⟨hd.nd, by simp, ?_⟩
        intro a ha b hb
        simp at hb
        subst hb
        intro e
        subst e
        exact h2 ((hasN_iff d _).2 ha)
    have := bdE_ok l (d ++ [o]) g h
    rwa [List.append_assoc, List.singleton_append] at this
theorem buE_ok {l : List Ob} (h : buE l = 0) : GdP l := bdE_ok l [] GdP.nil h
theorem bdE_vals : ∀ (l d : List Ob), bdE d l = 0 ∨ bdE d l = 1 ∨ bdE d l = 7
  | [], d => .inl rfl
  | o :: l, d => by
    rw [bdE]
    split
    · exact .inr (.inl rfl)
    split
    · exact .inr (.inr rfl)
    exact bdE_vals l _
theorem buS_ok {l : List Ob} (h : buE l = 0) : bl (buS l) = mk4 ++ recL l ++ bl (trl l.length) := by
  rw [buS, if_pos h]; rfl
theorem buS_no {l : List Ob} (h : buE l ≠ 0) : buS l = ⟨#[]⟩ := if_neg h
/-- What stands at an object's place. -/
theorem at_place {s : ByteArray} {d m : List Ob} {o : Ob} {t : List UInt8} (hs : bl s = mk4 ++ (recL (d ++ o :: m) ++ t)) (ho : okO o = true) :
    atB (frmO s (4 + lenL d)) = true ∧ atO (frmO s (4 + lenL d)) = o ∧ enA s (4 + lenL d) = enO (4 + lenL d) o := by
  have e : frmO s (4 + lenL d) = recO o ++ ⟨(recL m ++ t).toArray⟩ := by
    apply bl_inj
    rw [bl_frmO, hs, bl_append, recL_append, recL]
    have : (4 + lenL d) = (mk4 ++ recL d).length := by rw [List.length_append, recL_length]; rfl
    rw [this, show mk4 ++ ((recL d ++ (bl (recO o) ++ recL m)) ++ t) = (mk4 ++ recL d) ++ (bl (recO o) ++ (recL m ++ t)) from by simp, List.drop_left]
    rfl
  obtain ⟨h1, h2, h3⟩ := at_rec o _ _ e ho
  refine ⟨h1, h2, ?_⟩
  simp only [enA, enO, h2]
/-- Whatever takes all of these records takes them. -/
theorem rn_take {tk : List Ent → Ent → Bool} {s : ByteArray} {l : List Ob} {t : List UInt8} (hs : bl s = mk4 ++ (recL l ++ t)) (hok : ∀ o ∈ l, okO o = true)
    (htk : ∀ (i : Nat) (o : Ob), l[i]? = some o → tk (ens 4 (l.take i)) (enO (4 + lenL (l.take i)) o) = true) : ∀ j, j ≤ l.length → Rn tk s (4 + lenL (l.take j)) (ens 4 (l.take j))
  | 0, _ => by simp only [List.take_zero, lenL, ens]; exact .z
  | j + 1, hj => by
    obtain ⟨o, ho⟩ : ∃ o, l[j]? = some o := ⟨l[j]'hj, List.getElem?_eq_getElem _⟩
    have ih := rn_take hs hok htk j (by omega)
    have hsp : l = l.take j ++ o :: l.drop (j + 1) := by
      conv => lhs; rw [← List.take_append_drop j l, List.drop_eq_getElem_cons hj]
      rw [List.getElem?_eq_getElem hj] at ho
      injection ho with ho
      rw [ho]
    obtain ⟨h1, h2, h3⟩ := at_place (d := l.take j) (m := l.drop (j + 1)) (o := o) (t := t) (by rw [← hsp]; exact hs) (hok o (List.mem_of_getElem? ho))
    have := Rn.st ih h1 (by rw [h3]; exact htk j o ho)
    rw [h3] at this
    rw [show 4 + lenL (l.take j) + 9 + (enO (4 + lenL (l.take j)) o).sz = 4 + (lenL (l.take j) + (9 + o.p.size)) from by simp only [enO]; omega] at this
    rw [lenL_take_succ l j o ho, List.take_add_one, ho, Option.toList_some, ens_append]
    exact this
/-- How many records are whole. -/
def cwN (n : Nat) : Nat → List Ob → Nat
  | _, [] => 0
  | a, o :: l => if a + 9 + o.p.size ≤ n then 1 + cwN n (a + 9 + o.p.size) l else 0
theorem cwN_le (n : Nat) : ∀ (l : List Ob) (a : Nat), cwN n a l ≤ l.length
  | [], _ => by simp [cwN]
  | o :: l, a => by
    rw [cwN]
    split
    · have := cwN_le n l (a + 9 + o.p.size); rw [List.length_cons]; omega
    · omega
theorem cwN_iff (n : Nat) : ∀ (l : List Ob) (a i : Nat) (o : Ob), l[i]? = some o → (a + lenL (l.take i) + (9 + o.p.size) ≤ n ↔ i < cwN n a l)
  | [], _, _, _, h => by simp at h
  | o :: l, a, 0, x, h => by
    simp at h; subst h
    rw [cwN, List.take_zero, lenL]
    split <;> omega
  | o :: l, a, i + 1, x, h => by
    have ih := cwN_iff n l (a + 9 + o.p.size) i x (by simpa using h)
    rw [cwN, List.take_succ_cons, lenL]
    split
    · rw [show a + (9 + o.p.size + lenL (l.take i)) = a + 9 + o.p.size + lenL (l.take i) from by omega, ih]; omega
    · constructor
      · intro h2; omega
      · intro h2; omega
theorem cwN_fits (n : Nat) : ∀ (l : List Ob) (a : Nat), a ≤ n → a + lenL (l.take (cwN n a l)) ≤ n
  | [], a, h => by simp [cwN, lenL]; exact h
  | o :: l, a, h => by
    rw [cwN]
    split
    · rename_i h1
      have := cwN_fits n l (a + 9 + o.p.size) h1
      rw [Nat.add_comm 1, List.take_succ_cons, lenL]; omega
    · simpa [lenL] using h
end Go.Proofs.YtpfknjnigcefgaaGreatDoor
/- Plain facts of packs: what is told of a pack, and of what is left of one. -/
namespace Go.Proofs.YtpfknjnigcefgaaGreatDoor
set_option linter.unusedSimpArgs false
set_option linter.unusedVariables false
open Go
/-- Whether an entry has this name. -/
def hasE (l : List Ent) (x : ByteArray) : Bool := l.any (fun e => bl e.id == bl x)
/-- What Salvage takes, and what Scan takes. -/
def tkA (l : List Ent) (e : Ent) : Bool := !decide (l.length = 65536)
def tkS (l : List Ent) (e : Ent) : Bool := !hasE l e.id && !decide (l.length = 65536)
theorem hasE_ens : ∀ (l : List Ob) (a : Nat) (x : ByteArray), hasE (ens a l) x = hasN l x
  | [], _, _ => rfl
  | o :: l, a, x => by
    have ih := hasE_ens l (a + 9 + o.p.size) x
    rw [hasE] at ih
    simp only [ens, hasE, hasN, List.any_cons, enO] at ih ⊢
    rw [ih]
theorem GdP.tkS {l : List Ob} (h : GdP l) (i : Nat) (o : Ob) (hi : l[i]? = some o) : tkS (ens 4 (l.take i)) (enO (4 + lenL (l.take i)) o) = true := by
  have hlt : i < l.length := (List.getElem?_eq_some_iff.1 hi).1
  have hl := h.len
  have hsp : l = l.take i ++ o :: l.drop (i + 1) := by
    conv => lhs; rw [← List.take_append_drop i l, List.drop_eq_getElem_cons hlt]
    rw [List.getElem?_eq_getElem hlt] at hi
    injection hi with hi
    rw [hi]
  have h1 : hasN (l.take i) (nmO o) = false := by
    rw [Bool.eq_false_iff]
    intro h2
    rw [hasN_iff] at h2
    have nd := h.nd
    rw [hsp, List.map_append, List.map_cons, List.nodup_append] at nd
    exact nd.2.2 _ h2 _ (by simp) rfl
  unfold Proofs.YtpfknjnigcefgaaGreatDoor.tkS
  rw [hasE_ens, ens_length, List.length_take]
  have e : (enO (4 + lenL (l.take i)) o).id = nmO o := rfl
  rw [e, h1]
  have : ¬ (min i l.length = 65536) := by omega
  simp [this]
theorem GdP.tkA {l : List Ob} (h : GdP l) (i : Nat) (o : Ob) (hi : l[i]? = some o) : tkA (ens 4 (l.take i)) (enO (4 + lenL (l.take i)) o) = true := by
  have := h.tkS i o hi
  unfold Proofs.YtpfknjnigcefgaaGreatDoor.tkS at this
  rw [Bool.and_eq_true] at this
  exact this.2
theorem GdP.trl_small {l : List Ob} (h : GdP l) : l.length < 2 ^ 64 := by have := h.len; omega
/-- A pack is gone through whole. -/
theorem stk_all {tk : List Ent → Ent → Bool} {s : ByteArray} {l : List Ob} (h : GdP l) (hs : bl s = mk4 ++ recL l ++ bl (trl l.length))
    (htk : ∀ (i : Nat) (o : Ob), l[i]? = some o → tk (ens 4 (l.take i)) (enO (4 + lenL (l.take i)) o) = true) : Stk tk s (4 + lenL l) (ens 4 l) ∧ frmO s (4 + lenL l) = trl l.length := by
  rw [List.append_assoc] at hs
  have h1 := rn_take hs h.ok htk l.length (Nat.le_refl _)
  rw [List.take_length] at h1
  have e : frmO s (4 + lenL l) = trl l.length := by
    apply bl_inj
    rw [bl_frmO, hs, ← List.append_assoc]
    have : 4 + lenL l = (mk4 ++ recL l).length := by rw [List.length_append, recL_length]; rfl
    rw [this, List.drop_left]
  refine ⟨⟨h1, ?_⟩, e⟩
  have := (at_trl l.length (frmO s (4 + lenL l)) ⟨#[]⟩ h.trl_small (by rw [e]; apply bl_inj; rw [bl_append]; simp [bl])).1
  rw [this]
  simp
/-- What is left of a pack: the records that are whole, and no frame behind them. -/
theorem stk_cut {tk : List Ent → Ent → Bool} {s : ByteArray} {l : List Ob} (n : Nat) (h : GdP l) (hn : n < 4 + lenL l + (trl l.length).size) (h4 : 4 ≤ n) (hs : bl s = (mk4 ++ recL l ++ bl (trl l.length)).take n)
    (htk : ∀ (i : Nat) (o : Ob), l[i]? = some o → tk (ens 4 (l.take i)) (enO (4 + lenL (l.take i)) o) = true) :
    Stk tk s (4 + lenL (l.take (cwN n 4 l))) (ens 4 (l.take (cwN n 4 l))) ∧ ufB (frmO s (4 + lenL (l.take (cwN n 4 l)))) = false := by
  obtain ⟨j, hj⟩ : ∃ j, j = cwN n 4 l := ⟨_, rfl⟩
  have hjl : j ≤ l.length := hj ▸ cwN_le n l 4
  have hfit : 4 + lenL (l.take j) ≤ n := hj ▸ cwN_fits n l 4 h4
  rw [← hj]
  have hA : (mk4 ++ recL (l.take j)).length = 4 + lenL (l.take j) := by rw [List.length_append, recL_length]; rfl
  have hw : mk4 ++ recL l ++ bl (trl l.length) = (mk4 ++ recL (l.take j)) ++ (recL (l.drop j) ++ bl (trl l.length)) := by
    conv => lhs; rw [← List.take_append_drop j l, recL_append]
    simp
  have hs2 : bl s = mk4 ++ (recL (l.take j) ++ (recL (l.drop j) ++ bl (trl l.length)).take (n - (4 + lenL (l.take j)))) := by
    rw [hs, hw, List.take_append, List.take_of_length_le (by omega), hA, List.append_assoc]
  have r1 := rn_take hs2 (fun o ho => h.ok o (List.mem_of_mem_take ho)) (fun i o hi => by
    have hij : i < (l.take j).length := (List.getElem?_eq_some_iff.1 hi).1
    rw [List.length_take] at hij
    rw [List.getElem?_take_of_lt (by omega)] at hi
    rw [List.take_take, Nat.min_eq_left (by omega)]
    exact htk i o hi) j (by rw [List.length_take]; omega)
  rw [List.take_take, Nat.min_self] at r1
  have hf : bl (frmO s (4 + lenL (l.take j))) = (recL (l.drop j) ++ bl (trl l.length)).take (n - (4 + lenL (l.take j))) := by
    rw [bl_frmO, hs2, ← List.append_assoc, ← hA, List.drop_left]
  have hu : ufB (frmO s (4 + lenL (l.take j))) = false := by
    by_cases e : j < l.length
    · obtain ⟨o, ho⟩ : ∃ o, l[j]? = some o := ⟨l[j]'e, List.getElem?_eq_getElem _⟩
      have hno : ¬ (4 + lenL (l.take j) + (9 + o.p.size) ≤ n) := by
        rw [cwN_iff n l 4 j o ho, ← hj]; omega
      have hok := (okO_iff o).1 (h.ok o (List.mem_of_getElem? ho))
      have hd : l.drop j = o :: l.drop (j + 1) := by
        rw [List.drop_eq_getElem_cons e]
        rw [List.getElem?_eq_getElem e] at ho
        injection ho with ho
        rw [ho]
      refine at_cut (obB o) _ (n - (4 + lenL (l.take j))) (by rw [obB_size]; omega) (by rw [obB_size]; omega) ?_
      rw [hf, hd, recL, List.append_assoc, List.take_append_of_le_length (by rw [bl_length, recO_size]; omega)]
      rfl
    · have e2 : j = l.length := by omega
      have hd : l.drop j = [] := List.drop_eq_nil_of_le (by omega)
      have htk2 : l.take j = l := List.take_of_length_le (by omega)
      refine at_cut (trB l.length) _ (n - (4 + lenL (l.take j))) (by rw [trB_size]; have := encS_le l.length h.trl_small; omega) ?_ ?_
      · have : (trl l.length).size = 8 + (trB l.length).size := by rw [trl, frm_size]
        rw [htk2] at hfit ⊢
        omega
      · rw [hf, hd]; rfl
  refine ⟨⟨r1, ?_⟩, hu⟩
  rintro ⟨h1, _⟩
  rw [atB_iff, hu] at h1
  cases h1.1
end Go.Proofs.YtpfknjnigcefgaaGreatDoor
/- pack.Check, framed, trailer, first. -/
namespace Go.Proofs.YtpfknjnigcefgaaGreatDoor
open Go.RowKit
set_option linter.unusedSimpArgs false
set_option linter.unusedVariables false
def ckO (o : Ob) : Int := if okO o = true then 0 else 1
theorem ret_i11 {a b : Int} (h : b = a) : Ending.returned (.int .i64 a) = .returned (.int .i64 b) := by rw [h]
set_option maxHeartbeats 400000 in
theorem check11 (o : Ob) (w : World) (hm : o.p.size ≤ maxLen) :
    Calls Tryz.prog 132 #[.agg #[.int .u8 (o.k.toNat : Int), .string o.p]] w fun e w' => e = .returned (.int .i64 (ckO o)) ∧ Below w.heap.size w w' := by
  unfold maxLen at hm
  have hr : Below w.heap.size w (w.alloc (.cells #[.int .u8 (o.k.toNat : Int), .string o.p] 157)) := (Below.refl _ _).alloc (Nat.le_refl _) _
  have HR : Hid (Below w.heap.size w (w.alloc (.cells #[.int .u8 (o.k.toNat : Int), .string o.p] 157))) := hr
  obtain ⟨k, p⟩ := o
  simp only at hm hr HR ⊢
  clear hr
  have HC : Hid (∀ b : Int, ((1 ≤ k.toNat ∧ k.toNat ≤ 5 ∧ p.size ≤ 2097152) → b = 0) → (¬ (1 ≤ k.toNat ∧ k.toNat ≤ 5 ∧ p.size ≤ 2097152) → b = 1) → ckO ⟨k, p⟩ = b) := by
    intro b h1 h2
    unfold ckO
    split
    · rename_i h; exact (h1 ((okO_iff _).1 h)).symm
    · rename_i h; exact (h2 (fun h3 => h ((okO_iff _).2 h3))).symm
  have hk := k.toNat_lt
  generalize k.toNat = n at HR HC hk ⊢
  by_cases h1 : n < 1
  · have hz : n = 0 := by omega
    subst hz
    go_enter Tryz.func132, Tryz.ntmps132
    go_wp2
    go_ret
    exact ⟨ret_i11 (HC.out _ (by omega) (by omega)), HR.out⟩
  have g1 : ¬ (n : Int) < 1 := by omega
  by_cases h2 : 5 < n
  · have g2 : (5 : Int) < n := by omega
    go_enter Tryz.func132, Tryz.ntmps132
    go_wp2
    go_ret
    exact ⟨ret_i11 (HC.out _ (by omega) (by omega)), HR.out⟩
  have g2 : ¬ (5 : Int) < n := by omega
  by_cases h3 : 2097152 < p.size
  · have g3 : (2097152 : Int) < p.size := by omega
    go_enter Tryz.func132, Tryz.ntmps132
    go_wp2
    go_ret
    exact ⟨ret_i11 (HC.out _ (by omega) (by omega)), HR.out⟩
  have g3 : ¬ (2097152 : Int) < p.size := by omega
  go_enter Tryz.func132, Tryz.ntmps132
  go_wp2
  go_ret
  exact ⟨ret_i11 (HC.out _ (by omega) (by omega)), HR.out⟩
set_option maxHeartbeats 400000 in
theorem framed_any (p : ByteArray) (w : World) (hp : p.size ≤ 67108864) :
    Calls Tryz.prog 109 #[.string p] w fun e w' => e = .returned (.string (frm p)) ∧ Below w.heap.size w w' := by
  go_enter Tryz.func109, Tryz.ntmps109
  go_wp2_with fail
  refine (frame_ok p _ hp).mono ?_
  rintro e w1 ⟨rfl, hb⟩
  go_wp2
  go_ret
  exact ⟨rfl, hb⟩
set_option maxHeartbeats 400000 in
theorem trailer_any (n : Nat) (w : World) (hn : n < 9223372036854775808) :
    Calls Tryz.prog 71 #[.int .i64 (n : Int)] w fun e w' => e = .returned (.string (trl n)) ∧ Below w.heap.size w w' := by
  have hw : IntKind.u64.wrap (n : Int) = (n : Int) := by
    simp [IntKind.wrap, IntKind.bits, IntKind.signed]; omega
  go_enter Tryz.func71, Tryz.ntmps71
  go_wp2_with fail
  refine (put_any ⟨#[0]⟩ (n : Int) _ (by omega) (by omega) (by decide)).mono ?_
  rintro e w1 ⟨rfl, hb⟩
  rw [Int.toNat_natCast]
  have HB : Hid (Below w.heap.size w w1) := hb
  clear hb
  obtain ⟨q, hq⟩ : ∃ q, q = trB n := ⟨_, rfl⟩
  have e1 : (⟨#[0]⟩ : ByteArray) ++ sb (encS n) = q := by rw [hq]; rfl
  rw [e1]
  clear e1
  have hz : q.size ≤ 67108864 := by rw [hq, trB_size]; have := encS_le n (by omega); omega
  have HQ : Hid (q = trB n) := hq
  clear hq
  go_wp2_with fail
  refine (framed_any q _ hz).mono ?_
  rintro e w2 ⟨rfl, hb2⟩
  go_wp2
  go_ret
  refine ⟨?_, HB.out.trans (hb2.mono HB.out.size)⟩
  rw [HQ.out]; rfl
theorem uf_len (s : ByteArray) : (ufP s).size ≤ 67108864 ∧ (ufR s).size ≤ s.size := by
  cases hB : ufB s with
  | false => obtain ⟨e1, e2, _⟩ := uf_no hB; rw [e1, e2]; exact ⟨by decide, Nat.zero_le _⟩
  | true =>
    obtain ⟨e1, e2, _⟩ := uf_yes hB
    have hb := (ufB_iff s).1 hB
    rw [e1, e2]
    refine ⟨?_, ?_⟩
    · rw [← bl_length, bl_extract, List.length_drop, List.length_take, bl_length]; omega
    · rw [← bl_length, bl_extract, List.length_drop, List.length_take, bl_length]; omega
/-- What first tells. -/
def ftO (s : ByteArray) : Ob := if atB s = true then atO s else ⟨0, ⟨#[]⟩⟩
def ftR (s : ByteArray) : ByteArray := if atB s = true then ufR s else ⟨#[]⟩
def ftE (s : ByteArray) : Int := if atB s = true then 0 else 4
theorem res_cell_tmp2 {P : Program} {fn : Func} {p u x : Tmp} {ty : TypeId} (h : fn.results = #[.cell p ty, .tmp u, .tmp x]) (tmps : Array Value) (w : World) (g : Nat) (t : TypeId) (cs : Array Value) (fr : Nat × Nat) (d : TypeDesc)
    (hp : tmps.getD p undef = .pointer (some ⟨g, 0, none⟩)) (hg : w.heap[g]? = some (.cells cs t fr))
    (hu : P.underlying ty = some d) (hd : (match d with | .struct _ | .array _ _ => true | _ => false) = true) (hi : (P.info? ty).map (·.size) = some cs.size) :
    (results fn tmps).run P w = .ok (.tuple #[.agg cs, tmps.getD u undef, tmps.getD x undef]) w := by
  have hp' : tmps[p]?.getD undef = .pointer (some ⟨g, 0, none⟩) := by simpa using hp
  simp [results, h, hp', asAddr, run_loadVar_row w g t ty cs fr d hg hu hd hi]
theorem st2 {w : World} {b : Nat} {x y : Value} {T : TypeId} (h : Bk w b #[x, y] T) (u v : Value) : Bk ((w.setCell ⟨b, 0, none⟩ u).setCell ⟨b, 1, none⟩ v) b #[u, v] T := (h.set 0 u).set 1 v
theorem gr2 (w : World) (b : Nat) (u v : Value) : w.grownBy ((w.setCell ⟨b, 0, none⟩ u).setCell ⟨b, 1, none⟩ v) (some b) := Lib.grownBy_setB (Lib.grownBy_setB (World.grownBy.refl _ _) 0 _) 1 _
theorem inf_ob : (Tryz.prog.info? 157).map (·.size) = some 2 := by kernel_rfl
theorem ret_ft {s : ByteArray} {k : Int} {p r : ByteArray} {e : Int} (h : ((ftO s).k.toNat : Int) = k ∧ (ftO s).p = p ∧ ftR s = r ∧ ftE s = e) :
    Ending.returned (.tuple #[.agg #[.int .u8 k, .string p], .string r, .int .i64 e]) = .returned (.tuple #[.agg #[.int .u8 ((ftO s).k.toNat : Int), .string (ftO s).p], .string (ftR s), .int .i64 (ftE s)]) := by
  obtain ⟨h1, h2, h3, h4⟩ := h
  rw [h1, h2, h3, h4]
theorem ft_no {s : ByteArray} (h : atB s = false) : ((ftO s).k.toNat : Int) = 0 ∧ (ftO s).p = ⟨#[]⟩ ∧ ftR s = ⟨#[]⟩ ∧ ftE s = 4 := by
  simp [ftO, ftR, ftE, h]
theorem ft_yes {s : ByteArray} (h : atB s = true) : ftO s = atO s ∧ ftR s = ufR s ∧ ftE s = 0 := by
  simp [ftO, ftR, ftE, h]
set_option maxHeartbeats 400000 in
set_option maxRecDepth 100000 in
theorem first_any (s : ByteArray) (w : World) (hs : s.size ≤ maxLen) :
    Calls Tryz.prog 107 #[.string s] w fun e w' => e = .returned (.tuple #[.agg #[.int .u8 ((ftO s).k.toNat : Int), .string (ftO s).p], .string (ftR s), .int .i64 (ftE s)]) ∧ Below w.heap.size w w' := by
  have hu := uf_len s
  cases hB : ufB s with
  | false =>
    obtain ⟨e1, e2, e3⟩ := uf_no hB
    have hat : atB s = false := by simp [atB, hB]
    have HAT : Hid (atB s = false) := hat
    clear hB hat hu
    go_enter Tryz.func107, Tryz.ntmps107
    go_wp2_with fail
    refine (unframe_any s _ hs).mono ?_
    rintro e w1 ⟨rfl, hb⟩
    rw [e1, e2, e3]
    clear e1 e2 e3
    have hbk : Bk w1 w.heap.size #[.int .u8 0, .string ⟨#[]⟩] 157 := (bk_new _ _ _).below hb (by rw [al_size]; omega)
    have b0 : w1.cell? ⟨w.heap.size, 0, none⟩ = some (.int .u8 0) := by rw [hbk.cell]; rfl
    have b1 : w1.cell? ⟨w.heap.size, 1, none⟩ = some (.string ⟨#[]⟩) := by rw [hbk.cell]; rfl
    have f0 := hbk.frozen 0
    have f1 := hbk.frozen 1
    have HK : Hid (Bk w1 w.heap.size #[.int .u8 0, .string ⟨#[]⟩] 157) := hbk
    have HB : Hid (Below w.heap.size w w1) := ((Below.refl _ _).alloc (Nat.le_refl _) _).trans (hb.mono (by rw [al_size]; omega))
    clear hb hbk
    go_wp2
    refine bodyPost_ret (res_cell_tmp2 (u := 3) (x := 4) rfl _ _ w.heap.size 157 #[.int .u8 0, .string ⟨#[]⟩] (0, 0) _ rfl (st2 HK.out _ _) Tryz.underlying157 rfl inf_ob) rfl ⟨ret_ft (ft_no HAT.out), ?_⟩
    exact below_own HB.out HB.out.size (gr2 _ _ _ _) (Nat.le_refl _)
  | true =>
    obtain ⟨_, _, e3⟩ := uf_yes hB
    obtain ⟨P, hP⟩ : ∃ P, P = ufP s := ⟨_, rfl⟩
    obtain ⟨R, hR⟩ : ∃ R, R = ufR s := ⟨_, rfl⟩
    rw [← hP, ← hR] at hu
    have HP : Hid (P = ufP s) := hP
    have HR : Hid (R = ufR s) := hR
    have HU : Hid (ufB s = true) := hB
    have hu1 := hu.1
    have hu2 := hu.2
    unfold maxLen at hs
    clear hB hu
    go_enter Tryz.func107, Tryz.ntmps107
    go_wp2_with fail
    refine (unframe_any s _ (by unfold maxLen; exact hs)).mono ?_
    rintro e w1 ⟨rfl, hb⟩
    rw [e3, ← hP, ← hR]
    clear e3 hP hR
    have hbk : Bk w1 w.heap.size #[.int .u8 0, .string ⟨#[]⟩] 157 := (bk_new _ _ _).below hb (by rw [al_size]; omega)
    have b0 : w1.cell? ⟨w.heap.size, 0, none⟩ = some (.int .u8 0) := by rw [hbk.cell]; rfl
    have b1 : w1.cell? ⟨w.heap.size, 1, none⟩ = some (.string ⟨#[]⟩) := by rw [hbk.cell]; rfl
    have f0 := hbk.frozen 0
    have f1 := hbk.frozen 1
    have HK : Hid (Bk w1 w.heap.size #[.int .u8 0, .string ⟨#[]⟩] 157) := hbk
    have HB : Hid (Below w.heap.size w w1) := ((Below.refl _ _).alloc (Nat.le_refl _) _).trans (hb.mono (by rw [al_size]; omega))
    have hlt := hbk.lt
    clear hb hbk
    by_cases h0 : P.size = 0
    · obtain rfl : P = ⟨#[]⟩ := by
        apply bl_inj
        rw [show bl ⟨#[]⟩ = [] from rfl]
        exact List.eq_nil_of_length_eq_zero (by rw [bl_length]; exact h0)
      have hat : atB s = false := by rw [atB, ← HP.out]; simp; intro _ h; exact absurd h (by decide)
      have HAT : Hid (atB s = false) := hat
      clear hat h0
      go_wp2
      refine bodyPost_ret (res_cell_tmp2 (u := 3) (x := 4) rfl _ _ w.heap.size 157 #[.int .u8 0, .string ⟨#[]⟩] (0, 0) _ rfl (st2 HK.out _ _) Tryz.underlying157 rfl inf_ob) rfl ⟨ret_ft (ft_no HAT.out), ?_⟩
      exact below_own HB.out HB.out.size (gr2 _ _ _ _) (Nat.le_refl _)
    have hps : 0 < P.size := by omega
    have hpz : (0 : Int) < (P.size : Int) := by omega
    have hpz1 : (1 : Int) ≤ (P.size : Int) := by omega
    have hne : P ≠ ⟨#[]⟩ := fun e => by rw [e] at h0; exact h0 rfl
    have hem : P.toList.isEmpty = false := by
      rw [Lib.toList_data]
      cases hd : P.data.toList with
      | nil => exact absurd (show P.size = 0 from by rw [← bl_length, bl, hd]; rfl) h0
      | cons a r => rfl
    clear h0 hne
    have hx1 : (P.extract 1 P.size).size ≤ 67108864 := by
      rw [← bl_length, bl_extract, List.length_drop, List.length_take, bl_length]; omega
    have HO : Hid (atO s = ⟨P[0], P.extract 1 P.size⟩) := by
      show atO s = _
      unfold atO
      rw [← HP.out, frmO]
      congr 1
      have : (bl P)[0]? = some P[0] := by rw [bl, Array.getElem?_toList]; exact Array.getElem?_eq_getElem (by exact hps)
      cases hd : bl P with
      | nil => rw [hd] at this; simp at this
      | cons a r => rw [hd] at this; simpa using this
    have HX : Hid (P.size ≤ 67108864 ∧ 0 < P.size) := ⟨hu1, hps⟩
    have H3 := fun W => check11 ⟨P[0], P.extract 1 P.size⟩ W (by unfold maxLen; simp only; omega)
    simp only at H3
    go_wp2
    go_region
    go_wp2_with fail
    obtain ⟨k, hk⟩ : ∃ k, k = P[0] := ⟨_, rfl⟩
    obtain ⟨p, hp⟩ : ∃ p, p = P.extract 1 P.size := ⟨_, rfl⟩
    rw [← hk, ← hp] at HO H3
    rw [← hp] at hx1
    simp only [← hk, ← hp]
    clear hk hp
    have hb2 := st2 HK.out (.int .u8 (k.toNat : Int)) (.string p)
    have hg2 := gr2 w1 w.heap.size (.int .u8 (k.toNat : Int)) (.string p)
    have HB2 : Hid (Below w.heap.size w ((w1.setCell ⟨w.heap.size, 0, none⟩ (.int .u8 (k.toNat : Int))).setCell ⟨w.heap.size, 1, none⟩ (.string p)).drew) := (below_own HB.out HB.out.size hg2 (Nat.le_refl _)).drew
    have hb2' : Bk ((w1.setCell ⟨w.heap.size, 0, none⟩ (.int .u8 (k.toNat : Int))).setCell ⟨w.heap.size, 1, none⟩ (.string p)).drew w.heap.size #[.int .u8 (k.toNat : Int), .string p] 157 := hb2
    generalize ((w1.setCell ⟨w.heap.size, 0, none⟩ (.int .u8 (k.toNat : Int))).setCell ⟨w.heap.size, 1, none⟩ (.string p)).drew = w2 at HB2 hb2' ⊢
    clear hb2 hg2 b0 b1 f0 f1
    refine (H3 w2).mono ?_
    rintro e w3 ⟨rfl, hb3⟩
    have hbk : Bk w3 w.heap.size #[.int .u8 (k.toNat : Int), .string p] 157 := hb2'.below hb3 hb2'.lt
    have HB3 : Hid (Below w.heap.size w w3) := HB2.out.trans (hb3.mono HB2.out.size)
    have HK3 : Hid (Bk w3 w.heap.size #[.int .u8 (k.toNat : Int), .string p] 157) := hbk
    have b0 : w3.cell? ⟨w.heap.size, 0, none⟩ = some (.int .u8 (k.toNat : Int)) := by rw [hbk.cell]; rfl
    have b1 : w3.cell? ⟨w.heap.size, 1, none⟩ = some (.string p) := by rw [hbk.cell]; rfl
    have f0 := hbk.frozen 0
    have f1 := hbk.frozen 1
    have hlt3 := hbk.lt
    clear hb3 hbk hb2' H3 hlt
    cases hok : okO ⟨k, p⟩ with
    | true =>
      have hck : ckO ⟨k, p⟩ = 0 := by rw [ckO, if_pos hok]
      rw [hck]
      have HAT : Hid (atB s = true) := by
        show atB s = true
        rw [atB_iff]
        exact ⟨HU.out, by rw [← HP.out]; exact HX.out.2, by rw [HO.out]; exact hok⟩
      clear hok hck
      go_wp2
      refine bodyPost_ret (res_cell_tmp2 (u := 3) (x := 4) rfl _ _ w.heap.size 157 #[.int .u8 (k.toNat : Int), .string p] (0, 0) _ rfl (st2 HK3.out _ _) Tryz.underlying157 rfl inf_ob) rfl ⟨ret_ft ?_, ?_⟩
      · obtain ⟨q1, q2, q3⟩ := ft_yes HAT.out
        rw [q1, q2, q3, HO.out, HR.out]
        exact ⟨rfl, rfl, rfl, rfl⟩
      · exact below_own HB3.out HB3.out.size (gr2 _ _ _ _) (Nat.le_refl _)
    | false =>
      have hck : ckO ⟨k, p⟩ = 1 := by rw [ckO, if_neg (by rw [hok]; simp)]
      rw [hck]
      have HAT : Hid (atB s = false) := by
        show atB s = false
        rw [Bool.eq_false_iff]
        intro h
        rw [atB_iff, HO.out, hok] at h
        cases h.2.2
      clear hok hck
      go_wp2
      refine bodyPost_ret (res_cell_tmp2 (u := 3) (x := 4) rfl _ _ w.heap.size 157 #[.int .u8 0, .string ⟨#[]⟩] (0, 0) _ rfl (st2 HK3.out _ _) Tryz.underlying157 rfl inf_ob) rfl ⟨ret_ft (ft_no HAT.out), ?_⟩
      exact below_own HB3.out HB3.out.size (gr2 _ _ _ _) (Nat.le_refl _)
end Go.Proofs.YtpfknjnigcefgaaGreatDoor
