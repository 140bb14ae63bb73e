import Derived.Test.YtpfknjnigcefgaaGreatDoorY27
import Derived.Test.YtpfknjnigcefgaaGreatDoorY6
/- Plain facts of packs: objects, records, the trailer, where records stand; no program in sight. -/
namespace Go.Proofs.YtpfknjnigcefgaaGreatDoor
set_option linter.unusedSimpArgs false
set_option linter.unusedVariables false
open Go
/-- An object. -/
structure Ob where
  k : UInt8
  p : ByteArray
/-- An entry. -/
structure Ent where
  id : ByteArray
  k : UInt8
  off : Nat
  sz : Nat
def okO (o : Ob) : Bool := decide (1 ≤ o.k.toNat ∧ o.k.toNat ≤ 5 ∧ o.p.size ≤ 2097152)
theorem okO_iff (o : Ob) : okO o = true ↔ 1 ≤ o.k.toNat ∧ o.k.toNat ≤ 5 ∧ o.p.size ≤ 2097152 := by simp [okO]
/-- A record's payload, the record, the trailer, an object's name. -/
def obB (o : Ob) : ByteArray := ⟨#[o.k]⟩ ++ o.p
def recO (o : Ob) : ByteArray := frm (obB o)
def trB (n : Nat) : ByteArray := ⟨#[0]⟩ ++ sb (encS n)
def trl (n : Nat) : ByteArray := frm (trB n)
def nmO (o : Ob) : ByteArray := sb (sha (whl o.k.toNat o.p))
theorem obB_size (o : Ob) : (obB o).size = 1 + o.p.size := by rw [obB, ByteArray.size_append]; rfl
theorem recO_size (o : Ob) : (recO o).size = 9 + o.p.size := by rw [recO, frm_size, obB_size]; omega
theorem bl_obB (o : Ob) : bl (obB o) = o.k :: bl o.p := by rw [obB, bl_append]; rfl
theorem bl_trB (n : Nat) : bl (trB n) = 0 :: by8 (encS n) := by rw [trB, bl_append]; rfl
/-- What stands from a place on. -/
def frmO (s : ByteArray) (a : Nat) : ByteArray := s.extract a s.size
theorem bl_frmO (s : ByteArray) (a : Nat) : bl (frmO s a) = (bl s).drop a := by
  rw [frmO, bl_extract, List.take_of_length_le (by rw [bl_length]; exact Nat.le_refl _)]
theorem frmO_size (s : ByteArray) (a : Nat) : (frmO s a).size = s.size - a := by
  rw [← bl_length, bl_frmO, List.length_drop, bl_length]
/-- The object whose record stands at the front. -/
def atO (s : ByteArray) : Ob := ⟨(bl (ufP s)).headD 0, frmO (ufP s) 1⟩
def atB (s : ByteArray) : Bool := ufB s && decide (0 < (ufP s).size) && okO (atO s)
theorem atB_iff (s : ByteArray) : atB s = true ↔ ufB s = true ∧ 0 < (ufP s).size ∧ okO (atO s) = true := by
  simp [atB, Bool.and_eq_true, and_assoc]
theorem bl_ob_eq {s : ByteArray} {k : UInt8} {p : ByteArray} (h : ufP s = ⟨#[k]⟩ ++ p) : atO s = ⟨k, p⟩ := by
  have e : bl (ufP s) = k :: bl p := by rw [h, bl_append]; rfl
  unfold atO
  rw [e]
  have : frmO (ufP s) 1 = p := by apply bl_inj; rw [bl_frmO, e]; rfl
  rw [this]; rfl
theorem ob_at {s : ByteArray} (h : 0 < (ufP s).size) : obB (atO s) = ufP s := by
  apply bl_inj
  rw [bl_obB]
  have h2 : 0 < (bl (ufP s)).length := by rw [bl_length]; exact h
  unfold atO
  rw [bl_frmO]
  cases hb : bl (ufP s) with
  | nil => rw [hb] at h2; simp at h2
  | cons a r => simp
/-- What opens with a record. -/
theorem at_rec (o : Ob) (s t : ByteArray) (hs : s = recO o ++ t) (ho : okO o = true) : atB s = true ∧ atO s = o ∧ ufR s = t := by
  have hz := (okO_iff o).1 ho
  obtain ⟨h1, h2, h3⟩ := frame_uf (obB o) s t hs (by rw [obB_size]; omega)
  have e : atO s = o := bl_ob_eq (k := o.k) (p := o.p) h2
  refine ⟨?_, e, h3⟩
  rw [atB_iff]
  exact ⟨h1, by rw [h2, obB_size]; omega, by rw [e]; exact ho⟩
theorem encS_le (n : Nat) (h : n < 2 ^ 64) : (encS n).length ≤ 10 := by
  rw [encS_length]
  exact slen_le n h
theorem trB_size (n : Nat) : (trB n).size = 1 + (encS n).length := by
  rw [← bl_length, bl_trB, List.length_cons, by8_length]; omega
theorem trl_size (n : Nat) : (trl n).size = 9 + (encS n).length := by rw [trl, frm_size, trB_size]; omega
/-- What opens with a trailer has no record there. -/
theorem at_trl (n : Nat) (s t : ByteArray) (hn : n < 2 ^ 64) (hs : s = trl n ++ t) : atB s = false ∧ ufB s = true := by
  obtain ⟨h1, h2, h3⟩ := frame_uf (trB n) s t hs (by rw [trB_size]; have := encS_le n hn; omega)
  refine ⟨?_, h1⟩
  have e : atO s = ⟨0, sb (encS n)⟩ := bl_ob_eq (k := 0) (p := sb (encS n)) h2
  rw [Bool.eq_false_iff]
  intro h
  rw [atB_iff, e] at h
  have := (okO_iff _).1 h.2.2
  simp at this
/-- What is a record cut short, or a trailer, has no frame there. -/
theorem at_cut (p s : ByteArray) (k : Nat) (hp : p.size ≤ 67108864) (hk : k < 8 + p.size) (hs : bl s = (bl (frm p)).take k) : ufB s = false :=
  cut_uf p s k hp hk (by rw [hs, bl_frm])
/-- An entry at a place; the next place. -/
def enA (s : ByteArray) (a : Nat) : Ent := ⟨nmO (atO (frmO s a)), (atO (frmO s a)).k, a, (atO (frmO s a)).p.size⟩
/-- Records taken one behind the other, from behind the Mark on, for as long as they are taken. -/
inductive Rn (tk : List Ent → Ent → Bool) (s : ByteArray) : Nat → List Ent → Prop
  | z : Rn tk s 4 []
  | st {a : Nat} {l : List Ent} : Rn tk s a l → atB (frmO s a) = true → tk l (enA s a) = true → Rn tk s (a + 9 + (enA s a).sz) (l ++ [enA s a])
def Stk (tk : List Ent → Ent → Bool) (s : ByteArray) (a : Nat) (l : List Ent) : Prop := Rn tk s a l ∧ ¬ (atB (frmO s a) = true ∧ tk l (enA s a) = true)
/-- A record's frame stands within. -/
theorem at_fits {s : ByteArray} (h : atB s = true) : 9 + (atO s).p.size ≤ s.size ∧ ufR s = frmO s (9 + (atO s).p.size) ∧ (atO s).p.size ≤ 2097152 := by
  rw [atB_iff] at h
  obtain ⟨h1, h2, h3⟩ := h
  have hb := (ufB_iff s).1 h1
  obtain ⟨e1, e2, _⟩ := uf_yes h1
  have hz : (ufP s).size = ufn s := by rw [e1, ← bl_length, bl_extract, List.length_drop, List.length_take, bl_length]; omega
  have hy : (atO s).p.size = ufn s - 1 := by
    show (frmO (ufP s) 1).size = _
    rw [frmO_size, hz]
  have := (okO_iff _).1 h3
  refine ⟨by omega, ?_, this.2.2⟩
  rw [e2, frmO]
  congr 1
  omega
theorem Rn.le {tk : List Ent → Ent → Bool} {s : ByteArray} {a : Nat} {l : List Ent} (h : Rn tk s a l) (hs : 4 ≤ s.size) : 4 ≤ a ∧ a ≤ s.size ∧ 4 + 9 * l.length ≤ a := by
  induction h with
  | z => exact ⟨by omega, hs, by simp⟩
  | @st a l h1 h2 h3 ih =>
    have hf := at_fits h2
    rw [frmO_size] at hf
    have e : (enA s a).sz = (atO (frmO s a)).p.size := by simp only [enA]
    rw [List.length_append, List.length_singleton, e]
    generalize (atO (frmO s a)).p.size = z at hf
    have h1 := hf.1
    clear hf
    omega
theorem Rn.same {tk : List Ent → Ent → Bool} {s : ByteArray} : ∀ {l : List Ent} {a a' : Nat} {l' : List Ent}, Rn tk s a l → Rn tk s a' l' → l.length = l'.length → a = a' ∧ l = l' := by
  intro l a a' l' h
  induction h generalizing a' l' with
  | z =>
    intro h' hl
    cases h' with
    | z => exact ⟨rfl, rfl⟩
    | st _ _ _ => simp at hl
  | @st a l h1 h2 h3 ih =>
    intro h' hl
    cases h' with
    | z => simp at hl
    | @st b m g1 g2 g3 =>
      obtain ⟨rfl, rfl⟩ := ih g1 (by simpa using hl)
      exact ⟨rfl, rfl⟩
theorem Rn.front {tk : List Ent → Ent → Bool} {s : ByteArray} {a : Nat} {l : List Ent} (h : Rn tk s a l) : ∀ n, n < l.length → ∃ b m, Rn tk s b m ∧ m.length = n ∧ atB (frmO s b) = true ∧ tk m (enA s b) = true := by
  induction h with
  | z => intro n hn; simp at hn
  | @st a l h1 h2 h3 ih =>
    intro n hn
    by_cases e : n = l.length
    · exact ⟨a, l, h1, e.symm, h2, h3⟩
    · exact ih n (by simp at hn; omega)
/-- There is one end. -/
theorem Stk.one {tk : List Ent → Ent → Bool} {s : ByteArray} {a a' : Nat} {l l' : List Ent} (h : Stk tk s a l) (h' : Stk tk s a' l') : a = a' ∧ l = l' := by
  rcases Nat.lt_trichotomy l.length l'.length with hl | hl | hl
  · obtain ⟨b, m, r, hm, h2, h3⟩ := h'.1.front _ hl
    obtain ⟨rfl, rfl⟩ := r.same h.1 hm
    exact absurd ⟨h2, h3⟩ h.2
  · exact h.1.same h'.1 hl
  · obtain ⟨b, m, r, hm, h2, h3⟩ := h.1.front _ hl
    obtain ⟨rfl, rfl⟩ := r.same h'.1 hm
    exact absurd ⟨h2, h3⟩ h'.2
end Go.Proofs.YtpfknjnigcefgaaGreatDoor
/- Plain facts of packs: what Build makes, and what is found in it and in what is left of it. -/
namespace Go.Proofs.YtpfknjnigcefgaaGreatDoor
set_option linter.unusedSimpArgs false
set_option linter.unusedVariables false
open Go
def mk4 : List UInt8 := [109, 112, 107, 49]
theorem mk4_length : mk4.length = 4 := rfl
def lenL : List Ob → Nat
  | [] => 0
  | o :: l => 9 + o.p.size + lenL l
def recL : List Ob → List UInt8
  | [] => []
  | o :: l => bl (recO o) ++ recL l
def enO (a : Nat) (o : Ob) : Ent := ⟨nmO o, o.k, a, o.p.size⟩
def ens : Nat → List Ob → List Ent
  | _, [] => []
  | a, o :: l => enO a o :: ens (a + 9 + o.p.size) l
theorem recL_length : ∀ l : List Ob, (recL l).length = lenL l
  | [] => rfl
  | o :: l => by rw [recL, lenL, List.length_append, recL_length l, bl_length, recO_size]
theorem recL_append : ∀ a b : List Ob, recL (a ++ b) = recL a ++ recL b
  | [], b => rfl
  | o :: a, b => by rw [List.cons_append, recL, recL, recL_append a b, List.append_assoc]
theorem lenL_append : ∀ a b : List Ob, lenL (a ++ b) = lenL a + lenL b
  | [], b => by simp [lenL]
  | o :: a, b => by rw [List.cons_append, lenL, lenL, lenL_append a b]; omega
theorem ens_length : ∀ (l : List Ob) (a : Nat), (ens a l).length = l.length
  | [], _ => rfl
  | o :: l, a => by rw [ens, List.length_cons, ens_length l, List.length_cons]
theorem ens_append : ∀ (l m : List Ob) (a : Nat), ens a (l ++ m) = ens a l ++ ens (a + lenL l) m
  | [], m, a => by simp [ens, lenL]
  | o :: l, m, a => by
    rw [List.cons_append, ens, ens, ens_append l m, List.cons_append, lenL]
    congr 3
    omega
theorem ens_get : ∀ (l : List Ob) (a i : Nat) (o : Ob), l[i]? = some o → (ens a l)[i]? = some (enO (a + lenL (l.take i)) o)
  | [], _, _, _, h => by simp at h
  | o :: l, a, 0, x, h => by simp at h; subst h; simp [ens, lenL]
  | o :: l, a, i + 1, x, h => by
    rw [ens, List.getElem?_cons_succ, ens_get l _ i x (by simpa using h), List.take_succ_cons, lenL]
    congr 2
    omega
theorem lenL_take_succ (l : List Ob) (i : Nat) (o : Ob) (h : l[i]? = some o) : lenL (l.take (i + 1)) = lenL (l.take i) + (9 + o.p.size) := by
  rw [List.take_add_one, h, Option.toList_some, lenL_append]; rfl
theorem lenL_take_le (l : List Ob) (i : Nat) : lenL (l.take i) ≤ lenL l := by
  conv => rhs; rw [← List.take_append_drop i l, lenL_append]
  omega
theorem lenL_ge : ∀ l : List Ob, 9 * l.length ≤ lenL l
  | [] => by simp [lenL]
  | o :: l => by have := lenL_ge l; rw [lenL, List.length_cons]; omega
/-- Whether one of these has this name. -/
def hasN (d : List Ob) (x : ByteArray) : Bool := d.any (fun o => bl (nmO o) == bl x)
theorem hasN_iff (d : List Ob) (x : ByteArray) : hasN d x = true ↔ x ∈ d.map nmO := by
  rw [hasN, List.any_eq_true, List.mem_map]
  constructor
  · rintro ⟨o, h1, h2⟩
    exact ⟨o, h1, bl_inj (eq_of_beq h2)⟩
  · rintro ⟨o, h1, rfl⟩
    exact ⟨o, h1, beq_self_eq_true _⟩
/-- What is wrong with objects, those ahead of them done. -/
def bdE : List Ob → List Ob → Int
  | _, [] => 0
  | d, o :: l => if okO o = false ∨ d.length = 65536 ∨ 67108864 < 4 + lenL d + 9 + o.p.size + (trl (d.length + 1)).size then 1 else if hasN d (nmO o) = true then 7 else bdE (d ++ [o]) l
def buE (l : List Ob) : Int := bdE [] l
def buS (l : List Ob) : ByteArray := if buE l = 0 then ⟨(mk4 ++ recL l ++ bl (trl l.length)).toArray⟩ else ⟨#[]⟩
/-- Objects that make a pack. -/
structure GdP (l : List Ob) : Prop where
  ok : ∀ o ∈ l, okO o = true
  len : l.length ≤ 65536
  sz : 4 + lenL l + (trl l.length).size ≤ 67108864
  nd : (l.map nmO).Nodup
theorem GdP.nil : GdP [] := ⟨by simp, by simp, by rw [trl_size]; have := encS_le ([] : List Ob).length (by decide); simp only [lenL]; omega, by simp⟩
theorem bdE_ok : ∀ (l d : List Ob), GdP d → bdE d l = 0 → GdP (d ++ l)
  | [], d, hd, _ => by rw [List.append_nil]; exact hd
  | o :: l, d, hd, h => by
    rw [bdE] at h
    split at h
    · cases h
    rename_i h1
    split at h
    · cases h
    rename_i h2
    have h1' := not_or.1 h1
    have h1'' := not_or.1 h1'.2
    have hdl := hd.len
    have g : GdP (d ++ [o]) := by
      refine ⟨?_, ?_, ?_, ?_⟩
      · intro x hx
        rcases List.mem_append.1 hx with hx | hx
        · exact hd.ok x hx
        · rw [List.mem_singleton.1 hx]
          simpa using h1'.1
      · rw [List.length_append, List.length_singleton]
        have := h1''.1
        omega
      · rw [List.length_append, List.length_singleton, lenL_append]
        have := h1''.2
        simp only [lenL]
        omega
      · rw [List.map_append, List.nodup_append]
        refine ⟨hd.nd, by simp, ?_⟩
        intro a ha b hb
        simp at hb
        subst hb
        intro e
        subst e
        exact h2 ((hasN_iff d _).2 ha)
    have := bdE_ok l (d ++ [o]) g h
    rwa [List.append_assoc, List.singleton_append] at this
theorem buE_ok {l : List Ob} (h : buE l = 0) : GdP l := bdE_ok l [] GdP.nil h
theorem bdE_vals : ∀ (l d : List Ob), bdE d l = 0 ∨ bdE d l = 1 ∨ bdE d l = 7
  | [], d => .inl rfl
  | o :: l, d => by
    rw [bdE]
    split
    · exact .inr (.inl rfl)
    split
    · exact .inr (.inr rfl)
    exact bdE_vals l _
theorem buS_ok {l : List Ob} (h : buE l = 0) : bl (buS l) = mk4 ++ recL l ++ bl (trl l.length) := by
  rw [buS, if_pos h]; rfl
theorem buS_no {l : List Ob} (h : buE l ≠ 0) : buS l = ⟨#[]⟩ := if_neg h
/-- What stands at an object's place. -/
theorem at_place {s : ByteArray} {d m : List Ob} {o : Ob} {t : List UInt8} (hs : bl s = mk4 ++ (recL (d ++ o :: m) ++ t)) (ho : okO o = true) :
    atB (frmO s (4 + lenL d)) = true ∧ atO (frmO s (4 + lenL d)) = o ∧ enA s (4 + lenL d) = enO (4 + lenL d) o := by
  have e : frmO s (4 + lenL d) = recO o ++ ⟨(recL m ++ t).toArray⟩ := by
    apply bl_inj
    rw [bl_frmO, hs, bl_append, recL_append, recL]
    have : (4 + lenL d) = (mk4 ++ recL d).length := by rw [List.length_append, recL_length]; rfl
    rw [this, show mk4 ++ ((recL d ++ (bl (recO o) ++ recL m)) ++ t) = (mk4 ++ recL d) ++ (bl (recO o) ++ (recL m ++ t)) from by simp, List.drop_left]
    rfl
  obtain ⟨h1, h2, h3⟩ := at_rec o _ _ e ho
  refine ⟨h1, h2, ?_⟩
  simp only [enA, enO, h2]
/-- Whatever takes all of these records takes them. -/
theorem rn_take {tk : List Ent → Ent → Bool} {s : ByteArray} {l : List Ob} {t : List UInt8} (hs : bl s = mk4 ++ (recL l ++ t)) (hok : ∀ o ∈ l, okO o = true)
    (htk : ∀ (i : Nat) (o : Ob), l[i]? = some o → tk (ens 4 (l.take i)) (enO (4 + lenL (l.take i)) o) = true) : ∀ j, j ≤ l.length → Rn tk s (4 + lenL (l.take j)) (ens 4 (l.take j))
  | 0, _ => by simp only [List.take_zero, lenL, ens]; exact .z
  | j + 1, hj => by
    obtain ⟨o, ho⟩ : ∃ o, l[j]? = some o := ⟨l[j]'hj, List.getElem?_eq_getElem _⟩
    have ih := rn_take hs hok htk j (by omega)
    have hsp : l = l.take j ++ o :: l.drop (j + 1) := by
      conv => lhs; rw [← List.take_append_drop j l, List.drop_eq_getElem_cons hj]
      rw [List.getElem?_eq_getElem hj] at ho
      injection ho with ho
      rw [ho]
    obtain ⟨h1, h2, h3⟩ := at_place (d := l.take j) (m := l.drop (j + 1)) (o := o) (t := t) (by rw [← hsp]; exact hs) (hok o (List.mem_of_getElem? ho))
    have := Rn.st ih h1 (by rw [h3]; exact htk j o ho)
    rw [h3] at this
    rw [show 4 + lenL (l.take j) + 9 + (enO (4 + lenL (l.take j)) o).sz = 4 + (lenL (l.take j) + (9 + o.p.size)) from by simp only [enO]; omega] at this
    rw [lenL_take_succ l j o ho, List.take_add_one, ho, Option.toList_some, ens_append]
    exact this
/-- How many records are whole. -/
def cwN (n : Nat) : Nat → List Ob → Nat
  | _, [] => 0
  | a, o :: l => if a + 9 + o.p.size ≤ n then 1 + cwN n (a + 9 + o.p.size) l else 0
theorem cwN_le (n : Nat) : ∀ (l : List Ob) (a : Nat), cwN n a l ≤ l.length
  | [], _ => by simp [cwN]
  | o :: l, a => by
    rw [cwN]
    split
    · have := cwN_le n l (a + 9 + o.p.size); rw [List.length_cons]; omega
    · omega
theorem cwN_iff (n : Nat) : ∀ (l : List Ob) (a i : Nat) (o : Ob), l[i]? = some o → (a + lenL (l.take i) + (9 + o.p.size) ≤ n ↔ i < cwN n a l)
  | [], _, _, _, h => by simp at h
  | o :: l, a, 0, x, h => by
    simp at h; subst h
    rw [cwN, List.take_zero, lenL]
    split <;> omega
  | o :: l, a, i + 1, x, h => by
    have ih := cwN_iff n l (a + 9 + o.p.size) i x (by simpa using h)
    rw [cwN, List.take_succ_cons, lenL]
    split
    · rw [show a + (9 + o.p.size + lenL (l.take i)) = a + 9 + o.p.size + lenL (l.take i) from by omega, ih]; omega
    · constructor
      · intro h2; omega
      · intro h2; omega
theorem cwN_fits (n : Nat) : ∀ (l : List Ob) (a : Nat), a ≤ n → a + lenL (l.take (cwN n a l)) ≤ n
  | [], a, h => by simp [cwN, lenL]; exact h
  | o :: l, a, h => by
    rw [cwN]
    split
    · rename_i h1
      have := cwN_fits n l (a + 9 + o.p.size) h1
      rw [Nat.add_comm 1, List.take_succ_cons, lenL]; omega
    · simpa [lenL] using h
end Go.Proofs.YtpfknjnigcefgaaGreatDoor
/- Plain facts of packs: what is told of a pack, and of what is left of one. -/
namespace Go.Proofs.YtpfknjnigcefgaaGreatDoor
set_option linter.unusedSimpArgs false
set_option linter.unusedVariables false
open Go
/-- Whether an entry has this name. -/
def hasE (l : List Ent) (x : ByteArray) : Bool := l.any (fun e => bl e.id == bl x)
/-- What Salvage takes, and what Scan takes. -/
def tkA (l : List Ent) (e : Ent) : Bool := !decide (l.length = 65536)
def tkS (l : List Ent) (e : Ent) : Bool := !hasE l e.id && !decide (l.length = 65536)
theorem hasE_ens : ∀ (l : List Ob) (a : Nat) (x : ByteArray), hasE (ens a l) x = hasN l x
  | [], _, _ => rfl
  | o :: l, a, x => by
    have ih := hasE_ens l (a + 9 + o.p.size) x
    rw [hasE] at ih
    simp only [ens, hasE, hasN, List.any_cons, enO] at ih ⊢
    rw [ih]
theorem GdP.tkS {l : List Ob} (h : GdP l) (i : Nat) (o : Ob) (hi : l[i]? = some o) : tkS (ens 4 (l.take i)) (enO (4 + lenL (l.take i)) o) = true := by
  have hlt : i < l.length := (List.getElem?_eq_some_iff.1 hi).1
  have hl := h.len
  have hsp : l = l.take i ++ o :: l.drop (i + 1) := by
    conv => lhs; rw [← List.take_append_drop i l, List.drop_eq_getElem_cons hlt]
    rw [List.getElem?_eq_getElem hlt] at hi
    injection hi with hi
    rw [hi]
  have h1 : hasN (l.take i) (nmO o) = false := by
    rw [Bool.eq_false_iff]
    intro h2
    rw [hasN_iff] at h2
    have nd := h.nd
    rw [hsp, List.map_append, List.map_cons, List.nodup_append] at nd
    exact nd.2.2 _ h2 _ (by simp) rfl
  unfold Proofs.YtpfknjnigcefgaaGreatDoor.tkS
  rw [hasE_ens, ens_length, List.length_take]
  have e : (enO (4 + lenL (l.take i)) o).id = nmO o := rfl
  rw [e, h1]
  have : ¬ (min i l.length = 65536) := by omega
  simp [this]
theorem GdP.tkA {l : List Ob} (h : GdP l) (i : Nat) (o : Ob) (hi : l[i]? = some o) : tkA (ens 4 (l.take i)) (enO (4 + lenL (l.take i)) o) = true := by
  have := h.tkS i o hi
  unfold Proofs.YtpfknjnigcefgaaGreatDoor.tkS at this
  rw [Bool.and_eq_true] at this
  exact this.2
theorem GdP.trl_small {l : List Ob} (h : GdP l) : l.length < 2 ^ 64 := by have := h.len; omega
/-- A pack is gone through whole. -/
theorem stk_all {tk : List Ent → Ent → Bool} {s : ByteArray} {l : List Ob} (h : GdP l) (hs : bl s = mk4 ++ recL l ++ bl (trl l.length))
    (htk : ∀ (i : Nat) (o : Ob), l[i]? = some o → tk (ens 4 (l.take i)) (enO (4 + lenL (l.take i)) o) = true) : Stk tk s (4 + lenL l) (ens 4 l) ∧ frmO s (4 + lenL l) = trl l.length := by
  rw [List.append_assoc] at hs
  have h1 := rn_take hs h.ok htk l.length (Nat.le_refl _)
  rw [List.take_length] at h1
  have e : frmO s (4 + lenL l) = trl l.length := by
    apply bl_inj
    rw [bl_frmO, hs, ← List.append_assoc]
    have : 4 + lenL l = (mk4 ++ recL l).length := by rw [List.length_append, recL_length]; rfl
    rw [this, List.drop_left]
  refine ⟨⟨h1, ?_⟩, e⟩
  have := (at_trl l.length (frmO s (4 + lenL l)) ⟨#[]⟩ h.trl_small (by rw [e]; apply bl_inj; rw [bl_append]; simp [bl])).1
  rw [this]
  simp
/-- What is left of a pack: the records that are whole, and no frame behind them. -/
theorem stk_cut {tk : List Ent → Ent → Bool} {s : ByteArray} {l : List Ob} (n : Nat) (h : GdP l) (hn : n < 4 + lenL l + (trl l.length).size) (h4 : 4 ≤ n) (hs : bl s = (mk4 ++ recL l ++ bl (trl l.length)).take n)
    (htk : ∀ (i : Nat) (o : Ob), l[i]? = some o → tk (ens 4 (l.take i)) (enO (4 + lenL (l.take i)) o) = true) :
    Stk tk s (4 + lenL (l.take (cwN n 4 l))) (ens 4 (l.take (cwN n 4 l))) ∧ ufB (frmO s (4 + lenL (l.take (cwN n 4 l)))) = false := by
  obtain ⟨j, hj⟩ : ∃ j, j = cwN n 4 l := ⟨_, rfl⟩
  have hjl : j ≤ l.length := hj ▸ cwN_le n l 4
  have hfit : 4 + lenL (l.take j) ≤ n := hj ▸ cwN_fits n l 4 h4
  rw [← hj]
  have hA : (mk4 ++ recL (l.take j)).length = 4 + lenL (l.take j) := by rw [List.length_append, recL_length]; rfl
  have hw : mk4 ++ recL l ++ bl (trl l.length) = (mk4 ++ recL (l.take j)) ++ (recL (l.drop j) ++ bl (trl l.length)) := by
    conv => lhs; rw [← List.take_append_drop j l, recL_append]
    simp
  have hs2 : bl s = mk4 ++ (recL (l.take j) ++ (recL (l.drop j) ++ bl (trl l.length)).take (n - (4 + lenL (l.take j)))) := by
    rw [hs, hw, List.take_append, List.take_of_length_le (by omega), hA, List.append_assoc]
  have r1 := rn_take hs2 (fun o ho => h.ok o (List.mem_of_mem_take ho)) (fun i o hi => by
    have hij : i < (l.take j).length := (List.getElem?_eq_some_iff.1 hi).1
    rw [List.length_take] at hij
    rw [List.getElem?_take_of_lt (by omega)] at hi
    rw [List.take_take, Nat.min_eq_left (by omega)]
    exact htk i o hi) j (by rw [List.length_take]; omega)
  rw [List.take_take, Nat.min_self] at r1
  have hf : bl (frmO s (4 + lenL (l.take j))) = (recL (l.drop j) ++ bl (trl l.length)).take (n - (4 + lenL (l.take j))) := by
    rw [bl_frmO, hs2, ← List.append_assoc, ← hA, List.drop_left]
  have hu : ufB (frmO s (4 + lenL (l.take j))) = false := by
    by_cases e : j < l.length
    · obtain ⟨o, ho⟩ : ∃ o, l[j]? = some o := ⟨l[j]'e, List.getElem?_eq_getElem _⟩
      have hno : ¬ (4 + lenL (l.take j) + (9 + o.p.size) ≤ n) := by
        rw [cwN_iff n l 4 j o ho, ← hj]; omega
      have hok := (okO_iff o).1 (h.ok o (List.mem_of_getElem? ho))
      have hd : l.drop j = o :: l.drop (j + 1) := by
        rw [List.drop_eq_getElem_cons e]
        rw [List.getElem?_eq_getElem e] at ho
        injection ho with ho
        rw [ho]
      refine at_cut (obB o) _ (n - (4 + lenL (l.take j))) (by rw [obB_size]; omega) (by rw [obB_size]; omega) ?_
      rw [hf, hd, recL, List.append_assoc, List.take_append_of_le_length (by rw [bl_length, recO_size]; omega)]
      rfl
    · have e2 : j = l.length := by omega
      have hd : l.drop j = [] := List.drop_eq_nil_of_le (by omega)
      have htk2 : l.take j = l := List.take_of_length_le (by omega)
      refine at_cut (trB l.length) _ (n - (4 + lenL (l.take j))) (by rw [trB_size]; have := encS_le l.length h.trl_small; omega) ?_ ?_
      · have : (trl l.length).size = 8 + (trB l.length).size := by rw [trl, frm_size]
        rw [htk2] at hfit ⊢
        omega
      · rw [hf, hd]; rfl
  refine ⟨⟨r1, ?_⟩, hu⟩
  rintro ⟨h1, _⟩
  rw [atB_iff, hu] at h1
  cases h1.1
end Go.Proofs.YtpfknjnigcefgaaGreatDoor
