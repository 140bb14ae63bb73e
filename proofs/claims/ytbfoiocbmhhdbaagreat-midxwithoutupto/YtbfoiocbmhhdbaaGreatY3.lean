import Derived.Test.YtbfoiocbmhhdbaaGreatY2
import Derived.Lib.Bytealg
/- Plain facts: the order of names. -/
namespace Go.Proofs.YtbfoiocbmhhdbaaGreat
set_option linter.unusedSimpArgs false
set_option linter.unusedVariables false
theorem cmpB_refl : ∀ a : List UInt8, Lib.compareBytes a a = 0
  | [] => rfl
  | x :: l => by
    have h : ¬ x < x := UInt8.lt_irrefl x
    rw [Lib.compareBytes, if_neg h, if_neg h, cmpB_refl l]
theorem cmpB_zero : ∀ a b : List UInt8, Lib.compareBytes a b = 0 → a = b
  | [], [], _ => rfl
  | [], _ :: _, h => by simp [Lib.compareBytes] at h
  | _ :: _, [], h => by simp [Lib.compareBytes] at h
  | x :: a, y :: b, h => by
    rw [Lib.compareBytes] at h
    split at h
    · cases h
    · split at h
      · cases h
      · rename_i h1 h2
        have e : x = y := by
          rw [UInt8.lt_iff_toNat_lt] at h1 h2
          apply UInt8.toNat_inj.1
          omega
        rw [e, cmpB_zero a b h]
theorem cmpB_swap : ∀ a b : List UInt8, Lib.compareBytes b a = - Lib.compareBytes a b
  | [], [] => rfl
  | [], _ :: _ => rfl
  | _ :: _, [] => rfl
  | x :: a, y :: b => by
    rw [Lib.compareBytes, Lib.compareBytes]
    by_cases h1 : x < y
    · have h2 : ¬ y < x := by rw [UInt8.lt_iff_toNat_lt] at *; omega
      rw [if_pos h1, if_neg h2, if_pos h1]; rfl
    · by_cases h2 : y < x
      · rw [if_pos h2, if_neg h1, if_pos h2]
      · rw [if_neg h1, if_neg h2, if_neg h2, if_neg h1, cmpB_swap a b]
theorem cmpB_range : ∀ a b : List UInt8, -1 ≤ Lib.compareBytes a b ∧ Lib.compareBytes a b ≤ 1
  | [], [] => by simp [Lib.compareBytes]
  | [], _ :: _ => by simp [Lib.compareBytes]
  | _ :: _, [] => by simp [Lib.compareBytes]
  | x :: a, y :: b => by
    rw [Lib.compareBytes]
    split
    · omega
    · split
      · omega
      · exact cmpB_range a b
end Go.Proofs.YtbfoiocbmhhdbaaGreat
/- Plain facts of indexes: entries, their order, the bytes; no program in sight. -/
namespace Go.Proofs.YtbfoiocbmhhdbaaGreat
set_option linter.unusedSimpArgs false
set_option linter.unusedVariables false
/-- An entry as it may come in. -/
structure Xe where
  id : ByteArray
  k : UInt8
  off : Int
  sz : Int
/-- May it be indexed? -/
def okX (e : Xe) : Bool := decide (1 ≤ e.k.toNat ∧ e.k.toNat ≤ 5 ∧ 4 ≤ e.off ∧ e.off ≤ 67108864 ∧ 0 ≤ e.sz ∧ e.sz ≤ 2097152)
theorem okX_iff (e : Xe) : okX e = true ↔ 1 ≤ e.k.toNat ∧ e.k.toNat ≤ 5 ∧ 4 ≤ e.off ∧ e.off ≤ 67108864 ∧ 0 ≤ e.sz ∧ e.sz ≤ 2097152 := by simp [okX]
/-- The order of names. -/
def ltN (a b : ByteArray) : Bool := decide (Lib.compareBytes (bl a) (bl b) < 0)
theorem cmpB_trans : ∀ a b c : List UInt8, Lib.compareBytes a b < 0 → Lib.compareBytes b c < 0 → Lib.compareBytes a c < 0
  | [], [], _, h, _ => by simp [Lib.compareBytes] at h
  | [], _ :: _, [], _, h => by simp [Lib.compareBytes] at h
  | [], _ :: _, _ :: _, _, _ => by simp [Lib.compareBytes]
  | _ :: _, [], _, h, _ => by simp [Lib.compareBytes] at h
  | _ :: _, _ :: _, [], _, h => by simp [Lib.compareBytes] at h
  | x :: a, y :: b, z :: c, h, g => by
    rw [Lib.compareBytes] at h g ⊢
    by_cases h1 : x < y
    · by_cases g1 : y < z
      · have : x < z := by rw [UInt8.lt_iff_toNat_lt] at *; omega
        rw [if_pos this]; omega
      · rw [if_neg g1] at g
        by_cases g2 : z < y
        · rw [if_pos g2] at g; omega
        · have : x < z := by rw [UInt8.lt_iff_toNat_lt] at *; omega
          rw [if_pos this]; omega
    · rw [if_neg h1] at h
      by_cases h2 : y < x
      · rw [if_pos h2] at h; omega
      · rw [if_neg h2] at h
        have e : x = y := by
          rw [UInt8.lt_iff_toNat_lt] at h1 h2
          apply UInt8.toNat_inj.1
          omega
        subst e
        by_cases g1 : x < z
        · rw [if_pos g1]; omega
        · rw [if_neg g1] at g ⊢
          by_cases g2 : z < x
          · rw [if_pos g2] at g; omega
          · rw [if_neg g2] at g ⊢
            exact cmpB_trans a b c h g
theorem ltN_trans {a b c : ByteArray} (h : ltN a b = true) (g : ltN b c = true) : ltN a c = true :=
  decide_eq_true (cmpB_trans _ _ _ (of_decide_eq_true h) (of_decide_eq_true g))
theorem ltN_irr (a : ByteArray) : ltN a a = false := by
  unfold ltN; rw [cmpB_refl]; rfl
theorem ltN_asym {a b : ByteArray} (h : ltN a b = true) : ltN b a = false := by
  rw [Bool.eq_false_iff]
  intro g
  have := ltN_trans h g
  rw [ltN_irr] at this
  cases this
theorem ltN_tri {a b : ByteArray} (h : ltN a b = false) (g : ltN b a = false) : a = b := by
  have h1 := of_decide_eq_false h
  have g1 := of_decide_eq_false g
  rw [cmpB_swap (bl a) (bl b)] at g1
  exact bl_inj (cmpB_zero _ _ (by omega))
theorem ltN_ne {a b : ByteArray} (h : a ≠ b) (g : ltN b a = false) : ltN a b = true := by
  cases q : ltN a b with
  | true => rfl
  | false => exact absurd (ltN_tri q g) h
/-- Names rise. -/
def Rise (l : List Xe) : Prop := l.Pairwise (fun a b => ltN a.id b.id = true)
/-- Names are apart. -/
def Aprt (l : List Xe) : Prop := l.Pairwise (fun a b => a.id ≠ b.id)
theorem Rise.apart {l : List Xe} (h : Rise l) : Aprt l := h.imp (fun {a b} q e => by rw [e, ltN_irr] at q; cases q)
theorem Aprt.perm {l l' : List Xe} (h : Aprt l) (p : l.Perm l') : Aprt l' := List.Pairwise.perm h p (fun {x y} q => Ne.symm q)
theorem rise_one {l l' : List Xe} (p : l.Perm l') (h : Rise l) (h' : Rise l') : l = l' :=
  List.Perm.eq_of_pairwise (fun a b _ _ q1 q2 => by rw [ltN_asym q1] at q2; cases q2) h h' p
theorem apart_one {l : List Xe} (h : Aprt l) : ∀ {i j : Nat} {a b : Xe}, l[i]? = some a → l[j]? = some b → a.id = b.id → i = j := by
  intro i j a b ha hb he
  obtain ⟨hi, rfl⟩ := List.getElem?_eq_some_iff.1 ha
  obtain ⟨hj, rfl⟩ := List.getElem?_eq_some_iff.1 hb
  rw [Aprt, List.pairwise_iff_getElem] at h
  rcases Nat.lt_trichotomy i j with q | q | q
  · exact absurd he (h i j hi hj q)
  · exact q
  · exact absurd he.symm (h j i hj hi q)
/-- A list that may be an index's. -/
structure OkL (l : List Xe) : Prop where
  ok : ∀ e ∈ l, okX e = true
  id : ∀ e ∈ l, e.id.size = 32
  ri : Rise l
  len : l.length ≤ 65536
/-- A number in four bytes. -/
def f4 (n : Nat) : List UInt8 := by8 (fixN 4 n)
theorem f4_len (n : Nat) : (f4 n).length = 4 := by rw [f4, by8_length, fixN_length]
theorem f4_fixV (l : List UInt8) (h : l.length = 4) : f4 (fixV l) = l := fixN_fixV 4 l h
theorem fixV_f4 (n : Nat) (h : n < 4294967296) : fixV (f4 n) = n := by
  have h1 : fixN 4 n = [n / 256 / 256 / 256 % 256, n / 256 / 256 % 256, n / 256 % 256, n % 256] := rfl
  rw [f4, h1]
  simp only [by8, List.map_cons, List.map_nil, fixV, List.foldl_cons, List.foldl_nil, UInt8.toNat_ofNat']
  omega
theorem f4_inj {m n : Nat} (hm : m < 4294967296) (hn : n < 4294967296) (h : f4 m = f4 n) : m = n := by
  rw [← fixV_f4 m hm, ← fixV_f4 n hn, h]
/-- A name's first byte; how many names' are not above, below. -/
def fst8 (e : Xe) : Nat := ((bl e.id).headD 0).toNat
def fanL (l : List Xe) (b : Nat) : Nat := l.countP (fun e => decide (fst8 e ≤ b))
def fanB (l : List Xe) (b : Nat) : Nat := l.countP (fun e => decide (fst8 e < b))
theorem fst8_lt (e : Xe) : fst8 e < 256 := UInt8.toNat_lt _
theorem fanL_le (l : List Xe) (b : Nat) : fanL l b ≤ l.length := List.countP_le_length
/-- An entry's bytes, an index's. -/
def enB (e : Xe) : List UInt8 := bl e.id ++ ([e.k] ++ (f4 e.off.toNat ++ f4 e.sz.toNat))
def fanT (l : List Xe) (n : Nat) : List UInt8 := (List.range n).flatMap (fun b => f4 (fanL l b))
def ensB (l : List Xe) : List UInt8 := l.flatMap enB
def hdB (s : ByteArray) (l : List Xe) : List UInt8 := [109, 105, 120, 49] ++ (bl s ++ (f4 l.length ++ fanT l 256))
def ixB (s : ByteArray) (l : List Xe) : List UInt8 := hdB s l ++ ensB l
theorem enB_len {e : Xe} (h : e.id.size = 32) : (enB e).length = 41 := by simp [enB, bl_length, f4_len, h]
theorem fanT_succ (l : List Xe) (n : Nat) : fanT l (n + 1) = fanT l n ++ f4 (fanL l n) := by simp [fanT, List.range_succ]
theorem fanT_len (l : List Xe) : ∀ n, (fanT l n).length = 4 * n
  | 0 => rfl
  | n + 1 => by rw [fanT_succ, List.length_append, fanT_len l n, f4_len]; omega
theorem hdB_len {s : ByteArray} (l : List Xe) (h : s.size = 32) : (hdB s l).length = 1064 := by simp [hdB, bl_length, f4_len, fanT_len, h]
theorem ensB_snoc (l : List Xe) (e : Xe) : ensB (l ++ [e]) = ensB l ++ enB e := by simp [ensB]
theorem ensB_len : ∀ {l : List Xe}, (∀ e ∈ l, e.id.size = 32) → (ensB l).length = 41 * l.length
  | [], _ => rfl
  | e :: l, h => by
    have ih := ensB_len (l := l) (fun x hx => h x (List.mem_cons_of_mem _ hx))
    show (enB e ++ ensB l).length = _
    rw [List.length_append, ih, enB_len (h e (List.mem_cons_self ..)), List.length_cons]; omega
theorem ixB_len {s : ByteArray} {l : List Xe} (h : s.size = 32) (hl : ∀ e ∈ l, e.id.size = 32) : (ixB s l).length = 1064 + 41 * l.length := by
  rw [ixB, List.length_append, hdB_len l h, ensB_len hl]
/-- What is taken from 41 bytes. -/
def rdXe (t : List UInt8) : Xe := ⟨⟨(t.take 32).toArray⟩, (t.drop 32).headD 0, (fixV ((t.drop 33).take 4) : Int), (fixV ((t.drop 37).take 4) : Int)⟩
theorem rdXe_enB {e : Xe} (h : e.id.size = 32) (ho : okX e = true) (r : List UInt8) : rdXe (enB e ++ r) = e := by
  obtain ⟨_, _, o1, o2, o3, o4⟩ := (okX_iff e).1 ho
  have hl : (bl e.id).length = 32 := by rw [bl_length, h]
  have a1 : (enB e ++ r).take 32 = bl e.id := by
    rw [enB, List.append_assoc, List.take_left' hl]
  have a2 : (enB e ++ r).drop 32 = [e.k] ++ (f4 e.off.toNat ++ f4 e.sz.toNat) ++ r := by
    rw [enB, List.append_assoc, List.drop_left' hl]
  have a3 : (enB e ++ r).drop 33 = f4 e.off.toNat ++ (f4 e.sz.toNat ++ r) := by
    rw [show 33 = 32 + 1 from rfl, ← List.drop_drop, a2]; simp
  have a4 : (enB e ++ r).drop 37 = f4 e.sz.toNat ++ r := by
    rw [show 37 = 33 + 4 from rfl, ← List.drop_drop, a3, List.drop_left' (f4_len _)]
  unfold rdXe
  rw [a1, a2, a3, a4, List.take_left' (f4_len _), List.take_left' (f4_len _), fixV_f4 _ (by omega), fixV_f4 _ (by omega)]
  obtain ⟨i, k, o, z⟩ := e
  simp only at o1 o3 ⊢
  have e1 : (⟨(bl i).toArray⟩ : ByteArray) = i := bl_inj rfl
  rw [e1, Int.toNat_of_nonneg (by omega), Int.toNat_of_nonneg o3]
  rfl
/-- As many entries as there are bytes for. -/
def rdL : Nat → List UInt8 → List Xe
  | 0, _ => []
  | n + 1, t => rdXe t :: rdL n (t.drop 41)
theorem rdL_len : ∀ n t, (rdL n t).length = n
  | 0, _ => rfl
  | n + 1, t => by rw [rdL, List.length_cons, rdL_len n]
theorem rdL_get : ∀ (n : Nat) (t : List UInt8) (i : Nat), i < n → (rdL n t)[i]? = some (rdXe (t.drop (41 * i)))
  | 0, _, _, h => by omega
  | n + 1, t, 0, _ => by simp [rdL]
  | n + 1, t, i + 1, h => by
    rw [rdL, List.getElem?_cons_succ, rdL_get n _ i (by omega), List.drop_drop]
    congr 3
    omega
theorem rdL_ensB : ∀ {l : List Xe} (r : List UInt8), (∀ e ∈ l, e.id.size = 32) → (∀ e ∈ l, okX e = true) → rdL l.length (ensB l ++ r) = l
  | [], r, _, _ => rfl
  | e :: l, r, h, ho => by
    have ih := rdL_ensB (l := l) r (fun x hx => h x (List.mem_cons_of_mem _ hx)) (fun x hx => ho x (List.mem_cons_of_mem _ hx))
    have q : ensB (e :: l) ++ r = enB e ++ (ensB l ++ r) := by show enB e ++ ensB l ++ r = _; rw [List.append_assoc]
    rw [List.length_cons, rdL, q, rdXe_enB (h e (List.mem_cons_self ..)) (ho e (List.mem_cons_self ..)), List.drop_left' (enB_len (h e (List.mem_cons_self ..))), ih]
/-- What is taken from an index's bytes. -/
def rdS (s : List UInt8) : ByteArray := ⟨((s.drop 4).take 32).toArray⟩
def rdA (s : List UInt8) : List Xe := rdL ((s.length - 1064) / 41) (s.drop 1064)
theorem rd_ix {s : ByteArray} {l : List Xe} (hs : s.size = 32) (h : OkL l) : rdS (ixB s l) = s ∧ rdA (ixB s l) = l := by
  constructor
  · unfold rdS
    apply bl_inj
    show ((ixB s l).drop 4).take 32 = bl s
    have q : ixB s l = [109, 105, 120, 49] ++ (bl s ++ (f4 l.length ++ fanT l 256 ++ ensB l)) := by simp [ixB, hdB]
    rw [q]
    show (bl s ++ (f4 l.length ++ fanT l 256 ++ ensB l)).take 32 = bl s
    rw [List.take_left' (by rw [bl_length, hs])]
  · unfold rdA
    rw [ixB_len hs h.id, show 1064 + 41 * l.length - 1064 = l.length * 41 from by omega, Nat.mul_div_cancel _ (by decide), ixB, List.drop_left' (hdB_len l hs)]
    have := rdL_ensB (l := l) [] h.id h.ok
    rwa [List.append_nil] at this
theorem ix_inj {s s' : ByteArray} {l l' : List Xe} (hs : s.size = 32) (hs' : s'.size = 32) (h : OkL l) (h' : OkL l') (e : ixB s l = ixB s' l') : s = s' ∧ l = l' := by
  have a := rd_ix hs h
  have b := rd_ix hs' h'
  rw [e] at a
  exact ⟨a.1.symm.trans b.1, a.2.symm.trans b.2⟩
end Go.Proofs.YtbfoiocbmhhdbaaGreat
/- Plain facts of merged indexes: rows, the bytes, how they are read; no program in sight. -/
namespace Go.Proofs.YtbfoiocbmhhdbaaGreat
set_option linter.unusedSimpArgs false
set_option linter.unusedVariables false
/-- A row: a pack's sum, an entry. -/
structure Mr where
  p : ByteArray
  e : Xe
/-- Where a name stands among others (their number, if nowhere). -/
def posN : List ByteArray → ByteArray → Nat
  | [], _ => 0
  | q :: l, p => if q = p then 0 else posN l p + 1
theorem posN_le : ∀ (l : List ByteArray) (p : ByteArray), posN l p ≤ l.length
  | [], _ => Nat.le_refl _
  | q :: l, p => by
    rw [posN]
    split
    · omega
    · have := posN_le l p; rw [List.length_cons]; omega
theorem posN_lt : ∀ {l : List ByteArray} {p : ByteArray}, p ∈ l → posN l p < l.length
  | [], _, h => by cases h
  | q :: l, p, h => by
    rw [posN]
    split
    · rw [List.length_cons]; omega
    · rename_i hq
      have := posN_lt (l := l) (p := p) (by
        rcases List.mem_cons.1 h with e | e
        · exact absurd e.symm hq
        · exact e)
      rw [List.length_cons]; omega
theorem posN_get : ∀ {l : List ByteArray} {p : ByteArray}, p ∈ l → l[posN l p]? = some p
  | [], _, h => by cases h
  | q :: l, p, h => by
    rw [posN]
    split
    · rename_i hq; rw [hq]; rfl
    · rename_i hq
      rw [List.getElem?_cons_succ]
      exact posN_get (by
        rcases List.mem_cons.1 h with e | e
        · exact absurd e.symm hq
        · exact e)
theorem posN_ne : ∀ {l : List ByteArray} {p q : ByteArray} {i : Nat}, i < posN l p → l[i]? = some q → q ≠ p
  | [], _, _, _, _, h => by simp at h
  | r :: l, p, q, 0, hi, h => by
    simp at h
    subst h
    intro e
    rw [posN, if_pos e] at hi
    omega
  | r :: l, p, q, i + 1, hi, h => by
    rw [List.getElem?_cons_succ] at h
    rw [posN] at hi
    split at hi
    · omega
    · exact posN_ne (by omega) h
theorem posN_not {l : List ByteArray} {p : ByteArray} (h : posN l p = l.length) : p ∉ l := fun q => by have := posN_lt q; omega
/-- The first place of a name where the names ahead are unlike it. -/
theorem posN_at : ∀ {l : List ByteArray} {p : ByteArray} {i : Nat}, l[i]? = some p → (∀ j q, j < i → l[j]? = some q → q ≠ p) → posN l p = i
  | [], _, _, h, _ => by simp at h
  | r :: l, p, 0, h, _ => by simp at h; subst h; rw [posN, if_pos rfl]
  | r :: l, p, i + 1, h, hn => by
    rw [posN, if_neg (hn 0 r (by omega) rfl)]
    rw [posN_at (l := l) (i := i) (by rwa [List.getElem?_cons_succ] at h) (fun j q hj hq => hn (j + 1) q (by omega) (by rwa [List.getElem?_cons_succ]))]
/-- Names that rise. -/
def RiN (l : List ByteArray) : Prop := l.Pairwise (fun a b => ltN a b = true)
theorem RiN.one {l : List ByteArray} (h : RiN l) : ∀ {i j : Nat} {a : ByteArray}, l[i]? = some a → l[j]? = some a → i = j := by
  intro i j a ha hb
  obtain ⟨hi, e1⟩ := List.getElem?_eq_some_iff.1 ha
  obtain ⟨hj, e2⟩ := List.getElem?_eq_some_iff.1 hb
  rw [RiN, List.pairwise_iff_getElem] at h
  rcases Nat.lt_trichotomy i j with q | q | q
  · have := h i j hi hj q
    rw [e1, e2, ltN_irr] at this; cases this
  · exact q
  · have := h j i hj hi q
    rw [e1, e2, ltN_irr] at this; cases this
theorem RiN.pos {l : List ByteArray} (h : RiN l) {i : Nat} {a : ByteArray} (ha : l[i]? = some a) : posN l a = i :=
  h.one (posN_get (List.mem_of_getElem? ha)) ha
/-- Rows that rise by their names. -/
def RiM (l : List Mr) : Prop := Rise (l.map Mr.e)
/-- Packs and rows that may be a merged index's. -/
structure OkM (ps : List ByteArray) (l : List Mr) : Prop where
  psz : ∀ p ∈ ps, p.size = 32
  pri : RiN ps
  pln : ps.length ≤ 4096
  ok : ∀ r ∈ l, okX r.e = true
  id : ∀ r ∈ l, r.e.id.size = 32
  ri : RiM l
  len : l.length ≤ 1048576
  mem : ∀ r ∈ l, r.p ∈ ps
/-- The bytes. -/
def psB (ps : List ByteArray) : List UInt8 := ps.flatMap bl
def rwB (ps : List ByteArray) (r : Mr) : List UInt8 := bl r.e.id ++ (f4 (posN ps r.p) ++ ([r.e.k] ++ (f4 r.e.off.toNat ++ f4 r.e.sz.toNat)))
def rwsB (ps : List ByteArray) (l : List Mr) : List UInt8 := l.flatMap (rwB ps)
def mhB (ps : List ByteArray) : List UInt8 := [109, 109, 120, 49] ++ (f4 ps.length ++ psB ps)
def mfB (l : List Mr) : List UInt8 := f4 l.length ++ fanT (l.map Mr.e) 256
def mxB (ps : List ByteArray) (l : List Mr) : List UInt8 := mhB ps ++ (mfB l ++ rwsB ps l)
theorem psB_len : ∀ {ps : List ByteArray}, (∀ p ∈ ps, p.size = 32) → (psB ps).length = 32 * ps.length
  | [], _ => rfl
  | p :: ps, h => by
    have ih := psB_len (ps := ps) (fun x hx => h x (List.mem_cons_of_mem _ hx))
    show (bl p ++ psB ps).length = _
    rw [List.length_append, ih, bl_length, h p (List.mem_cons_self ..), List.length_cons]; omega
theorem psB_snoc (ps : List ByteArray) (p : ByteArray) : psB (ps ++ [p]) = psB ps ++ bl p := by simp [psB]
theorem rwB_len {ps : List ByteArray} {r : Mr} (h : r.e.id.size = 32) : (rwB ps r).length = 45 := by simp [rwB, bl_length, f4_len, h]
theorem rwsB_snoc (ps : List ByteArray) (l : List Mr) (r : Mr) : rwsB ps (l ++ [r]) = rwsB ps l ++ rwB ps r := by simp [rwsB]
theorem rwsB_len {ps : List ByteArray} : ∀ {l : List Mr}, (∀ r ∈ l, r.e.id.size = 32) → (rwsB ps l).length = 45 * l.length
  | [], _ => rfl
  | e :: l, h => by
    have ih := rwsB_len (ps := ps) (l := l) (fun x hx => h x (List.mem_cons_of_mem _ hx))
    show (rwB ps e ++ rwsB ps l).length = _
    rw [List.length_append, ih, rwB_len (h e (List.mem_cons_self ..)), List.length_cons]; omega
theorem mhB_len {ps : List ByteArray} (h : ∀ p ∈ ps, p.size = 32) : (mhB ps).length = 8 + 32 * ps.length := by
  simp [mhB, f4_len, psB_len h]; omega
theorem mfB_len (l : List Mr) : (mfB l).length = 1028 := by simp [mfB, f4_len, fanT_len]
theorem mxB_len {ps : List ByteArray} {l : List Mr} (h : ∀ p ∈ ps, p.size = 32) (hl : ∀ r ∈ l, r.e.id.size = 32) : (mxB ps l).length = 1036 + 32 * ps.length + 45 * l.length := by
  rw [mxB, List.length_append, List.length_append, mhB_len h, mfB_len, rwsB_len hl]; omega
/-- What is taken of names, one behind the other. -/
def rdPk : Nat → List UInt8 → List ByteArray
  | 0, _ => []
  | n + 1, t => ⟨(t.take 32).toArray⟩ :: rdPk n (t.drop 32)
theorem rdPk_len : ∀ n t, (rdPk n t).length = n
  | 0, _ => rfl
  | n + 1, t => by rw [rdPk, List.length_cons, rdPk_len n]
theorem rdPk_get : ∀ (n : Nat) (t : List UInt8) (i : Nat), i < n → (rdPk n t)[i]? = some ⟨((t.drop (32 * i)).take 32).toArray⟩
  | 0, _, _, h => by omega
  | n + 1, t, 0, _ => by simp [rdPk]
  | n + 1, t, i + 1, h => by
    rw [rdPk, List.getElem?_cons_succ, rdPk_get n _ i (by omega), List.drop_drop]
    congr 5
    omega
theorem rdPk_psB : ∀ {ps : List ByteArray} (r : List UInt8), (∀ p ∈ ps, p.size = 32) → rdPk ps.length (psB ps ++ r) = ps
  | [], r, _ => rfl
  | p :: ps, r, h => by
    have ih := rdPk_psB (ps := ps) r (fun x hx => h x (List.mem_cons_of_mem _ hx))
    have hp : (bl p).length = 32 := by rw [bl_length, h p (List.mem_cons_self ..)]
    have q : psB (p :: ps) ++ r = bl p ++ (psB ps ++ r) := by show bl p ++ psB ps ++ r = _; rw [List.append_assoc]
    rw [List.length_cons, rdPk, q, List.take_left' hp, List.drop_left' hp, ih]
    rw [show (⟨(bl p).toArray⟩ : ByteArray) = p from bl_inj rfl]
/-- What is taken from 45 bytes, and of which pack. -/
def rdXm (t : List UInt8) : Xe := ⟨⟨(t.take 32).toArray⟩, (t.drop 36).headD 0, (fixV ((t.drop 37).take 4) : Int), (fixV ((t.drop 41).take 4) : Int)⟩
def rdNm (t : List UInt8) : Nat := fixV ((t.drop 32).take 4)
def zN : ByteArray := ⟨(List.replicate 32 (0 : UInt8)).toArray⟩
def zMr : Mr := ⟨zN, ⟨zN, 0, 0, 0⟩⟩
def rdMr (ps : List ByteArray) (t : List UInt8) : Mr := match ps[rdNm t]? with
  | some p => ⟨p, rdXm t⟩
  | none => zMr
def rdM (ps : List ByteArray) : Nat → List UInt8 → List Mr
  | 0, _ => []
  | n + 1, t => rdMr ps t :: rdM ps n (t.drop 45)
theorem rdM_len (ps : List ByteArray) : ∀ n t, (rdM ps n t).length = n
  | 0, _ => rfl
  | n + 1, t => by rw [rdM, List.length_cons, rdM_len ps n]
theorem rdM_get (ps : List ByteArray) : ∀ (n : Nat) (t : List UInt8) (i : Nat), i < n → (rdM ps n t)[i]? = some (rdMr ps (t.drop (45 * i)))
  | 0, _, _, h => by omega
  | n + 1, t, 0, _ => by simp [rdM]
  | n + 1, t, i + 1, h => by
    rw [rdM, List.getElem?_cons_succ, rdM_get ps n _ i (by omega), List.drop_drop]
    congr 3
    omega
theorem rdMr_rwB {ps : List ByteArray} {m : Mr} (hp : ps.length ≤ 4096) (hm : m.p ∈ ps) (h : m.e.id.size = 32) (ho : okX m.e = true) (r : List UInt8) : rdMr ps (rwB ps m ++ r) = m := by
  obtain ⟨_, _, o1, o2, o3, o4⟩ := (okX_iff m.e).1 ho
  have hl : (bl m.e.id).length = 32 := by rw [bl_length, h]
  have hq := posN_lt hm
  have a1 : (rwB ps m ++ r).take 32 = bl m.e.id := by
    rw [rwB, List.append_assoc, List.take_left' hl]
  have a2 : (rwB ps m ++ r).drop 32 = f4 (posN ps m.p) ++ ([m.e.k] ++ (f4 m.e.off.toNat ++ f4 m.e.sz.toNat) ++ r) := by
    rw [rwB, List.append_assoc, List.drop_left' hl, List.append_assoc]
  have a3 : (rwB ps m ++ r).drop 36 = [m.e.k] ++ (f4 m.e.off.toNat ++ f4 m.e.sz.toNat) ++ r := by
    rw [show 36 = 32 + 4 from rfl, ← List.drop_drop, a2, List.drop_left' (f4_len _)]
  have a4 : (rwB ps m ++ r).drop 37 = f4 m.e.off.toNat ++ (f4 m.e.sz.toNat ++ r) := by
    rw [show 37 = 36 + 1 from rfl, ← List.drop_drop, a3]; simp
  have a5 : (rwB ps m ++ r).drop 41 = f4 m.e.sz.toNat ++ r := by
    rw [show 41 = 37 + 4 from rfl, ← List.drop_drop, a4, List.drop_left' (f4_len _)]
  have n1 : rdNm (rwB ps m ++ r) = posN ps m.p := by
    unfold rdNm
    rw [a2, List.take_left' (f4_len _), fixV_f4 _ (by omega)]
  have x1 : rdXm (rwB ps m ++ r) = m.e := by
    unfold rdXm
    rw [a1, a3, a4, a5, List.take_left' (f4_len _), List.take_left' (f4_len _), fixV_f4 _ (by omega), fixV_f4 _ (by omega)]
    obtain ⟨pp, i, k, o, z⟩ := m
    simp only at o1 o3 ⊢
    have e1 : (⟨(bl i).toArray⟩ : ByteArray) = i := bl_inj rfl
    rw [e1, Int.toNat_of_nonneg (by omega), Int.toNat_of_nonneg o3]
    rfl
  rw [rdMr, n1, posN_get hm, x1]
theorem rdM_rwsB {ps : List ByteArray} (hp : ps.length ≤ 4096) : ∀ {l : List Mr} (r : List UInt8), (∀ m ∈ l, m.p ∈ ps) → (∀ m ∈ l, m.e.id.size = 32) → (∀ m ∈ l, okX m.e = true) → rdM ps l.length (rwsB ps l ++ r) = l
  | [], r, _, _, _ => rfl
  | e :: l, r, hm, h, ho => by
    have ih := rdM_rwsB hp (l := l) r (fun x hx => hm x (List.mem_cons_of_mem _ hx)) (fun x hx => h x (List.mem_cons_of_mem _ hx)) (fun x hx => ho x (List.mem_cons_of_mem _ hx))
    have q : rwsB ps (e :: l) ++ r = rwB ps e ++ (rwsB ps l ++ r) := by show rwB ps e ++ rwsB ps l ++ r = _; rw [List.append_assoc]
    rw [List.length_cons, rdM, q, rdMr_rwB hp (hm e (List.mem_cons_self ..)) (h e (List.mem_cons_self ..)) (ho e (List.mem_cons_self ..)), List.drop_left' (rwB_len (h e (List.mem_cons_self ..))), ih]
/-- What is left behind n bytes, if there are so many; how many packs are taken; which; the rows. -/
def rstB (l : List UInt8) (n : Nat) : List UInt8 := if n ≤ l.length then l.drop n else l
def tkV (l : List UInt8) : Nat := if 4 ≤ l.length then fixV (l.take 4) else 0
def tk2 (s : List UInt8) : List UInt8 := rstB (rstB s 4) 4
def tkPn (s : List UInt8) : Nat := min (min (tkV (rstB s 4)) 4096) ((tk2 s).length / 32)
def tkPs (s : List UInt8) : List ByteArray := rdPk (tkPn s) (tk2 s)
def tk4 (s : List UInt8) : List UInt8 := rstB ((tk2 s).drop (32 * tkPn s)) 1028
def tkMn (s : List UInt8) : Nat := min 1048576 ((tk4 s).length / 45)
def tkMs (s : List UInt8) : List Mr := rdM (tkPs s) (tkMn s) (tk4 s)
theorem rstB_ok {l : List UInt8} {n : Nat} (h : n ≤ l.length) : rstB l n = l.drop n := if_pos h
theorem tkPn_le (s : List UInt8) : tkPn s ≤ 4096 ∧ 32 * tkPn s ≤ (tk2 s).length := by unfold tkPn; omega
theorem tkMn_le (s : List UInt8) : tkMn s ≤ 1048576 ∧ 45 * tkMn s ≤ (tk4 s).length := by unfold tkMn; omega
theorem tkPs_len (s : List UInt8) : (tkPs s).length = tkPn s := rdPk_len _ _
theorem tkMs_len (s : List UInt8) : (tkMs s).length = tkMn s := rdM_len _ _ _
theorem rdMr_mem (ps : List ByteArray) (t : List UInt8) : rdMr ps t = zMr ∨ (rdMr ps t).p ∈ ps := by
  unfold rdMr
  cases h : ps[rdNm t]? with
  | none => exact .inl rfl
  | some p => exact .inr (List.mem_of_getElem? h)
theorem tkMs_mem (s : List UInt8) : ∀ r ∈ tkMs s, r = zMr ∨ r.p ∈ tkPs s := fun r hr => by
  obtain ⟨i, hi⟩ := List.getElem?_of_mem hr
  have hl : i < tkMn s := by rw [← tkMs_len]; exact (List.getElem?_eq_some_iff.1 hi).1
  rw [tkMs, rdM_get _ _ _ _ hl] at hi
  injection hi with hi
  rw [← hi]
  exact rdMr_mem _ _
theorem tk_mx {ps : List ByteArray} {l : List Mr} (h : OkM ps l) : tkPs (mxB ps l) = ps ∧ tkMs (mxB ps l) = l := by
  have hlen := mxB_len (ps := ps) (l := l) h.psz h.id
  have d4 : (mxB ps l).drop 4 = f4 ps.length ++ (psB ps ++ (mfB l ++ rwsB ps l)) := by
    simp [mxB, mhB]
  have d8 : (mxB ps l).drop 8 = psB ps ++ (mfB l ++ rwsB ps l) := by
    rw [show 8 = 4 + 4 from rfl, ← List.drop_drop, d4, List.drop_left' (f4_len _)]
  have r4 : rstB (mxB ps l) 4 = (mxB ps l).drop 4 := rstB_ok (by omega)
  have l4 : ((mxB ps l).drop 4).length = (mxB ps l).length - 4 := List.length_drop
  have r8 : tk2 (mxB ps l) = (mxB ps l).drop 8 := by rw [tk2, r4, rstB_ok (by omega), List.drop_drop]
  have hv : tkV (rstB (mxB ps l) 4) = ps.length := by
    have := h.pln
    rw [tkV, r4, if_pos (by omega), d4, List.take_left' (f4_len _), fixV_f4 _ (by omega)]
  have hn : tkPn (mxB ps l) = ps.length := by
    have := h.pln
    unfold tkPn
    rw [hv, r8, List.length_drop, hlen]
    omega
  have hp : tkPs (mxB ps l) = ps := by rw [tkPs, hn, r8, d8, rdPk_psB _ h.psz]
  refine ⟨hp, ?_⟩
  have dr : (mxB ps l).drop (1036 + 32 * ps.length) = rwsB ps l := by
    have e : mxB ps l = (mhB ps ++ mfB l) ++ rwsB ps l := by rw [mxB, List.append_assoc]
    rw [e, List.drop_left' (by rw [List.length_append, mhB_len h.psz, mfB_len]; omega)]
  have r9 : tk4 (mxB ps l) = rwsB ps l := by
    rw [tk4, r8, hn, List.drop_drop, rstB_ok (by rw [List.length_drop]; omega), List.drop_drop, ← dr]
    congr 1
    omega
  have hm : tkMn (mxB ps l) = l.length := by
    have := h.len
    unfold tkMn
    rw [r9, rwsB_len h.id]
    omega
  rw [tkMs, hp, hm, r9]
  have := rdM_rwsB h.pln (l := l) [] h.mem h.id h.ok
  rwa [List.append_nil] at this
theorem mx_inj {ps ps' : List ByteArray} {l l' : List Mr} (h : OkM ps l) (h' : OkM ps' l') (e : mxB ps l = mxB ps' l') : ps = ps' ∧ l = l' := by
  have a := tk_mx h
  have b := tk_mx h'
  rw [e] at a
  exact ⟨a.1.symm.trans b.1, a.2.symm.trans b.2⟩
/-- Is it a merged index, of these packs and rows? -/
structure IsMx (s : ByteArray) (ps : List ByteArray) (l : List Mr) : Prop where
  ok : OkM ps l
  bs : bl s = mxB ps l
theorem IsMx.one {s : ByteArray} {ps ps' : List ByteArray} {l l' : List Mr} (h : IsMx s ps l) (h' : IsMx s ps' l') : ps = ps' ∧ l = l' := mx_inj h.ok h'.ok (h.bs.symm.trans h'.bs)
theorem IsMx.take {s : ByteArray} {ps : List ByteArray} {l : List Mr} (h : IsMx s ps l) : tkPs (bl s) = ps ∧ tkMs (bl s) = l := by rw [h.bs]; exact tk_mx h.ok
end Go.Proofs.YtbfoiocbmhhdbaaGreat
/- Plain facts of merging: rows by their names, the merged rows; no program in sight. -/
namespace Go.Proofs.YtbfoiocbmhhdbaaGreat
set_option linter.unusedSimpArgs false
set_option linter.unusedVariables false
/-- Rows of unlike names. -/
def ApM (d : List Mr) : Prop := d.Pairwise (fun a b => a.e.id ≠ b.e.id)
/-- The row of a name. -/
def fdM (d : List Mr) (x : ByteArray) : Option Mr := d.find? (fun r => decide (r.e.id = x))
theorem fdM_nil (x : ByteArray) : fdM [] x = none := rfl
theorem fdM_some {d : List Mr} {x : ByteArray} {r : Mr} (h : fdM d x = some r) : r ∈ d ∧ r.e.id = x := ⟨List.mem_of_find?_eq_some h, of_decide_eq_true (List.find?_some (p := fun e : Mr => decide (e.e.id = x)) h)⟩
theorem fdM_none {d : List Mr} {x : ByteArray} : fdM d x = none ↔ ∀ r ∈ d, r.e.id ≠ x := by
  unfold fdM
  rw [List.find?_eq_none]
  simp
theorem fdM_cons (q : Mr) (d : List Mr) (x : ByteArray) : fdM (q :: d) x = if q.e.id = x then some q else fdM d x := by
  unfold fdM
  rw [List.find?_cons]
  by_cases h : q.e.id = x <;> simp [h]
theorem fdM_mem {d : List Mr} (h : ApM d) {r : Mr} (hr : r ∈ d) : fdM d r.e.id = some r := by
  induction d with
  | nil => cases hr
  | cons q d ih =>
    rw [fdM_cons]
    rcases List.mem_cons.1 hr with rfl | hm
    · rw [if_pos rfl]
    · rw [if_neg ((List.pairwise_cons.1 h).1 r hm)]
      exact ih (List.pairwise_cons.1 h).2 hm
/-- A row put in, in the place of the one of its name if there is one. -/
def ptM : List Mr → Mr → List Mr
  | [], r => [r]
  | q :: d, r => if q.e.id = r.e.id then r :: d else q :: ptM d r
theorem fdM_ptM : ∀ (d : List Mr) (r : Mr) (x : ByteArray), fdM (ptM d r) x = if r.e.id = x then some r else fdM d x
  | [], r, x => by rw [ptM, fdM_cons]
  | q :: d, r, x => by
    rw [ptM]
    split
    · rename_i h
      rw [fdM_cons, fdM_cons, h]
      split <;> rfl
    · rename_i h
      rw [fdM_cons, fdM_cons, fdM_ptM d r x]
      by_cases h1 : q.e.id = x
      · rw [if_pos h1, if_pos h1, if_neg (fun e => h (h1.trans e.symm))]
      · rw [if_neg h1, if_neg h1]
theorem ptM_mem : ∀ {d : List Mr} {r q : Mr}, q ∈ ptM d r → q = r ∨ q ∈ d
  | [], r, q, h => by rw [ptM] at h; exact .inl (List.mem_singleton.1 h)
  | p :: d, r, q, h => by
    rw [ptM] at h
    split at h
    · rcases List.mem_cons.1 h with e | e
      · exact .inl e
      · exact .inr (List.mem_cons_of_mem _ e)
    · rcases List.mem_cons.1 h with e | e
      · exact .inr (by rw [e]; exact List.mem_cons_self ..)
      · rcases ptM_mem e with f | f
        · exact .inl f
        · exact .inr (List.mem_cons_of_mem _ f)
theorem ptM_self : ∀ (d : List Mr) (r : Mr), r ∈ ptM d r
  | [], r => by rw [ptM]; exact List.mem_singleton.2 rfl
  | p :: d, r => by
    rw [ptM]
    split
    · exact List.mem_cons_self ..
    · exact List.mem_cons_of_mem _ (ptM_self d r)
theorem ptM_keep : ∀ {d : List Mr} {r q : Mr}, q ∈ d → q.e.id ≠ r.e.id → q ∈ ptM d r
  | [], r, q, h, _ => by cases h
  | p :: d, r, q, h, hn => by
    rw [ptM]
    rcases List.mem_cons.1 h with e | e
    · subst e; rw [if_neg hn]; exact List.mem_cons_self ..
    · split
      · exact List.mem_cons_of_mem _ e
      · exact List.mem_cons_of_mem _ (ptM_keep e hn)
theorem ptM_len : ∀ (d : List Mr) (r : Mr), (ptM d r).length = if (fdM d r.e.id).isSome then d.length else d.length + 1
  | [], r => by rw [ptM, fdM_nil]; rfl
  | p :: d, r => by
    rw [ptM, fdM_cons]
    split
    · simp
    · rw [List.length_cons, ptM_len d r]
      split <;> simp [*]
theorem ptM_ap : ∀ {d : List Mr} {r : Mr}, ApM d → ApM (ptM d r)
  | [], r, _ => by rw [ptM]; exact List.pairwise_singleton _ _
  | p :: d, r, h => by
    obtain ⟨h1, h2⟩ := List.pairwise_cons.1 h
    rw [ptM]
    split
    · rename_i e
      exact List.pairwise_cons.2 ⟨fun q hq => by rw [← e]; exact h1 q hq, h2⟩
    · rename_i e
      refine List.pairwise_cons.2 ⟨fun q hq => ?_, ptM_ap h2⟩
      rcases ptM_mem hq with f | f
      · rw [f]; exact e
      · exact h1 q f
/-- One entry of a pack's index more. -/
def adM (s : ByteArray) (d : List Mr) (n : Xe) : List Mr := match fdM d n.id with
  | none => if 1048576 < d.length then d else ptM d ⟨s, n⟩
  | some r => if ltN r.p s = true then d else ptM d ⟨s, n⟩
/-- Indexes with their packs' sums; what is held of them. -/
structure Hld (xs : List (ByteArray × List Xe)) (d : List Mr) : Prop where
  ap : ApM d
  src : ∀ r ∈ d, ∃ q ∈ xs, q.1 = r.p ∧ r.e ∈ q.2
  len : d.length ≤ 1048577
  all : d.length ≤ 1048576 → ∀ q ∈ xs, ∀ e ∈ q.2, ∃ r ∈ d, r.e.id = e.id ∧ ltN q.1 r.p = false
theorem Hld.nil : Hld [] [] := ⟨List.Pairwise.nil, fun r h => (by cases h), by simp, fun _ q h => (by cases h)⟩
/-- Part of one index more. -/
theorem Hld.pack {xs : List (ByteArray × List Xe)} {d : List Mr} (h : Hld xs d) (s : ByteArray) : Hld (xs ++ [(s, [])]) d :=
  ⟨h.ap, fun r hr => by obtain ⟨q, a, b⟩ := h.src r hr; exact ⟨q, List.mem_append_left _ a, b⟩, h.len, fun hl q hq e he => by
    rcases List.mem_append.1 hq with a | a
    · exact h.all hl q a e he
    · rw [List.mem_singleton.1 a] at he; cases he⟩
theorem Hld.add {xs : List (ByteArray × List Xe)} {d : List Mr} {s : ByteArray} {l : List Xe} {n : Xe} (h : Hld (xs ++ [(s, l)]) d) : Hld (xs ++ [(s, l ++ [n])]) (adM s d n) := by
  have hsrc : ∀ r ∈ d, ∃ q ∈ xs ++ [(s, l ++ [n])], q.1 = r.p ∧ r.e ∈ q.2 := fun r hr => by
    obtain ⟨q, a, b⟩ := h.src r hr
    rcases List.mem_append.1 a with a | a
    · exact ⟨q, List.mem_append_left _ a, b⟩
    · rw [List.mem_singleton.1 a] at b
      exact ⟨(s, l ++ [n]), List.mem_append_right _ (List.mem_singleton.2 rfl), b.1, List.mem_append_left _ b.2⟩
  have hmem : ∀ {r : Mr}, r ∈ ptM d ⟨s, n⟩ → ∃ q ∈ xs ++ [(s, l ++ [n])], q.1 = r.p ∧ r.e ∈ q.2 := fun {r} hr => by
    rcases ptM_mem hr with e | e
    · subst e
      exact ⟨(s, l ++ [n]), List.mem_append_right _ (List.mem_singleton.2 rfl), rfl, List.mem_append_right _ (List.mem_singleton.2 rfl)⟩
    · exact hsrc r e
  have hold : ∀ q ∈ xs ++ [(s, l ++ [n])], ∀ e ∈ q.2, (∃ q' ∈ xs ++ [(s, l)], q'.1 = q.1 ∧ e ∈ q'.2) ∨ (q.1 = s ∧ e = n) := fun q hq e he => by
    rcases List.mem_append.1 hq with a | a
    · exact .inl ⟨q, List.mem_append_left _ a, rfl, he⟩
    · rw [List.mem_singleton.1 a] at he ⊢
      rcases List.mem_append.1 he with b | b
      · exact .inl ⟨(s, l), List.mem_append_right _ (List.mem_singleton.2 rfl), rfl, b⟩
      · exact .inr ⟨rfl, List.mem_singleton.1 b⟩
  unfold adM
  cases hf : fdM d n.id with
  | none =>
    simp only
    split
    · rename_i hl
      exact ⟨h.ap, hsrc, h.len, fun hl2 => by omega⟩
    · rename_i hl
      have hlen : (ptM d ⟨s, n⟩).length = d.length + 1 := by rw [ptM_len]; simp [hf]
      refine ⟨ptM_ap h.ap, fun r hr => hmem hr, by omega, fun hl2 q hq e he => ?_⟩
      rcases hold q hq e he with ⟨q', a, b, c⟩ | ⟨a, b⟩
      · obtain ⟨r, r1, r2, r3⟩ := h.all (by omega) q' a e c
        rw [b] at r3
        exact ⟨r, ptM_keep r1 (fdM_none.1 hf r r1), r2, r3⟩
      · exact ⟨⟨s, n⟩, ptM_self _ _, by rw [b], by rw [a]; exact ltN_irr _⟩
  | some r0 =>
    obtain ⟨m1, m2⟩ := fdM_some hf
    simp only
    split
    · rename_i hlt
      refine ⟨h.ap, hsrc, h.len, fun hl2 q hq e he => ?_⟩
      rcases hold q hq e he with ⟨q', a, b, c⟩ | ⟨a, b⟩
      · obtain ⟨r, r1, r2, r3⟩ := h.all hl2 q' a e c
        rw [b] at r3
        exact ⟨r, r1, r2, r3⟩
      · exact ⟨r0, m1, by rw [m2, b], by rw [a]; exact ltN_asym hlt⟩
    · rename_i hlt
      have hlt : ltN r0.p s = false := by simpa using hlt
      have hlen : (ptM d ⟨s, n⟩).length = d.length := by rw [ptM_len]; simp [hf]
      refine ⟨ptM_ap h.ap, fun r hr => hmem hr, by rw [hlen]; exact h.len, fun hl2 q hq e he => ?_⟩
      rcases hold q hq e he with ⟨q', a, b, c⟩ | ⟨a, b⟩
      · obtain ⟨r, r1, r2, r3⟩ := h.all (by omega) q' a e c
        rw [b] at r3
        by_cases hx : r.e.id = n.id
        · have : r = r0 := by
            have h1 := fdM_mem h.ap r1
            rw [hx, hf] at h1
            injection h1 with h1
            exact h1.symm
          subst this
          refine ⟨⟨s, n⟩, ptM_self _ _, by rw [← r2, hx], ?_⟩
          show ltN q.1 s = false
          cases hq1 : ltN q.1 s with
          | false => rfl
          | true =>
            cases hq2 : ltN s r.p with
            | true => rw [ltN_trans hq1 hq2] at r3; cases r3
            | false => rw [ltN_tri hlt hq2] at r3; rw [r3] at hq1; cases hq1
        · exact ⟨r, ptM_keep r1 hx, r2, r3⟩
      · exact ⟨⟨s, n⟩, ptM_self _ _, by rw [b], by rw [a]; exact ltN_irr _⟩
/-- Merged: the packs, rising; the rows, rising, each of the first pack whose index has its name. -/
structure Mgd (xs : List (ByteArray × List Xe)) (ps : List ByteArray) (l : List Mr) : Prop where
  sums : ∀ p, p ∈ ps ↔ ∃ q ∈ xs, q.1 = p
  pri : RiN ps
  ri : RiM l
  src : ∀ r ∈ l, ∃ q ∈ xs, q.1 = r.p ∧ r.e ∈ q.2
  all : ∀ q ∈ xs, ∀ e ∈ q.2, ∃ r ∈ l, r.e.id = e.id ∧ ltN q.1 r.p = false
theorem RiN.nodup {l : List ByteArray} (h : RiN l) : l.Nodup := h.imp (fun {a b} q e => by rw [e, ltN_irr] at q; cases q)
theorem rin_one {l l' : List ByteArray} (p : l.Perm l') (h : RiN l) (h' : RiN l') : l = l' :=
  p.eq_of_pairwise (le := fun a b => ltN a b = true) (fun a b _ _ h1 h2 => absurd h1 (by rw [ltN_asym h2]; simp)) h h'
theorem RiM.ap {l : List Mr} (h : RiM l) : ApM l := by
  unfold RiM Rise at h
  rw [List.pairwise_map] at h
  exact h.imp (fun {a b} q e => by rw [e, ltN_irr] at q; cases q)
theorem rim_one {l l' : List Mr} (p : l.Perm l') (h : RiM l) (h' : RiM l') : l = l' := by
  unfold RiM Rise at h h'
  rw [List.pairwise_map] at h h'
  exact p.eq_of_pairwise (le := fun a b : Mr => ltN a.e.id b.e.id = true) (fun a b _ _ h1 h2 => absurd h1 (by rw [ltN_asym h2]; simp)) h h'
theorem ApM.nodup {l : List Mr} (h : ApM l) : l.Nodup := h.imp (fun {a b} q e => q (by rw [e]))
theorem perm_of_mem {α : Type} {l l' : List α} (h : l.Nodup) (h' : l'.Nodup) (m : ∀ x, x ∈ l ↔ x ∈ l') : l.Perm l' := (List.perm_ext_iff_of_nodup h h').2 m
/-- Sums of unlike packs, and names of one index that are unlike: then there is one merged index. -/
theorem Mgd.one {xs : List (ByteArray × List Xe)} (hx : xs.Pairwise (fun a b => a.1 ≠ b.1)) (he : ∀ q ∈ xs, Aprt q.2) {ps ps' : List ByteArray} {l l' : List Mr} (h : Mgd xs ps l) (h' : Mgd xs ps' l') : ps = ps' ∧ l = l' := by
  have e1 : ps = ps' := rin_one (perm_of_mem h.pri.nodup h'.pri.nodup (fun p => (h.sums p).trans (h'.sums p).symm)) h.pri h'.pri
  have huq : ∀ q ∈ xs, ∀ q' ∈ xs, q.1 = q'.1 → q = q' := fun q hq q' hq' e => by
    obtain ⟨i, hi, rfl⟩ := List.getElem_of_mem hq
    obtain ⟨j, hj, rfl⟩ := List.getElem_of_mem hq'
    rw [List.pairwise_iff_getElem] at hx
    rcases Nat.lt_trichotomy i j with k | k | k
    · exact absurd e (hx i j hi hj k)
    · subst k; rfl
    · exact absurd e.symm (hx j i hj hi k)
  have key : ∀ {ps ps' : List ByteArray} {l l' : List Mr}, Mgd xs ps l → Mgd xs ps' l' → ∀ r ∈ l, r ∈ l' := fun {ps ps' l l'} g g' r hr => by
    obtain ⟨q, a, b, c⟩ := g.src r hr
    obtain ⟨r', a', b', c'⟩ := g'.all q a r.e c
    obtain ⟨q2, a2, b2, c2⟩ := g'.src r' a'
    obtain ⟨r3, a3, b3, c3⟩ := g.all q2 a2 r'.e c2
    have : r3 = r := by
      have h1 := fdM_mem g.ri.ap a3
      have h2 := fdM_mem g.ri.ap hr
      rw [b3, b', h2] at h1
      injection h1 with h1
      exact h1.symm
    subst this
    have hp : r3.p = r'.p := by
      rw [b] at c'
      rw [b2] at c3
      exact ltN_tri c' c3
    have hq : q = q2 := huq q a q2 a2 (by rw [b, b2, hp])
    subst hq
    have he' : r3.e = r'.e := by
      have hap := he q a
      obtain ⟨i, hi, e1⟩ := List.getElem_of_mem c
      obtain ⟨j, hj, e2⟩ := List.getElem_of_mem c2
      have := apart_one hap (i := i) (j := j) (by rw [List.getElem?_eq_getElem hi, e1]) (by rw [List.getElem?_eq_getElem hj, e2]) b'.symm
      subst this
      rw [← e1, ← e2]
    have : r3 = r' := by
      obtain ⟨p1, e1⟩ := r3
      obtain ⟨p2, e2⟩ := r'
      simp only at hp he'
      rw [hp, he']
    rw [this]; exact a'
  exact ⟨e1, rim_one (perm_of_mem h.ri.ap.nodup h'.ri.ap.nodup (fun r => ⟨key h h' r, key h' h r⟩)) h.ri h'.ri⟩
/-- What was held, sorted, is merged. -/
theorem Hld.mgd {xs : List (ByteArray × List Xe)} {d l : List Mr} {ss ps : List ByteArray} (h : Hld xs d) (hl : d.length ≤ 1048576) (hs : ∀ p, p ∈ ss ↔ ∃ q ∈ xs, q.1 = p) (hp : ps.Perm ss) (hr : RiN ps) (hd : l.Perm d) (hm : RiM l) : Mgd xs ps l :=
  ⟨fun p => hp.mem_iff.trans (hs p), hr, hm, fun r hr => h.src r (hd.mem_iff.1 hr), fun q hq e he => by
    obtain ⟨r, a, b⟩ := h.all hl q hq e he
    exact ⟨r, hd.mem_iff.2 a, b⟩⟩
/-- What is merged of indexes that may be may be a merged index's. -/
theorem Mgd.ok {xs : List (ByteArray × List Xe)} {ps : List ByteArray} {l : List Mr} (h : Mgd xs ps l) (hi : ∀ q ∈ xs, q.1.size = 32 ∧ OkL q.2) (hn : ps.length ≤ 4096) (hl : l.length ≤ 1048576) : OkM ps l where
  psz p hp := by obtain ⟨q, a, b⟩ := (h.sums p).1 hp; rw [← b]; exact (hi q a).1
  pri := h.pri
  pln := hn
  ok r hr := by obtain ⟨q, a, b, c⟩ := h.src r hr; exact (hi q a).2.ok _ c
  id r hr := by obtain ⟨q, a, b, c⟩ := h.src r hr; exact (hi q a).2.id _ c
  ri := h.ri
  len := hl
  mem r hr := by obtain ⟨q, a, b, c⟩ := h.src r hr; exact (h.sums r.p).2 ⟨q, a, b⟩
end Go.Proofs.YtbfoiocbmhhdbaaGreat
