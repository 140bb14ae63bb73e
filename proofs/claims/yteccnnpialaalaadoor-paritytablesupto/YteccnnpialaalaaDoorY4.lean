import Derived.Test.YteccnnpialaalaaDoorY3
import Derived.Lib.Bytealg
import Derived.Test.YteccnnpialaalaaDoorY1
import Derived.Deep.WholeRow
import Derived.Laws.ResultCell
import Derived.Laws.CopyOwn
import Derived.Maps.AppendAt
import Derived.ChangeKeysEq
import Derived.Laws.StructEq
import Derived.Great.BuildSlice
import Derived.OwnWalk
/- Plain facts: the order of names. -/
namespace Go.Proofs.YteccnnpialaalaaDoor
set_option linter.unusedSimpArgs false
set_option linter.unusedVariables false
theorem cmpB_refl : ∀ a : List UInt8, Lib.compareBytes a a = 0
  | [] => rfl
  | x :: l => by
    have h : ¬ x < x := UInt8.lt_irrefl x
    rw [Lib.compareBytes, if_neg h, if_neg h, cmpB_refl l]
theorem cmpB_zero : ∀ a b : List UInt8, Lib.compareBytes a b = 0 → a = b
  | [], [], _ => rfl
  | [], _ :: _, h => by simp [Lib.compareBytes] at h
  | _ :: _, [], h => by simp [Lib.compareBytes] at h
  | x :: a, y :: b, h => by
    rw [Lib.compareBytes] at h
    split at h
    · cases h
    · split at h
      · cases h
      · rename_i h1 h2
        have e : x = y := by
          rw [UInt8.lt_iff_toNat_lt] at h1 h2
          apply UInt8.toNat_inj.1
          omega
        rw [e, cmpB_zero a b h]
theorem cmpB_swap : ∀ a b : List UInt8, Lib.compareBytes b a = - Lib.compareBytes a b
  | [], [] => rfl
  | [], _ :: _ => rfl
  | _ :: _, [] => rfl
  | x :: a, y :: b => by
    rw [Lib.compareBytes, Lib.compareBytes]
    by_cases h1 : x < y
    · have h2 : ¬ y < x := by rw [UInt8.lt_iff_toNat_lt] at *; omega
      rw [if_pos h1, if_neg h2, if_pos h1]; rfl
    · by_cases h2 : y < x
      · rw [if_pos h2, if_neg h1, if_pos h2]
      · rw [if_neg h1, if_neg h2, if_neg h2, if_neg h1, cmpB_swap a b]
theorem cmpB_range : ∀ a b : List UInt8, -1 ≤ Lib.compareBytes a b ∧ Lib.compareBytes a b ≤ 1
  | [], [] => by simp [Lib.compareBytes]
  | [], _ :: _ => by simp [Lib.compareBytes]
  | _ :: _, [] => by simp [Lib.compareBytes]
  | x :: a, y :: b => by
    rw [Lib.compareBytes]
    split
    · omega
    · split
      · omega
      · exact cmpB_range a b
end Go.Proofs.YteccnnpialaalaaDoor
/- Plain facts of indexes: entries, their order, the bytes; no program in sight. -/
namespace Go.Proofs.YteccnnpialaalaaDoor
set_option linter.unusedSimpArgs false
set_option linter.unusedVariables false
/-- An entry as it may come in. -/
structure Xe where
  id : ByteArray
  k : UInt8
  off : Int
  sz : Int
/-- May it be indexed? -/
def okX (e : Xe) : Bool := decide (1 ≤ e.k.toNat ∧ e.k.toNat ≤ 5 ∧ 4 ≤ e.off ∧ e.off ≤ 67108864 ∧ 0 ≤ e.sz ∧ e.sz ≤ 2097152)
theorem okX_iff (e : Xe) : okX e = true ↔ 1 ≤ e.k.toNat ∧ e.k.toNat ≤ 5 ∧ 4 ≤ e.off ∧ e.off ≤ 67108864 ∧ 0 ≤ e.sz ∧ e.sz ≤ 2097152 := by simp [okX]
/-- The order of names. -/
def ltN (a b : ByteArray) : Bool := decide (Lib.compareBytes (bl a) (bl b) < 0)
theorem cmpB_trans : ∀ a b c : List UInt8, Lib.compareBytes a b < 0 → Lib.compareBytes b c < 0 → Lib.compareBytes a c < 0
  | [], [], _, h, _ => by simp [Lib.compareBytes] at h
  | [], _ :: _, [], _, h => by simp [Lib.compareBytes] at h
  | [], _ :: _, _ :: _, _, _ => by simp [Lib.compareBytes]
  | _ :: _, [], _, h, _ => by simp [Lib.compareBytes] at h
  | _ :: _, _ :: _, [], _, h => by simp [Lib.compareBytes] at h
  | x :: a, y :: b, z :: c, h, g => by
    rw [Lib.compareBytes] at h g ⊢
    by_cases h1 : x < y
    · by_cases g1 : y < z
      · have : x < z := by rw [UInt8.lt_iff_toNat_lt] at *; omega
        rw [if_pos this]; omega
      · rw [if_neg g1] at g
        by_cases g2 : z < y
        · rw [if_pos g2] at g; omega
        · have : x < z := by rw [UInt8.lt_iff_toNat_lt] at *; omega
          rw [if_pos this]; omega
    · rw [if_neg h1] at h
      by_cases h2 : y < x
      · rw [if_pos h2] at h; omega
      · rw [if_neg h2] at h
        have e : x = y := by
          rw [UInt8.lt_iff_toNat_lt] at h1 h2
          apply UInt8.toNat_inj.1
          omega
        subst e
        by_cases g1 : x < z
        · rw [if_pos g1]; omega
        · rw [if_neg g1] at g ⊢
          by_cases g2 : z < x
          · rw [if_pos g2] at g; omega
          · rw [if_neg g2] at g ⊢
            exact cmpB_trans a b c h g
theorem ltN_trans {a b c : ByteArray} (h : ltN a b = true) (g : ltN b c = true) : ltN a c = true :=
  decide_eq_true (cmpB_trans _ _ _ (of_decide_eq_true h) (of_decide_eq_true g))
theorem ltN_irr (a : ByteArray) : ltN a a = false := by
  unfold ltN; rw [cmpB_refl]; rfl
theorem ltN_asym {a b : ByteArray} (h : ltN a b = true) : ltN b a = false := by
  rw [Bool.eq_false_iff]
  intro g
  have := ltN_trans h g
  rw [ltN_irr] at this
  cases this
theorem ltN_tri {a b : ByteArray} (h : ltN a b = false) (g : ltN b a = false) : a = b := by
  have h1 := of_decide_eq_false h
  have g1 := of_decide_eq_false g
  rw [cmpB_swap (bl a) (bl b)] at g1
  exact bl_inj (cmpB_zero _ _ (by omega))
theorem ltN_ne {a b : ByteArray} (h : a ≠ b) (g : ltN b a = false) : ltN a b = true := by
  cases q : ltN a b with
  | true => rfl
  | false => exact absurd (ltN_tri q g) h
/-- Names rise. -/
def Rise (l : List Xe) : Prop := l.Pairwise (fun a b => ltN a.id b.id = true)
/-- Names are apart. -/
def Aprt (l : List Xe) : Prop := l.Pairwise (fun a b => a.id ≠ b.id)
theorem Rise.apart {l : List Xe} (h : Rise l) : Aprt l := h.imp (fun {a b} q e => by rw [e, ltN_irr] at q; cases q)
theorem Aprt.perm {l l' : List Xe} (h : Aprt l) (p : l.Perm l') : Aprt l' := List.Pairwise.perm h p (fun {x y} q => Ne.symm q)
theorem rise_one {l l' : List Xe} (p : l.Perm l') (h : Rise l) (h' : Rise l') : l = l' :=
  List.Perm.eq_of_pairwise (fun a b _ _ q1 q2 => by rw [ltN_asym q1] at q2; cases q2) h h' p
theorem apart_one {l : List Xe} (h : Aprt l) : ∀ {i j : Nat} {a b : Xe}, l[i]? = some a → l[j]? = some b → a.id = b.id → i = j := by
  intro i j a b ha hb he
  obtain ⟨hi, rfl⟩ := List.getElem?_eq_some_iff.1 ha
  obtain ⟨hj, rfl⟩ := List.getElem?_eq_some_iff.1 hb
  rw [Aprt, List.pairwise_iff_getElem] at h
  rcases Nat.lt_trichotomy i j with q | q | q
  · exact absurd he (h i j hi hj q)
  · exact q
  · exact absurd he.symm (h j i hj hi q)
/-- A list that may be an index's. -/
structure OkL (l : List Xe) : Prop where
  ok : ∀ e ∈ l, okX e = true
  id : ∀ e ∈ l, e.id.size = 32
  ri : Rise l
  len : l.length ≤ 65536
/-- A number in four bytes. -/
def f4 (n : Nat) : List UInt8 := by8 (fixN 4 n)
theorem f4_len (n : Nat) : (f4 n).length = 4 := by rw [f4, by8_length, fixN_length]
theorem f4_fixV (l : List UInt8) (h : l.length = 4) : f4 (fixV l) = l := fixN_fixV 4 l h
theorem fixV_f4 (n : Nat) (h : n < 4294967296) : fixV (f4 n) = n := by
  have h1 : fixN 4 n = [n / 256 / 256 / 256 % 256, n / 256 / 256 % 256, n / 256 % 256, n % 256] := rfl
  rw [f4, h1]
  simp only [by8, List.map_cons, List.map_nil, fixV, List.foldl_cons, List.foldl_nil, UInt8.toNat_ofNat']
  omega
theorem f4_inj {m n : Nat} (hm : m < 4294967296) (hn : n < 4294967296) (h : f4 m = f4 n) : m = n := by
  rw [← fixV_f4 m hm, ← fixV_f4 n hn, h]
/-- A name's first byte; how many names' are not above, below. -/
def fst8 (e : Xe) : Nat := ((bl e.id).headD 0).toNat
def fanL (l : List Xe) (b : Nat) : Nat := l.countP (fun e => decide (fst8 e ≤ b))
def fanB (l : List Xe) (b : Nat) : Nat := l.countP (fun e => decide (fst8 e < b))
theorem fst8_lt (e : Xe) : fst8 e < 256 := UInt8.toNat_lt _
theorem fanL_le (l : List Xe) (b : Nat) : fanL l b ≤ l.length := List.countP_le_length
/-- An entry's bytes, an index's. -/
def enB (e : Xe) : List UInt8 := bl e.id ++ ([e.k] ++ (f4 e.off.toNat ++ f4 e.sz.toNat))
def fanT (l : List Xe) (n : Nat) : List UInt8 := (List.range n).flatMap (fun b => f4 (fanL l b))
def ensB (l : List Xe) : List UInt8 := l.flatMap enB
def hdB (s : ByteArray) (l : List Xe) : List UInt8 := [109, 105, 120, 49] ++ (bl s ++ (f4 l.length ++ fanT l 256))
def ixB (s : ByteArray) (l : List Xe) : List UInt8 := hdB s l ++ ensB l
theorem enB_len {e : Xe} (h : e.id.size = 32) : (enB e).length = 41 := by simp [enB, bl_length, f4_len, h]
theorem fanT_succ (l : List Xe) (n : Nat) : fanT l (n + 1) = fanT l n ++ f4 (fanL l n) := by simp [fanT, List.range_succ]
theorem fanT_len (l : List Xe) : ∀ n, (fanT l n).length = 4 * n
  | 0 => rfl
  | n + 1 => by rw [fanT_succ, List.length_append, fanT_len l n, f4_len]; omega
theorem hdB_len {s : ByteArray} (l : List Xe) (h : s.size = 32) : (hdB s l).length = 1064 := by simp [hdB, bl_length, f4_len, fanT_len, h]
theorem ensB_snoc (l : List Xe) (e : Xe) : ensB (l ++ [e]) = ensB l ++ enB e := by simp [ensB]
theorem ensB_len : ∀ {l : List Xe}, (∀ e ∈ l, e.id.size = 32) → (ensB l).length = 41 * l.length
  | [], _ => rfl
  | e :: l, h => by
    have ih := ensB_len (l := l) (fun x hx => h x (List.mem_cons_of_mem _ hx))
    show (enB e ++ ensB l).length = _
    rw [List.length_append, ih, enB_len (h e (List.mem_cons_self ..)), List.length_cons]; omega
theorem ixB_len {s : ByteArray} {l : List Xe} (h : s.size = 32) (hl : ∀ e ∈ l, e.id.size = 32) : (ixB s l).length = 1064 + 41 * l.length := by
  rw [ixB, List.length_append, hdB_len l h, ensB_len hl]
/-- What is taken from 41 bytes. -/
def rdXe (t : List UInt8) : Xe := ⟨⟨(t.take 32).toArray⟩, (t.drop 32).headD 0, (fixV ((t.drop 33).take 4) : Int), (fixV ((t.drop 37).take 4) : Int)⟩
theorem rdXe_enB {e : Xe} (h : e.id.size = 32) (ho : okX e = true) (r : List UInt8) : rdXe (enB e ++ r) = e := by
  obtain ⟨_, _, o1, o2, o3, o4⟩ := (okX_iff e).1 ho
  have hl : (bl e.id).length = 32 := by rw [bl_length, h]
  have a1 : (enB e ++ r).take 32 = bl e.id := by
    rw [enB, List.append_assoc, List.take_left' hl]
  have a2 : (enB e ++ r).drop 32 = [e.k] ++ (f4 e.off.toNat ++ f4 e.sz.toNat) ++ r := by
    rw [enB, List.append_assoc, List.drop_left' hl]
  have a3 : (enB e ++ r).drop 33 = f4 e.off.toNat ++ (f4 e.sz.toNat ++ r) := by
    rw [show 33 = 32 + 1 from rfl, ← List.drop_drop, a2]; simp
  have a4 : (enB e ++ r).drop 37 = f4 e.sz.toNat ++ r := by
    rw [show 37 = 33 + 4 from rfl, ← List.drop_drop, a3, List.drop_left' (f4_len _)]
  unfold rdXe
  rw [a1, a2, a3, a4, List.take_left' (f4_len _), List.take_left' (f4_len _), fixV_f4 _ (by omega), fixV_f4 _ (by omega)]
  obtain ⟨i, k, o, z⟩ := e
  simp only at o1 o3 ⊢
  have e1 : (⟨(bl i).toArray⟩ : ByteArray) = i := bl_inj rfl
  rw [e1, Int.toNat_of_nonneg (by omega), Int.toNat_of_nonneg o3]
  rfl
/-- As many entries as there are bytes for. -/
def rdL : Nat → List UInt8 → List Xe
  | 0, _ => []
  | n + 1, t => rdXe t :: rdL n (t.drop 41)
theorem rdL_len : ∀ n t, (rdL n t).length = n
  | 0, _ => rfl
  | n + 1, t => by rw [rdL, List.length_cons, rdL_len n]
theorem rdL_get : ∀ (n : Nat) (t : List UInt8) (i : Nat), i < n → (rdL n t)[i]? = some (rdXe (t.drop (41 * i)))
  | 0, _, _, h => by omega
  | n + 1, t, 0, _ => by simp [rdL]
  | n + 1, t, i + 1, h => by
    rw [rdL, List.getElem?_cons_succ, rdL_get n _ i (by omega), List.drop_drop]
    congr 3
    omega
theorem rdL_ensB : ∀ {l : List Xe} (r : List UInt8), (∀ e ∈ l, e.id.size = 32) → (∀ e ∈ l, okX e = true) → rdL l.length (ensB l ++ r) = l
  | [], r, _, _ => rfl
  | e :: l, r, h, ho => by
    have ih := rdL_ensB (l := l) r (fun x hx => h x (List.mem_cons_of_mem _ hx)) (fun x hx => ho x (List.mem_cons_of_mem _ hx))
    have q : ensB (e :: l) ++ r = enB e ++ (ensB l ++ r) := by show enB e ++ ensB l ++ r = _; rw [List.append_assoc]
    rw [List.length_cons, rdL, q, rdXe_enB (h e (List.mem_cons_self ..)) (ho e (List.mem_cons_self ..)), List.drop_left' (enB_len (h e (List.mem_cons_self ..))), ih]
/-- What is taken from an index's bytes. -/
def rdS (s : List UInt8) : ByteArray := ⟨((s.drop 4).take 32).toArray⟩
def rdA (s : List UInt8) : List Xe := rdL ((s.length - 1064) / 41) (s.drop 1064)
theorem rd_ix {s : ByteArray} {l : List Xe} (hs : s.size = 32) (h : OkL l) : rdS (ixB s l) = s ∧ rdA (ixB s l) = l := by
  constructor
  · unfold rdS
    apply bl_inj
    show ((ixB s l).drop 4).take 32 = bl s
    have q : ixB s l = [109, 105, 120, 49] ++ (bl s ++ (f4 l.length ++ fanT l 256 ++ ensB l)) := by simp [ixB, hdB]
    rw [q]
    show (bl s ++ (f4 l.length ++ fanT l 256 ++ ensB l)).take 32 = bl s
    rw [List.take_left' (by rw [bl_length, hs])]
  · unfold rdA
    rw [ixB_len hs h.id, show 1064 + 41 * l.length - 1064 = l.length * 41 from by omega, Nat.mul_div_cancel _ (by decide), ixB, List.drop_left' (hdB_len l hs)]
    have := rdL_ensB (l := l) [] h.id h.ok
    rwa [List.append_nil] at this
theorem ix_inj {s s' : ByteArray} {l l' : List Xe} (hs : s.size = 32) (hs' : s'.size = 32) (h : OkL l) (h' : OkL l') (e : ixB s l = ixB s' l') : s = s' ∧ l = l' := by
  have a := rd_ix hs h
  have b := rd_ix hs' h'
  rw [e] at a
  exact ⟨a.1.symm.trans b.1, a.2.symm.trans b.2⟩
end Go.Proofs.YteccnnpialaalaaDoor
/- Plain facts: a sum under way, piece by piece. -/
namespace Go.Proofs.YteccnnpialaalaaDoor
set_option linter.unusedSimpArgs false
set_option linter.unusedVariables false
/-- A string's bytes as numbers. -/
def byl (s : ByteArray) : List Nat := s.data.toList.map UInt8.toNat
theorem byl_length (s : ByteArray) : (byl s).length = s.size := by rw [byl, List.length_map, Array.length_toList]; rfl
theorem byl_lt (s : ByteArray) : ∀ x ∈ byl s, x < 256 := by
  intro x hx
  simp only [byl, List.mem_map] at hx
  obtain ⟨y, _, rfl⟩ := hx
  exact y.toNat_lt
theorem byl_drop (s : ByteArray) (n : Nat) : byl (s.extract n s.size) = (byl s).drop n := by
  have e : (s.extract n s.size).data.toList = s.data.toList.drop n := by
    rw [ByteArray.data_extract, Array.toList_extract]
    rw [List.extract_eq_take_drop, List.take_of_length_le (by rw [List.length_drop, Array.length_toList]; exact Nat.le_refl _)]
  simp only [byl, e, List.map_drop]
theorem sb_byl (s : ByteArray) : sb (byl s) = s := by
  have e : ((byl s).map UInt8.ofNat) = s.data.toList := by
    simp only [byl, List.map_map]
    have : (UInt8.ofNat ∘ UInt8.toNat) = id := by funext x; simp
    rw [this, List.map_id]
  unfold sb
  rw [e]
theorem byl_sb (l : List Nat) (h : ∀ x ∈ l, x < 256) : byl (sb l) = l := by
  simp only [byl, sb, List.map_map]
  have : l.map (UInt8.toNat ∘ UInt8.ofNat) = l.map id := by
    apply List.map_congr_left
    intro x hx
    simp [Nat.mod_eq_of_lt (h x hx)]
  simp [this]
/-- Bytes laid over others from a place on. -/
def putL (m : List Nat) (r : Nat) (xs : List Nat) : List Nat := m.take r ++ xs ++ m.drop (r + xs.length)
theorem putL_length (m : List Nat) (r : Nat) (xs : List Nat) (h : r + xs.length ≤ m.length) : (putL m r xs).length = m.length := by
  simp [putL]; omega
theorem putL_getD (m : List Nat) (r : Nat) (xs : List Nat) (h : r + xs.length ≤ m.length) (j : Nat) :
    (putL m r xs).getD j 0 = if j < r then m.getD j 0 else if j < r + xs.length then xs.getD (j - r) 0 else m.getD j 0 := by
  unfold putL
  simp only [List.getD]
  split
  · rw [List.append_assoc, List.getElem?_append_left (by simp; omega), List.getElem?_take_of_lt (by assumption)]
  · split
    · rw [List.append_assoc, List.getElem?_append_right (by simp; omega), List.getElem?_append_left (by simp; omega)]
      congr 2
      simp; omega
    · rw [List.getElem?_append_right (by simp; omega), List.getElem?_drop]
      congr 2
      simp; omega
theorem putL_lt (m : List Nat) (r : Nat) (xs : List Nat) (hm : ∀ x ∈ m, x < 256) (hx : ∀ x ∈ xs, x < 256) : ∀ x ∈ putL m r xs, x < 256 := by
  intro x h
  simp only [putL, List.mem_append] at h
  rcases h with (h | h) | h
  · exact hm x (List.mem_of_mem_take h)
  · exact hx x h
  · exact hm x (List.mem_of_mem_drop h)
theorem list_ext_getD (a b : List Nat) (h : a.length = b.length) (hj : ∀ j, j < a.length → a.getD j 0 = b.getD j 0) : a = b := by
  apply List.ext_getElem? 
  intro i
  by_cases hi : i < a.length
  · have := hj i hi
    simp only [List.getD, List.getElem?_eq_getElem hi, List.getElem?_eq_getElem (h ▸ hi), Option.getD_some] at this
    rw [List.getElem?_eq_getElem hi, List.getElem?_eq_getElem (h ▸ hi), this]
  · rw [List.getElem?_eq_none (by omega), List.getElem?_eq_none (by omega)]
/-- A sum under way: its numbers and its block are those of all that was written. -/
structure Sta (msg : List Nat) (h : V8) (m : List Nat) : Prop where
  len : m.length = 64
  lt : ∀ x ∈ m, x < 256
  num : h = hs msg (msg.length / 64)
  part : ∀ j, j < msg.length % 64 → m.getD j 0 = msg.getD (64 * (msg.length / 64) + j) 0
theorem Sta.part' {msg : List Nat} {h : V8} {m : List Nat} (S : Sta msg h m) (xs : List Nat) (hx : xs.length ≤ 64 - msg.length % 64) (j : Nat) (hj : j < msg.length % 64 + xs.length) :
    (putL m (msg.length % 64) xs).getD j 0 = (msg ++ xs).getD (64 * (msg.length / 64) + j) 0 := by
  rw [putL_getD _ _ _ (by rw [S.len]; omega)]
  by_cases e : j < msg.length % 64
  · rw [if_pos e, S.part j e]
    simp only [List.getD]
    rw [List.getElem?_append_left (by omega)]
  · rw [if_neg e, if_pos hj]
    simp only [List.getD]
    rw [List.getElem?_append_right (by omega)]
    congr 2
    omega
theorem Sta.more {msg : List Nat} {h : V8} {m : List Nat} (S : Sta msg h m) (xs : List Nat) (hb : ∀ x ∈ xs, x < 256) (hx : xs.length < 64 - msg.length % 64) :
    Sta (msg ++ xs) h (putL m (msg.length % 64) xs) := by
  have e1 : (msg.length + xs.length) / 64 = msg.length / 64 := by omega
  have e2 : (msg.length + xs.length) % 64 = msg.length % 64 + xs.length := by omega
  refine ⟨by rw [putL_length _ _ _ (by rw [S.len]; omega), S.len], putL_lt _ _ _ S.lt hb, ?_, fun j hj => ?_⟩
  · rw [List.length_append, e1, hs_append _ _ _ (by omega), S.num]
  · rw [List.length_append, e2] at hj
    rw [List.length_append, e1, S.part' xs (by omega) j hj]
theorem Sta.full {msg : List Nat} {h : V8} {m : List Nat} (S : Sta msg h m) (xs : List Nat) (hb : ∀ x ∈ xs, x < 256) (hx : xs.length = 64 - msg.length % 64) :
    Sta (msg ++ xs) (comp (putL m (msg.length % 64) xs) h) (putL m (msg.length % 64) xs) := by
  have e1 : (msg.length + xs.length) / 64 = msg.length / 64 + 1 := by omega
  have e2 : (msg.length + xs.length) % 64 = 0 := by omega
  refine ⟨by rw [putL_length _ _ _ (by rw [S.len]; omega), S.len], putL_lt _ _ _ S.lt hb, ?_, fun j hj => ?_⟩
  · rw [List.length_append, e1, hs, hs_append _ _ _ (by omega), ← S.num]
    congr 1
    apply list_ext_getD
    · rw [putL_length _ _ _ (by rw [S.len]; omega), S.len, blk]; simp; omega
    · intro j hj
      rw [putL_length _ _ _ (by rw [S.len]; omega), S.len] at hj
      rw [S.part' xs (by omega) j (by omega)]
      simp only [blk, List.getD]
      rw [List.getElem?_take_of_lt hj, List.getElem?_drop]
  · rw [List.length_append, e2] at hj; omega
theorem Sta.zero (m : List Nat) (hl : m.length = 64) (hm : ∀ x ∈ m, x < 256) : Sta [] H0 m := ⟨hl, hm, rfl, fun j hj => by simp at hj⟩
end Go.Proofs.YteccnnpialaalaaDoor
/- Names in memory: a name's 32 cells. -/
namespace Go.Proofs.YteccnnpialaalaaDoor
open Go.RowKit
set_option linter.unusedSimpArgs false
set_option linter.unusedVariables false
theorem sizeOf_u8' (w : World) : (sizeOf 5).run Tryd.prog w = .ok 1 w := by
  have h : (Tryd.prog.info? 5).map (·.size) = some 1 := by kernel_rfl
  cases hq : Tryd.prog.info? 5 with
  | none => simp [hq] at h
  | some i => simp [hq] at h; simp [sizeOf, typeInfo, hq, h]
/-- Bytes as cells. -/
def bvc (m : List Nat) : List Value := m.map fun x : Nat => Value.int .u8 (x : Int)
theorem Blk.grown {w w' : World} {b : Nat} {C : Array Value} {T : TypeId} {r : Option Nat} (h : Blk w b C T) (hg : w.grownBy w' r) (hr : r ≠ some b) : Blk w' b C T := by
  have hlt : b < w.heap.size := by
    by_cases e : b < w.heap.size
    · exact e
    · unfold Blk at h; rw [Array.getElem?_eq_none (by omega)] at h; cases h
  unfold Blk
  rw [hg.block b hlt (fun e => hr e.symm)]
  exact h
theorem Blk.lt {w : World} {b : Nat} {C : Array Value} {T : TypeId} (h : Blk w b C T) : b < w.heap.size := by
  by_cases e : b < w.heap.size
  · exact e
  · unfold Blk at h; rw [Array.getElem?_eq_none (by omega)] at h; cases h
theorem bvc_one (l : List Nat) : ∀ v ∈ bvc l, v.oneCell' = true := by
  intro v hv
  simp only [bvc, List.mem_map] at hv
  obtain ⟨x, _, rfl⟩ := hv
  rfl
/-- 32 noughts, as cells. -/
def z32c : Array Value := (bvc (List.replicate 32 0)).toArray
theorem z32c_size : z32c.size = 32 := by simp [z32c, bvc]
theorem info_id : (Tryd.prog.info? 27).map (·.size) = some 32 := by kernel_rfl
/-- A name's cells, of its 32 bytes. -/
def idc (s : ByteArray) : Array Value := (bvc (byl s)).toArray
theorem idc_size (s : ByteArray) : (idc s).size = s.size := by simp [idc, bvc, byl_length]
theorem byl_getD (s : ByteArray) (i : Nat) (h : i < s.size) : (byl s)[i]? = some (s[i].toNat) := by
  simp only [byl, List.getElem?_map]
  rw [List.getElem?_eq_getElem (by simpa using h)]
  rfl
theorem idc_get (s : ByteArray) (i : Nat) (h : i < s.size) : (idc s)[i]? = some (.int .u8 (s[i].toNat : Int)) := by
  rw [idc, List.getElem?_toArray, bvc, List.getElem?_map, byl_getD s i h]; rfl
theorem slice32 (g : Nat) (w : World) : (Instr.sliceAt 27 (.pointer (some ⟨g, 0, none⟩)) none none none).run Tryd.prog w = .ok (.slice (some ⟨g, 0, none⟩) 32 32) w := by
  have e1 : Tryd.prog.elem 27 = 5 := by kernel_rfl
  have e2 : Tryd.prog.arrayLen 27 = 32 := by kernel_rfl
  have e0 : Tryd.prog.underlying 27 = some (.array (Tryd.prog.arrayLen 27) (Tryd.prog.elem 27)) := by kernel_rfl
  rw [run_sliceAt_array_all (P := Tryd.prog) w 27 ⟨g, 0, none⟩ e0]
  rw [e1, e2, sizeOf_u8']
  simp [slicedAt, Result.andThen, Addr.add]
theorem conv32 (s : ByteArray) (g : Nat) (T : TypeId) (w : World) (hs : s.size = 32) (hB : Blk w g (idc s) T) :
    (convert 48 9 (.slice (some ⟨g, 0, none⟩) 32 32)).run Tryd.prog w = .ok (.string s) w := by
  have h := run_convert_bytes_arg w 48 5 Tryd.underlying48 Tryd.underlying5 g 0 32 32 ((byl s).map Int.ofNat) (by simp [byl_length, hs]) (fun i hi => by
    rw [Nat.zero_add, hB.cell, idc_get s i (by omega), List.getD, List.getElem?_map, byl_getD s i (by omega)]; rfl) 9 Tryd.underlying9
  rw [sb_nums, sb_byl] at h
  exact h
theorem info_32 {C : Array Value} (h : C.size = 32) : (Tryd.prog.info? 27).map (·.size) = some C.size := by rw [h]; exact info_id
theorem z32c_one : z32c.all (·.oneCell') = true := Array.all_eq_true_iff_forall_mem.2 (by intro v hv; exact bvc_one _ v (by simpa [z32c] using hv))
theorem zero_id : ∀ w, (zeroValue 27).run Tryd.prog w = .ok (.agg z32c) w :=
  (zero_of_info (n := 32) (by kernel_rfl)).1
/-- Cells laid over others from a place on. -/
def putA (C : Array Value) (o : Nat) : List Value → Array Value
  | [] => C
  | v :: r => putA (C.setIfInBounds o v) (o + 1) r
theorem Blk.puts {b : Nat} {T : TypeId} : ∀ (vs : List Value) (o : Nat) (C : Array Value) (w : World), Blk w b C T → Blk (w.setCells b o vs) b (putA C o vs) T
  | [], _, _, _, h => h
  | v :: r, o, C, w, h => by
    rw [World.setCells, putA]
    exact Blk.puts r (o + 1) _ _ (h.set o v)
theorem putA_get : ∀ (vs : List Value) (o : Nat) (C : Array Value) (i : Nat), o + vs.length ≤ C.size → (putA C o vs)[i]? = if o ≤ i ∧ i < o + vs.length then vs[i - o]? else C[i]?
  | [], o, C, i, _ => by rw [putA, if_neg (by simp)]
  | v :: r, o, C, i, h => by
    simp only [List.length_cons] at h
    rw [putA, putA_get r (o + 1) _ i (by rw [Array.size_setIfInBounds]; omega), Array.getElem?_setIfInBounds]
    by_cases e : o = i
    · subst e
      rw [if_neg (by omega), if_pos rfl, if_pos (by omega), if_pos (by simp), Nat.sub_self]; rfl
    · by_cases e2 : o + 1 ≤ i ∧ i < o + 1 + r.length
      · rw [if_pos e2, if_pos (by simp; omega)]
        rw [show i - o = (i - (o + 1)) + 1 from by omega, List.getElem?_cons_succ]
      · rw [if_neg e2, if_neg e, if_neg (by simp; omega)]
theorem putA_size : ∀ (vs : List Value) (o : Nat) (C : Array Value), (putA C o vs).size = C.size
  | [], _, _ => rfl
  | v :: r, o, C => by rw [putA, putA_size r, Array.size_setIfInBounds]
theorem putA_one : ∀ (vs : List Value) (o : Nat) (C : Array Value), (∀ v ∈ vs, v.oneCell' = true) → (∀ v ∈ C, v.oneCell' = true) → ∀ v ∈ putA C o vs, v.oneCell' = true
  | [], _, _, _, h => h
  | u :: r, o, C, h1, h2 => by
    rw [putA]
    refine putA_one r (o + 1) _ (fun v hv => h1 v (List.mem_cons_of_mem _ hv)) (fun v hv => ?_)
    rcases Array.mem_or_eq_of_mem_setIfInBounds hv with h | h
    · exact h2 v h
    · rw [h]; exact h1 u (List.mem_cons_self ..)
theorem copy_str (w : World) (dT sT ty elem : TypeId) (b o dLen dCap : Nat) (s : ByteArray) {P : Program}
    (hu : P.underlying dT = some (.slice elem)) (hs : (P.info? elem).map (·.size) = some 1)
    (hc : ∀ j, j < Nat.min s.size dLen → (w.cell? ⟨b, o + j, none⟩).isSome = true) (hf : ∀ j, j < Nat.min s.size dLen → w.frozen? ⟨b, o + j, none⟩ = false) :
    (Builtin.copy_ #[dT, sT] ty #[.slice (some ⟨b, o, none⟩) dLen dCap, .string s]).run P w = .ok (goInt (Nat.min s.size dLen)) (w.setCells b o (bvc ((byl s).take (Nat.min s.size dLen)))) := by
  have e : ((s.extract 0 (Nat.min s.size dLen)).data.map fun b => Value.int .u8 (b.toNat : Int)).toList = bvc ((byl s).take (Nat.min s.size dLen)) := by
    rw [ByteArray.data_extract, Array.toList_map, Array.toList_extract, List.extract_eq_take_drop, List.drop_zero, Nat.sub_zero, bvc, byl, ← List.map_take, List.map_map]
    rfl
  have hl : (bvc ((byl s).take (Nat.min s.size dLen))).length = Nat.min s.size dLen := by
    simp only [bvc, List.length_map, List.length_take, byl_length]
    exact Nat.min_eq_left (Nat.min_le_left _ _)
  have hst := run_storeCells_cells (P := P) b o (bvc ((byl s).take (Nat.min s.size dLen))) 0 w (by rw [hl]; simpa using hc) (by rw [hl]; simpa using hf) (by intro v hv; simp only [bvc, List.mem_map] at hv; obtain ⟨x, _, rfl⟩ := hv; rfl)
  cases hq : P.info? elem with
  | none => simp [hq] at hs
  | some i =>
    have hi : i.size = 1 := by simpa [hq] using hs
    simp only [Nat.add_zero] at hst
    simp [Builtin.copy_, run_underlying hu, Builtin.lenOf, Builtin.firstCells, sizeOf, typeInfo, hq, hi]
    have e2 : List.take (s.size.min dLen) (List.map (fun b => Value.int IntKind.u8 (b.toNat : Int)) s.data.toList) = bvc ((byl s).take (Nat.min s.size dLen)) := by
      rw [bvc, byl, ← List.map_take, ← List.map_take, List.map_map]; rfl
    rw [e2, hst]
    rfl
theorem grown_puts (b : Nat) : ∀ (vs : List Value) (o : Nat) {a w : World}, a.grownBy w (some b) → a.grownBy (w.setCells b o vs) (some b)
  | [], _, _, _, h => h
  | v :: r, o, a, w, h => by rw [World.setCells]; exact grown_puts b r (o + 1) (Lib.grownBy_setB h o v)
theorem wpList_store_new {P : Program} {ops : Array Oper} {rest : List Oper} {o : Oper} {a : Act} {w : World} {Q : Exit → Act → World → Prop} (hgd : o.guard = none) (ty : TypeId) (x y : Operand) (ho : o.op = .store ty x y)
    (cells old : Array Value) (t : TypeId) (H : Nat) (hH : w.heap.size = H) (hx : a.eval x = .pointer (some ⟨H, 0, none⟩)) (hy : a.eval y = .agg cells)
    (hi : (P.info? ty).map (·.size) = some cells.size) (hold : old.size = cells.size) (h1 : cells.all (·.oneCell') = true)
    (h : wpList P ops Q rest (a.put o.dst undef) (w.alloc (.cells cells t))) : wpList P ops Q (o :: rest) a (w.alloc (.cells old t)) :=
  wpList_store_row hgd ty x y ho w.heap.size cells (by rw [hH]; exact hx) hy t old (blk_new _ _) hi hold h1 (by rw [World.setRow_alloc_new]; exact h)
theorem results_cell_tmp_row {P : Program} {fn : Func} {p u : Tmp} {ty : TypeId} (h : fn.results = #[.cell p ty, .tmp u]) (tmps : Array Value) (w : World) (g : Nat) (t : TypeId) (cs : Array Value) (fr : Nat × Nat) (d : TypeDesc)
    (hp : tmps.getD p undef = .pointer (some ⟨g, 0, none⟩)) (hg : w.heap[g]? = some (.cells cs t fr))
    (hu : P.underlying ty = some d) (hd : (match d with | .struct _ | .array _ _ => true | _ => false) = true) (hi : (P.info? ty).map (·.size) = some cs.size) :
    (results fn tmps).run P w = .ok (.tuple #[.agg cs, tmps.getD u undef]) w := by
  have hp' : tmps[p]?.getD undef = .pointer (some ⟨g, 0, none⟩) := by simpa using hp
  simp [results, h, hp', asAddr, run_loadVar_row w g t ty cs fr d hg hu hd hi]
end Go.Proofs.YteccnnpialaalaaDoor
/- Two names compared with '=='. -/
namespace Go.Proofs.YteccnnpialaalaaDoor
open Go.RowKit
set_option linter.unusedSimpArgs false
set_option linter.unusedVariables false
theorem part_id (s : ByteArray) (i : Nat) (h : i < s.size) (w : World) : (part 5 (idc s) i).run Tryd.prog w = .ok (.int .u8 (s[i].toNat : Int)) w := by
  have ha : (isAgg 5).run Tryd.prog w = .ok false w := by kernel_rfl
  simp [part, ha, idc_get s i h]
theorem eqItems_ids (a b : ByteArray) (ha : a.size = 32) (hb : b.size = 32) (w : World) : ∀ is : List Nat, (∀ i ∈ is, i < 32) →
    (Op.eqItems 9999 5 1 (idc a) (idc b) is).run Tryd.prog w = .ok (is.all fun i => (byl a).getD i 0 == (byl b).getD i 0) w
  | [], _ => by simp [Op.eqItems]
  | i :: is, h => by
    have hi : i < 32 := h i (List.mem_cons_self ..)
    have ih := eqItems_ids a b ha hb w is (fun j hj => h j (List.mem_cons_of_mem _ hj))
    have e1 : (byl a).getD i 0 = a[i].toNat := by rw [List.getD, byl_getD a i (by omega)]; rfl
    have e2 : (byl b).getD i 0 = b[i].toNat := by rw [List.getD, byl_getD b i (by omega)]; rfl
    have e3 := run_equalIn_int (P := Tryd.prog) w 9998 5 .u8 .u8 (a[i].toNat : Int) (b[i].toNat : Int) Tryd.underlying5
    simp only [Op.eqItems, Sem.run_bind, Nat.mul_one, part_id a i (by omega), part_id b i (by omega), Result.andThen_ok, e3, List.all_cons, e1, e2]
    by_cases e : a[i].toNat = b[i].toNat
    · have e4 : ((a[i].toNat : Int) == (b[i].toNat : Int)) = true := by rw [e]; simp
      simp only [e4, Bool.not_true, Bool.false_eq_true, if_false, ih, e, beq_self_eq_true, Bool.true_and]
    · have e4 : ((a[i].toNat : Int) == (b[i].toNat : Int)) = false := by rw [beq_eq_false_iff_ne]; omega
      have e5 : (a[i].toNat == b[i].toNat) = false := by rw [beq_eq_false_iff_ne]; exact e
      simp only [e4, Bool.not_false, if_true, Sem.run_pure, e5, Bool.false_and]
theorem ids_all (a b : ByteArray) (ha : a.size = 32) (hb : b.size = 32) : ((List.range 32).all fun i => (byl a).getD i 0 == (byl b).getD i 0) = decide (a = b) := by
  rw [Bool.eq_iff_iff, List.all_eq_true, decide_eq_true_iff]
  constructor
  · intro h
    have : byl a = byl b := list_ext_getD _ _ (by rw [byl_length, byl_length, ha, hb]) (fun j hj => by
      have := h j (by rw [List.mem_range]; rw [byl_length, ha] at hj; exact hj)
      exact eq_of_beq this)
    rw [← sb_byl a, ← sb_byl b, this]
  · rintro rfl i _
    exact beq_self_eq_true _
theorem equalIn_ids (a b : ByteArray) (ha : a.size = 32) (hb : b.size = 32) (w : World) : (Op.equalIn 10000 27 (.agg (idc a)) (.agg (idc b))).run Tryd.prog w = .ok (decide (a = b)) w := by
  have hc : Tryd.prog.cellsOf 5 = 1 := by kernel_rfl
  obtain ⟨i0, hi⟩ := info_of_underlying Tryd.underlying5
  have hu : Tryd.prog.underlying 27 = some (.array 32 5) := Tryd.underlying27
  rw [run_equalIn_array w 9999 (idc a) (idc b) hu hi, hc, eqItems_ids a b ha hb w _ (fun i hi => by simpa using hi), ids_all a b ha hb]
theorem eql_ids (a b : ByteArray) (ha : a.size = 32) (hb : b.size = 32) (w : World) : (binOp .eql 27 (.agg (idc a)) (.agg (idc b))).run Tryd.prog w = .ok (.bool (decide (a = b))) w := by
  rw [run_eql_struct, equalIn_ids a b ha hb]; rfl
theorem neq_ids (a b : ByteArray) (ha : a.size = 32) (hb : b.size = 32) (w : World) : (binOp .neq 27 (.agg (idc a)) (.agg (idc b))).run Tryd.prog w = .ok (.bool (!decide (a = b))) w := by
  rw [run_neq_struct, equalIn_ids a b ha hb]; rfl
end Go.Proofs.YteccnnpialaalaaDoor
/- Entries in memory, as they may come in. -/
namespace Go.Proofs.YteccnnpialaalaaDoor
open Go.RowKit
set_option linter.unusedSimpArgs false
set_option linter.unusedVariables false
/-- An entry's cells. -/
def xeC (e : Xe) : Array Value := ((idc e.id).toList ++ [Value.int .u8 (e.k.toNat : Int), Value.int .i64 e.off, Value.int .i64 e.sz]).toArray
theorem xeC_size (e : Xe) (h : e.id.size = 32) : (xeC e).size = 35 := by simp [xeC, idc_size, h]
theorem idc_oneX (s : ByteArray) : ∀ v ∈ (idc s).toList, v.oneCell' = true := by
  intro v hv
  rw [idc] at hv
  exact bvc_one _ v (by simpa using hv)
theorem xeC_one (e : Xe) : ∀ v ∈ (xeC e).toList, v.oneCell' = true := by
  intro v hv
  simp only [xeC, List.mem_append, List.mem_cons] at hv
  rcases hv with h | h | h | h | h
  · exact idc_oneX _ v h
  · subst h; rfl
  · subst h; rfl
  · subst h; rfl
  · cases h
theorem xeC_all (e : Xe) : (xeC e).all (·.oneCell') = true := Array.all_eq_true_iff_forall_mem.2 (fun v hv => xeC_one e v (by simpa using hv))
theorem idc_allX (s : ByteArray) : (idc s).all (·.oneCell') = true := Array.all_eq_true_iff_forall_mem.2 (fun v hv => idc_oneX s v (by simpa using hv))
theorem xeC_id (e : Xe) (h : e.id.size = 32) (j : Nat) (v : Value) (hv : (idc e.id)[j]? = some v) : (xeC e)[0 + j]? = some v := by
  have hj : j < 32 := by
    have := (Array.getElem?_eq_some_iff.1 hv).1
    rwa [idc_size, h] at this
  rw [Nat.zero_add, xeC, List.getElem?_toArray, List.getElem?_append_left (by rw [Array.length_toList, idc_size]; omega), Array.getElem?_toList]
  exact hv
theorem xeC_at (e : Xe) (h : e.id.size = 32) : (xeC e)[32]? = some (.int .u8 (e.k.toNat : Int)) ∧ (xeC e)[33]? = some (.int .i64 e.off) ∧ (xeC e)[34]? = some (.int .i64 e.sz) := by
  have hl : (idc e.id).toList.length = 32 := by rw [Array.length_toList, idc_size, h]
  refine ⟨?_, ?_, ?_⟩ <;> rw [xeC, List.getElem?_toArray, List.getElem?_append_right (by omega), hl] <;> rfl
theorem list32X (l : List Value) (h : l.length = 32) : ∃ a0 a1 a2 a3 a4 a5 a6 a7 a8 a9 a10 a11 a12 a13 a14 a15 a16 a17 a18 a19 a20 a21 a22 a23 a24 a25 a26 a27 a28 a29 a30 a31, l = [a0, a1, a2, a3, a4, a5, a6, a7, a8, a9, a10, a11, a12, a13, a14, a15, a16, a17, a18, a19, a20, a21, a22, a23, a24, a25, a26, a27, a28, a29, a30, a31] := by
  match l, h with
  | [a0, a1, a2, a3, a4, a5, a6, a7, a8, a9, a10, a11, a12, a13, a14, a15, a16, a17, a18, a19, a20, a21, a22, a23, a24, a25, a26, a27, a28, a29, a30, a31], _ => exact ⟨_, _, _, _, _, _, _, _, _, _, _, _, _, _, _, _, _, _, _, _, _, _, _, _, _, _, _, _, _, _, _, _, rfl⟩
/-- An entry of nothing. -/
def z35X : Array Value := #[.int .u8 0, .int .u8 0, .int .u8 0, .int .u8 0, .int .u8 0, .int .u8 0, .int .u8 0, .int .u8 0, .int .u8 0, .int .u8 0, .int .u8 0, .int .u8 0, .int .u8 0, .int .u8 0, .int .u8 0, .int .u8 0, .int .u8 0, .int .u8 0, .int .u8 0, .int .u8 0, .int .u8 0, .int .u8 0, .int .u8 0, .int .u8 0, .int .u8 0, .int .u8 0, .int .u8 0, .int .u8 0, .int .u8 0, .int .u8 0, .int .u8 0, .int .u8 0, .int .u8 0, .int .i64 0, .int .i64 0]
set_option maxRecDepth 100000 in
theorem fill35X (a0 a1 a2 a3 a4 a5 a6 a7 a8 a9 a10 a11 a12 a13 a14 a15 a16 a17 a18 a19 a20 a21 a22 a23 a24 a25 a26 a27 a28 a29 a30 a31 : Value) (k a n : Int) : Instr.fill (fun i => some (i * 35, 35)) ((Array.range (1 * 35)).map (z35X[· % z35X.size]!)) [(0, .agg #[a0, a1, a2, a3, a4, a5, a6, a7, a8, a9, a10, a11, a12, a13, a14, a15, a16, a17, a18, a19, a20, a21, a22, a23, a24, a25, a26, a27, a28, a29, a30, a31, .int .u8 k, .int .i64 a, .int .i64 n])] = some #[a0, a1, a2, a3, a4, a5, a6, a7, a8, a9, a10, a11, a12, a13, a14, a15, a16, a17, a18, a19, a20, a21, a22, a23, a24, a25, a26, a27, a28, a29, a30, a31, .int .u8 k, .int .i64 a, .int .i64 n] := by kernel_rfl
/-- Entries as cells. -/
def xvs (l : List Xe) : List Value := l.flatMap (fun e => (xeC e).toList)
theorem xvs_snoc (l : List Xe) (e : Xe) : xvs (l ++ [e]) = xvs l ++ (xeC e).toList := by simp [xvs]
theorem xvs_len : ∀ {l : List Xe}, (∀ e ∈ l, e.id.size = 32) → (xvs l).length = l.length * 35
  | [], _ => rfl
  | e :: l, h => by
    have ih := xvs_len (l := l) (fun x hx => h x (List.mem_cons_of_mem _ hx))
    show ((xeC e).toList ++ xvs l).length = _
    rw [List.length_append, ih, Array.length_toList, xeC_size e (h e (List.mem_cons_self ..)), List.length_cons]; omega
theorem xvs_one (l : List Xe) : ∀ v ∈ xvs l, v.oneCell' = true := by
  intro v hv
  obtain ⟨e, _, h⟩ := List.mem_flatMap.1 hv
  exact xeC_one e v h
theorem xvs_get : ∀ {l : List Xe}, (∀ e ∈ l, e.id.size = 32) → ∀ {i : Nat} {e : Xe}, l[i]? = some e → ∀ j, j < 35 → (xvs l)[i * 35 + j]? = (xeC e)[j]?
  | [], _, i, e, h, _, _ => by simp at h
  | x :: l, hs, 0, e, h, j, hj => by
    simp only [List.getElem?_cons_zero, Option.some.injEq] at h
    subst h
    show ((xeC x).toList ++ xvs l)[0 * 35 + j]? = _
    rw [Nat.zero_mul, Nat.zero_add, List.getElem?_append_left (by rw [Array.length_toList, xeC_size x (hs x (List.mem_cons_self ..))]; exact hj), Array.getElem?_toList]
  | x :: l, hs, i + 1, e, h, j, hj => by
    rw [List.getElem?_cons_succ] at h
    show ((xeC x).toList ++ xvs l)[(i + 1) * 35 + j]? = _
    rw [List.getElem?_append_right (by rw [Array.length_toList, xeC_size x (hs x (List.mem_cons_self ..))]; omega), Array.length_toList, xeC_size x (hs x (List.mem_cons_self ..)), ← xvs_get (l := l) (fun y hy => hs y (List.mem_cons_of_mem _ hy)) h j hj]
    congr 1
    omega
/-- Entries of a slice. -/
def XeL (w : World) (a : Option Addr) (l : List Xe) : Prop := ∀ i e, l[i]? = some e → e.id.size = 32 ∧ ∃ g o, a = some ⟨g, o, none⟩ ∧ g < w.heap.size ∧ ∀ j v, (xeC e)[j]? = some v → w.cell? ⟨g, o + i * 35 + j, none⟩ = some v
theorem XeL.below {w w' : World} {a : Option Addr} {l : List Xe} (h : XeL w a l) (hb : Below w.heap.size w w') : XeL w' a l := fun i e he => by
  obtain ⟨h1, g, o, h2, h3, h4⟩ := h i e he
  exact ⟨h1, g, o, h2, Nat.lt_of_lt_of_le h3 hb.size, fun j v hv => by rw [hb.cell (p := ⟨g, o + i * 35 + j, none⟩) h3]; exact h4 j v hv⟩
theorem XeL.ids {w : World} {a : Option Addr} {l : List Xe} (h : XeL w a l) : ∀ e ∈ l, e.id.size = 32 := fun e he => by
  obtain ⟨i, hi⟩ := List.getElem?_of_mem he
  exact (h i e hi).1
theorem own_xel {w : World} {B n : Nat} {v : Value} {T : TypeId} {l : List Xe} (h : w.ownsRow B T 35 v n (xvs l)) (hn : l.length = n) (hs : ∀ e ∈ l, e.id.size = 32) : ∃ a c, v = .slice a n c ∧ XeL w a l ∧ n ≤ c ∧ (a = none ∧ n = 0 ∨ ∃ g, a = some ⟨g, 0, none⟩ ∧ B ≤ g) := by
  rcases h.2 with ⟨h1, h0⟩ | ⟨g, cap, cur, h1, hle, hg, hnc, hsz, hone, ht⟩
  · subst h1
    refine ⟨none, 0, by rw [h0], fun i e he => ?_, by omega, .inl ⟨rfl, h0⟩⟩
    have : l = [] := List.length_eq_zero_iff.1 (by omega)
    rw [this] at he
    cases he
  · refine ⟨some ⟨g, 0, none⟩, cap, h1, fun i e he => ?_, hnc, .inr ⟨g, rfl, hle⟩⟩
    have hb : Bk w g cur T := hg
    have hi : i < l.length := (List.getElem?_eq_some_iff.1 he).1
    refine ⟨hs e (List.mem_of_getElem? he), g, 0, rfl, hb.lt, fun j u hu => ?_⟩
    have hj : j < 35 := by
      have := (Array.getElem?_eq_some_iff.1 hu).1
      rwa [xeC_size e (hs e (List.mem_of_getElem? he))] at this
    have := xvs_get hs he j hj
    rw [hu, ← ht, List.getElem?_take, if_pos (by omega), Array.getElem?_toList] at this
    rw [hb.cell, Nat.zero_add]
    exact this
end Go.Proofs.YteccnnpialaalaaDoor
