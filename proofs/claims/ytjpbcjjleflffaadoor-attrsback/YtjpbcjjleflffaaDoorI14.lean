/- Lists of attributes with their marks, and their bytes, in memory. -/
import Derived.Test.YtjpbcjjleflffaaDoorI12
import Derived.Test.YtjpbcjjleflffaaDoorI13
namespace Go.Proofs.YtjpbcjjleflffaaDoor
open Go.RowKit
set_option linter.unusedSimpArgs false
set_option linter.unusedVariables false
/-- Texts as cells. -/
def sxv (l : List ByteArray) : List Value := l.map fun x => Value.string x
theorem sxv_app (a b : List ByteArray) : sxv (a ++ b) = sxv a ++ sxv b := by simp [sxv]
theorem inf_str10 : (Tryd.prog.info? 9).map (fun i => (i.zero, i.size, i.bytes)) = some (some (.string ⟨#[]⟩), 1, 16) := by kernel_rfl
theorem one_str10 (p : ByteArray) : ∀ u ∈ [Value.string p], u.oneCell' = true := by
  intro u hu
  rw [List.mem_singleton] at hu
  subst hu; rfl
/-- Texts of a slice. -/
def SxL (w : World) (a : Option Addr) (l : List ByteArray) : Prop := ∀ i x, l[i]? = some x → ∃ g o, a = some ⟨g, o, none⟩ ∧ g < w.heap.size ∧ w.cell? ⟨g, o + i, none⟩ = some (.string x)
theorem SxL.below {w w' : World} {a : Option Addr} {l : List ByteArray} (h : SxL w a l) (hb : Below w.heap.size w w') : SxL w' a l := fun i x hx => by
  obtain ⟨g, o, h1, h2, h3⟩ := h i x hx
  exact ⟨g, o, h1, Nat.lt_of_lt_of_le h2 hb.size, by rw [hb.cell (p := ⟨g, o + i, none⟩) h2]; exact h3⟩
theorem own_sx {w : World} {B n : Nat} {e : TypeId} {v : Value} {l : List ByteArray} (h : w.ownsRow B e 1 v n (sxv l)) (hn : l.length = n) : ∃ a c, v = .slice a n c ∧ SxL w a l := by
  rcases h.2 with ⟨rfl, h0⟩ | ⟨g, cap, cur, rfl, hle, hg, hnc, _, hc, ht⟩
  · subst h0
    have : l = [] := List.eq_nil_of_length_eq_zero hn
    subst this
    exact ⟨none, 0, rfl, fun i x hx => by simp at hx⟩
  · refine ⟨some ⟨g, 0, none⟩, cap, rfl, fun k x hx => ⟨g, 0, rfl, (Array.getElem?_eq_some_iff.1 hg).1, ?_⟩⟩
    have hk : k < l.length := (List.getElem?_eq_some_iff.1 hx).1
    have hb : Bk w g cur e := hg
    have q : (sxv l)[k]? = some (.string x) := by unfold sxv; rw [List.getElem?_map, hx]; rfl
    rw [← ht, List.getElem?_take, if_pos (by omega), Array.getElem?_toList] at q
    rw [hb.cell, Nat.zero_add]; exact q
/-- An attribute's cells. -/
theorem cells7 {w : World} {b nd md ui gi : Nat} {mt : Int} {tg : ByteArray} {v : Value} {T : TypeId} (h : Bk w b (c7 nd md ui gi mt tg v) T) : w.cell? ⟨b, 0, none⟩ = some (.int .u8 (nd : Int)) ∧ w.cell? ⟨b, 1, none⟩ = some (.int .u32 (md : Int)) ∧ w.cell? ⟨b, 2, none⟩ = some (.int .u32 (ui : Int)) ∧ w.cell? ⟨b, 3, none⟩ = some (.int .u32 (gi : Int)) ∧ w.cell? ⟨b, 4, none⟩ = some (.int .i64 mt) ∧ w.cell? ⟨b, 5, none⟩ = some (.string tg) ∧ w.cell? ⟨b, 6, none⟩ = some v :=
  ⟨by rw [h.cell]; rfl, by rw [h.cell]; rfl, by rw [h.cell]; rfl, by rw [h.cell]; rfl, by rw [h.cell]; rfl, by rw [h.cell]; rfl, by rw [h.cell]; rfl⟩
theorem stF_inj : ∀ (l m : List At), (∀ a ∈ l, Gd a) → (∀ a ∈ m, Gd a) → l.length = m.length → stF l = stF m → l = m
  | [], [], _, _, _, _ => rfl
  | [], _ :: _, _, _, h, _ => by simp at h
  | _ :: _, [], _, _, h, _ => by simp at h
  | a :: l, b :: m, ha, hb, hl, h => by
    rw [stF_cons, stF_cons] at h
    have q1 := ha a (by simp)
    have q2 := hb b (by simp)
    have s1 := lay_len q1.ok (by have := q1.ui; omega) (by have := q1.gi; omega)
    have s2 := lay_len q2.ok (by have := q2.ui; omega) (by have := q2.gi; omega)
    obtain ⟨h1, h2⟩ := tx_inj (by rw [lay_size]; omega) (by rw [lay_size]; omega) h
    have h3 : a = b := lay_inj q1 q2 (congrArg bl h1)
    rw [h3, stF_inj l m (fun x hx => ha x (by simp [hx])) (fun x hx => hb x (by simp [hx])) (by simpa using hl) h2]
theorem stL_inj {l m : List At} (hl : GdL l) (hm : GdL m) (h : stL l = stL m) : l = m := by
  have q1 := hl.len
  have q2 := hm.len
  obtain ⟨h1, h2⟩ := e8_inj (by omega) (by omega) h
  exact stF_inj l m (fun a ha => hl.get ha) (fun a ha => hm.get ha) h1 h2
theorem cmp10 {a b : At} (ha : Gd a) (hb : Gd b) : decide ((⟨(lay a).toArray⟩ : ByteArray) = ⟨(lay b).toArray⟩) = smB a b := by
  cases h : smB a b with
  | true => rw [(smB_iff a b).1 h]; exact decide_eq_true rfl
  | false =>
    refine decide_eq_false fun e => ?_
    have := (smB_iff a b).2 (lay_inj ha hb (congrArg bl e))
    rw [h] at this; cases this
/-- The lists of these can be read. -/
def XvO (w : World) (P : List (At × Value)) : Prop := ∀ p ∈ P, AtOk p.1 ∧ ∃ ad c, p.2 = .slice ad p.1.xs.length c ∧ XaL w ad p.1.xs
theorem XrO.xv {w : World} {B : Nat} {P : List (At × Value)} (h : XrO w B P) : XvO w P := fun p hp => by
  obtain ⟨h1, h2, h3⟩ := h p hp
  obtain ⟨ad, c, hv, hX⟩ := own_xal h2 rfl (fun x hx => by have := h3 x hx; omega)
  exact ⟨h1, ad, c, hv, hX⟩
/-- These lists lie in rows of the call's own, with a mark behind. -/
def mrk : ByteArray × ByteArray := (⟨#[35]⟩, ⟨#[]⟩)
def MkO (w : World) (B : Nat) (P : List (At × Value)) : Prop := ∀ p ∈ P, AtOk p.1 ∧ (∀ x ∈ p.1.xs, x.1.size ≤ 140737488351232 ∧ x.2.size ≤ 140737488351232) ∧ ∃ g cp, p.2 = .slice (some ⟨g, 0, none⟩) p.1.xs.length cp ∧ w.ownsRow B 57 2 (.slice (some ⟨g, 0, none⟩) (p.1.xs.length + 1) cp) (p.1.xs.length + 1) (xav (p.1.xs ++ [mrk]))
theorem mk_xal {w : World} {B g cp : Nat} {xs : List (ByteArray × ByteArray)} (hs : ∀ x ∈ xs, x.1.size ≤ 140737488351232 ∧ x.2.size ≤ 140737488351232) (h : w.ownsRow B 57 2 (.slice (some ⟨g, 0, none⟩) (xs.length + 1) cp) (xs.length + 1) (xav (xs ++ [mrk]))) : XaL w (some ⟨g, 0, none⟩) xs ∧ XaL w (some ⟨g, 0, none⟩) (xs ++ [mrk]) := by
  obtain ⟨a, c, hv, hX⟩ := own_xal h (by simp) (fun x hx => by
    rcases List.mem_append.1 hx with q | q
    · exact hs x q
    · rw [List.mem_singleton] at q; subst q; exact ⟨by decide, by decide⟩)
  cases hv
  refine ⟨fun i x hx => hX i x ?_, hX⟩
  rw [List.getElem?_append_left (List.getElem?_eq_some_iff.1 hx).1]
  exact hx
theorem MkO.xv {w : World} {B : Nat} {P : List (At × Value)} (h : MkO w B P) : XvO w P := fun p hp => by
  obtain ⟨h1, h2, g, cp, hv, ho⟩ := h p hp
  exact ⟨h1, _, cp, hv, (mk_xal h2 ho).1⟩
theorem MkO.keep {w w' : World} {B : Nat} {P : List (At × Value)} (h : MkO w B P) (hk : ∀ g, B ≤ g → g < w.heap.size → w'.heap[g]? = w.heap[g]?) : MkO w' B P := fun p hp => by
  obtain ⟨h1, h2, g, cp, hv, ho⟩ := h p hp
  exact ⟨h1, h2, g, cp, hv, rows_keep ho hk⟩
theorem MkO.grow {w w' : World} {B B' m k : Nat} {e : TypeId} {P : List (At × Value)} {v : Value} {ys : List Value} (h : MkO w B P) (hv : w.ownsRow B' e k v m ys) (he : 57 ≠ e) (hg : w.grownBy w' v.ownBlock) : MkO w' B P := fun p hp => by
  obtain ⟨h1, h2, g, cp, hv2, ho⟩ := h p hp
  exact ⟨h1, h2, g, cp, hv2, own_ty ho hv he hg⟩
/-- Where the attributes of a row lie. -/
theorem row_atl {w : World} {B n : Nat} {e : TypeId} {v : Value} {P : List (At × Value)} (h : w.ownsRow B e 7 v n (atv P)) (hn : P.length = n) (hx : XvO w P) : ∃ a c, v = .slice a n c ∧ AtL w a (P.map Prod.fst) ∧ (a = none ∧ c = 0 ∧ n = 0 ∨ ∃ g, a = some ⟨g, 0, none⟩) ∧ n ≤ c := by
  rcases h.2 with ⟨rfl, h0⟩ | ⟨g, cap, cur, rfl, hle, hg, hnc, _, hc, ht⟩
  · subst h0
    have : P = [] := List.eq_nil_of_length_eq_zero hn
    subst this
    exact ⟨none, 0, rfl, fun i x hx => by simp at hx, .inl ⟨rfl, rfl, rfl⟩, Nat.le_refl _⟩
  · refine ⟨some ⟨g, 0, none⟩, cap, rfl, fun i a ha => ?_, .inr ⟨g, rfl⟩, hnc⟩
    rw [List.getElem?_map] at ha
    obtain ⟨p, hp, rfl⟩ := Option.map_eq_some_iff.1 ha
    obtain ⟨h1, ad, c, hv, hX⟩ := hx p (List.mem_of_getElem? hp)
    have hb : Bk w g cur e := hg
    have hl : i < P.length := (List.getElem?_eq_some_iff.1 hp).1
    have q : ∀ j, j < 7 → w.cell? ⟨g, 0 + i * 7 + j, none⟩ = (acl p)[j]? := fun j hj => by
      have := atv_get P i p hp j hj
      rw [← ht, List.getElem?_take, if_pos (by omega), Array.getElem?_toList] at this
      rw [hb.cell, Nat.zero_add]
      exact this
    have q0 := q 0 (by omega)
    rw [Nat.add_zero] at q0
    refine ⟨h1, g, 0, ad, c, rfl, (Array.getElem?_eq_some_iff.1 hg).1, q0, q 1 (by omega), q 2 (by omega), q 3 (by omega), q 4 (by omega), q 5 (by omega), ?_, hX⟩
    rw [q 6 (by omega), ← hv]; rfl
theorem AtL.take {w : World} {a : Option Addr} {l : List At} (h : AtL w a l) (k : Nat) : AtL w a (l.take k) := fun i x hx => by
  rw [List.getElem?_take] at hx
  split at hx
  · exact h i x hx
  · cases hx
/-- Attributes and their bytes so far. -/
structure LS (w0 : World) (P : List (At × Value)) (vm vb : Value) (w : World) : Prop where
  mo : w.ownsRow w0.heap.size 28 7 vm P.length (atv P)
  bo : w.ownsRow w0.heap.size 9 1 vb P.length (sxv (P.map fun p => ⟨(lay p.1).toArray⟩))
  mq : MkO w w0.heap.size P
  ok : ∀ p ∈ P, okA p.1 = true
  bel : Below w0.heap.size w0 w
theorem LS.keep {w0 : World} {P : List (At × Value)} {vm vb : Value} {w w' : World} (h : LS w0 P vm vb w) (hb : Below w.heap.size w w') : LS w0 P vm vb w' :=
  ⟨rows_keep h.mo (fun g _ h2 => hb.block g h2), rows_keep h.bo (fun g _ h2 => hb.block g h2), h.mq.keep (fun g _ h2 => hb.block g h2), h.ok, h.bel.trans (hb.mono h.bel.size)⟩
theorem LS.start (w : World) : LS w [] (.slice none 0 0) (.slice none 0 0) w := ⟨rows_none, rows_none, (fun p hp => nomatch hp), (fun p hp => nomatch hp), Below.refl _ _⟩
/-- What the law's own does. -/
def OwnC : Prop := ∀ (nd md ui gi : Nat) (mt : Int) (tg : ByteArray) (xs : List (ByteArray × ByteArray)) (ad : Option Addr) (n c : Nat) (w : World), XaL w ad xs → xs.length = n → n ≤ 4398046510976 →
    Calls Tryd.prog 7 #[atV nd md ui gi mt tg (.slice ad n c)] w fun e w' => ∃ g cp, e = .returned (.agg (c7 nd md ui gi mt tg (.slice (some ⟨g, 0, none⟩) n cp))) ∧ w'.ownsRow w.heap.size 57 2 (.slice (some ⟨g, 0, none⟩) (n + 1) cp) (n + 1) (xav (xs ++ [(⟨#[35]⟩, ⟨#[]⟩)])) ∧ Below w.heap.size w w'
theorem xal_small {w : World} {a : Option Addr} {xs : List (ByteArray × ByteArray)} (h : XaL w a xs) : ∀ x ∈ xs, x.1.size ≤ 140737488351232 ∧ x.2.size ≤ 140737488351232 := fun x hx => by
  obtain ⟨i, hi⟩ := List.getElem?_of_mem hx
  obtain ⟨_, _, _, _, _, _, h5, h6⟩ := h i x hi
  exact ⟨h5, h6⟩
/-- What Read tells of the bytes of one that may be. -/
theorem rd_put {a a' : At} {er : Int} (h : RdS ⟨(lay a).toArray⟩ a' er) (hg : Gd a) (ho : AtOk a') : er = 0 ∧ a' = a := by
  rcases h with ⟨h1, h2, h3⟩ | ⟨_, _, h3⟩
  · exact ⟨h1, lay_inj ⟨h2, ho.ui, ho.gi⟩ hg h3⟩
  · exact absurd rfl (h3 a hg)
theorem sr_put {l l' : List At} {er : Int} (h : SrS ⟨(stL l).toArray⟩ l' er) (hg : GdL l) (ho : ∀ a ∈ l', AtOk a) : er = 0 ∧ l' = l := by
  rcases h with ⟨h1, h2, h3⟩ | ⟨_, _, h3⟩
  · exact ⟨h1, stL_inj ⟨h2, fun a ha => ⟨(ho a ha).ui, (ho a ha).gi⟩⟩ hg h3⟩
  · exact absurd rfl (h3 l hg)
theorem LS.at {w0 : World} {P : List (At × Value)} {am : Option Addr} {k cm : Nat} {vb : Value} {w : World} (h : LS w0 P (.slice am k cm) vb w) : AtL w am (P.map Prod.fst) ∧ P.length ≤ cm := by
  obtain ⟨a, c, hv, hA, _, hc⟩ := row_atl h.mo rfl h.mq.xv
  cases hv
  exact ⟨hA, hc⟩
theorem LS.sx {w0 : World} {P : List (At × Value)} {vm : Value} {ab : Option Addr} {k cb : Nat} {w : World} (h : LS w0 P vm (.slice ab k cb) w) : SxL w ab (P.map fun p => ⟨(lay p.1).toArray⟩) := by
  obtain ⟨a, c, hv, hA⟩ := own_sx h.bo (by rw [List.length_map])
  cases hv
  exact hA
end Go.Proofs.YtjpbcjjleflffaaDoor
