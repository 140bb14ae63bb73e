import Derived.Test.YtcfniaknbbgheaaDoorY8
import Derived.Test.YtcfniaknbbgheaaDoorY15
import Derived.Test.YtcfniaknbbgheaaDoorY12
import Derived.Test.YtcfniaknbbgheaaDoorY14
import Derived.Test.YtcfniaknbbgheaaDoorY6
import Derived.Test.YtcfniaknbbgheaaDoorY7
import Derived.Maps.AppendAt
import Derived.Deep.Cut
import Derived.Deep.CutRange
import Derived.Deep.DeepCutAuto
/- Lists of attributes with their marks, and their bytes, in memory. -/
namespace Go.Proofs.YtcfniaknbbgheaaDoor
open Go.RowKit
set_option linter.unusedSimpArgs false
set_option linter.unusedVariables false
/-- Texts as cells. -/
def sxv (l : List ByteArray) : List Value := l.map fun x => Value.string x
theorem sxv_app (a b : List ByteArray) : sxv (a ++ b) = sxv a ++ sxv b := by simp [sxv]
theorem inf_str10 : (Tryd.prog.info? 9).map (fun i => (i.zero, i.size, i.bytes)) = some (some (.string ⟨#[]⟩), 1, 16) := by kernel_rfl
theorem one_str10 (p : ByteArray) : ∀ u ∈ [Value.string p], u.oneCell' = true := by
  intro u hu
  rw [List.mem_singleton] at hu
  subst hu; rfl
/-- Texts of a slice. -/
def SxL (w : World) (a : Option Addr) (l : List ByteArray) : Prop := ∀ i x, l[i]? = some x → ∃ g o, a = some ⟨g, o, none⟩ ∧ g < w.heap.size ∧ w.cell? ⟨g, o + i, none⟩ = some (.string x)
theorem SxL.below {w w' : World} {a : Option Addr} {l : List ByteArray} (h : SxL w a l) (hb : Below w.heap.size w w') : SxL w' a l := fun i x hx => by
  obtain ⟨g, o, h1, h2, h3⟩ := h i x hx
  exact ⟨g, o, h1, Nat.lt_of_lt_of_le h2 hb.size, by rw [hb.cell (p := ⟨g, o + i, none⟩) h2]; exact h3⟩
theorem own_sx {w : World} {B n : Nat} {e : TypeId} {v : Value} {l : List ByteArray} (h : w.ownsRow B e 1 v n (sxv l)) (hn : l.length = n) : ∃ a c, v = .slice a n c ∧ SxL w a l := by
  rcases h.2 with ⟨rfl, h0⟩ | ⟨g, cap, cur, rfl, hle, hg, hnc, _, hc, ht⟩
  · subst h0
    have : l = [] := List.eq_nil_of_length_eq_zero hn
    subst this
    exact ⟨none, 0, rfl, fun i x hx => by simp at hx⟩
  · refine ⟨some ⟨g, 0, none⟩, cap, rfl, fun k x hx => ⟨g, 0, rfl, (Array.getElem?_eq_some_iff.1 hg).1, ?_⟩⟩
    have hk : k < l.length := (List.getElem?_eq_some_iff.1 hx).1
    have hb : Bk w g cur e := hg
    have q : (sxv l)[k]? = some (.string x) := by unfold sxv; rw [List.getElem?_map, hx]; rfl
    rw [← ht, List.getElem?_take, if_pos (by omega), Array.getElem?_toList] at q
    rw [hb.cell, Nat.zero_add]; exact q
/-- An attribute's cells. -/
theorem cells7 {w : World} {b nd md ui gi : Nat} {mt : Int} {tg : ByteArray} {v : Value} {T : TypeId} (h : Bk w b (c7 nd md ui gi mt tg v) T) : w.cell? ⟨b, 0, none⟩ = some (.int .u8 (nd : Int)) ∧ w.cell? ⟨b, 1, none⟩ = some (.int .u32 (md : Int)) ∧ w.cell? ⟨b, 2, none⟩ = some (.int .u32 (ui : Int)) ∧ w.cell? ⟨b, 3, none⟩ = some (.int .u32 (gi : Int)) ∧ w.cell? ⟨b, 4, none⟩ = some (.int .i64 mt) ∧ w.cell? ⟨b, 5, none⟩ = some (.string tg) ∧ w.cell? ⟨b, 6, none⟩ = some v :=
  ⟨by rw [h.cell]; rfl, by rw [h.cell]; rfl, by rw [h.cell]; rfl, by rw [h.cell]; rfl, by rw [h.cell]; rfl, by rw [h.cell]; rfl, by rw [h.cell]; rfl⟩
theorem stF_inj : ∀ (l m : List At), (∀ a ∈ l, Gd a) → (∀ a ∈ m, Gd a) → l.length = m.length → stF l = stF m → l = m
  | [], [], _, _, _, _ => rfl
  | [], _ :: _, _, _, h, _ => by simp at h
  | _ :: _, [], _, _, h, _ => by simp at h
  | a :: l, b :: m, ha, hb, hl, h => by
    rw [stF_cons, stF_cons] at h
    have q1 := ha a (by simp)
    have q2 := hb b (by simp)
    have s1 := lay_len q1.ok (by have := q1.ui; omega) (by have := q1.gi; omega)
    have s2 := lay_len q2.ok (by have := q2.ui; omega) (by have := q2.gi; omega)
    obtain ⟨h1, h2⟩ := tx_inj (by rw [lay_size]; omega) (by rw [lay_size]; omega) h
    have h3 : a = b := lay_inj q1 q2 (congrArg bl h1)
    rw [h3, stF_inj l m (fun x hx => ha x (by simp [hx])) (fun x hx => hb x (by simp [hx])) (by simpa using hl) h2]
theorem stL_inj {l m : List At} (hl : GdL l) (hm : GdL m) (h : stL l = stL m) : l = m := by
  have q1 := hl.len
  have q2 := hm.len
  obtain ⟨h1, h2⟩ := e8_inj (by omega) (by omega) h
  exact stF_inj l m (fun a ha => hl.get ha) (fun a ha => hm.get ha) h1 h2
theorem cmp10 {a b : At} (ha : Gd a) (hb : Gd b) : decide ((⟨(lay a).toArray⟩ : ByteArray) = ⟨(lay b).toArray⟩) = smB a b := by
  cases h : smB a b with
  | true => rw [(smB_iff a b).1 h]; exact decide_eq_true rfl
  | false =>
    refine decide_eq_false fun e => ?_
    have := (smB_iff a b).2 (lay_inj ha hb (congrArg bl e))
    rw [h] at this; cases this
/-- The lists of these can be read. -/
def XvO (w : World) (P : List (At × Value)) : Prop := ∀ p ∈ P, AtOk p.1 ∧ ∃ ad c, p.2 = .slice ad p.1.xs.length c ∧ XaL w ad p.1.xs
theorem XrO.xv {w : World} {B : Nat} {P : List (At × Value)} (h : XrO w B P) : XvO w P := fun p hp => by
  obtain ⟨h1, h2, h3⟩ := h p hp
  obtain ⟨ad, c, hv, hX⟩ := own_xal h2 rfl (fun x hx => by have := h3 x hx; omega)
  exact ⟨h1, ad, c, hv, hX⟩
/-- These lists lie in rows of the call's own, with a mark behind. -/
def mrk : ByteArray × ByteArray := (⟨#[35]⟩, ⟨#[]⟩)
def MkO (w : World) (B : Nat) (P : List (At × Value)) : Prop := ∀ p ∈ P, AtOk p.1 ∧ (∀ x ∈ p.1.xs, x.1.size ≤ 140737488351232 ∧ x.2.size ≤ 140737488351232) ∧ ∃ g cp, p.2 = .slice (some ⟨g, 0, none⟩) p.1.xs.length cp ∧ w.ownsRow B 56 2 (.slice (some ⟨g, 0, none⟩) (p.1.xs.length + 1) cp) (p.1.xs.length + 1) (xav (p.1.xs ++ [mrk]))
theorem mk_xal {w : World} {B g cp : Nat} {xs : List (ByteArray × ByteArray)} (hs : ∀ x ∈ xs, x.1.size ≤ 140737488351232 ∧ x.2.size ≤ 140737488351232) (h : w.ownsRow B 56 2 (.slice (some ⟨g, 0, none⟩) (xs.length + 1) cp) (xs.length + 1) (xav (xs ++ [mrk]))) : XaL w (some ⟨g, 0, none⟩) xs ∧ XaL w (some ⟨g, 0, none⟩) (xs ++ [mrk]) := by
  obtain ⟨a, c, hv, hX⟩ := own_xal h (by simp) (fun x hx => by
    rcases List.mem_append.1 hx with q | q
    · exact hs x q
    · rw [List.mem_singleton] at q; subst q; exact ⟨by decide, by decide⟩)
  cases hv
  refine ⟨fun i x hx => hX i x ?_, hX⟩
  rw [List.getElem?_append_left (List.getElem?_eq_some_iff.1 hx).1]
  exact hx
theorem MkO.xv {w : World} {B : Nat} {P : List (At × Value)} (h : MkO w B P) : XvO w P := fun p hp => by
  obtain ⟨h1, h2, g, cp, hv, ho⟩ := h p hp
  exact ⟨h1, _, cp, hv, (mk_xal h2 ho).1⟩
theorem MkO.keep {w w' : World} {B : Nat} {P : List (At × Value)} (h : MkO w B P) (hk : ∀ g, B ≤ g → g < w.heap.size → w'.heap[g]? = w.heap[g]?) : MkO w' B P := fun p hp => by
  obtain ⟨h1, h2, g, cp, hv, ho⟩ := h p hp
  exact ⟨h1, h2, g, cp, hv, rows_keep ho hk⟩
theorem MkO.grow {w w' : World} {B B' m k : Nat} {e : TypeId} {P : List (At × Value)} {v : Value} {ys : List Value} (h : MkO w B P) (hv : w.ownsRow B' e k v m ys) (he : 56 ≠ e) (hg : w.grownBy w' v.ownBlock) : MkO w' B P := fun p hp => by
  obtain ⟨h1, h2, g, cp, hv2, ho⟩ := h p hp
  exact ⟨h1, h2, g, cp, hv2, own_ty ho hv he hg⟩
/-- Where the attributes of a row lie. -/
theorem row_atl {w : World} {B n : Nat} {e : TypeId} {v : Value} {P : List (At × Value)} (h : w.ownsRow B e 7 v n (atv P)) (hn : P.length = n) (hx : XvO w P) : ∃ a c, v = .slice a n c ∧ AtL w a (P.map Prod.fst) ∧ (a = none ∧ c = 0 ∧ n = 0 ∨ ∃ g, a = some ⟨g, 0, none⟩) ∧ n ≤ c := by
  rcases h.2 with ⟨rfl, h0⟩ | ⟨g, cap, cur, rfl, hle, hg, hnc, _, hc, ht⟩
  · subst h0
    have : P = [] := List.eq_nil_of_length_eq_zero hn
    subst this
    exact ⟨none, 0, rfl, fun i x hx => by simp at hx, .inl ⟨rfl, rfl, rfl⟩, Nat.le_refl _⟩
  · refine ⟨some ⟨g, 0, none⟩, cap, rfl, fun i a ha => ?_, .inr ⟨g, rfl⟩, hnc⟩
    rw [List.getElem?_map] at ha
    obtain ⟨p, hp, rfl⟩ := Option.map_eq_some_iff.1 ha
    obtain ⟨h1, ad, c, hv, hX⟩ := hx p (List.mem_of_getElem? hp)
    have hb : Bk w g cur e := hg
    have hl : i < P.length := (List.getElem?_eq_some_iff.1 hp).1
    have q : ∀ j, j < 7 → w.cell? ⟨g, 0 + i * 7 + j, none⟩ = (acl p)[j]? := fun j hj => by
      have := atv_get P i p hp j hj
      rw [← ht, List.getElem?_take, if_pos (by omega), Array.getElem?_toList] at this
      rw [hb.cell, Nat.zero_add]
      exact this
    have q0 := q 0 (by omega)
    rw [Nat.add_zero] at q0
    refine ⟨h1, g, 0, ad, c, rfl, (Array.getElem?_eq_some_iff.1 hg).1, q0, q 1 (by omega), q 2 (by omega), q 3 (by omega), q 4 (by omega), q 5 (by omega), ?_, hX⟩
    rw [q 6 (by omega), ← hv]; rfl
theorem AtL.take {w : World} {a : Option Addr} {l : List At} (h : AtL w a l) (k : Nat) : AtL w a (l.take k) := fun i x hx => by
  rw [List.getElem?_take] at hx
  split at hx
  · exact h i x hx
  · cases hx
/-- Attributes and their bytes so far. -/
structure LS (w0 : World) (P : List (At × Value)) (vm vb : Value) (w : World) : Prop where
  mo : w.ownsRow w0.heap.size 28 7 vm P.length (atv P)
  bo : w.ownsRow w0.heap.size 9 1 vb P.length (sxv (P.map fun p => ⟨(lay p.1).toArray⟩))
  mq : MkO w w0.heap.size P
  ok : ∀ p ∈ P, okA p.1 = true
  bel : Below w0.heap.size w0 w
theorem LS.keep {w0 : World} {P : List (At × Value)} {vm vb : Value} {w w' : World} (h : LS w0 P vm vb w) (hb : Below w.heap.size w w') : LS w0 P vm vb w' :=
  ⟨rows_keep h.mo (fun g _ h2 => hb.block g h2), rows_keep h.bo (fun g _ h2 => hb.block g h2), h.mq.keep (fun g _ h2 => hb.block g h2), h.ok, h.bel.trans (hb.mono h.bel.size)⟩
theorem LS.start (w : World) : LS w [] (.slice none 0 0) (.slice none 0 0) w := ⟨rows_none, rows_none, (fun p hp => nomatch hp), (fun p hp => nomatch hp), Below.refl _ _⟩
/-- What the law's own does. -/
def OwnC : Prop := ∀ (nd md ui gi : Nat) (mt : Int) (tg : ByteArray) (xs : List (ByteArray × ByteArray)) (ad : Option Addr) (n c : Nat) (w : World), XaL w ad xs → xs.length = n → n ≤ 4398046510976 →
    Calls Tryd.prog 5 #[atV nd md ui gi mt tg (.slice ad n c)] w fun e w' => ∃ g cp, e = .returned (.agg (c7 nd md ui gi mt tg (.slice (some ⟨g, 0, none⟩) n cp))) ∧ w'.ownsRow w.heap.size 56 2 (.slice (some ⟨g, 0, none⟩) (n + 1) cp) (n + 1) (xav (xs ++ [(⟨#[35]⟩, ⟨#[]⟩)])) ∧ Below w.heap.size w w'
theorem xal_small {w : World} {a : Option Addr} {xs : List (ByteArray × ByteArray)} (h : XaL w a xs) : ∀ x ∈ xs, x.1.size ≤ 140737488351232 ∧ x.2.size ≤ 140737488351232 := fun x hx => by
  obtain ⟨i, hi⟩ := List.getElem?_of_mem hx
  obtain ⟨_, _, _, _, _, _, h5, h6⟩ := h i x hi
  exact ⟨h5, h6⟩
/-- What Read tells of the bytes of one that may be. -/
theorem rd_put {a a' : At} {er : Int} (h : RdS ⟨(lay a).toArray⟩ a' er) (hg : Gd a) (ho : AtOk a') : er = 0 ∧ a' = a := by
  rcases h with ⟨h1, h2, h3⟩ | ⟨_, _, h3⟩
  · exact ⟨h1, lay_inj ⟨h2, ho.ui, ho.gi⟩ hg h3⟩
  · exact absurd rfl (h3 a hg)
theorem sr_put {l l' : List At} {er : Int} (h : SrS ⟨(stL l).toArray⟩ l' er) (hg : GdL l) (ho : ∀ a ∈ l', AtOk a) : er = 0 ∧ l' = l := by
  rcases h with ⟨h1, h2, h3⟩ | ⟨_, _, h3⟩
  · exact ⟨h1, stL_inj ⟨h2, fun a ha => ⟨(ho a ha).ui, (ho a ha).gi⟩⟩ hg h3⟩
  · exact absurd rfl (h3 l hg)
theorem LS.at {w0 : World} {P : List (At × Value)} {am : Option Addr} {k cm : Nat} {vb : Value} {w : World} (h : LS w0 P (.slice am k cm) vb w) : AtL w am (P.map Prod.fst) ∧ P.length ≤ cm := by
  obtain ⟨a, c, hv, hA, _, hc⟩ := row_atl h.mo rfl h.mq.xv
  cases hv
  exact ⟨hA, hc⟩
theorem LS.sx {w0 : World} {P : List (At × Value)} {vm : Value} {ab : Option Addr} {k cb : Nat} {w : World} (h : LS w0 P vm (.slice ab k cb) w) : SxL w ab (P.map fun p => ⟨(lay p.1).toArray⟩) := by
  obtain ⟨a, c, hv, hA⟩ := own_sx h.bo (by rw [List.length_map])
  cases hv
  exact hA
end Go.Proofs.YtcfniaknbbgheaaDoor
/- Modes of both sides at any node and any mode; the document's Put. -/
namespace Go.Proofs.YtcfniaknbbgheaaDoor
open Go.RowKit
set_option linter.unusedSimpArgs false
set_option linter.unusedVariables false
set_option maxRecDepth 100000 in
theorem modes_bad (nd m : Nat) (w : World) (h : ndB nd = false ∨ mdB m = false) : Calls Tryd.prog 10 #[.int .u8 (nd : Int), .int .u32 (m : Int)] w fun e w' => e = .returned (.tuple #[.string ⟨#[]⟩, .int .i64 1]) ∧ Below w.heap.size w w' := by
  have h1 := isNode_any nd
  have h2 := isMode_any m
  cases hn : ndB nd with
  | false =>
    rw [hn] at h1
    clear h h2
    go_enter Tryd.func10, Tryd.ntmps10
    go_wp2_with fail
    refine (h1 _).mono ?_
    rintro e w1 ⟨rfl, rfl⟩
    go_wp2
    go_ret2
    exact ⟨rfl, (Below.refl _ _).alloc (Nat.le_refl _) _⟩
  | true =>
    rw [hn] at h1 h
    have hm : mdB m = false := by simpa using h
    rw [hm] at h2
    clear h
    go_enter Tryd.func10, Tryd.ntmps10
    go_wp2_with fail
    refine (h1 _).mono ?_
    rintro e w1 ⟨rfl, rfl⟩
    go_wp2_with fail
    refine (h2 _).mono ?_
    rintro e w1 ⟨rfl, rfl⟩
    go_wp2
    go_ret2
    exact ⟨rfl, (Below.refl _ _).alloc (Nat.le_refl _) _⟩
/-- What Modes tells. -/
def mdsS (nd m : Nat) : ByteArray := if 1 ≤ nd ∧ nd ≤ 3 ∧ m < 4096 then ⟨(mlL (ndC nd) m 3).toArray⟩ else ⟨#[]⟩
def mdsE (nd m : Nat) : Int := if 1 ≤ nd ∧ nd ≤ 3 ∧ m < 4096 then 0 else 1
theorem amodes (nd m : Nat) (w : World) (hT : Th w) : Calls Tryd.prog 10 #[.int .u8 (nd : Int), .int .u32 (m : Int)] w fun e w' => e = .returned (.tuple #[.string (mdsS nd m), .int .i64 (mdsE nd m)]) ∧ Below w.heap.size w w' := by
  unfold mdsS mdsE
  by_cases h : 1 ≤ nd ∧ nd ≤ 3 ∧ m < 4096
  · rw [if_pos h, if_pos h]
    exact modes_any nd m w (decide_eq_true ⟨h.1, h.2.1⟩) (decide_eq_true (by omega)) h.1 h.2.1 h.2.2 hT
  · rw [if_neg h, if_neg h]
    refine modes_bad nd m w ?_
    by_cases h1 : 1 ≤ nd ∧ nd ≤ 3
    · exact .inr (decide_eq_false (by omega))
    · exact .inl (decide_eq_false h1)
theorem rmodes (nd m : Nat) (w : World) : Calls Tryd.prog 11 #[.int .u8 (nd : Int), .int .u32 (m : Int)] w fun e w' => e = .returned (.tuple #[.string (mdsS nd m), .int .i64 (mdsE nd m)]) ∧ Below w.heap.size w w' := by
  unfold mdsS mdsE
  by_cases h : 1 ≤ nd ∧ nd ≤ 3 ∧ m < 4096
  · rw [if_pos h, if_pos h]
    exact rmodes_any nd m w h.1 h.2.1 h.2.2
  · rw [if_neg h, if_neg h]
    exact rmodes_no nd m w h
set_option maxHeartbeats 4000000 in
set_option maxRecDepth 100000 in
theorem rput10 (nd md ui gi : Nat) (mt : Int) (tg : ByteArray) (xs : List (ByteArray × ByteArray)) (ad : Option Addr) (n c : Nat) (w : World) (hX : XaL w ad xs) (hl : xs.length = n) (hn : n ≤ 4611686018427387904) (ht : tg.size ≤ 140737488351232) (hT : U8 w) (hu : ui < 4294967296) (hg : gi < 4294967296) :
    Calls Tryd.prog 7 #[atV nd md ui gi mt tg (.slice ad n c)] w fun e w' => e = .returned (.tuple #[.string ⟨(ptl ⟨nd, md, ui, gi, mt, tg, xs⟩).toArray⟩, .int .i64 (pte ⟨nd, md, ui, gi, mt, tg, xs⟩)]) ∧ Below w.heap.size w w' := by
  have bA := bk_new w (c7 nd md ui gi mt tg (.slice ad n c)) 25
  have hbA : Hid (Below w.heap.size w (w.alloc (.cells (c7 nd md ui gi mt tg (.slice ad n c)) 25))) := (Below.refl _ _).alloc (Nat.le_refl _) _
  have CC : Hid (∀ W, Below w.heap.size w W → Calls Tryd.prog 15 #[atV nd md ui gi mt tg (.slice ad n c)] W fun e w' => e = .returned (.int .i64 (ckE ⟨nd, md, ui, gi, mt, tg, xs⟩)) ∧ Below W.heap.size W w') := fun W hW => rcheck10 nd md ui gi mt tg xs ad n c W (hX.below hW) hl hn ht (hT.below hW)
  have BX : Hid (Bk (w.alloc (.cells (c7 nd md ui gi mt tg (.slice ad n c)) 25)) w.heap.size (c7 nd md ui gi mt tg (.slice ad n c)) 25) := bA
  cases hok : okA ⟨nd, md, ui, gi, mt, tg, xs⟩ with
  | false =>
    have hc0 : ckE ⟨nd, md, ui, gi, mt, tg, xs⟩ = 1 := by unfold ckE; rw [hok]; rfl
    rw [(pte_no hok).1, (pte_no hok).2]
    rw [hc0] at CC
    clear hX hT hok hc0 bA
    go_enter Tryd.func7, Tryd.ntmps7
    go_wp2_with fail
    refine (CC.out _ hbA.out).mono ?_
    rintro e w1 ⟨rfl, hb1⟩
    have B1 : Hid (Below w.heap.size w w1) := hbA.out.trans (hb1.mono (by rw [al_size]; omega))
    clear hb1
    go_wp2
    go_ret2
    exact ⟨rfl, B1.out⟩
  | true =>
    have hc0 : ckE ⟨nd, md, ui, gi, mt, tg, xs⟩ = 0 := by unfold ckE; rw [hok]; rfl
    rw [(pte_yes hok).1, (pte_yes hok).2]
    rw [hc0] at CC
    obtain ⟨Q, hQ⟩ : ∃ Q : ByteArray, (⟨(lay ⟨nd, md, ui, gi, mt, tg, xs⟩).toArray⟩ : ByteArray) = Q := ⟨_, rfl⟩
    have CL : Hid (∀ W, Below w.heap.size w W → Calls Tryd.prog 24 #[atV nd md ui gi mt tg (.slice ad n c)] W fun e w' => e = .returned (.string Q) ∧ Below W.heap.size W w') := fun W hW => by rw [← hQ]; exact rlaid10 nd md ui gi mt tg xs ad n c W (hX.below hW) hl hu hg hok
    rw [hQ]
    clear hX hT hok hc0 bA hQ
    go_enter Tryd.func7, Tryd.ntmps7
    go_wp2_with fail
    refine (CC.out _ hbA.out).mono ?_
    rintro e w1 ⟨rfl, hb1⟩
    have B1 : Hid (Below w.heap.size w w1) := hbA.out.trans (hb1.mono (by rw [al_size]; omega))
    obtain ⟨x0, x1, x2, x3, x4, x5, x6⟩ := cells7 (BX.out.below hb1 BX.out.lt)
    clear hb1
    go_wp2_with fail
    refine (CL.out _ B1.out).mono ?_
    rintro e w2 ⟨rfl, hb2⟩
    have B2 : Hid (Below w.heap.size w w2) := B1.out.trans (hb2.mono B1.out.size)
    clear hb2
    go_wp2
    go_ret2
    exact ⟨rfl, B2.out⟩
end Go.Proofs.YtcfniaknbbgheaaDoor
/- The document's Same. -/
namespace Go.Proofs.YtcfniaknbbgheaaDoor
open Go.RowKit
set_option linter.unusedSimpArgs false
set_option linter.unusedVariables false
theorem smB_ne {a b : At} (h : a ≠ b) : smB a b = false := by
  cases hh : smB a b with
  | false => rfl
  | true => exact absurd ((smB_iff a b).1 hh) h
set_option maxHeartbeats 16000000 in
set_option maxRecDepth 100000 in
theorem rsame10 (nd md ui gi : Nat) (mt : Int) (tg : ByteArray) (xs : List (ByteArray × ByteArray)) (ad : Option Addr) (c : Nat) (nd' md' ui' gi' : Nat) (mt' : Int) (tg' : ByteArray) (ys : List (ByteArray × ByteArray)) (bd : Option Addr) (d : Nat) (w : World)
    (hx : XaL w ad xs) (hy : XaL w bd ys) (nx : xs.length ≤ 4611686018427387904) (ny : ys.length ≤ 4611686018427387904) :
    Calls Tryd.prog 12 #[atV nd md ui gi mt tg (.slice ad xs.length c), atV nd' md' ui' gi' mt' tg' (.slice bd ys.length d)] w fun e w' => e = .returned (.bool (smB ⟨nd, md, ui, gi, mt, tg, xs⟩ ⟨nd', md', ui', gi', mt', tg', ys⟩)) ∧ Below w.heap.size w w' := by
  have HB0 : Hid (Below w.heap.size w ((w.alloc (.cells #[.int .u8 (nd : Int), .int .u32 (md : Int), .int .u32 (ui : Int), .int .u32 (gi : Int), .int .i64 mt, .string tg, .slice ad xs.length c] 25)).alloc (.cells #[.int .u8 (nd' : Int), .int .u32 (md' : Int), .int .u32 (ui' : Int), .int .u32 (gi' : Int), .int .i64 mt', .string tg', .slice bd ys.length d] 25))) := ((Below.refl _ _).alloc (Nat.le_refl _) _).alloc (by simp) _
  have HX : Hid (XaL w ad xs) := hx
  have HY : Hid (XaL w bd ys) := hy
  clear hx hy
  by_cases hf : ¬ nd = nd'
  · have hb : smB ⟨nd, md, ui, gi, mt, tg, xs⟩ ⟨nd', md', ui', gi', mt', tg', ys⟩ = false := smB_ne (fun h => hf (congrArg At.nd h))
    have hz : ((nd : Int) != nd') = true := by simp; omega
    rw [hb]
    clear hb hf
    go_enter Tryd.func12, Tryd.ntmps12
    go_wp2
    go_ret
    exact ⟨rfl, HB0.out⟩
  replace hf : nd = nd' := Classical.not_not.1 hf
  have znd : ((nd : Int) != nd') = false := by simp [hf]
  have Ends : Hid (nd = nd') := hf
  clear hf
  by_cases hf : ¬ md = md'
  · have hb : smB ⟨nd, md, ui, gi, mt, tg, xs⟩ ⟨nd', md', ui', gi', mt', tg', ys⟩ = false := smB_ne (fun h => hf (congrArg At.md h))
    have hz : ((md : Int) != md') = true := by simp; omega
    rw [hb]
    clear hb hf
    go_enter Tryd.func12, Tryd.ntmps12
    go_wp2
    go_ret
    exact ⟨rfl, HB0.out⟩
  replace hf : md = md' := Classical.not_not.1 hf
  have zmd : ((md : Int) != md') = false := by simp [hf]
  have Emd : Hid (md = md') := hf
  clear hf
  by_cases hf : ¬ ui = ui'
  · have hb : smB ⟨nd, md, ui, gi, mt, tg, xs⟩ ⟨nd', md', ui', gi', mt', tg', ys⟩ = false := smB_ne (fun h => hf (congrArg At.ui h))
    have hz : ((ui : Int) != ui') = true := by simp; omega
    rw [hb]
    clear hb hf
    go_enter Tryd.func12, Tryd.ntmps12
    go_wp2
    go_ret
    exact ⟨rfl, HB0.out⟩
  replace hf : ui = ui' := Classical.not_not.1 hf
  have zui : ((ui : Int) != ui') = false := by simp [hf]
  have Eui : Hid (ui = ui') := hf
  clear hf
  by_cases hf : ¬ gi = gi'
  · have hb : smB ⟨nd, md, ui, gi, mt, tg, xs⟩ ⟨nd', md', ui', gi', mt', tg', ys⟩ = false := smB_ne (fun h => hf (congrArg At.gi h))
    have hz : ((gi : Int) != gi') = true := by simp; omega
    rw [hb]
    clear hb hf
    go_enter Tryd.func12, Tryd.ntmps12
    go_wp2
    go_ret
    exact ⟨rfl, HB0.out⟩
  replace hf : gi = gi' := Classical.not_not.1 hf
  have zgi : ((gi : Int) != gi') = false := by simp [hf]
  have Egi : Hid (gi = gi') := hf
  clear hf
  by_cases hf : ¬ mt = mt'
  · have hb : smB ⟨nd, md, ui, gi, mt, tg, xs⟩ ⟨nd', md', ui', gi', mt', tg', ys⟩ = false := smB_ne (fun h => hf (congrArg At.mt h))
    have hz : (mt != mt') = true := by simpa using hf
    rw [hb]
    clear hb hf
    go_enter Tryd.func12, Tryd.ntmps12
    go_wp2
    go_ret
    exact ⟨rfl, HB0.out⟩
  replace hf : mt = mt' := Classical.not_not.1 hf
  have zmt : (mt != mt') = false := by simp [hf]
  have Emt : Hid (mt = mt') := hf
  clear hf
  by_cases hf : ¬ tg = tg'
  · have hb : smB ⟨nd, md, ui, gi, mt, tg, xs⟩ ⟨nd', md', ui', gi', mt', tg', ys⟩ = false := smB_ne (fun h => hf (congrArg At.tg h))
    have hz : (tg.toList != tg'.toList) = true := by simp only [bne, toL_eq, decide_eq_false hf]; rfl
    have hz1 : (tg.toList == tg'.toList) = false := by rw [toL_eq]; exact decide_eq_false hf
    have hz2 : ¬ tg.toList = tg'.toList := by simpa using hz1
    rw [hb]
    clear hb hf
    go_enter Tryd.func12, Tryd.ntmps12
    go_wp2
    go_ret
    exact ⟨rfl, HB0.out⟩
  replace hf : tg = tg' := Classical.not_not.1 hf
  subst hf
  have ztg : (tg.toList != tg.toList) = false := by simp
  have Etg : Hid (tg = tg) := rfl
  by_cases hl : ¬ xs.length = ys.length
  · have hb : smB ⟨nd, md, ui, gi, mt, tg, xs⟩ ⟨nd', md', ui', gi', mt', tg, ys⟩ = false := smB_ne (fun h => hl (congrArg (fun a : At => a.xs.length) h))
    have hz : ((xs.length : Int) != (ys.length : Int)) = true := by simp; omega
    rw [hb]
    clear hb hl
    go_enter Tryd.func12, Tryd.ntmps12
    go_wp2
    go_ret
    exact ⟨rfl, HB0.out⟩
  replace hl : xs.length = ys.length := Classical.not_not.1 hl
  obtain ⟨n, hn⟩ : ∃ n, xs.length = n := ⟨_, rfl⟩
  have hn2 : ys.length = n := by omega
  have HL : Hid (xs.length = n ∧ ys.length = n) := ⟨hn, hn2⟩
  rw [hn, hn2] at HB0 ⊢
  have hnz : ((n : Int) != (n : Int)) = false := by simp
  have hnn : n ≤ 4611686018427387904 := by omega
  have HS : Hid (xs = ys → smB ⟨nd, md, ui, gi, mt, tg, xs⟩ ⟨nd', md', ui', gi', mt', tg, ys⟩ = true) := fun h => (smB_iff _ _).2 (by rw [Ends.out, Emd.out, Eui.out, Egi.out, Emt.out, h])
  have HN : Hid (xs ≠ ys → smB ⟨nd, md, ui, gi, mt, tg, xs⟩ ⟨nd', md', ui', gi', mt', tg, ys⟩ = false) := fun h => smB_ne (fun e => h (congrArg At.xs e))
  obtain ⟨q, hq⟩ : ∃ q, smB ⟨nd, md, ui, gi, mt, tg, xs⟩ ⟨nd', md', ui', gi', mt', tg, ys⟩ = q := ⟨_, rfl⟩
  rw [hq] at HS HN ⊢
  have B1 : Hid (Bk ((w.alloc (.cells #[.int .u8 (nd : Int), .int .u32 (md : Int), .int .u32 (ui : Int), .int .u32 (gi : Int), .int .i64 mt, .string tg, .slice ad n c] 25)).alloc (.cells #[.int .u8 (nd' : Int), .int .u32 (md' : Int), .int .u32 (ui' : Int), .int .u32 (gi' : Int), .int .i64 mt', .string tg, .slice bd n d] 25)) w.heap.size #[.int .u8 (nd : Int), .int .u32 (md : Int), .int .u32 (ui : Int), .int .u32 (gi : Int), .int .i64 mt, .string tg, .slice ad n c] 25) := (bk_new _ _ _).alloc _
  have B2 : Hid (Bk ((w.alloc (.cells #[.int .u8 (nd : Int), .int .u32 (md : Int), .int .u32 (ui : Int), .int .u32 (gi : Int), .int .i64 mt, .string tg, .slice ad n c] 25)).alloc (.cells #[.int .u8 (nd' : Int), .int .u32 (md' : Int), .int .u32 (ui' : Int), .int .u32 (gi' : Int), .int .i64 mt', .string tg, .slice bd n d] 25)) (w.heap.size + 1) #[.int .u8 (nd' : Int), .int .u32 (md' : Int), .int .u32 (ui' : Int), .int .u32 (gi' : Int), .int .i64 mt', .string tg, .slice bd n d] 25) := by
    have h := bk_new (w.alloc (.cells #[.int .u8 (nd : Int), .int .u32 (md : Int), .int .u32 (ui : Int), .int .u32 (gi : Int), .int .i64 mt, .string tg, .slice ad n c] 25)) #[.int .u8 (nd' : Int), .int .u32 (md' : Int), .int .u32 (ui' : Int), .int .u32 (gi' : Int), .int .i64 mt', .string tg, .slice bd n d] 25
    rw [al_size] at h
    exact h
  clear hn hn2 hl nx ny hq Ends Emd Eui Egi Emt Etg
  go_enter Tryd.func12, Tryd.ntmps12
  go_wp2
  go_loopw [5] (fun v wr => ∃ k : Nat, v = .int .i64 k ∧ k ≤ n ∧ Hid (Below w.heap.size w wr) ∧ wr.cell? ⟨w.heap.size, 6, none⟩ = some (.slice ad n c) ∧ wr.cell? ⟨w.heap.size + 1, 6, none⟩ = some (.slice bd n d) ∧ Hid (∀ i, i < k → xs[i]? = ys[i]?)) (fun v _ => n - (intOf v).toNat)
  case atStart => exact ⟨0, rfl, Nat.zero_le _, HB0.out, by rw [B1.out.cell]; rfl, by rw [B2.out.cell]; rfl, fun i hi => by omega⟩
  case round =>
    clear HB0 B1 B2
    obtain ⟨k, rfl, hk, HB, a6, b6, HE⟩ := hrel
    by_cases hlt : k < n
    · obtain ⟨x, hx⟩ : ∃ x, xs[k]? = some x := ⟨xs[k]'(by rw [HL.out.1]; exact hlt), List.getElem?_eq_getElem _⟩
      obtain ⟨y, hy⟩ : ∃ y, ys[k]? = some y := ⟨ys[k]'(by rw [HL.out.2]; exact hlt), List.getElem?_eq_getElem _⟩
      obtain ⟨g, o, rfl, hg, hc1, hc2, _, _⟩ := HX.out.below HB.out k x hx
      obtain ⟨g2, o2, rfl, hg2, hd1, hd2, _, _⟩ := HY.out.below HB.out k y hy
      obtain ⟨x1, x2⟩ := x
      obtain ⟨y1, y2⟩ := y
      simp only at hc1 hc2 hd1 hd2
      have H1 : Hid (xs[k]? = some (x1, x2) ∧ ys[k]? = some (y1, y2)) := ⟨hx, hy⟩
      clear hx hy
      have hkz : (k : Int) < (n : Nat) := by omega
      have t1 := toL_eq x1 y1
      have t2 := toL_eq x2 y2
      by_cases he : x1 = y1 ∧ x2 = y2
      · obtain ⟨rfl, rfl⟩ := he
        simp only [decide_true] at t1 t2
        go_wp2
        go_quiet (fail)
        go_wp2
        go_roundw
        case rel =>
          refine ⟨k + 1, by go_num, by omega, below_drewN HB.out _, a6, b6, fun i hi => ?_⟩
          by_cases hik : i < k
          · exact HE.out i hik
          · obtain rfl : i = k := by omega
            rw [H1.out.1, H1.out.2]
        case measure => simp [intOf]; omega
      · have hfin : Hid (q = false) := HN.out fun e => he (by
          have := H1.out
          rw [e] at this
          have q := Option.some.inj (this.1.symm.trans this.2)
          exact ⟨congrArg Prod.fst q, congrArg Prod.snd q⟩)
        by_cases h1 : x1 = y1
        · subst h1
          have h2 : ¬ x2 = y2 := fun h => he ⟨rfl, h⟩
          simp only [decide_true] at t1
          simp only [h2, decide_false] at t2
          clear he
          go_wp2
          go_quiet (fail)
          go_wp2
          go_ret
          exact ⟨retB hfin.out.symm, below_drewN HB.out _⟩
        · simp only [h1, decide_false] at t1
          clear he
          go_wp2
          go_quiet (fail)
          go_wp2
          go_ret
          exact ⟨retB hfin.out.symm, below_drewN HB.out _⟩
    · have hkz : ¬ (k : Int) < (n : Nat) := by omega
      go_wp2
      go_ret
      refine ⟨retB (Eq.symm (HS.out (List.ext_getElem? fun i => ?_))), HB.out⟩
      by_cases hi : i < n
      · exact HE.out i (by omega)
      · rw [List.getElem?_eq_none (by rw [HL.out.1]; omega), List.getElem?_eq_none (by rw [HL.out.2]; omega)]
end Go.Proofs.YtcfniaknbbgheaaDoor
/- The law's ref. -/
namespace Go.Proofs.YtcfniaknbbgheaaDoor
open Go.RowKit
set_option linter.unusedSimpArgs false
set_option linter.unusedVariables false
theorem inf_rxattr : (Tryd.prog.info? 55).map (fun i => (i.zero, i.size, i.bytes)) = some (some (.agg #[.string ⟨#[]⟩, .string ⟨#[]⟩]), 2, 32) := by kernel_rfl
theorem inf_rattr : (Tryd.prog.info? 25).map (·.size) = some 7 := by kernel_rfl
/-- What lies there while a list is copied. -/
structure OF (w0 : World) (nd md ui gi : Nat) (mt : Int) (tg : ByteArray) (ad : Option Addr) (n c : Nat) (ys : List (ByteArray × ByteArray)) (v : Value) (w : World) : Prop where
  ab : Bk w w0.heap.size (c7 nd md ui gi mt tg (.slice ad n c)) 28
  rb : Bk w (w0.heap.size + 1) z7 25
  xb : Bk w (w0.heap.size + 1 + 1) (c7 nd md ui gi mt tg v) 25
  ow : w.ownsRow (w0.heap.size + 1 + 1 + 1) 55 2 v ys.length (xav ys)
  bel : Below w0.heap.size w0 w
theorem OF.drew {w0 : World} {nd md ui gi : Nat} {mt : Int} {tg : ByteArray} {ad : Option Addr} {n c : Nat} {ys : List (ByteArray × ByteArray)} {v : Value} {w : World} (h : OF w0 nd md ui gi mt tg ad n c ys v w) : OF w0 nd md ui gi mt tg ad n c ys v w.drew :=
  ⟨h.ab, h.rb, h.xb, h.ow, h.bel.drew⟩
theorem OF.start (w0 : World) (nd md ui gi : Nat) (mt : Int) (tg : ByteArray) (ad : Option Addr) (n c : Nat) : OF w0 nd md ui gi mt tg ad n c [] (.slice none 0 0) (((w0.alloc (.cells (c7 nd md ui gi mt tg (.slice ad n c)) 28)).alloc (.cells z7 25)).alloc (.cells (c7 nd md ui gi mt tg (.slice none 0 0)) 25)) := by
  have s1 : (w0.alloc (.cells (c7 nd md ui gi mt tg (.slice ad n c)) 28)).heap.size = w0.heap.size + 1 := al_size _ _
  have s2 : ((w0.alloc (.cells (c7 nd md ui gi mt tg (.slice ad n c)) 28)).alloc (.cells z7 25)).heap.size = w0.heap.size + 1 + 1 := by rw [al_size, s1]
  have b1 := bk_new (w0.alloc (.cells (c7 nd md ui gi mt tg (.slice ad n c)) 28)) z7 25
  rw [s1] at b1
  have b2 := bk_new ((w0.alloc (.cells (c7 nd md ui gi mt tg (.slice ad n c)) 28)).alloc (.cells z7 25)) (c7 nd md ui gi mt tg (.slice none 0 0)) 25
  rw [s2] at b2
  exact ⟨((bk_new w0 _ _).alloc _).alloc _, b1.alloc _, b2, rows_none, (((Below.refl _ w0).alloc (Nat.le_refl _) _).alloc (by omega) _).alloc (by omega) _⟩
/-- One is appended. -/
theorem OF.app {w0 : World} {nd md ui gi : Nat} {mt : Int} {tg : ByteArray} {ad : Option Addr} {n c : Nat} {ys : List (ByteArray × ByteArray)} {v : Value} {w : World} (h : OF w0 nd md ui gi mt tg ad n c ys v w) (x y : ByteArray) (hn : (ys.length + 1) * 32 ≤ 140737488355328) :
    ∃ g cp w7, (Builtin.append_ #[23, 23] 23 #[v, .slice (some ⟨w.heap.size, 0, none⟩) 1 1]).run Tryd.prog (w.alloc (.cells #[.string x, .string y] 55)) = .ok (.slice (some ⟨g, 0, none⟩) (ys.length + 1) cp) w7 ∧
      OF w0 nd md ui gi mt tg ad n c (ys ++ [(x, y)]) (.slice (some ⟨g, 0, none⟩) (ys.length + 1) cp) (w7.setCell ⟨w0.heap.size + 1 + 1, 6, none⟩ (.slice (some ⟨g, 0, none⟩) (ys.length + 1) cp)) ∧
      Bk w7 (w0.heap.size + 1 + 1) (c7 nd md ui gi mt tg v) 25 ∧ Bk w7 w0.heap.size (c7 nd md ui gi mt tg (.slice ad n c)) 28 ∧ ys.length + 1 ≤ cp ∧ Below w0.heap.size w0 w7 ∧
      w7.ownsRow (w0.heap.size + 1 + 1 + 1) 55 2 (.slice (some ⟨g, 0, none⟩) (ys.length + 1) cp) (ys.length + 1) (xav (ys ++ [(x, y)])) ∧ Bk w7 (w0.heap.size + 1) z7 25 := by
  obtain ⟨i0, hi, hz0, hz1, hz2⟩ := info_parts inf_rxattr
  have hz := h.bel.size
  have hx3 := h.xb.lt
  obtain ⟨v', w7, hrun, hown, hgrow, _, hat⟩ := run_append_own_at (P := Tryd.prog) (w := w.alloc (.cells #[.string x, .string y] 55)) (w0.heap.size + 1 + 1 + 1) 23 23 55 i0 (.agg #[.string ⟨#[]⟩, .string ⟨#[]⟩]) 2 32 Tryd.underlying23 hi hz0 hz1 hz2 rfl (by decide) v ys.length (xav ys) (h.ow.alloc _) ⟨w.heap.size, 0, none⟩ 1 1 [.string x, .string y] rfl (new_two _ _ _ _) (one_two_s _ _) (by unfold maxLen; omega) (by omega) (by rw [al_size]; omega)
  have hgr : ∀ b, v.ownBlock = some b → w0.heap.size + 1 + 1 + 1 ≤ b := fun b hb => (rows_blk h.ow hb).1
  have b1 := (h.ab.alloc (.cells #[.string x, .string y] 55)).grown hgrow (fun e => by have := hgr _ e; omega)
  have b2 := (h.rb.alloc (.cells #[.string x, .string y] 55)).grown hgrow (fun e => by have := hgr _ e; omega)
  have b3 := (h.xb.alloc (.cells #[.string x, .string y] 55)).grown hgrow (fun e => by have := hgr _ e; omega)
  have b4 : Below w0.heap.size w0 w7 := rows_bel (h.bel.alloc hz _) (by rw [al_size]; omega) (h.ow.alloc _) (by omega) hgrow
  have ho : w7.ownsRow (w0.heap.size + 1 + 1 + 1) 55 2 v' (ys.length + 1) (xav (ys ++ [(x, y)])) := by rw [xav_app]; exact hown
  obtain ⟨g, cp, hv, hcp⟩ : ∃ g cp, v' = .slice (some ⟨g, 0, none⟩) (ys.length + 1) cp ∧ ys.length + 1 ≤ cp := by
    rcases ho.2 with ⟨_, h0⟩ | ⟨g7, c7, cur, h1, _, _, h2, _⟩
    · omega
    · exact ⟨g7, c7, h1, h2⟩
  subst hv
  have hg : w7.grownBy (w7.setCell ⟨w0.heap.size + 1 + 1, 6, none⟩ (.slice (some ⟨g, 0, none⟩) (ys.length + 1) cp)) (some (w0.heap.size + 1 + 1)) := Lib.grownBy_setB (World.grownBy.refl _ _) 6 _
  refine ⟨g, cp, w7, hrun, ⟨b1.grown hg (fun e => by injection e with e; omega), b2.grown hg (fun e => by injection e with e; omega), b3.set 6 _, ?_, below_own b4 b4.size hg (by omega)⟩, b3, b1, hcp, b4, ho, b2⟩
  rw [List.length_append]
  exact own_set ho (by omega)
set_option maxHeartbeats 8000000 in
set_option maxRecDepth 100000 in
theorem ref10 (nd md ui gi : Nat) (mt : Int) (tg : ByteArray) (xs : List (ByteArray × ByteArray)) (ad : Option Addr) (n c : Nat) (w : World) (hX : XaL w ad xs) (hl : xs.length = n) (hn : n ≤ 4398046510976) :
    Calls Tryd.prog 13 #[atV nd md ui gi mt tg (.slice ad n c)] w fun e w' => ∃ v, e = .returned (.agg (c7 nd md ui gi mt tg v)) ∧ w'.ownsRow w.heap.size 55 2 v n (xav xs) ∧ Below w.heap.size w w' := by
  have HX : Hid (XaL w ad xs) := hX
  have HL : Hid (xs.length = n) := hl
  have O0 : Hid (OF w nd md ui gi mt tg ad n c [] (.slice none 0 0) (((w.alloc (.cells (c7 nd md ui gi mt tg (.slice ad n c)) 28)).alloc (.cells z7 25)).alloc (.cells (c7 nd md ui gi mt tg (.slice none 0 0)) 25))) := OF.start w nd md ui gi mt tg ad n c
  clear hX hl
  go_enter Tryd.func13, Tryd.ntmps13
  go_wp2
  go_loopw [4] (fun v wr => ∃ (k : Nat) (u : Value), v = .int .i64 k ∧ k ≤ n ∧ Hid (OF w nd md ui gi mt tg ad n c (xs.take k) u wr)) (fun v _ => n - (intOf v).toNat)
  case atStart => exact ⟨0, _, rfl, Nat.zero_le _, O0.out⟩
  case round =>
    obtain ⟨k, u, rfl, hk, OR⟩ := hrel
    have htk : (xs.take k).length = k := by rw [List.length_take, HL.out]; omega
    have a6 : wr.cell? ⟨w.heap.size, 6, none⟩ = some (.slice ad n c) := by rw [OR.out.ab.cell]; rfl
    have x6 : wr.cell? ⟨w.heap.size + 1 + 1, 6, none⟩ = some u := by rw [OR.out.xb.cell]; rfl
    have hxl := OR.out.xb.lt
    by_cases hlt : k < n
    · have hkz : (k : Int) < (n : Nat) := by omega
      obtain ⟨x, hx⟩ : ∃ x, xs[k]? = some x := ⟨xs[k]'(by rw [HL.out]; exact hlt), List.getElem?_eq_getElem _⟩
      obtain ⟨g, o, rfl, hg2, hc1, hc2, _, _⟩ := HX.out.below OR.out.bel k x hx
      obtain ⟨x1, x2⟩ := x
      simp only at hc1 hc2
      obtain ⟨g7, cp7, w7, hrun, O7, b7, _, _, _, _⟩ := OR.out.drew.app x1 x2 (by rw [htk]; omega)
      have O8 : Hid (OF w nd md ui gi mt tg (some ⟨g, o, none⟩) n c (xs.take (k + 1)) (.slice (some ⟨g7, 0, none⟩) (k + 1) cp7) (w7.setCell ⟨w.heap.size + 1 + 1, 6, none⟩ (.slice (some ⟨g7, 0, none⟩) (k + 1) cp7))) := by
        rw [List.take_add_one, hx, Option.toList_some]
        rw [htk] at O7
        exact O7
      rw [htk] at hrun
      have y6 : w7.cell? ⟨w.heap.size + 1 + 1, 6, none⟩ = some u := by rw [b7.cell]; rfl
      have y6f := b7.frozen 6
      clear O7 b7 hx htk
      go_wp2
      go_region_law (refine step_app_run (by rfl) _ _ _ _ (by rfl) u (.slice (some ⟨wr.heap.size, 0, none⟩) 1 1) (.slice (some ⟨g7, 0, none⟩) (k + 1) cp7) w7 (by rfl) (by rfl) hrun ?_)
      all_goals (first | go_wp2 | skip)
      all_goals go_roundw
      all_goals first
        | (case rel => exact ⟨k + 1, _, by go_num, by omega, O8.out⟩)
        | (case measure => simp [intOf]; omega)
        | trace_state
    · have hkz : ¬ (k : Int) < (n : Nat) := by omega
      obtain rfl : k = n := by omega
      have hxs : xs.take k = xs := List.take_of_length_le (by rw [HL.out]; omega)
      rw [hxs] at OR htk
      have hu : ∃ o m d, u = .slice o m d := by
        rcases OR.out.ow.2 with ⟨h1, _⟩ | ⟨_, _, _, h1, _⟩
        · exact ⟨_, _, _, h1⟩
        · exact ⟨_, _, _, h1⟩
      obtain ⟨uo, um, ud, rfl⟩ := hu
      have BR : Hid (Bk wr (w.heap.size + 1) z7 25) := OR.out.rb
      have BO : Hid (wr.ownsRow (w.heap.size + 1 + 1 + 1) 55 2 (.slice uo um ud) k (xav xs)) := by
        have h := OR.out.ow
        rw [htk] at h
        exact h
      have BE : Hid (Below w.heap.size w wr) := OR.out.bel
      have e0 : wr.cell? ⟨w.heap.size + 1 + 1, 0, none⟩ = some (.int .u8 (nd : Int)) := by rw [OR.out.xb.cell]; rfl
      have e1 : wr.cell? ⟨w.heap.size + 1 + 1, 1, none⟩ = some (.int .u32 (md : Int)) := by rw [OR.out.xb.cell]; rfl
      have e2 : wr.cell? ⟨w.heap.size + 1 + 1, 2, none⟩ = some (.int .u32 (ui : Int)) := by rw [OR.out.xb.cell]; rfl
      have e3 : wr.cell? ⟨w.heap.size + 1 + 1, 3, none⟩ = some (.int .u32 (gi : Int)) := by rw [OR.out.xb.cell]; rfl
      have e4 : wr.cell? ⟨w.heap.size + 1 + 1, 4, none⟩ = some (.int .i64 mt) := by rw [OR.out.xb.cell]; rfl
      have e5 : wr.cell? ⟨w.heap.size + 1 + 1, 5, none⟩ = some (.string tg) := by rw [OR.out.xb.cell]; rfl
      have e6 : wr.cell? ⟨w.heap.size + 1 + 1, 6, none⟩ = some (.slice uo um ud) := by rw [OR.out.xb.cell]; rfl
      have hfz : ∀ j, wr.frozen? ⟨w.heap.size + 1, j, none⟩ = false := fun j => BR.out.frozen j
      have y0 : wr.cell? ⟨w.heap.size + 1, 0, none⟩ = some (.int .u8 0) := by rw [BR.out.cell]; rfl
      have y1 : wr.cell? ⟨w.heap.size + 1, 1, none⟩ = some (.int .u32 0) := by rw [BR.out.cell]; rfl
      have y2 : wr.cell? ⟨w.heap.size + 1, 2, none⟩ = some (.int .u32 0) := by rw [BR.out.cell]; rfl
      have y3 : wr.cell? ⟨w.heap.size + 1, 3, none⟩ = some (.int .u32 0) := by rw [BR.out.cell]; rfl
      have y4 : wr.cell? ⟨w.heap.size + 1, 4, none⟩ = some (.int .i64 0) := by rw [BR.out.cell]; rfl
      have y5 : wr.cell? ⟨w.heap.size + 1, 5, none⟩ = some (.string ⟨#[]⟩) := by rw [BR.out.cell]; rfl
      have y6 : wr.cell? ⟨w.heap.size + 1, 6, none⟩ = some (.slice none 0 0) := by rw [BR.out.cell]; rfl
      clear hxs htk
      go_wp2
      have q1 := bk_st7 BR.out (.int .u8 (nd : Int)) (.int .u32 (md : Int)) (.int .u32 (ui : Int)) (.int .u32 (gi : Int)) (.int .i64 mt) (.string tg) (.slice uo um ud)
      have q2 := gr_st7 wr (w.heap.size + 1) (.int .u8 (nd : Int)) (.int .u32 (md : Int)) (.int .u32 (ui : Int)) (.int .u32 (gi : Int)) (.int .i64 mt) (.string tg) (.slice uo um ud)
      exact bodyPost_ret (results_cell_row rfl _ _ (w.heap.size + 1) 25 (c7 nd md ui gi mt tg (.slice uo um ud)) (0, 0) _ rfl q1 Tryd.underlying25 rfl inf_rattr) rfl ⟨_, rfl, rows_low (own_gr BO.out q2 (by omega)) (by omega), below_own BE.out BE.out.size q2 (by omega)⟩
end Go.Proofs.YtcfniaknbbgheaaDoor
