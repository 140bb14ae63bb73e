import Derived.Test.YtjnijcmalnckcaaDoorY8
import Derived.Test.YtjnijcmalnckcaaDoorY1
import Derived.Lib.IndexBytes
import Derived.Laws.AppendOwn
import Derived.WalkMore
import Derived.Deep.AppendLies
import Derived.Deep.DeepAppendRoom
import Derived.Deep.LoopGhost
import Derived.Test.YtjnijcmalnckcaaDoorChecked
import Derived.BigQuiet
import Derived.Deep.QuietTactic
/- Lists of attributes with their marks, and their bytes, in memory. -/
namespace Go.Proofs.YtjnijcmalnckcaaDoor
open Go.RowKit
set_option linter.unusedSimpArgs false
set_option linter.unusedVariables false
/-- Texts as cells. -/
def sxv (l : List ByteArray) : List Value := l.map fun x => Value.string x
theorem sxv_app (a b : List ByteArray) : sxv (a ++ b) = sxv a ++ sxv b := by simp [sxv]
theorem inf_str10 : (Tryd.prog.info? 9).map (fun i => (i.zero, i.size, i.bytes)) = some (some (.string ⟨#[]⟩), 1, 16) := by kernel_rfl
theorem one_str10 (p : ByteArray) : ∀ u ∈ [Value.string p], u.oneCell' = true := by
  intro u hu
  rw [List.mem_singleton] at hu
  subst hu; rfl
/-- Texts of a slice. -/
def SxL (w : World) (a : Option Addr) (l : List ByteArray) : Prop := ∀ i x, l[i]? = some x → ∃ g o, a = some ⟨g, o, none⟩ ∧ g < w.heap.size ∧ w.cell? ⟨g, o + i, none⟩ = some (.string x)
theorem SxL.below {w w' : World} {a : Option Addr} {l : List ByteArray} (h : SxL w a l) (hb : Below w.heap.size w w') : SxL w' a l := fun i x hx => by
  obtain ⟨g, o, h1, h2, h3⟩ := h i x hx
  exact ⟨g, o, h1, Nat.lt_of_lt_of_le h2 hb.size, by rw [hb.cell (p := ⟨g, o + i, none⟩) h2]; exact h3⟩
theorem own_sx {w : World} {B n : Nat} {e : TypeId} {v : Value} {l : List ByteArray} (h : w.ownsRow B e 1 v n (sxv l)) (hn : l.length = n) : ∃ a c, v = .slice a n c ∧ SxL w a l := by
  rcases h.2 with ⟨rfl, h0⟩ | ⟨g, cap, cur, rfl, hle, hg, hnc, _, hc, ht⟩
  · subst h0
    have : l = [] := List.eq_nil_of_length_eq_zero hn
    subst this
    exact ⟨none, 0, rfl, fun i x hx => by simp at hx⟩
  · refine ⟨some ⟨g, 0, none⟩, cap, rfl, fun k x hx => ⟨g, 0, rfl, (Array.getElem?_eq_some_iff.1 hg).1, ?_⟩⟩
    have hk : k < l.length := (List.getElem?_eq_some_iff.1 hx).1
    have hb : Bk w g cur e := hg
    have q : (sxv l)[k]? = some (.string x) := by unfold sxv; rw [List.getElem?_map, hx]; rfl
    rw [← ht, List.getElem?_take, if_pos (by omega), Array.getElem?_toList] at q
    rw [hb.cell, Nat.zero_add]; exact q
/-- An attribute's cells. -/
theorem cells7 {w : World} {b nd md ui gi : Nat} {mt : Int} {tg : ByteArray} {v : Value} {T : TypeId} (h : Bk w b (c7 nd md ui gi mt tg v) T) : w.cell? ⟨b, 0, none⟩ = some (.int .u8 (nd : Int)) ∧ w.cell? ⟨b, 1, none⟩ = some (.int .u32 (md : Int)) ∧ w.cell? ⟨b, 2, none⟩ = some (.int .u32 (ui : Int)) ∧ w.cell? ⟨b, 3, none⟩ = some (.int .u32 (gi : Int)) ∧ w.cell? ⟨b, 4, none⟩ = some (.int .i64 mt) ∧ w.cell? ⟨b, 5, none⟩ = some (.string tg) ∧ w.cell? ⟨b, 6, none⟩ = some v :=
  ⟨by rw [h.cell]; rfl, by rw [h.cell]; rfl, by rw [h.cell]; rfl, by rw [h.cell]; rfl, by rw [h.cell]; rfl, by rw [h.cell]; rfl, by rw [h.cell]; rfl⟩
theorem stF_inj : ∀ (l m : List At), (∀ a ∈ l, Gd a) → (∀ a ∈ m, Gd a) → l.length = m.length → stF l = stF m → l = m
  | [], [], _, _, _, _ => rfl
  | [], _ :: _, _, _, h, _ => by simp at h
  | _ :: _, [], _, _, h, _ => by simp at h
  | a :: l, b :: m, ha, hb, hl, h => by
    rw [stF_cons, stF_cons] at h
    have q1 := ha a (by simp)
    have q2 := hb b (by simp)
    have s1 := lay_len q1.ok (by have := q1.ui; omega) (by have := q1.gi; omega)
    have s2 := lay_len q2.ok (by have := q2.ui; omega) (by have := q2.gi; omega)
    obtain ⟨h1, h2⟩ := tx_inj (by rw [lay_size]; omega) (by rw [lay_size]; omega) h
    have h3 : a = b := lay_inj q1 q2 (congrArg bl h1)
    rw [h3, stF_inj l m (fun x hx => ha x (by simp [hx])) (fun x hx => hb x (by simp [hx])) (by simpa using hl) h2]
theorem stL_inj {l m : List At} (hl : GdL l) (hm : GdL m) (h : stL l = stL m) : l = m := by
  have q1 := hl.len
  have q2 := hm.len
  obtain ⟨h1, h2⟩ := e8_inj (by omega) (by omega) h
  exact stF_inj l m (fun a ha => hl.get ha) (fun a ha => hm.get ha) h1 h2
theorem cmp10 {a b : At} (ha : Gd a) (hb : Gd b) : decide ((⟨(lay a).toArray⟩ : ByteArray) = ⟨(lay b).toArray⟩) = smB a b := by
  cases h : smB a b with
  | true => rw [(smB_iff a b).1 h]; exact decide_eq_true rfl
  | false =>
    refine decide_eq_false fun e => ?_
    have := (smB_iff a b).2 (lay_inj ha hb (congrArg bl e))
    rw [h] at this; cases this
/-- The lists of these can be read. -/
def XvO (w : World) (P : List (At × Value)) : Prop := ∀ p ∈ P, AtOk p.1 ∧ ∃ ad c, p.2 = .slice ad p.1.xs.length c ∧ XaL w ad p.1.xs
theorem XrO.xv {w : World} {B : Nat} {P : List (At × Value)} (h : XrO w B P) : XvO w P := fun p hp => by
  obtain ⟨h1, h2, h3⟩ := h p hp
  obtain ⟨ad, c, hv, hX⟩ := own_xal h2 rfl (fun x hx => by have := h3 x hx; omega)
  exact ⟨h1, ad, c, hv, hX⟩
/-- These lists lie in rows of the call's own, with a mark behind. -/
def mrk : ByteArray × ByteArray := (⟨#[35]⟩, ⟨#[]⟩)
def MkO (w : World) (B : Nat) (P : List (At × Value)) : Prop := ∀ p ∈ P, AtOk p.1 ∧ (∀ x ∈ p.1.xs, x.1.size ≤ 140737488351232 ∧ x.2.size ≤ 140737488351232) ∧ ∃ g cp, p.2 = .slice (some ⟨g, 0, none⟩) p.1.xs.length cp ∧ w.ownsRow B 57 2 (.slice (some ⟨g, 0, none⟩) (p.1.xs.length + 1) cp) (p.1.xs.length + 1) (xav (p.1.xs ++ [mrk]))
theorem mk_xal {w : World} {B g cp : Nat} {xs : List (ByteArray × ByteArray)} (hs : ∀ x ∈ xs, x.1.size ≤ 140737488351232 ∧ x.2.size ≤ 140737488351232) (h : w.ownsRow B 57 2 (.slice (some ⟨g, 0, none⟩) (xs.length + 1) cp) (xs.length + 1) (xav (xs ++ [mrk]))) : XaL w (some ⟨g, 0, none⟩) xs ∧ XaL w (some ⟨g, 0, none⟩) (xs ++ [mrk]) := by
  obtain ⟨a, c, hv, hX⟩ := own_xal h (by simp) (fun x hx => by
    rcases List.mem_append.1 hx with q | q
    · exact hs x q
    · rw [List.mem_singleton] at q; subst q; exact ⟨by decide, by decide⟩)
  cases hv
  refine ⟨fun i x hx => hX i x ?_, hX⟩
  rw [List.getElem?_append_left (List.getElem?_eq_some_iff.1 hx).1]
  exact hx
theorem MkO.xv {w : World} {B : Nat} {P : List (At × Value)} (h : MkO w B P) : XvO w P := fun p hp => by
  obtain ⟨h1, h2, g, cp, hv, ho⟩ := h p hp
  exact ⟨h1, _, cp, hv, (mk_xal h2 ho).1⟩
theorem MkO.keep {w w' : World} {B : Nat} {P : List (At × Value)} (h : MkO w B P) (hk : ∀ g, B ≤ g → g < w.heap.size → w'.heap[g]? = w.heap[g]?) : MkO w' B P := fun p hp => by
  obtain ⟨h1, h2, g, cp, hv, ho⟩ := h p hp
  exact ⟨h1, h2, g, cp, hv, rows_keep ho hk⟩
theorem MkO.grow {w w' : World} {B B' m k : Nat} {e : TypeId} {P : List (At × Value)} {v : Value} {ys : List Value} (h : MkO w B P) (hv : w.ownsRow B' e k v m ys) (he : 57 ≠ e) (hg : w.grownBy w' v.ownBlock) : MkO w' B P := fun p hp => by
  obtain ⟨h1, h2, g, cp, hv2, ho⟩ := h p hp
  exact ⟨h1, h2, g, cp, hv2, own_ty ho hv he hg⟩
/-- Where the attributes of a row lie. -/
theorem row_atl {w : World} {B n : Nat} {e : TypeId} {v : Value} {P : List (At × Value)} (h : w.ownsRow B e 7 v n (atv P)) (hn : P.length = n) (hx : XvO w P) : ∃ a c, v = .slice a n c ∧ AtL w a (P.map Prod.fst) ∧ (a = none ∧ c = 0 ∧ n = 0 ∨ ∃ g, a = some ⟨g, 0, none⟩) ∧ n ≤ c := by
  rcases h.2 with ⟨rfl, h0⟩ | ⟨g, cap, cur, rfl, hle, hg, hnc, _, hc, ht⟩
  · subst h0
    have : P = [] := List.eq_nil_of_length_eq_zero hn
    subst this
    exact ⟨none, 0, rfl, fun i x hx => by simp at hx, .inl ⟨rfl, rfl, rfl⟩, Nat.le_refl _⟩
  · refine ⟨some ⟨g, 0, none⟩, cap, rfl, fun i a ha => ?_, .inr ⟨g, rfl⟩, hnc⟩
    rw [List.getElem?_map] at ha
    obtain ⟨p, hp, rfl⟩ := Option.map_eq_some_iff.1 ha
    obtain ⟨h1, ad, c, hv, hX⟩ := hx p (List.mem_of_getElem? hp)
    have hb : Bk w g cur e := hg
    have hl : i < P.length := (List.getElem?_eq_some_iff.1 hp).1
    have q : ∀ j, j < 7 → w.cell? ⟨g, 0 + i * 7 + j, none⟩ = (acl p)[j]? := fun j hj => by
      have := atv_get P i p hp j hj
      rw [← ht, List.getElem?_take, if_pos (by omega), Array.getElem?_toList] at this
      rw [hb.cell, Nat.zero_add]
      exact this
    have q0 := q 0 (by omega)
    rw [Nat.add_zero] at q0
    refine ⟨h1, g, 0, ad, c, rfl, (Array.getElem?_eq_some_iff.1 hg).1, q0, q 1 (by omega), q 2 (by omega), q 3 (by omega), q 4 (by omega), q 5 (by omega), ?_, hX⟩
    rw [q 6 (by omega), ← hv]; rfl
theorem AtL.take {w : World} {a : Option Addr} {l : List At} (h : AtL w a l) (k : Nat) : AtL w a (l.take k) := fun i x hx => by
  rw [List.getElem?_take] at hx
  split at hx
  · exact h i x hx
  · cases hx
/-- Attributes and their bytes so far. -/
structure LS (w0 : World) (P : List (At × Value)) (vm vb : Value) (w : World) : Prop where
  mo : w.ownsRow w0.heap.size 28 7 vm P.length (atv P)
  bo : w.ownsRow w0.heap.size 9 1 vb P.length (sxv (P.map fun p => ⟨(lay p.1).toArray⟩))
  mq : MkO w w0.heap.size P
  ok : ∀ p ∈ P, okA p.1 = true
  bel : Below w0.heap.size w0 w
theorem LS.keep {w0 : World} {P : List (At × Value)} {vm vb : Value} {w w' : World} (h : LS w0 P vm vb w) (hb : Below w.heap.size w w') : LS w0 P vm vb w' :=
  ⟨rows_keep h.mo (fun g _ h2 => hb.block g h2), rows_keep h.bo (fun g _ h2 => hb.block g h2), h.mq.keep (fun g _ h2 => hb.block g h2), h.ok, h.bel.trans (hb.mono h.bel.size)⟩
theorem LS.start (w : World) : LS w [] (.slice none 0 0) (.slice none 0 0) w := ⟨rows_none, rows_none, (fun p hp => nomatch hp), (fun p hp => nomatch hp), Below.refl _ _⟩
/-- What the law's own does. -/
def OwnC : Prop := ∀ (nd md ui gi : Nat) (mt : Int) (tg : ByteArray) (xs : List (ByteArray × ByteArray)) (ad : Option Addr) (n c : Nat) (w : World), XaL w ad xs → xs.length = n → n ≤ 4398046510976 →
    Calls Tryd.prog 7 #[atV nd md ui gi mt tg (.slice ad n c)] w fun e w' => ∃ g cp, e = .returned (.agg (c7 nd md ui gi mt tg (.slice (some ⟨g, 0, none⟩) n cp))) ∧ w'.ownsRow w.heap.size 57 2 (.slice (some ⟨g, 0, none⟩) (n + 1) cp) (n + 1) (xav (xs ++ [(⟨#[35]⟩, ⟨#[]⟩)])) ∧ Below w.heap.size w w'
theorem xal_small {w : World} {a : Option Addr} {xs : List (ByteArray × ByteArray)} (h : XaL w a xs) : ∀ x ∈ xs, x.1.size ≤ 140737488351232 ∧ x.2.size ≤ 140737488351232 := fun x hx => by
  obtain ⟨i, hi⟩ := List.getElem?_of_mem hx
  obtain ⟨_, _, _, _, _, _, h5, h6⟩ := h i x hi
  exact ⟨h5, h6⟩
/-- What Read tells of the bytes of one that may be. -/
theorem rd_put {a a' : At} {er : Int} (h : RdS ⟨(lay a).toArray⟩ a' er) (hg : Gd a) (ho : AtOk a') : er = 0 ∧ a' = a := by
  rcases h with ⟨h1, h2, h3⟩ | ⟨_, _, h3⟩
  · exact ⟨h1, lay_inj ⟨h2, ho.ui, ho.gi⟩ hg h3⟩
  · exact absurd rfl (h3 a hg)
theorem sr_put {l l' : List At} {er : Int} (h : SrS ⟨(stL l).toArray⟩ l' er) (hg : GdL l) (ho : ∀ a ∈ l', AtOk a) : er = 0 ∧ l' = l := by
  rcases h with ⟨h1, h2, h3⟩ | ⟨_, _, h3⟩
  · exact ⟨h1, stL_inj ⟨h2, fun a ha => ⟨(ho a ha).ui, (ho a ha).gi⟩⟩ hg h3⟩
  · exact absurd rfl (h3 l hg)
theorem LS.at {w0 : World} {P : List (At × Value)} {am : Option Addr} {k cm : Nat} {vb : Value} {w : World} (h : LS w0 P (.slice am k cm) vb w) : AtL w am (P.map Prod.fst) ∧ P.length ≤ cm := by
  obtain ⟨a, c, hv, hA, _, hc⟩ := row_atl h.mo rfl h.mq.xv
  cases hv
  exact ⟨hA, hc⟩
theorem LS.sx {w0 : World} {P : List (At × Value)} {vm : Value} {ab : Option Addr} {k cb : Nat} {w : World} (h : LS w0 P vm (.slice ab k cb) w) : SxL w ab (P.map fun p => ⟨(lay p.1).toArray⟩) := by
  obtain ⟨a, c, hv, hA⟩ := own_sx h.bo (by rw [List.length_map])
  cases hv
  exact hA
end Go.Proofs.YtjnijcmalnckcaaDoor
/- A text's first rune; where a pattern's runes lie. -/
namespace Go.Proofs.YtjnijcmalnckcaaDoor
open Go.RowKit
set_option linter.unusedSimpArgs false
set_option linter.unusedVariables false
/-- How wide a text's first rune is. -/
def fw (s : ByteArray) : Nat := (Utf8.decode s 0).2
theorem fw_le (s : ByteArray) (h : 0 < s.size) : 1 ≤ fw s ∧ fw s ≤ s.size := by
  have := dec_le s 0 h
  unfold fw; omega
theorem rn_behind (s : ByteArray) (h : 0 < s.size) : rn s.data.toList = (Utf8.decode s 0).1 :: rn (s.extract (fw s) s.size).data.toList := by
  have := rn_at s 0 h
  rw [List.drop_zero, Nat.zero_add] at this
  rw [this]
  rw [Lib.extract_to_end]
  rfl
/-- What lies where: the runes of a pattern. -/
def LieR (w : World) (a0 : Option Addr) (p : List Nat) : Prop :=
  ∀ (i : Nat) c, p[i]? = some c → ∃ b off, a0 = some ⟨b, off, none⟩ ∧ b < w.heap.size ∧ w.cell? ⟨b, off + i, none⟩ = some (.int .i32 (c : Int))
theorem LieR.below {w w' : World} {a0 : Option Addr} {p : List Nat} (h : LieR w a0 p) (hb : Below w.heap.size w w') : LieR w' a0 p := by
  intro i x hx
  obtain ⟨b, off, ha, hlt, hc⟩ := h i x hx
  exact ⟨b, off, ha, Nat.lt_of_lt_of_le hlt hb.size, by rw [hb.cell (p := ⟨b, off + i, none⟩) hlt]; exact hc⟩
end Go.Proofs.YtjnijcmalnckcaaDoor
/- The document's Rune, runes, Check, Runes. -/
namespace Go.Proofs.YtjnijcmalnckcaaDoor
open Go.RowKit
set_option linter.unusedSimpArgs false
set_option linter.unusedVariables false
/-- Runes as cells. -/
def rcl (rs : List Nat) : List Value := rs.map fun r : Nat => Value.int .i32 (r : Int)
theorem rcl_app (a b : List Nat) : rcl (a ++ b) = rcl a ++ rcl b := by simp [rcl]
theorem inf_i32 : (Tryd.prog.info? 21).map (fun i => (i.zero, i.size, i.bytes)) = some (some (.int .i32 0), 1, 4) := by kernel_rfl
theorem new_one (w : World) (a : Value) (T : TypeId) : ∀ (j : Nat) (u : Value), [a][j]? = some u → (w.alloc (.cells #[a] T)).cell? ((⟨w.heap.size, 0, none⟩ : Addr).add j) = some u := by
  intro j u h
  rw [WideShapes.add_plain, Nat.zero_add, World.cell?_alloc_new]
  simpa using h
theorem one_one (a : Int) : ∀ u ∈ [Value.int .i32 a], u.oneCell' = true := by
  intro u hu
  simp at hu
  subst hu; rfl
theorem apn_below {B n : Nat} {w wr w1 : World} {o : Obj} {v : Value} {xs : List Value} {e : TypeId} (hb : Below B w wr) (hz : B ≤ wr.heap.size) (ho : wr.ownsRow B e 1 v n xs) (hg : (wr.alloc o).grownBy w1 v.ownBlock) : Below B w w1 := by
  refine (hb.alloc hz o).grown hg (by simp; omega) (fun k hk => ?_)
  rcases ho.2 with ⟨rfl, _⟩ | ⟨g, cap, cur, rfl, hle, _⟩
  · cases hk
  · simp [Value.ownBlock] at hk; omega
theorem grn_below {w w' : World} (h : Below w.heap.size w w') (r : Option Nat) : w.grownBy w' r := ⟨h.os, h.tape, h.output, h.size, fun i hi _ => h.block i hi⟩
def sLn : Value → Nat
  | .string s => s.size
  | _ => 0
/-- The rune at the front of a text, and its width; nothing: no whole one stands there. -/
def rr (s : ByteArray) : Nat × Nat := if s.size = 0 ∨ ((Utf8.decode s 0).1 = 65533 ∧ (Utf8.decode s 0).2 = 1) then (0, 0) else Utf8.decode s 0
set_option maxRecDepth 100000 in
theorem rune_any (s : ByteArray) (w : World) (hT : U8 w) :
    Calls Tryd.prog 71 #[.string s] w fun e w' => e = .returned (.tuple #[.int .i32 (rr s).1, .int .i64 (rr s).2]) ∧ Below w.heap.size w w' := by
  have hd := decode_any s w hT
  obtain ⟨r, hr⟩ : ∃ r, (Lib.decodeGo s).1 = r := ⟨_, rfl⟩
  obtain ⟨k, hk⟩ : ∃ k, (Lib.decodeGo s).2 = k := ⟨_, rfl⟩
  rw [hr, hk] at hd
  have hrr : rr s = if r = 65533 ∧ k ≤ 1 then (0, 0) else (r, k) := by
    rw [← hr, ← hk]
    unfold rr Lib.decodeGo
    by_cases h0 : s.size = 0
    · rw [if_pos (.inl h0), if_pos h0]; rfl
    · rw [if_neg h0]
      have hw := Lib.width_pos s 0
      by_cases h1 : (Utf8.decode s 0).1 = 65533 ∧ (Utf8.decode s 0).2 = 1
      · rw [if_pos (.inr h1), if_pos ⟨h1.1, by omega⟩]
      · rw [if_neg (by rintro (h | h) <;> contradiction), if_neg (fun h => h1 ⟨h.1, by omega⟩)]
  rw [hrr]
  clear hrr hr hk hT
  by_cases h1 : r = 65533
  · have h1' : ((r : Int) == 65533) = true := by simp [h1]
    by_cases h2 : k ≤ 1
    · have h2' : (k : Int) ≤ 1 := by omega
      rw [if_pos ⟨h1, h2⟩]
      clear h1 h2
      go_enter Tryd.func71, Tryd.ntmps71
      go_wp2_with (go_at_call 76; refine hd.mono ?_; rintro e w1 ⟨rfl, hb⟩; have HB : Hid (Below w.heap.size w w1) := hb; clear hb)
      go_ret2
      exact ⟨rfl, HB.out⟩
    · have h2' : ¬ (k : Int) ≤ 1 := by omega
      rw [if_neg (fun h => h2 h.2)]
      clear h1 h2
      go_enter Tryd.func71, Tryd.ntmps71
      go_wp2_with (go_at_call 76; refine hd.mono ?_; rintro e w1 ⟨rfl, hb⟩; have HB : Hid (Below w.heap.size w w1) := hb; clear hb)
      go_ret2
      exact ⟨rfl, HB.out⟩
  · have h1' : ((r : Int) == 65533) = false := by simp; omega
    rw [if_neg (fun h => h1 h.1)]
    clear h1
    go_enter Tryd.func71, Tryd.ntmps71
    go_wp2_with (go_at_call 76; refine hd.mono ?_; rintro e w1 ⟨rfl, hb⟩; have HB : Hid (Below w.heap.size w w1) := hb; clear hb)
    go_ret2
    exact ⟨rfl, HB.out⟩
theorem rr_step (s : ByteArray) (h : 0 < s.size) : (rr s).2 = 0 ∧ Lib.validD s.data.toList = false ∨ (rr s = Utf8.decode s 0 ∧ 1 ≤ (rr s).2 ∧ (rr s).2 ≤ s.size ∧ Lib.validD s.data.toList = Lib.validD (s.extract (rr s).2 s.size).data.toList ∧ rn s.data.toList = (rr s).1 :: rn (s.extract (rr s).2 s.size).data.toList) := by
  have hne : s.data.toList ≠ [] := by
    intro e
    have := congrArg List.length e
    rw [data_len, List.length_nil] at this
    omega
  have hd : Lib.decodeL s.data.toList = Utf8.decode s 0 := by
    have := Lib.decodeL_drop s 0
    rwa [List.drop_zero] at this
  have hv := Lib.validD_step s.data.toList hne
  rw [hd] at hv
  unfold rr
  by_cases h1 : (Utf8.decode s 0).1 = 65533 ∧ (Utf8.decode s 0).2 = 1
  · rw [if_pos (.inr h1)]
    rw [if_pos h1] at hv
    exact .inl ⟨rfl, hv⟩
  · rw [if_neg (fun h => h.elim (fun e => by omega) h1)]
    rw [if_neg h1] at hv
    have hf := fw_le s h
    unfold fw at hf
    refine .inr ⟨rfl, hf.1, hf.2, ?_, ?_⟩
    · rw [hv, Lib.extract_to_end]
    · exact rn_behind s h
/-- What runes answers: a row of the runes. -/
def rnsV (w : World) (s : ByteArray) (v : Value) (w' : World) : Prop := if Lib.validD s.data.toList then w'.ownsRow w.heap.size 21 1 v (rn s.data.toList).length (rcl (rn s.data.toList)) else v = .slice none 0 0
set_option maxHeartbeats 1000000 in
set_option maxRecDepth 100000 in
theorem rrunes_any (s : ByteArray) (w : World) (hs : s.size ≤ 4398046511104) (hT : U8 w) :
    Calls Tryd.prog 63 #[.string s] w fun e w' => ∃ v, e = .returned (.tuple #[v, .bool (Lib.validD s.data.toList)]) ∧ rnsV w s v w' ∧ Below w.heap.size w w' := by
  have HT : Hid (U8 w) := hT
  clear hT
  obtain ⟨i0, hi, hz0, hz1, hzb⟩ := info_parts inf_i32
  go_enter Tryd.func63, Tryd.ntmps63
  go_wp2
  go_loopw [0, 4] (fun v0 v4 wr => ∃ (t : ByteArray) (pre : List Nat), v0 = .string t ∧ wr.ownsRow w.heap.size 21 1 v4 pre.length (rcl pre) ∧ Hid (Below w.heap.size w wr) ∧ t.size + pre.length ≤ s.size ∧ Hid (Lib.validD s.data.toList = Lib.validD t.data.toList ∧ rn s.data.toList = pre ++ rn t.data.toList)) (fun v0 _ _ => sLn v0)
  case atStart => exact ⟨s, [], rfl, World.ownsRow_nil _ _ _ _, Below.refl _ _, by simp, ⟨rfl, rfl⟩⟩
  case round =>
    obtain ⟨t, pre, rfl, hown, HB, hts, HR⟩ := hrel
    have HO : Hid (wr.ownsRow w.heap.size 21 1 u4 pre.length (rcl pre)) := hown
    have hz : w.heap.size ≤ wr.heap.size := HB.out.size
    clear hown
    by_cases h0 : 0 < t.size
    · have h0z : (0 : Int) < (t.size : Nat) := by omega
      have hru := rune_any t wr (HT.out.below HB.out)
      have hst := rr_step t h0
      obtain ⟨r, hr⟩ : ∃ r, (rr t).1 = r := ⟨_, rfl⟩
      obtain ⟨k, hk⟩ : ∃ k, (rr t).2 = k := ⟨_, rfl⟩
      rw [hr, hk] at hru
      rw [hr, hk] at hst
      clear hr hk
      rcases hst with ⟨k0, hbad⟩ | ⟨_, hk1, hk2, hv, hrn⟩
      · subst k0
        go_wp2_with (go_at_call 71; refine hru.mono ?_; rintro e w1 ⟨rfl, hb⟩; have HB1 : Hid (Below wr.heap.size wr w1) := hb; clear hb)
        go_ret2
        have e : Lib.validD s.data.toList = false := by rw [HR.out.1]; exact hbad
        refine ⟨.slice none 0 0, by rw [e]; rfl, by unfold rnsV; rw [e]; rfl, HB.out.trans (HB1.out.mono hz)⟩
      · have k0 : ((k : Int) == 0) = false := by simp; omega
        have kz : (k : Int) ≤ (t.size : Nat) := by omega
        obtain ⟨t2, ht2⟩ : ∃ t2, t2 = t.extract k t.size := ⟨_, rfl⟩
        have hz2 : t2.size + k = t.size := by rw [ht2, ByteArray.size_extract]; omega
        rw [← ht2] at hv hrn
        have HT2 : Hid (t2 = t.extract k t.size) := ht2
        have HV : Hid (Lib.validD s.data.toList = Lib.validD t2.data.toList ∧ rn s.data.toList = (pre ++ [r]) ++ rn t2.data.toList) := ⟨by rw [HR.out.1, hv], by rw [HR.out.2, hrn]; simp⟩
        clear ht2 hv hrn HR
        go_wp2_with (first
          | (go_at_call 71; refine hru.mono ?_; rintro e w1 ⟨rfl, hb⟩; have HB1 : Hid (Below wr.heap.size wr w1) := hb; clear hb
             have HO1 : Hid (w1.ownsRow w.heap.size 21 1 u4 pre.length (rcl pre)) := HO.out.kept (grn_below HB1.out none) (by cases u4.ownBlock <;> simp)
             have HBW : Hid (Below w.heap.size w w1) := HB.out.trans (HB1.out.mono hz)
             have hzw1 : w.heap.size ≤ w1.heap.size := HBW.out.size)
          | (at_builtin; refine wpList_append_own _ rfl _ _ 114 rfl w.heap.size 21 i0 (.int .i32 0) 1 4 Tryd.underlying114 hi hz0 hz1 hzb rfl (by decide) _ _ _ rfl (HO1.out.alloc _) ⟨w1.heap.size, 0, none⟩ 1 1 [.int .i32 r] rfl rfl (new_one _ _ _) (one_one _) (by first | omega | (unfold maxLen; omega) | (simp; omega)) (by first | omega | (unfold maxLen; omega) | (simp; omega)) (by first | omega | (unfold maxLen; omega) | (simp; omega)) ?_))
        intro v' w7 hown7 hgrow _
        have HO7 : Hid (w7.ownsRow w.heap.size 21 1 v' (pre ++ [r]).length (rcl (pre ++ [r]))) := by
          show w7.ownsRow w.heap.size 21 1 v' (pre ++ [r]).length (rcl (pre ++ [r]))
          rw [rcl_app, List.length_append]; exact hown7
        have HB7 : Hid (Below w.heap.size w w7) := apn_below HBW.out HBW.out.size HO1.out hgrow
        clear hown7 hgrow HO1 HO
        go_wp2
        go_roundw
        case rel => exact ⟨t2, pre ++ [r], by rw [HT2.out], HO7.out, HB7.out, by simp; omega, HV.out⟩
        case measure => rw [← HT2.out]; simp [sLn]; omega
    · have h0z : ¬ (0 : Int) < (t.size : Nat) := by omega
      have ht : t.data.toList = [] := List.eq_nil_of_length_eq_zero (by rw [data_len]; omega)
      have hv := HR.out
      rw [ht] at hv
      have HV : Hid (Lib.validD s.data.toList = true ∧ rn s.data.toList = pre) := ⟨hv.1, by rw [hv.2]; show pre ++ [] = pre; simp⟩
      clear hv ht HR
      go_wp2
      go_ret2
      refine ⟨u4, by rw [HV.out.1]; rfl, ?_, HB.out⟩
      unfold rnsV
      rw [HV.out.1, if_pos rfl, HV.out.2]
      exact HO.out
theorem own_lie {w : World} {B : Nat} {v : Value} {rs : List Nat} (h : w.ownsRow B 21 1 v rs.length (rcl rs)) : ∃ a c, v = .slice a rs.length c ∧ LieR w a rs ∧ rs.length ≤ c := by
  rcases h.2 with ⟨rfl, h0⟩ | ⟨g, cap, cur, rfl, _, hg, hn, _, hc, ht⟩
  · have : rs = [] := List.eq_nil_of_length_eq_zero h0
    subst this
    exact ⟨none, 0, rfl, fun i c hc => by simp at hc, Nat.le_refl _⟩
  · refine ⟨some ⟨g, 0, none⟩, cap, rfl, fun i c hi => ⟨g, 0, rfl, (Array.getElem?_eq_some_iff.1 hg).1, ?_⟩, hn⟩
    have hl : i < rs.length := (List.getElem?_eq_some_iff.1 hi).1
    have e := congrArg (·[i]?) ht
    rw [Nat.mul_one] at e
    simp only [List.getElem?_take, if_pos hl, rcl, List.getElem?_map, hi, Option.map_some] at e
    simp only [World.cell?, hg, Nat.zero_add]
    rw [← Array.getElem?_toList]; exact e
end Go.Proofs.YtjnijcmalnckcaaDoor
/- The document's Check. -/
namespace Go.Proofs.YtjnijcmalnckcaaDoor
open Go.RowKit
set_option linter.unusedSimpArgs false
set_option linter.unusedVariables false
set_option maxHeartbeats 1000000 in
set_option maxRecDepth 100000 in
theorem rcheck_any (s : ByteArray) (w : World) (hT : U8 w) :
    Calls Tryd.prog 44 #[.string s] w fun e w' => e = .returned (.int .i64 (rnE s.data.toList)) ∧ Below w.heap.size w w' := by
  have HT : Hid (U8 w) := hT
  have HBAD : Hid (okN s.data.toList = false → (Ending.returned (.int .i64 (10 : Int)) : Ending) = .returned (.int .i64 (rnE s.data.toList))) := fun h => by simp [rnE, h]
  clear hT
  by_cases h1 : s.size < 1
  · have h1z : (s.size : Int) < 1 := by omega
    go_enter Tryd.func44, Tryd.ntmps44
    go_wp2
    go_ret
    refine ⟨HBAD.out (Bool.eq_false_iff.2 fun h => ?_), Below.refl _ _⟩
    have h6 := (okN_split h).2.2.2.2.2.1
    have := rn_le s.data.toList
    rw [data_len] at this
    omega
  have h1z : ¬ (s.size : Int) < 1 := by omega
  by_cases h2 : 255 < s.size
  · have h2z : (255 : Int) < (s.size : Nat) := by omega
    go_enter Tryd.func44, Tryd.ntmps44
    go_wp2
    go_ret
    refine ⟨HBAD.out (Bool.eq_false_iff.2 fun h => ?_), Below.refl _ _⟩
    have := (okN_split h).1
    rw [data_len] at this
    omega
  have h2z : ¬ (255 : Int) < (s.size : Nat) := by omega
  obtain ⟨b1, hb1⟩ : ∃ b1, (s.toList == [46]) = b1 := ⟨_, rfl⟩
  obtain ⟨b2, hb2⟩ : ∃ b2, (s.toList == [46, 46]) = b2 := ⟨_, rfl⟩
  have HP : Hid (okN s.data.toList = true → b1 = false ∧ b2 = false) := fun h => by
    obtain ⟨_, _, h3, h4, _⟩ := okN_split h
    refine ⟨?_, ?_⟩
    · rw [← hb1, Lib.toList_data]; simpa using h3
    · rw [← hb2, Lib.toList_data]; simpa using h4
  have HN : Hid (b1 = false → b2 = false → s.data.toList ≠ [46] ∧ s.data.toList ≠ [46, 46]) := fun h1 h2 => by
    rw [h1, Lib.toList_data] at hb1
    rw [h2, Lib.toList_data] at hb2
    exact ⟨by simpa using hb1, by simpa using hb2⟩
  cases b1 with
  | true =>
    go_enter Tryd.func44, Tryd.ntmps44
    go_wp2
    go_ret
    exact ⟨HBAD.out (Bool.eq_false_iff.2 fun h => by have := (HP.out h).1; cases this), Below.refl _ _⟩
  | false =>
  cases b2 with
  | true =>
    go_enter Tryd.func44, Tryd.ntmps44
    go_wp2
    go_ret
    exact ⟨HBAD.out (Bool.eq_false_iff.2 fun h => by have := (HP.out h).2; cases this), Below.refl _ _⟩
  | false =>
  have HNE : Hid (s.data.toList ≠ [46] ∧ s.data.toList ≠ [46, 46]) := HN.out rfl rfl
  clear HN HP
  have hru := rrunes_any s w (by omega) HT.out
  obtain ⟨q, hq⟩ : ∃ q, Lib.validD s.data.toList = q := ⟨_, rfl⟩
  rw [hq] at hru
  have HQ : Hid (Lib.validD s.data.toList = q) := hq
  clear hq
  cases q with
  | false =>
    go_enter Tryd.func44, Tryd.ntmps44
    go_wp2_with (go_at_call 63; refine hru.mono ?_; rintro e w1 ⟨v, rfl, _, hb⟩; have HB : Hid (Below w.heap.size w w1) := hb; clear hb)
    go_ret
    exact ⟨HBAD.out (Bool.eq_false_iff.2 fun h => by have := (okN_split h).2.1; rw [HQ.out] at this; cases this), HB.out⟩
  | true =>
    have hru2 : Calls Tryd.prog 63 #[.string s] w fun e w' => ∃ a c, e = .returned (.tuple #[.slice a (rn s.data.toList).length c, .bool true]) ∧ LieR w' a (rn s.data.toList) ∧ Below w.heap.size w w' := by
      refine hru.mono fun e w' ⟨v, he, hv, hb⟩ => ?_
      unfold rnsV at hv
      rw [HQ.out, if_pos rfl] at hv
      obtain ⟨a, c, rfl, hl, _⟩ := own_lie hv
      exact ⟨a, c, he, hl, hb⟩
    obtain ⟨rs, hrs⟩ : ∃ rs, rn s.data.toList = rs := ⟨_, rfl⟩
    have HRS : Hid (rn s.data.toList = rs) := hrs
    have hrl : rs.length ≤ 255 := by rw [← hrs]; have := rn_le s.data.toList; rw [data_len] at this; omega
    have hr1 : 1 ≤ rs.length := by
      rw [← hrs]
      have := rn_ne s.data.toList (by intro e; have := congrArg List.length e; rw [data_len, List.length_nil] at this; omega)
      exact List.length_pos_iff.2 this
    rw [hrs] at hru2
    clear hru hrs
    by_cases h64 : 64 < rs.length
    · have h64z : (64 : Int) < (rs.length : Nat) := by omega
      go_enter Tryd.func44, Tryd.ntmps44
      go_wp2_with (go_at_call 63; refine hru2.mono ?_; rintro e w1 ⟨a, c, rfl, _, hb⟩; have HB : Hid (Below w.heap.size w w1) := hb; clear hb)
      go_ret
      exact ⟨HBAD.out (Bool.eq_false_iff.2 fun h => by have := (okN_split h).2.2.2.2.2.2; rw [HRS.out] at this; omega), HB.out⟩
    have h64z : ¬ (64 : Int) < (rs.length : Nat) := by omega
    go_enter Tryd.func44, Tryd.ntmps44
    go_wp2_with (go_at_call 63; refine hru2.mono ?_; rintro e w1 ⟨a, c, rfl, hl, hb⟩; have HB : Hid (Below w.heap.size w w1) := hb; have HL : Hid (LieR w1 a rs) := hl; clear hb hl)
    clear hru2
    go_loopw [5] (fun v wr => ∃ k : Nat, v = .int .i64 k ∧ k ≤ rs.length ∧ w1 = wr ∧ Hid (∀ (i : Nat) x, i < k → rs[i]? = some x → goodR x = true)) (fun v _ => rs.length - (intOf v).toNat)
    case atStart => exact ⟨0, rfl, Nat.zero_le _, rfl, fun i x hi => by omega⟩
    case round =>
      obtain ⟨k, rfl, hk, hw, HO⟩ := hrel
      subst hw
      by_cases hlt : k < rs.length
      · obtain ⟨x, hx⟩ : ∃ x, rs[k]? = some x := ⟨rs[k], List.getElem?_eq_getElem hlt⟩
        obtain ⟨b, off, rfl, hb, hc⟩ := HL.out k x hx
        have HX1 : Hid (rs[k]? = some x) := hx
        have NB : Hid (goodR x = false → okN s.data.toList = false) := fun hg => Bool.eq_false_iff.2 fun h => by
          have := (okN_split h).2.2.2.2.1 x (by rw [HRS.out]; exact List.mem_of_getElem? HX1.out)
          rw [hg] at this; cases this
        clear hx
        have hkz : (k : Int) < (rs.length : Nat) := by omega
        by_cases c1 : (x : Int) < 32
        · go_wp2
          go_ret
          exact ⟨HBAD.out (NB.out (by unfold goodR; simp; omega)), HB.out⟩
        by_cases c2 : (x : Int) = 127
        · have c2' : ((x : Int) == 127) = true := by simp [c2]
          go_wp2
          go_ret
          exact ⟨HBAD.out (NB.out (by unfold goodR; simp; omega)), HB.out⟩
        have c2' : ((x : Int) == 127) = false := by simp [c2]
        by_cases c3 : (x : Int) = 47
        · have c3' : ((x : Int) == 47) = true := by simp [c3]
          go_wp2
          go_ret
          exact ⟨HBAD.out (NB.out (by unfold goodR; simp; omega)), HB.out⟩
        have c3' : ((x : Int) == 47) = false := by simp [c3]
        go_wp2
        go_roundw
        case rel =>
          refine ⟨k + 1, by go_num, by omega, by first | rfl | trivial, fun i y hi hy => ?_⟩
          by_cases hik : i < k
          · exact HO.out i y hik hy
          · obtain rfl : i = k := by omega
            have e := HX1.out
            rw [hy] at e
            rw [Option.some.inj e]
            unfold goodR; simp; omega
        case measure => simp [intOf]; omega
      · go_wp2
        go_ret
        refine ⟨?_, HB.out⟩
        have hok : okN s.data.toList = true := okN_mk (by rw [data_len]; omega) HQ.out HNE.out.1 HNE.out.2 (by
          rw [HRS.out]
          intro x hx
          obtain ⟨i, hi, e⟩ := List.getElem_of_mem hx
          exact HO.out i x (by omega) (by rw [List.getElem?_eq_getElem hi, e])) (by rw [HRS.out]; omega) (by rw [HRS.out]; omega)
        simp [rnE, hok]
end Go.Proofs.YtjnijcmalnckcaaDoor
/- A region that draws its order, over a class of worlds of one's own: each operation gives the same value in every world of the class. -/
namespace Go.Proofs.YtjnijcmalnckcaaDoor
open Go.RowKit
set_option linter.unusedSimpArgs false
set_option linter.unusedVariables false
theorem region_class10 {P : Program} {id : Nat} {Q : Exit → Act → World → Prop} {a : Act} {w : World} {l : List Oper} (C : World → Prop) (hm : P.follows .mixedOrders = true) (hB : Region.lexB .any l.toArray = true) (hC : C w.drew)
    (h : wpQuiet P l.toArray C (fun a' => ∀ w', C w' → Q .normal a' w') l a) : (Code.region id l.toArray true).wp P Q a w :=
  wp_region_quiet (C := C) hm hB hC (by simpa using h)
theorem quiet_val10 {P : Program} {o : Oper} {a : Act} {C : World → Prop} {K : Act → Prop} (v : Value) (h : ∀ w, C w → (execOp a.eval o).run P w = .ok (.value v) w) (hn : K (a.put o.dst v)) : o.quiet P a C K :=
  ⟨v, fun w hw => by unfold Oper.quietAt; rw [h w hw]; exact ⟨rfl, rfl⟩, hn⟩
theorem quiet_call10 {P : Program} {o : Oper} {a : Act} {C : World → Prop} {K : Act → Prop} (v : Value) (f : FuncId) (args : Array Value) (h : ∀ w, C w → (execOp a.eval o).run P w = .ok (.enter f args) w)
    (hc : ∀ w, C w → Calls P f args w (fun e w'' => e = .returned v ∧ C w'')) (hn : K (a.put o.dst v)) : o.quiet P a C K :=
  ⟨v, fun w hw => by unfold Oper.quietAt; rw [h w hw]; exact ⟨rfl, hc w hw⟩, hn⟩
theorem quiet_str10 {o : Oper} {a : Act} {C : World → Prop} {K : Act → Prop} (x : Operand) (ho : o.op = .load 9 x) (g f : Nat) (s : ByteArray) (hx : a.eval x = .pointer (some ⟨g, f, none⟩))
    (hc : ∀ w, C w → w.cell? ⟨g, f, none⟩ = some (.string s)) (hn : K (a.put o.dst (.string s))) : o.quiet Tryd.prog a C K :=
  quiet_val10 (.string s) (fun w hw => by
    have h := hc w hw
    have ha : (isAgg 9).run Tryd.prog w = .ok false w := by kernel_rfl
    unfold execOp
    simp [ho, hx, Instr.loadAt, Instr.sureAddr, loadVar, ha, h]) hn
end Go.Proofs.YtjnijcmalnckcaaDoor
