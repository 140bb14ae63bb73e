/- The walk of SplitCuts. -/
import Derived.Test.YtdinhnpobdfnoaaU8
import Derived.Test.YtdinhnpobdfnoaaE7
import Derived.Maps.AppendAt
import Derived.Laws.OwnMore
import Derived.Deep.Cut
import Derived.Deep.CutRange
import Derived.Deep.DeepCutAuto
namespace Go.Proofs.Ytdinhnpobdfnoaa
open Go.RowKit
set_option linter.unusedSimpArgs false
set_option linter.unusedVariables false
/-- What a text is cut into, by any plan. -/
def cutX (b f m : Int) (s : List UInt8) : List (Nat × Nat) := if plB b f m = true then chk (ctA (plT b f m)) s else []
theorem chk_len {α : Type} (ct : List α → Option Nat) (s : List α) : (chk ct s).length ≤ s.length + 1 := by
  unfold chk
  have := pcs_le ct s []
  rw [List.length_append, List.length_map]
  split <;> simp <;> omega
theorem cutX_len (b f m : Int) (s : List UInt8) : (cutX b f m s).length ≤ s.length + 1 := by
  unfold cutX
  split
  · exact chk_len _ _
  · simp
theorem cut_all (b f m : Int) (s : ByteArray) (hs : s.size ≤ 1048576) (w : World) :
    Calls Try.prog 10 #[plV b f m, .string s] w fun e w' => ∃ v, e = .returned (.tuple #[v, .int .i64 (plE b f m)]) ∧ w'.ownsRow w.heap.size 37 2 v (cutX b f m (tby s)).length (ckv (cutX b f m (tby s))) ∧ Below w.heap.size w w' := by
  cases h : plB b f m with
  | true =>
    have h2 := cut_yes (plT b f m) (plT_ok b f m) s hs w
    rw [plT_yes h] at h2
    unfold cutX
    rw [if_pos h]
    have e : plE b f m = 0 := by unfold plE; rw [h]; rfl
    rw [e]
    exact h2
  | false =>
    unfold cutX
    rw [if_neg (by rw [h]; simp), plE_no h]
    refine (cut_no b f m h s w).mono ?_
    rintro e w' ⟨rfl, hb⟩
    exact ⟨_, rfl, ⟨rfl, .inl ⟨rfl, rfl⟩⟩, hb⟩
theorem rcut_all (b f m : Int) (s : ByteArray) (hs : s.size ≤ 1048576) (w : World) :
    Calls Try.prog 9 #[plV b f m, .string s] w fun e w' => ∃ v, e = .returned (.tuple #[v, .int .i64 (plE b f m)]) ∧ w'.ownsRow w.heap.size 80 2 v (cutX b f m (tby s)).length (ckv (cutX b f m (tby s))) ∧ Below w.heap.size w w' := by
  cases h : plB b f m with
  | true =>
    have h2 := rcut_yes (plT b f m) (plT_ok b f m) s hs w
    rw [plT_yes h] at h2
    unfold cutX
    rw [if_pos h]
    have e : plE b f m = 0 := by unfold plE; rw [h]; rfl
    rw [e]
    exact h2
  | false =>
    unfold cutX
    rw [if_neg (by rw [h]; simp), plE_no h]
    refine (rcut_no b f m h s w).mono ?_
    rintro e w' ⟨rfl, hb⟩
    exact ⟨_, rfl, ⟨rfl, .inl ⟨rfl, rfl⟩⟩, hb⟩
theorem CkL.grown {w w' : World} {a : Option Addr} {l : List (Nat × Nat)} {r : Option Nat} (h : CkL w a l) (hg : w.grownBy w' r) (hr : ∀ g, a = some ⟨g, 0, none⟩ → r ≠ some g) : CkL w' a l := fun i x hx => by
  obtain ⟨g, h1, h2, h3, h4⟩ := h i x hx
  have e : w'.heap[g]? = w.heap[g]? := hg.block g h2 (fun e => hr g h1 e.symm)
  exact ⟨g, h1, Nat.lt_of_lt_of_le h2 hg.size, by rw [World.cell?_of_block (a := ⟨g, i * 2, none⟩) e]; exact h3, by rw [World.cell?_of_block (a := ⟨g, i * 2 + 1, none⟩) e]; exact h4⟩
theorem own_slice {w : World} {B n k : Nat} {e : TypeId} {v : Value} {xs : List Value} (h : w.ownsRow B e k v n xs) : ∃ a c, v = .slice a n c ∧ (∀ g o s, a = some ⟨g, o, s⟩ → B ≤ g ∧ g < w.heap.size) ∧ (a = none ∨ ∃ g, a = some ⟨g, 0, none⟩) ∧ (a = none → n = 0) := by
  rcases h.2 with ⟨rfl, h0⟩ | ⟨g, cap, cur, rfl, hle, hg, hnc, _, hc, ht⟩
  · subst h0; exact ⟨none, 0, rfl, fun g o s h => (by cases h), .inl rfl, fun _ => rfl⟩
  · exact ⟨_, _, rfl, fun g' o s h => (by cases h; exact ⟨hle, (Array.getElem?_eq_some_iff.1 hg).1⟩), .inr ⟨g, rfl⟩, fun h => (by cases h)⟩
theorem own_ck2 {w : World} {B : Nat} {e : TypeId} {v : Value} {l : List (Nat × Nat)} {n : Nat} (h : w.ownsRow B e 2 v n (ckv l)) (hn : l.length = n) : ∃ a c, v = .slice a n c ∧ CkL w a l ∧ (∀ g, a = some ⟨g, 0, none⟩ → B ≤ g ∧ g < w.heap.size) ∧ (∀ g, v.ownBlock = some g → B ≤ g ∧ g < w.heap.size) := by
  obtain ⟨a, c, rfl, hc⟩ := own_ckl h hn
  rcases h.2 with ⟨h1, h0⟩ | ⟨g, cap, cur, h1, hle, hg, hnc, _⟩
  · cases h1
    exact ⟨none, 0, rfl, hc, fun g h => (by cases h), fun g h => (by cases h)⟩
  · cases h1
    have hlt : g < w.heap.size := (Array.getElem?_eq_some_iff.1 hg).1
    exact ⟨_, _, rfl, hc, fun g' h => (by cases h; exact ⟨hle, hlt⟩), fun g' h => (by simp [Value.ownBlock] at h; omega)⟩
theorem own_cell {w : World} {B n c k : Nat} {e : TypeId} {g : Nat} {xs : List Value} (h : w.ownsRow B e k (.slice (some ⟨g, 0, none⟩) n c) n xs) {j : Nat} (hj : j < xs.length) : w.cell? ⟨g, j, none⟩ = some (xs[j]) := by
  rcases h.2 with ⟨h', _⟩ | ⟨g', cap', cur, h', _, hg, hn, _, hc, ht⟩
  · cases h'
  · cases h'
    have hb : Bk w g cur e := hg
    have hl := h.1
    rw [hb.cell, ← Array.getElem?_toList]
    have : (cur.toList.take (n * k))[j]? = some xs[j] := by rw [ht]; exact List.getElem?_eq_getElem hj
    rwa [List.getElem?_take, if_pos (by omega)] at this
theorem own_low {B B' n k : Nat} {w : World} {v : Value} {xs : List Value} {e : TypeId} (h : w.ownsRow B e k v n xs) (hB : B' ≤ B) : w.ownsRow B' e k v n xs := by
  refine ⟨h.1, ?_⟩
  rcases h.2 with h | ⟨g, cap, cur, h1, h2, h3⟩
  · exact .inl h
  · exact .inr ⟨g, cap, cur, h1, by omega, h3⟩
/-- Two lists that stay, and one that is written to. -/
structure SD (w : World) (aw ab : Option Addr) (l : List (Nat × Nat)) (va : Value) (n : Nat) (W : World) : Prop where
  own : ∃ xs, W.ownsRow w.heap.size 37 2 va n xs
  cw : CkL W aw l
  cb : CkL W ab l
  ap : ∀ g, aw = some ⟨g, 0, none⟩ ∨ ab = some ⟨g, 0, none⟩ → va.ownBlock ≠ some g ∧ g < W.heap.size
  bel : Below w.heap.size w W
theorem SD.next {w : World} {aw ab : Option Addr} {l : List (Nat × Nat)} {va : Value} {n : Nat} {W W' : World} (h : SD w aw ab l va n W) (hb : Below W.heap.size W W') : SD w aw ab l va n W' := by
  obtain ⟨xs, ho⟩ := h.own
  exact ⟨⟨xs, own_kp ho (ts := []) (by simp) (kp_below _ hb)⟩, h.cw.below hb, h.cb.below hb, fun g hg => ⟨(h.ap g hg).1, Nat.lt_of_lt_of_le (h.ap g hg).2 hb.size⟩, h.bel.trans (hb.mono h.bel.size)⟩
theorem SD.set {w : World} {aw ab : Option Addr} {l : List (Nat × Nat)} {g n c : Nat} {W : World} (h : SD w aw ab l (.slice (some ⟨g, 0, none⟩) n c) n W) (j : Nat) (u : Value) : SD w aw ab l (.slice (some ⟨g, 0, none⟩) n c) n (W.setCell ⟨g, j, none⟩ u) := by
  obtain ⟨xs, ho⟩ := h.own
  obtain ⟨h1, h2⟩ := ho.stored j u
  have hB : w.heap.size ≤ g := by
    rcases ho.2 with ⟨h', _⟩ | ⟨g', cap', cur, h', hb, _⟩
    · cases h'
    · cases h'; exact hb
  have hap : ∀ q, aw = some ⟨q, 0, none⟩ ∨ ab = some ⟨q, 0, none⟩ → (some g : Option Nat) ≠ some q := fun q hq => (h.ap q hq).1
  exact ⟨⟨_, h1⟩, h.cw.grown h2 (fun q hq => hap q (.inl hq)), h.cb.grown h2 (fun q hq => hap q (.inr hq)), fun q hq => ⟨(h.ap q hq).1, Nat.lt_of_lt_of_le (h.ap q hq).2 h2.size⟩, below_own h.bel h.bel.size h2 hB⟩
theorem SD.app {w : World} {aw ab : Option Addr} {l : List (Nat × Nat)} {va va' : Value} {n n' : Nat} {W W1 W' : World} (h : SD w aw ab l va n W) (hb : Below W.heap.size W W1) (xs : List Value) (ho' : W'.ownsRow w.heap.size 37 2 va' n' xs) (hg : W1.grownBy W' va.ownBlock) (hat : va'.ownBlock = va.ownBlock ∨ va'.ownBlock = some W1.heap.size) : SD w aw ab l va' n' W' := by
  have h1 := h.next hb
  obtain ⟨ys, ho⟩ := h1.own
  refine ⟨⟨xs, ho'⟩, h1.cw.grown hg (fun q hq => (h1.ap q (.inl hq)).1), h1.cb.grown hg (fun q hq => (h1.ap q (.inr hq)).1), fun q hq => ⟨?_, Nat.lt_of_lt_of_le (h1.ap q hq).2 hg.size⟩, own_bel h1.bel h1.bel.size ho hg⟩
  rcases hat with e | e
  · rw [e]; exact (h1.ap q hq).1
  · rw [e]; have := (h1.ap q hq).2; simp; omega
/-- What lies there ahead of the last asking. -/
structure SC (w : World) (b f m : Int) (aw aa ab : Option Addr) (l : List (Nat × Nat)) (n ca : Nat) (W : World) : Prop where
  ka : CkL W aa l
  pl : Bk W w.heap.size #[.int .i64 b, .int .i64 f, .int .i64 m] 23
  sd : SD w aw ab l (.slice aa n ca) n W
theorem SC.next {w : World} {b f m : Int} {aw aa ab : Option Addr} {l : List (Nat × Nat)} {n ca : Nat} {W W' : World} (h : SC w b f m aw aa ab l n ca W) (hb : Below W.heap.size W W') : SC w b f m aw aa ab l n ca W' :=
  ⟨h.ka.below hb, h.pl.below hb h.pl.lt, h.sd.next hb⟩
theorem quiet_plan {o : Oper} {a : Act} {C : World → Prop} {K : Act → Prop} (x : Operand) (ho : o.op = .load 23 x) (g : Nat) (b f m : Int) (hx : a.eval x = .pointer (some ⟨g, 0, none⟩))
    (hc : ∀ w, C w → Bk w g #[.int .i64 b, .int .i64 f, .int .i64 m] 23) (hn : K (a.put o.dst (plV b f m))) : o.quiet Try.prog a C K :=
  quiet_val (plV b f m) (fun w hw => by
    have h := hc w hw
    have c0 : w.cell? ⟨g, 0, none⟩ = some (.int .i64 b) := by rw [h.cell]; rfl
    have c1 : w.cell? ⟨g, 1, none⟩ = some (.int .i64 f) := by rw [h.cell]; rfl
    have c2 : w.cell? ⟨g, 2, none⟩ = some (.int .i64 m) := by rw [h.cell]; rfl
    unfold execOp
    simp only [ho, hx]
    simp [go_sem, c0, c1, c2]) hn
set_option maxHeartbeats 4000000 in
set_option maxRecDepth 100000 in
theorem cuts_walk (b f m : Int) (s : ByteArray) (w : World) (hs : s.size ≤ 140737488351232) :
    Calls Try.prog 3 #[plV b f m, .string s] w fun e w' => e = .returned (.bool true) ∧ Below w.heap.size w w' := by
  obtain ⟨i0, hi, hz0, hz1, hz2⟩ := info_parts inf_chunk
  go_enter Try.func3, Try.ntmps3
  go_upto_if 15 with fail
  go_cut [1] from 13 (fun s1 wx => ∃ t : ByteArray, s1 = .string t ∧ t.size ≤ 4000 ∧ wx = w.alloc (.cells #[.int .i64 b, .int .i64 f, .int .i64 m] 23))
  case first =>
    by_cases h4 : s.size ≤ 4000
    · have h4z : ¬ (s.size : Int) > 4000 := by omega
      go_wp2
      go_meet
      exact ⟨s, rfl, h4, rfl⟩
    · have h4z : (s.size : Int) > 4000 := by omega
      have hx : (s.extract 0 4000).size = 4000 := by simp; omega
      have HX : Hid ((s.extract 0 4000).size = 4000) := hx
      clear hx
      go_wp2
      go_meet
      exact ⟨_, rfl, Nat.le_of_eq HX.out, rfl⟩
  case rest =>
    obtain ⟨t, rfl, ht, rfl⟩ := hcut
    obtain ⟨l, hl⟩ : ∃ l, cutX b f m (tby t) = l := ⟨_, rfl⟩
    have hln := cutX_len b f m (tby t)
    rw [hl, tby_len] at hln
    have HR : Hid (∀ u, Calls Try.prog 9 #[plV b f m, .string t] u fun e w' => ∃ v, e = .returned (.tuple #[v, .int .i64 (plE b f m)]) ∧ w'.ownsRow u.heap.size 80 2 v l.length (ckv l) ∧ Below u.heap.size u w') := fun u => by
      rw [← hl]; exact rcut_all b f m t (by omega) u
    have HC : Hid (∀ u, Calls Try.prog 10 #[plV b f m, .string t] u fun e w' => ∃ v, e = .returned (.tuple #[v, .int .i64 (plE b f m)]) ∧ w'.ownsRow u.heap.size 37 2 v l.length (ckv l) ∧ Below u.heap.size u w') := fun u => by
      rw [← hl]; exact cut_all b f m t (by omega) u
    clear hl
    obtain ⟨E, hE⟩ : ∃ E, plE b f m = E := ⟨_, rfl⟩
    have HK1 : Hid (∀ u, Calls Try.prog 13 #[plV b f m] u fun e w' => e = .returned (.int .i64 E) ∧ Below u.heap.size u w') := fun u => by rw [← hE]; exact check_any b f m u
    have HK2 : Hid (∀ u, Calls Try.prog 14 #[plV b f m] u fun e w' => e = .returned (.int .i64 E) ∧ Below u.heap.size u w') := fun u => by rw [← hE]; exact rcheck_any b f m u
    rw [hE] at HR HC
    clear hE
    obtain ⟨n, hn⟩ : ∃ n, l.length = n := ⟨_, rfl⟩
    have HN : Hid (l.length = n) := hn
    rw [hn] at HR HC hln
    have hbk := bk_new w #[.int .i64 b, .int .i64 f, .int .i64 m] 23
    have hb0 : Below w.heap.size w (w.alloc (.cells #[.int .i64 b, .int .i64 f, .int .i64 m] 23)) := (Below.refl _ _).alloc (Nat.le_refl _) _
    clear hn
    go_wp2_with fail
    refine (HR.out _).mono ?_
    rintro e w1 ⟨vw, rfl, ow, b1⟩
    obtain ⟨aw, cw, rfl, kw, bw, _⟩ := own_ck2 ow HN.out
    have hb1 := hbk.below b1 hbk.lt
    have hB1 : Below w.heap.size w w1 := hb0.trans (b1.mono hb0.size)
    have c0 : w1.cell? ⟨w.heap.size, 0, none⟩ = some (.int .i64 b) := by rw [hb1.cell]; rfl
    have c1 : w1.cell? ⟨w.heap.size, 1, none⟩ = some (.int .i64 f) := by rw [hb1.cell]; rfl
    have c2 : w1.cell? ⟨w.heap.size, 2, none⟩ = some (.int .i64 m) := by rw [hb1.cell]; rfl
    have H1 : Hid (CkL w1 aw l ∧ (∀ g, aw = some ⟨g, 0, none⟩ → g < w1.heap.size) ∧ Bk w1 w.heap.size #[.int .i64 b, .int .i64 f, .int .i64 m] 23 ∧ Below w.heap.size w w1) := ⟨kw, fun g hg => (bw g hg).2, hb1, hB1⟩
    clear ow b1 kw bw hb1 hB1 hbk hb0 HR
    go_wp2_with fail
    refine (in_any b f m _).mono ?_
    rintro e w2 ⟨rfl, b2⟩
    have H2 : Hid (CkL w2 aw l ∧ (∀ g, aw = some ⟨g, 0, none⟩ → g < w2.heap.size) ∧ Bk w2 w.heap.size #[.int .i64 b, .int .i64 f, .int .i64 m] 23 ∧ Below w.heap.size w w2) := by
      obtain ⟨q1, q2, q3, q4⟩ := H1.out
      exact ⟨q1.below b2, fun g hg => Nat.lt_of_lt_of_le (q2 g hg) b2.size, q3.below b2 q3.lt, q4.trans (b2.mono q4.size)⟩
    clear H1 b2 c0 c1 c2
    go_wp2_with fail
    refine (HC.out _).mono ?_
    rintro e w3 ⟨va, rfl, oa, b3⟩
    obtain ⟨aa, ca, hva, ka, ba, ba2⟩ := own_ck2 oa HN.out
    have H3 : Hid ((CkL w3 aw l ∧ (∀ g, aw = some ⟨g, 0, none⟩ → g < w3.heap.size) ∧ (∀ g, aw = some ⟨g, 0, none⟩ → va.ownBlock ≠ some g) ∧ Bk w3 w.heap.size #[.int .i64 b, .int .i64 f, .int .i64 m] 23 ∧ Below w.heap.size w w3) ∧ CkL w3 aa l ∧ w3.ownsRow w.heap.size 37 2 va n (ckv l) ∧ (∀ g, va.ownBlock = some g → g < w3.heap.size)) := by
      obtain ⟨q1, q2, q3, q4⟩ := H2.out
      have hz := q4.size
      exact ⟨⟨q1.below b3, fun g hg => Nat.lt_of_lt_of_le (q2 g hg) b3.size, fun g hg he => by have := q2 g hg; have := (ba2 g he).1; omega, q3.below b3 q3.lt, q4.trans (b3.mono q4.size)⟩, ka, own_low oa hz, fun g hg => (ba2 g hg).2⟩
    have c0 : w3.cell? ⟨w.heap.size, 0, none⟩ = some (.int .i64 b) := by rw [H3.out.1.2.2.2.1.cell]; rfl
    have c1 : w3.cell? ⟨w.heap.size, 1, none⟩ = some (.int .i64 f) := by rw [H3.out.1.2.2.2.1.cell]; rfl
    have c2 : w3.cell? ⟨w.heap.size, 2, none⟩ = some (.int .i64 m) := by rw [H3.out.1.2.2.2.1.cell]; rfl
    subst hva
    clear H2 oa b3 ka ba ba2
    go_wp2_with fail
    refine (in_any b f m _).mono ?_
    rintro e w4 ⟨rfl, b4⟩
    have H4 : Hid ((CkL w4 aw l ∧ (∀ g, aw = some ⟨g, 0, none⟩ → g < w4.heap.size) ∧ (∀ g, aw = some ⟨g, 0, none⟩ → (Value.slice aa n ca).ownBlock ≠ some g) ∧ Bk w4 w.heap.size #[.int .i64 b, .int .i64 f, .int .i64 m] 23 ∧ Below w.heap.size w w4) ∧ CkL w4 aa l ∧ w4.ownsRow w.heap.size 37 2 (.slice aa n ca) n (ckv l) ∧ (∀ g, (Value.slice aa n ca).ownBlock = some g → g < w4.heap.size)) := by
      obtain ⟨⟨q1, q2, q3, q4, q5⟩, r1, r2, r3⟩ := H3.out
      exact ⟨⟨q1.below b4, fun g hg => Nat.lt_of_lt_of_le (q2 g hg) b4.size, q3, q4.below b4 q4.lt, q5.trans (b4.mono q5.size)⟩, r1.below b4, own_kp r2 (ts := []) (by simp) (kp_below _ b4), fun g hg => Nat.lt_of_lt_of_le (r3 g hg) b4.size⟩
    clear H3 b4 c0 c1 c2
    go_wp2_with fail
    refine (HC.out _).mono ?_
    rintro e w5 ⟨vb, rfl, ob, b5⟩
    obtain ⟨ab, cb, rfl, kb, bb, _⟩ := own_ck2 ob HN.out
    have H5 : Hid (SC w b f m aw aa ab l n ca w5) := by
      obtain ⟨⟨q1, q2, q3, q4, q5⟩, r1, r2, r3⟩ := H4.out
      refine ⟨r1.below b5, q4.below b5 q4.lt, ⟨⟨_, own_kp r2 (ts := []) (by simp) (kp_below _ b5)⟩, q1.below b5, kb, fun g hg => ?_, q5.trans (b5.mono q5.size)⟩⟩
      rcases hg with hg | hg
      · exact ⟨q3 g hg, Nat.lt_of_lt_of_le (q2 g hg) b5.size⟩
      · exact ⟨fun he => by have := r3 g he; have := (bb g hg).1; omega, (bb g hg).2⟩
    clear H4 ob b5 kb bb HC
    have N1 : Hid (∀ W, SC w b f m aw aa ab l n ca W → Calls Try.prog 12 #[.slice aa n ca, .slice aw n cw] W fun e w' => e = .returned (.bool true) ∧ SC w b f m aw aa ab l n ca w') := fun W h => (chunks_any aa aw n ca cw l W HN.out (by unfold maxLen; omega) h.ka h.sd.cw).mono (fun e w' q => ⟨q.1, h.next q.2⟩)
    have N2 : Hid (∀ W, SC w b f m aw aa ab l n ca W → Calls Try.prog 12 #[.slice ab n cb, .slice aw n cw] W fun e w' => e = .returned (.bool true) ∧ SC w b f m aw aa ab l n ca w') := fun W h => (chunks_any ab aw n cb cw l W HN.out (by unfold maxLen; omega) h.sd.cb h.sd.cw).mono (fun e w' q => ⟨q.1, h.next q.2⟩)
    have N3 : Hid (∀ W, SC w b f m aw aa ab l n ca W → Calls Try.prog 11 #[plV b f m] W fun e w' => e = .returned (plV b f m) ∧ SC w b f m aw aa ab l n ca w') := fun W h => (in_any b f m W).mono (fun e w' q => ⟨q.1, h.next q.2⟩)
    have N4 : Hid (∀ W, SC w b f m aw aa ab l n ca W → Calls Try.prog 13 #[plV b f m] W fun e w' => e = .returned (.int .i64 E) ∧ SC w b f m aw aa ab l n ca w') := fun W h => (HK1.out W).mono (fun e w' q => ⟨q.1, h.next q.2⟩)
    have N5 : Hid (∀ W, SC w b f m aw aa ab l n ca W → Calls Try.prog 14 #[plV b f m] W fun e w' => e = .returned (.int .i64 E) ∧ SC w b f m aw aa ab l n ca w') := fun W h => (HK2.out W).mono (fun e w' q => ⟨q.1, h.next q.2⟩)
    have hEE : (E != E) = false := by simp
    clear HK1 HK2
    go_wp2_with fail
    refine wp_region_class (SC w b f m aw aa ab l n ca) (by kernel_rfl) (by kernel_rfl) (H5.out.next ((Below.refl _ _).drew)) ?_
    repeat (first
      | go_big_quiet_skip
      | (go_big_quiet_want
         first
           | (refine quiet_plan _ rfl w.heap.size b f m rfl (fun _ h => h.pl) ?_; go_big_quiet_on; simp only [Act.put, List.setIfInBounds_toArray, List.set_cons_zero, List.set_cons_succ])
           | (refine quiet_call (.bool true) 12 #[.slice aa n ca, .slice aw n cw] ?_ ?_ ?_; (focus (intro W hW; go_simp; done)); (focus (intro W hW; exact N1.out W hW)); go_big_quiet_on; simp only [Act.put, List.setIfInBounds_toArray, List.set_cons_zero, List.set_cons_succ])
           | (refine quiet_call (.bool true) 12 #[.slice ab n cb, .slice aw n cw] ?_ ?_ ?_; (focus (intro W hW; go_simp; done)); (focus (intro W hW; exact N2.out W hW)); go_big_quiet_on; simp only [Act.put, List.setIfInBounds_toArray, List.set_cons_zero, List.set_cons_succ])
           | (refine quiet_call (plV b f m) 11 #[plV b f m] ?_ ?_ ?_; (focus (intro W hW; go_simp; done)); (focus (intro W hW; exact N3.out W hW)); go_big_quiet_on; simp only [Act.put, List.setIfInBounds_toArray, List.set_cons_zero, List.set_cons_succ])
           | (refine quiet_call (.int .i64 E) 13 #[plV b f m] ?_ ?_ ?_; (focus (intro W hW; go_simp; done)); (focus (intro W hW; exact N4.out W hW)); go_big_quiet_on; simp only [Act.put, List.setIfInBounds_toArray, List.set_cons_zero, List.set_cons_succ])
           | (refine quiet_call (.int .i64 E) 14 #[plV b f m] ?_ ?_ ?_; (focus (intro W hW; go_simp; done)); (focus (intro W hW; exact N5.out W hW)); go_big_quiet_on; simp only [Act.put, List.setIfInBounds_toArray, List.set_cons_zero, List.set_cons_succ])
           | (refine quiet_val (.bool false) ?_ ?_; (focus (intro W hW; go_simp; done)); go_big_quiet_on; simp only [Act.put, List.setIfInBounds_toArray, List.set_cons_zero, List.set_cons_succ])
           | (go_big_quiet_op; go_big_quiet_on)))
    refine wpQuiet_nil ?_
    intro w9 hw9
    have H9 : Hid (SD w aw ab l (.slice aa n ca) n w9) := hw9.sd
    clear hw9
    clear H5 N1 N2 N3 N4 N5
    go_wp2
    go_loopw [11] (fun x wr => ∃ i : Nat, i ≤ n ∧ x = .int .i64 (i : Int) ∧ Hid (SD w aw ab l (.slice aa n ca) n wr)) (fun x _ => n - (intOf x).toNat)
    case atStart => exact ⟨0, Nat.zero_le _, rfl, H9.out⟩
    case round =>
      clear H9
      obtain ⟨i, hin, rfl, HS⟩ := hrel
      by_cases hlt : i < n
      · have hiz : (i : Int) < (n : Nat) := by omega
        have hi0 : (0 : Int) ≤ i := by omega
        obtain ⟨xs, ho⟩ := HS.out.own
        obtain ⟨g, rfl⟩ : ∃ g, aa = some ⟨g, 0, none⟩ := by
          rcases ho.2 with ⟨h', h0⟩ | ⟨g', cap', cur, h', _⟩
          · omega
          · cases h'; exact ⟨_, rfl⟩
        have hx := ho.1
        have k1 : ∃ y, wr.cell? ⟨g, i * 2, none⟩ = some y := ⟨_, own_cell ho (j := i * 2) (by omega)⟩
        have k2 : ∃ y, wr.cell? ⟨g, i * 2 + 1, none⟩ = some y := ⟨_, own_cell ho (j := i * 2 + 1) (by omega)⟩
        obtain ⟨y1, k1⟩ := k1
        obtain ⟨y2, k2⟩ := k2
        have f1 := ho.frozenAt (i * 2)
        have f2 := ho.frozenAt (i * 2 + 1)
        have HS2 : Hid (SD w aw ab l (.slice (some ⟨g, 0, none⟩) n ca) n ((wr.setCell ⟨g, i * 2, none⟩ (.int .i64 (-1))).setCell ⟨g, i * 2 + 1, none⟩ (.int .i64 0))) := (HS.out.set _ _).set _ _
        clear ho hx HS
        go_wp2
        go_roundw
        case rel => exact ⟨i + 1, by omega, by go_num, HS2.out⟩
        case measure => simp [intOf]; omega
      · have hiz : ¬ (i : Int) < (n : Nat) := by omega
        go_wp2
        go_loopw [7, 12] (fun y x wr => ∃ k : Nat, k ≤ 20 ∧ x = .int .i64 (k : Int) ∧ Hid (SD w aw ab l y (n + k) wr)) (fun _ x _ => 20 - (intOf x).toNat)
        case atStart => exact ⟨0, by omega, rfl, HS.out⟩
        case round =>
          clear HS
          obtain ⟨k, hk, rfl, HS⟩ := hrel
          obtain ⟨xs, ho⟩ := HS.out.own
          have HO : Hid (wr.ownsRow w.heap.size 37 2 u7 (n + k) xs) := ho
          have hz := HS.out.bel.size
          by_cases hk2 : k < 20
          · have hkz : (k : Int) < 20 := by omega
            clear ho
            go_wp2_with (at_builtin; refine wpList_append_own_at _ rfl _ _ 28 rfl w.heap.size 37 i0 (.agg #[.int .i64 0, .int .i64 0]) 2 16 Try.underlying28 hi hz0 hz1 hz2 rfl (by decide) _ _ _ rfl (HO.out.alloc _) ⟨wr.heap.size, 0, none⟩ 1 1 [.int .i64 (-2), .int .i64 0] rfl rfl (news_two _ _ _ _) (one_two _ _) (by unfold maxLen; omega) (by omega) (by simp; omega) ?_)
            intro v' w7 hown1 hgrow _ hat
            have HS7 : Hid (SD w aw ab l v' (n + (k + 1)) w7) := HS.out.app ((Below.refl _ _).alloc (Nat.le_refl _) _) _ hown1 hgrow (by rw [al_size]; exact hat)
            clear hown1 hgrow hat HS HO
            go_wp2
            go_roundw
            case rel => exact ⟨k + 1, by omega, by go_num, HS7.out⟩
            case measure => simp [intOf]; omega
          · have hkz : ¬ (k : Int) < 20 := by omega
            have hk20 : k = 20 := by omega
            subst hk20
            obtain ⟨a7, c7, hv7⟩ : ∃ a c, u7 = .slice a (n + 20) c := by
              obtain ⟨a, c, h1, _⟩ := own_slice ho
              exact ⟨a, c, h1⟩
            subst hv7
            have hz20 : ((n + 20 : Nat) : Int) ≥ 20 := by omega
            clear ho HO
            go_wp2_with fail
            refine (chunks_any ab aw n cb cw l _ HN.out (by unfold maxLen; omega) HS.out.cb HS.out.cw).mono ?_
            rintro e w8 ⟨rfl, b8⟩
            have HB : Hid (Below w.heap.size w w8) := HS.out.bel.trans (b8.mono HS.out.bel.size)
            clear b8 HS
            go_wp2
            go_ret
            exact ⟨by simp; omega, HB.out⟩
end Go.Proofs.Ytdinhnpobdfnoaa
