import Derived.Test.YtcfniaknbbgheaaDoorY5
import Derived.Test.YtcfniaknbbgheaaDoorY2
import Derived.Laws.ResultCell
import Derived.Laws.AppendOwn
import Derived.Test.YtcfniaknbbgheaaDoorY4
/- attrs.Stream; the law's awake. -/
namespace Go.Proofs.YtcfniaknbbgheaaDoor
open Go.RowKit
set_option linter.unusedSimpArgs false
set_option linter.unusedVariables false
theorem pte_no {a : At} (h : okA a = false) : pte a = 1 ∧ ptl a = [] := by unfold pte ptl; rw [h]; exact ⟨rfl, rfl⟩
theorem pte_yes {a : At} (h : okA a = true) : pte a = 0 ∧ ptl a = lay a := by unfold pte ptl; rw [h]; exact ⟨rfl, rfl⟩
theorem aput_any (nd md ui gi : Nat) (mt : Int) (tg : ByteArray) (xs : List (ByteArray × ByteArray)) (ad : Option Addr) (n c : Nat) (w : World) (hX : XaL w ad xs) (hl : xs.length = n) (hn : n ≤ 4611686018427387904) (ht : tg.size ≤ 140737488351232) (hT : U8 w) (hu : ui < 4294967296) (hg : gi < 4294967296) :
    Calls Tryd.prog 6 #[atV nd md ui gi mt tg (.slice ad n c)] w fun e w' => e = .returned (.tuple #[.string ⟨(ptl ⟨nd, md, ui, gi, mt, tg, xs⟩).toArray⟩, .int .i64 (pte ⟨nd, md, ui, gi, mt, tg, xs⟩)]) ∧ Below w.heap.size w w' := by
  cases h : okA ⟨nd, md, ui, gi, mt, tg, xs⟩ with
  | false => rw [(pte_no h).1, (pte_no h).2]; exact aput_no nd md ui gi mt tg xs ad n c w hX hl hn ht hT h
  | true => rw [(pte_yes h).1, (pte_yes h).2]; exact aput_yes nd md ui gi mt tg xs ad n c w hX hl hn ht hT hu hg h
theorem awake_put : ptl ⟨1, 420, 1000, 100, 5, ⟨#[]⟩, []⟩ = [1, 164, 3, 232, 7, 100, 5, 0] ∧ pte ⟨1, 420, 1000, 100, 5, ⟨#[]⟩, []⟩ = 0 := by decide +kernel
set_option maxRecDepth 100000 in
theorem awake10 (w : World) (hT : U8 w) : Calls Tryd.prog 18 #[] w fun e w' => e = .returned (.bool true) ∧ Below w.heap.size w w' := by
  have C1 := aput_any 1 420 1000 100 5 ⟨#[]⟩ [] none 0 0 w (fun i x h => by simp at h) rfl (by omega) (Nat.zero_le _) hT (by omega) (by omega)
  rw [awake_put.1, awake_put.2] at C1
  have HC : Hid _ := C1
  clear C1 hT
  go_enter Tryd.func18, Tryd.ntmps18
  go_wp2_with fail
  refine Calls.mono HC.out ?_
  rintro e w1 ⟨rfl, hb⟩
  have HB : Hid (Below w.heap.size w w1) := hb
  clear hb
  go_wp2
  go_ret
  exact ⟨rfl, HB.out⟩
/-- Attributes of a slice. -/
structure AtOk (a : At) : Prop where
  nd : a.nd < 256
  md : a.md < 4294967296
  ui : a.ui < 4294967296
  gi : a.gi < 4294967296
  mt : -9223372036854775808 ≤ a.mt ∧ a.mt ≤ 9223372036854775807
  tg : a.tg.size ≤ 140737488351232
  xs : a.xs.length ≤ 1152921504606846976
def AtL (w : World) (ad : Option Addr) (l : List At) : Prop :=
  ∀ i a, l[i]? = some a → AtOk a ∧ ∃ g o sl cp, ad = some ⟨g, o, none⟩ ∧ g < w.heap.size ∧ w.cell? ⟨g, o + i * 7, none⟩ = some (.int .u8 (a.nd : Int)) ∧ w.cell? ⟨g, o + i * 7 + 1, none⟩ = some (.int .u32 (a.md : Int)) ∧ w.cell? ⟨g, o + i * 7 + 2, none⟩ = some (.int .u32 (a.ui : Int)) ∧ w.cell? ⟨g, o + i * 7 + 3, none⟩ = some (.int .u32 (a.gi : Int)) ∧
    w.cell? ⟨g, o + i * 7 + 4, none⟩ = some (.int .i64 a.mt) ∧ w.cell? ⟨g, o + i * 7 + 5, none⟩ = some (.string a.tg) ∧ w.cell? ⟨g, o + i * 7 + 6, none⟩ = some (.slice sl a.xs.length cp) ∧ XaL w sl a.xs
theorem AtL.below {w w' : World} {ad : Option Addr} {l : List At} (h : AtL w ad l) (hb : Below w.heap.size w w') : AtL w' ad l := fun i a ha => by
  obtain ⟨h0, g, o, sl, cp, h1, h2, c0, c1, c2, c3, c4, c5, c6, hx⟩ := h i a ha
  have q : ∀ j, w'.cell? ⟨g, j, none⟩ = w.cell? ⟨g, j, none⟩ := fun j => hb.cell (p := ⟨g, j, none⟩) h2
  exact ⟨h0, g, o, sl, cp, h1, Nat.lt_of_lt_of_le h2 hb.size, by rw [q]; exact c0, by rw [q]; exact c1, by rw [q]; exact c2, by rw [q]; exact c3, by rw [q]; exact c4, by rw [q]; exact c5, by rw [q]; exact c6, hx.below hb⟩
/-- The bytes of many. -/
def stF (l : List At) : List UInt8 := (l.map fun a => tx ⟨(lay a).toArray⟩).flatten
def stL (l : List At) : List UInt8 := e8 l.length ++ stF l
def stB (l : List At) : Bool := decide (1 ≤ l.length ∧ l.length ≤ 257) && l.all okA
theorem stF_snoc (l : List At) (a : At) : stF (l ++ [a]) = stF l ++ tx ⟨(lay a).toArray⟩ := by simp [stF]
theorem lay_size (a : At) : (⟨(lay a).toArray⟩ : ByteArray).size = (lay a).length := by show (lay a).toArray.size = _; simp
theorem stF_len : ∀ (l : List At), (∀ a ∈ l, okA a = true ∧ a.ui < 2 ^ 32 ∧ a.gi < 2 ^ 32) → (stF l).length ≤ 80010 * l.length
  | [], _ => by simp [stF]
  | a :: r, h => by
    have ih := stF_len r (fun y hy => h y (by simp [hy]))
    obtain ⟨h1, h2, h3⟩ := h a (by simp)
    have q := lay_len h1 h2 h3
    have t := tx_len ⟨(lay a).toArray⟩ (by rw [lay_size]; omega)
    rw [lay_size] at t
    have e : stF (a :: r) = tx ⟨(lay a).toArray⟩ ++ stF r := by simp [stF]
    rw [e, List.length_append, List.length_cons]
    omega
/-- What Stream answers. -/
def smE (l : List At) : Int := if stB l = true then 0 else 1
def smL (l : List At) : List UInt8 := if stB l = true then stL l else []
theorem sm_yes {l : List At} (h : stB l = true) : smE l = 0 ∧ smL l = stL l := by unfold smE smL; rw [h]; exact ⟨rfl, rfl⟩
theorem sm_no {l : List At} (h : stB l = false) : smE l = 1 ∧ smL l = [] := by unfold smE smL; rw [h]; exact ⟨rfl, rfl⟩
theorem stB_bad {l : List At} {i : Nat} {a : At} (h : l[i]? = some a) (hb : okA a = false) : stB l = false := by
  unfold stB
  rw [Bool.and_eq_false_iff]
  refine .inr (Bool.eq_false_iff.2 fun hh => ?_)
  have := List.all_eq_true.1 hh a (List.mem_of_getElem? h)
  rw [hb] at this; cases this
set_option maxHeartbeats 4000000 in
set_option maxRecDepth 100000 in
theorem stream_any (ad : Option Addr) (n c : Nat) (l : List At) (w : World) (hL : AtL w ad l) (hl : l.length = n) (hn : n ≤ 4611686018427387904) (hT : U8 w) :
    Calls Tryd.prog 19 #[.slice ad n c] w fun e w' => e = .returned (.tuple #[.string ⟨(smL l).toArray⟩, .int .i64 (smE l)]) ∧ Below w.heap.size w w' := by
  have HA : Hid (AtL w ad l) := hL
  have HT : Hid (U8 w) := hT
  have HL : Hid (l.length = n) := hl
  have HW : Hid ((1 ≤ n ∧ n ≤ 257) → (∀ i, i < n → ∀ a, l[i]? = some a → okA a = true) → stB l = true) := fun h1 h2 => by
    unfold stB
    rw [decide_eq_true (by rw [hl]; exact h1), Bool.true_and, List.all_eq_true]
    intro a ha
    obtain ⟨i, hi⟩ := List.getElem?_of_mem ha
    exact h2 i (by rw [← hl]; exact (List.getElem?_eq_some_iff.1 hi).1) a hi
  have HN : Hid (¬ (1 ≤ n ∧ n ≤ 257) → stB l = false) := fun h1 => by
    unfold stB
    rw [decide_eq_false (by rw [hl]; exact h1)]; rfl
  clear hL hT hl
  by_cases h0 : n = 0
  · have h0z : ((n : Int) == 0) = true := by simp [h0]
    obtain ⟨e1, e2⟩ := sm_no (HN.out (by omega))
    rw [e1, e2]
    clear e1 e2 h0
    go_enter Tryd.func19, Tryd.ntmps19
    go_wp2
    go_ret2
    exact ⟨rfl, Below.refl _ _⟩
  have h0z : ((n : Int) == 0) = false := by simp; omega
  by_cases h257 : n ≤ 257
  · have h2z : ¬ (257 : Int) < n := by omega
    go_enter Tryd.func19, Tryd.ntmps19
    go_wp2_with fail
    refine (putter_any _ _).mono ?_
    rintro e w2 ⟨rfl, hw2⟩
    have P2 : Hid (PS w w.heap.size w.heap.size (w.heap.size + 1) [] w2) := by rw [hw2]; exact PS.begin w
    rw [al_size]
    clear hw2
    go_wp2_with fail
    refine (pnum_nat _ _ _ _ _ n _ P2.out (by omega) (by simp)).mono ?_
    rintro e w3 ⟨rfl, p3, _⟩
    have P3 : Hid (PS w w.heap.size w.heap.size (w.heap.size + 1) (e8 n ++ stF (l.take 0)) w3) := by
      have e : e8 n ++ stF (l.take 0) = [] ++ e8 n := by simp [stF]
      rw [e]; exact p3
    have q5 := e8_len n (by omega)
    clear p3 P2
    go_wp2
    go_loopw [30] (fun v wr => ∃ k : Nat, v = .int .i64 k ∧ k ≤ n ∧ Hid (PS w w.heap.size w.heap.size (w.heap.size + 1) (e8 n ++ stF (l.take k)) wr) ∧ Hid (∀ i, i < k → ∀ a, l[i]? = some a → okA a = true)) (fun v _ => n - (intOf v).toNat)
    case atStart => exact ⟨0, rfl, Nat.zero_le _, P3.out, fun i hi => by omega⟩
    case round =>
      obtain ⟨k, rfl, hk, PR, HE⟩ := hrel
      have hzr : w.heap.size ≤ wr.heap.size := PR.out.le
      have hzg := PR.out.box.lt
      by_cases hlt : k < n
      · have hkz : (k : Int) < (n : Nat) := by omega
        obtain ⟨a, ha⟩ : ∃ a, l[k]? = some a := ⟨l[k]'(by rw [HL.out]; exact hlt), List.getElem?_eq_getElem _⟩
        obtain ⟨hao, g, o, sl, cp, rfl, hg2, c0, c1, c2, c3, c4, c5, c6, hx⟩ := HA.out.below PR.out.bel k a ha
        have hlen : (stF (l.take k)).length ≤ 80010 * 257 := by
          have := stF_len (l.take k) (fun y hy => by
            obtain ⟨i, hi⟩ := List.getElem?_of_mem hy
            have hik : i < k := by have := (List.getElem?_eq_some_iff.1 hi).1; rw [List.length_take] at this; omega
            rw [List.getElem?_take, if_pos hik] at hi
            have hq := (HA.out i y hi).1
            exact ⟨HE.out i hik y hi, by have := hq.ui; omega, by have := hq.gi; omega⟩)
          have h2 : (l.take k).length ≤ 257 := by rw [List.length_take]; omega
          omega
        have HTK : Hid (stF (l.take (k + 1)) = stF (l.take k) ++ tx ⟨(lay a).toArray⟩) := by
          show _ = _
          rw [List.take_add_one, ha, Option.toList_some, stF_snoc]
        have H1 : Hid (l[k]? = some a) := ha
        obtain ⟨nd, md, ui, gi, mt, tg, xs⟩ := a
        have b1 := hao.nd; have b2 := hao.md; have b3 := hao.ui; have b4 := hao.gi; have b5 := hao.mt; have b6 := hao.tg; have b7 := hao.xs
        simp only at c0 c1 c2 c3 c4 c5 c6 hx b1 b2 b3 b4 b5 b6 b7
        obtain ⟨m, hm⟩ : ∃ m, xs.length = m := ⟨_, rfl⟩
        rw [hm] at c6 b7
        have C1 : Hid (∀ u, Below wr.heap.size wr u → Calls Tryd.prog 6 #[atV nd md ui gi mt tg (.slice sl m cp)] u fun e w' => e = .returned (.tuple #[.string ⟨(ptl ⟨nd, md, ui, gi, mt, tg, xs⟩).toArray⟩, .int .i64 (pte ⟨nd, md, ui, gi, mt, tg, xs⟩)]) ∧ Below u.heap.size u w') := fun u hu =>
          aput_any nd md ui gi mt tg xs sl m cp u (hx.below hu) hm (by omega) b6 ((HT.out.below PR.out.bel).below hu) b3 b4
        obtain ⟨q, hq⟩ : ∃ q, stF (l.take k) = q := ⟨_, rfl⟩
        rw [hq] at PR HTK hlen
        clear ha hq hao hx hm
        cases hok : okA ⟨nd, md, ui, gi, mt, tg, xs⟩ with
        | false =>
          rw [(pte_no hok).1, (pte_no hok).2] at C1
          have HF : Hid (stB l = false) := stB_bad H1.out hok
          clear hok
          go_wp2_with fail
          refine (C1.out _ ((Below.refl _ _).alloc (Nat.le_refl _) _)).mono ?_
          rintro e w4 ⟨rfl, hb⟩
          have HB : Hid (Below w.heap.size w w4) := PR.out.bel.trans ((((Below.refl _ _).alloc (Nat.le_refl _) _).trans (hb.mono (by simp))).mono hzr)
          clear hb
          go_wp2
          go_ret2
          exact ⟨by rw [(sm_no HF.out).1, (sm_no HF.out).2]; rfl, HB.out⟩
        | true =>
          rw [(pte_yes hok).1, (pte_yes hok).2] at C1
          have hll := lay_len hok (by show ui < 2 ^ 32; omega) (by show gi < 2 ^ 32; omega)
          obtain ⟨Q, hQ⟩ : ∃ Q : ByteArray, (⟨(lay ⟨nd, md, ui, gi, mt, tg, xs⟩).toArray⟩ : ByteArray) = Q := ⟨_, rfl⟩
          rw [← lay_size, hQ] at hll
          rw [hQ] at C1 HTK
          have HOK : Hid (okA ⟨nd, md, ui, gi, mt, tg, xs⟩ = true) := hok
          clear hok hQ
          go_wp2_with fail
          refine (C1.out _ ((Below.refl _ _).alloc (Nat.le_refl _) _)).mono ?_
          rintro e w4 ⟨rfl, hb⟩
          have P4 : Hid (PS w w.heap.size w.heap.size (w.heap.size + 1) (e8 n ++ q) w4) := PR.out.keep (((Below.refl _ _).alloc (Nat.le_refl _) _).trans (hb.mono (by simp)))
          clear hb
          go_wp2_with fail
          refine (ptxt_any _ _ _ _ _ Q _ P4.out (by omega) (by simp only [List.length_append]; omega)).mono ?_
          rintro e w5 ⟨rfl, p5, _⟩
          have P5 : Hid (PS w w.heap.size w.heap.size (w.heap.size + 1) (e8 n ++ stF (l.take (k + 1))) w5) := by rw [HTK.out, ← List.append_assoc]; exact p5
          clear p5
          go_wp2
          go_roundw
          case rel => exact ⟨k + 1, by go_num, by omega, P5.out, fun i hi y hy => by
            by_cases hik : i < k
            · exact HE.out i hik y hy
            · obtain rfl : i = k := by omega
              have := H1.out.symm.trans hy
              cases this
              exact HOK.out⟩
          case measure => simp [intOf]; omega
      · have hkz : ¬ (k : Int) < (n : Nat) := by omega
        have HY : Hid (stB l = true) := HW.out (by omega) (fun i hi => HE.out i (by omega))
        have PE : Hid (PS w w.heap.size w.heap.size (w.heap.size + 1) (stL l) wr) := by
          have := PR.out
          rw [List.take_of_length_le (by rw [HL.out]; omega)] at this
          unfold stL
          rw [HL.out]
          exact this
        go_wp2_with fail
        refine PE.out.str.mono ?_
        rintro e w12 ⟨rfl, hb12, hz12⟩
        have HF : Hid (Below w.heap.size w w12) := hb12
        clear hb12
        go_wp2
        go_ret2
        exact ⟨by rw [(sm_yes HY.out).1, (sm_yes HY.out).2]; rfl, HF.out⟩
  · have h2z : (257 : Int) < n := by omega
    obtain ⟨e1, e2⟩ := sm_no (HN.out (by omega))
    rw [e1, e2]
    clear e1 e2
    go_enter Tryd.func19, Tryd.ntmps19
    go_wp2
    go_ret2
    exact ⟨rfl, Below.refl _ _⟩
end Go.Proofs.YtcfniaknbbgheaaDoor
/- Rows of the call's own, of two cells an element; a result of a row and a number. No program is named here. -/
namespace Go.Proofs.YtcfniaknbbgheaaDoor
open Go.RowKit
set_option linter.unusedSimpArgs false
set_option linter.unusedVariables false
theorem res_cell_tmp {P : Program} {fn : Func} {p u : Tmp} {ty : TypeId} (h : fn.results = #[.cell p ty, .tmp u]) (tmps : Array Value) (w : World) (g : Nat) (t : TypeId) (cs : Array Value) (fr : Nat × Nat) (d : TypeDesc)
    (hp : tmps.getD p undef = .pointer (some ⟨g, 0, none⟩)) (hg : w.heap[g]? = some (.cells cs t fr))
    (hu : P.underlying ty = some d) (hd : (match d with | .struct _ | .array _ _ => true | _ => false) = true) (hi : (P.info? ty).map (·.size) = some cs.size) :
    (results fn tmps).run P w = .ok (.tuple #[.agg cs, tmps.getD u undef]) w := by
  have hp' : tmps[p]?.getD undef = .pointer (some ⟨g, 0, none⟩) := by simpa using hp
  simp [results, h, hp', asAddr, run_loadVar_row w g t ty cs fr d hg hu hd hi]
theorem rows_low {B B' n k : Nat} {w : World} {v : Value} {xs : List Value} {e : TypeId} (h : w.ownsRow B e k v n xs) (hB : B' ≤ B) : w.ownsRow B' e k v n xs := by
  refine ⟨h.1, ?_⟩
  rcases h.2 with h | ⟨g, cap, cur, h1, h2, h3⟩
  · exact .inl h
  · exact .inr ⟨g, cap, cur, h1, by omega, h3⟩
theorem rows_bel {B B' n k : Nat} {w0 w w' : World} {v : Value} {xs : List Value} {e : TypeId} (hb : Below B w0 w) (hz : B ≤ w.heap.size) (ho : w.ownsRow B' e k v n xs) (hB : B ≤ B') (hg : w.grownBy w' v.ownBlock) : Below B w0 w' := by
  refine hb.grown hg hz (fun b hk => ?_)
  rcases ho.2 with ⟨rfl, _⟩ | ⟨g, cap, cur, rfl, hle, _⟩
  · cases hk
  · simp [Value.ownBlock] at hk; omega
theorem rows_blk {B n k : Nat} {w : World} {v : Value} {xs : List Value} {e : TypeId} (ho : w.ownsRow B e k v n xs) {g : Nat} (hg : v.ownBlock = some g) : B ≤ g ∧ g < w.heap.size := by
  rcases ho.2 with ⟨rfl, _⟩ | ⟨g', cap, cur, rfl, hle, hc, _⟩
  · cases hg
  · simp [Value.ownBlock] at hg; subst hg; exact ⟨hle, (Array.getElem?_eq_some_iff.1 hc).1⟩
theorem rows_keep {B n k : Nat} {w w' : World} {v : Value} {xs : List Value} {e : TypeId} (ho : w.ownsRow B e k v n xs) (h : ∀ g, B ≤ g → g < w.heap.size → w'.heap[g]? = w.heap[g]?) : w'.ownsRow B e k v n xs := by
  refine ⟨ho.1, ?_⟩
  rcases ho.2 with h1 | ⟨g, cap, cur, h1, h2, hc, h3⟩
  · exact .inl h1
  · exact .inr ⟨g, cap, cur, h1, h2, by rw [h g h2 (Array.getElem?_eq_some_iff.1 hc).1]; exact hc, h3⟩
theorem new_two (w : World) (p q : Value) (T : TypeId) : ∀ (j : Nat) (u : Value), [p, q][j]? = some u → (w.alloc (.cells #[p, q] T)).cell? ((⟨w.heap.size, 0, none⟩ : Addr).add j) = some u := by
  intro j u h
  rw [WideShapes.add_plain, Nat.zero_add, World.cell?_alloc_new]
  simpa using h
theorem rows_none {B k : Nat} {w : World} {e : TypeId} : w.ownsRow B e k (.slice none 0 0) 0 [] := ⟨by simp, .inl ⟨rfl, rfl⟩⟩
end Go.Proofs.YtcfniaknbbgheaaDoor
/- What is taken of bytes, step by step. -/
namespace Go.Proofs.YtcfniaknbbgheaaDoor
open Go.RowKit
set_option linter.unusedSimpArgs false
set_option linter.unusedVariables false
/-- One whose bytes may be read. -/
structure Gd (a : At) : Prop where
  ok : okA a = true
  ui : a.ui < 4294967296
  gi : a.gi < 4294967296
def r7 (a : At) : List UInt8 := xsL a.xs
def r6 (a : At) : List UInt8 := e8 a.xs.length ++ r7 a
def r5 (a : At) : List UInt8 := ltg a.nd a.tg ++ r6 a
def r4 (a : At) : List UInt8 := e8 a.mt.toNat ++ r5 a
def r3 (a : At) : List UInt8 := e8 a.gi ++ r4 a
def r2 (a : At) : List UInt8 := e8 a.ui ++ r3 a
def r1 (a : At) : List UInt8 := e8 a.md ++ r2 a
theorem lay_r1 (a : At) : lay a = [UInt8.ofNat a.nd] ++ r1 a := by simp [lay, r1, r2, r3, r4, r5, r6, r7]
/-- Where a reader of S stands: behind pre; nx is what stands ahead of it, if S is the bytes of one of which F holds. -/
structure Prs (S : ByteArray) (pre : List UInt8) (nx : At → List UInt8) (F : At → Prop) (s : ByteArray) (u : Bool) : Prop where
  yes : u = false → bl S = pre ++ bl s
  no : ∀ a, Gd a → lay a = bl S → u = false ∧ F a ∧ bl s = nx a
  sz : s.size ≤ S.size
theorem Prs.start (S : ByteArray) : Prs S [] lay (fun _ => True) S false := ⟨fun _ => rfl, fun a _ h => ⟨rfl, trivial, h.symm⟩, Nat.le_refl _⟩
theorem Prs.num {S : ByteArray} {pre : List UInt8} {nx : At → List UInt8} {F : At → Prop} {s : ByteArray} {u : Bool} {most n : Nat} {s' : ByteArray} {u' : Bool} (h : Prs S pre nx F s u) (hn : NumS s u most n s' u') (f : At → Nat) (nx' : At → List UInt8)
    (hf : ∀ a, Gd a → F a → f a ≤ most ∧ f a < 2 ^ 64) (hx : ∀ a, Gd a → F a → nx a = e8 (f a) ++ nx' a) : Prs S (pre ++ e8 n) nx' (fun a => F a ∧ f a = n) s' u' := by
  refine ⟨fun hu => ?_, fun a ha hl => ?_, Nat.le_trans hn.sz h.sz⟩
  · obtain ⟨q1, q2⟩ := hn.yes hu
    rw [h.yes q1, q2, List.append_assoc]
  · obtain ⟨q1, q2, q3⟩ := h.no a ha hl
    rw [hx a ha q2] at q3
    obtain ⟨p1, p2, p3⟩ := hn.no q1 (f a) (nx' a) (hf a ha q2).1 (hf a ha q2).2 q3
    exact ⟨p1, ⟨q2, p2.symm⟩, p3⟩
theorem Prs.txt {S : ByteArray} {pre : List UInt8} {nx : At → List UInt8} {F : At → Prop} {s : ByteArray} {u : Bool} {most : Nat} {x s' : ByteArray} {u' : Bool} (h : Prs S pre nx F s u) (hn : TxtS s u most x s' u') (f : At → ByteArray) (nx' : At → List UInt8)
    (hf : ∀ a, Gd a → F a → (f a).size ≤ most ∧ (f a).size < 2 ^ 64) (hx : ∀ a, Gd a → F a → nx a = tx (f a) ++ nx' a) : Prs S (pre ++ tx x) nx' (fun a => F a ∧ f a = x) s' u' := by
  refine ⟨fun hu => ?_, fun a ha hl => ?_, Nat.le_trans hn.sz h.sz⟩
  · obtain ⟨q1, q2⟩ := hn.yes hu
    rw [h.yes q1, q2, List.append_assoc]
  · obtain ⟨q1, q2, q3⟩ := h.no a ha hl
    rw [hx a ha q2] at q3
    obtain ⟨p1, p2, p3⟩ := hn.no q1 (f a) (nx' a) (hf a ha q2).1 (hf a ha q2).2 q3
    exact ⟨p1, ⟨q2, p2.symm⟩, p3⟩
theorem ofNat_inj8 {a b : Nat} (ha : a < 256) (hb : b < 256) (h : UInt8.ofNat a = UInt8.ofNat b) : a = b := by
  have := congrArg UInt8.toNat h
  rwa [toNat_ofNat8 a ha, toNat_ofNat8 b hb] at this
theorem Prs.nod {S : ByteArray} {n : Nat} {s' : ByteArray} {u' : Bool} (hn : NodS S false n s' u') : Prs S [UInt8.ofNat n] r1 (fun a => a.nd = n) s' u' := by
  refine ⟨fun hu => (hn.yes hu).2, fun a ha hl => ?_, hn.sz⟩
  rw [lay_r1] at hl
  obtain ⟨p1, p2, p3⟩ := hn.no rfl _ _ hl.symm
  have := (okA_out ha.ok).1
  exact ⟨p1, ofNat_inj8 (by omega) hn.bd p2.symm, p3⟩
/-- A step that takes nothing. -/
theorem Prs.same {S : ByteArray} {pre : List UInt8} {nx : At → List UInt8} {F : At → Prop} {s : ByteArray} {u : Bool} (h : Prs S pre nx F s u) (nx' : At → List UInt8) (F' : At → Prop) (hx : ∀ a, Gd a → F a → nx a = nx' a ∧ F' a) : Prs S pre nx' F' s u :=
  ⟨h.yes, fun a ha hl => by
    obtain ⟨q1, q2, q3⟩ := h.no a ha hl
    exact ⟨q1, (hx a ha q2).2, q3.trans (hx a ha q2).1⟩, h.sz⟩
def nth (a : At) (k : Nat) : ByteArray × ByteArray := a.xs.getD k (⟨#[]⟩, ⟨#[]⟩)
theorem drop_nth {a : At} {k : Nat} (h : k < a.xs.length) : a.xs.drop k = nth a k :: a.xs.drop (k + 1) := by
  rw [List.drop_eq_getElem_cons h]
  unfold nth
  rw [List.getD_eq_getElem?_getD, List.getElem?_eq_getElem h, Option.getD_some]
theorem nth_mem {a : At} {k : Nat} (h : k < a.xs.length) : nth a k ∈ a.xs := by
  unfold nth
  rw [List.getD_eq_getElem?_getD, List.getElem?_eq_getElem h, Option.getD_some]
  exact List.getElem_mem h
theorem take_nth {a : At} {k : Nat} (h : k < a.xs.length) : a.xs.take (k + 1) = a.xs.take k ++ [nth a k] := by
  rw [List.take_add_one, List.getElem?_eq_getElem h, Option.toList_some]
  unfold nth
  rw [List.getD_eq_getElem?_getD, List.getElem?_eq_getElem h, Option.getD_some]
/-- An extended attribute more. -/
theorem Prs.xat {S : ByteArray} {pre : List UInt8} {F : At → Prop} {s : ByteArray} {u : Bool} {k n : Nat} {ys : List (ByteArray × ByteArray)} {x y s' s'' : ByteArray} {u' u'' : Bool} (h : Prs S (pre ++ xsL ys) (fun a => xsL (a.xs.drop k)) (fun a => (F a ∧ a.xs.length = n) ∧ a.xs.take k = ys) s u) (hk : k < n)
    (h1 : TxtS s u 255 x s' u') (h2 : TxtS s' u' 4096 y s'' u'') : Prs S (pre ++ xsL (ys ++ [(x, y)])) (fun a => xsL (a.xs.drop (k + 1))) (fun a => (F a ∧ a.xs.length = n) ∧ a.xs.take (k + 1) = ys ++ [(x, y)]) s'' u'' := by
  have p1 := h.txt h1 (fun a => (nth a k).1) (fun a => tx (nth a k).2 ++ xsL (a.xs.drop (k + 1))) (fun a ha hF => by
      have := xs_small (okA_out ha.ok).2.2.2.2 _ (nth_mem (a := a) (k := k) (by omega))
      exact ⟨this.1, by omega⟩) (fun a ha hF => by
      rw [drop_nth (by omega)]
      simp [xsL])
  have p2 := p1.txt h2 (fun a => (nth a k).2) (fun a => xsL (a.xs.drop (k + 1))) (fun a ha hF => by
      have := xs_small (okA_out ha.ok).2.2.2.2 _ (nth_mem (a := a) (k := k) (by omega))
      exact ⟨this.2, by omega⟩) (fun a ha hF => rfl)
  have e : pre ++ xsL ys ++ tx x ++ tx y = pre ++ xsL (ys ++ [(x, y)]) := by rw [xsL_app, xsL_one]; simp
  rw [e] at p2
  exact p2.same _ _ (fun a ha ⟨⟨⟨⟨q1, q2⟩, q3⟩, q4⟩, q5⟩ => ⟨rfl, ⟨q1, q2⟩, by
    rw [take_nth (by omega), q3, ← q4, ← q5]⟩)
/-- What Read tells. -/
def RdS (S : ByteArray) (a : At) (e : Int) : Prop := (e = 0 ∧ okA a = true ∧ lay a = bl S) ∨ (e = 4 ∧ a = ⟨0, 0, 0, 0, 0, ⟨#[]⟩, []⟩ ∧ ∀ a', Gd a' → lay a' ≠ bl S)
theorem tg_none {n : Nat} {t : ByteArray} (h : tgB n t = true) (hn : n ≠ 3) : t = ⟨#[]⟩ := by
  unfold tgB at h
  rw [if_neg hn] at h
  have := of_decide_eq_true h
  apply bl_inj
  have h2 := bl_length t
  rw [this] at h2
  rw [List.eq_nil_of_length_eq_zero h2]
  rfl
theorem Prs.fin {S : ByteArray} {nd md ui gi m : Nat} {tg : ByteArray} {ys : List (ByteArray × ByteArray)} {n : Nat} {s : ByteArray} {u : Bool} (htg : nd ≠ 3 → tg = ⟨#[]⟩) (hy : ys.length = n) (hu : ui < 4294967296) (hg : gi < 4294967296)
    (h : Prs S ([UInt8.ofNat nd] ++ e8 md ++ e8 ui ++ e8 gi ++ e8 m ++ ltg nd tg ++ e8 n ++ xsL ys) (fun a => xsL (a.xs.drop n)) (fun a => ((((((a.nd = nd ∧ a.md = md) ∧ a.ui = ui) ∧ a.gi = gi) ∧ a.mt.toNat = m) ∧ (nd = 3 → a.tg = tg)) ∧ a.xs.length = n) ∧ a.xs.take n = ys) s u) :
    ((u = false ∧ s.size = 0) ∧ okA ⟨nd, md, ui, gi, (m : Int), tg, ys⟩ = true → RdS S ⟨nd, md, ui, gi, (m : Int), tg, ys⟩ 0) ∧ (¬ ((u = false ∧ s.size = 0) ∧ okA ⟨nd, md, ui, gi, (m : Int), tg, ys⟩ = true) → RdS S ⟨0, 0, 0, 0, 0, ⟨#[]⟩, []⟩ 4) := by
  constructor
  · rintro ⟨⟨h1, h2⟩, h3⟩
    refine .inl ⟨rfl, h3, ?_⟩
    have h4 := h.yes h1
    have h5 : bl s = [] := List.eq_nil_of_length_eq_zero (by rw [bl_length]; exact h2)
    rw [h5, List.append_nil] at h4
    rw [h4]
    simp [lay, hy]
  · intro hno
    refine .inr ⟨rfl, rfl, fun a' ha hl => hno ?_⟩
    obtain ⟨q1, ⟨⟨⟨⟨⟨⟨⟨f1, f2⟩, f3⟩, f4⟩, f5⟩, f6⟩, f7⟩, f8⟩, q3⟩ := h.no a' ha hl
    rw [List.drop_eq_nil_of_le (by omega)] at q3
    have h2 : s.size = 0 := by rw [← bl_length, q3]; rfl
    refine ⟨⟨q1, h2⟩, ?_⟩
    obtain ⟨k1, k2, k3, k4, k5⟩ := okA_out ha.ok
    have e : a' = ⟨nd, md, ui, gi, (m : Int), tg, ys⟩ := by
      have e1 : a'.tg = tg := by
        by_cases h3 : nd = 3
        · exact f6 h3
        · rw [htg h3]; exact tg_none k4 (by rw [f1]; exact h3)
      have e2 : a'.xs = ys := by rw [← f8, List.take_of_length_le (by omega)]
      have e3 : a'.mt = (m : Int) := by omega
      cases a'
      simp only at f1 f2 f3 f4 e1 e2 e3
      rw [f1, f2, f3, f4, e1, e2, e3]
    rw [← e]
    exact ha.ok
end Go.Proofs.YtcfniaknbbgheaaDoor
