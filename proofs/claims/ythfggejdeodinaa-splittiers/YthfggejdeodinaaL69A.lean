/- Law 9, SplitTiers: what lies in memory. -/
import Derived.Test.YthfggejdeodinaaU29
import Derived.Test.YthfggejdeodinaaU30
import Derived.Test.YthfggejdeodinaaU26
import Derived.ArgAppend
namespace Go.Proofs.Ythfggejdeodinaa
open Go.RowKit
set_option linter.unusedSimpArgs false
set_option linter.unusedVariables false
theorem cell_blk9 {w w' : World} {r j : Nat} (h : w'.heap[r]? = w.heap[r]?) : w'.cell? ⟨r, j, none⟩ = w.cell? ⟨r, j, none⟩ ∧ w'.frozen? ⟨r, j, none⟩ = w.frozen? ⟨r, j, none⟩ := by simp [World.cell?, World.frozen?, h]
/-- What the package's Tiers has made. -/
structure PkR (W : World) (B : Nat) (a : Option Addr) (gn gk : Nat) (nodes : List (List Nat)) : Prop where
  ad : nodes ≠ [] → a = some ⟨gn, 0, none⟩
  bn : nodes ≠ [] → Bk W gn (ndc gk nodes nodes.length) 32 ∧ B ≤ gn
  kd : nodes ≠ [] → ∃ K : Array Value, Bk W gk K 3 ∧ (∀ (j x : Nat), nodes.flatten[j]? = some x → K[j]? = some (Value.int .i64 (x : Int))) ∧ B ≤ gk
theorem PkR.next {W W' : World} {B gn gk : Nat} {a : Option Addr} {nodes : List (List Nat)} (h : PkR W B a gn gk nodes) (hb : Below W.heap.size W W') : PkR W' B a gn gk nodes :=
  ⟨h.ad, fun q => ⟨(h.bn q).1.below hb (h.bn q).1.lt, (h.bn q).2⟩, fun q => by
    obtain ⟨K, h1, h2, h3⟩ := h.kd q
    exact ⟨K, h1.below hb h1.lt, h2, h3⟩⟩
theorem kid_at {nodes : List (List Nat)} {i : Nat} {ns : List Nat} (h : nodes[i]? = some ns) : nodes.getD i [] = ns := by rw [List.getD, h]; rfl
theorem PkR.nda {W : World} {B gn gk : Nat} {a : Option Addr} {nodes : List (List Nat)} (h : PkR W B a gn gk nodes) : NdA W a nodes := fun i ns hi => by
  have hl := (List.getElem?_eq_some_iff.1 hi).1
  have hne : nodes ≠ [] := fun e => by rw [e] at hl; simp at hl
  obtain ⟨K, k1, k2, k3⟩ := h.kd hne
  obtain ⟨b1, b2⟩ := h.bn hne
  refine ⟨gn, 0, gk, stt nodes i, ns.length, h.ad hne, b1.lt, ?_, k1.lt, fun j x hx => ?_⟩
  · rw [Nat.zero_add, b1.cell, ndc_get gk nodes nodes.length i hl, if_pos hl, ndv, kid_at hi]
  · rw [k1.cell]; exact k2 _ x (stt_get nodes i ns hi j x hx)
/-- What both tell of levels, in letters. -/
theorem tg_gen (X : List Int) (m : Int) (n : Nat) (hX : X.length = n) (hm : -9223372036854775808 ≤ m ∧ m ≤ 9223372036854775807) : ∃ (E : Int) (nodes : List (List Nat)), nodes.length ≤ 4194304 ∧ (∀ ns ∈ nodes, ns.length ≤ 4194304) ∧
    (∀ g0 o0 c W, InL W (some ⟨g0, o0, none⟩) X → Calls Try.prog 4 #[.slice (some ⟨g0, o0, none⟩) n c, .int .i64 m] W fun e w' => ∃ a cc, e = .returned (.tuple #[.slice a nodes.length cc, .int .i64 E]) ∧ NdA w' a nodes ∧ nodes.length ≤ cc ∧ Below W.heap.size W w') ∧
    (∀ g0 o0 c W, InL W (some ⟨g0, o0, none⟩) X → Calls Try.prog 5 #[.slice (some ⟨g0, o0, none⟩) n c, .int .i64 m] W fun e w' => ∃ a gn gk, e = .returned (.tuple #[.slice a nodes.length nodes.length, .int .i64 E]) ∧ PkR w' W.heap.size a gn gk nodes ∧ Below W.heap.size W w') := by
  by_cases hb : tirNo n m X
  · refine ⟨1, [], by simp, fun ns h => (by cases h), fun g0 o0 c W hW => ?_, fun g0 o0 c W hW => ?_⟩
    · exact (rtiers_no _ n c m X W hW hX hb).mono fun e w' ⟨h1, h2⟩ => ⟨none, 0, h1, fun i ns hi => (by simp at hi), Nat.le_refl _, h2⟩
    · exact (tiers_no _ n c m X W hW hX hb).mono fun e w' ⟨h1, h2⟩ => ⟨none, 0, 0, h1, ⟨fun q => absurd rfl q, fun q => absurd rfl q, fun q => absurd rfl q⟩, h2⟩
  · have hn : n ≤ 1048576 := by
      by_cases q : n ≤ 1048576
      · exact q
      · exact absurd (.inl (by omega)) hb
    have hmw : wtn m 2 1024 = true := by
      cases q : wtn m 2 1024 with
      | true => rfl
      | false => exact absurd (.inr (.inl q)) hb
    have hall : ∀ x ∈ X, wtn x 0 32 = true := fun x hx => by
      cases q : wtn x 0 32 with
      | true => rfl
      | false => exact absurd (.inr (.inr ⟨x, hx, q⟩)) hb
    have hm2 := wtn_and hmw
    obtain ⟨m', rfl⟩ : ∃ q : Nat, m = (q : Int) := ⟨m.toNat, by omega⟩
    obtain ⟨l, hl, hl32⟩ : ∃ l : List Nat, X = l.map (fun x : Nat => (x : Int)) ∧ ∀ x ∈ l, x ≤ 32 := by
      refine ⟨X.map Int.toNat, ?_, fun x hx => ?_⟩
      · rw [List.map_map]
        refine (List.map_id X).symm.trans (List.map_congr_left fun x hx => ?_)
        have := (wtn_and (hall x hx)).1
        show x = ((x.toNat : Nat) : Int)
        omega
      · obtain ⟨y, hy, rfl⟩ := List.mem_map.1 hx
        have := wtn_and (hall y hy)
        omega
    subst hl
    rw [List.length_map] at hX
    have hok := itm_ok l hl32
    have hto : TOk l.length ((tir l.length m' (itm l) (33 + l.length)).1, tnd m' l) := tir_ok hok _
    have hcnt := hto.cnt
    have hkid := hto.kid
    simp only at hcnt hkid
    refine ⟨0, tnd m' l, by omega, fun ns hns => ?_, fun g0 o0 c W hW => ?_, fun g0 o0 c W hW => ?_⟩
    · obtain ⟨i, hi⟩ := List.mem_iff_getElem?.1 hns
      have h1 := stt_succ (tnd m' l) i ns hi
      have h2 := stt_le (tnd m' l) (i + 1)
      omega
    · refine (rtiers_yes g0 o0 n c m' l W hW hX hn (by omega) (by omega) hl32).mono ?_
      rintro e w' ⟨ao, co, rows, h1, h2, h3, h4, h5⟩
      have hcap : (tnd m' l).length ≤ co := by
        rcases h3.2 with ⟨_, h0⟩ | ⟨g, cap, cur, hv, _, _, hc, _⟩
        · omega
        · rw [(Value.slice.inj hv).2.2]; exact hc
      refine ⟨ao, co, h1, fun i ns hi => ?_, hcap, h5⟩
      have hil := (List.getElem?_eq_some_iff.1 hi).1
      have hrl : rows.length = (tnd m' l).length := by rw [← h2, List.length_map]
      obtain ⟨r, hr⟩ : ∃ r, rows[i]? = some r := ⟨_, List.getElem?_eq_getElem (by omega)⟩
      have hr2 : r.2 = ns := by
        rw [← h2, List.getElem?_map, hr] at hi
        exact Option.some.inj hi
      have hns2 : 2 ≤ ns.length := tir_two l.length m' (itm l) _ ns (List.mem_of_getElem? hi)
      rcases h3.2 with ⟨_, h0⟩ | ⟨g, cap, cur, hv, _, hg, _, _, _, ht⟩
      · omega
      · have hao := (Value.slice.inj hv).1
        have hbk : Bk w' g cur 22 := hg
        have hrow := h4.1 r (List.mem_of_getElem? hr)
        obtain ⟨y, hy⟩ : ∃ y, r.2[0]? = some y := ⟨_, List.getElem?_eq_getElem (by rw [hr2]; omega)⟩
        obtain ⟨gk, ck, hrv, _, _⟩ := h4.get (v := r.1) (l := r.2) (List.mem_of_getElem? hr) hy
        rcases hrow.2 with ⟨_, h0⟩ | ⟨gk', _, _, hrv', _, hk', _⟩
        · rw [hr2] at h0; omega
        · have hlt : gk < w'.heap.size := by
            rw [hrv] at hrv'
            have := congrArg Addr.block (Option.some.inj (Value.slice.inj hrv').1)
            simp only at this
            rw [this]; exact (Array.getElem?_eq_some_iff.1 hk').1
          refine ⟨g, 0, gk, 0, ck, hao, hbk.lt, ?_, hlt, fun j x hx => ?_⟩
          · rw [Nat.zero_add, hbk.cell, ← Array.getElem?_toList]
            have hq : (rows.map Prod.fst)[i]? = some r.1 := by rw [List.getElem?_map, hr]; rfl
            rw [← ht, List.getElem?_take] at hq
            split at hq
            · rw [hq, hrv, hr2]
            · cases hq
          · rw [← hr2] at hx
            obtain ⟨gk2, ck2, e1, e2, _⟩ := h4.get (v := r.1) (l := r.2) (List.mem_of_getElem? hr) hx
            rw [hrv] at e1
            have := congrArg Addr.block (Option.some.inj (Value.slice.inj e1).1)
            simp only at this
            rw [Nat.zero_add, this]; exact e2
    · refine (tiers_yes _ n c m' l W hW hX hn (by omega) (by omega) hl32).mono ?_
      rintro e w' ⟨gn, gk, h1, h2, h3⟩
      refine ⟨some ⟨gn, 0, none⟩, gn, gk, h1, ⟨fun _ => rfl, fun q => ⟨h2.bn, h2.lo.1⟩, fun q => ?_⟩, h3⟩
      obtain ⟨K, k1, k2⟩ := h2.kd q
      exact ⟨K, k1, k2, h2.lo.2 q⟩
/-- While lists are spoilt. -/
structure TW (w W0 : World) (gk : Nat) (nodes : List (List Nat)) (i : Nat) (W : World) : Prop where
  fr : ∀ k, k < W0.heap.size → k ≠ gk → W.heap[k]? = W0.heap[k]?
  sz : W0.heap.size ≤ W.heap.size
  bel : Below w.heap.size w W
  lo : w.heap.size ≤ gk ∧ gk < W0.heap.size
  kd : ∃ K : Array Value, Bk W gk K 3 ∧ nodes.flatten.length ≤ K.size ∧ ∀ (j x : Nat), stt nodes i ≤ j → nodes.flatten[j]? = some x → K[j]? = some (Value.int .i64 (x : Int))
theorem stt_mono {nodes : List (List Nat)} {i : Nat} {ns : List Nat} (h : nodes[i]? = some ns) : stt nodes i ≤ stt nodes (i + 1) := by rw [stt_succ nodes i ns h]; omega
theorem TW.up {w W0 W : World} {gk i : Nat} {nodes : List (List Nat)} {ns : List Nat} (h : TW w W0 gk nodes i W) (hi : nodes[i]? = some ns) : TW w W0 gk nodes (i + 1) W := by
  obtain ⟨K, k1, k2, k3⟩ := h.kd
  exact ⟨h.fr, h.sz, h.bel, h.lo, K, k1, k2, fun j x hj hx => k3 j x (Nat.le_trans (stt_mono hi) hj) hx⟩
theorem TW.next {w W0 W W' : World} {gk i : Nat} {nodes : List (List Nat)} (h : TW w W0 gk nodes i W) (hb : Below W.heap.size W W') : TW w W0 gk nodes i W' := by
  obtain ⟨K, k1, k2, k3⟩ := h.kd
  have hs := h.sz
  exact ⟨fun k hk hne => by rw [hb.block k (by omega)]; exact h.fr k hk hne, Nat.le_trans hs hb.size, h.bel.trans (hb.mono h.bel.size), h.lo, K, k1.below hb k1.lt, k2, k3⟩
theorem TW.other {w W0 W W' : World} {gk i g : Nat} {nodes : List (List Nat)} (h : TW w W0 gk nodes i W) (hg : W.grownBy W' (some g)) (hgl : W0.heap.size ≤ g) : TW w W0 gk nodes i W' := by
  obtain ⟨K, k1, k2, k3⟩ := h.kd
  have hs := h.sz
  have hl := h.lo
  exact ⟨fun k hk hne => by rw [hg.block k (by omega) (fun e => by injection e with e; omega)]; exact h.fr k hk hne, Nat.le_trans hs hg.size, h.bel.grown hg h.bel.size (fun b hb => by injection hb with hb; omega), hl, K, k1.grown hg (fun e => by injection e with e; omega), k2, k3⟩
theorem TW.put {w W0 W : World} {gk i p : Nat} {nodes : List (List Nat)} {v : Value} (h : TW w W0 gk nodes i W) (hp : p < stt nodes i) : TW w W0 gk nodes i (W.setCell ⟨gk, p, none⟩ v) := by
  obtain ⟨K, k1, k2, k3⟩ := h.kd
  have hl := h.lo
  have hg : W.grownBy (W.setCell ⟨gk, p, none⟩ v) (some gk) := Lib.grownBy_setB (World.grownBy.refl W _) p _
  refine ⟨fun k hk hne => by rw [hg.block k (by have := h.sz; omega) (fun e => hne (by injection e))]; exact h.fr k hk hne, Nat.le_trans h.sz hg.size, h.bel.grown hg h.bel.size (fun b hb => by injection hb with hb; omega), hl, _, k1.set p v, by simpa using k2, fun j x hj hx => ?_⟩
  rw [Array.getElem?_setIfInBounds, if_neg (by omega)]
  exact k3 j x hj hx
/-- Lists that lie in no block that is spoilt. -/
theorem NdA.kept {W0 W : World} {gk : Nat} {a : Option Addr} {nodes : List (List Nat)} (h : NdA W0 a nodes) (hs : W0.heap.size ≤ W.heap.size) (hf : ∀ k, k < W0.heap.size → k ≠ gk → W.heap[k]? = W0.heap[k]?) (hne : ∀ i ns, nodes[i]? = some ns → ∀ g o k q c, a = some ⟨g, o, none⟩ → W0.cell? ⟨g, o + i, none⟩ = some (.slice (some ⟨k, q, none⟩) ns.length c) → g ≠ gk ∧ k ≠ gk) : NdA W a nodes := fun i ns hi => by
  obtain ⟨g, o, k, q, c, h1, h2, h3, h4, h5⟩ := h i ns hi
  obtain ⟨n1, n2⟩ := hne i ns hi g o k q c h1 h3
  refine ⟨g, o, k, q, c, h1, by omega, ?_, by omega, fun j x hx => ?_⟩
  · rw [(cell_blk9 (j := o + i) (hf g h2 n1)).1]; exact h3
  · rw [(cell_blk9 (j := q + j) (hf k h4 n2)).1]; exact h5 j x hx
theorem NdA.drop {W : World} {g o : Nat} {nodes : List (List Nat)} (h : NdA W (some ⟨g, o, none⟩) nodes) (d : Nat) : NdA W (some ⟨g, o + d, none⟩) (nodes.drop d) := fun i ns hi => by
  rw [List.getElem?_drop] at hi
  obtain ⟨g', o', k, q, c, h1, h2, h3, h4, h5⟩ := h (d + i) ns hi
  injection h1 with h1
  injection h1 with e1 e2
  subst e1
  subst e2
  exact ⟨g, o + d, k, q, c, rfl, h2, by rw [Nat.add_assoc]; exact h3, h4, h5⟩
end Go.Proofs.Ythfggejdeodinaa
