/- The walk of what split.Cut hands its cutter. -/
import Derived.Test.YtdinhnpobdfnoaaU3
import Derived.Laws.AppendOwn
namespace Go.Proofs.Ytdinhnpobdfnoaa
open Go.RowKit
set_option linter.unusedSimpArgs false
set_option linter.unusedVariables false
/-- Blocks of other types than these are as they were. -/
def Kp (ts : List TypeId) (w w' : World) : Prop := ∀ b C T, T ∉ ts → Bk w b C T → Bk w' b C T
theorem Kp.refl (ts : List TypeId) (w : World) : Kp ts w w := fun _ _ _ _ h => h
theorem Kp.trans {ts : List TypeId} {a b c : World} (h1 : Kp ts a b) (h2 : Kp ts b c) : Kp ts a c := fun g C T ht h => h2 g C T ht (h1 g C T ht h)
theorem Kp.mono {ts us : List TypeId} {a b : World} (h : Kp ts a b) (hs : ∀ t ∈ ts, t ∈ us) : Kp us a b := fun g C T ht hb => h g C T (fun hm => ht (hs T hm)) hb
theorem kp_alloc (ts : List TypeId) (w : World) (o : Obj) : Kp ts w (w.alloc o) := fun b C T _ h => h.alloc o
theorem kp_drew (ts : List TypeId) (w : World) : Kp ts w w.drew := fun b C T _ h => h
theorem kp_below (ts : List TypeId) {w w' : World} (h : Below w.heap.size w w') : Kp ts w w' := fun b C T _ hb => hb.below h hb.lt
theorem kp_grown {ts : List TypeId} {w w' : World} {r : Nat} {C : Array Value} {T : TypeId} (hb : Bk w r C T) (hT : T ∈ ts) (hg : w.grownBy w' (some r)) : Kp ts w w' := fun b D U hU h => h.grown hg (by
  intro e
  cases e
  exact hU ((bk_apart_ty h hb) ▸ hT))
theorem kp_none {ts : List TypeId} {w w' : World} (hg : w.grownBy w' none) : Kp ts w w' := fun b D U hU h => h.grown hg (by simp)
theorem kp_set {ts : List TypeId} {w : World} {r : Nat} {C : Array Value} {T : TypeId} (hb : Bk w r C T) (hT : T ∈ ts) (j : Nat) (v : Value) : Kp ts w (w.setCell ⟨r, j, none⟩ v) := kp_grown hb hT (Lib.grownBy_setB (World.grownBy.refl _ _) j v)
theorem kp_own {ts : List TypeId} {w w' : World} {B n k : Nat} {e : TypeId} {v : Value} {xs : List Value} (ho : w.ownsRow B e k v n xs) (he : e ∈ ts) (hg : w.grownBy w' v.ownBlock) : Kp ts w w' := by
  rcases ho.2 with ⟨rfl, _⟩ | ⟨g, cap, cur, rfl, _, hc, _⟩
  · exact kp_none hg
  · exact kp_grown (show Bk w g cur e from hc) he hg
/-- A row of the call's own stays where its type is not among those. -/
theorem own_kp {ts : List TypeId} {w w' : World} {B n k : Nat} {e : TypeId} {v : Value} {xs : List Value} (ho : w.ownsRow B e k v n xs) (he : e ∉ ts) (h : Kp ts w w') : w'.ownsRow B e k v n xs := by
  refine ⟨ho.1, ?_⟩
  rcases ho.2 with h1 | ⟨g, cap, cur, h1, h2, hc, h3⟩
  · exact .inl h1
  · exact .inr ⟨g, cap, cur, h1, h2, h g cur e he hc, h3⟩
theorem own_bel {B n k : Nat} {w0 w w' : World} {v : Value} {xs : List Value} {e : TypeId} (hb : Below B w0 w) (hz : B ≤ w.heap.size) (ho : w.ownsRow B e k v n xs) (hg : w.grownBy w' v.ownBlock) : Below B w0 w' := by
  refine hb.grown hg hz (fun b hk => ?_)
  rcases ho.2 with ⟨rfl, _⟩ | ⟨g, cap, cur, rfl, hle, _⟩
  · cases hk
  · simp [Value.ownBlock] at hk; omega
/-- Chunks as cells. -/
def ckv (l : List (Nat × Nat)) : List Value := l.flatMap fun x => [Value.int .i64 (x.1 : Int), Value.int .i64 (x.2 : Int)]
theorem ckv_app (a b : List (Nat × Nat)) : ckv (a ++ b) = ckv a ++ ckv b := by simp [ckv]
theorem ckv_len (a : List (Nat × Nat)) : (ckv a).length = a.length * 2 := by
  induction a with
  | nil => rfl
  | cons x r ih =>
    have : ckv (x :: r) = [Value.int .i64 (x.1 : Int), Value.int .i64 (x.2 : Int)] ++ ckv r := rfl
    rw [this, List.length_append, ih]; simp; omega
theorem inf_chunk : (Try.prog.info? 37).map (fun i => (i.zero, i.size, i.bytes)) = some (some (.agg #[.int .i64 0, .int .i64 0]), 2, 16) := by kernel_rfl
theorem news_two (w : World) (p q : Value) (T : TypeId) : ∀ (j : Nat) (u : Value), [p, q][j]? = some u → (w.alloc (.cells #[p, q] T)).cell? ((⟨w.heap.size, 0, none⟩ : Addr).add j) = some u := by
  intro j u h
  rw [WideShapes.add_plain, Nat.zero_add, World.cell?_alloc_new]
  simpa using h
theorem one_two (a b : Int) : ∀ u ∈ [Value.int .i64 a, Value.int .i64 b], u.oneCell' = true := by
  intro u hu
  simp at hu
  rcases hu with rfl | rfl <;> rfl
/-- The chunks handed on so far, and where the next one begins. -/
structure CS (w0 : World) (gc gf : Nat) (evs : List (Nat × Nat)) (fr : Nat) (w : World) : Prop where
  vv : ∃ v, Bk w gc #[v] 28 ∧ w.ownsRow w0.heap.size 37 2 v evs.length (ckv evs)
  ff : Bk w gf #[.int .i64 (fr : Int)] 3
  bel : Below w0.heap.size w0 w
  low : w0.heap.size ≤ gc ∧ w0.heap.size ≤ gf
theorem CS.keep {w0 : World} {gc gf : Nat} {evs : List (Nat × Nat)} {fr : Nat} {w w' : World} (h : CS w0 gc gf evs fr w) (hk : Kp [113, 86] w w') (hb : Below w0.heap.size w0 w') : CS w0 gc gf evs fr w' := by
  obtain ⟨v, h1, h2⟩ := h.vv
  exact ⟨⟨v, hk _ _ _ (by decide) h1, own_kp h2 (by decide) hk⟩, hk _ _ _ (by decide) h.ff, hb, h.low⟩
set_option maxHeartbeats 2000000 in
set_option maxRecDepth 100000 in
theorem handC_any (w0 : World) (gc gf en lv fr : Nat) (evs : List (Nat × Nat)) (w : World) (h : CS w0 gc gf evs fr w) (he : fr ≤ en) (hen : en ≤ 1048576) (hlv : lv ≤ 32) (hn : evs.length ≤ 1048576) :
    Calls Try.prog 28 #[.int .i64 (en : Int), .int .i64 (lv : Int), .pointer (some ⟨gc, 0, none⟩), .pointer (some ⟨gf, 0, none⟩)] w fun e w' => e = .returned (.tuple #[]) ∧ CS w0 gc gf (evs ++ [(en - fr, lv)]) en w' ∧ Kp [28, 37, 3] w w' := by
  obtain ⟨v, h1, h2⟩ := h.vv
  have c1 : w.cell? ⟨gc, 0, none⟩ = some v := by rw [h1.cell]; rfl
  have c2 : w.cell? ⟨gf, 0, none⟩ = some (.int .i64 (fr : Int)) := by rw [h.ff.cell]; rfl
  obtain ⟨d, hd⟩ : ∃ d, en - fr = d := ⟨_, rfl⟩
  have hdz : (en : Int) - fr = d := by omega
  have HD : Hid (en - fr = d) := hd
  obtain ⟨n, hne⟩ : ∃ n, evs.length = n := ⟨_, rfl⟩
  have HN : Hid (evs.length = n) := hne
  have H2 : Hid (w.ownsRow w0.heap.size 37 2 v n (ckv evs)) := by rw [← hne]; exact h2
  have H1 : Hid (Bk w gc #[v] 28) := h1
  have HH : Hid (CS w0 gc gf evs fr w) := h
  rw [hne] at hn
  have hz : w0.heap.size ≤ w.heap.size := h.bel.size
  obtain ⟨i0, hi, hz0, hz1, hz2⟩ := info_parts inf_chunk
  have hap : gc ≠ gf := bk_apart h1 h.ff (by decide)
  clear hd hne h2 h1 h
  go_enter Try.func28, Try.ntmps28
  go_wp2_with (at_builtin; refine wpList_append_own _ rfl _ _ 28 rfl w0.heap.size 37 i0 (.agg #[.int .i64 0, .int .i64 0]) 2 16 Try.underlying28 hi hz0 hz1 hz2 rfl (by decide) _ _ _ rfl (H2.out.alloc _) ⟨w.heap.size, 0, none⟩ 1 1 [.int .i64 (d : Int), .int .i64 (lv : Int)] rfl rfl (news_two _ _ _ _) (one_two _ _) (by unfold maxLen; omega) (by omega) (by simp; omega) ?_)
  intro v' w7 hown1 hgrow _
  have HK : Hid (Kp [28, 37, 3] w w7) := (kp_alloc _ _ _).trans (kp_own (H2.out.alloc _) (by decide) hgrow)
  have HB7 : Hid (Below w0.heap.size w0 w7) := own_bel (HH.out.bel.alloc hz _) (by simp; omega) (H2.out.alloc _) hgrow
  have hb1 : Bk w7 gc #[v] 28 := ((kp_alloc [37] _ _).trans (kp_own (H2.out.alloc _) (by decide) hgrow)) _ _ _ (by decide) H1.out
  have hb2 : Bk w7 gf #[.int .i64 (fr : Int)] 3 := ((kp_alloc [37] _ _).trans (kp_own (H2.out.alloc _) (by decide) hgrow)) _ _ _ (by decide) HH.out.ff
  have HO : Hid (w7.ownsRow w0.heap.size 37 2 v' (evs ++ [(d, lv)]).length (ckv (evs ++ [(d, lv)]))) := by
    show World.ownsRow _ _ _ _ _ _ _
    rw [ckv_app, List.length_append, HN.out]; exact hown1
  have k1 : w7.cell? ⟨gc, 0, none⟩ = some v := by rw [hb1.cell]; rfl
  have k2 := hb1.frozen 0
  obtain ⟨g7, c7, hv⟩ : ∃ g7 c7, v' = .slice (some ⟨g7, 0, none⟩) (n + 1) c7 := by
    rcases hown1.2 with ⟨_, h0⟩ | ⟨g7, c7, cur, h1, _⟩
    · omega
    · exact ⟨g7, c7, h1⟩
  subst hv
  have hb3 : Bk (w7.setCell ⟨gc, 0, none⟩ (.slice (some ⟨g7, 0, none⟩) (n + 1) c7)) gf #[.int .i64 (fr : Int)] 3 := kp_set (ts := [28]) hb1 (by decide) 0 _ _ _ _ (by decide) hb2
  have k3 : (w7.setCell ⟨gc, 0, none⟩ (.slice (some ⟨g7, 0, none⟩) (n + 1) c7)).cell? ⟨gf, 0, none⟩ = some (.int .i64 (fr : Int)) := by rw [hb3.cell]; rfl
  have k4 := hb3.frozen 0
  have HF : Hid (CS w0 gc gf (evs ++ [(en - fr, lv)]) en ((w7.setCell ⟨gc, 0, none⟩ (.slice (some ⟨g7, 0, none⟩) (n + 1) c7)).setCell ⟨gf, 0, none⟩ (.int .i64 (en : Int))) ∧ Kp [28, 37, 3] w ((w7.setCell ⟨gc, 0, none⟩ (.slice (some ⟨g7, 0, none⟩) (n + 1) c7)).setCell ⟨gf, 0, none⟩ (.int .i64 (en : Int)))) := by
    rw [HD.out]
    have q1 := hb1.set 0 (.slice (some ⟨g7, 0, none⟩) (n + 1) c7)
    have q2 := kp_set (ts := [3]) hb3 (by decide) 0 (.int .i64 (en : Int))
    refine ⟨⟨⟨_, q2 _ _ _ (by decide) q1, own_kp (own_kp HO.out (ts := [28]) (by decide) (kp_set hb1 (by decide) 0 _)) (by decide) q2⟩, hb3.set 0 _, ?_, HH.out.low⟩, ?_⟩
    · exact below_own (below_own HB7.out HB7.out.size (Lib.grownBy_setB (World.grownBy.refl _ _) 0 _) HH.out.low.1) (Nat.le_trans HB7.out.size (Nat.le_of_eq (by simp [World.setCell]))) (Lib.grownBy_setB (World.grownBy.refl _ _) 0 _) HH.out.low.2
    · exact (HK.out.trans (kp_set hb1 (by decide) 0 _)).trans (kp_set hb3 (by decide) 0 _)
  clear hown1 hgrow hb1 hb2 hb3 HK HB7 HO H2 H1 c1 c2
  go_wp2
  go_end0
  exact ⟨rfl, HF.out⟩
theorem pcs_le {α β : Type} (ct : List α → Option β) : ∀ (a h : List α), (pcs ct h a).length ≤ a.length
  | [], h => by simp [pcs]
  | x :: r, h => by
    rw [pcs]
    cases ct (h ++ [x]) with
    | some v => have := pcs_le ct r []; simp only [List.length_cons]; omega
    | none => have := pcs_le ct r (h ++ [x]); simp only [List.length_cons]; omega
theorem lft_le {α β : Type} (ct : List α → Option β) : ∀ (a h : List α), (lft ct h a).length ≤ h.length + a.length
  | [], h => by simp [lft]
  | x :: r, h => by
    rw [lft]
    cases ct (h ++ [x]) with
    | some v => have := lft_le ct r []; simp only [List.length_cons, List.length_nil] at *; omega
    | none => have := lft_le ct r (h ++ [x]); simp only [List.length_cons, List.length_append, List.length_nil] at *; omega
/-- The sizes and levels of pieces. -/
def szs {α : Type} (l : List (List α × Nat)) : List (Nat × Nat) := l.map fun x => (x.1.length, x.2)
/-- What lies there while a text is cut, behind so many bytes. -/
structure CE (p : Pl) (s : List UInt8) (w0 : World) (gc gf g : Nat) (i : Nat) (w : World) : Prop where
  cs : CS w0 gc gf (szs (pcs (ctA p) [] (s.take i))) (i - (lft (ctA p) [] (s.take i)).length) w
  cu : ∃ C, Bk w g C 86 ∧ C.size = 5
  low : w0.heap.size ≤ g
  le : i ≤ s.length
theorem ce_tk (p : Pl) (s : List UInt8) (hs : s.length ≤ 1048576) (w0 : World) (gc gf g : Nat) : Tk (fun r => w0.heap.size ≤ r) p s [] g 0 28 #[.pointer (some ⟨gc, 0, none⟩), .pointer (some ⟨gf, 0, none⟩)] (CE p s w0 gc gf g) := by
  refine ⟨fun args u => ?_, fun i w h r hr => Nat.le_trans h.cs.bel.size hr, fun i w r C w' h hr hb hg => ?_, fun i w j v h hj => ?_, fun i w x hx h hn => ?_, fun i w h => ?_, fun i w v x r hx h hr hc hv => ?_⟩
  · have h1 : (Try.f28.name == "runtime.NumGoroutine") = false := by decide +kernel
    have h2 : Try.f28.body.isNone = false := by kernel_rfl
    simp at h1 h2
    simp [callFunc, go_sem, Try.func28, h1, h2]
    intro h; rw [h] at h2; cases h2
  · obtain ⟨C, h1, h2⟩ := h.cu
    exact ⟨h.cs.keep (kp_grown hb (by decide) hg) (below_own h.cs.bel h.cs.bel.size hg hr), ⟨C, kp_grown (ts := [113]) hb (by decide) hg _ _ _ (by decide) h1, h2⟩, h.low, h.le⟩
  · obtain ⟨C, h1, h2⟩ := h.cu
    have hg : w.grownBy (w.setCell ⟨g, 0 + j, none⟩ v) (some g) := Lib.grownBy_setB (World.grownBy.refl _ _) _ v
    exact ⟨h.cs.keep (kp_grown h1 (by decide) hg) (below_own h.cs.bel h.cs.bel.size hg h.low), ⟨_, h1.set _ v, by simpa using h2⟩, h.low, h.le⟩
  · have h1 := lf_no hx rfl hn
    have h2 := pc_no hx rfl hn
    have hl : i < s.length := (List.getElem?_eq_some_iff.1 hx).1
    refine ⟨?_, h.cu, h.low, hl⟩
    rw [h1, h2, List.length_append, List.length_singleton]
    have := h.cs
    rwa [show i + 1 - ((lft (ctA p) [] (s.take i)).length + 1) = i - (lft (ctA p) [] (s.take i)).length from by omega]
  · obtain ⟨C, h1, h2⟩ := h.cu
    exact ⟨C, _, h1, by decide, by omega⟩
  · have h1 := lf_yes hx rfl hv
    have h2 := pc_yes hx rfl hv
    have hl : i < s.length := (List.getElem?_eq_some_iff.1 hx).1
    have hle := lft_le (ctA p) (s.take i) []
    rw [List.length_take, List.length_nil] at hle
    have hpl := pcs_le (ctA p) (s.take i) []
    rw [List.length_take] at hpl
    have := handC_any w0 gc gf (i + 1) v _ _ w h.cs (by omega) (by omega) (ctA_lev hv).2 (by unfold szs; rw [List.length_map]; omega)
    rw [show ((i + 1 : Nat) : Int) = (i : Int) + 1 from rfl] at this
    refine this.mono ?_
    rintro e w' ⟨rfl, hcs, hk⟩
    obtain ⟨C, q1, q2⟩ := h.cu
    have q3 := hk _ _ _ (by decide) q1
    refine ⟨rfl, ⟨?_, ⟨C, q3, q2⟩, h.low, hl⟩, r, hr, ?_⟩
    · rw [h1, h2]
      unfold szs
      rw [List.map_append]
      have e1 : i + 1 - (i - (lft (ctA p) [] (s.take i)).length) = (lft (ctA p) [] (s.take i) ++ [x]).length := by rw [List.length_append, List.length_singleton]; omega
      rw [e1] at hcs
      exact hcs
    · have k : ∀ j, w'.cell? ⟨g, j, none⟩ = w.cell? ⟨g, j, none⟩ := fun j => by rw [q3.cell, q1.cell]
      exact ⟨by rw [k]; exact hc.c0, by rw [k]; exact hc.c1, by rw [k]; exact hc.c2, by rw [k]; exact hc.c3, by rw [k]; exact hc.c4, hk _ _ _ (by decide) hc.roll⟩
end Go.Proofs.Ytdinhnpobdfnoaa
