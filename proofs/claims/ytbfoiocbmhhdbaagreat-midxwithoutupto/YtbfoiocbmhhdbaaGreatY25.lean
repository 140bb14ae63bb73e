import Derived.Test.YtbfoiocbmhhdbaaGreatY21
import Derived.Test.YtbfoiocbmhhdbaaGreatY24
import Derived.Test.YtbfoiocbmhhdbaaGreatY5
import Derived.Deep.RegionHeld3
import Derived.Deep.AppendLies
import Derived.Test.YtbfoiocbmhhdbaaGreatY20
import Derived.Test.YtbfoiocbmhhdbaaGreatY11
import Derived.Test.YtbfoiocbmhhdbaaGreatY12
/- Law 15's index: items, those that fit, the steps of 'more'. -/
namespace Go.Proofs.YtbfoiocbmhhdbaaGreat
open Go.RowKit
set_option linter.unusedSimpArgs false
set_option linter.unusedVariables false
theorem step_appX {P : Program} {ops : Array Oper} {o : Oper} {a : Act} {w : World} {K : Act → World → Prop} {Q : Exit → Act → World → Prop} {E : Prop} (hgd : o.guard = none) (sl x : Operand) (t u : TypeId)
    (ho : o.op = .call { callee := .builtin .append, args := #[sl, x], argTypes := #[t, u] }) (v y v' : Value) (w' : World) (hs : a.eval sl = v) (hx : a.eval x = y) (hr : (Builtin.append_ #[t, u] o.type #[v, y]).run P w = .ok v' w')
    (h : K (a.put o.dst v') w') : if Region.wanted o (yielded ops a.tmps) = true then Oper.wp P o a w K Q else E := by
  have hw : Region.wanted o (yielded ops a.tmps) = true := by simp [Region.wanted, hgd]
  rw [if_pos hw]
  unfold Oper.wp execOp
  simp only [ho, resolve, invoke, builtin, Sem.run_bind, Sem.run_pure, Result.andThen_ok, List.map_toArray, List.map_cons, List.map_nil, hs, hx, hr]
  exact h
theorem step_bsX {P : Program} {ops : Array Oper} {o : Oper} {a : Act} {w : World} {K : Act → World → Prop} {Q : Exit → Act → World → Prop} {E : Prop} (hgd : o.guard = none) (t : TypeId) (x : Operand)
    (ho : o.op = .buildSlice t 1 #[(0, x)]) (v r : Value) (w' : World) (hx : a.eval x = v) (hr : (Instr.buildSlice t 1 #[(0, v)]).run P w = .ok r w')
    (h : K (a.put o.dst r) w') : if Region.wanted o (yielded ops a.tmps) = true then Oper.wp P o a w K Q else E := by
  have hw : Region.wanted o (yielded ops a.tmps) = true := by simp [Region.wanted, hgd]
  rw [if_pos hw]
  unfold Oper.wp execOp
  simp only [ho, Sem.run_bind, Sem.run_pure, Result.andThen_ok, List.map_toArray, List.map_cons, List.map_nil, hx, hr]
  exact h
theorem step_bs0 {P : Program} {ops : Array Oper} {o : Oper} {a : Act} {w : World} {K : Act → World → Prop} {Q : Exit → Act → World → Prop} {E : Prop} (hgd : o.guard = none) (t : TypeId)
    (ho : o.op = .buildSlice t 0 #[]) (r : Value) (w' : World) (hr : (Instr.buildSlice t 0 #[]).run P w = .ok r w')
    (h : K (a.put o.dst r) w') : if Region.wanted o (yielded ops a.tmps) = true then Oper.wp P o a w K Q else E := by
  have hw : Region.wanted o (yielded ops a.tmps) = true := by simp [Region.wanted, hgd]
  rw [if_pos hw]
  unfold Oper.wp execOp
  simp only [ho, Sem.run_bind, Sem.run_pure, Result.andThen_ok, List.map_toArray, List.map_nil, hr]
  exact h
theorem slice_xr0 (w : World) : (Instr.buildSlice 93 0 #[]).run Tryz.prog w = .ok (.slice (some ⟨w.heap.size, 0, none⟩) 0 0) (w.alloc (.cells #[] 91)) := rbs_none w
set_option maxRecDepth 100000 in
theorem built32R (a0 a1 a2 a3 a4 a5 a6 a7 a8 a9 a10 a11 a12 a13 a14 a15 a16 a17 a18 a19 a20 a21 a22 a23 a24 a25 a26 a27 a28 a29 a30 a31 : Value) (k a n : Int) : Tryz.prog.built 91 [(0, .agg #[a0, a1, a2, a3, a4, a5, a6, a7, a8, a9, a10, a11, a12, a13, a14, a15, a16, a17, a18, a19, a20, a21, a22, a23, a24, a25, a26, a27, a28, a29, a30, a31]), (1, .int .u8 k), (2, .int .i64 a), (3, .int .i64 n)] = some #[a0, a1, a2, a3, a4, a5, a6, a7, a8, a9, a10, a11, a12, a13, a14, a15, a16, a17, a18, a19, a20, a21, a22, a23, a24, a25, a26, a27, a28, a29, a30, a31, .int .u8 k, .int .i64 a, .int .i64 n] := by kernel_rfl
theorem build_xr (e : Xe) (h : e.id.size = 32) (w : World) : (Instr.build 91 #[(0, .agg (idc e.id)), (1, .int .u8 (e.k.toNat : Int)), (2, .int .i64 e.off), (3, .int .i64 e.sz)]).run Tryz.prog w = .ok (.agg (xeC e)) w := by
  refine run_build w _ _ _ ?_
  obtain ⟨a0, a1, a2, a3, a4, a5, a6, a7, a8, a9, a10, a11, a12, a13, a14, a15, a16, a17, a18, a19, a20, a21, a22, a23, a24, a25, a26, a27, a28, a29, a30, a31, hl⟩ := list32X (idc e.id).toList (by rw [Array.length_toList, idc_size, h])
  have e1 : idc e.id = #[a0, a1, a2, a3, a4, a5, a6, a7, a8, a9, a10, a11, a12, a13, a14, a15, a16, a17, a18, a19, a20, a21, a22, a23, a24, a25, a26, a27, a28, a29, a30, a31] := by rw [← Array.toArray_toList (xs := idc e.id), hl]
  have e2 : xeC e = #[a0, a1, a2, a3, a4, a5, a6, a7, a8, a9, a10, a11, a12, a13, a14, a15, a16, a17, a18, a19, a20, a21, a22, a23, a24, a25, a26, a27, a28, a29, a30, a31, .int .u8 (e.k.toNat : Int), .int .i64 e.off, .int .i64 e.sz] := by rw [xeC, hl]; rfl
  rw [e1, e2]
  exact built32R _ _ _ _ _ _ _ _ _ _ _ _ _ _ _ _ _ _ _ _ _ _ _ _ _ _ _ _ _ _ _ _ _ _ _
/-- Items of a slice (their names are any texts). -/
def ItL (w : World) (a : Option Addr) (l : List Xe) : Prop := ∀ i e, l[i]? = some e → ∃ g o, a = some ⟨g, o, none⟩ ∧ g < w.heap.size ∧ w.cell? ⟨g, o + i * 4, none⟩ = some (.string e.id) ∧ w.cell? ⟨g, o + i * 4 + 1, none⟩ = some (.int .u8 (e.k.toNat : Int)) ∧ w.cell? ⟨g, o + i * 4 + 2, none⟩ = some (.int .i64 e.off) ∧ w.cell? ⟨g, o + i * 4 + 3, none⟩ = some (.int .i64 e.sz)
theorem ItL.below {w w' : World} {a : Option Addr} {l : List Xe} (h : ItL w a l) (hb : Below w.heap.size w w') : ItL w' a l := fun i e he => by
  obtain ⟨g, o, h1, h2, c0, c1, c2, c3⟩ := h i e he
  exact ⟨g, o, h1, Nat.lt_of_lt_of_le h2 hb.size, by rw [hb.cell (p := ⟨g, o + i * 4, none⟩) h2]; exact c0, by rw [hb.cell (p := ⟨g, o + i * 4 + 1, none⟩) h2]; exact c1, by rw [hb.cell (p := ⟨g, o + i * 4 + 2, none⟩) h2]; exact c2, by rw [hb.cell (p := ⟨g, o + i * 4 + 3, none⟩) h2]; exact c3⟩
/-- An item as an entry; those that may be indexed together. -/
def xeF (e : Xe) : Xe := ⟨idF e.id, e.k, e.off, e.sz⟩
def fitS (l : List Xe) (e : Xe) : List Xe := if bE (l ++ [e]) = 0 then l ++ [e] else l
def fitX (L : List Xe) : List Xe := (L.map xeF).foldl fitS []
theorem fitX_nil : fitX [] = [] := rfl
theorem fitX_snoc (L : List Xe) (e : Xe) : fitX (L ++ [e]) = fitS (fitX L) (xeF e) := by simp [fitX]
theorem fitS_ok {l : List Xe} (e : Xe) (h : bE l = 0) : bE (fitS l e) = 0 := by
  unfold fitS
  split
  · assumption
  · exact h
theorem foldl_ok : ∀ {L l : List Xe}, bE l = 0 → bE (L.foldl fitS l) = 0
  | [], _, h => h
  | e :: L, _, h => foldl_ok (L := L) (fitS_ok e h)
theorem fitX_ok (L : List Xe) : bE (fitX L) = 0 := foldl_ok rfl
/-- While 'more' is made. -/
structure RgM (W0 : World) (l : List Xe) (X : Array Value) (oa : Option Nat) (ov : Option Value) (oc : Option Nat) (W : World) : Prop where
  bel : Below W0.heap.size W0 W
  ha : ∀ g, oa = some g → Bk W g #[] 91 ∧ W0.heap.size ≤ g
  hv : ∀ v, ov = some v → W.ownsRow W0.heap.size 91 35 v l.length (xvs l) ∧ v ≠ .slice none 0 0
  hc : ∀ g, oc = some g → Bk W g X 91 ∧ W0.heap.size ≤ g
  ne : ∀ g h, oa = some g → oc = some h → g ≠ h
theorem own_keptR {B n : Nat} {w w' : World} {v : Value} {xs : List Value} {e : TypeId} (h : w.ownsRow B e 35 v n xs) (hb : Below w.heap.size w w') : w'.ownsRow B e 35 v n xs :=
  h.kept (gr_of_below hb none) (by cases v.ownBlock <;> simp)
theorem RgM.call {W0 W W' : World} {l : List Xe} {X : Array Value} {oa : Option Nat} {ov : Option Value} {oc : Option Nat} (h : RgM W0 l X oa ov oc W) (hb : Below W.heap.size W W') : RgM W0 l X oa ov oc W' :=
  ⟨h.bel.trans (hb.mono h.bel.size), fun g e => ⟨(h.ha g e).1.below hb (h.ha g e).1.lt, (h.ha g e).2⟩, fun v e => ⟨own_keptR (h.hv v e).1 hb, (h.hv v e).2⟩, fun g e => ⟨(h.hc g e).1.below hb (h.hc g e).1.lt, (h.hc g e).2⟩, h.ne⟩
theorem RgM.new (W0 : World) (l : List Xe) (X : Array Value) : RgM W0 l X none none none W0.drew :=
  ⟨(Below.refl _ _).drew, fun g e => (by cases e), fun v e => (by cases e), fun g e => (by cases e), fun g h e => (by cases e)⟩
theorem RgM.a {W0 W : World} {l : List Xe} {X : Array Value} {ov : Option Value} {oc : Option Nat} (h : RgM W0 l X none ov oc W) : RgM W0 l X (some W.heap.size) ov oc (W.alloc (.cells #[] 91)) := by
  have hal : Below W.heap.size W (W.alloc (.cells #[] 91)) := (Below.refl _ _).alloc (Nat.le_refl _) _
  have q := h.call hal
  exact ⟨q.bel, fun g e => (by injection e with e; subst e; exact ⟨bk_new _ _ _, h.bel.size⟩), q.hv, q.hc, fun g k e1 e2 => by injection e1 with e1; have := (h.hc k e2).1.lt; omega⟩
theorem RgM.c {W0 W : World} {l : List Xe} {X : Array Value} {oa : Option Nat} {ov : Option Value} (h : RgM W0 l X oa ov none W) : RgM W0 l X oa ov (some W.heap.size) (W.alloc (.cells X 91)) := by
  have hal : Below W.heap.size W (W.alloc (.cells X 91)) := (Below.refl _ _).alloc (Nat.le_refl _) _
  have q := h.call hal
  exact ⟨q.bel, q.ha, q.hv, fun g e => (by injection e with e; subst e; exact ⟨bk_new _ _ _, h.bel.size⟩), fun g k e1 e2 => by injection e2 with e2; have := (h.ha g e1).1.lt; omega⟩
theorem RgM.own0 {W0 W : World} {l : List Xe} {X : Array Value} {g : Nat} {ov : Option Value} {oc : Option Nat} (h : RgM W0 l X (some g) ov oc W) : W.ownsRow W0.heap.size 91 35 (.slice (some ⟨g, 0, none⟩) 0 0) 0 (xvs []) :=
  ⟨rfl, .inr ⟨g, 0, #[], rfl, (h.ha g rfl).2, (h.ha g rfl).1, Nat.le_refl _, by unfold maxLen; omega, rfl, rfl⟩⟩
/-- The old entries are copied. -/
theorem RgM.b {W0 W : World} {l : List Xe} {X : Array Value} {g : Nat} {oc : Option Nat} (h : RgM W0 l X (some g) none oc W) {a : Option Addr} {m c : Nat} (hx : XeL W0 a l) (hm : l.length = m) (hm2 : m ≤ 65536) (ha : (a = none ∧ c = 0) ∨ ∃ g o, a = some ⟨g, o, none⟩) (hmc : m ≤ c) :
    ∃ v W', (Builtin.append_ #[93, 93] 93 #[.slice (some ⟨g, 0, none⟩) 0 0, .slice a m c]).run Tryz.prog W = .ok v W' ∧ RgM W0 l X none (some v) oc W' := by
  obtain ⟨i0, hi0, hz0, hz1, hz2⟩ := info_parts inf_xr
  rcases ha with ⟨rfl, rfl⟩ | ⟨ga, oa, rfl⟩
  · have hm0 : m = 0 := by omega
    subst hm0
    obtain rfl : l = [] := List.length_eq_zero_iff.1 hm
    refine ⟨_, W, run_append_owned_none (w := W) W0.heap.size _ _ _ i0 35 Tryz.underlying93 hi0 _ 0 (xvs []) h.own0, h.bel, fun g e => (by cases e), fun v e => ?_, h.hc, fun g k e => (by cases e)⟩
    injection e with e
    subst e
    exact ⟨h.own0, by simp⟩
  · have hxl := hx.below h.bel
    subst hm
    obtain ⟨a7, cp, w7, hr, ho, hg, hc7, hn⟩ := rapp (l := []) h.own0 h.bel.size (fun e he => by cases he) ⟨ga, oa, none⟩ c hxl (by simp; omega)
    have hgrow : W.grownBy w7 (some g) := hg
    have hlz : ([] : List Xe).length + l.length = l.length := by simp
    rw [hlz, List.nil_append] at ho
    rw [hlz] at hr
    have hbl : Below W0.heap.size W0 w7 := below_own h.bel h.bel.size hgrow (h.ha g rfl).2
    obtain ⟨gz, hgz⟩ := hn (by simp)
    subst hgz
    refine ⟨_, w7, hr, hbl, fun g e => (by cases e), fun v e => ?_, fun k e => ?_, fun g k e => (by cases e)⟩
    · injection e with e
      subst e
      exact ⟨ho, by simp⟩
    · have hk := h.hc k e
      exact ⟨hk.1.grown hgrow (fun q => h.ne g k rfl e (Option.some.inj q)), hk.2⟩
/-- The new one behind them. -/
theorem RgM.d {W0 W : World} {l : List Xe} {e : Xe} {oa : Option Nat} {v : Value} {h : Nat} (q : RgM W0 l (xeC e) oa (some v) (some h) W) (he : e.id.size = 32) (hl : ∀ x ∈ l, x.id.size = 32) {m : Nat} (hm : l.length = m) (hm2 : m ≤ 65536) :
    ∃ g7 cp7 W7, (Builtin.append_ #[93, 93] 93 #[v, .slice (some ⟨h, 0, none⟩) 1 1]).run Tryz.prog W = .ok (.slice (some ⟨g7, 0, none⟩) (m + 1) cp7) W7 ∧ (XeL W7 (some ⟨g7, 0, none⟩) (l ++ [e]) ∧ m + 1 ≤ cp7) ∧ Below W0.heap.size W0 W7 := by
  subst hm
  obtain ⟨ho, hv⟩ := q.hv v rfl
  have hx : XeL W (some ⟨h, 0, none⟩) [e] := fun i x hxi => by
    have hb := (q.hc h rfl).1
    have hi : i = 0 := by have := (List.getElem?_eq_some_iff.1 hxi).1; simp at this; exact this
    subst hi
    simp at hxi
    subst hxi
    exact ⟨he, h, 0, rfl, hb.lt, fun j u hu => by rw [hb.cell]; simpa using hu⟩
  obtain ⟨a7, cp, w7, hr, ho7, hg, hc7, hn⟩ := rapp (m := [e]) ho q.bel.size hl ⟨h, 0, none⟩ 1 hx (by simp; omega)
  obtain ⟨g7, rfl⟩ := hn hv
  have hl7 : (l ++ [e]).length = l.length + 1 := by simp
  obtain ⟨a8, c8, hv8, hx8, _⟩ := own_xel ho7 hl7 (fun x hx => by
    rcases List.mem_append.1 hx with hx | hx
    · exact hl x hx
    · rw [List.mem_singleton.1 hx]; exact he)
  injection hv8 with k1 k2 k3
  subst k1
  refine ⟨g7, cp, w7, hr, ⟨hx8, hc7⟩, q.bel.grown hg q.bel.size (fun k hk => ?_)⟩
  rcases ho.2 with ⟨h1, _⟩ | ⟨g, cap, cur, h1, hB, _⟩
  · exact absurd h1 hv
  · rw [h1] at hk
    simp [Value.ownBlock] at hk
    omega
end Go.Proofs.YtbfoiocbmhhdbaaGreat
/- Law 15's index. -/
namespace Go.Proofs.YtbfoiocbmhhdbaaGreat
open Go.RowKit
set_option linter.unusedSimpArgs false
set_option linter.unusedVariables false
theorem RgM.aa {W0 W : World} {l : List Xe} {X : Array Value} {ov : Option Value} {oc : Option Nat} (h : RgM W0 l X none ov oc W) : ∃ g W', (Instr.buildSlice 93 0 #[]).run Tryz.prog W = .ok (.slice (some ⟨g, 0, none⟩) 0 0) W' ∧ RgM W0 l X (some g) ov oc W' := ⟨_, _, slice_xr0 W, h.a⟩
theorem RgM.cc {W0 W : World} {l : List Xe} {X : Array Value} {oa : Option Nat} {ov : Option Value} (h : RgM W0 l X oa ov none W) (hb : ∀ w, (Instr.buildSlice 93 1 #[(0, .agg X)]).run Tryz.prog w = .ok (.slice (some ⟨w.heap.size, 0, none⟩) 1 1) (w.alloc (.cells X 91))) : ∃ g W', (Instr.buildSlice 93 1 #[(0, .agg X)]).run Tryz.prog W = .ok (.slice (some ⟨g, 0, none⟩) 1 1) W' ∧ RgM W0 l X oa ov (some g) W' := ⟨_, _, hb W, h.c⟩
theorem step_bd4 {P : Program} {ops : Array Oper} {o : Oper} {a : Act} {w : World} {K : Act → World → Prop} {Q : Exit → Act → World → Prop} {E : Prop} (hgd : o.guard = none) (t : TypeId) (x0 x1 x2 x3 : Operand)
    (ho : o.op = .build t #[(0, x0), (1, x1), (2, x2), (3, x3)]) (v0 v1 v2 v3 r : Value) (h0 : a.eval x0 = v0) (h1 : a.eval x1 = v1) (h2 : a.eval x2 = v2) (h3 : a.eval x3 = v3) (hr : (Instr.build t #[(0, v0), (1, v1), (2, v2), (3, v3)]).run P w = .ok r w)
    (h : K (a.put o.dst r) w) : if Region.wanted o (yielded ops a.tmps) = true then Oper.wp P o a w K Q else E := by
  have hw : Region.wanted o (yielded ops a.tmps) = true := by simp [Region.wanted, hgd]
  rw [if_pos hw]
  unfold Oper.wp execOp
  simp only [ho, Sem.run_bind, Sem.run_pure, Result.andThen_ok, List.map_toArray, List.map_cons, List.map_nil, h0, h1, h2, h3, hr]
  exact h
/-- What index gives. -/
def InR (s t : ByteArray) (L : List Xe) (R : ByteArray) : Prop := (t ≠ ⟨#[]⟩ → R = t) ∧ (t = ⟨#[]⟩ → ∃ M, M.Perm (fitX L) ∧ IsIx R (idF s) M)
/-- While items are tried. -/
structure InS (w : World) (s t : ByteArray) (a0 : Option Addr) (n c : Nat) (L : List Xe) (k : Nat) (a : Option Addr) (m cp : Nat) (l : List Xe) (W : World) : Prop where
  bx : Bk W w.heap.size #[.string s, .slice a0 n c, .string t] 41
  xs : XeL W a l
  eq : l = fitX (L.take k)
  len : l.length = m
  cap : m ≤ cp
  ad : (a = none ∧ cp = 0) ∨ ∃ g o, a = some ⟨g, o, none⟩
  bel : Below w.heap.size w W
theorem InS.call {w W W' : World} {s t : ByteArray} {a0 a : Option Addr} {n c k m cp : Nat} {L l : List Xe} (h : InS w s t a0 n c L k a m cp l W) (hb : Below W.heap.size W W') : InS w s t a0 n c L k a m cp l W' :=
  ⟨h.bx.below hb h.bx.lt, h.xs.below hb, h.eq, h.len, h.cap, h.ad, h.bel.trans (hb.mono h.bel.size)⟩
theorem InS.small {w W : World} {s t : ByteArray} {a0 a : Option Addr} {n c k m cp : Nat} {L l : List Xe} (h : InS w s t a0 n c L k a m cp l W) : m ≤ 65536 ∧ bE l = 0 := by
  have h0 : bE l = 0 := by rw [h.eq]; exact fitX_ok _
  exact ⟨by rw [← h.len]; exact (bE_ok h0).len, h0⟩
/-- An item's cells. -/
def itC (e : Xe) : Array Value := #[.string e.id, .int .u8 (e.k.toNat : Int), .int .i64 e.off, .int .i64 e.sz]
theorem inf_it4 : (Tryz.prog.info? 45).map (·.size) = some 4 := by kernel_rfl
set_option maxHeartbeats 8000000 in
set_option maxRecDepth 100000 in
theorem index_any15 (s t : ByteArray) (a0 : Option Addr) (n c : Nat) (L : List Xe) (w : World) (hL : ItL w a0 L) (hn : L.length = n) (hn2 : n ≤ 4611686018427387904) :
    Calls Tryz.prog 15 #[.agg #[.string s, .slice a0 n c, .string t]] w fun e w' => ∃ R, e = .returned (.string R) ∧ InR s t L R ∧ Below w.heap.size w w' := by
  have HL : Hid (ItL w a0 L ∧ L.length = n) := ⟨hL, hn⟩
  obtain ⟨D, hD⟩ : ∃ D, idc (idF s) = D := ⟨_, rfl⟩
  have HID : Hid (∀ u, Calls Tryz.prog 18 #[.string s] u fun e w' => e = .returned (.agg D) ∧ Below u.heap.size u w') := fun u => by rw [← hD]; exact id_any15 s u
  have HIE : Hid (∀ x u, Calls Tryz.prog 18 #[.string x] u fun e w' => e = .returned (.agg (idc (idF x))) ∧ Below u.heap.size u w') := fun x u => id_any15 x u
  have HBD : Hid (∀ l a m cp W, XeL W a l → l.length = m → ((a = none ∧ cp = 0) ∨ ∃ g o, a = some ⟨g, o, none⟩) → m ≤ cp → m ≤ 70000 → Calls Tryz.prog 36 #[.agg D, .slice a m cp] W fun e w' => ∃ R, e = .returned (.tuple #[.string R, .int .i64 (bE l)]) ∧ BdR (idF s) l R ∧ Below W.heap.size W w') := fun l a m cp W hx hl ha hc hm => by
    rw [← hD]; exact rbuild13 (idF s) l a m cp W (idF_size s) hx hl ha hc (by omega)
  have H0 : Hid (InS w s t a0 n c L 0 none 0 0 [] (w.alloc (.cells #[.string s, .slice a0 n c, .string t] 41))) :=
    ⟨bk_new _ _ _, fun i e he => by simp at he, by simp [fitX_nil], rfl, Nat.le_refl _, .inl ⟨rfl, rfl⟩, (Below.refl _ _).alloc (Nat.le_refl _) _⟩
  have happ := slice_xr0
  clear hL hn hD
  by_cases ht : t = ⟨#[]⟩
  case neg =>
    have hne : t.toList.isEmpty = false := by
      rw [Bool.eq_false_iff]
      intro q
      rw [List.isEmpty_iff, Lib.toList_data] at q
      apply ht
      cases t
      simp at q
      simp [q]
    have HT : Hid (InR s t L t ∧ Below w.heap.size w (w.alloc (.cells #[.string s, .slice a0 n c, .string t] 41))) := ⟨⟨fun _ => rfl, fun q => absurd q ht⟩, H0.out.bel⟩
    clear ht H0
    go_enter Tryz.func15, Tryz.ntmps15
    go_wp2
    go_ret
    exact ⟨t, rfl, HT.out.1, HT.out.2⟩
  subst ht
  go_enter Tryz.func15, Tryz.ntmps15
  go_wp2
  go_loopw [3, 4] (fun v u wr => ∃ (k : Nat) (a : Option Addr) (m cp : Nat) (l : List Xe), v = .slice a m cp ∧ u = .int .i64 k ∧ k ≤ n ∧ Hid (InS w s ⟨#[]⟩ a0 n c L k a m cp l wr)) (fun _ u _ => n - (intOf u).toNat)
  case atStart => exact ⟨0, none, 0, 0, [], rfl, rfl, Nat.zero_le _, H0.out⟩
  case round =>
    clear H0
    obtain ⟨k, a, m, cp, l, rfl, rfl, hk, HR⟩ := hrel
    have e1 : wr.cell? ⟨w.heap.size, 1, none⟩ = some (.slice a0 n c) := by rw [HR.out.bx.cell]; rfl
    have e0 : wr.cell? ⟨w.heap.size, 0, none⟩ = some (.string s) := by rw [HR.out.bx.cell]; rfl
    by_cases hlt : k < n
    · have hkz : (k : Int) < (n : Nat) := by omega
      obtain ⟨e, he⟩ : ∃ e, L[k]? = some e := ⟨_, List.getElem?_eq_getElem (by rw [HL.out.2]; exact hlt)⟩
      obtain ⟨ge, oe, rfl, hge, c0, c1, c2, c3⟩ := (HL.out.1.below HR.out.bel) k e he
      have HF : Hid (fitX (L.take (k + 1)) = fitS (fitX (L.take k)) (xeF e)) := by
        show _ = _
        rw [List.take_add_one, he]; exact fitX_snoc _ _
      have HC4 : Hid (∀ j v, (itC e).toList[j]? = some v → wr.cell? ⟨ge, oe + k * 4 + j, none⟩ = some v) := fun j v hv => by
        have hj : j < 4 := by have := (List.getElem?_eq_some_iff.1 hv).1; simpa [itC] using this
        have h4 : j = 0 ∨ j = 1 ∨ j = 2 ∨ j = 3 := by omega
        rcases h4 with rfl | rfl | rfl | rfl <;> simp [itC] at hv <;> subst hv <;> assumption
      have HB5 : Hid (Bk (wr.alloc (.cells (itC e) 45)) wr.heap.size (itC e) 45 ∧ InS w s ⟨#[]⟩ (some ⟨ge, oe, none⟩) n c L k a m cp l (wr.alloc (.cells (itC e) 45))) := ⟨bk_new _ _ _, HR.out.call ((Below.refl _ _).alloc (Nat.le_refl _) _)⟩
      clear he c0 c1 c2 c3
      go_wp2_with (first
        | (refine wpList_load_mid rfl 45 (.tmp 26) rfl ge (oe + k * 4) rfl [.string e.id, .int .u8 (e.k.toNat : Int), .int .i64 e.off, .int .i64 e.sz] _ HC4.out Tryz.underlying45 rfl inf_it4 ?_)
        | fail)
      have hit : itC e = #[.string e.id, .int .u8 (e.k.toNat : Int), .int .i64 e.off, .int .i64 e.sz] := rfl
      rw [hit] at HB5
      obtain ⟨W0, hW0⟩ : ∃ W, wr.alloc (.cells #[.string e.id, .int .u8 (e.k.toNat : Int), .int .i64 e.off, .int .i64 e.sz] 45) = W := ⟨_, rfl⟩
      rw [hW0] at HB5
      obtain ⟨b5, hb5⟩ : ∃ b, wr.heap.size = b := ⟨_, rfl⟩
      rw [hb5] at HB5
      have HSK : Hid (∀ W, Below W0.heap.size W0 W → W.cell? ⟨b5, 0, none⟩ = some (.string e.id) ∧ W.cell? ⟨b5, 1, none⟩ = some (.int .u8 (e.k.toNat : Int)) ∧ W.cell? ⟨b5, 2, none⟩ = some (.int .i64 e.off) ∧ W.cell? ⟨b5, 3, none⟩ = some (.int .i64 e.sz)) := fun W hW => by
        have hb := HB5.out.1.below hW HB5.out.1.lt
        refine ⟨?_, ?_, ?_, ?_⟩ <;> rw [hb.cell] <;> rfl
      have hs0 := HSK.out W0.drew ((Below.refl _ _).drew)
      obtain ⟨q0, q1, q2, q3, q4, q5, q6, q7, q8, q9, q10, q11, q12, q13, q14, q15, q16, q17, q18, q19, q20, q21, q22, q23, q24, q25, q26, q27, q28, q29, q30, q31, hq⟩ := list32X (idc (idF e.id)).toList (by rw [Array.length_toList, idc_size, idF_size])
      have hE : idc (idF e.id) = #[q0, q1, q2, q3, q4, q5, q6, q7, q8, q9, q10, q11, q12, q13, q14, q15, q16, q17, q18, q19, q20, q21, q22, q23, q24, q25, q26, q27, q28, q29, q30, q31] := by rw [← Array.toArray_toList (xs := idc (idF e.id)), hq]
      have hX : xeC (xeF e) = #[q0, q1, q2, q3, q4, q5, q6, q7, q8, q9, q10, q11, q12, q13, q14, q15, q16, q17, q18, q19, q20, q21, q22, q23, q24, q25, q26, q27, q28, q29, q30, q31, .int .u8 (e.k.toNat : Int), .int .i64 e.off, .int .i64 e.sz] := by
        show xeC ⟨idF e.id, e.k, e.off, e.sz⟩ = _
        rw [xeC, hq]; rfl
      have HRG : Hid (RgM W0 l #[q0, q1, q2, q3, q4, q5, q6, q7, q8, q9, q10, q11, q12, q13, q14, q15, q16, q17, q18, q19, q20, q21, q22, q23, q24, q25, q26, q27, q28, q29, q30, q31, .int .u8 (e.k.toNat : Int), .int .i64 e.off, .int .i64 e.sz] none none none W0.drew) := RgM.new W0 l _
      have HIE2 : Hid (∀ u, Calls Tryz.prog 18 #[.string e.id] u fun e' w' => e' = .returned (.agg #[q0, q1, q2, q3, q4, q5, q6, q7, q8, q9, q10, q11, q12, q13, q14, q15, q16, q17, q18, q19, q20, q21, q22, q23, q24, q25, q26, q27, q28, q29, q30, q31]) ∧ Below u.heap.size u w') := fun u => by rw [← hE]; exact HIE.out e.id u
      rw [hW0, hb5]
      have HM : Hid (XeL W0 a l ∧ l.length = m ∧ m ≤ 65536 ∧ ((a = none ∧ cp = 0) ∨ ∃ g o, a = some ⟨g, o, none⟩) ∧ m ≤ cp) := ⟨HB5.out.2.xs, HB5.out.2.len, HB5.out.2.small.1, HB5.out.2.ad, HB5.out.2.cap⟩
      have HDD : Hid (∀ oa v h W, RgM W0 l #[q0, q1, q2, q3, q4, q5, q6, q7, q8, q9, q10, q11, q12, q13, q14, q15, q16, q17, q18, q19, q20, q21, q22, q23, q24, q25, q26, q27, q28, q29, q30, q31, .int .u8 (e.k.toNat : Int), .int .i64 e.off, .int .i64 e.sz] oa (some v) (some h) W → ∃ g7 cp7 W7, (Builtin.append_ #[93, 93] 93 #[v, .slice (some ⟨h, 0, none⟩) 1 1]).run Tryz.prog W = .ok (.slice (some ⟨g7, 0, none⟩) (m + 1) cp7) W7 ∧ (XeL W7 (some ⟨g7, 0, none⟩) (l ++ [xeF e]) ∧ m + 1 ≤ cp7) ∧ Below W0.heap.size W0 W7) := fun oa v h W q => by
        rw [← hX] at q
        exact q.d (idF_size _) HM.out.1.ids HM.out.2.1 HM.out.2.2.1
      clear hX hE hq hW0 hb5 happ e0 e1 HC4
      go_region_held3 (fun W => W.cell? ⟨b5, 0, none⟩ = some (.string e.id) ∧ W.cell? ⟨b5, 1, none⟩ = some (.int .u8 (e.k.toNat : Int)) ∧ W.cell? ⟨b5, 2, none⟩ = some (.int .i64 e.off) ∧ W.cell? ⟨b5, 3, none⟩ = some (.int .i64 e.sz)) (first | exact HSK.out _ HRG.out.bel | exact HSK.out _ HRG.out.a.bel | exact HSK.out _ HRG.out.c.bel | exact HSK.out _ HRG.out.2 | exact hs0) (first
        | (go_at_call 18; refine (HIE2.out _).mono ?_; rintro e' wK ⟨rfl, bK⟩; first | (replace HRG : Hid (RgM _ _ _ _ _ _ wK) := HRG.out.call bK; clear bK) | (replace HRG : Hid (RgM _ _ _ _ _ _ wK) := HRG.out.a.call bK; clear bK))
        | (refine step_bd4 (by rfl) 91 (.tmp 33) (.tmp 35) (.tmp 37) (.tmp 39) (by rfl) (.agg E) (.int .u8 (e.k.toNat : Int)) (.int .i64 e.off) (.int .i64 e.sz) (.agg X) (by rfl) (by rfl) (by rfl) (by rfl) (HBE.out _) ?_)
        | (obtain ⟨vB, wB, hrB, hB⟩ := HRG.out.b HM.out.1 HM.out.2.1 HM.out.2.2.1 HM.out.2.2.2.1 HM.out.2.2.2.2
           refine step_appX (by rfl) (.tmp 28) (.tmp 29) 93 93 (by rfl) _ _ vB wB (by rfl) (by rfl) hrB ?_
           clear hrB; replace HRG : Hid (RgM _ _ _ _ _ _ wB) := hB; clear hB)
        | (obtain ⟨vB, wB, hrB, hB⟩ := HRG.out.a.b HM.out.1 HM.out.2.1 HM.out.2.2.1 HM.out.2.2.2.1 HM.out.2.2.2.2
           refine step_appX (by rfl) (.tmp 28) (.tmp 29) 93 93 (by rfl) _ _ vB wB (by rfl) (by rfl) hrB ?_
           clear hrB; replace HRG : Hid (RgM _ _ _ _ _ _ wB) := hB; clear hB)
        | (obtain ⟨g7, cp7, w7, hr7, hx7, hb7⟩ := HDD.out _ _ _ _ HRG.out
           refine step_appX (by rfl) (.tmp 30) (.tmp 41) 93 93 (by rfl) _ _ (.slice (some ⟨g7, 0, none⟩) (m + 1) cp7) w7 (by rfl) (by rfl) hr7 ?_
           clear hr7; replace HRG : Hid ((XeL w7 (some ⟨g7, 0, none⟩) (l ++ [xeF e]) ∧ m + 1 ≤ cp7) ∧ Below W0.heap.size W0 w7) := ⟨hx7, hb7⟩; clear hx7 hb7)
        | (obtain ⟨g7, cp7, w7, hr7, hx7, hb7⟩ := HDD.out _ _ _ _ HRG.out.c
           refine step_appX (by rfl) (.tmp 30) (.tmp 41) 93 93 (by rfl) _ _ (.slice (some ⟨g7, 0, none⟩) (m + 1) cp7) w7 (by rfl) (by rfl) hr7 ?_
           clear hr7; replace HRG : Hid ((XeL w7 (some ⟨g7, 0, none⟩) (l ++ [xeF e]) ∧ m + 1 ≤ cp7) ∧ Below W0.heap.size W0 w7) := ⟨hx7, hb7⟩; clear hx7 hb7)
        | fail)
      have HX7 : Hid (XeL w7 (some ⟨g7, 0, none⟩) (l ++ [xeF e]) ∧ m + 1 ≤ cp7 ∧ (l ++ [xeF e]).length = m + 1 ∧ m ≤ 65536) := ⟨HRG.out.1.1, HRG.out.1.2, by rw [List.length_append, HM.out.2.1]; rfl, HM.out.2.2.1⟩
      have H7 : Hid (InS w s ⟨#[]⟩ (some ⟨ge, oe, none⟩) n c L k a m cp l w7) := HB5.out.2.call HRG.out.2
      have f0 : w7.cell? ⟨w.heap.size, 0, none⟩ = some (.string s) := by rw [H7.out.bx.cell]; rfl
      clear hs0 HRG HM HDD HIE2 HSK HB5 HR
      go_wp2_with fail
      refine (HID.out _).mono ?_
      rintro e' w8 ⟨rfl, b8⟩
      have H8 : Hid (InS w s ⟨#[]⟩ (some ⟨ge, oe, none⟩) n c L k a m cp l w8) := H7.out.call b8
      have HX8 : Hid (XeL w8 (some ⟨g7, 0, none⟩) (l ++ [xeF e])) := HX7.out.1.below b8
      clear b8 H7 f0
      go_wp2_with fail
      refine (HBD.out _ _ _ _ _ HX8.out HX7.out.2.2.1 (.inr ⟨_, _, rfl⟩) HX7.out.2.1 (by have := HX7.out.2.2.2; omega)).mono ?_
      rintro e' w9 ⟨R9, rfl, _, b9⟩
      have H9 : Hid (InS w s ⟨#[]⟩ (some ⟨ge, oe, none⟩) n c L k a m cp l w9) := H8.out.call b9
      have HX9 : Hid (XeL w9 (some ⟨g7, 0, none⟩) (l ++ [xeF e])) := HX8.out.below b9
      clear b9 H8 HX8
      obtain ⟨B, hB⟩ : ∃ B, bE (l ++ [xeF e]) = B := ⟨_, rfl⟩
      rw [hB]
      have HB : Hid (bE (l ++ [xeF e]) = B) := hB
      clear hB
      by_cases h0 : B = 0
      · have HFT : Hid (l ++ [xeF e] = fitX (L.take (k + 1))) := by
          show _ = _
          rw [HF.out, ← H9.out.eq, fitS, if_pos (by rw [HB.out]; exact h0)]
        have HN : Hid (InS w s ⟨#[]⟩ (some ⟨ge, oe, none⟩) n c L (k + 1) (some ⟨g7, 0, none⟩) (m + 1) cp7 (l ++ [xeF e]) w9) := ⟨H9.out.bx, HX9.out, HFT.out, HX7.out.2.2.1, HX7.out.2.1, .inr ⟨_, _, rfl⟩, H9.out.bel⟩
        subst h0
        clear HB
        go_wp2
        go_roundw
        case rel => exact ⟨k + 1, _, m + 1, cp7, _, by go_num, by go_num, by omega, HN.out⟩
        case measure => simp [intOf]; omega
      · have HFT : Hid (l = fitX (L.take (k + 1))) := by
          show _ = _
          rw [HF.out, ← H9.out.eq, fitS, if_neg (by rw [HB.out]; exact h0)]
        have HN : Hid (InS w s ⟨#[]⟩ (some ⟨ge, oe, none⟩) n c L (k + 1) a m cp l w9) := ⟨H9.out.bx, H9.out.xs, HFT.out, H9.out.len, H9.out.cap, H9.out.ad, H9.out.bel⟩
        clear HB
        have hb0 : (B == 0) = false := by simpa using h0
        go_wp2
        go_roundw
        case rel => exact ⟨k + 1, _, _, _, _, rfl, by go_num, by omega, HN.out⟩
        case measure => simp [intOf]; omega
    · have hkz : ¬ (k : Int) < (n : Nat) := by omega
      have HE : Hid (l = fitX L) := by
        have := HR.out.eq
        rwa [List.take_of_length_le (by rw [HL.out.2]; omega)] at this
      have HS9 : Hid (m ≤ 65536) := HR.out.small.1
      clear happ
      go_wp2_with fail
      refine (HID.out _).mono ?_
      rintro e' w8 ⟨rfl, b8⟩
      have H8 : Hid (InS w s ⟨#[]⟩ a0 n c L k a m cp l w8) := HR.out.call b8
      clear b8 HR e0 e1
      go_wp2_with fail
      refine (HBD.out _ _ _ _ _ H8.out.xs H8.out.len H8.out.ad H8.out.cap (by have := HS9.out; omega)).mono ?_
      rintro e' w9 ⟨R9, rfl, hR9, b9⟩
      have H9 : Hid (InR s ⟨#[]⟩ L R9 ∧ Below w.heap.size w w9) := by
        refine ⟨⟨fun q => absurd rfl q, fun _ => ?_⟩, (H8.out.call b9).bel⟩
        obtain ⟨M, m1, m2, m3⟩ := hR9.2 H8.out.small.2
        exact ⟨M, by rw [← HE.out]; exact m1, idF_size s, m2, by rw [m3]; rfl⟩
      clear hR9 b9 H8
      go_wp2
      go_ret
      exact ⟨R9, rfl, H9.out.1, H9.out.2⟩
end Go.Proofs.YtbfoiocbmhhdbaaGreat
/- What Merge tells of indexes of unlike packs; the law's awake, before its walk. -/
namespace Go.Proofs.YtbfoiocbmhhdbaaGreat
open Go.RowKit
set_option linter.unusedSimpArgs false
set_option linter.unusedVariables false
open Classical in
theorem nodup_len {α : Type} : ∀ {l l' : List α}, l.Nodup → (∀ x ∈ l, x ∈ l') → l.length ≤ l'.length
  | [], _, _, _ => Nat.zero_le _
  | a :: l, l', hn, hs => by
    have ha := hs a (List.mem_cons_self ..)
    have h1 := List.nodup_cons.1 hn
    have ih := nodup_len (l := l) (l' := l'.erase a) h1.2 (fun x hx => (List.mem_erase_of_ne (fun e => h1.1 (by rw [← e]; exact hx))).2 (hs x (List.mem_cons_of_mem _ hx)))
    rw [List.length_erase_of_mem ha] at ih
    have := List.length_pos_of_mem ha
    simp
    omega
/-- All that the indexes tell. -/
def rwA (xs : List (ByteArray × List Xe)) : List Mr := xs.flatMap fun q => q.2.map fun e => ⟨q.1, e⟩
theorem Hld.bound {xs : List (ByteArray × List Xe)} {d : List Mr} (h : Hld xs d) : d.length ≤ (rwA xs).length := by
  refine nodup_len ?_ (fun r hr => ?_)
  · have := h.ap
    refine List.Pairwise.imp (fun {a b} hab e => ?_) this
    subst e
    exact absurd rfl hab
  · obtain ⟨q, h1, h2, h3⟩ := h.src r hr
    refine List.mem_flatMap.2 ⟨q, h1, List.mem_map.2 ⟨r.e, h3, ?_⟩⟩
    rw [h2]
theorem Ixs.take {ts : List ByteArray} {xs : List (ByteArray × List Xe)} (h : Ixs ts xs) (k : Nat) : Ixs (ts.take k) (xs.take k) := by
  refine ⟨by rw [List.length_take, List.length_take, h.len], fun i t q ht hq => ?_⟩
  rw [List.getElem?_take] at ht hq
  split at ht
  · rename_i hi
    rw [if_pos hi] at hq
    exact h.ix i t q ht hq
  · cases ht
theorem MgR.yesD {ts : List ByteArray} {xs : List (ByteArray × List Xe)} {e : Ending} (h : MgR ts e) (hx : Ixs ts xs) (hu : Unl xs) (hn : ts.length ≤ 4096) (hc : ∀ d, Hld xs d → d.length ≤ 1048576) :
    ∃ ps l, Mgd xs ps l ∧ OkM ps l ∧ e = .returned (.tuple #[.string ⟨(mxB ps l).toArray⟩, .int .i64 0]) := by
  rcases h with ⟨h, _⟩ | ⟨_, k, xs', t, ht, _, _, hno, _⟩ | ⟨_, k, xs', t, s, l, ht, hx', _, hi, ⟨q, hq, hqs⟩, _⟩ | ⟨_, xs', d, hx', _, hd, hl, _⟩ | ⟨_, xs', ps, l, hx', _, hm, hok, he⟩
  · omega
  · have hk := (List.getElem?_eq_some_iff.1 ht).1
    exact absurd (hx.ix k t (xs[k]'(by rw [← hx.len]; exact hk)) ht (List.getElem?_eq_getElem _)) (hno _ _)
  · have hk := (List.getElem?_eq_some_iff.1 ht).1
    have hkx : k < xs.length := by rw [← hx.len]; exact hk
    have hi2 := hx.ix k t xs[k] ht (List.getElem?_eq_getElem hkx)
    have h1 := hi.take
    have h2 := hi2.take
    have hs : s = xs[k].1 := h1.1.symm.trans h2.1
    obtain rfl := hx'.one (hx.take k)
    obtain ⟨j, hj⟩ := List.getElem?_of_mem hq
    rw [List.getElem?_take] at hj
    split at hj
    · rename_i hjk
      obtain ⟨hjl, hje⟩ := List.getElem?_eq_some_iff.1 hj
      exact absurd (by rw [hje, hqs, hs]) (List.pairwise_iff_getElem.1 hu j k hjl hkx hjk)
    · cases hj
  · obtain rfl := hx'.one hx
    have := hc d hd
    omega
  · obtain rfl := hx'.one hx
    exact ⟨ps, l, hm, hok, he⟩
theorem MgR.yes {ts : List ByteArray} {xs : List (ByteArray × List Xe)} {e : Ending} (h : MgR ts e) (hx : Ixs ts xs) (hu : Unl xs) (hn : ts.length ≤ 4096) (hc : (rwA xs).length ≤ 1048576) :
    ∃ ps l, Mgd xs ps l ∧ OkM ps l ∧ e = .returned (.tuple #[.string ⟨(mxB ps l).toArray⟩, .int .i64 0]) := h.yesD hx hu hn (fun d hd => Nat.le_trans hd.bound hc)
def nN : ByteArray := ⟨#[110]⟩
def nm2 : ByteArray := ⟨#[109]⟩
def s1 : ByteArray := ⟨#[1]⟩
def s2 : ByteArray := ⟨#[2]⟩
def eA : Xe := ⟨idF nN, 1, 4, 5⟩
def eB : Xe := ⟨idF nN, 1, 9, 5⟩
def eM : Xe := ⟨idF nm2, 2, 4, 1⟩
def awL : List Mr := [⟨idF s2, eM⟩, ⟨idF s1, eA⟩]
theorem fitA15 : fitX [⟨nN, 1, 4, 5⟩] = [eA] := by
  have : bE ([] ++ [eA]) = 0 := by decide +kernel
  show fitS [] eA = _
  unfold fitS
  rw [if_pos this]; rfl
theorem fitB15 : fitX [⟨nN, 1, 9, 5⟩, ⟨nm2, 2, 4, 1⟩] = [eB, eM] := by
  have h1 : bE ([] ++ [eB]) = 0 := by decide +kernel
  have h2 : bE ([eB] ++ [eM]) = 0 := by decide +kernel
  show fitS (fitS [] eB) eM = _
  have e1 : fitS [] eB = [eB] := by unfold fitS; rw [if_pos h1]; rfl
  rw [e1]
  unfold fitS
  rw [if_pos h2]; rfl
theorem aw_mgd {Ma Mb : List Xe} (ha : Ma.Perm [eA]) (hb : Mb.Perm [eB, eM]) : Mgd [(idF s2, Mb), (idF s1, Ma)] [idF s1, idF s2] awL where
  sums := fun p => by
    constructor
    · intro h
      rcases List.mem_cons.1 h with rfl | h
      · exact ⟨(idF s1, Ma), by simp, rfl⟩
      · rw [List.mem_singleton] at h; subst h; exact ⟨(idF s2, Mb), by simp, rfl⟩
    · rintro ⟨q, hq, rfl⟩
      rcases List.mem_cons.1 hq with rfl | hq
      · simp
      · rw [List.mem_singleton] at hq; subst hq; simp
  pri := by
    have : ltN (idF s1) (idF s2) = true := by decide +kernel
    exact List.pairwise_pair.2 this
  ri := by
    have : ltN eM.id eA.id = true := by decide +kernel
    exact List.pairwise_pair.2 this
  src := fun r hr => by
    rcases List.mem_cons.1 hr with rfl | hr
    · exact ⟨_, List.mem_cons_self .., rfl, hb.mem_iff.2 (by simp)⟩
    · rw [List.mem_singleton] at hr; subst hr
      exact ⟨(idF s1, Ma), by simp, rfl, ha.mem_iff.2 (by simp)⟩
  all := fun q hq e he => by
    have k1 : ltN (idF s2) (idF s1) = false := by decide +kernel
    rcases List.mem_cons.1 hq with rfl | hq
    · rcases List.mem_cons.1 (hb.mem_iff.1 he) with rfl | he
      · exact ⟨⟨idF s1, eA⟩, by simp [awL], rfl, k1⟩
      · rw [List.mem_singleton] at he; subst he
        exact ⟨⟨idF s2, eM⟩, by simp [awL], rfl, ltN_irr _⟩
    · rw [List.mem_singleton] at hq; subst hq
      have he2 := ha.mem_iff.1 he
      rw [List.mem_singleton] at he2; subst he2
      exact ⟨⟨idF s1, eA⟩, by simp [awL], rfl, ltN_irr _⟩
theorem aw_n : mfnd awL (idF nN) = some ⟨idF s1, eA⟩ := by kernel_rfl
theorem aw_m : mfnd awL (idF nm2) = some ⟨idF s2, eM⟩ := by kernel_rfl
end Go.Proofs.YtbfoiocbmhhdbaaGreat
/- MidxFound and MidxWithout, their mathematics: the first pack that has a name. -/
namespace Go.Proofs.YtbfoiocbmhhdbaaGreat
set_option linter.unusedSimpArgs false
set_option linter.unusedVariables false
theorem mfnd_fd {l : List Mr} (h : RiM l) (x : ByteArray) : mfnd l x = fdM l x := by
  cases hf : fdM l x with
  | some r =>
    obtain ⟨hr, hx⟩ := fdM_some hf
    obtain ⟨i, hi⟩ := List.getElem?_of_mem hr
    have hm : (l.map Mr.e)[i]? = some r.e := by rw [List.getElem?_map, hi]; rfl
    have h1 : ¬ i < cntN (l.map Mr.e) x := fun q => by
      have := (Rise.cnt h hm x).2 q
      rw [hx, ltN_irr] at this
      cases this
    have h2 : ¬ cntN (l.map Mr.e) x < i := fun q => by
      have hl : i < (l.map Mr.e).length := (List.getElem?_eq_some_iff.1 hm).1
      have hg : (l.map Mr.e)[cntN (l.map Mr.e) x]? = some ((l.map Mr.e)[cntN (l.map Mr.e) x]'(by omega)) := List.getElem?_eq_getElem (by omega)
      have h3 := Rise.cnt h hg x
      have h4 := (List.pairwise_iff_getElem.1 (show Rise (l.map Mr.e) from h)) _ _ (by omega) hl q
      rw [(List.getElem?_eq_some_iff.1 hm).2, hx] at h4
      have := h3.1 h4
      omega
    have he : cntN (l.map Mr.e) x = i := by omega
    rw [mfnd_at (r := r) (by rw [he]; exact hi), if_pos hx]
  | none =>
    have hn := fdM_none.1 hf
    unfold mfnd
    split
    · rename_i r hr
      rw [if_neg (hn r (List.mem_of_getElem? hr))]
    · rfl
/-- No index has the name; the row of the first pack that has it. -/
def NoN (xs : List (ByteArray × List Xe)) (x : ByteArray) : Prop := ∀ q ∈ xs, ∀ e ∈ q.2, e.id ≠ x
structure FrS (xs : List (ByteArray × List Xe)) (x : ByteArray) (r : Mr) : Prop where
  src : ∃ q ∈ xs, q.1 = r.p ∧ r.e ∈ q.2
  id : r.e.id = x
  fst : ∀ q ∈ xs, ∀ e ∈ q.2, e.id = x → ltN q.1 r.p = false
/-- What is the first so far, and with one index more. -/
inductive Bst (xs : List (ByteArray × List Xe)) (x : ByteArray) : Option Mr → Prop
  | no : NoN xs x → Bst xs x none
  | yes (r : Mr) : FrS xs x r → Bst xs x (some r)
def bstN (b : Option Mr) (s : ByteArray) : Option Xe → Option Mr
  | none => b
  | some e => match b with
    | none => some ⟨s, e⟩
    | some r => if ltN s r.p = true then some ⟨s, e⟩ else some r
theorem Bst.nil (x : ByteArray) : Bst [] x none := .no (fun q h => by cases h)
theorem Bst.snoc {xs : List (ByteArray × List Xe)} {x : ByteArray} {b : Option Mr} (h : Bst xs x b) (q : ByteArray × List Xe) : Bst (xs ++ [q]) x (bstN b q.1 (fnd q.2 x)) := by
  cases hf : fnd q.2 x with
  | none =>
    have hn := fnd_none.1 hf
    cases h with
    | no h => exact .no (fun p hp => by rcases List.mem_append.1 hp with k | k; exact h p k; rw [List.mem_singleton] at k; subst k; exact hn)
    | yes r h =>
      refine .yes r ⟨?_, h.id, fun p hp e he hx => ?_⟩
      · obtain ⟨p, h1, h2⟩ := h.src; exact ⟨p, List.mem_append_left _ h1, h2⟩
      · rcases List.mem_append.1 hp with k | k
        · exact h.fst p k e he hx
        · rw [List.mem_singleton] at k; subst k; exact absurd hx (hn e he)
  | some e =>
    obtain ⟨he, hx⟩ := fnd_some hf
    have hnew : (∀ p ∈ xs, ∀ e ∈ p.2, e.id = x → ltN p.1 q.1 = false) → FrS (xs ++ [q]) x ⟨q.1, e⟩ := fun k => by
      refine ⟨⟨q, List.mem_append_right _ (List.mem_singleton.2 rfl), rfl, he⟩, hx, fun p hp e' he' hx' => ?_⟩
      rcases List.mem_append.1 hp with m | m
      · exact k p m e' he' hx'
      · rw [List.mem_singleton] at m; subst m; exact ltN_irr _
    cases h with
    | no h => exact .yes _ (hnew (fun p hp e' he' hx' => absurd hx' (h p hp e' he')))
    | yes r h =>
      simp only [bstN]
      by_cases hlt : ltN q.1 r.p = true
      · rw [if_pos hlt]
        refine .yes _ (hnew (fun p hp e' he' hx' => ?_))
        cases hc : ltN p.1 q.1 with
        | false => rfl
        | true =>
          have := h.fst p hp e' he' hx'
          rw [ltN_trans hc hlt] at this
          cases this
      · rw [if_neg hlt]
        refine .yes r ⟨?_, h.id, fun p hp e' he' hx' => ?_⟩
        · obtain ⟨p, h1, h2⟩ := h.src; exact ⟨p, List.mem_append_left _ h1, h2⟩
        · rcases List.mem_append.1 hp with k | k
          · exact h.fst p k e' he' hx'
          · rw [List.mem_singleton] at k; subst k; simpa using hlt
theorem unl_one {xs : List (ByteArray × List Xe)} (hx : Unl xs) : ∀ q ∈ xs, ∀ q' ∈ xs, q.1 = q'.1 → q = q' := fun q hq q' hq' e => by
  obtain ⟨i, hi, rfl⟩ := List.getElem_of_mem hq
  obtain ⟨j, hj, rfl⟩ := List.getElem_of_mem hq'
  unfold Unl at hx
  rw [List.pairwise_iff_getElem] at hx
  rcases Nat.lt_trichotomy i j with k | k | k
  · exact absurd e (hx i j hi hj k)
  · subst k; rfl
  · exact absurd e.symm (hx j i hj hi k)
theorem aprt_one {l : List Xe} (h : Aprt l) {a b : Xe} (ha : a ∈ l) (hb : b ∈ l) (e : a.id = b.id) : a = b := by
  obtain ⟨i, hi⟩ := List.getElem?_of_mem ha
  obtain ⟨j, hj⟩ := List.getElem?_of_mem hb
  obtain rfl := apart_one h hi hj e
  rw [hi] at hj
  exact Option.some.inj hj
/-- A name is found in the merged index with the row of the first pack that has it. -/
theorem Bst.mgd {xs : List (ByteArray × List Xe)} {x : ByteArray} {b : Option Mr} (h : Bst xs x b) {ps : List ByteArray} {l : List Mr} (hm : Mgd xs ps l) (hu : Unl xs) (ha : ∀ q ∈ xs, Aprt q.2) : mfnd l x = b := by
  rw [mfnd_fd hm.ri]
  cases h with
  | no h =>
    rw [fdM_none]
    intro r hr e
    obtain ⟨q, h1, h2, h3⟩ := hm.src r hr
    exact h q h1 r.e h3 e
  | yes r h =>
    obtain ⟨q, h1, h2, h3⟩ := h.src
    obtain ⟨r', k1, k2, k3⟩ := hm.all q h1 r.e h3
    obtain ⟨q2, j1, j2, j3⟩ := hm.src r' k1
    have e1 : ltN r'.p r.p = false := by rw [← j2]; exact h.fst q2 j1 r'.e j3 (k2.trans h.id)
    have e2 : ltN r.p r'.p = false := by rw [← h2]; exact k3
    have e3 : r.p = r'.p := ltN_tri e2 e1
    obtain rfl := unl_one hu q h1 q2 j1 (by rw [h2, j2, e3])
    have e4 := aprt_one (ha q h1) h3 j3 k2.symm
    have e5 : r = r' := by
      obtain ⟨p, e⟩ := r
      obtain ⟨p', e'⟩ := r'
      simp only at e3 e4
      rw [e3, e4]
    rw [← h.id, e5]
    exact fdM_mem hm.ri.ap k1
/-- The names found are those of the rows. -/
theorem mgd_names {xs : List (ByteArray × List Xe)} {ps : List ByteArray} {l : List Mr} (hm : Mgd xs ps l) (x : ByteArray) : (∃ r ∈ l, r.e.id = x) ↔ ¬ NoN xs x := by
  constructor
  · rintro ⟨r, hr, hx⟩ h
    obtain ⟨q, h1, _, h3⟩ := hm.src r hr
    exact h q h1 r.e h3 hx
  · intro h
    refine Classical.byContradiction fun k => h (fun q hq e he hx => k ?_)
    obtain ⟨r, h1, h2, _⟩ := hm.all q hq e he
    exact ⟨r, h1, h2.trans hx⟩
/-- As many names were found as there are rows. -/
theorem mgd_count {xs : List (ByteArray × List Xe)} {ps : List ByteArray} {l : List Mr} (hm : Mgd xs ps l) {K : List ByteArray} (hK : K.Nodup) (hk : ∀ x, x ∈ K ↔ ∃ r ∈ l, r.e.id = x) : l.length = K.length := by
  have hn : (l.map (fun r => r.e.id)).Nodup := by
    rw [List.Nodup, List.pairwise_map]
    exact hm.ri.ap.imp (fun {a b} q e => q e)
  have := (perm_of_mem hK hn (fun x => by rw [hk x]; simp)).length_eq
  rw [List.length_map] at this
  omega
end Go.Proofs.YtbfoiocbmhhdbaaGreat
