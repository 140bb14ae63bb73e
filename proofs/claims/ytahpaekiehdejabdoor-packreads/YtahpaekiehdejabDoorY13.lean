import Derived.Test.YtahpaekiehdejabDoorY12
import Derived.StillTail
import Derived.Deep.Quiet
import Derived.Test.YtahpaekiehdejabDoorY3
/- A region that draws its order: its first operations quiet in a class of worlds, in whatever order; the last ones, which wait for all of these, one behind the other. -/
namespace Go.Proofs.YtahpaekiehdejabDoor
open Go.RowKit
set_option linter.unusedSimpArgs false
set_option linter.unusedVariables false
section
variable {P : Program} {ops : Array Oper} {md : Region.Mode} {C : World → Prop}
/-- So many operations of the head come up, in whatever order, then L holds. -/
def headQ (P : Program) (md : Region.Mode) (ops : Array Oper) (C : World → Prop) (n : Nat) (L : Array Bool → Act → Prop) : Nat → Array Bool → Act → Prop
  | 0, listed, a => L listed a
  | f + 1, listed, a => (∃ i, i ∈ Region.ready md ops listed) ∧ ∀ i, i ∈ Region.ready md ops listed → i < n ∧ qOp P ops C i (headQ P md ops C n L f (listed.setIfInBounds i true)) a
theorem any_of_headQ {n g : Nat} {L : Array Bool → Act → Prop} {R : Exit → Act → World → Prop} (hL : ∀ listed a w, C w → L listed a → wpAny P md ops R g listed a w) (f : Nat) :
    ∀ (listed : Array Bool) (a : Act) (w : World), C w → headQ P md ops C n L f listed a → wpAny P md ops R (f + g) listed a w := by
  induction f with
  | zero => intro listed a w hw h; rw [Nat.zero_add]; exact hL _ _ _ hw h
  | succ f ih =>
    intro listed a w hw h
    rw [Nat.add_right_comm]
    refine ⟨fun h0 => ?_, fun i hi => wpOp_of_qOp hw (fun a' w' hw' h' => ih _ a' w' hw' h') (h.2 i hi).2⟩
    obtain ⟨i, hi⟩ := h.1
    rw [h0] at hi; cases hi
/-- One of the head may be taken first. -/
theorem headQ_first {n i : Nat} {oi : Oper} {v : Value} {L : Array Bool → Act → Prop} (hi : ops[i]? = some oi) (hsel : ∀ (j : Nat) (o : Oper) cs b, ops[j]? = some o → o.op ≠ .select cs b)
    (hs : Region.sinkB md ops n = true) (hc : Region.chainB md ops n = true) (hn : n < ops.size) (hin : i < n) (hdone : ∀ listed a, L listed a → ∀ j, j ∈ Region.ready md ops listed → n ≤ j) (f : Nat) :
    ∀ (listed : Array Bool) (a : Act), HeadInv md ops n listed →
      (∀ j oj, ops[j]? = some oj → j ≠ i → listed.getD j true = false → (∀ e ∈ oj.after, Region.binds md e = true → e.on ≠ i) → oi.apart ops oj = true) →
      i ∈ Region.ready md ops listed → YieldsIn P ops C oi v a →
      headQ P md ops C n L f (listed.setIfInBounds i true) (a.put oi.dst v) → headQ P md ops C n L (f + 1) listed a := by
  induction f with
  | zero =>
    intro listed a inv _ hr hy H
    refine ⟨⟨i, hr⟩, fun j hj => ?_⟩
    have hun := (mem_ready.1 hr).1
    have hjn : j < n := Nat.lt_of_not_le fun h => tail_waits hs hc hn inv _ i rfl hin hun j h hj
    by_cases e : j = i
    · subst e; exact ⟨hjn, hy.qOp hi H⟩
    · have := hdone _ _ H j (ready_mono hj e); omega
  | succ f ih =>
    intro listed a inv hfree hr hy H
    refine ⟨⟨i, hr⟩, fun j hj => ?_⟩
    have hun := (mem_ready.1 hr).1
    have hjn : j < n := Nat.lt_of_not_le fun h => tail_waits hs hc hn inv _ i rfl hin hun j h hj
    refine ⟨hjn, ?_⟩
    by_cases e : j = i
    · subst e; exact hy.qOp hi H
    · obtain ⟨hjun, oj, hoj, hall⟩ := mem_ready.1 hj
      have hap : oi.apart ops oj = true := hfree j oj hoj e hjun (fun d hd hb he => by
        have h1 := hall d hd hb
        rw [he, getD_both hun] at h1; cases h1)
      have h2 := qOp_put hoj hap (fun cs b => hsel i oi cs b hi) (fun cs b => hsel j oj cs b hoj) hy (H.2 j (ready_mono hj e)).2
      refine qOp_mono (fun a' h3 => ih _ a' (inv.set hj hjn) (fun k ok hk hki hu hno => hfree k ok hk hki ?_ hno) (ready_mono hr (Ne.symm e)) h3.1 ?_) h2
      · by_cases ejk : j = k
        · subst ejk; exact hjun
        · rwa [getD_set_ne true ejk] at hu
      · rw [Array.setIfInBounds_comm _ _ e]; exact h3.2
theorem headQ_lex {n g : Nat} {Lq : Act → Prop} (hsel : Region.noSelect ops = true) (hs : Region.sinkB md ops n = true) (hc : Region.chainB md ops n = true) (hn : n < ops.size) (l : List Oper) :
    ∀ (k : Nat) (listed : Array Bool) (a : Act), (∀ j, j < l.length → l[j]? = ops[k + j]?) → k + l.length = n → HeadInv md ops n listed → Region.lexHead md ops g l.length k listed = true → wpQuiet P ops C Lq l a →
    headQ P md ops C n (fun listed' a' => Region.seqB md ops g n listed' = true ∧ Lq a') l.length listed a := by
  induction l with
  | nil =>
    intro k listed a _ hk _ hB h
    obtain rfl : k = n := by simpa using hk
    exact ⟨hB, h⟩
  | cons o l ih =>
    intro k listed a hl hk inv hB h
    rw [List.length_cons] at hk
    have h0 : ops[k]? = some o := by have := hl 0 (by simp); simpa using this.symm
    simp only [List.length_cons, Region.lexHead, Bool.and_eq_true] at hB
    have hr : k ∈ Region.ready md ops listed := by simpa using hB.1.1
    have hq : qOp P ops C k (wpQuiet P ops C Lq l) a := by unfold qOp; simp only [h0]; exact h
    obtain ⟨v, hy, hK⟩ := yieldsIn_of_qOp h0 hq
    refine headQ_first h0 (Region.noSelect_spec hsel) hs hc hn (by omega) (fun listed' a' hL => seqB_ready hL.1) l.length listed a inv (Region.free_spec h0 hB.1.2) hr hy ?_
    refine ih (k + 1) _ _ (fun j hj => ?_) (by omega) (inv.set hr (by omega)) hB.2 hK
    have := hl (j + 1) (by simp; omega)
    rw [List.getElem?_cons_succ] at this
    rw [this]; congr 1; omega
theorem wp_region_tail {id : Nat} {Q : Exit → Act → World → Prop} {a : Act} {w : World} {l : List Oper} (C : World → Prop) (n : Nat) (hm : P.follows .mixedOrders = true) (hB : Region.lexTailB .any l.toArray n = true) (hC : C w.drew)
    (h : wpQuiet P l.toArray C (fun a' => ∀ w', C w' → wpList P l.toArray Q (l.drop n) a' w') (l.take n) a) : (Code.region id l.toArray true).wp P Q a w := by
  simp only [Region.lexTailB, Bool.and_eq_true, decide_eq_true_eq] at hB
  obtain ⟨⟨⟨⟨hsel, hn⟩, hs⟩, hc⟩, hlex⟩ := hB
  have hn' : n < l.length := by simpa using hn
  have htl : (l.take n).length = n := by rw [List.length_take]; omega
  have hdl : (l.drop n).length = l.toArray.size - n := by simp
  have inv0 : HeadInv .any l.toArray n (Array.replicate l.toArray.size false) := by
    refine ⟨by simp, fun j oj _ hl => ?_, fun t _ ht => getD_in (by simpa using ht) (getD_replicate_false _ _)⟩
    rw [getD_replicate_false] at hl; cases hl
  have H := headQ_lex (P := P) (C := C) (md := .any) (g := l.toArray.size - n) hsel hs hc hn (l.take n) 0 _ a (fun j hj => by
    rw [htl] at hj
    rw [List.getElem?_take_of_lt hj]; simp) (by omega) inv0 (by rw [htl]; exact hlex) h
  have H2 := any_of_headQ (R := Q) (g := l.toArray.size - n) (fun listed a' w' hw' hL => by
    have := wpAny_of_seq (md := .any) (Q' := Q) (l.drop n) n listed a' w' (fun j => by simp [List.getElem?_drop]) (by rw [hdl]; exact hL.1) (hL.2 w' hw')
    rwa [hdl] at this) _ _ _ _ hC H
  refine wp_region_any hm ?_
  rwa [htl, show n + (l.toArray.size - n) = l.toArray.size from by omega] at H2
end
end Go.Proofs.YtahpaekiehdejabDoor
/- The document's own sum, cut into its loops; what lies in memory while a block's numbers are made. -/
namespace Go.Proofs.YtahpaekiehdejabDoor
open Go.RowKit
set_option linter.unusedSimpArgs false
set_option linter.unusedVariables false
/-- The bodies of a text's loops, the outer ones first. -/
def loopsOf : Code → List Code
  | .loop c => c :: loopsOf c
  | .seq a b => loopsOf a ++ loopsOf b
  | .block _ c => loopsOf c
  | .scope c => loopsOf c
  | .cond _ a b => loopsOf a ++ loopsOf b
  | _ => []
noncomputable def sumLoop (k : Nat) : Code := ((Tryd.f63.body.map loopsOf).getD []).getD k .skip
/-- k of a block's numbers are laid. -/
structure Sq (w : World) (X : Nat) (m : List Nat) (k : Nat) (C : Array Value) (wr : World) : Prop where
  blk : Blk wr X C 136
  grown : w.grownBy wr (some X)
  csz : C.size = 64
  got : ∀ j, j < k → C[j]? = some (c32 ((sch m 64).getD j 0))
  all : ∀ j, j < 64 → ∃ x : BitVec 32, C[j]? = some (c32 x)
theorem Sq.drew {w : World} {X : Nat} {m : List Nat} {k : Nat} {C : Array Value} {wr : World} (h : Sq w X m k C wr) : Sq w X m k C wr.drew :=
  ⟨h.blk, Lib.Hx.grownBy_drew h.grown, h.csz, h.got, h.all⟩
theorem Sq.drewN {w : World} {X : Nat} {m : List Nat} {k : Nat} {C : Array Value} {wr : World} (h : Sq w X m k C wr) (n : Nat) : Sq w X m k C (wr.drewN n) := by
  induction n with
  | zero => exact h
  | succ n ih => exact ih.drew
theorem Sq.put {w : World} {X : Nat} {m : List Nat} {k : Nat} {C : Array Value} {wr : World} (h : Sq w X m k C wr) (hk : k < 64) (x : BitVec 32) (hx : (sch m 64).getD k 0 = x) :
    Sq w X m (k + 1) (C.setIfInBounds k (c32 x)) (wr.setCell ⟨X, k, none⟩ (c32 x)) where
  blk := h.blk.set k _
  grown := Lib.grownBy_setB h.grown k _
  csz := by rw [Array.size_setIfInBounds]; exact h.csz
  got := fun j hj => by
    rw [Array.getElem?_setIfInBounds]
    split
    · rename_i e; subst e; rw [if_pos (by rw [h.csz]; exact hk), hx]
    · exact h.got j (by omega)
  all := fun j hj => by
    rw [Array.getElem?_setIfInBounds]
    split
    · exact ⟨x, by rw [if_pos (by rw [h.csz]; omega)]⟩
    · exact h.all j hj
theorem Sq.word {w : World} {X : Nat} {m : List Nat} {k : Nat} {C : Array Value} {wr : World} (h : Sq w X m k C wr) (j : Nat) (hj : j < k) :
    ∃ y : BitVec 32, wr.cell? ⟨X, j, none⟩ = some (c32 y) ∧ Hid (y = (sch m 64).getD j 0) := ⟨_, by rw [h.blk.cell, h.got j hj], rfl⟩
theorem Sq.whole {w : World} {X : Nat} {m : List Nat} {C : Array Value} {wr : World} (h : Sq w X m 64 C wr) : C = w64c m := by
  unfold w64c
  apply Array.ext_getElem?
  intro i
  by_cases hi : i < 64
  · rw [h.got i hi]
    simp only [List.getElem?_toArray, List.getElem?_map, List.getD]
    rw [List.getElem?_eq_getElem (by rw [sch_length]; exact hi)]
    rfl
  · rw [Array.getElem?_eq_none (by rw [h.csz]; omega), Array.getElem?_eq_none (by simp [sch_length]; omega)]
theorem Sq.start (w : World) (X : Nat) (m : List Nat) (Z : Array Value) (hZ : Z = Array.replicate 64 (c32 0)) (h : Blk w X Z 136) : Sq w X m 0 Z w :=
  ⟨h, World.grownBy.refl _ _, by rw [hZ]; simp, fun j hj => by omega, fun j hj => ⟨0, by rw [hZ]; simp [hj]⟩⟩
theorem drewN_more {w w' : World} {n : Nat} (h : ∃ m, w' = (w.drewN n).drewN m) : ∃ k, w' = w.drewN k := by
  obtain ⟨m, rfl⟩ := h
  refine ⟨n + m, ?_⟩
  simp [World.drewN, Nat.add_assoc]
theorem turn_int (x : BitVec 32) (k : Int) (w : World) (h0 : 1 ≤ k) (h1 : k ≤ 31) :
    Calls Tryd.prog 94 #[.int .u32 x.toNat, .int .i64 k] w fun e w' => e = .returned (.int .u32 (rr k.toNat x).toNat) ∧ ∃ nq, w' = w.drewN nq := by
  have h := turn_any x k.toNat w (by omega) (by omega)
  rwa [show ((k.toNat : Nat) : Int) = k from by omega] at h
/-- k of the numbers are added. -/
structure Aq (w : World) (HB : Nat) (h v : V8) (k : Nat) (g : V8) (wr : World) : Prop where
  st : Blk wr HB (v8c g) 134
  grown : w.grownBy wr (some HB)
  done : ∀ j, j < 8 → g.list.getD j 0 = if j < k then h.list.getD j 0 + v.list.getD j 0 else h.list.getD j 0
theorem Aq.drewN {w : World} {HB : Nat} {h v : V8} {k : Nat} {g : V8} {wr : World} (H : Aq w HB h v k g wr) (n : Nat) : Aq w HB h v k g (wr.drewN n) := ⟨H.st, H.grown.trans (grown_drewN wr n _), H.done⟩
theorem v8c_setk (g : V8) (k : Nat) (x : BitVec 32) (hk : k < 8) : (v8c g).setIfInBounds k (c32 x) = v8c (g.setk k x) := by
  apply Array.ext_getElem?
  intro i
  rw [Array.getElem?_setIfInBounds, v8c_size]
  by_cases hi : i < 8
  · rw [v8c_get _ _ hi, v8c_get _ _ hi, setk_get _ _ _ _ hi]
    split
    · rfl
    · rfl
  · rw [if_neg (by omega), Array.getElem?_eq_none (by rw [v8c_size]; omega), Array.getElem?_eq_none (by rw [v8c_size]; omega)]
theorem Aq.put {w : World} {HB : Nat} {h v : V8} {k : Nat} {g : V8} {wr : World} (H : Aq w HB h v k g wr) (hk : k < 8) :
    Aq w HB h v (k + 1) (g.setk k (g.list.getD k 0 + v.list.getD k 0)) (wr.setCell ⟨HB, k, none⟩ (c32 (g.list.getD k 0 + v.list.getD k 0))) where
  st := by rw [← v8c_setk _ _ _ hk]; exact H.st.set k _
  grown := Lib.grownBy_setB H.grown k _
  done := fun j hj => by
    rw [setk_get _ _ _ _ hj]
    split
    · rename_i e; subst e; rw [if_pos (by omega), H.done k hk, if_neg (by omega)]
    · rw [H.done j hj]
      by_cases e : j < k
      · rw [if_pos e, if_pos (by omega)]
      · rw [if_neg e, if_neg (by omega)]
theorem t1_raw (v : V8) (k x : BitVec 32) : ((((v.h.toNat : Int) + bits .xor .u32 (bits .xor .u32 ((rr 6 v.e).toNat : Int) ((rr 11 v.e).toNat : Int)) ((rr 25 v.e).toNat : Int) + bits .xor .u32 (bits .and .u32 (v.e.toNat : Int) (v.f.toNat : Int)) (bits .and .u32 (bits .xor .u32 IntKind.u32.max (v.e.toNat : Int)) (v.g.toNat : Int)) + (k.toNat : Int)) % 4294967296 + (x.toNat : Int)) % 4294967296) = ((v.t1 k x).toNat : Int) := by
  rw [ch_raw, xor32, xor32]
  simp only [V8.t1, bsE, BitVec.toNat_add]
  omega
theorem t2_raw (v : V8) : (bits .xor .u32 (bits .xor .u32 ((rr 2 v.a).toNat : Int) ((rr 13 v.a).toNat : Int)) ((rr 22 v.a).toNat : Int) + bits .xor .u32 (bits .xor .u32 (bits .and .u32 (v.a.toNat : Int) (v.b.toNat : Int)) (bits .and .u32 (v.a.toNat : Int) (v.c.toNat : Int))) (bits .and .u32 (v.b.toNat : Int) (v.c.toNat : Int))) % 4294967296 = (v.t2.toNat : Int) := by
  rw [mj_raw, xor32, xor32]
  simp only [V8.t2, bsA, BitVec.toNat_add]
  omega
theorem grown_setRow (w : World) (g : Nat) (C : Array Value) : w.grownBy (w.setRow g C) (some g) :=
  ⟨rfl, rfl, rfl, by simp, fun k _ hk => setRow_other w g k _ (fun e => hk (by rw [e]))⟩
theorem info_8v : (Tryd.prog.info? 134).map (·.size) = some 8 := by kernel_rfl
end Go.Proofs.YtahpaekiehdejabDoor
/- The first sixteen numbers of a block, in the document's own sum. -/
namespace Go.Proofs.YtahpaekiehdejabDoor
open Go.RowKit
set_option linter.unusedSimpArgs false
set_option linter.unusedVariables false
set_option maxHeartbeats 4000000 in
set_option maxRecDepth 100000 in
theorem loop3 (Q : Exit → Act → World → Prop) (g M cap at_ X : Nat) (m : List Nat) (Z : Array Value) (w : World) (q0 q1 q2 q3 q4 q5 q6 q11 q12 q13 q14 q15 q16 q17 q18 q19 q20 q21 q22 q23 q24 q25 q26 q27 q28 q29 q30 q31 q32 q33 q34 q35 q36 q37 q38 q39 q40 q41 q42 q43 q44 q45 q46 q47 q48 q49 q50 q51 q52 q53 q54 q55 q56 q57 q58 q59 q60 q61 q62 q63 q64 q65 q66 q67 q68 q69 q70 q71 q72 q73 q74 q75 q76 q77 q78 q79 q80 q81 q82 q83 q84 q85 q86 q87 q88 q89 q90 q91 q92 q93 q94 q95 q96 q97 q98 q99 q100 q101 q102 q103 q104 q105 q106 q107 q108 q109 q110 q111 q112 q113 q114 q115 q116 q117 q118 q119 q120 q121 q122 q123 q124 q125 q126 q127 q128 q129 q130 q131 q132 q133 q134 q135 q136 q137 q138 q139 q140 q141 q142 q143 q144 q145 q146 q147 q148 q149 q150 q151 q152 q153 q154 q155 q156 q157 q158 q159 q160 q161 q162 q163 q164 q165 q166 q167 q168 q169 q170 q171 q172 q173 q174 q175 q176 q177 q178 q179 q180 q181 q182 q183 q184 q185 q186 q187 q188 q189 q190 q191 q192 q193 q194 q195 q196 q197 q198 q199 q200 q201 q202 q203 q204 q205 q206 q207 q208 q209 q210 q211 q212 q213 q214 q215 q216 q217 q218 q219 q220 q221 q222 q223 q224 q225 q226 q227 q228 q229 q230 q231 q232 q233 q234 : Value)
    (hM : M ≤ cap) (hcap : cap ≤ 9223372036854775807) (ha : at_ + 64 ≤ M) (hgX : g ≠ X) (hcell : ∀ j, j < 64 → w.cell? ⟨g, at_ + j, none⟩ = some (.int .u8 (m.getD j 0 : Nat))) (hZ : Z = Array.replicate 64 (c32 0)) (hB : Blk w X Z 136)
    (hexit : ∀ (d10 d11 d47 d48 d49 d50 d51 d52 d53 d54 d55 d56 d57 d58 d59 d60 d61 d62 d63 d64 d65 d66 d67 d68 d69 d70 d71 d72 d73 d74 d75 d76 d77 d78 d79 d80 : Value) (C : Array Value) (w' : World), Sq w X m 16 C w' → Q (.exit 4) ⟨#[q0, q1, q2, q3, q4, q5, q6, .slice (some ⟨g, 0, none⟩) M cap, .int .i64 (at_ : Int), .pointer (some ⟨X, 0, none⟩), d10, d11, q12, q13, q14, q15, q16, q17, q18, q19, q20, q21, q22, q23, q24, q25, q26, q27, q28, q29, q30, q31, q32, q33, q34, q35, q36, q37, q38, q39, q40, q41, q42, q43, q44, q45, q46, d47, d48, d49, d50, d51, d52, d53, d54, d55, d56, d57, d58, d59, d60, d61, d62, d63, d64, d65, d66, d67, d68, d69, d70, d71, d72, d73, d74, d75, d76, d77, d78, d79, d80, q81, q82, q83, q84, q85, q86, q87, q88, q89, q90, q91, q92, q93, q94, q95, q96, q97, q98, q99, q100, q101, q102, q103, q104, q105, q106, q107, q108, q109, q110, q111, q112, q113, q114, q115, q116, q117, q118, q119, q120, q121, q122, q123, q124, q125, q126, q127, q128, q129, q130, q131, q132, q133, q134, q135, q136, q137, q138, q139, q140, q141, q142, q143, q144, q145, q146, q147, q148, q149, q150, q151, q152, q153, q154, q155, q156, q157, q158, q159, q160, q161, q162, q163, q164, q165, q166, q167, q168, q169, q170, q171, q172, q173, q174, q175, q176, q177, q178, q179, q180, q181, q182, q183, q184, q185, q186, q187, q188, q189, q190, q191, q192, q193, q194, q195, q196, q197, q198, q199, q200, q201, q202, q203, q204, q205, q206, q207, q208, q209, q210, q211, q212, q213, q214, q215, q216, q217, q218, q219, q220, q221, q222, q223, q224, q225, q226, q227, q228, q229, q230, q231, q232, q233, q234], []⟩ w') :
    Code.wp Tryd.prog (Code.loop (sumLoop 2)) Q ⟨#[q0, q1, q2, q3, q4, q5, q6, .slice (some ⟨g, 0, none⟩) M cap, .int .i64 (at_ : Int), .pointer (some ⟨X, 0, none⟩), .int .i64 0, q11, q12, q13, q14, q15, q16, q17, q18, q19, q20, q21, q22, q23, q24, q25, q26, q27, q28, q29, q30, q31, q32, q33, q34, q35, q36, q37, q38, q39, q40, q41, q42, q43, q44, q45, q46, q47, q48, q49, q50, q51, q52, q53, q54, q55, q56, q57, q58, q59, q60, q61, q62, q63, q64, q65, q66, q67, q68, q69, q70, q71, q72, q73, q74, q75, q76, q77, q78, q79, q80, q81, q82, q83, q84, q85, q86, q87, q88, q89, q90, q91, q92, q93, q94, q95, q96, q97, q98, q99, q100, q101, q102, q103, q104, q105, q106, q107, q108, q109, q110, q111, q112, q113, q114, q115, q116, q117, q118, q119, q120, q121, q122, q123, q124, q125, q126, q127, q128, q129, q130, q131, q132, q133, q134, q135, q136, q137, q138, q139, q140, q141, q142, q143, q144, q145, q146, q147, q148, q149, q150, q151, q152, q153, q154, q155, q156, q157, q158, q159, q160, q161, q162, q163, q164, q165, q166, q167, q168, q169, q170, q171, q172, q173, q174, q175, q176, q177, q178, q179, q180, q181, q182, q183, q184, q185, q186, q187, q188, q189, q190, q191, q192, q193, q194, q195, q196, q197, q198, q199, q200, q201, q202, q203, q204, q205, q206, q207, q208, q209, q210, q211, q212, q213, q214, q215, q216, q217, q218, q219, q220, q221, q222, q223, q224, q225, q226, q227, q228, q229, q230, q231, q232, q233, q234], []⟩ w := by
  have HE : Hid (∀ (d10 d11 d47 d48 d49 d50 d51 d52 d53 d54 d55 d56 d57 d58 d59 d60 d61 d62 d63 d64 d65 d66 d67 d68 d69 d70 d71 d72 d73 d74 d75 d76 d77 d78 d79 d80 : Value) (C : Array Value) (w' : World), Sq w X m 16 C w' → Q (.exit 4) ⟨#[q0, q1, q2, q3, q4, q5, q6, .slice (some ⟨g, 0, none⟩) M cap, .int .i64 (at_ : Int), .pointer (some ⟨X, 0, none⟩), d10, d11, q12, q13, q14, q15, q16, q17, q18, q19, q20, q21, q22, q23, q24, q25, q26, q27, q28, q29, q30, q31, q32, q33, q34, q35, q36, q37, q38, q39, q40, q41, q42, q43, q44, q45, q46, d47, d48, d49, d50, d51, d52, d53, d54, d55, d56, d57, d58, d59, d60, d61, d62, d63, d64, d65, d66, d67, d68, d69, d70, d71, d72, d73, d74, d75, d76, d77, d78, d79, d80, q81, q82, q83, q84, q85, q86, q87, q88, q89, q90, q91, q92, q93, q94, q95, q96, q97, q98, q99, q100, q101, q102, q103, q104, q105, q106, q107, q108, q109, q110, q111, q112, q113, q114, q115, q116, q117, q118, q119, q120, q121, q122, q123, q124, q125, q126, q127, q128, q129, q130, q131, q132, q133, q134, q135, q136, q137, q138, q139, q140, q141, q142, q143, q144, q145, q146, q147, q148, q149, q150, q151, q152, q153, q154, q155, q156, q157, q158, q159, q160, q161, q162, q163, q164, q165, q166, q167, q168, q169, q170, q171, q172, q173, q174, q175, q176, q177, q178, q179, q180, q181, q182, q183, q184, q185, q186, q187, q188, q189, q190, q191, q192, q193, q194, q195, q196, q197, q198, q199, q200, q201, q202, q203, q204, q205, q206, q207, q208, q209, q210, q211, q212, q213, q214, q215, q216, q217, q218, q219, q220, q221, q222, q223, q224, q225, q226, q227, q228, q229, q230, q231, q232, q233, q234], []⟩ w') := hexit
  have HC : Hid (∀ j, j < 64 → w.cell? ⟨g, at_ + j, none⟩ = some (.int .u8 (m.getD j 0 : Nat))) := hcell
  have HS : Hid (Sq w X m 0 Z w) := Sq.start w X m Z hZ hB
  clear hexit hcell hB hZ
  conv => arg 2; arg 1; whnf
  dsimp only
  go_loopw [10] (fun i wr => ∃ (k : Nat) (C : Array Value), k ≤ 16 ∧ i = .int .i64 k ∧ Hid (Sq w X m k C wr)) (fun i _ => 20 - (intOf i).toNat)
  case atStart => exact ⟨0, Z, by omega, rfl, HS⟩
  case round =>
    clear HS
    obtain ⟨k, C, hk, rfl, HR⟩ := hrel
    by_cases hlt : k < 16
    · have h0 := HR.out.grown.cell (HC.out (4 * k) (by omega)) (by simp; omega)
      have h1 := HR.out.grown.cell (HC.out (4 * k + 1) (by omega)) (by simp; omega)
      have h2 := HR.out.grown.cell (HC.out (4 * k + 2) (by omega)) (by simp; omega)
      have h3 := HR.out.grown.cell (HC.out (4 * k + 3) (by omega)) (by simp; omega)
      simp only [← Nat.add_assoc] at h0 h1 h2 h3
      obtain ⟨x0, hx0⟩ := HR.out.all k (by omega)
      have h4 : wr.cell? ⟨X, k, none⟩ = some (c32 x0) := by rw [HR.out.blk.cell, hx0]
      have h5 := HR.out.blk.frozen k
      clear hx0
      obtain ⟨m0, hm0⟩ : ∃ x, x = m.getD (4 * k) 0 := ⟨_, rfl⟩
      obtain ⟨m1, hm1⟩ : ∃ x, x = m.getD (4 * k + 1) 0 := ⟨_, rfl⟩
      obtain ⟨m2, hm2⟩ : ∃ x, x = m.getD (4 * k + 2) 0 := ⟨_, rfl⟩
      obtain ⟨m3, hm3⟩ : ∃ x, x = m.getD (4 * k + 3) 0 := ⟨_, rfl⟩
      rw [← hm0] at h0
      rw [← hm1] at h1
      rw [← hm2] at h2
      rw [← hm3] at h3
      have HM : Hid ((m0 = m.getD (4 * k) 0 ∧ m1 = m.getD (4 * k + 1) 0) ∧ m2 = m.getD (4 * k + 2) 0 ∧ m3 = m.getD (4 * k + 3) 0) := ⟨⟨hm0, hm1⟩, hm2, hm3⟩
      clear hm0 hm1 hm2 hm3
      go_wp2
      refine wp_region_tail (fun W => ∃ n, W = wr.drewN n) 24 (by kernel_rfl) (by kernel_rfl) ⟨1, rfl⟩ ?_
      simp only [List.take_succ_cons, List.take_zero, List.drop_succ_cons, List.drop_zero]
      repeat (go_big_quiet_step (fail))
      refine wpQuiet_nil ?_
      intro w9 hw9
      obtain ⟨nq, rfl⟩ := hw9
      go_wp2
      go_roundw
      case rel =>
        refine ⟨k + 1, C.setIfInBounds k (c32 (be4 m0 m1 m2 m3)), by omega, by go_num, ?_⟩
        rw [be4_raw]
        refine (HR.out.drewN nq).put (by omega) _ ?_
        rw [sch_get m k 64 (by omega), if_pos hlt, HM.out.1.1, HM.out.1.2, HM.out.2.1, HM.out.2.2, w16]
      case measure => simp [intOf]; omega
    · have hke : k = 16 := by omega
      subst hke
      clear hlt hk
      go_wp2
      exact HE.out _ _ _ _ _ _ _ _ _ _ _ _ _ _ _ _ _ _ _ _ _ _ _ _ _ _ _ _ _ _ _ _ _ _ _ _ C wr HR.out
end Go.Proofs.YtahpaekiehdejabDoor
/- The later numbers of a block, in the document's own sum. -/
namespace Go.Proofs.YtahpaekiehdejabDoor
open Go.RowKit
set_option linter.unusedSimpArgs false
set_option linter.unusedVariables false
set_option maxHeartbeats 4000000 in
set_option maxRecDepth 100000 in
theorem loop4 (Q : Exit → Act → World → Prop) (X : Nat) (m : List Nat) (C0 : Array Value) (w0 : World) (w : World) (q0 q1 q2 q3 q4 q5 q6 q7 q8 q10 q11 q13 q14 q15 q16 q17 q18 q19 q20 q21 q22 q23 q24 q25 q26 q27 q28 q29 q30 q31 q32 q33 q34 q35 q36 q37 q38 q39 q40 q41 q42 q43 q44 q45 q46 q47 q48 q49 q50 q51 q52 q53 q54 q55 q56 q57 q58 q59 q60 q61 q62 q63 q64 q65 q66 q67 q68 q69 q70 q71 q72 q73 q74 q75 q76 q77 q78 q79 q80 q81 q82 q83 q84 q85 q86 q87 q88 q89 q90 q91 q92 q93 q94 q95 q96 q97 q98 q99 q100 q101 q102 q103 q104 q105 q106 q107 q108 q109 q110 q111 q112 q113 q114 q115 q116 q117 q118 q119 q120 q121 q122 q123 q124 q125 q126 q127 q128 q129 q130 q131 q132 q133 q134 q135 q136 q137 q138 q139 q140 q141 q142 q143 q144 q145 q146 q147 q148 q149 q150 q151 q152 q153 q154 q155 q156 q157 q158 q159 q160 q161 q162 q163 q164 q165 q166 q167 q168 q169 q170 q171 q172 q173 q174 q175 q176 q177 q178 q179 q180 q181 q182 q183 q184 q185 q186 q187 q188 q189 q190 q191 q192 q193 q194 q195 q196 q197 q198 q199 q200 q201 q202 q203 q204 q205 q206 q207 q208 q209 q210 q211 q212 q213 q214 q215 q216 q217 q218 q219 q220 q221 q222 q223 q224 q225 q226 q227 q228 q229 q230 q231 q232 q233 q234 : Value)
    (hS : Sq w0 X m 16 C0 w)
    (hexit : ∀ (d12 d13 d14 d81 d82 d83 d84 d85 d86 d87 d88 d89 d90 d91 d92 d93 d94 d95 d96 d97 d98 d99 d100 d101 d102 d103 d104 d105 d106 d107 d108 d109 d110 d111 d112 d113 d114 d115 d116 d117 d118 d119 d120 d121 : Value) (C : Array Value) (w' : World), Sq w0 X m 64 C w' → Q (.exit 6) ⟨#[q0, q1, q2, q3, q4, q5, q6, q7, q8, .pointer (some ⟨X, 0, none⟩), q10, q11, d12, d13, d14, q15, q16, q17, q18, q19, q20, q21, q22, q23, q24, q25, q26, q27, q28, q29, q30, q31, q32, q33, q34, q35, q36, q37, q38, q39, q40, q41, q42, q43, q44, q45, q46, q47, q48, q49, q50, q51, q52, q53, q54, q55, q56, q57, q58, q59, q60, q61, q62, q63, q64, q65, q66, q67, q68, q69, q70, q71, q72, q73, q74, q75, q76, q77, q78, q79, q80, d81, d82, d83, d84, d85, d86, d87, d88, d89, d90, d91, d92, d93, d94, d95, d96, d97, d98, d99, d100, d101, d102, d103, d104, d105, d106, d107, d108, d109, d110, d111, d112, d113, d114, d115, d116, d117, d118, d119, d120, d121, q122, q123, q124, q125, q126, q127, q128, q129, q130, q131, q132, q133, q134, q135, q136, q137, q138, q139, q140, q141, q142, q143, q144, q145, q146, q147, q148, q149, q150, q151, q152, q153, q154, q155, q156, q157, q158, q159, q160, q161, q162, q163, q164, q165, q166, q167, q168, q169, q170, q171, q172, q173, q174, q175, q176, q177, q178, q179, q180, q181, q182, q183, q184, q185, q186, q187, q188, q189, q190, q191, q192, q193, q194, q195, q196, q197, q198, q199, q200, q201, q202, q203, q204, q205, q206, q207, q208, q209, q210, q211, q212, q213, q214, q215, q216, q217, q218, q219, q220, q221, q222, q223, q224, q225, q226, q227, q228, q229, q230, q231, q232, q233, q234], []⟩ w') :
    Code.wp Tryd.prog (Code.loop (sumLoop 3)) Q ⟨#[q0, q1, q2, q3, q4, q5, q6, q7, q8, .pointer (some ⟨X, 0, none⟩), q10, q11, .int .i64 16, q13, q14, q15, q16, q17, q18, q19, q20, q21, q22, q23, q24, q25, q26, q27, q28, q29, q30, q31, q32, q33, q34, q35, q36, q37, q38, q39, q40, q41, q42, q43, q44, q45, q46, q47, q48, q49, q50, q51, q52, q53, q54, q55, q56, q57, q58, q59, q60, q61, q62, q63, q64, q65, q66, q67, q68, q69, q70, q71, q72, q73, q74, q75, q76, q77, q78, q79, q80, q81, q82, q83, q84, q85, q86, q87, q88, q89, q90, q91, q92, q93, q94, q95, q96, q97, q98, q99, q100, q101, q102, q103, q104, q105, q106, q107, q108, q109, q110, q111, q112, q113, q114, q115, q116, q117, q118, q119, q120, q121, q122, q123, q124, q125, q126, q127, q128, q129, q130, q131, q132, q133, q134, q135, q136, q137, q138, q139, q140, q141, q142, q143, q144, q145, q146, q147, q148, q149, q150, q151, q152, q153, q154, q155, q156, q157, q158, q159, q160, q161, q162, q163, q164, q165, q166, q167, q168, q169, q170, q171, q172, q173, q174, q175, q176, q177, q178, q179, q180, q181, q182, q183, q184, q185, q186, q187, q188, q189, q190, q191, q192, q193, q194, q195, q196, q197, q198, q199, q200, q201, q202, q203, q204, q205, q206, q207, q208, q209, q210, q211, q212, q213, q214, q215, q216, q217, q218, q219, q220, q221, q222, q223, q224, q225, q226, q227, q228, q229, q230, q231, q232, q233, q234], []⟩ w := by
  have HE : Hid (∀ (d12 d13 d14 d81 d82 d83 d84 d85 d86 d87 d88 d89 d90 d91 d92 d93 d94 d95 d96 d97 d98 d99 d100 d101 d102 d103 d104 d105 d106 d107 d108 d109 d110 d111 d112 d113 d114 d115 d116 d117 d118 d119 d120 d121 : Value) (C : Array Value) (w' : World), Sq w0 X m 64 C w' → Q (.exit 6) ⟨#[q0, q1, q2, q3, q4, q5, q6, q7, q8, .pointer (some ⟨X, 0, none⟩), q10, q11, d12, d13, d14, q15, q16, q17, q18, q19, q20, q21, q22, q23, q24, q25, q26, q27, q28, q29, q30, q31, q32, q33, q34, q35, q36, q37, q38, q39, q40, q41, q42, q43, q44, q45, q46, q47, q48, q49, q50, q51, q52, q53, q54, q55, q56, q57, q58, q59, q60, q61, q62, q63, q64, q65, q66, q67, q68, q69, q70, q71, q72, q73, q74, q75, q76, q77, q78, q79, q80, d81, d82, d83, d84, d85, d86, d87, d88, d89, d90, d91, d92, d93, d94, d95, d96, d97, d98, d99, d100, d101, d102, d103, d104, d105, d106, d107, d108, d109, d110, d111, d112, d113, d114, d115, d116, d117, d118, d119, d120, d121, q122, q123, q124, q125, q126, q127, q128, q129, q130, q131, q132, q133, q134, q135, q136, q137, q138, q139, q140, q141, q142, q143, q144, q145, q146, q147, q148, q149, q150, q151, q152, q153, q154, q155, q156, q157, q158, q159, q160, q161, q162, q163, q164, q165, q166, q167, q168, q169, q170, q171, q172, q173, q174, q175, q176, q177, q178, q179, q180, q181, q182, q183, q184, q185, q186, q187, q188, q189, q190, q191, q192, q193, q194, q195, q196, q197, q198, q199, q200, q201, q202, q203, q204, q205, q206, q207, q208, q209, q210, q211, q212, q213, q214, q215, q216, q217, q218, q219, q220, q221, q222, q223, q224, q225, q226, q227, q228, q229, q230, q231, q232, q233, q234], []⟩ w') := hexit
  have HS : Hid (Sq w0 X m 16 C0 w) := hS
  clear hexit hS
  conv => arg 2; arg 1; whnf
  dsimp only
  go_loopw [12] (fun i wr => ∃ (k : Nat) (C : Array Value), 16 ≤ k ∧ k ≤ 64 ∧ i = .int .i64 k ∧ Hid (Sq w0 X m k C wr)) (fun i _ => 70 - (intOf i).toNat)
  case atStart => exact ⟨16, C0, by omega, by omega, rfl, HS⟩
  case round =>
    clear HS
    obtain ⟨k, C, hk0, hk, rfl, HR⟩ := hrel
    by_cases hlt : k < 64
    · obtain ⟨x0, hx0⟩ := HR.out.all k (by omega)
      have h4 : wr.cell? ⟨X, k, none⟩ = some (c32 x0) := by rw [HR.out.blk.cell, hx0]
      have h5 := HR.out.blk.frozen k
      obtain ⟨y0, h0, Y0⟩ := HR.out.word (k - 15) (by omega)
      obtain ⟨y1, h1, Y1⟩ := HR.out.word (k - 2) (by omega)
      obtain ⟨y2, h2, Y2⟩ := HR.out.word (k - 7) (by omega)
      obtain ⟨y3, h3, Y3⟩ := HR.out.word (k - 16) (by omega)
      clear hx0
      have e0 : ((k : Int) - 15).toNat = k - 15 := by omega
      have e1 : ((k : Int) - 2).toNat = k - 2 := by omega
      have e2 : ((k : Int) - 7).toNat = k - 7 := by omega
      have e3 : ((k : Int) - 16).toNat = k - 16 := by omega
      go_wp2
      refine wp_region_tail (fun W => ∃ n, W = wr.drewN n) 29 (by kernel_rfl) (by kernel_rfl) ⟨1, rfl⟩ ?_
      simp only [List.take_succ_cons, List.take_zero, List.drop_succ_cons, List.drop_zero]
      repeat (go_big_quiet_step ((go_at_call 94; exact (turn_int _ _ _ (by omega) (by omega)).mono (fun _ _ h => ⟨h.1, drewN_more h.2⟩))))
      refine wpQuiet_nil ?_
      intro w9 hw9
      obtain ⟨nq, rfl⟩ := hw9
      go_wp2
      go_roundw
      case rel =>
        refine ⟨k + 1, C.setIfInBounds k (c32 (sgH y1 + y2 + sgL y0 + y3)), by omega, by omega, by go_num, ?_⟩
        rw [wn_raw]
        refine (HR.out.drewN _).put hlt _ ?_
        rw [sch_get m k 64 hlt, if_neg (by omega), wnext, Y0.out, Y1.out, Y2.out, Y3.out]
        simp only [sch_get m (k - 2) 64 (by omega), sch_get m (k - 7) 64 (by omega), sch_get m (k - 15) 64 (by omega), sch_get m (k - 16) 64 (by omega), sch_get m (k - 2) k (by omega), sch_get m (k - 7) k (by omega), sch_get m (k - 15) k (by omega), sch_get m (k - 16) k (by omega)]
      case measure => simp [intOf]; omega
    · have hke : k = 64 := by omega
      subst hke
      clear hlt hk hk0
      go_wp2
      exact HE.out _ _ _ _ _ _ _ _ _ _ _ _ _ _ _ _ _ _ _ _ _ _ _ _ _ _ _ _ _ _ _ _ _ _ _ _ _ _ _ _ _ _ _ _ C wr HR.out
end Go.Proofs.YtahpaekiehdejabDoor
/- The rounds, in the document's own sum. -/
namespace Go.Proofs.YtahpaekiehdejabDoor
open Go.RowKit
set_option linter.unusedSimpArgs false
set_option linter.unusedVariables false
set_option maxHeartbeats 4000000 in
set_option maxRecDepth 100000 in
theorem loop5 (Q : Exit → Act → World → Prop) (KB X V : Nat) (m : List Nat) (v0 : V8) (w : World) (q0 q1 q2 q3 q4 q6 q7 q8 q10 q11 q12 q13 q14 q17 q18 q19 q20 q21 q22 q23 q24 q25 q26 q27 q28 q29 q30 q31 q32 q33 q34 q35 q36 q37 q38 q39 q40 q41 q42 q43 q44 q45 q46 q47 q48 q49 q50 q51 q52 q53 q54 q55 q56 q57 q58 q59 q60 q61 q62 q63 q64 q65 q66 q67 q68 q69 q70 q71 q72 q73 q74 q75 q76 q77 q78 q79 q80 q81 q82 q83 q84 q85 q86 q87 q88 q89 q90 q91 q92 q93 q94 q95 q96 q97 q98 q99 q100 q101 q102 q103 q104 q105 q106 q107 q108 q109 q110 q111 q112 q113 q114 q115 q116 q117 q118 q119 q120 q121 q122 q123 q124 q125 q126 q127 q128 q129 q130 q131 q132 q133 q134 q135 q136 q137 q138 q139 q140 q141 q142 q143 q144 q145 q146 q147 q148 q149 q150 q151 q152 q153 q154 q155 q156 q157 q158 q159 q160 q161 q162 q163 q164 q165 q166 q167 q168 q169 q170 q171 q172 q173 q174 q175 q176 q177 q178 q179 q180 q181 q182 q183 q184 q185 q186 q187 q188 q189 q190 q191 q192 q193 q194 q195 q196 q197 q198 q199 q200 q201 q202 q203 q204 q205 q206 q207 q208 q209 q210 q211 q212 q213 q214 q215 q216 q217 q218 q219 q220 q221 q222 q223 q224 q225 q226 q227 q228 q229 q230 q231 q232 q233 q234 : Value)
    (hV : Blk w V (v8c v0) 134) (hX : Blk w X (w64c m) 136) (hK : ∀ t, t < 64 → w.cell? ⟨KB, t, none⟩ = some (c32 (KT t))) (hXV : X ≠ V) (hKV : KB ≠ V)
    (hexit : ∀ (d16 d17 d18 d19 d20 d123 d124 d125 d126 d127 d128 d129 d130 d131 d132 d133 d134 d135 d136 d137 d138 d139 d140 d141 d142 d143 d144 d145 d146 d147 d148 d149 d150 d151 d152 d153 d154 d155 d156 d157 d158 d159 d160 d161 d162 d163 d164 d165 d166 d167 d168 d169 d170 d171 d172 d173 d174 d175 d176 d177 d178 d179 d180 d181 d182 d183 d184 d185 d186 d187 d188 d189 d190 d191 d192 d193 d194 d195 d196 d197 d198 d199 d200 d201 d202 d203 d204 : Value) (w' : World), Blk w' V (v8c (rds m v0 64)) 134 ∧ w.grownBy w' (some V) → Q (.exit 8) ⟨#[q0, q1, q2, q3, q4, .pointer (some ⟨KB, 0, none⟩), q6, q7, q8, .pointer (some ⟨X, 0, none⟩), q10, q11, q12, q13, q14, .pointer (some ⟨V, 0, none⟩), d16, d17, d18, d19, d20, q21, q22, q23, q24, q25, q26, q27, q28, q29, q30, q31, q32, q33, q34, q35, q36, q37, q38, q39, q40, q41, q42, q43, q44, q45, q46, q47, q48, q49, q50, q51, q52, q53, q54, q55, q56, q57, q58, q59, q60, q61, q62, q63, q64, q65, q66, q67, q68, q69, q70, q71, q72, q73, q74, q75, q76, q77, q78, q79, q80, q81, q82, q83, q84, q85, q86, q87, q88, q89, q90, q91, q92, q93, q94, q95, q96, q97, q98, q99, q100, q101, q102, q103, q104, q105, q106, q107, q108, q109, q110, q111, q112, q113, q114, q115, q116, q117, q118, q119, q120, q121, q122, d123, d124, d125, d126, d127, d128, d129, d130, d131, d132, d133, d134, d135, d136, d137, d138, d139, d140, d141, d142, d143, d144, d145, d146, d147, d148, d149, d150, d151, d152, d153, d154, d155, d156, d157, d158, d159, d160, d161, d162, d163, d164, d165, d166, d167, d168, d169, d170, d171, d172, d173, d174, d175, d176, d177, d178, d179, d180, d181, d182, d183, d184, d185, d186, d187, d188, d189, d190, d191, d192, d193, d194, d195, d196, d197, d198, d199, d200, d201, d202, d203, d204, q205, q206, q207, q208, q209, q210, q211, q212, q213, q214, q215, q216, q217, q218, q219, q220, q221, q222, q223, q224, q225, q226, q227, q228, q229, q230, q231, q232, q233, q234], []⟩ w') :
    Code.wp Tryd.prog (Code.loop (sumLoop 4)) Q ⟨#[q0, q1, q2, q3, q4, .pointer (some ⟨KB, 0, none⟩), q6, q7, q8, .pointer (some ⟨X, 0, none⟩), q10, q11, q12, q13, q14, .pointer (some ⟨V, 0, none⟩), .int .i64 0, q17, q18, q19, q20, q21, q22, q23, q24, q25, q26, q27, q28, q29, q30, q31, q32, q33, q34, q35, q36, q37, q38, q39, q40, q41, q42, q43, q44, q45, q46, q47, q48, q49, q50, q51, q52, q53, q54, q55, q56, q57, q58, q59, q60, q61, q62, q63, q64, q65, q66, q67, q68, q69, q70, q71, q72, q73, q74, q75, q76, q77, q78, q79, q80, q81, q82, q83, q84, q85, q86, q87, q88, q89, q90, q91, q92, q93, q94, q95, q96, q97, q98, q99, q100, q101, q102, q103, q104, q105, q106, q107, q108, q109, q110, q111, q112, q113, q114, q115, q116, q117, q118, q119, q120, q121, q122, q123, q124, q125, q126, q127, q128, q129, q130, q131, q132, q133, q134, q135, q136, q137, q138, q139, q140, q141, q142, q143, q144, q145, q146, q147, q148, q149, q150, q151, q152, q153, q154, q155, q156, q157, q158, q159, q160, q161, q162, q163, q164, q165, q166, q167, q168, q169, q170, q171, q172, q173, q174, q175, q176, q177, q178, q179, q180, q181, q182, q183, q184, q185, q186, q187, q188, q189, q190, q191, q192, q193, q194, q195, q196, q197, q198, q199, q200, q201, q202, q203, q204, q205, q206, q207, q208, q209, q210, q211, q212, q213, q214, q215, q216, q217, q218, q219, q220, q221, q222, q223, q224, q225, q226, q227, q228, q229, q230, q231, q232, q233, q234], []⟩ w := by
  have HE : Hid (∀ (d16 d17 d18 d19 d20 d123 d124 d125 d126 d127 d128 d129 d130 d131 d132 d133 d134 d135 d136 d137 d138 d139 d140 d141 d142 d143 d144 d145 d146 d147 d148 d149 d150 d151 d152 d153 d154 d155 d156 d157 d158 d159 d160 d161 d162 d163 d164 d165 d166 d167 d168 d169 d170 d171 d172 d173 d174 d175 d176 d177 d178 d179 d180 d181 d182 d183 d184 d185 d186 d187 d188 d189 d190 d191 d192 d193 d194 d195 d196 d197 d198 d199 d200 d201 d202 d203 d204 : Value) (w' : World), Blk w' V (v8c (rds m v0 64)) 134 ∧ w.grownBy w' (some V) → Q (.exit 8) ⟨#[q0, q1, q2, q3, q4, .pointer (some ⟨KB, 0, none⟩), q6, q7, q8, .pointer (some ⟨X, 0, none⟩), q10, q11, q12, q13, q14, .pointer (some ⟨V, 0, none⟩), d16, d17, d18, d19, d20, q21, q22, q23, q24, q25, q26, q27, q28, q29, q30, q31, q32, q33, q34, q35, q36, q37, q38, q39, q40, q41, q42, q43, q44, q45, q46, q47, q48, q49, q50, q51, q52, q53, q54, q55, q56, q57, q58, q59, q60, q61, q62, q63, q64, q65, q66, q67, q68, q69, q70, q71, q72, q73, q74, q75, q76, q77, q78, q79, q80, q81, q82, q83, q84, q85, q86, q87, q88, q89, q90, q91, q92, q93, q94, q95, q96, q97, q98, q99, q100, q101, q102, q103, q104, q105, q106, q107, q108, q109, q110, q111, q112, q113, q114, q115, q116, q117, q118, q119, q120, q121, q122, d123, d124, d125, d126, d127, d128, d129, d130, d131, d132, d133, d134, d135, d136, d137, d138, d139, d140, d141, d142, d143, d144, d145, d146, d147, d148, d149, d150, d151, d152, d153, d154, d155, d156, d157, d158, d159, d160, d161, d162, d163, d164, d165, d166, d167, d168, d169, d170, d171, d172, d173, d174, d175, d176, d177, d178, d179, d180, d181, d182, d183, d184, d185, d186, d187, d188, d189, d190, d191, d192, d193, d194, d195, d196, d197, d198, d199, d200, d201, d202, d203, d204, q205, q206, q207, q208, q209, q210, q211, q212, q213, q214, q215, q216, q217, q218, q219, q220, q221, q222, q223, q224, q225, q226, q227, q228, q229, q230, q231, q232, q233, q234], []⟩ w') := hexit
  have HS : Hid (Blk w V (v8c (rds m v0 0)) 134 ∧ w.grownBy w (some V)) := ⟨hV, World.grownBy.refl _ _⟩
  have HX : Hid (Blk w X (w64c m) 136) := hX
  have HK : Hid (∀ t, t < 64 → w.cell? ⟨KB, t, none⟩ = some (c32 (KT t))) := hK
  have hsg : IntKind.u32.signed = false := rfl
  clear hexit hV hX hK
  conv => arg 2; arg 1; whnf
  dsimp only
  go_loopw [16] (fun i wr => ∃ (k : Nat), k ≤ 64 ∧ i = .int .i64 k ∧ Hid (Blk wr V (v8c (rds m v0 k)) 134 ∧ w.grownBy wr (some V))) (fun i _ => 70 - (intOf i).toNat)
  case atStart => exact ⟨0, by omega, rfl, HS⟩
  case round =>
    clear HS
    obtain ⟨k, hk, rfl, HR⟩ := hrel
    by_cases hlt : k < 64
    · obtain ⟨v, hv⟩ : ∃ v, v = rds m v0 k := ⟨_, rfl⟩
      have hVk : Blk wr V (v8c v) 134 := by rw [hv]; exact HR.out.1
      have HVk : Hid (Blk wr V (v8c v) 134) := hVk
      have HV : Hid (v = rds m v0 k) := hv
      have a0 := hVk.cell 0
      have a1 := hVk.cell 1
      have a2 := hVk.cell 2
      have a3 := hVk.cell 3
      have a4 := hVk.cell 4
      have a5 := hVk.cell 5
      have a6 := hVk.cell 6
      have a7 := hVk.cell 7
      simp [v8c] at a0 a1 a2 a3 a4 a5 a6 a7
      obtain ⟨x, hx⟩ : ∃ x, x = wt m k := ⟨_, rfl⟩
      obtain ⟨kt, hkt⟩ : ∃ x, x = KT k := ⟨_, rfl⟩
      have hxc : wr.cell? ⟨X, k, none⟩ = some (c32 x) := by rw [HR.out.2.cell (v := c32 x) (by rw [HX.out.cell, w64c_get m k hlt, hx]) (by simp; exact hXV)]
      have hkc : wr.cell? ⟨KB, k, none⟩ = some (c32 kt) := by rw [HR.out.2.cell (v := c32 kt) (by rw [HK.out k hlt, hkt]) (by simp; exact hKV)]
      have HX2 : Hid (x = wt m k ∧ kt = KT k) := ⟨hx, hkt⟩
      clear hv hVk hx hkt
      go_wp2
      go_quiet ((go_at_call 94; exact (turn_int _ _ _ (by omega) (by omega)).mono (fun _ _ h => ⟨h.1, drewN_more h.2⟩)))
      rw [t1_raw]
      obtain ⟨t1, ht1⟩ : ∃ t1, t1 = v.t1 kt x := ⟨_, rfl⟩
      rw [← ht1]
      have HT1 : Hid (t1 = v.t1 kt x) := ht1
      clear ht1 hxc hkc
      obtain ⟨w2, hw2⟩ : ∃ w2, w2 = wr.drewN nq := ⟨_, rfl⟩
      rw [← hw2]
      have HVk2 : Hid (Blk w2 V (v8c v) 134) := by rw [hw2]; exact HVk.out
      have HG2 : Hid (wr.grownBy w2 (some V)) := by rw [hw2]; exact grown_drewN wr nq _
      clear hw2 a0 a1 a2 a3 a4 a5 a6 a7
      have a0 := HVk2.out.cell 0
      have a1 := HVk2.out.cell 1
      have a2 := HVk2.out.cell 2
      have a3 := HVk2.out.cell 3
      have a4 := HVk2.out.cell 4
      have a5 := HVk2.out.cell 5
      have a6 := HVk2.out.cell 6
      simp [v8c] at a0 a1 a2 a3 a4 a5 a6
      go_wp2
      go_quiet ((go_at_call 94; exact (turn_int _ _ _ (by omega) (by omega)).mono (fun _ _ h => ⟨h.1, drewN_more h.2⟩)))
      rw [t2_raw]
      obtain ⟨t2, ht2⟩ : ∃ t2, t2 = v.t2 := ⟨_, rfl⟩
      rw [← ht2]
      have HT2 : Hid (t2 = v.t2) := ht2
      clear ht2
      go_wp2_with (refine wpList_store_row rfl 134 (.tmp 15) (.tmp 204) rfl V _ rfl rfl 134 (v8c v) (by exact HVk2.out) (by exact info_8v) rfl (by simp [Value.oneCell']) ?_)
      rw [add32, add32]
      go_roundw
      case rel =>
        refine ⟨k + 1, by omega, by go_num, ?_, ?_⟩
        · have e : rds m v0 (k + 1) = v.rnd kt x := by rw [HX2.out.1, HX2.out.2, HV.out]; rfl
          rw [e, HT1.out, HT2.out]
          exact setRow_heap _ _ (v8c v) _ _ _ (by exact HVk2.out)
        · exact ((HR.out.2.trans HG2.out).trans (grown_drewN w2 _ _)).trans (grown_setRow _ _ _)
      case measure => simp [intOf]; omega
    · have hke : k = 64 := by omega
      subst hke
      clear hlt hk
      go_wp2
      exact HE.out _ _ _ _ _ _ _ _ _ _ _ _ _ _ _ _ _ _ _ _ _ _ _ _ _ _ _ _ _ _ _ _ _ _ _ _ _ _ _ _ _ _ _ _ _ _ _ _ _ _ _ _ _ _ _ _ _ _ _ _ _ _ _ _ _ _ _ _ _ _ _ _ _ _ _ _ _ _ _ _ _ _ _ _ _ _ _ wr HR.out
end Go.Proofs.YtahpaekiehdejabDoor
