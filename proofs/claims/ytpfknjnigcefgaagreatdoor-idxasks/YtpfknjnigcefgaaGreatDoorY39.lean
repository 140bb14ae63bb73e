import Derived.Test.YtpfknjnigcefgaaGreatDoorY38
import Derived.Test.YtpfknjnigcefgaaGreatDoorY16
import Derived.Test.YtpfknjnigcefgaaGreatDoorY4
/- The eight numbers as bytes, in the document's own sum. -/
namespace Go.Proofs.YtpfknjnigcefgaaGreatDoor
open Go.RowKit
set_option linter.unusedSimpArgs false
set_option linter.unusedVariables false
set_option maxHeartbeats 4000000 in
set_option maxRecDepth 100000 in
theorem loop7 (Q : Exit → Act → World → Prop) (HB D : Nat) (v : V8) (Z : Array Value) (w : World) (q0 q1 q2 q3 q5 q6 q7 q8 q9 q10 q11 q12 q13 q14 q15 q16 q17 q18 q19 q20 q21 q24 q25 q26 q27 q28 q29 q30 q31 q32 q33 q34 q35 q36 q37 q38 q39 q40 q41 q42 q43 q44 q45 q46 q47 q48 q49 q50 q51 q52 q53 q54 q55 q56 q57 q58 q59 q60 q61 q62 q63 q64 q65 q66 q67 q68 q69 q70 q71 q72 q73 q74 q75 q76 q77 q78 q79 q80 q81 q82 q83 q84 q85 q86 q87 q88 q89 q90 q91 q92 q93 q94 q95 q96 q97 q98 q99 q100 q101 q102 q103 q104 q105 q106 q107 q108 q109 q110 q111 q112 q113 q114 q115 q116 q117 q118 q119 q120 q121 q122 q123 q124 q125 q126 q127 q128 q129 q130 q131 q132 q133 q134 q135 q136 q137 q138 q139 q140 q141 q142 q143 q144 q145 q146 q147 q148 q149 q150 q151 q152 q153 q154 q155 q156 q157 q158 q159 q160 q161 q162 q163 q164 q165 q166 q167 q168 q169 q170 q171 q172 q173 q174 q175 q176 q177 q178 q179 q180 q181 q182 q183 q184 q185 q186 q187 q188 q189 q190 q191 q192 q193 q194 q195 q196 q197 q198 q199 q200 q201 q202 q203 q204 q205 q206 q207 q208 q209 q210 q211 q212 q213 q214 q215 q216 q217 q218 q219 q220 q221 q222 q223 q224 q225 q226 q227 q228 q229 q230 q231 q232 q233 q234 : Value)
    (hH : Blk w HB (v8c v) 98) (hZ : Z = Array.replicate 32 (.int .u8 0)) (hD : Blk w D Z 23) (hHD : HB ≠ D)
    (hexit : ∀ (d23 d218 d219 d220 d221 d222 d223 d224 d225 d226 d227 d228 d229 d230 d231 d232 d233 : Value) (w' : World), Blk w' D (bvc (outB v)).toArray 23 ∧ w.grownBy w' (some D) → Q (.exit 12) ⟨#[q0, q1, q2, q3, .pointer (some ⟨HB, 0, none⟩), q5, q6, q7, q8, q9, q10, q11, q12, q13, q14, q15, q16, q17, q18, q19, q20, q21, .pointer (some ⟨D, 0, none⟩), d23, q24, q25, q26, q27, q28, q29, q30, q31, q32, q33, q34, q35, q36, q37, q38, q39, q40, q41, q42, q43, q44, q45, q46, q47, q48, q49, q50, q51, q52, q53, q54, q55, q56, q57, q58, q59, q60, q61, q62, q63, q64, q65, q66, q67, q68, q69, q70, q71, q72, q73, q74, q75, q76, q77, q78, q79, q80, q81, q82, q83, q84, q85, q86, q87, q88, q89, q90, q91, q92, q93, q94, q95, q96, q97, q98, q99, q100, q101, q102, q103, q104, q105, q106, q107, q108, q109, q110, q111, q112, q113, q114, q115, q116, q117, q118, q119, q120, q121, q122, q123, q124, q125, q126, q127, q128, q129, q130, q131, q132, q133, q134, q135, q136, q137, q138, q139, q140, q141, q142, q143, q144, q145, q146, q147, q148, q149, q150, q151, q152, q153, q154, q155, q156, q157, q158, q159, q160, q161, q162, q163, q164, q165, q166, q167, q168, q169, q170, q171, q172, q173, q174, q175, q176, q177, q178, q179, q180, q181, q182, q183, q184, q185, q186, q187, q188, q189, q190, q191, q192, q193, q194, q195, q196, q197, q198, q199, q200, q201, q202, q203, q204, q205, q206, q207, q208, q209, q210, q211, q212, q213, q214, q215, q216, q217, d218, d219, d220, d221, d222, d223, d224, d225, d226, d227, d228, d229, d230, d231, d232, d233, q234], []⟩ w') :
    Code.wp Tryz.prog (Code.loop (sumLoop 6)) Q ⟨#[q0, q1, q2, q3, .pointer (some ⟨HB, 0, none⟩), q5, q6, q7, q8, q9, q10, q11, q12, q13, q14, q15, q16, q17, q18, q19, q20, q21, .pointer (some ⟨D, 0, none⟩), .int .i64 0, q24, q25, q26, q27, q28, q29, q30, q31, q32, q33, q34, q35, q36, q37, q38, q39, q40, q41, q42, q43, q44, q45, q46, q47, q48, q49, q50, q51, q52, q53, q54, q55, q56, q57, q58, q59, q60, q61, q62, q63, q64, q65, q66, q67, q68, q69, q70, q71, q72, q73, q74, q75, q76, q77, q78, q79, q80, q81, q82, q83, q84, q85, q86, q87, q88, q89, q90, q91, q92, q93, q94, q95, q96, q97, q98, q99, q100, q101, q102, q103, q104, q105, q106, q107, q108, q109, q110, q111, q112, q113, q114, q115, q116, q117, q118, q119, q120, q121, q122, q123, q124, q125, q126, q127, q128, q129, q130, q131, q132, q133, q134, q135, q136, q137, q138, q139, q140, q141, q142, q143, q144, q145, q146, q147, q148, q149, q150, q151, q152, q153, q154, q155, q156, q157, q158, q159, q160, q161, q162, q163, q164, q165, q166, q167, q168, q169, q170, q171, q172, q173, q174, q175, q176, q177, q178, q179, q180, q181, q182, q183, q184, q185, q186, q187, q188, q189, q190, q191, q192, q193, q194, q195, q196, q197, q198, q199, q200, q201, q202, q203, q204, q205, q206, q207, q208, q209, q210, q211, q212, q213, q214, q215, q216, q217, q218, q219, q220, q221, q222, q223, q224, q225, q226, q227, q228, q229, q230, q231, q232, q233, q234], []⟩ w := by
  have HE : Hid (∀ (d23 d218 d219 d220 d221 d222 d223 d224 d225 d226 d227 d228 d229 d230 d231 d232 d233 : Value) (w' : World), Blk w' D (bvc (outB v)).toArray 23 ∧ w.grownBy w' (some D) → Q (.exit 12) ⟨#[q0, q1, q2, q3, .pointer (some ⟨HB, 0, none⟩), q5, q6, q7, q8, q9, q10, q11, q12, q13, q14, q15, q16, q17, q18, q19, q20, q21, .pointer (some ⟨D, 0, none⟩), d23, q24, q25, q26, q27, q28, q29, q30, q31, q32, q33, q34, q35, q36, q37, q38, q39, q40, q41, q42, q43, q44, q45, q46, q47, q48, q49, q50, q51, q52, q53, q54, q55, q56, q57, q58, q59, q60, q61, q62, q63, q64, q65, q66, q67, q68, q69, q70, q71, q72, q73, q74, q75, q76, q77, q78, q79, q80, q81, q82, q83, q84, q85, q86, q87, q88, q89, q90, q91, q92, q93, q94, q95, q96, q97, q98, q99, q100, q101, q102, q103, q104, q105, q106, q107, q108, q109, q110, q111, q112, q113, q114, q115, q116, q117, q118, q119, q120, q121, q122, q123, q124, q125, q126, q127, q128, q129, q130, q131, q132, q133, q134, q135, q136, q137, q138, q139, q140, q141, q142, q143, q144, q145, q146, q147, q148, q149, q150, q151, q152, q153, q154, q155, q156, q157, q158, q159, q160, q161, q162, q163, q164, q165, q166, q167, q168, q169, q170, q171, q172, q173, q174, q175, q176, q177, q178, q179, q180, q181, q182, q183, q184, q185, q186, q187, q188, q189, q190, q191, q192, q193, q194, q195, q196, q197, q198, q199, q200, q201, q202, q203, q204, q205, q206, q207, q208, q209, q210, q211, q212, q213, q214, q215, q216, q217, d218, d219, d220, d221, d222, d223, d224, d225, d226, d227, d228, d229, d230, d231, d232, d233, q234], []⟩ w') := hexit
  have HS : Hid (Oq w D v 0 Z w) := ⟨hD, World.grownBy.refl _ _, by rw [hZ]; simp, fun j hj => by omega, fun j hj => ⟨0, by rw [hZ]; simp [hj]⟩⟩
  have HH : Hid (Blk w HB (v8c v) 98) := hH
  clear hexit hH hD hZ
  conv => arg 2; arg 1; whnf
  dsimp only
  go_loopw [23] (fun i wr => ∃ (k : Nat) (C : Array Value), k ≤ 32 ∧ i = .int .i64 k ∧ Hid (Oq w D v k C wr)) (fun i _ => 40 - (intOf i).toNat)
  case atStart => exact ⟨0, Z, by omega, rfl, HS⟩
  case round =>
    clear HS
    obtain ⟨k, C, hk, rfl, HR⟩ := hrel
    by_cases hlt : k < 32
    · obtain ⟨x, hx⟩ : ∃ x, x = v.list.getD (k / 4) 0 := ⟨_, rfl⟩
      have h1 : wr.cell? ⟨HB, k / 4, none⟩ = some (c32 x) := HR.out.grown.cell (by rw [HH.out.cell, v8c_get _ _ (by omega), hx]) (by simp; omega)
      obtain ⟨z, hz⟩ := HR.out.all k hlt
      have h2 : wr.cell? ⟨D, k, none⟩ = some (.int .u8 z) := by rw [HR.out.blk.cell, hz]
      have h3 := HR.out.blk.frozen k
      have e1 : ((k : Int) / 4).toNat = k / 4 := by omega
      have hxl := x.isLt
      have HX : Hid (x = v.list.getD (k / 4) 0) := hx
      clear hx hz
      go_wp2
      refine ⟨⟨k + 1, C.setIfInBounds k (.int .u8 ((x.toNat : Int) / 2 ^ (24 - 8 * (k % 4)) % 256)), by omega, by go_num, ?_⟩, by simp [intOf]; omega⟩
      refine HR.out.put hlt _ ?_
      have e := outB_get v (k / 4) (k % 4) (by omega) (by omega)
      rw [show 4 * (k / 4) + k % 4 = k from by omega, ← HX.out] at e
      rw [e]
      exact byte_at x k
    · have hke : k = 32 := by omega
      subst hke
      have he := HR.out.whole
      have HW : Hid (C = (bvc (outB v)).toArray) := he
      clear hlt hk he
      go_wp2
      exact HE.out _ _ _ _ _ _ _ _ _ _ _ _ _ _ _ _ _ wr ⟨by rw [← HW.out]; exact HR.out.blk, HR.out.grown⟩
end Go.Proofs.YtpfknjnigcefgaaGreatDoor
/- The document's own sum: how it begins: the message filled up. -/
namespace Go.Proofs.YtpfknjnigcefgaaGreatDoor
open Go.RowKit
set_option linter.unusedSimpArgs false
set_option linter.unusedVariables false
/-- The rounds' constants as cells. -/
def kcs : Array Value := (KL.map c32).toArray
theorem kcs_get (t : Nat) (ht : t < 64) : kcs[t]? = some (c32 (KT t)) := by
  have hl : KL.length = 64 := rfl
  unfold kcs KT
  rw [List.getElem?_toArray, List.getElem?_map, List.getD, List.getElem?_eq_getElem (by omega)]
  rfl
/-- The world behind the parameters' boxes and the result's. -/
abbrev sumW (w : World) : World := ((w.alloc (.cells (v8c H0) 98)).alloc (.cells kcs 100)).alloc (.cells z32c 23)
/-- What stands while blocks are taken: the eight numbers, the constants, the result's box. -/
structure Su (w : World) (n0 : Nat) (h : V8) (wr : World) : Prop where
  st : Blk wr n0 (v8c h) 98
  k : Blk wr (n0 + 1) kcs 100
  res : Blk wr (n0 + 2) z32c 23
  below : Below n0 w wr
theorem Su.start (w : World) : Su w w.heap.size H0 (sumW w) := by
  have z1 := alloc_size w (.cells (v8c H0) 98)
  have z2 := alloc_size (w.alloc (.cells (v8c H0) 98)) (.cells kcs 100)
  have g2 := World.grownBy_alloc (w.alloc (.cells (v8c H0) 98)) (.cells kcs 100) none
  have g3 := World.grownBy_alloc ((w.alloc (.cells (v8c H0) 98)).alloc (.cells kcs 100)) (.cells z32c 23) none
  refine ⟨Blk.grown (Blk.grown (blk_new _ _) g2 (by simp)) g3 (by simp), ?_, ?_, (((Below.refl _ _).alloc (Nat.le_refl _) _).alloc (by omega) _).alloc (by omega) _⟩
  · have e := blk_new (w.alloc (.cells (v8c H0) 98)) (.cells kcs 100)
    rw [z1] at e
    exact Blk.grown e g3 (by simp)
  · have e := blk_new ((w.alloc (.cells (v8c H0) 98)).alloc (.cells kcs 100)) (.cells z32c 23)
    rw [z2, z1] at e
    exact e
theorem sumW_size (w : World) : (sumW w).heap.size = w.heap.size + 3 := by rw [alloc_size, alloc_size, alloc_size]
theorem Su.more {w : World} {n0 : Nat} {h : V8} {wr wr' : World} (H : Su w n0 h wr) (hb : Below (n0 + 3) wr wr') : Su w n0 h wr' := by
  refine ⟨?_, ?_, ?_, H.below.trans (hb.mono (by omega))⟩
  · unfold Blk; rw [hb.block n0 (by omega)]; exact H.st
  · unfold Blk; rw [hb.block (n0 + 1) (by omega)]; exact H.k
  · unfold Blk; rw [hb.block (n0 + 2) (by omega)]; exact H.res
theorem cells_byl (s : ByteArray) : Lib.strCells s = bvc (byl s) := by
  simp [Lib.strCells, bvc, byl]
theorem bvc_append (a b : List Nat) : bvc (a ++ b) = bvc a ++ bvc b := by simp [bvc]
theorem bvc_length (a : List Nat) : (bvc a).length = a.length := by simp [bvc]
theorem byl_app (a b : ByteArray) : byl (a ++ b) = byl a ++ byl b := by simp [byl]
theorem free_below {B : Nat} {w wr w' : World} {v : Value} (hb : Below B w wr) (hz : B ≤ wr.heap.size) (hg : wr.grownBy w' v.ownBlock) (hv : ∀ k, v.ownBlock = some k → B ≤ k) : Below B w w' :=
  hb.grown hg hz (fun k hk => hv k hk)
/-- The message, filled up to k noughts. -/
def padTo (m : List Nat) (k : Nat) : List Nat := m ++ [128] ++ List.replicate k 0
theorem padTo_succ (m : List Nat) (k : Nat) : padTo m (k + 1) = padTo m k ++ [0] := by
  simp [padTo, List.replicate_succ']
theorem padTo_length (m : List Nat) (k : Nat) : (padTo m k).length = m.length + 1 + k := by simp [padTo]; omega
def slLen : Value → Nat
  | .slice _ n _ => n
  | _ => 0
theorem fix_cells (n : Nat) (h : n < 18446744073709551616) : Lib.strCells ((⟨#[]⟩ : ByteArray) ++ sb (fixN 8 n)) = bvc (fixN 8 n) := by
  rw [show ((⟨#[]⟩ : ByteArray) ++ sb (fixN 8 n)) = sb (fixN 8 n) from ByteArray.empty_append, cells_byl, byl_sb _ (fixN_lt 8 n)]
theorem fix_size (n : Nat) : ((⟨#[]⟩ : ByteArray) ++ sb (fixN 8 n)).size = 8 := by
  rw [show ((⟨#[]⟩ : ByteArray) ++ sb (fixN 8 n)) = sb (fixN 8 n) from ByteArray.empty_append, sb_size, fixN_length]
/-- What stands while blocks are taken: i of them are. -/
structure Sv (w : World) (n0 g : Nat) (pm : List Nat) (i : Nat) (wr : World) : Prop where
  su : Su w n0 (hs pm i) wr
  m : ∀ j, j < pm.length → wr.cell? ⟨g, j, none⟩ = some (.int .u8 (pm.getD j 0 : Nat))
  ge : n0 + 3 ≤ g
  lt : g < wr.heap.size
theorem bvc_getD (m : List Nat) (j : Nat) (h : j < m.length) : (bvc m)[j]? = some (.int .u8 (m.getD j 0 : Nat)) := by
  rw [bvc, List.getElem?_map, List.getD, List.getElem?_eq_getElem h]; rfl
theorem blk_getD (pm : List Nat) (i j : Nat) (hj : j < 64) : (blk pm i).getD j 0 = pm.getD (64 * i + j) 0 := by
  simp only [blk, List.getD]
  rw [List.getElem?_take_of_lt hj, List.getElem?_drop]
theorem Sv.next {w wr w8 w9 : World} {n0 g i : Nat} {pm : List Nat} (H : Sv w n0 g pm i wr) (h8 : Below wr.heap.size wr w8) (h9 : w8.grownBy w9 (some n0)) (hst : Blk w9 n0 (v8c (hs pm (i + 1))) 98) : Sv w n0 g pm (i + 1) w9 := by
  have hlt := H.lt
  have hge := H.ge
  have hz8 := h8.size
  have hz9 := h9.size
  have blk : ∀ b, b < wr.heap.size → b ≠ n0 → w9.heap[b]? = wr.heap[b]? := fun b hb hn => by
    rw [h9.block b (by omega) (by simpa using hn), h8.block b hb]
  refine ⟨⟨hst, ?_, ?_, ?_⟩, fun j hj => ?_, hge, by omega⟩
  · unfold Blk; rw [blk (n0 + 1) (by omega) (by omega)]; exact H.su.k
  · unfold Blk; rw [blk (n0 + 2) (by omega) (by omega)]; exact H.su.res
  · exact (H.su.below.trans (h8.mono (by omega))).grown h9 (by omega) (fun k hk => by cases hk; exact Nat.le_refl _)
  · have e : w9.cell? ⟨g, j, none⟩ = wr.cell? ⟨g, j, none⟩ := by
      simp only [World.cell?, blk g hlt (by omega)]
    rw [e]; exact H.m j hj
theorem below_blk {w w' : World} {B b : Nat} {C : Array Value} {T : TypeId} (hb : Below B w w') (h : Blk w b C T) (hlt : b < B) : Blk w' b C T := by
  unfold Blk; rw [hb.block b hlt]; exact h
theorem z32c_rep : z32c = Array.replicate 32 (Value.int .u8 0) := rfl
end Go.Proofs.YtpfknjnigcefgaaGreatDoor
/- The walk of the document's own sum (munimentref02.sum). -/
namespace Go.Proofs.YtpfknjnigcefgaaGreatDoor
open Go.RowKit
set_option linter.unusedSimpArgs false
set_option linter.unusedVariables false
set_option maxHeartbeats 4000000 in
set_option maxRecDepth 100000 in
theorem rsum_any (s : ByteArray) (w : World) (hsz : s.size ≤ 140737488351232) :
    Calls Tryz.prog 47 #[.string s, .agg (v8c H0), .agg kcs] w fun e w' => e = .returned (.agg (shc (byl s))) ∧ Below w.heap.size w w' := by
  go_enter Tryz.func47, Tryz.ntmps47
  iterate 13 (first | go_values | go_skip | go_guarded | go_step | go_upon | go_back)
  show Exit.then _ _ Exit.normal _ (sumW w)
  obtain ⟨n0, hn0⟩ : ∃ n0, n0 = w.heap.size := ⟨_, rfl⟩
  obtain ⟨w1, hw1⟩ : ∃ w1, w1 = sumW w := ⟨_, rfl⟩
  have HS1 : Hid (Su w n0 H0 w1) := by rw [hn0, hw1]; exact Su.start w
  have hz1 : w1.heap.size = n0 + 3 := by rw [hn0, hw1]; exact sumW_size w
  rw [← hw1, ← hn0]
  have HN : Hid (n0 = w.heap.size) := hn0
  clear hw1 hn0
  obtain ⟨v1, w2, hcv, hb2, hF2⟩ := Fre.of_conv (s ++ ⟨#[128]⟩) w1 (by rw [append_size, show (⟨#[128]⟩ : ByteArray).size = 1 from rfl]; omega)
  rw [hz1] at hF2 hb2
  have HB2 : Hid (Below (n0 + 3) w1 w2) := hb2
  obtain ⟨msg, hmsg⟩ : ∃ m, m = byl s := ⟨_, rfl⟩
  have HM : Hid (msg = byl s) := hmsg
  have hml : msg.length = s.size := by rw [hmsg, byl_length]
  have HML : Hid (msg.length = s.size) := hml
  have hF0 : Fre w2 (n0 + 3) v1 (bvc (padTo msg 0)) := by
    have e : Lib.strCells (s ++ ⟨#[128]⟩) = bvc (padTo msg 0) := by
      rw [cells_byl, byl_app, padTo, hmsg]; simp; rfl
    rw [← e]; exact hF2
  have HF0 : Hid (Fre w2 (n0 + 3) v1 (bvc (padTo msg 0))) := hF0
  have z2 : n0 + 3 ≤ w2.heap.size := by have := hb2.size; omega
  clear hF0 hF2 hb2 hmsg hml
  go_wp2
  go_loopw [7] (fun v wr => ∃ (k : Nat), k ≤ pads s.size ∧ Hid (Fre wr (n0 + 3) v (bvc (padTo msg k)) ∧ Below (n0 + 3) w1 wr)) (fun v _ => s.size + 70 - slLen v)
  case atStart => exact ⟨0, by omega, HF0.out, HB2.out⟩
  case round =>
    obtain ⟨k, hk, HR⟩ := hrel
    have hL : (bvc (padTo msg k)).length = s.size + 1 + k := by rw [bvc_length, padTo_length, HML.out]
    have hpl := pads_le s.size
    have zr : n0 + 3 ≤ wr.heap.size := by have := HR.out.2.size; omega
    by_cases hlt : k < pads s.size
    · obtain ⟨g, cap, hv, hgB, hgc, hcm, hcl⟩ := HR.out.1.cell
      rw [hL] at hv
      have ht : ((((s.size : Int) + 1 + k) % 64) != 56) = true := by
        have := pads_first s.size k hlt
        rw [bne_iff_ne]; omega
      have HF : Hid (Fre wr (n0 + 3) (.slice (some ⟨g, 0, none⟩) (s.size + 1 + k) cap) (bvc (padTo msg k)) ∧ Below (n0 + 3) w1 wr) := by rw [← hv]; exact HR.out
      subst hv
      clear HR hcl hgB
      have HL : Hid ((bvc (padTo msg k)).length = s.size + 1 + k) := hL
      clear hL
      go_wp2_with (at_builtin; refine wpList_free_byte rfl _ _ rfl (n0 + 3) _ (bvc (padTo msg k)) rfl (HF.out.1.kept (World.grownBy_alloc wr _ none) (by simp)) (by rw [alloc_size]; omega) ⟨wr.heap.size, 0, none⟩ 1 0 rfl (by rw [World.cell?_alloc_new]; rfl) (by rw [HL.out]; omega) ?_)
      intro v' w7 hF7 hg7 hob
      have HF7 : Hid (Fre w7 (n0 + 3) v' (bvc (padTo msg (k + 1))) ∧ Below (n0 + 3) w1 w7) := by
        refine ⟨?_, ?_⟩
        · rw [padTo_succ, bvc_append]; exact hF7
        · exact free_below (HF.out.2.alloc zr _) (by rw [alloc_size]; omega) hg7 hob
      have hl7 : slLen v' = s.size + 1 + (k + 1) := by
        obtain ⟨g', cap', e', _⟩ := HF7.out.1.cell
        rw [e', slLen, bvc_length, padTo_length, HML.out]
      clear hF7 hg7 hob HF
      go_wp2
      go_roundw
      case rel => exact ⟨k + 1, by omega, HF7.out⟩
      case measure => rw [hl7]; simp [slLen]; omega
    · have hke : k = pads s.size := by omega
      obtain ⟨g, cap, hv, hgB, hgc, hcm, hcl⟩ := HR.out.1.cell
      rw [hL] at hv
      have ht : ((((s.size : Int) + 1 + k) % 64) != 56) = false := by
        have := pads_at s.size
        rw [← hke] at this
        rw [bne_eq_false_iff_eq]; omega
      have HF : Hid (Fre wr (n0 + 3) (.slice (some ⟨g, 0, none⟩) (s.size + 1 + k) cap) (bvc (padTo msg k)) ∧ Below (n0 + 3) w1 wr) := by rw [← hv]; exact HR.out
      have HKE : Hid (k = pads s.size) := hke
      subst hv
      have HL : Hid ((bvc (padTo msg k)).length = s.size + 1 + k) := hL
      clear HR hcl hgB hke hL hlt
      go_wp2_with fail
      have hfx := rfix_any (8 * s.size) 8 wr (by omega) (by omega) (by omega) (by omega)
      rw [show ((8 * s.size : Nat) : Int) = 8 * (s.size : Int) from by omega] at hfx
      refine hfx.mono ?_
      clear hfx
      rintro e w3 ⟨rfl, hb3⟩
      obtain ⟨fx, hfx⟩ : ∃ fx, fx = (⟨#[]⟩ : ByteArray) ++ sb (fixN 8 (8 * s.size)) := ⟨_, rfl⟩
      rw [← hfx]
      have HFX : Hid (Lib.strCells fx = bvc (fixN 8 (8 * s.size))) := by rw [hfx]; exact fix_cells _ (by omega)
      have hfz : fx.size ≤ 8 := by rw [hfx, fix_size]; omega
      have HF3 : Hid (Fre w3 (n0 + 3) (.slice (some ⟨g, 0, none⟩) (s.size + 1 + k) cap) (bvc (padTo msg k)) ∧ Below (n0 + 3) w1 w3) := ⟨HF.out.1.kept (grown_of_below hb3 none) (by simp), HF.out.2.trans (hb3.mono zr)⟩
      have z3 : n0 + 3 ≤ w3.heap.size := by have := hb3.size; omega
      clear hfx hb3 HF
      go_wp2_with (at_builtin; refine wpList_free_text rfl _ _ rfl (n0 + 3) _ (bvc (padTo msg k)) rfl HF3.out.1 z3 fx rfl (by omega) (by rw [HL.out]; omega) ?_)
      intro v' w4 hF4 hg4 hob
      obtain ⟨pm, hpm⟩ : ∃ pm, pm = padded msg := ⟨_, rfl⟩
      have hcells : bvc (padTo msg k) ++ Lib.strCells fx = bvc pm := by rw [HFX.out, ← bvc_append, hpm, padded, padTo, HML.out, HKE.out]
      rw [hcells] at hF4
      have hb4 : Below (n0 + 3) w1 w4 := free_below HF3.out.2 z3 hg4 hob
      obtain ⟨g2, cap2, hv2, hg2, hgc2, hcm2, hcl2⟩ := hF4.cell
      have hmod := padded_mod msg
      have hpl2 := padded_length msg
      rw [← hpm] at hmod hpl2
      rw [HML.out] at hpl2
      rw [bvc_length] at hv2 hgc2 hcl2
      obtain ⟨M, hM⟩ : ∃ M, M = pm.length := ⟨_, rfl⟩
      rw [← hM] at hv2 hgc2 hcl2 hmod hpl2
      have hMb : M ≤ 140737488352000 := by omega
      have hS4 : Sv w n0 g2 pm 0 w4 := by
        obtain ⟨gq, _, cur, _, eq, _, hq, _⟩ := hF4
        refine ⟨HS1.out.more hb4, fun j hj => ?_, hg2, ?_⟩
        · rw [hcl2 j (by omega), bvc_getD _ _ hj]
        · rw [hv2] at eq
          simp at eq
          rw [eq.1]; exact blk_lt hq
      have HS4 : Hid (Sv w n0 g2 pm 0 w4) := hS4
      have HPM : Hid (pm = padded msg) := hpm
      have HMM : Hid (M = pm.length) := hM
      have HMD : Hid (M % 64 = 0) := hmod
      have hm64 : 64 * (M / 64) = M := by omega
      have HM64 : Hid (64 * (M / 64) = M) := hm64
      subst hv2
      have hcap2 : cap2 ≤ 9223372036854775807 := by unfold maxLen at hcm2; omega
      clear hS4 hpm hM hmod hpl2 hm64 hcells hF4 hg4 hob hb4 hcl2 HF3 HFX HL HKE hcm2 hcm hgc ht hfz z3 HF0 HB2 hcv z2 hk hpl zr
      go_wp2
      go_loopw [8] (fun v wr => ∃ (i at_ : Nat), i ≤ M / 64 ∧ v = .int .i64 (at_ : Int) ∧ Hid (at_ = 64 * i) ∧ Hid (Sv w n0 g2 pm i wr)) (fun v _ => 140737488353000 - (intOf v).toNat)
      case atStart => exact ⟨0, 0, by omega, rfl, rfl, HS4⟩
      case round =>
        clear HS4
        obtain ⟨i, at_, hi, rfl, HAT, HR⟩ := hrel
        have zr : g2 < wr.heap.size := HR.out.lt
        have hge := HR.out.ge
        by_cases hlt : i < M / 64
        · have hiM : at_ + 64 ≤ M := by have := HM64.out; have := HAT.out; omega
          obtain ⟨X, hX⟩ : ∃ X, X = wr.heap.size := ⟨_, rfl⟩
          have HXX : Hid (X = wr.heap.size) := hX
          go_wp2
          rw [← hX]
          have hc3 : ∀ j, j < 64 → (wr.alloc (.cells (Array.replicate 64 (c32 0)) 100)).cell? ⟨g2, at_ + j, none⟩ = some (.int .u8 ((blk pm i).getD j 0 : Nat)) := fun j hj => by
            rw [World.cell?_alloc_past _ _ _ zr, HR.out.m (at_ + j) (by rw [← HMM.out]; omega), blk_getD _ _ _ hj, HAT.out]
          have hB3 : Blk (wr.alloc (.cells (Array.replicate 64 (c32 0)) 100)) X (Array.replicate 64 (c32 0)) 100 := by rw [hX]; exact blk_new _ _
          clear hX
          refine loop3 _ g2 M cap2 at_ X (blk pm i) (Array.replicate 64 (c32 0)) (wr.alloc (.cells (Array.replicate 64 (c32 0)) 100)) _ _ _ _ _ _ _ _ _ _ _ _ _ _ _ _ _ _ _ _ _ _ _ _ _ _ _ _ _ _ _ _ _ _ _ _ _ _ _ _ _ _ _ _ _ _ _ _ _ _ _ _ _ _ _ _ _ _ _ _ _ _ _ _ _ _ _ _ _ _ _ _ _ _ _ _ _ _ _ _ _ _ _ _ _ _ _ _ _ _ _ _ _ _ _ _ _ _ _ _ _ _ _ _ _ _ _ _ _ _ _ _ _ _ _ _ _ _ _ _ _ _ _ _ _ _ _ _ _ _ _ _ _ _ _ _ _ _ _ _ _ _ _ _ _ _ _ _ _ _ _ _ _ _ _ _ _ _ _ _ _ _ _ _ _ _ _ _ _ _ _ _ _ _ _ _ _ _ _ _ _ _ _ _ _ _ _ _ _ _ _ _ _ _ _ _ _ _ _ _ _ _ _ _ _ _ _ _ _ _ _ _ _ _ _ _ _ _ _ _ _ _ _ _ _ _ _ _ _ _ _ hgc2 hcap2 hiM (by rw [HXX.out]; omega) hc3 rfl hB3 ?_
          intro a10 a11 a47 a48 a49 a50 a51 a52 a53 a54 a55 a56 a57 a58 a59 a60 a61 a62 a63 a64 a65 a66 a67 a68 a69 a70 a71 a72 a73 a74 a75 a76 a77 a78 a79 a80 C3 w5 hSq3
          clear hc3 hB3
          have H3 : Hid (Sq (wr.alloc (.cells (Array.replicate 64 (c32 0)) 100)) X (blk pm i) 16 C3 w5) := hSq3
          clear hSq3
          go_wp2
          refine loop4 _ X (blk pm i) C3 (wr.alloc (.cells (Array.replicate 64 (c32 0)) 100)) w5 _ _ _ _ _ _ _ _ _ _ _ _ _ _ _ _ _ _ _ _ _ _ _ _ _ _ _ _ _ _ _ _ _ _ _ _ _ _ _ _ _ _ _ _ _ _ _ _ _ _ _ _ _ _ _ _ _ _ _ _ _ _ _ _ _ _ _ _ _ _ _ _ _ _ _ _ _ _ _ _ _ _ _ _ _ _ _ _ _ _ _ _ _ _ _ _ _ _ _ _ _ _ _ _ _ _ _ _ _ _ _ _ _ _ _ _ _ _ _ _ _ _ _ _ _ _ _ _ _ _ _ _ _ _ _ _ _ _ _ _ _ _ _ _ _ _ _ _ _ _ _ _ _ _ _ _ _ _ _ _ _ _ _ _ _ _ _ _ _ _ _ _ _ _ _ _ _ _ _ _ _ _ _ _ _ _ _ _ _ _ _ _ _ _ _ _ _ _ _ _ _ _ _ _ _ _ _ _ _ _ _ _ _ _ _ _ _ _ _ _ _ _ _ _ _ _ _ _ _ _ _ _ _ H3.out ?_
          intro b12 b13 b14 b81 b82 b83 b84 b85 b86 b87 b88 b89 b90 b91 b92 b93 b94 b95 b96 b97 b98 b99 b100 b101 b102 b103 b104 b105 b106 b107 b108 b109 b110 b111 b112 b113 b114 b115 b116 b117 b118 b119 b120 b121 C4 w6 hSq4
          have hb6 : Below wr.heap.size wr w6 := by
            refine ((Below.refl wr.heap.size wr).alloc (Nat.le_refl _) _).grown hSq4.grown (by rw [alloc_size]; omega) (fun k hk => by cases hk; rw [HXX.out]; exact Nat.le_refl _)
          have HB6 : Hid (Below wr.heap.size wr w6) := hb6
          have hz6 : wr.heap.size ≤ w6.heap.size := hb6.size
          have HX6 : Hid (Blk w6 X (w64c (blk pm i)) 100) := by have e := hSq4.whole; rw [← e]; exact hSq4.blk
          have hX6 : X < w6.heap.size := blk_lt hSq4.blk
          obtain ⟨h, hh⟩ : ∃ h, h = hs pm i := ⟨_, rfl⟩
          have HHH : Hid (h = hs pm i) := hh
          have HN6 : Hid (Blk w6 n0 (v8c h) 98) := by rw [hh]; exact below_blk hb6 HR.out.su.st (by omega)
          have HK6 : Hid (Blk w6 (n0 + 1) kcs 100) := below_blk hb6 HR.out.su.k (by omega)
          clear hSq4 H3 hb6 hh
          go_wp2_with (first
            | (refine wpList_load_v8 rfl (.tmp 4) rfl n0 0 rfl h (fun j hj => by rw [HN6.out.cell, Nat.zero_add, v8c_get _ _ hj]) ?_)
            | (refine wpList_store_abs rfl 98 (.tmp 15) (.tmp 122) rfl (v8c h) _ 98 w6.heap.size rfl rfl rfl info_8 rfl (v8c_one h) ?_; intro w7 HBv HGv hsz7))
          have hKc : ∀ t, t < 64 → w7.cell? ⟨n0 + 1, t, none⟩ = some (c32 (KT t)) := fun t ht => by
            rw [(HK6.out.grown HGv.out (by simp)).cell, kcs_get t ht]
          refine loop5 _ (n0 + 1) X w6.heap.size (blk pm i) h w7 _ _ _ _ _ _ _ _ _ _ _ _ _ _ _ _ _ _ _ _ _ _ _ _ _ _ _ _ _ _ _ _ _ _ _ _ _ _ _ _ _ _ _ _ _ _ _ _ _ _ _ _ _ _ _ _ _ _ _ _ _ _ _ _ _ _ _ _ _ _ _ _ _ _ _ _ _ _ _ _ _ _ _ _ _ _ _ _ _ _ _ _ _ _ _ _ _ _ _ _ _ _ _ _ _ _ _ _ _ _ _ _ _ _ _ _ _ _ _ _ _ _ _ _ _ _ _ _ _ _ _ _ _ _ _ _ _ _ _ _ _ _ _ _ _ _ _ _ _ _ _ _ _ _ _ _ _ _ _ _ _ _ _ _ _ _ _ _ _ _ _ _ _ _ _ _ _ _ _ _ _ _ _ _ _ _ _ _ _ _ _ _ _ _ _ _ _ _ _ _ _ _ _ _ _ _ _ _ _ _ _ _ _ _ _ _ _ _ _ _ _ _ _ _ _ _ _ _ _ _ _ HBv.out (HX6.out.grown HGv.out (by simp)) hKc (by omega) (by omega) ?_
          intro e16 e17 e18 e19 e20 e123 e124 e125 e126 e127 e128 e129 e130 e131 e132 e133 e134 e135 e136 e137 e138 e139 e140 e141 e142 e143 e144 e145 e146 e147 e148 e149 e150 e151 e152 e153 e154 e155 e156 e157 e158 e159 e160 e161 e162 e163 e164 e165 e166 e167 e168 e169 e170 e171 e172 e173 e174 e175 e176 e177 e178 e179 e180 e181 e182 e183 e184 e185 e186 e187 e188 e189 e190 e191 e192 e193 e194 e195 e196 e197 e198 e199 e200 e201 e202 e203 e204 w8 h8
          have HV8 : Hid (Blk w8 w6.heap.size (v8c (rds (blk pm i) h 64)) 98) := h8.1
          have hb8 : Below wr.heap.size wr w8 := by
            have z6 := HB6.out.size
            refine (HB6.out.grown HGv.out z6 (fun k hk => by cases hk)).grown h8.2 (by omega) (fun k hk => by cases hk; exact z6)
          have HB8 : Hid (Below wr.heap.size wr w8) := hb8
          have HN8 : Hid (Blk w8 n0 (v8c h) 98) := by rw [HHH.out]; exact below_blk hb8 HR.out.su.st (by omega)
          clear hKc h8 hb8 HBv HGv hsz7 HX6 HK6 HN6
          go_wp2
          refine loop6 _ n0 w6.heap.size h (rds (blk pm i) h 64) w8 _ _ _ _ _ _ _ _ _ _ _ _ _ _ _ _ _ _ _ _ _ _ _ _ _ _ _ _ _ _ _ _ _ _ _ _ _ _ _ _ _ _ _ _ _ _ _ _ _ _ _ _ _ _ _ _ _ _ _ _ _ _ _ _ _ _ _ _ _ _ _ _ _ _ _ _ _ _ _ _ _ _ _ _ _ _ _ _ _ _ _ _ _ _ _ _ _ _ _ _ _ _ _ _ _ _ _ _ _ _ _ _ _ _ _ _ _ _ _ _ _ _ _ _ _ _ _ _ _ _ _ _ _ _ _ _ _ _ _ _ _ _ _ _ _ _ _ _ _ _ _ _ _ _ _ _ _ _ _ _ _ _ _ _ _ _ _ _ _ _ _ _ _ _ _ _ _ _ _ _ _ _ _ _ _ _ _ _ _ _ _ _ _ _ _ _ _ _ _ _ _ _ _ _ _ _ _ _ _ _ _ _ _ _ _ _ _ _ _ _ _ _ _ _ _ _ _ _ _ _ _ _ HN8.out HV8.out (by omega) ?_
          intro f21 f205 f206 f207 f208 f209 f210 f211 f212 f213 f214 f215 f216 f217 w9 h9
          have HS9 : Hid (Sv w n0 g2 pm (i + 1) w9) := by
            refine HR.out.next HB8.out h9.2 ?_
            have e : hs pm (i + 1) = h.add (rds (blk pm i) h 64) := by rw [HHH.out]; rfl
            rw [e]; exact h9.1
          clear h9 HR HB8 HV8 HN8 HB6
          go_wp2
          go_roundw
          case rel => exact ⟨i + 1, at_ + 64, by omega, by go_num, by show at_ + 64 = 64 * (i + 1); rw [HAT.out]; omega, HS9.out⟩
          case measure => simp [intOf]; omega
        · have hie : i = M / 64 := by omega
          have hatM : at_ = M := by rw [HAT.out, hie]; exact HM64.out
          have hatm : ¬ at_ < M := by omega
          obtain ⟨h, hh⟩ : ∃ h, h = hs pm (M / 64) := ⟨_, rfl⟩
          have HHH : Hid (h = hs pm (M / 64)) := hh
          have HSU : Hid (Su w n0 h wr) := by rw [hh, ← hie]; exact HR.out.su
          obtain ⟨D, hD⟩ : ∃ D, D = wr.heap.size := ⟨_, rfl⟩
          have HDD : Hid (D = wr.heap.size) := hD
          have hDn : n0 + 3 < D := by omega
          clear hie hatM hh hD HAT hi hlt
          go_wp2
          rw [← HDD.out]
          have hH7 : Blk (wr.alloc (.cells z32c 23)) n0 (v8c h) 98 := Blk.grown HSU.out.st (World.grownBy_alloc _ _ none) (by simp)
          have hD7 : Blk (wr.alloc (.cells z32c 23)) D z32c 23 := by rw [HDD.out]; exact blk_new _ _
          refine loop7 _ n0 D h z32c (wr.alloc (.cells z32c 23)) _ _ _ _ _ _ _ _ _ _ _ _ _ _ _ _ _ _ _ _ _ _ _ _ _ _ _ _ _ _ _ _ _ _ _ _ _ _ _ _ _ _ _ _ _ _ _ _ _ _ _ _ _ _ _ _ _ _ _ _ _ _ _ _ _ _ _ _ _ _ _ _ _ _ _ _ _ _ _ _ _ _ _ _ _ _ _ _ _ _ _ _ _ _ _ _ _ _ _ _ _ _ _ _ _ _ _ _ _ _ _ _ _ _ _ _ _ _ _ _ _ _ _ _ _ _ _ _ _ _ _ _ _ _ _ _ _ _ _ _ _ _ _ _ _ _ _ _ _ _ _ _ _ _ _ _ _ _ _ _ _ _ _ _ _ _ _ _ _ _ _ _ _ _ _ _ _ _ _ _ _ _ _ _ _ _ _ _ _ _ _ _ _ _ _ _ _ _ _ _ _ _ _ _ _ _ _ _ _ _ _ _ _ _ _ _ _ _ _ _ _ _ _ _ _ _ _ _ _ _ _ _ hH7 z32c_rep hD7 (by omega) ?_
          intro r23 r218 r219 r220 r221 r222 r223 r224 r225 r226 r227 r228 r229 r230 r231 r232 r233 w9 h9
          have HD9 : Hid (Blk w9 D (bvc (outB h)).toArray 23) := h9.1
          have hb9 : Below D wr w9 := by
            refine ((Below.refl D wr).alloc (by rw [HDD.out]; exact Nat.le_refl _) _).grown h9.2 (by rw [alloc_size]; rw [HDD.out]; omega) (fun k hk => by cases hk; exact Nat.le_refl _)
          have HR9 : Hid (Blk w9 (n0 + 1 + 1) z32c 23) := below_blk hb9 HSU.out.res (by omega)
          have HB9 : Hid (Below w.heap.size w w9) := by rw [← HN.out]; exact HSU.out.below.trans (hb9.mono (by omega))
          have HI : Hid ((Tryz.prog.info? 23).map (·.size) = some (bvc (outB h)).toArray.size) := by
            show _ = some (bvc (outB h)).toArray.size
            rw [info_id]; simp [bvc_length, outB_length]
          have HO : Hid ((bvc (outB h)).toArray.all (·.oneCell') = true) := by
            show Array.all _ _ = true
            simp [bvc, List.all_eq_true, Value.oneCell']
          have HZ : Hid (z32c.size = (bvc (outB h)).toArray.size) := by show z32c.size = _; rw [z32c_size]; simp [bvc_length, outB_length]
          have HOUT : Hid ((bvc (outB h)).toArray = shc (byl s)) := by
            show (bvc (outB h)).toArray = _
            rw [shc, sha, shaV, ← HM.out, ← HPM.out, ← HMM.out, HHH.out]
          clear h9 hb9 hH7 hD7 HR HSU
          go_wp2_with (first
            | (refine wpList_load_row rfl 23 (.tmp 22) rfl D rfl 23 (bvc (outB h)).toArray (0, 0) _ HD9.out Tryz.underlying23 rfl HI.out ?_)
            | (refine wpList_store_row rfl 23 (.tmp 6) (.tmp 234) rfl (n0 + 1 + 1) (bvc (outB h)).toArray rfl rfl 23 z32c HR9.out HI.out HZ.out HO.out ?_))
          refine bodyPost_ret (results_cell_row rfl _ _ (n0 + 1 + 1) 23 (bvc (outB h)).toArray (0, 0) _ rfl (setRow_heap _ _ _ _ _ _ HR9.out) Tryz.underlying23 rfl HI.out) rfl ⟨by rw [HOUT.out], ?_⟩
          exact below_setRow HB9.out (by rw [← HN.out]; omega) _
end Go.Proofs.YtpfknjnigcefgaaGreatDoor
