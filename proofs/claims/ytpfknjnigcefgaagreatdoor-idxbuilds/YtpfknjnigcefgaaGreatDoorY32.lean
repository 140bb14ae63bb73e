import Derived.Test.YtpfknjnigcefgaaGreatDoorY31
import Derived.Test.YtpfknjnigcefgaaGreatDoorY30
import Derived.Test.YtpfknjnigcefgaaGreatDoorY17
import Derived.Test.YtpfknjnigcefgaaGreatDoorY4
/- The eight numbers are added, in the document's own sum. -/
namespace Go.Proofs.YtpfknjnigcefgaaGreatDoor
open Go.RowKit
set_option linter.unusedSimpArgs false
set_option linter.unusedVariables false
set_option maxHeartbeats 4000000 in
set_option maxRecDepth 100000 in
theorem loop6 (Q : Exit → Act → World → Prop) (HB V : Nat) (h v : V8) (w : World) (q0 q1 q2 q3 q5 q6 q7 q8 q9 q10 q11 q12 q13 q14 q16 q17 q18 q19 q20 q22 q23 q24 q25 q26 q27 q28 q29 q30 q31 q32 q33 q34 q35 q36 q37 q38 q39 q40 q41 q42 q43 q44 q45 q46 q47 q48 q49 q50 q51 q52 q53 q54 q55 q56 q57 q58 q59 q60 q61 q62 q63 q64 q65 q66 q67 q68 q69 q70 q71 q72 q73 q74 q75 q76 q77 q78 q79 q80 q81 q82 q83 q84 q85 q86 q87 q88 q89 q90 q91 q92 q93 q94 q95 q96 q97 q98 q99 q100 q101 q102 q103 q104 q105 q106 q107 q108 q109 q110 q111 q112 q113 q114 q115 q116 q117 q118 q119 q120 q121 q122 q123 q124 q125 q126 q127 q128 q129 q130 q131 q132 q133 q134 q135 q136 q137 q138 q139 q140 q141 q142 q143 q144 q145 q146 q147 q148 q149 q150 q151 q152 q153 q154 q155 q156 q157 q158 q159 q160 q161 q162 q163 q164 q165 q166 q167 q168 q169 q170 q171 q172 q173 q174 q175 q176 q177 q178 q179 q180 q181 q182 q183 q184 q185 q186 q187 q188 q189 q190 q191 q192 q193 q194 q195 q196 q197 q198 q199 q200 q201 q202 q203 q204 q205 q206 q207 q208 q209 q210 q211 q212 q213 q214 q215 q216 q217 q218 q219 q220 q221 q222 q223 q224 q225 q226 q227 q228 q229 q230 q231 q232 q233 q234 : Value)
    (hH : Blk w HB (v8c h) 98) (hV : Blk w V (v8c v) 98) (hHV : HB ≠ V)
    (hexit : ∀ (d21 d205 d206 d207 d208 d209 d210 d211 d212 d213 d214 d215 d216 d217 : Value) (w' : World), Blk w' HB (v8c (h.add v)) 98 ∧ w.grownBy w' (some HB) → Q (.exit 10) ⟨#[q0, q1, q2, q3, .pointer (some ⟨HB, 0, none⟩), q5, q6, q7, q8, q9, q10, q11, q12, q13, q14, .pointer (some ⟨V, 0, none⟩), q16, q17, q18, q19, q20, d21, q22, q23, q24, q25, q26, q27, q28, q29, q30, q31, q32, q33, q34, q35, q36, q37, q38, q39, q40, q41, q42, q43, q44, q45, q46, q47, q48, q49, q50, q51, q52, q53, q54, q55, q56, q57, q58, q59, q60, q61, q62, q63, q64, q65, q66, q67, q68, q69, q70, q71, q72, q73, q74, q75, q76, q77, q78, q79, q80, q81, q82, q83, q84, q85, q86, q87, q88, q89, q90, q91, q92, q93, q94, q95, q96, q97, q98, q99, q100, q101, q102, q103, q104, q105, q106, q107, q108, q109, q110, q111, q112, q113, q114, q115, q116, q117, q118, q119, q120, q121, q122, q123, q124, q125, q126, q127, q128, q129, q130, q131, q132, q133, q134, q135, q136, q137, q138, q139, q140, q141, q142, q143, q144, q145, q146, q147, q148, q149, q150, q151, q152, q153, q154, q155, q156, q157, q158, q159, q160, q161, q162, q163, q164, q165, q166, q167, q168, q169, q170, q171, q172, q173, q174, q175, q176, q177, q178, q179, q180, q181, q182, q183, q184, q185, q186, q187, q188, q189, q190, q191, q192, q193, q194, q195, q196, q197, q198, q199, q200, q201, q202, q203, q204, d205, d206, d207, d208, d209, d210, d211, d212, d213, d214, d215, d216, d217, q218, q219, q220, q221, q222, q223, q224, q225, q226, q227, q228, q229, q230, q231, q232, q233, q234], []⟩ w') :
    Code.wp Tryz.prog (Code.loop (sumLoop 5)) Q ⟨#[q0, q1, q2, q3, .pointer (some ⟨HB, 0, none⟩), q5, q6, q7, q8, q9, q10, q11, q12, q13, q14, .pointer (some ⟨V, 0, none⟩), q16, q17, q18, q19, q20, .int .i64 0, q22, q23, q24, q25, q26, q27, q28, q29, q30, q31, q32, q33, q34, q35, q36, q37, q38, q39, q40, q41, q42, q43, q44, q45, q46, q47, q48, q49, q50, q51, q52, q53, q54, q55, q56, q57, q58, q59, q60, q61, q62, q63, q64, q65, q66, q67, q68, q69, q70, q71, q72, q73, q74, q75, q76, q77, q78, q79, q80, q81, q82, q83, q84, q85, q86, q87, q88, q89, q90, q91, q92, q93, q94, q95, q96, q97, q98, q99, q100, q101, q102, q103, q104, q105, q106, q107, q108, q109, q110, q111, q112, q113, q114, q115, q116, q117, q118, q119, q120, q121, q122, q123, q124, q125, q126, q127, q128, q129, q130, q131, q132, q133, q134, q135, q136, q137, q138, q139, q140, q141, q142, q143, q144, q145, q146, q147, q148, q149, q150, q151, q152, q153, q154, q155, q156, q157, q158, q159, q160, q161, q162, q163, q164, q165, q166, q167, q168, q169, q170, q171, q172, q173, q174, q175, q176, q177, q178, q179, q180, q181, q182, q183, q184, q185, q186, q187, q188, q189, q190, q191, q192, q193, q194, q195, q196, q197, q198, q199, q200, q201, q202, q203, q204, q205, q206, q207, q208, q209, q210, q211, q212, q213, q214, q215, q216, q217, q218, q219, q220, q221, q222, q223, q224, q225, q226, q227, q228, q229, q230, q231, q232, q233, q234], []⟩ w := by
  have HE : Hid (∀ (d21 d205 d206 d207 d208 d209 d210 d211 d212 d213 d214 d215 d216 d217 : Value) (w' : World), Blk w' HB (v8c (h.add v)) 98 ∧ w.grownBy w' (some HB) → Q (.exit 10) ⟨#[q0, q1, q2, q3, .pointer (some ⟨HB, 0, none⟩), q5, q6, q7, q8, q9, q10, q11, q12, q13, q14, .pointer (some ⟨V, 0, none⟩), q16, q17, q18, q19, q20, d21, q22, q23, q24, q25, q26, q27, q28, q29, q30, q31, q32, q33, q34, q35, q36, q37, q38, q39, q40, q41, q42, q43, q44, q45, q46, q47, q48, q49, q50, q51, q52, q53, q54, q55, q56, q57, q58, q59, q60, q61, q62, q63, q64, q65, q66, q67, q68, q69, q70, q71, q72, q73, q74, q75, q76, q77, q78, q79, q80, q81, q82, q83, q84, q85, q86, q87, q88, q89, q90, q91, q92, q93, q94, q95, q96, q97, q98, q99, q100, q101, q102, q103, q104, q105, q106, q107, q108, q109, q110, q111, q112, q113, q114, q115, q116, q117, q118, q119, q120, q121, q122, q123, q124, q125, q126, q127, q128, q129, q130, q131, q132, q133, q134, q135, q136, q137, q138, q139, q140, q141, q142, q143, q144, q145, q146, q147, q148, q149, q150, q151, q152, q153, q154, q155, q156, q157, q158, q159, q160, q161, q162, q163, q164, q165, q166, q167, q168, q169, q170, q171, q172, q173, q174, q175, q176, q177, q178, q179, q180, q181, q182, q183, q184, q185, q186, q187, q188, q189, q190, q191, q192, q193, q194, q195, q196, q197, q198, q199, q200, q201, q202, q203, q204, d205, d206, d207, d208, d209, d210, d211, d212, d213, d214, d215, d216, d217, q218, q219, q220, q221, q222, q223, q224, q225, q226, q227, q228, q229, q230, q231, q232, q233, q234], []⟩ w') := hexit
  have HS : Hid (Aq w HB h v 0 h w) := ⟨hH, World.grownBy.refl _ _, fun j hj => by rw [if_neg (by omega)]⟩
  have HV : Hid (Blk w V (v8c v) 98) := hV
  clear hexit hH hV
  conv => arg 2; arg 1; whnf
  dsimp only
  go_loopw [21] (fun i wr => ∃ (k : Nat) (g : V8), k ≤ 8 ∧ i = .int .i64 k ∧ Hid (Aq w HB h v k g wr)) (fun i _ => 20 - (intOf i).toNat)
  case atStart => exact ⟨0, h, by omega, rfl, HS⟩
  case round =>
    clear HS
    obtain ⟨k, g, hk, rfl, HR⟩ := hrel
    by_cases hlt : k < 8
    · obtain ⟨x, hx⟩ : ∃ x, x = g.list.getD k 0 := ⟨_, rfl⟩
      obtain ⟨y, hy⟩ : ∃ y, y = v.list.getD k 0 := ⟨_, rfl⟩
      have h1 : wr.cell? ⟨HB, k, none⟩ = some (c32 x) := by rw [HR.out.st.cell, v8c_get _ _ hlt, hx]
      have h2 := HR.out.st.frozen k
      have h3 : wr.cell? ⟨V, k, none⟩ = some (c32 y) := HR.out.grown.cell (by rw [HV.out.cell, v8c_get _ _ hlt, hy]) (by simp; omega)
      have HXY : Hid (x = g.list.getD k 0 ∧ y = v.list.getD k 0) := ⟨hx, hy⟩
      clear hx hy
      go_wp2
      refine wp_region_tail (fun W => ∃ n, W = wr.drewN n) 9 (by kernel_rfl) (by kernel_rfl) ⟨1, rfl⟩ ?_
      simp only [List.take_succ_cons, List.take_zero, List.drop_succ_cons, List.drop_zero]
      repeat (go_big_quiet_step (fail))
      refine wpQuiet_nil ?_
      intro w9 hw9
      obtain ⟨nq, rfl⟩ := hw9
      go_wp2
      go_roundw
      case rel =>
        refine ⟨k + 1, g.setk k (x + y), by omega, by go_num, ?_⟩
        rw [add32, HXY.out.1, HXY.out.2]
        exact (HR.out.drewN nq).put hlt
      case measure => simp [intOf]; omega
    · have hke : k = 8 := by omega
      subst hke
      have he : g = h.add v := v8_ext _ _ (fun j hj => by rw [HR.out.done j hj, if_pos hj, add_get _ _ _ hj])
      have HX : Hid (g = h.add v) := he
      clear hlt hk he
      go_wp2
      exact HE.out _ _ _ _ _ _ _ _ _ _ _ _ _ _ wr ⟨by rw [← HX.out]; exact HR.out.st, HR.out.grown⟩
end Go.Proofs.YtpfknjnigcefgaaGreatDoor
/- The bytes of the eight numbers, one after another. -/
namespace Go.Proofs.YtpfknjnigcefgaaGreatDoor
open Go.RowKit
set_option linter.unusedSimpArgs false
set_option linter.unusedVariables false
/-- k of the bytes are laid. -/
structure Oq (w : World) (D : Nat) (v : V8) (k : Nat) (C : Array Value) (wr : World) : Prop where
  blk : Blk wr D C 23
  grown : w.grownBy wr (some D)
  csz : C.size = 32
  got : ∀ j, j < k → C[j]? = some (.int .u8 ((outB v).getD j 0 : Nat))
  all : ∀ j, j < 32 → ∃ x : Int, C[j]? = some (.int .u8 x)
theorem Oq.put {w : World} {D : Nat} {v : V8} {k : Nat} {C : Array Value} {wr : World} (h : Oq w D v k C wr) (hk : k < 32) (x : Int) (hx : x = ((outB v).getD k 0 : Nat)) :
    Oq w D v (k + 1) (C.setIfInBounds k (.int .u8 x)) (wr.setCell ⟨D, k, none⟩ (.int .u8 x)) where
  blk := h.blk.set k _
  grown := Lib.grownBy_setB h.grown k _
  csz := by rw [Array.size_setIfInBounds]; exact h.csz
  got := fun j hj => by
    rw [Array.getElem?_setIfInBounds]
    split
    · rename_i e; subst e; rw [if_pos (by rw [h.csz]; exact hk), hx]
    · exact h.got j (by omega)
  all := fun j hj => by
    rw [Array.getElem?_setIfInBounds]
    split
    · exact ⟨x, by rw [if_pos (by rw [h.csz]; omega)]⟩
    · exact h.all j hj
theorem Oq.whole {w : World} {D : Nat} {v : V8} {C : Array Value} {wr : World} (h : Oq w D v 32 C wr) : C = (bvc (outB v)).toArray := by
  apply Array.ext_getElem?
  intro i
  by_cases hi : i < 32
  · rw [h.got i hi, List.getElem?_toArray, bvc, List.getElem?_map, List.getD, List.getElem?_eq_getElem (by rw [outB_length]; exact hi)]
    rfl
  · rw [Array.getElem?_eq_none (by rw [h.csz]; omega), Array.getElem?_eq_none (by simp [bvc, outB_length]; omega)]
theorem byte_at (x : BitVec 32) (k : Nat) : ((x.toNat : Int) / 2 ^ (24 - 8 * (k % 4)) % 256) = (((by4 x).getD (k % 4) 0 : Nat) : Int) := by
  have hx := x.isLt
  have h : k % 4 = 0 ∨ k % 4 = 1 ∨ k % 4 = 2 ∨ k % 4 = 3 := by omega
  rcases h with h | h | h | h <;> rw [h]
  · show (x.toNat : Int) / 16777216 % 256 = ((x.toNat / 16777216 : Nat) : Int)
    omega
  · show (x.toNat : Int) / 65536 % 256 = ((x.toNat / 65536 % 256 : Nat) : Int)
    omega
  · show (x.toNat : Int) / 256 % 256 = ((x.toNat / 256 % 256 : Nat) : Int)
    omega
  · show (x.toNat : Int) / 1 % 256 = ((x.toNat % 256 : Nat) : Int)
    omega
end Go.Proofs.YtpfknjnigcefgaaGreatDoor
/- The eight numbers as bytes, in the document's own sum. -/
namespace Go.Proofs.YtpfknjnigcefgaaGreatDoor
open Go.RowKit
set_option linter.unusedSimpArgs false
set_option linter.unusedVariables false
set_option maxHeartbeats 4000000 in
set_option maxRecDepth 100000 in
theorem loop7 (Q : Exit → Act → World → Prop) (HB D : Nat) (v : V8) (Z : Array Value) (w : World) (q0 q1 q2 q3 q5 q6 q7 q8 q9 q10 q11 q12 q13 q14 q15 q16 q17 q18 q19 q20 q21 q24 q25 q26 q27 q28 q29 q30 q31 q32 q33 q34 q35 q36 q37 q38 q39 q40 q41 q42 q43 q44 q45 q46 q47 q48 q49 q50 q51 q52 q53 q54 q55 q56 q57 q58 q59 q60 q61 q62 q63 q64 q65 q66 q67 q68 q69 q70 q71 q72 q73 q74 q75 q76 q77 q78 q79 q80 q81 q82 q83 q84 q85 q86 q87 q88 q89 q90 q91 q92 q93 q94 q95 q96 q97 q98 q99 q100 q101 q102 q103 q104 q105 q106 q107 q108 q109 q110 q111 q112 q113 q114 q115 q116 q117 q118 q119 q120 q121 q122 q123 q124 q125 q126 q127 q128 q129 q130 q131 q132 q133 q134 q135 q136 q137 q138 q139 q140 q141 q142 q143 q144 q145 q146 q147 q148 q149 q150 q151 q152 q153 q154 q155 q156 q157 q158 q159 q160 q161 q162 q163 q164 q165 q166 q167 q168 q169 q170 q171 q172 q173 q174 q175 q176 q177 q178 q179 q180 q181 q182 q183 q184 q185 q186 q187 q188 q189 q190 q191 q192 q193 q194 q195 q196 q197 q198 q199 q200 q201 q202 q203 q204 q205 q206 q207 q208 q209 q210 q211 q212 q213 q214 q215 q216 q217 q218 q219 q220 q221 q222 q223 q224 q225 q226 q227 q228 q229 q230 q231 q232 q233 q234 : Value)
    (hH : Blk w HB (v8c v) 98) (hZ : Z = Array.replicate 32 (.int .u8 0)) (hD : Blk w D Z 23) (hHD : HB ≠ D)
    (hexit : ∀ (d23 d218 d219 d220 d221 d222 d223 d224 d225 d226 d227 d228 d229 d230 d231 d232 d233 : Value) (w' : World), Blk w' D (bvc (outB v)).toArray 23 ∧ w.grownBy w' (some D) → Q (.exit 12) ⟨#[q0, q1, q2, q3, .pointer (some ⟨HB, 0, none⟩), q5, q6, q7, q8, q9, q10, q11, q12, q13, q14, q15, q16, q17, q18, q19, q20, q21, .pointer (some ⟨D, 0, none⟩), d23, q24, q25, q26, q27, q28, q29, q30, q31, q32, q33, q34, q35, q36, q37, q38, q39, q40, q41, q42, q43, q44, q45, q46, q47, q48, q49, q50, q51, q52, q53, q54, q55, q56, q57, q58, q59, q60, q61, q62, q63, q64, q65, q66, q67, q68, q69, q70, q71, q72, q73, q74, q75, q76, q77, q78, q79, q80, q81, q82, q83, q84, q85, q86, q87, q88, q89, q90, q91, q92, q93, q94, q95, q96, q97, q98, q99, q100, q101, q102, q103, q104, q105, q106, q107, q108, q109, q110, q111, q112, q113, q114, q115, q116, q117, q118, q119, q120, q121, q122, q123, q124, q125, q126, q127, q128, q129, q130, q131, q132, q133, q134, q135, q136, q137, q138, q139, q140, q141, q142, q143, q144, q145, q146, q147, q148, q149, q150, q151, q152, q153, q154, q155, q156, q157, q158, q159, q160, q161, q162, q163, q164, q165, q166, q167, q168, q169, q170, q171, q172, q173, q174, q175, q176, q177, q178, q179, q180, q181, q182, q183, q184, q185, q186, q187, q188, q189, q190, q191, q192, q193, q194, q195, q196, q197, q198, q199, q200, q201, q202, q203, q204, q205, q206, q207, q208, q209, q210, q211, q212, q213, q214, q215, q216, q217, d218, d219, d220, d221, d222, d223, d224, d225, d226, d227, d228, d229, d230, d231, d232, d233, q234], []⟩ w') :
    Code.wp Tryz.prog (Code.loop (sumLoop 6)) Q ⟨#[q0, q1, q2, q3, .pointer (some ⟨HB, 0, none⟩), q5, q6, q7, q8, q9, q10, q11, q12, q13, q14, q15, q16, q17, q18, q19, q20, q21, .pointer (some ⟨D, 0, none⟩), .int .i64 0, q24, q25, q26, q27, q28, q29, q30, q31, q32, q33, q34, q35, q36, q37, q38, q39, q40, q41, q42, q43, q44, q45, q46, q47, q48, q49, q50, q51, q52, q53, q54, q55, q56, q57, q58, q59, q60, q61, q62, q63, q64, q65, q66, q67, q68, q69, q70, q71, q72, q73, q74, q75, q76, q77, q78, q79, q80, q81, q82, q83, q84, q85, q86, q87, q88, q89, q90, q91, q92, q93, q94, q95, q96, q97, q98, q99, q100, q101, q102, q103, q104, q105, q106, q107, q108, q109, q110, q111, q112, q113, q114, q115, q116, q117, q118, q119, q120, q121, q122, q123, q124, q125, q126, q127, q128, q129, q130, q131, q132, q133, q134, q135, q136, q137, q138, q139, q140, q141, q142, q143, q144, q145, q146, q147, q148, q149, q150, q151, q152, q153, q154, q155, q156, q157, q158, q159, q160, q161, q162, q163, q164, q165, q166, q167, q168, q169, q170, q171, q172, q173, q174, q175, q176, q177, q178, q179, q180, q181, q182, q183, q184, q185, q186, q187, q188, q189, q190, q191, q192, q193, q194, q195, q196, q197, q198, q199, q200, q201, q202, q203, q204, q205, q206, q207, q208, q209, q210, q211, q212, q213, q214, q215, q216, q217, q218, q219, q220, q221, q222, q223, q224, q225, q226, q227, q228, q229, q230, q231, q232, q233, q234], []⟩ w := by
  have HE : Hid (∀ (d23 d218 d219 d220 d221 d222 d223 d224 d225 d226 d227 d228 d229 d230 d231 d232 d233 : Value) (w' : World), Blk w' D (bvc (outB v)).toArray 23 ∧ w.grownBy w' (some D) → Q (.exit 12) ⟨#[q0, q1, q2, q3, .pointer (some ⟨HB, 0, none⟩), q5, q6, q7, q8, q9, q10, q11, q12, q13, q14, q15, q16, q17, q18, q19, q20, q21, .pointer (some ⟨D, 0, none⟩), d23, q24, q25, q26, q27, q28, q29, q30, q31, q32, q33, q34, q35, q36, q37, q38, q39, q40, q41, q42, q43, q44, q45, q46, q47, q48, q49, q50, q51, q52, q53, q54, q55, q56, q57, q58, q59, q60, q61, q62, q63, q64, q65, q66, q67, q68, q69, q70, q71, q72, q73, q74, q75, q76, q77, q78, q79, q80, q81, q82, q83, q84, q85, q86, q87, q88, q89, q90, q91, q92, q93, q94, q95, q96, q97, q98, q99, q100, q101, q102, q103, q104, q105, q106, q107, q108, q109, q110, q111, q112, q113, q114, q115, q116, q117, q118, q119, q120, q121, q122, q123, q124, q125, q126, q127, q128, q129, q130, q131, q132, q133, q134, q135, q136, q137, q138, q139, q140, q141, q142, q143, q144, q145, q146, q147, q148, q149, q150, q151, q152, q153, q154, q155, q156, q157, q158, q159, q160, q161, q162, q163, q164, q165, q166, q167, q168, q169, q170, q171, q172, q173, q174, q175, q176, q177, q178, q179, q180, q181, q182, q183, q184, q185, q186, q187, q188, q189, q190, q191, q192, q193, q194, q195, q196, q197, q198, q199, q200, q201, q202, q203, q204, q205, q206, q207, q208, q209, q210, q211, q212, q213, q214, q215, q216, q217, d218, d219, d220, d221, d222, d223, d224, d225, d226, d227, d228, d229, d230, d231, d232, d233, q234], []⟩ w') := hexit
  have HS : Hid (Oq w D v 0 Z w) := ⟨hD, World.grownBy.refl _ _, by rw [hZ]; simp, fun j hj => by omega, fun j hj => ⟨0, by rw [hZ]; simp [hj]⟩⟩
  have HH : Hid (Blk w HB (v8c v) 98) := hH
  clear hexit hH hD hZ
  conv => arg 2; arg 1; whnf
  dsimp only
  go_loopw [23] (fun i wr => ∃ (k : Nat) (C : Array Value), k ≤ 32 ∧ i = .int .i64 k ∧ Hid (Oq w D v k C wr)) (fun i _ => 40 - (intOf i).toNat)
  case atStart => exact ⟨0, Z, by omega, rfl, HS⟩
  case round =>
    clear HS
    obtain ⟨k, C, hk, rfl, HR⟩ := hrel
    by_cases hlt : k < 32
    · obtain ⟨x, hx⟩ : ∃ x, x = v.list.getD (k / 4) 0 := ⟨_, rfl⟩
      have h1 : wr.cell? ⟨HB, k / 4, none⟩ = some (c32 x) := HR.out.grown.cell (by rw [HH.out.cell, v8c_get _ _ (by omega), hx]) (by simp; omega)
      obtain ⟨z, hz⟩ := HR.out.all k hlt
      have h2 : wr.cell? ⟨D, k, none⟩ = some (.int .u8 z) := by rw [HR.out.blk.cell, hz]
      have h3 := HR.out.blk.frozen k
      have e1 : ((k : Int) / 4).toNat = k / 4 := by omega
      have hxl := x.isLt
      have HX : Hid (x = v.list.getD (k / 4) 0) := hx
      clear hx hz
      go_wp2
      refine ⟨⟨k + 1, C.setIfInBounds k (.int .u8 ((x.toNat : Int) / 2 ^ (24 - 8 * (k % 4)) % 256)), by omega, by go_num, ?_⟩, by simp [intOf]; omega⟩
      refine HR.out.put hlt _ ?_
      have e := outB_get v (k / 4) (k % 4) (by omega) (by omega)
      rw [show 4 * (k / 4) + k % 4 = k from by omega, ← HX.out] at e
      rw [e]
      exact byte_at x k
    · have hke : k = 32 := by omega
      subst hke
      have he := HR.out.whole
      have HW : Hid (C = (bvc (outB v)).toArray) := he
      clear hlt hk he
      go_wp2
      exact HE.out _ _ _ _ _ _ _ _ _ _ _ _ _ _ _ _ _ wr ⟨by rw [← HW.out]; exact HR.out.blk, HR.out.grown⟩
end Go.Proofs.YtpfknjnigcefgaaGreatDoor
/- The document's own sum: how it begins: the message filled up. -/
namespace Go.Proofs.YtpfknjnigcefgaaGreatDoor
open Go.RowKit
set_option linter.unusedSimpArgs false
set_option linter.unusedVariables false
/-- The rounds' constants as cells. -/
def kcs : Array Value := (KL.map c32).toArray
theorem kcs_get (t : Nat) (ht : t < 64) : kcs[t]? = some (c32 (KT t)) := by
  have hl : KL.length = 64 := rfl
  unfold kcs KT
  rw [List.getElem?_toArray, List.getElem?_map, List.getD, List.getElem?_eq_getElem (by omega)]
  rfl
/-- The world behind the parameters' boxes and the result's. -/
abbrev sumW (w : World) : World := ((w.alloc (.cells (v8c H0) 98)).alloc (.cells kcs 100)).alloc (.cells z32c 23)
/-- What stands while blocks are taken: the eight numbers, the constants, the result's box. -/
structure Su (w : World) (n0 : Nat) (h : V8) (wr : World) : Prop where
  st : Blk wr n0 (v8c h) 98
  k : Blk wr (n0 + 1) kcs 100
  res : Blk wr (n0 + 2) z32c 23
  below : Below n0 w wr
theorem Su.start (w : World) : Su w w.heap.size H0 (sumW w) := by
  have z1 := alloc_size w (.cells (v8c H0) 98)
  have z2 := alloc_size (w.alloc (.cells (v8c H0) 98)) (.cells kcs 100)
  have g2 := World.grownBy_alloc (w.alloc (.cells (v8c H0) 98)) (.cells kcs 100) none
  have g3 := World.grownBy_alloc ((w.alloc (.cells (v8c H0) 98)).alloc (.cells kcs 100)) (.cells z32c 23) none
  refine ⟨Blk.grown (Blk.grown (blk_new _ _) g2 (by simp)) g3 (by simp), ?_, ?_, (((Below.refl _ _).alloc (Nat.le_refl _) _).alloc (by omega) _).alloc (by omega) _⟩
  · have e := blk_new (w.alloc (.cells (v8c H0) 98)) (.cells kcs 100)
    rw [z1] at e
    exact Blk.grown e g3 (by simp)
  · have e := blk_new ((w.alloc (.cells (v8c H0) 98)).alloc (.cells kcs 100)) (.cells z32c 23)
    rw [z2, z1] at e
    exact e
theorem sumW_size (w : World) : (sumW w).heap.size = w.heap.size + 3 := by rw [alloc_size, alloc_size, alloc_size]
theorem Su.more {w : World} {n0 : Nat} {h : V8} {wr wr' : World} (H : Su w n0 h wr) (hb : Below (n0 + 3) wr wr') : Su w n0 h wr' := by
  refine ⟨?_, ?_, ?_, H.below.trans (hb.mono (by omega))⟩
  · unfold Blk; rw [hb.block n0 (by omega)]; exact H.st
  · unfold Blk; rw [hb.block (n0 + 1) (by omega)]; exact H.k
  · unfold Blk; rw [hb.block (n0 + 2) (by omega)]; exact H.res
theorem cells_byl (s : ByteArray) : Lib.strCells s = bvc (byl s) := by
  simp [Lib.strCells, bvc, byl]
theorem bvc_append (a b : List Nat) : bvc (a ++ b) = bvc a ++ bvc b := by simp [bvc]
theorem bvc_length (a : List Nat) : (bvc a).length = a.length := by simp [bvc]
theorem byl_app (a b : ByteArray) : byl (a ++ b) = byl a ++ byl b := by simp [byl]
theorem free_below {B : Nat} {w wr w' : World} {v : Value} (hb : Below B w wr) (hz : B ≤ wr.heap.size) (hg : wr.grownBy w' v.ownBlock) (hv : ∀ k, v.ownBlock = some k → B ≤ k) : Below B w w' :=
  hb.grown hg hz (fun k hk => hv k hk)
/-- The message, filled up to k noughts. -/
def padTo (m : List Nat) (k : Nat) : List Nat := m ++ [128] ++ List.replicate k 0
theorem padTo_succ (m : List Nat) (k : Nat) : padTo m (k + 1) = padTo m k ++ [0] := by
  simp [padTo, List.replicate_succ']
theorem padTo_length (m : List Nat) (k : Nat) : (padTo m k).length = m.length + 1 + k := by simp [padTo]; omega
def slLen : Value → Nat
  | .slice _ n _ => n
  | _ => 0
theorem fix_cells (n : Nat) (h : n < 18446744073709551616) : Lib.strCells ((⟨#[]⟩ : ByteArray) ++ sb (fixN 8 n)) = bvc (fixN 8 n) := by
  rw [show ((⟨#[]⟩ : ByteArray) ++ sb (fixN 8 n)) = sb (fixN 8 n) from ByteArray.empty_append, cells_byl, byl_sb _ (fixN_lt 8 n)]
theorem fix_size (n : Nat) : ((⟨#[]⟩ : ByteArray) ++ sb (fixN 8 n)).size = 8 := by
  rw [show ((⟨#[]⟩ : ByteArray) ++ sb (fixN 8 n)) = sb (fixN 8 n) from ByteArray.empty_append, sb_size, fixN_length]
/-- What stands while blocks are taken: i of them are. -/
structure Sv (w : World) (n0 g : Nat) (pm : List Nat) (i : Nat) (wr : World) : Prop where
  su : Su w n0 (hs pm i) wr
  m : ∀ j, j < pm.length → wr.cell? ⟨g, j, none⟩ = some (.int .u8 (pm.getD j 0 : Nat))
  ge : n0 + 3 ≤ g
  lt : g < wr.heap.size
theorem bvc_getD (m : List Nat) (j : Nat) (h : j < m.length) : (bvc m)[j]? = some (.int .u8 (m.getD j 0 : Nat)) := by
  rw [bvc, List.getElem?_map, List.getD, List.getElem?_eq_getElem h]; rfl
theorem blk_getD (pm : List Nat) (i j : Nat) (hj : j < 64) : (blk pm i).getD j 0 = pm.getD (64 * i + j) 0 := by
  simp only [blk, List.getD]
  rw [List.getElem?_take_of_lt hj, List.getElem?_drop]
theorem Sv.next {w wr w8 w9 : World} {n0 g i : Nat} {pm : List Nat} (H : Sv w n0 g pm i wr) (h8 : Below wr.heap.size wr w8) (h9 : w8.grownBy w9 (some n0)) (hst : Blk w9 n0 (v8c (hs pm (i + 1))) 98) : Sv w n0 g pm (i + 1) w9 := by
  have hlt := H.lt
  have hge := H.ge
  have hz8 := h8.size
  have hz9 := h9.size
  have blk : ∀ b, b < wr.heap.size → b ≠ n0 → w9.heap[b]? = wr.heap[b]? := fun b hb hn => by
    rw [h9.block b (by omega) (by simpa using hn), h8.block b hb]
  refine ⟨⟨hst, ?_, ?_, ?_⟩, fun j hj => ?_, hge, by omega⟩
  · unfold Blk; rw [blk (n0 + 1) (by omega) (by omega)]; exact H.su.k
  · unfold Blk; rw [blk (n0 + 2) (by omega) (by omega)]; exact H.su.res
  · exact (H.su.below.trans (h8.mono (by omega))).grown h9 (by omega) (fun k hk => by cases hk; exact Nat.le_refl _)
  · have e : w9.cell? ⟨g, j, none⟩ = wr.cell? ⟨g, j, none⟩ := by
      simp only [World.cell?, blk g hlt (by omega)]
    rw [e]; exact H.m j hj
theorem below_blk {w w' : World} {B b : Nat} {C : Array Value} {T : TypeId} (hb : Below B w w') (h : Blk w b C T) (hlt : b < B) : Blk w' b C T := by
  unfold Blk; rw [hb.block b hlt]; exact h
theorem z32c_rep : z32c = Array.replicate 32 (Value.int .u8 0) := rfl
end Go.Proofs.YtpfknjnigcefgaaGreatDoor
