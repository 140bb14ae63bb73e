/- The eight numbers as bytes, in the document's own sum. -/
import Derived.Test.YtbfdggkoildfkaaDoorS2o
namespace Go.Proofs.YtbfdggkoildfkaaDoor
open Go.RowKit
set_option linter.unusedSimpArgs false
set_option linter.unusedVariables false
set_option maxHeartbeats 4000000 in
set_option maxRecDepth 100000 in
theorem loop7 (Q : Exit → Act → World → Prop) (HB D : Nat) (v : V8) (Z : Array Value) (w : World) (q0 q1 q2 q3 q5 q6 q7 q8 q9 q10 q11 q12 q13 q14 q15 q16 q17 q18 q19 q20 q21 q24 q25 q26 q27 q28 q29 q30 q31 q32 q33 q34 q35 q36 q37 q38 q39 q40 q41 q42 q43 q44 q45 q46 q47 q48 q49 q50 q51 q52 q53 q54 q55 q56 q57 q58 q59 q60 q61 q62 q63 q64 q65 q66 q67 q68 q69 q70 q71 q72 q73 q74 q75 q76 q77 q78 q79 q80 q81 q82 q83 q84 q85 q86 q87 q88 q89 q90 q91 q92 q93 q94 q95 q96 q97 q98 q99 q100 q101 q102 q103 q104 q105 q106 q107 q108 q109 q110 q111 q112 q113 q114 q115 q116 q117 q118 q119 q120 q121 q122 q123 q124 q125 q126 q127 q128 q129 q130 q131 q132 q133 q134 q135 q136 q137 q138 q139 q140 q141 q142 q143 q144 q145 q146 q147 q148 q149 q150 q151 q152 q153 q154 q155 q156 q157 q158 q159 q160 q161 q162 q163 q164 q165 q166 q167 q168 q169 q170 q171 q172 q173 q174 q175 q176 q177 q178 q179 q180 q181 q182 q183 q184 q185 q186 q187 q188 q189 q190 q191 q192 q193 q194 q195 q196 q197 q198 q199 q200 q201 q202 q203 q204 q205 q206 q207 q208 q209 q210 q211 q212 q213 q214 q215 q216 q217 q218 q219 q220 q221 q222 q223 q224 q225 q226 q227 q228 q229 q230 q231 q232 q233 q234 : Value)
    (hH : Blk w HB (v8c v) 49) (hZ : Z = Array.replicate 32 (.int .u8 0)) (hD : Blk w D Z 23) (hHD : HB ≠ D)
    (hexit : ∀ (d23 d218 d219 d220 d221 d222 d223 d224 d225 d226 d227 d228 d229 d230 d231 d232 d233 : Value) (w' : World), Blk w' D (bvc (outB v)).toArray 23 ∧ w.grownBy w' (some D) → Q (.exit 12) ⟨#[q0, q1, q2, q3, .pointer (some ⟨HB, 0, none⟩), q5, q6, q7, q8, q9, q10, q11, q12, q13, q14, q15, q16, q17, q18, q19, q20, q21, .pointer (some ⟨D, 0, none⟩), d23, q24, q25, q26, q27, q28, q29, q30, q31, q32, q33, q34, q35, q36, q37, q38, q39, q40, q41, q42, q43, q44, q45, q46, q47, q48, q49, q50, q51, q52, q53, q54, q55, q56, q57, q58, q59, q60, q61, q62, q63, q64, q65, q66, q67, q68, q69, q70, q71, q72, q73, q74, q75, q76, q77, q78, q79, q80, q81, q82, q83, q84, q85, q86, q87, q88, q89, q90, q91, q92, q93, q94, q95, q96, q97, q98, q99, q100, q101, q102, q103, q104, q105, q106, q107, q108, q109, q110, q111, q112, q113, q114, q115, q116, q117, q118, q119, q120, q121, q122, q123, q124, q125, q126, q127, q128, q129, q130, q131, q132, q133, q134, q135, q136, q137, q138, q139, q140, q141, q142, q143, q144, q145, q146, q147, q148, q149, q150, q151, q152, q153, q154, q155, q156, q157, q158, q159, q160, q161, q162, q163, q164, q165, q166, q167, q168, q169, q170, q171, q172, q173, q174, q175, q176, q177, q178, q179, q180, q181, q182, q183, q184, q185, q186, q187, q188, q189, q190, q191, q192, q193, q194, q195, q196, q197, q198, q199, q200, q201, q202, q203, q204, q205, q206, q207, q208, q209, q210, q211, q212, q213, q214, q215, q216, q217, d218, d219, d220, d221, d222, d223, d224, d225, d226, d227, d228, d229, d230, d231, d232, d233, q234], []⟩ w') :
    Code.wp Tryd.prog (Code.loop (sumLoop 6)) Q ⟨#[q0, q1, q2, q3, .pointer (some ⟨HB, 0, none⟩), q5, q6, q7, q8, q9, q10, q11, q12, q13, q14, q15, q16, q17, q18, q19, q20, q21, .pointer (some ⟨D, 0, none⟩), .int .i64 0, q24, q25, q26, q27, q28, q29, q30, q31, q32, q33, q34, q35, q36, q37, q38, q39, q40, q41, q42, q43, q44, q45, q46, q47, q48, q49, q50, q51, q52, q53, q54, q55, q56, q57, q58, q59, q60, q61, q62, q63, q64, q65, q66, q67, q68, q69, q70, q71, q72, q73, q74, q75, q76, q77, q78, q79, q80, q81, q82, q83, q84, q85, q86, q87, q88, q89, q90, q91, q92, q93, q94, q95, q96, q97, q98, q99, q100, q101, q102, q103, q104, q105, q106, q107, q108, q109, q110, q111, q112, q113, q114, q115, q116, q117, q118, q119, q120, q121, q122, q123, q124, q125, q126, q127, q128, q129, q130, q131, q132, q133, q134, q135, q136, q137, q138, q139, q140, q141, q142, q143, q144, q145, q146, q147, q148, q149, q150, q151, q152, q153, q154, q155, q156, q157, q158, q159, q160, q161, q162, q163, q164, q165, q166, q167, q168, q169, q170, q171, q172, q173, q174, q175, q176, q177, q178, q179, q180, q181, q182, q183, q184, q185, q186, q187, q188, q189, q190, q191, q192, q193, q194, q195, q196, q197, q198, q199, q200, q201, q202, q203, q204, q205, q206, q207, q208, q209, q210, q211, q212, q213, q214, q215, q216, q217, q218, q219, q220, q221, q222, q223, q224, q225, q226, q227, q228, q229, q230, q231, q232, q233, q234], []⟩ w := by
  have HE : Hid (∀ (d23 d218 d219 d220 d221 d222 d223 d224 d225 d226 d227 d228 d229 d230 d231 d232 d233 : Value) (w' : World), Blk w' D (bvc (outB v)).toArray 23 ∧ w.grownBy w' (some D) → Q (.exit 12) ⟨#[q0, q1, q2, q3, .pointer (some ⟨HB, 0, none⟩), q5, q6, q7, q8, q9, q10, q11, q12, q13, q14, q15, q16, q17, q18, q19, q20, q21, .pointer (some ⟨D, 0, none⟩), d23, q24, q25, q26, q27, q28, q29, q30, q31, q32, q33, q34, q35, q36, q37, q38, q39, q40, q41, q42, q43, q44, q45, q46, q47, q48, q49, q50, q51, q52, q53, q54, q55, q56, q57, q58, q59, q60, q61, q62, q63, q64, q65, q66, q67, q68, q69, q70, q71, q72, q73, q74, q75, q76, q77, q78, q79, q80, q81, q82, q83, q84, q85, q86, q87, q88, q89, q90, q91, q92, q93, q94, q95, q96, q97, q98, q99, q100, q101, q102, q103, q104, q105, q106, q107, q108, q109, q110, q111, q112, q113, q114, q115, q116, q117, q118, q119, q120, q121, q122, q123, q124, q125, q126, q127, q128, q129, q130, q131, q132, q133, q134, q135, q136, q137, q138, q139, q140, q141, q142, q143, q144, q145, q146, q147, q148, q149, q150, q151, q152, q153, q154, q155, q156, q157, q158, q159, q160, q161, q162, q163, q164, q165, q166, q167, q168, q169, q170, q171, q172, q173, q174, q175, q176, q177, q178, q179, q180, q181, q182, q183, q184, q185, q186, q187, q188, q189, q190, q191, q192, q193, q194, q195, q196, q197, q198, q199, q200, q201, q202, q203, q204, q205, q206, q207, q208, q209, q210, q211, q212, q213, q214, q215, q216, q217, d218, d219, d220, d221, d222, d223, d224, d225, d226, d227, d228, d229, d230, d231, d232, d233, q234], []⟩ w') := hexit
  have HS : Hid (Oq w D v 0 Z w) := ⟨hD, World.grownBy.refl _ _, by rw [hZ]; simp, fun j hj => by omega, fun j hj => ⟨0, by rw [hZ]; simp [hj]⟩⟩
  have HH : Hid (Blk w HB (v8c v) 49) := hH
  clear hexit hH hD hZ
  conv => arg 2; arg 1; whnf
  dsimp only
  go_loopw [23] (fun i wr => ∃ (k : Nat) (C : Array Value), k ≤ 32 ∧ i = .int .i64 k ∧ Hid (Oq w D v k C wr)) (fun i _ => 40 - (intOf i).toNat)
  case atStart => exact ⟨0, Z, by omega, rfl, HS⟩
  case round =>
    clear HS
    obtain ⟨k, C, hk, rfl, HR⟩ := hrel
    by_cases hlt : k < 32
    · obtain ⟨x, hx⟩ : ∃ x, x = v.list.getD (k / 4) 0 := ⟨_, rfl⟩
      have h1 : wr.cell? ⟨HB, k / 4, none⟩ = some (c32 x) := HR.out.grown.cell (by rw [HH.out.cell, v8c_get _ _ (by omega), hx]) (by simp; omega)
      obtain ⟨z, hz⟩ := HR.out.all k hlt
      have h2 : wr.cell? ⟨D, k, none⟩ = some (.int .u8 z) := by rw [HR.out.blk.cell, hz]
      have h3 := HR.out.blk.frozen k
      have e1 : ((k : Int) / 4).toNat = k / 4 := by omega
      have hxl := x.isLt
      have HX : Hid (x = v.list.getD (k / 4) 0) := hx
      clear hx hz
      go_wp2
      refine ⟨⟨k + 1, C.setIfInBounds k (.int .u8 ((x.toNat : Int) / 2 ^ (24 - 8 * (k % 4)) % 256)), by omega, by go_num, ?_⟩, by simp [intOf]; omega⟩
      refine HR.out.put hlt _ ?_
      have e := outB_get v (k / 4) (k % 4) (by omega) (by omega)
      rw [show 4 * (k / 4) + k % 4 = k from by omega, ← HX.out] at e
      rw [e]
      exact byte_at x k
    · have hke : k = 32 := by omega
      subst hke
      have he := HR.out.whole
      have HW : Hid (C = (bvc (outB v)).toArray) := he
      clear hlt hk he
      go_wp2
      exact HE.out _ _ _ _ _ _ _ _ _ _ _ _ _ _ _ _ _ wr ⟨by rw [← HW.out]; exact HR.out.blk, HR.out.grown⟩
end Go.Proofs.YtbfdggkoildfkaaDoor
