/- The eight numbers are added, in the document's own sum. -/
import Derived.Test.YtbfdggkoildfkaaDoorS4
namespace Go.Proofs.YtbfdggkoildfkaaDoor
open Go.RowKit
set_option linter.unusedSimpArgs false
set_option linter.unusedVariables false
set_option maxHeartbeats 4000000 in
set_option maxRecDepth 100000 in
theorem loop6 (Q : Exit → Act → World → Prop) (HB V : Nat) (h v : V8) (w : World) (q0 q1 q2 q3 q5 q6 q7 q8 q9 q10 q11 q12 q13 q14 q16 q17 q18 q19 q20 q22 q23 q24 q25 q26 q27 q28 q29 q30 q31 q32 q33 q34 q35 q36 q37 q38 q39 q40 q41 q42 q43 q44 q45 q46 q47 q48 q49 q50 q51 q52 q53 q54 q55 q56 q57 q58 q59 q60 q61 q62 q63 q64 q65 q66 q67 q68 q69 q70 q71 q72 q73 q74 q75 q76 q77 q78 q79 q80 q81 q82 q83 q84 q85 q86 q87 q88 q89 q90 q91 q92 q93 q94 q95 q96 q97 q98 q99 q100 q101 q102 q103 q104 q105 q106 q107 q108 q109 q110 q111 q112 q113 q114 q115 q116 q117 q118 q119 q120 q121 q122 q123 q124 q125 q126 q127 q128 q129 q130 q131 q132 q133 q134 q135 q136 q137 q138 q139 q140 q141 q142 q143 q144 q145 q146 q147 q148 q149 q150 q151 q152 q153 q154 q155 q156 q157 q158 q159 q160 q161 q162 q163 q164 q165 q166 q167 q168 q169 q170 q171 q172 q173 q174 q175 q176 q177 q178 q179 q180 q181 q182 q183 q184 q185 q186 q187 q188 q189 q190 q191 q192 q193 q194 q195 q196 q197 q198 q199 q200 q201 q202 q203 q204 q205 q206 q207 q208 q209 q210 q211 q212 q213 q214 q215 q216 q217 q218 q219 q220 q221 q222 q223 q224 q225 q226 q227 q228 q229 q230 q231 q232 q233 q234 : Value)
    (hH : Blk w HB (v8c h) 49) (hV : Blk w V (v8c v) 49) (hHV : HB ≠ V)
    (hexit : ∀ (d21 d205 d206 d207 d208 d209 d210 d211 d212 d213 d214 d215 d216 d217 : Value) (w' : World), Blk w' HB (v8c (h.add v)) 49 ∧ w.grownBy w' (some HB) → Q (.exit 10) ⟨#[q0, q1, q2, q3, .pointer (some ⟨HB, 0, none⟩), q5, q6, q7, q8, q9, q10, q11, q12, q13, q14, .pointer (some ⟨V, 0, none⟩), q16, q17, q18, q19, q20, d21, q22, q23, q24, q25, q26, q27, q28, q29, q30, q31, q32, q33, q34, q35, q36, q37, q38, q39, q40, q41, q42, q43, q44, q45, q46, q47, q48, q49, q50, q51, q52, q53, q54, q55, q56, q57, q58, q59, q60, q61, q62, q63, q64, q65, q66, q67, q68, q69, q70, q71, q72, q73, q74, q75, q76, q77, q78, q79, q80, q81, q82, q83, q84, q85, q86, q87, q88, q89, q90, q91, q92, q93, q94, q95, q96, q97, q98, q99, q100, q101, q102, q103, q104, q105, q106, q107, q108, q109, q110, q111, q112, q113, q114, q115, q116, q117, q118, q119, q120, q121, q122, q123, q124, q125, q126, q127, q128, q129, q130, q131, q132, q133, q134, q135, q136, q137, q138, q139, q140, q141, q142, q143, q144, q145, q146, q147, q148, q149, q150, q151, q152, q153, q154, q155, q156, q157, q158, q159, q160, q161, q162, q163, q164, q165, q166, q167, q168, q169, q170, q171, q172, q173, q174, q175, q176, q177, q178, q179, q180, q181, q182, q183, q184, q185, q186, q187, q188, q189, q190, q191, q192, q193, q194, q195, q196, q197, q198, q199, q200, q201, q202, q203, q204, d205, d206, d207, d208, d209, d210, d211, d212, d213, d214, d215, d216, d217, q218, q219, q220, q221, q222, q223, q224, q225, q226, q227, q228, q229, q230, q231, q232, q233, q234], []⟩ w') :
    Code.wp Tryd.prog (Code.loop (sumLoop 5)) Q ⟨#[q0, q1, q2, q3, .pointer (some ⟨HB, 0, none⟩), q5, q6, q7, q8, q9, q10, q11, q12, q13, q14, .pointer (some ⟨V, 0, none⟩), q16, q17, q18, q19, q20, .int .i64 0, q22, q23, q24, q25, q26, q27, q28, q29, q30, q31, q32, q33, q34, q35, q36, q37, q38, q39, q40, q41, q42, q43, q44, q45, q46, q47, q48, q49, q50, q51, q52, q53, q54, q55, q56, q57, q58, q59, q60, q61, q62, q63, q64, q65, q66, q67, q68, q69, q70, q71, q72, q73, q74, q75, q76, q77, q78, q79, q80, q81, q82, q83, q84, q85, q86, q87, q88, q89, q90, q91, q92, q93, q94, q95, q96, q97, q98, q99, q100, q101, q102, q103, q104, q105, q106, q107, q108, q109, q110, q111, q112, q113, q114, q115, q116, q117, q118, q119, q120, q121, q122, q123, q124, q125, q126, q127, q128, q129, q130, q131, q132, q133, q134, q135, q136, q137, q138, q139, q140, q141, q142, q143, q144, q145, q146, q147, q148, q149, q150, q151, q152, q153, q154, q155, q156, q157, q158, q159, q160, q161, q162, q163, q164, q165, q166, q167, q168, q169, q170, q171, q172, q173, q174, q175, q176, q177, q178, q179, q180, q181, q182, q183, q184, q185, q186, q187, q188, q189, q190, q191, q192, q193, q194, q195, q196, q197, q198, q199, q200, q201, q202, q203, q204, q205, q206, q207, q208, q209, q210, q211, q212, q213, q214, q215, q216, q217, q218, q219, q220, q221, q222, q223, q224, q225, q226, q227, q228, q229, q230, q231, q232, q233, q234], []⟩ w := by
  have HE : Hid (∀ (d21 d205 d206 d207 d208 d209 d210 d211 d212 d213 d214 d215 d216 d217 : Value) (w' : World), Blk w' HB (v8c (h.add v)) 49 ∧ w.grownBy w' (some HB) → Q (.exit 10) ⟨#[q0, q1, q2, q3, .pointer (some ⟨HB, 0, none⟩), q5, q6, q7, q8, q9, q10, q11, q12, q13, q14, .pointer (some ⟨V, 0, none⟩), q16, q17, q18, q19, q20, d21, q22, q23, q24, q25, q26, q27, q28, q29, q30, q31, q32, q33, q34, q35, q36, q37, q38, q39, q40, q41, q42, q43, q44, q45, q46, q47, q48, q49, q50, q51, q52, q53, q54, q55, q56, q57, q58, q59, q60, q61, q62, q63, q64, q65, q66, q67, q68, q69, q70, q71, q72, q73, q74, q75, q76, q77, q78, q79, q80, q81, q82, q83, q84, q85, q86, q87, q88, q89, q90, q91, q92, q93, q94, q95, q96, q97, q98, q99, q100, q101, q102, q103, q104, q105, q106, q107, q108, q109, q110, q111, q112, q113, q114, q115, q116, q117, q118, q119, q120, q121, q122, q123, q124, q125, q126, q127, q128, q129, q130, q131, q132, q133, q134, q135, q136, q137, q138, q139, q140, q141, q142, q143, q144, q145, q146, q147, q148, q149, q150, q151, q152, q153, q154, q155, q156, q157, q158, q159, q160, q161, q162, q163, q164, q165, q166, q167, q168, q169, q170, q171, q172, q173, q174, q175, q176, q177, q178, q179, q180, q181, q182, q183, q184, q185, q186, q187, q188, q189, q190, q191, q192, q193, q194, q195, q196, q197, q198, q199, q200, q201, q202, q203, q204, d205, d206, d207, d208, d209, d210, d211, d212, d213, d214, d215, d216, d217, q218, q219, q220, q221, q222, q223, q224, q225, q226, q227, q228, q229, q230, q231, q232, q233, q234], []⟩ w') := hexit
  have HS : Hid (Aq w HB h v 0 h w) := ⟨hH, World.grownBy.refl _ _, fun j hj => by rw [if_neg (by omega)]⟩
  have HV : Hid (Blk w V (v8c v) 49) := hV
  clear hexit hH hV
  conv => arg 2; arg 1; whnf
  dsimp only
  go_loopw [21] (fun i wr => ∃ (k : Nat) (g : V8), k ≤ 8 ∧ i = .int .i64 k ∧ Hid (Aq w HB h v k g wr)) (fun i _ => 20 - (intOf i).toNat)
  case atStart => exact ⟨0, h, by omega, rfl, HS⟩
  case round =>
    clear HS
    obtain ⟨k, g, hk, rfl, HR⟩ := hrel
    by_cases hlt : k < 8
    · obtain ⟨x, hx⟩ : ∃ x, x = g.list.getD k 0 := ⟨_, rfl⟩
      obtain ⟨y, hy⟩ : ∃ y, y = v.list.getD k 0 := ⟨_, rfl⟩
      have h1 : wr.cell? ⟨HB, k, none⟩ = some (c32 x) := by rw [HR.out.st.cell, v8c_get _ _ hlt, hx]
      have h2 := HR.out.st.frozen k
      have h3 : wr.cell? ⟨V, k, none⟩ = some (c32 y) := HR.out.grown.cell (by rw [HV.out.cell, v8c_get _ _ hlt, hy]) (by simp; omega)
      have HXY : Hid (x = g.list.getD k 0 ∧ y = v.list.getD k 0) := ⟨hx, hy⟩
      clear hx hy
      go_wp2
      refine wp_region_tail (fun W => ∃ n, W = wr.drewN n) 9 (by kernel_rfl) (by kernel_rfl) ⟨1, rfl⟩ ?_
      simp only [List.take_succ_cons, List.take_zero, List.drop_succ_cons, List.drop_zero]
      repeat (go_big_quiet_step (fail))
      refine wpQuiet_nil ?_
      intro w9 hw9
      obtain ⟨nq, rfl⟩ := hw9
      go_wp2
      go_roundw
      case rel =>
        refine ⟨k + 1, g.setk k (x + y), by omega, by go_num, ?_⟩
        rw [add32, HXY.out.1, HXY.out.2]
        exact (HR.out.drewN nq).put hlt
      case measure => simp [intOf]; omega
    · have hke : k = 8 := by omega
      subst hke
      have he : g = h.add v := v8_ext _ _ (fun j hj => by rw [HR.out.done j hj, if_pos hj, add_get _ _ _ hj])
      have HX : Hid (g = h.add v) := he
      clear hlt hk he
      go_wp2
      exact HE.out _ _ _ _ _ _ _ _ _ _ _ _ _ _ wr ⟨by rw [← HX.out]; exact HR.out.st, HR.out.grown⟩
end Go.Proofs.YtbfdggkoildfkaaDoor
