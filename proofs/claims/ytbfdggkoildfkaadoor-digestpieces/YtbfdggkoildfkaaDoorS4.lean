/- The later numbers of a block, in the document's own sum. -/
import Derived.Test.YtbfdggkoildfkaaDoorS3
namespace Go.Proofs.YtbfdggkoildfkaaDoor
open Go.RowKit
set_option linter.unusedSimpArgs false
set_option linter.unusedVariables false
set_option maxHeartbeats 4000000 in
set_option maxRecDepth 100000 in
theorem loop4 (Q : Exit → Act → World → Prop) (X : Nat) (m : List Nat) (C0 : Array Value) (w0 : World) (w : World) (q0 q1 q2 q3 q4 q5 q6 q7 q8 q10 q11 q13 q14 q15 q16 q17 q18 q19 q20 q21 q22 q23 q24 q25 q26 q27 q28 q29 q30 q31 q32 q33 q34 q35 q36 q37 q38 q39 q40 q41 q42 q43 q44 q45 q46 q47 q48 q49 q50 q51 q52 q53 q54 q55 q56 q57 q58 q59 q60 q61 q62 q63 q64 q65 q66 q67 q68 q69 q70 q71 q72 q73 q74 q75 q76 q77 q78 q79 q80 q81 q82 q83 q84 q85 q86 q87 q88 q89 q90 q91 q92 q93 q94 q95 q96 q97 q98 q99 q100 q101 q102 q103 q104 q105 q106 q107 q108 q109 q110 q111 q112 q113 q114 q115 q116 q117 q118 q119 q120 q121 q122 q123 q124 q125 q126 q127 q128 q129 q130 q131 q132 q133 q134 q135 q136 q137 q138 q139 q140 q141 q142 q143 q144 q145 q146 q147 q148 q149 q150 q151 q152 q153 q154 q155 q156 q157 q158 q159 q160 q161 q162 q163 q164 q165 q166 q167 q168 q169 q170 q171 q172 q173 q174 q175 q176 q177 q178 q179 q180 q181 q182 q183 q184 q185 q186 q187 q188 q189 q190 q191 q192 q193 q194 q195 q196 q197 q198 q199 q200 q201 q202 q203 q204 q205 q206 q207 q208 q209 q210 q211 q212 q213 q214 q215 q216 q217 q218 q219 q220 q221 q222 q223 q224 q225 q226 q227 q228 q229 q230 q231 q232 q233 q234 : Value)
    (hS : Sq w0 X m 16 C0 w)
    (hexit : ∀ (d12 d13 d14 d81 d82 d83 d84 d85 d86 d87 d88 d89 d90 d91 d92 d93 d94 d95 d96 d97 d98 d99 d100 d101 d102 d103 d104 d105 d106 d107 d108 d109 d110 d111 d112 d113 d114 d115 d116 d117 d118 d119 d120 d121 : Value) (C : Array Value) (w' : World), Sq w0 X m 64 C w' → Q (.exit 6) ⟨#[q0, q1, q2, q3, q4, q5, q6, q7, q8, .pointer (some ⟨X, 0, none⟩), q10, q11, d12, d13, d14, q15, q16, q17, q18, q19, q20, q21, q22, q23, q24, q25, q26, q27, q28, q29, q30, q31, q32, q33, q34, q35, q36, q37, q38, q39, q40, q41, q42, q43, q44, q45, q46, q47, q48, q49, q50, q51, q52, q53, q54, q55, q56, q57, q58, q59, q60, q61, q62, q63, q64, q65, q66, q67, q68, q69, q70, q71, q72, q73, q74, q75, q76, q77, q78, q79, q80, d81, d82, d83, d84, d85, d86, d87, d88, d89, d90, d91, d92, d93, d94, d95, d96, d97, d98, d99, d100, d101, d102, d103, d104, d105, d106, d107, d108, d109, d110, d111, d112, d113, d114, d115, d116, d117, d118, d119, d120, d121, q122, q123, q124, q125, q126, q127, q128, q129, q130, q131, q132, q133, q134, q135, q136, q137, q138, q139, q140, q141, q142, q143, q144, q145, q146, q147, q148, q149, q150, q151, q152, q153, q154, q155, q156, q157, q158, q159, q160, q161, q162, q163, q164, q165, q166, q167, q168, q169, q170, q171, q172, q173, q174, q175, q176, q177, q178, q179, q180, q181, q182, q183, q184, q185, q186, q187, q188, q189, q190, q191, q192, q193, q194, q195, q196, q197, q198, q199, q200, q201, q202, q203, q204, q205, q206, q207, q208, q209, q210, q211, q212, q213, q214, q215, q216, q217, q218, q219, q220, q221, q222, q223, q224, q225, q226, q227, q228, q229, q230, q231, q232, q233, q234], []⟩ w') :
    Code.wp Tryd.prog (Code.loop (sumLoop 3)) Q ⟨#[q0, q1, q2, q3, q4, q5, q6, q7, q8, .pointer (some ⟨X, 0, none⟩), q10, q11, .int .i64 16, q13, q14, q15, q16, q17, q18, q19, q20, q21, q22, q23, q24, q25, q26, q27, q28, q29, q30, q31, q32, q33, q34, q35, q36, q37, q38, q39, q40, q41, q42, q43, q44, q45, q46, q47, q48, q49, q50, q51, q52, q53, q54, q55, q56, q57, q58, q59, q60, q61, q62, q63, q64, q65, q66, q67, q68, q69, q70, q71, q72, q73, q74, q75, q76, q77, q78, q79, q80, q81, q82, q83, q84, q85, q86, q87, q88, q89, q90, q91, q92, q93, q94, q95, q96, q97, q98, q99, q100, q101, q102, q103, q104, q105, q106, q107, q108, q109, q110, q111, q112, q113, q114, q115, q116, q117, q118, q119, q120, q121, q122, q123, q124, q125, q126, q127, q128, q129, q130, q131, q132, q133, q134, q135, q136, q137, q138, q139, q140, q141, q142, q143, q144, q145, q146, q147, q148, q149, q150, q151, q152, q153, q154, q155, q156, q157, q158, q159, q160, q161, q162, q163, q164, q165, q166, q167, q168, q169, q170, q171, q172, q173, q174, q175, q176, q177, q178, q179, q180, q181, q182, q183, q184, q185, q186, q187, q188, q189, q190, q191, q192, q193, q194, q195, q196, q197, q198, q199, q200, q201, q202, q203, q204, q205, q206, q207, q208, q209, q210, q211, q212, q213, q214, q215, q216, q217, q218, q219, q220, q221, q222, q223, q224, q225, q226, q227, q228, q229, q230, q231, q232, q233, q234], []⟩ w := by
  have HE : Hid (∀ (d12 d13 d14 d81 d82 d83 d84 d85 d86 d87 d88 d89 d90 d91 d92 d93 d94 d95 d96 d97 d98 d99 d100 d101 d102 d103 d104 d105 d106 d107 d108 d109 d110 d111 d112 d113 d114 d115 d116 d117 d118 d119 d120 d121 : Value) (C : Array Value) (w' : World), Sq w0 X m 64 C w' → Q (.exit 6) ⟨#[q0, q1, q2, q3, q4, q5, q6, q7, q8, .pointer (some ⟨X, 0, none⟩), q10, q11, d12, d13, d14, q15, q16, q17, q18, q19, q20, q21, q22, q23, q24, q25, q26, q27, q28, q29, q30, q31, q32, q33, q34, q35, q36, q37, q38, q39, q40, q41, q42, q43, q44, q45, q46, q47, q48, q49, q50, q51, q52, q53, q54, q55, q56, q57, q58, q59, q60, q61, q62, q63, q64, q65, q66, q67, q68, q69, q70, q71, q72, q73, q74, q75, q76, q77, q78, q79, q80, d81, d82, d83, d84, d85, d86, d87, d88, d89, d90, d91, d92, d93, d94, d95, d96, d97, d98, d99, d100, d101, d102, d103, d104, d105, d106, d107, d108, d109, d110, d111, d112, d113, d114, d115, d116, d117, d118, d119, d120, d121, q122, q123, q124, q125, q126, q127, q128, q129, q130, q131, q132, q133, q134, q135, q136, q137, q138, q139, q140, q141, q142, q143, q144, q145, q146, q147, q148, q149, q150, q151, q152, q153, q154, q155, q156, q157, q158, q159, q160, q161, q162, q163, q164, q165, q166, q167, q168, q169, q170, q171, q172, q173, q174, q175, q176, q177, q178, q179, q180, q181, q182, q183, q184, q185, q186, q187, q188, q189, q190, q191, q192, q193, q194, q195, q196, q197, q198, q199, q200, q201, q202, q203, q204, q205, q206, q207, q208, q209, q210, q211, q212, q213, q214, q215, q216, q217, q218, q219, q220, q221, q222, q223, q224, q225, q226, q227, q228, q229, q230, q231, q232, q233, q234], []⟩ w') := hexit
  have HS : Hid (Sq w0 X m 16 C0 w) := hS
  clear hexit hS
  conv => arg 2; arg 1; whnf
  dsimp only
  go_loopw [12] (fun i wr => ∃ (k : Nat) (C : Array Value), 16 ≤ k ∧ k ≤ 64 ∧ i = .int .i64 k ∧ Hid (Sq w0 X m k C wr)) (fun i _ => 70 - (intOf i).toNat)
  case atStart => exact ⟨16, C0, by omega, by omega, rfl, HS⟩
  case round =>
    clear HS
    obtain ⟨k, C, hk0, hk, rfl, HR⟩ := hrel
    by_cases hlt : k < 64
    · obtain ⟨x0, hx0⟩ := HR.out.all k (by omega)
      have h4 : wr.cell? ⟨X, k, none⟩ = some (c32 x0) := by rw [HR.out.blk.cell, hx0]
      have h5 := HR.out.blk.frozen k
      obtain ⟨y0, h0, Y0⟩ := HR.out.word (k - 15) (by omega)
      obtain ⟨y1, h1, Y1⟩ := HR.out.word (k - 2) (by omega)
      obtain ⟨y2, h2, Y2⟩ := HR.out.word (k - 7) (by omega)
      obtain ⟨y3, h3, Y3⟩ := HR.out.word (k - 16) (by omega)
      clear hx0
      have e0 : ((k : Int) - 15).toNat = k - 15 := by omega
      have e1 : ((k : Int) - 2).toNat = k - 2 := by omega
      have e2 : ((k : Int) - 7).toNat = k - 7 := by omega
      have e3 : ((k : Int) - 16).toNat = k - 16 := by omega
      go_wp2
      refine wp_region_tail (fun W => ∃ n, W = wr.drewN n) 29 (by kernel_rfl) (by kernel_rfl) ⟨1, rfl⟩ ?_
      simp only [List.take_succ_cons, List.take_zero, List.drop_succ_cons, List.drop_zero]
      repeat (go_big_quiet_step ((go_at_call 42; exact (turn_int _ _ _ (by omega) (by omega)).mono (fun _ _ h => ⟨h.1, drewN_more h.2⟩))))
      refine wpQuiet_nil ?_
      intro w9 hw9
      obtain ⟨nq, rfl⟩ := hw9
      go_wp2
      go_roundw
      case rel =>
        refine ⟨k + 1, C.setIfInBounds k (c32 (sgH y1 + y2 + sgL y0 + y3)), by omega, by omega, by go_num, ?_⟩
        rw [wn_raw]
        refine (HR.out.drewN _).put hlt _ ?_
        rw [sch_get m k 64 hlt, if_neg (by omega), wnext, Y0.out, Y1.out, Y2.out, Y3.out]
        simp only [sch_get m (k - 2) 64 (by omega), sch_get m (k - 7) 64 (by omega), sch_get m (k - 15) 64 (by omega), sch_get m (k - 16) 64 (by omega), sch_get m (k - 2) k (by omega), sch_get m (k - 7) k (by omega), sch_get m (k - 15) k (by omega), sch_get m (k - 16) k (by omega)]
      case measure => simp [intOf]; omega
    · have hke : k = 64 := by omega
      subst hke
      clear hlt hk hk0
      go_wp2
      exact HE.out _ _ _ _ _ _ _ _ _ _ _ _ _ _ _ _ _ _ _ _ _ _ _ _ _ _ _ _ _ _ _ _ _ _ _ _ _ _ _ _ _ _ _ _ C wr HR.out
end Go.Proofs.YtbfdggkoildfkaaDoor
