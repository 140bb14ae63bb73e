import Derived.Test.YtpfknjnigcefgaaGreatDoorY37
/- The later numbers of a block, in the document's own sum. -/
namespace Go.Proofs.YtpfknjnigcefgaaGreatDoor
open Go.RowKit
set_option linter.unusedSimpArgs false
set_option linter.unusedVariables false
set_option maxHeartbeats 4000000 in
set_option maxRecDepth 100000 in
theorem loop4 (Q : Exit → Act → World → Prop) (X : Nat) (m : List Nat) (C0 : Array Value) (w0 : World) (w : World) (q0 q1 q2 q3 q4 q5 q6 q7 q8 q10 q11 q13 q14 q15 q16 q17 q18 q19 q20 q21 q22 q23 q24 q25 q26 q27 q28 q29 q30 q31 q32 q33 q34 q35 q36 q37 q38 q39 q40 q41 q42 q43 q44 q45 q46 q47 q48 q49 q50 q51 q52 q53 q54 q55 q56 q57 q58 q59 q60 q61 q62 q63 q64 q65 q66 q67 q68 q69 q70 q71 q72 q73 q74 q75 q76 q77 q78 q79 q80 q81 q82 q83 q84 q85 q86 q87 q88 q89 q90 q91 q92 q93 q94 q95 q96 q97 q98 q99 q100 q101 q102 q103 q104 q105 q106 q107 q108 q109 q110 q111 q112 q113 q114 q115 q116 q117 q118 q119 q120 q121 q122 q123 q124 q125 q126 q127 q128 q129 q130 q131 q132 q133 q134 q135 q136 q137 q138 q139 q140 q141 q142 q143 q144 q145 q146 q147 q148 q149 q150 q151 q152 q153 q154 q155 q156 q157 q158 q159 q160 q161 q162 q163 q164 q165 q166 q167 q168 q169 q170 q171 q172 q173 q174 q175 q176 q177 q178 q179 q180 q181 q182 q183 q184 q185 q186 q187 q188 q189 q190 q191 q192 q193 q194 q195 q196 q197 q198 q199 q200 q201 q202 q203 q204 q205 q206 q207 q208 q209 q210 q211 q212 q213 q214 q215 q216 q217 q218 q219 q220 q221 q222 q223 q224 q225 q226 q227 q228 q229 q230 q231 q232 q233 q234 : Value)
    (hS : Sq w0 X m 16 C0 w)
    (hexit : ∀ (d12 d13 d14 d81 d82 d83 d84 d85 d86 d87 d88 d89 d90 d91 d92 d93 d94 d95 d96 d97 d98 d99 d100 d101 d102 d103 d104 d105 d106 d107 d108 d109 d110 d111 d112 d113 d114 d115 d116 d117 d118 d119 d120 d121 : Value) (C : Array Value) (w' : World), Sq w0 X m 64 C w' → Q (.exit 6) ⟨#[q0, q1, q2, q3, q4, q5, q6, q7, q8, .pointer (some ⟨X, 0, none⟩), q10, q11, d12, d13, d14, q15, q16, q17, q18, q19, q20, q21, q22, q23, q24, q25, q26, q27, q28, q29, q30, q31, q32, q33, q34, q35, q36, q37, q38, q39, q40, q41, q42, q43, q44, q45, q46, q47, q48, q49, q50, q51, q52, q53, q54, q55, q56, q57, q58, q59, q60, q61, q62, q63, q64, q65, q66, q67, q68, q69, q70, q71, q72, q73, q74, q75, q76, q77, q78, q79, q80, d81, d82, d83, d84, d85, d86, d87, d88, d89, d90, d91, d92, d93, d94, d95, d96, d97, d98, d99, d100, d101, d102, d103, d104, d105, d106, d107, d108, d109, d110, d111, d112, d113, d114, d115, d116, d117, d118, d119, d120, d121, q122, q123, q124, q125, q126, q127, q128, q129, q130, q131, q132, q133, q134, q135, q136, q137, q138, q139, q140, q141, q142, q143, q144, q145, q146, q147, q148, q149, q150, q151, q152, q153, q154, q155, q156, q157, q158, q159, q160, q161, q162, q163, q164, q165, q166, q167, q168, q169, q170, q171, q172, q173, q174, q175, q176, q177, q178, q179, q180, q181, q182, q183, q184, q185, q186, q187, q188, q189, q190, q191, q192, q193, q194, q195, q196, q197, q198, q199, q200, q201, q202, q203, q204, q205, q206, q207, q208, q209, q210, q211, q212, q213, q214, q215, q216, q217, q218, q219, q220, q221, q222, q223, q224, q225, q226, q227, q228, q229, q230, q231, q232, q233, q234], []⟩ w') :
    Code.wp Tryz.prog (Code.loop (sumLoop 3)) Q ⟨#[q0, q1, q2, q3, q4, q5, q6, q7, q8, .pointer (some ⟨X, 0, none⟩), q10, q11, .int .i64 16, q13, q14, q15, q16, q17, q18, q19, q20, q21, q22, q23, q24, q25, q26, q27, q28, q29, q30, q31, q32, q33, q34, q35, q36, q37, q38, q39, q40, q41, q42, q43, q44, q45, q46, q47, q48, q49, q50, q51, q52, q53, q54, q55, q56, q57, q58, q59, q60, q61, q62, q63, q64, q65, q66, q67, q68, q69, q70, q71, q72, q73, q74, q75, q76, q77, q78, q79, q80, q81, q82, q83, q84, q85, q86, q87, q88, q89, q90, q91, q92, q93, q94, q95, q96, q97, q98, q99, q100, q101, q102, q103, q104, q105, q106, q107, q108, q109, q110, q111, q112, q113, q114, q115, q116, q117, q118, q119, q120, q121, q122, q123, q124, q125, q126, q127, q128, q129, q130, q131, q132, q133, q134, q135, q136, q137, q138, q139, q140, q141, q142, q143, q144, q145, q146, q147, q148, q149, q150, q151, q152, q153, q154, q155, q156, q157, q158, q159, q160, q161, q162, q163, q164, q165, q166, q167, q168, q169, q170, q171, q172, q173, q174, q175, q176, q177, q178, q179, q180, q181, q182, q183, q184, q185, q186, q187, q188, q189, q190, q191, q192, q193, q194, q195, q196, q197, q198, q199, q200, q201, q202, q203, q204, q205, q206, q207, q208, q209, q210, q211, q212, q213, q214, q215, q216, q217, q218, q219, q220, q221, q222, q223, q224, q225, q226, q227, q228, q229, q230, q231, q232, q233, q234], []⟩ w := by
  have HE : Hid (∀ (d12 d13 d14 d81 d82 d83 d84 d85 d86 d87 d88 d89 d90 d91 d92 d93 d94 d95 d96 d97 d98 d99 d100 d101 d102 d103 d104 d105 d106 d107 d108 d109 d110 d111 d112 d113 d114 d115 d116 d117 d118 d119 d120 d121 : Value) (C : Array Value) (w' : World), Sq w0 X m 64 C w' → Q (.exit 6) ⟨#[q0, q1, q2, q3, q4, q5, q6, q7, q8, .pointer (some ⟨X, 0, none⟩), q10, q11, d12, d13, d14, q15, q16, q17, q18, q19, q20, q21, q22, q23, q24, q25, q26, q27, q28, q29, q30, q31, q32, q33, q34, q35, q36, q37, q38, q39, q40, q41, q42, q43, q44, q45, q46, q47, q48, q49, q50, q51, q52, q53, q54, q55, q56, q57, q58, q59, q60, q61, q62, q63, q64, q65, q66, q67, q68, q69, q70, q71, q72, q73, q74, q75, q76, q77, q78, q79, q80, d81, d82, d83, d84, d85, d86, d87, d88, d89, d90, d91, d92, d93, d94, d95, d96, d97, d98, d99, d100, d101, d102, d103, d104, d105, d106, d107, d108, d109, d110, d111, d112, d113, d114, d115, d116, d117, d118, d119, d120, d121, q122, q123, q124, q125, q126, q127, q128, q129, q130, q131, q132, q133, q134, q135, q136, q137, q138, q139, q140, q141, q142, q143, q144, q145, q146, q147, q148, q149, q150, q151, q152, q153, q154, q155, q156, q157, q158, q159, q160, q161, q162, q163, q164, q165, q166, q167, q168, q169, q170, q171, q172, q173, q174, q175, q176, q177, q178, q179, q180, q181, q182, q183, q184, q185, q186, q187, q188, q189, q190, q191, q192, q193, q194, q195, q196, q197, q198, q199, q200, q201, q202, q203, q204, q205, q206, q207, q208, q209, q210, q211, q212, q213, q214, q215, q216, q217, q218, q219, q220, q221, q222, q223, q224, q225, q226, q227, q228, q229, q230, q231, q232, q233, q234], []⟩ w') := hexit
  have HS : Hid (Sq w0 X m 16 C0 w) := hS
  clear hexit hS
  conv => arg 2; arg 1; whnf
  dsimp only
  go_loopw [12] (fun i wr => ∃ (k : Nat) (C : Array Value), 16 ≤ k ∧ k ≤ 64 ∧ i = .int .i64 k ∧ Hid (Sq w0 X m k C wr)) (fun i _ => 70 - (intOf i).toNat)
  case atStart => exact ⟨16, C0, by omega, by omega, rfl, HS⟩
  case round =>
    clear HS
    obtain ⟨k, C, hk0, hk, rfl, HR⟩ := hrel
    by_cases hlt : k < 64
    · obtain ⟨x0, hx0⟩ := HR.out.all k (by omega)
      have h4 : wr.cell? ⟨X, k, none⟩ = some (c32 x0) := by rw [HR.out.blk.cell, hx0]
      have h5 := HR.out.blk.frozen k
      obtain ⟨y0, h0, Y0⟩ := HR.out.word (k - 15) (by omega)
      obtain ⟨y1, h1, Y1⟩ := HR.out.word (k - 2) (by omega)
      obtain ⟨y2, h2, Y2⟩ := HR.out.word (k - 7) (by omega)
      obtain ⟨y3, h3, Y3⟩ := HR.out.word (k - 16) (by omega)
      clear hx0
      have e0 : ((k : Int) - 15).toNat = k - 15 := by omega
      have e1 : ((k : Int) - 2).toNat = k - 2 := by omega
      have e2 : ((k : Int) - 7).toNat = k - 7 := by omega
      have e3 : ((k : Int) - 16).toNat = k - 16 := by omega
      go_wp2
      refine wp_region_tail (fun W => ∃ n, W = wr.drewN n) 29 (by kernel_rfl) (by kernel_rfl) ⟨1, rfl⟩ ?_
      simp only [List.take_succ_cons, List.take_zero, List.drop_succ_cons, List.drop_zero]
      repeat (go_big_quiet_step ((go_at_call 89; exact (turn_int _ _ _ (by omega) (by omega)).mono (fun _ _ h => ⟨h.1, drewN_more h.2⟩))))
      refine wpQuiet_nil ?_
      intro w9 hw9
      obtain ⟨nq, rfl⟩ := hw9
      go_wp2
      go_roundw
      case rel =>
        refine ⟨k + 1, C.setIfInBounds k (c32 (sgH y1 + y2 + sgL y0 + y3)), by omega, by omega, by go_num, ?_⟩
        rw [wn_raw]
        refine (HR.out.drewN _).put hlt _ ?_
        rw [sch_get m k 64 hlt, if_neg (by omega), wnext, Y0.out, Y1.out, Y2.out, Y3.out]
        simp only [sch_get m (k - 2) 64 (by omega), sch_get m (k - 7) 64 (by omega), sch_get m (k - 15) 64 (by omega), sch_get m (k - 16) 64 (by omega), sch_get m (k - 2) k (by omega), sch_get m (k - 7) k (by omega), sch_get m (k - 15) k (by omega), sch_get m (k - 16) k (by omega)]
      case measure => simp [intOf]; omega
    · have hke : k = 64 := by omega
      subst hke
      clear hlt hk hk0
      go_wp2
      exact HE.out _ _ _ _ _ _ _ _ _ _ _ _ _ _ _ _ _ _ _ _ _ _ _ _ _ _ _ _ _ _ _ _ _ _ _ _ _ _ _ _ _ _ _ _ C wr HR.out
end Go.Proofs.YtpfknjnigcefgaaGreatDoor
/- The rounds, in the document's own sum. -/
namespace Go.Proofs.YtpfknjnigcefgaaGreatDoor
open Go.RowKit
set_option linter.unusedSimpArgs false
set_option linter.unusedVariables false
set_option maxHeartbeats 4000000 in
set_option maxRecDepth 100000 in
theorem loop5 (Q : Exit → Act → World → Prop) (KB X V : Nat) (m : List Nat) (v0 : V8) (w : World) (q0 q1 q2 q3 q4 q6 q7 q8 q10 q11 q12 q13 q14 q17 q18 q19 q20 q21 q22 q23 q24 q25 q26 q27 q28 q29 q30 q31 q32 q33 q34 q35 q36 q37 q38 q39 q40 q41 q42 q43 q44 q45 q46 q47 q48 q49 q50 q51 q52 q53 q54 q55 q56 q57 q58 q59 q60 q61 q62 q63 q64 q65 q66 q67 q68 q69 q70 q71 q72 q73 q74 q75 q76 q77 q78 q79 q80 q81 q82 q83 q84 q85 q86 q87 q88 q89 q90 q91 q92 q93 q94 q95 q96 q97 q98 q99 q100 q101 q102 q103 q104 q105 q106 q107 q108 q109 q110 q111 q112 q113 q114 q115 q116 q117 q118 q119 q120 q121 q122 q123 q124 q125 q126 q127 q128 q129 q130 q131 q132 q133 q134 q135 q136 q137 q138 q139 q140 q141 q142 q143 q144 q145 q146 q147 q148 q149 q150 q151 q152 q153 q154 q155 q156 q157 q158 q159 q160 q161 q162 q163 q164 q165 q166 q167 q168 q169 q170 q171 q172 q173 q174 q175 q176 q177 q178 q179 q180 q181 q182 q183 q184 q185 q186 q187 q188 q189 q190 q191 q192 q193 q194 q195 q196 q197 q198 q199 q200 q201 q202 q203 q204 q205 q206 q207 q208 q209 q210 q211 q212 q213 q214 q215 q216 q217 q218 q219 q220 q221 q222 q223 q224 q225 q226 q227 q228 q229 q230 q231 q232 q233 q234 : Value)
    (hV : Blk w V (v8c v0) 98) (hX : Blk w X (w64c m) 100) (hK : ∀ t, t < 64 → w.cell? ⟨KB, t, none⟩ = some (c32 (KT t))) (hXV : X ≠ V) (hKV : KB ≠ V)
    (hexit : ∀ (d16 d17 d18 d19 d20 d123 d124 d125 d126 d127 d128 d129 d130 d131 d132 d133 d134 d135 d136 d137 d138 d139 d140 d141 d142 d143 d144 d145 d146 d147 d148 d149 d150 d151 d152 d153 d154 d155 d156 d157 d158 d159 d160 d161 d162 d163 d164 d165 d166 d167 d168 d169 d170 d171 d172 d173 d174 d175 d176 d177 d178 d179 d180 d181 d182 d183 d184 d185 d186 d187 d188 d189 d190 d191 d192 d193 d194 d195 d196 d197 d198 d199 d200 d201 d202 d203 d204 : Value) (w' : World), Blk w' V (v8c (rds m v0 64)) 98 ∧ w.grownBy w' (some V) → Q (.exit 8) ⟨#[q0, q1, q2, q3, q4, .pointer (some ⟨KB, 0, none⟩), q6, q7, q8, .pointer (some ⟨X, 0, none⟩), q10, q11, q12, q13, q14, .pointer (some ⟨V, 0, none⟩), d16, d17, d18, d19, d20, q21, q22, q23, q24, q25, q26, q27, q28, q29, q30, q31, q32, q33, q34, q35, q36, q37, q38, q39, q40, q41, q42, q43, q44, q45, q46, q47, q48, q49, q50, q51, q52, q53, q54, q55, q56, q57, q58, q59, q60, q61, q62, q63, q64, q65, q66, q67, q68, q69, q70, q71, q72, q73, q74, q75, q76, q77, q78, q79, q80, q81, q82, q83, q84, q85, q86, q87, q88, q89, q90, q91, q92, q93, q94, q95, q96, q97, q98, q99, q100, q101, q102, q103, q104, q105, q106, q107, q108, q109, q110, q111, q112, q113, q114, q115, q116, q117, q118, q119, q120, q121, q122, d123, d124, d125, d126, d127, d128, d129, d130, d131, d132, d133, d134, d135, d136, d137, d138, d139, d140, d141, d142, d143, d144, d145, d146, d147, d148, d149, d150, d151, d152, d153, d154, d155, d156, d157, d158, d159, d160, d161, d162, d163, d164, d165, d166, d167, d168, d169, d170, d171, d172, d173, d174, d175, d176, d177, d178, d179, d180, d181, d182, d183, d184, d185, d186, d187, d188, d189, d190, d191, d192, d193, d194, d195, d196, d197, d198, d199, d200, d201, d202, d203, d204, q205, q206, q207, q208, q209, q210, q211, q212, q213, q214, q215, q216, q217, q218, q219, q220, q221, q222, q223, q224, q225, q226, q227, q228, q229, q230, q231, q232, q233, q234], []⟩ w') :
    Code.wp Tryz.prog (Code.loop (sumLoop 4)) Q ⟨#[q0, q1, q2, q3, q4, .pointer (some ⟨KB, 0, none⟩), q6, q7, q8, .pointer (some ⟨X, 0, none⟩), q10, q11, q12, q13, q14, .pointer (some ⟨V, 0, none⟩), .int .i64 0, q17, q18, q19, q20, q21, q22, q23, q24, q25, q26, q27, q28, q29, q30, q31, q32, q33, q34, q35, q36, q37, q38, q39, q40, q41, q42, q43, q44, q45, q46, q47, q48, q49, q50, q51, q52, q53, q54, q55, q56, q57, q58, q59, q60, q61, q62, q63, q64, q65, q66, q67, q68, q69, q70, q71, q72, q73, q74, q75, q76, q77, q78, q79, q80, q81, q82, q83, q84, q85, q86, q87, q88, q89, q90, q91, q92, q93, q94, q95, q96, q97, q98, q99, q100, q101, q102, q103, q104, q105, q106, q107, q108, q109, q110, q111, q112, q113, q114, q115, q116, q117, q118, q119, q120, q121, q122, q123, q124, q125, q126, q127, q128, q129, q130, q131, q132, q133, q134, q135, q136, q137, q138, q139, q140, q141, q142, q143, q144, q145, q146, q147, q148, q149, q150, q151, q152, q153, q154, q155, q156, q157, q158, q159, q160, q161, q162, q163, q164, q165, q166, q167, q168, q169, q170, q171, q172, q173, q174, q175, q176, q177, q178, q179, q180, q181, q182, q183, q184, q185, q186, q187, q188, q189, q190, q191, q192, q193, q194, q195, q196, q197, q198, q199, q200, q201, q202, q203, q204, q205, q206, q207, q208, q209, q210, q211, q212, q213, q214, q215, q216, q217, q218, q219, q220, q221, q222, q223, q224, q225, q226, q227, q228, q229, q230, q231, q232, q233, q234], []⟩ w := by
  have HE : Hid (∀ (d16 d17 d18 d19 d20 d123 d124 d125 d126 d127 d128 d129 d130 d131 d132 d133 d134 d135 d136 d137 d138 d139 d140 d141 d142 d143 d144 d145 d146 d147 d148 d149 d150 d151 d152 d153 d154 d155 d156 d157 d158 d159 d160 d161 d162 d163 d164 d165 d166 d167 d168 d169 d170 d171 d172 d173 d174 d175 d176 d177 d178 d179 d180 d181 d182 d183 d184 d185 d186 d187 d188 d189 d190 d191 d192 d193 d194 d195 d196 d197 d198 d199 d200 d201 d202 d203 d204 : Value) (w' : World), Blk w' V (v8c (rds m v0 64)) 98 ∧ w.grownBy w' (some V) → Q (.exit 8) ⟨#[q0, q1, q2, q3, q4, .pointer (some ⟨KB, 0, none⟩), q6, q7, q8, .pointer (some ⟨X, 0, none⟩), q10, q11, q12, q13, q14, .pointer (some ⟨V, 0, none⟩), d16, d17, d18, d19, d20, q21, q22, q23, q24, q25, q26, q27, q28, q29, q30, q31, q32, q33, q34, q35, q36, q37, q38, q39, q40, q41, q42, q43, q44, q45, q46, q47, q48, q49, q50, q51, q52, q53, q54, q55, q56, q57, q58, q59, q60, q61, q62, q63, q64, q65, q66, q67, q68, q69, q70, q71, q72, q73, q74, q75, q76, q77, q78, q79, q80, q81, q82, q83, q84, q85, q86, q87, q88, q89, q90, q91, q92, q93, q94, q95, q96, q97, q98, q99, q100, q101, q102, q103, q104, q105, q106, q107, q108, q109, q110, q111, q112, q113, q114, q115, q116, q117, q118, q119, q120, q121, q122, d123, d124, d125, d126, d127, d128, d129, d130, d131, d132, d133, d134, d135, d136, d137, d138, d139, d140, d141, d142, d143, d144, d145, d146, d147, d148, d149, d150, d151, d152, d153, d154, d155, d156, d157, d158, d159, d160, d161, d162, d163, d164, d165, d166, d167, d168, d169, d170, d171, d172, d173, d174, d175, d176, d177, d178, d179, d180, d181, d182, d183, d184, d185, d186, d187, d188, d189, d190, d191, d192, d193, d194, d195, d196, d197, d198, d199, d200, d201, d202, d203, d204, q205, q206, q207, q208, q209, q210, q211, q212, q213, q214, q215, q216, q217, q218, q219, q220, q221, q222, q223, q224, q225, q226, q227, q228, q229, q230, q231, q232, q233, q234], []⟩ w') := hexit
  have HS : Hid (Blk w V (v8c (rds m v0 0)) 98 ∧ w.grownBy w (some V)) := ⟨hV, World.grownBy.refl _ _⟩
  have HX : Hid (Blk w X (w64c m) 100) := hX
  have HK : Hid (∀ t, t < 64 → w.cell? ⟨KB, t, none⟩ = some (c32 (KT t))) := hK
  have hsg : IntKind.u32.signed = false := rfl
  clear hexit hV hX hK
  conv => arg 2; arg 1; whnf
  dsimp only
  go_loopw [16] (fun i wr => ∃ (k : Nat), k ≤ 64 ∧ i = .int .i64 k ∧ Hid (Blk wr V (v8c (rds m v0 k)) 98 ∧ w.grownBy wr (some V))) (fun i _ => 70 - (intOf i).toNat)
  case atStart => exact ⟨0, by omega, rfl, HS⟩
  case round =>
    clear HS
    obtain ⟨k, hk, rfl, HR⟩ := hrel
    by_cases hlt : k < 64
    · obtain ⟨v, hv⟩ : ∃ v, v = rds m v0 k := ⟨_, rfl⟩
      have hVk : Blk wr V (v8c v) 98 := by rw [hv]; exact HR.out.1
      have HVk : Hid (Blk wr V (v8c v) 98) := hVk
      have HV : Hid (v = rds m v0 k) := hv
      have a0 := hVk.cell 0
      have a1 := hVk.cell 1
      have a2 := hVk.cell 2
      have a3 := hVk.cell 3
      have a4 := hVk.cell 4
      have a5 := hVk.cell 5
      have a6 := hVk.cell 6
      have a7 := hVk.cell 7
      simp [v8c] at a0 a1 a2 a3 a4 a5 a6 a7
      obtain ⟨x, hx⟩ : ∃ x, x = wt m k := ⟨_, rfl⟩
      obtain ⟨kt, hkt⟩ : ∃ x, x = KT k := ⟨_, rfl⟩
      have hxc : wr.cell? ⟨X, k, none⟩ = some (c32 x) := by rw [HR.out.2.cell (v := c32 x) (by rw [HX.out.cell, w64c_get m k hlt, hx]) (by simp; exact hXV)]
      have hkc : wr.cell? ⟨KB, k, none⟩ = some (c32 kt) := by rw [HR.out.2.cell (v := c32 kt) (by rw [HK.out k hlt, hkt]) (by simp; exact hKV)]
      have HX2 : Hid (x = wt m k ∧ kt = KT k) := ⟨hx, hkt⟩
      clear hv hVk hx hkt
      go_wp2
      go_quiet ((go_at_call 89; exact (turn_int _ _ _ (by omega) (by omega)).mono (fun _ _ h => ⟨h.1, drewN_more h.2⟩)))
      rw [t1_raw]
      obtain ⟨t1, ht1⟩ : ∃ t1, t1 = v.t1 kt x := ⟨_, rfl⟩
      rw [← ht1]
      have HT1 : Hid (t1 = v.t1 kt x) := ht1
      clear ht1 hxc hkc
      obtain ⟨w2, hw2⟩ : ∃ w2, w2 = wr.drewN nq := ⟨_, rfl⟩
      rw [← hw2]
      have HVk2 : Hid (Blk w2 V (v8c v) 98) := by rw [hw2]; exact HVk.out
      have HG2 : Hid (wr.grownBy w2 (some V)) := by rw [hw2]; exact grown_drewN wr nq _
      clear hw2 a0 a1 a2 a3 a4 a5 a6 a7
      have a0 := HVk2.out.cell 0
      have a1 := HVk2.out.cell 1
      have a2 := HVk2.out.cell 2
      have a3 := HVk2.out.cell 3
      have a4 := HVk2.out.cell 4
      have a5 := HVk2.out.cell 5
      have a6 := HVk2.out.cell 6
      simp [v8c] at a0 a1 a2 a3 a4 a5 a6
      go_wp2
      go_quiet ((go_at_call 89; exact (turn_int _ _ _ (by omega) (by omega)).mono (fun _ _ h => ⟨h.1, drewN_more h.2⟩)))
      rw [t2_raw]
      obtain ⟨t2, ht2⟩ : ∃ t2, t2 = v.t2 := ⟨_, rfl⟩
      rw [← ht2]
      have HT2 : Hid (t2 = v.t2) := ht2
      clear ht2
      go_wp2_with (refine wpList_store_row rfl 98 (.tmp 15) (.tmp 204) rfl V _ rfl rfl 98 (v8c v) (by exact HVk2.out) (by exact info_8v) rfl (by simp [Value.oneCell']) ?_)
      rw [add32, add32]
      go_roundw
      case rel =>
        refine ⟨k + 1, by omega, by go_num, ?_, ?_⟩
        · have e : rds m v0 (k + 1) = v.rnd kt x := by rw [HX2.out.1, HX2.out.2, HV.out]; rfl
          rw [e, HT1.out, HT2.out]
          exact setRow_heap _ _ (v8c v) _ _ _ (by exact HVk2.out)
        · exact ((HR.out.2.trans HG2.out).trans (grown_drewN w2 _ _)).trans (grown_setRow _ _ _)
      case measure => simp [intOf]; omega
    · have hke : k = 64 := by omega
      subst hke
      clear hlt hk
      go_wp2
      exact HE.out _ _ _ _ _ _ _ _ _ _ _ _ _ _ _ _ _ _ _ _ _ _ _ _ _ _ _ _ _ _ _ _ _ _ _ _ _ _ _ _ _ _ _ _ _ _ _ _ _ _ _ _ _ _ _ _ _ _ _ _ _ _ _ _ _ _ _ _ _ _ _ _ _ _ _ _ _ _ _ _ _ _ _ _ _ _ _ wr HR.out
end Go.Proofs.YtpfknjnigcefgaaGreatDoor
/- The eight numbers are added, in the document's own sum. -/
namespace Go.Proofs.YtpfknjnigcefgaaGreatDoor
open Go.RowKit
set_option linter.unusedSimpArgs false
set_option linter.unusedVariables false
set_option maxHeartbeats 4000000 in
set_option maxRecDepth 100000 in
theorem loop6 (Q : Exit → Act → World → Prop) (HB V : Nat) (h v : V8) (w : World) (q0 q1 q2 q3 q5 q6 q7 q8 q9 q10 q11 q12 q13 q14 q16 q17 q18 q19 q20 q22 q23 q24 q25 q26 q27 q28 q29 q30 q31 q32 q33 q34 q35 q36 q37 q38 q39 q40 q41 q42 q43 q44 q45 q46 q47 q48 q49 q50 q51 q52 q53 q54 q55 q56 q57 q58 q59 q60 q61 q62 q63 q64 q65 q66 q67 q68 q69 q70 q71 q72 q73 q74 q75 q76 q77 q78 q79 q80 q81 q82 q83 q84 q85 q86 q87 q88 q89 q90 q91 q92 q93 q94 q95 q96 q97 q98 q99 q100 q101 q102 q103 q104 q105 q106 q107 q108 q109 q110 q111 q112 q113 q114 q115 q116 q117 q118 q119 q120 q121 q122 q123 q124 q125 q126 q127 q128 q129 q130 q131 q132 q133 q134 q135 q136 q137 q138 q139 q140 q141 q142 q143 q144 q145 q146 q147 q148 q149 q150 q151 q152 q153 q154 q155 q156 q157 q158 q159 q160 q161 q162 q163 q164 q165 q166 q167 q168 q169 q170 q171 q172 q173 q174 q175 q176 q177 q178 q179 q180 q181 q182 q183 q184 q185 q186 q187 q188 q189 q190 q191 q192 q193 q194 q195 q196 q197 q198 q199 q200 q201 q202 q203 q204 q205 q206 q207 q208 q209 q210 q211 q212 q213 q214 q215 q216 q217 q218 q219 q220 q221 q222 q223 q224 q225 q226 q227 q228 q229 q230 q231 q232 q233 q234 : Value)
    (hH : Blk w HB (v8c h) 98) (hV : Blk w V (v8c v) 98) (hHV : HB ≠ V)
    (hexit : ∀ (d21 d205 d206 d207 d208 d209 d210 d211 d212 d213 d214 d215 d216 d217 : Value) (w' : World), Blk w' HB (v8c (h.add v)) 98 ∧ w.grownBy w' (some HB) → Q (.exit 10) ⟨#[q0, q1, q2, q3, .pointer (some ⟨HB, 0, none⟩), q5, q6, q7, q8, q9, q10, q11, q12, q13, q14, .pointer (some ⟨V, 0, none⟩), q16, q17, q18, q19, q20, d21, q22, q23, q24, q25, q26, q27, q28, q29, q30, q31, q32, q33, q34, q35, q36, q37, q38, q39, q40, q41, q42, q43, q44, q45, q46, q47, q48, q49, q50, q51, q52, q53, q54, q55, q56, q57, q58, q59, q60, q61, q62, q63, q64, q65, q66, q67, q68, q69, q70, q71, q72, q73, q74, q75, q76, q77, q78, q79, q80, q81, q82, q83, q84, q85, q86, q87, q88, q89, q90, q91, q92, q93, q94, q95, q96, q97, q98, q99, q100, q101, q102, q103, q104, q105, q106, q107, q108, q109, q110, q111, q112, q113, q114, q115, q116, q117, q118, q119, q120, q121, q122, q123, q124, q125, q126, q127, q128, q129, q130, q131, q132, q133, q134, q135, q136, q137, q138, q139, q140, q141, q142, q143, q144, q145, q146, q147, q148, q149, q150, q151, q152, q153, q154, q155, q156, q157, q158, q159, q160, q161, q162, q163, q164, q165, q166, q167, q168, q169, q170, q171, q172, q173, q174, q175, q176, q177, q178, q179, q180, q181, q182, q183, q184, q185, q186, q187, q188, q189, q190, q191, q192, q193, q194, q195, q196, q197, q198, q199, q200, q201, q202, q203, q204, d205, d206, d207, d208, d209, d210, d211, d212, d213, d214, d215, d216, d217, q218, q219, q220, q221, q222, q223, q224, q225, q226, q227, q228, q229, q230, q231, q232, q233, q234], []⟩ w') :
    Code.wp Tryz.prog (Code.loop (sumLoop 5)) Q ⟨#[q0, q1, q2, q3, .pointer (some ⟨HB, 0, none⟩), q5, q6, q7, q8, q9, q10, q11, q12, q13, q14, .pointer (some ⟨V, 0, none⟩), q16, q17, q18, q19, q20, .int .i64 0, q22, q23, q24, q25, q26, q27, q28, q29, q30, q31, q32, q33, q34, q35, q36, q37, q38, q39, q40, q41, q42, q43, q44, q45, q46, q47, q48, q49, q50, q51, q52, q53, q54, q55, q56, q57, q58, q59, q60, q61, q62, q63, q64, q65, q66, q67, q68, q69, q70, q71, q72, q73, q74, q75, q76, q77, q78, q79, q80, q81, q82, q83, q84, q85, q86, q87, q88, q89, q90, q91, q92, q93, q94, q95, q96, q97, q98, q99, q100, q101, q102, q103, q104, q105, q106, q107, q108, q109, q110, q111, q112, q113, q114, q115, q116, q117, q118, q119, q120, q121, q122, q123, q124, q125, q126, q127, q128, q129, q130, q131, q132, q133, q134, q135, q136, q137, q138, q139, q140, q141, q142, q143, q144, q145, q146, q147, q148, q149, q150, q151, q152, q153, q154, q155, q156, q157, q158, q159, q160, q161, q162, q163, q164, q165, q166, q167, q168, q169, q170, q171, q172, q173, q174, q175, q176, q177, q178, q179, q180, q181, q182, q183, q184, q185, q186, q187, q188, q189, q190, q191, q192, q193, q194, q195, q196, q197, q198, q199, q200, q201, q202, q203, q204, q205, q206, q207, q208, q209, q210, q211, q212, q213, q214, q215, q216, q217, q218, q219, q220, q221, q222, q223, q224, q225, q226, q227, q228, q229, q230, q231, q232, q233, q234], []⟩ w := by
  have HE : Hid (∀ (d21 d205 d206 d207 d208 d209 d210 d211 d212 d213 d214 d215 d216 d217 : Value) (w' : World), Blk w' HB (v8c (h.add v)) 98 ∧ w.grownBy w' (some HB) → Q (.exit 10) ⟨#[q0, q1, q2, q3, .pointer (some ⟨HB, 0, none⟩), q5, q6, q7, q8, q9, q10, q11, q12, q13, q14, .pointer (some ⟨V, 0, none⟩), q16, q17, q18, q19, q20, d21, q22, q23, q24, q25, q26, q27, q28, q29, q30, q31, q32, q33, q34, q35, q36, q37, q38, q39, q40, q41, q42, q43, q44, q45, q46, q47, q48, q49, q50, q51, q52, q53, q54, q55, q56, q57, q58, q59, q60, q61, q62, q63, q64, q65, q66, q67, q68, q69, q70, q71, q72, q73, q74, q75, q76, q77, q78, q79, q80, q81, q82, q83, q84, q85, q86, q87, q88, q89, q90, q91, q92, q93, q94, q95, q96, q97, q98, q99, q100, q101, q102, q103, q104, q105, q106, q107, q108, q109, q110, q111, q112, q113, q114, q115, q116, q117, q118, q119, q120, q121, q122, q123, q124, q125, q126, q127, q128, q129, q130, q131, q132, q133, q134, q135, q136, q137, q138, q139, q140, q141, q142, q143, q144, q145, q146, q147, q148, q149, q150, q151, q152, q153, q154, q155, q156, q157, q158, q159, q160, q161, q162, q163, q164, q165, q166, q167, q168, q169, q170, q171, q172, q173, q174, q175, q176, q177, q178, q179, q180, q181, q182, q183, q184, q185, q186, q187, q188, q189, q190, q191, q192, q193, q194, q195, q196, q197, q198, q199, q200, q201, q202, q203, q204, d205, d206, d207, d208, d209, d210, d211, d212, d213, d214, d215, d216, d217, q218, q219, q220, q221, q222, q223, q224, q225, q226, q227, q228, q229, q230, q231, q232, q233, q234], []⟩ w') := hexit
  have HS : Hid (Aq w HB h v 0 h w) := ⟨hH, World.grownBy.refl _ _, fun j hj => by rw [if_neg (by omega)]⟩
  have HV : Hid (Blk w V (v8c v) 98) := hV
  clear hexit hH hV
  conv => arg 2; arg 1; whnf
  dsimp only
  go_loopw [21] (fun i wr => ∃ (k : Nat) (g : V8), k ≤ 8 ∧ i = .int .i64 k ∧ Hid (Aq w HB h v k g wr)) (fun i _ => 20 - (intOf i).toNat)
  case atStart => exact ⟨0, h, by omega, rfl, HS⟩
  case round =>
    clear HS
    obtain ⟨k, g, hk, rfl, HR⟩ := hrel
    by_cases hlt : k < 8
    · obtain ⟨x, hx⟩ : ∃ x, x = g.list.getD k 0 := ⟨_, rfl⟩
      obtain ⟨y, hy⟩ : ∃ y, y = v.list.getD k 0 := ⟨_, rfl⟩
      have h1 : wr.cell? ⟨HB, k, none⟩ = some (c32 x) := by rw [HR.out.st.cell, v8c_get _ _ hlt, hx]
      have h2 := HR.out.st.frozen k
      have h3 : wr.cell? ⟨V, k, none⟩ = some (c32 y) := HR.out.grown.cell (by rw [HV.out.cell, v8c_get _ _ hlt, hy]) (by simp; omega)
      have HXY : Hid (x = g.list.getD k 0 ∧ y = v.list.getD k 0) := ⟨hx, hy⟩
      clear hx hy
      go_wp2
      refine wp_region_tail (fun W => ∃ n, W = wr.drewN n) 9 (by kernel_rfl) (by kernel_rfl) ⟨1, rfl⟩ ?_
      simp only [List.take_succ_cons, List.take_zero, List.drop_succ_cons, List.drop_zero]
      repeat (go_big_quiet_step (fail))
      refine wpQuiet_nil ?_
      intro w9 hw9
      obtain ⟨nq, rfl⟩ := hw9
      go_wp2
      go_roundw
      case rel =>
        refine ⟨k + 1, g.setk k (x + y), by omega, by go_num, ?_⟩
        rw [add32, HXY.out.1, HXY.out.2]
        exact (HR.out.drewN nq).put hlt
      case measure => simp [intOf]; omega
    · have hke : k = 8 := by omega
      subst hke
      have he : g = h.add v := v8_ext _ _ (fun j hj => by rw [HR.out.done j hj, if_pos hj, add_get _ _ _ hj])
      have HX : Hid (g = h.add v) := he
      clear hlt hk he
      go_wp2
      exact HE.out _ _ _ _ _ _ _ _ _ _ _ _ _ _ wr ⟨by rw [← HX.out]; exact HR.out.st, HR.out.grown⟩
end Go.Proofs.YtpfknjnigcefgaaGreatDoor
/- The bytes of the eight numbers, one after another. -/
namespace Go.Proofs.YtpfknjnigcefgaaGreatDoor
open Go.RowKit
set_option linter.unusedSimpArgs false
set_option linter.unusedVariables false
/-- k of the bytes are laid. -/
structure Oq (w : World) (D : Nat) (v : V8) (k : Nat) (C : Array Value) (wr : World) : Prop where
  blk : Blk wr D C 23
  grown : w.grownBy wr (some D)
  csz : C.size = 32
  got : ∀ j, j < k → C[j]? = some (.int .u8 ((outB v).getD j 0 : Nat))
  all : ∀ j, j < 32 → ∃ x : Int, C[j]? = some (.int .u8 x)
theorem Oq.put {w : World} {D : Nat} {v : V8} {k : Nat} {C : Array Value} {wr : World} (h : Oq w D v k C wr) (hk : k < 32) (x : Int) (hx : x = ((outB v).getD k 0 : Nat)) :
    Oq w D v (k + 1) (C.setIfInBounds k (.int .u8 x)) (wr.setCell ⟨D, k, none⟩ (.int .u8 x)) where
  blk := h.blk.set k _
  grown := Lib.grownBy_setB h.grown k _
  csz := by rw [Array.size_setIfInBounds]; exact h.csz
  got := fun j hj => by
    rw [Array.getElem?_setIfInBounds]
    split
    · rename_i e; subst e; rw [if_pos (by rw [h.csz]; exact hk), hx]
    · exact h.got j (by omega)
  all := fun j hj => by
    rw [Array.getElem?_setIfInBounds]
    split
    · exact ⟨x, by rw [if_pos (by rw [h.csz]; omega)]⟩
    · exact h.all j hj
theorem Oq.whole {w : World} {D : Nat} {v : V8} {C : Array Value} {wr : World} (h : Oq w D v 32 C wr) : C = (bvc (outB v)).toArray := by
  apply Array.ext_getElem?
  intro i
  by_cases hi : i < 32
  · rw [h.got i hi, List.getElem?_toArray, bvc, List.getElem?_map, List.getD, List.getElem?_eq_getElem (by rw [outB_length]; exact hi)]
    rfl
  · rw [Array.getElem?_eq_none (by rw [h.csz]; omega), Array.getElem?_eq_none (by simp [bvc, outB_length]; omega)]
theorem byte_at (x : BitVec 32) (k : Nat) : ((x.toNat : Int) / 2 ^ (24 - 8 * (k % 4)) % 256) = (((by4 x).getD (k % 4) 0 : Nat) : Int) := by
  have hx := x.isLt
  have h : k % 4 = 0 ∨ k % 4 = 1 ∨ k % 4 = 2 ∨ k % 4 = 3 := by omega
  rcases h with h | h | h | h <;> rw [h]
  · show (x.toNat : Int) / 16777216 % 256 = ((x.toNat / 16777216 : Nat) : Int)
    omega
  · show (x.toNat : Int) / 65536 % 256 = ((x.toNat / 65536 % 256 : Nat) : Int)
    omega
  · show (x.toNat : Int) / 256 % 256 = ((x.toNat / 256 % 256 : Nat) : Int)
    omega
  · show (x.toNat : Int) / 1 % 256 = ((x.toNat % 256 : Nat) : Int)
    omega
end Go.Proofs.YtpfknjnigcefgaaGreatDoor
