import Derived.Test.YteccnnpialaalaaDoorY18
/- The document's Decode of a table. -/
namespace Go.Proofs.YteccnnpialaalaaDoor
open Go.RowKit
set_option linter.unusedSimpArgs false
set_option linter.unusedVariables false
theorem TkB.cells {p : ByteArray} {B : Nat} {C : Array Value} {ok : Bool} {W : World} (h : TkB p B C ok W) : C.size = 4 ∧ C.all (·.oneCell') = true := by
  rcases h with ⟨_, h, _⟩ | ⟨_, rfl, _⟩
  · obtain ⟨a, c, rfl, _⟩ := h.shape
    exact ⟨rfl, by simp [Value.oneCell']⟩
  · exact ⟨rfl, zT17_one⟩
set_option maxHeartbeats 4000000 in
set_option maxRecDepth 100000 in
theorem rdecode17 (s : ByteArray) (w : World) (hs : s.size ≤ maxLen) :
    Calls Tryd.prog 10 #[.string s] w fun e w' => ∃ C E, e = .returned (.tuple #[.agg C, .int .i64 E]) ∧ DcA17 s w.heap.size C E w' ∧ Below w.heap.size w w' := by
  have H0 : Hid (Bk (w.alloc (.cells zT17 25)) w.heap.size zT17 25 ∧ Below w.heap.size w (w.alloc (.cells zT17 25))) := ⟨bk_new _ _ _, (Below.refl _ _).alloc (Nat.le_refl _) _⟩
  have HI4 : Hid ((Tryd.prog.info? 25).map (·.size) = some 4) := inf_tbR
  have HUF : Hid (∀ W, Calls Tryd.prog 27 #[.string s] W fun e w' => e = .returned (.tuple #[.string (ufP s), .string (ufR s), .int .i64 (ufE s)]) ∧ Below W.heap.size W w') := fun W => runframe_any s W hs
  go_enter Tryd.func10, Tryd.ntmps10
  go_wp2_with fail
  refine (HUF.out _).mono ?_
  rintro e w1 ⟨rfl, b1⟩
  have H1 : Hid (Bk w1 w.heap.size zT17 25 ∧ Below w.heap.size w w1) := ⟨H0.out.1.below b1 H0.out.1.lt, H0.out.2.trans (b1.mono H0.out.2.size)⟩
  clear b1 H0 HUF
  cases hok : ufB s with
  | false =>
    have HNO : Hid (¬ IsT17 s) := fun h => by have := h.1; rw [hok] at this; cases this
    have he : ufE s = 4 := by rw [ufE, if_neg (by rw [hok]; simp)]
    rw [he]
    clear hok he
    go_wp2_with (first
      | (refine wpList_bdX0 rfl 25 rfl (.agg zT17) (bd_zR _) ?_)
      | (refine wpList_stoX rfl 25 (.tmp 2) (.tmp 21) rfl w.heap.size zT17 zT17 25 rfl rfl H1.out.1 HI4.out rfl zT17_one ?_; intro w7 HB7 HG7)
      | fail)
    refine bodyPost_ret (res_cell_tmp rfl _ _ w.heap.size 25 zT17 (0, 0) _ rfl HB7.out Tryd.underlying25 rfl HI4.out) rfl ⟨zT17, 4, rfl, .inr ⟨HNO.out, rfl, rfl⟩, H1.out.2.grown HG7.out H1.out.2.size (fun b hk => by injection hk with hk; omega)⟩
  | true =>
    have he : ufE s = 0 := by rw [ufE, if_pos hok]
    obtain ⟨P, hP⟩ : ∃ P, ufP s = P := ⟨_, rfl⟩
    obtain ⟨R, hR⟩ : ∃ R, ufR s = R := ⟨_, rfl⟩
    have HPR : Hid (ufB s = true ∧ ufP s = P ∧ ufR s = R ∧ P.size ≤ 67108872) := ⟨hok, hP, hR, by rw [← hP]; exact ufP_size17 s⟩
    rw [he, hP, hR]
    clear hok he hP hR
    by_cases h0 : R.size = 0
    · have hbq := str_e17 h0
      have HR0 : Hid (R.size = 0) := h0
      have HPY : Hid (Calls Tryd.prog 28 #[.string P] w1 fun e w' => ∃ C ok, e = .returned (.tuple #[.agg C, .bool ok]) ∧ TkB P w1.heap.size C ok w' ∧ Below w1.heap.size w1 w') := rpayload17 P w1 HPR.out.2.2.2
      clear h0
      go_wp2_with fail
      refine HPY.out.mono ?_
      rintro e w2 ⟨C, ok, rfl, ha, b2⟩
      have H2 : Hid (Bk w2 w.heap.size zT17 25 ∧ Below w.heap.size w w2 ∧ TkB P w1.heap.size C ok w2 ∧ w.heap.size < w1.heap.size) := ⟨H1.out.1.below b2 H1.out.1.lt, H1.out.2.trans (b2.mono H1.out.2.size), ha, H1.out.1.lt⟩
      have HCC : Hid (C.size = 4 ∧ C.all (·.oneCell') = true) := ha.cells
      have HIC : Hid ((Tryd.prog.info? 25).map (·.size) = some C.size) := by show _ = _; rw [HCC.out.1]; exact HI4.out
      clear ha b2 HPY H1
      have H3 : Hid (Bk (w2.alloc (.cells C 25)) w2.heap.size C 25 ∧ Bk (w2.alloc (.cells C 25)) w.heap.size zT17 25 ∧ Below w.heap.size w (w2.alloc (.cells C 25)) ∧ ((Tk17 P ∧ TbR P w1.heap.size C (w2.alloc (.cells C 25)) ∧ ok = true) ∨ (¬ Tk17 P ∧ C = zT17 ∧ ok = false))) := by
        refine ⟨bk_new _ _ _, H2.out.1.alloc _, H2.out.2.1.alloc H2.out.2.1.size _, ?_⟩
        rcases H2.out.2.2.1 with ⟨q1, q2, q3⟩ | q
        · exact .inl ⟨q1, q2.below ((Below.refl _ _).alloc (Nat.le_refl _) _), q3⟩
        · exact .inr q
      obtain ⟨w3, hw3⟩ : ∃ W, w2.alloc (.cells C 25) = W := ⟨_, rfl⟩
      have HW3 : Hid (w2.alloc (.cells C 25) = w3) := hw3
      rw [hw3] at H3
      clear hw3
      cases ok with
      | false =>
        have HNO : Hid (¬ IsT17 s) := fun h => by
          rcases H3.out.2.2.2 with ⟨_, _, q⟩ | ⟨q, _⟩
          · cases q
          · exact q (by rw [← HPR.out.2.1]; exact h.2.1)
        go_wp2_with (first
          | (refine wpList_store_new rfl 25 (.tmp 7) (.tmp 25) rfl C _ 25 w2.heap.size rfl rfl rfl HIC.out (by rw [HCC.out.1]; rfl) HCC.out.2 ?_; rw [HW3.out])
          | (refine wpList_bdX0 rfl 25 rfl (.agg zT17) (bd_zR _) ?_)
          | (refine wpList_stoX rfl 25 (.tmp 2) (.tmp 29) rfl w.heap.size zT17 zT17 25 rfl rfl H3.out.2.1 HI4.out rfl zT17_one ?_; intro w7 HB7 HG7)
          | fail)
        refine bodyPost_ret (res_cell_tmp rfl _ _ w.heap.size 25 zT17 (0, 0) _ rfl HB7.out Tryd.underlying25 rfl HI4.out) rfl ⟨zT17, 4, rfl, .inr ⟨HNO.out, rfl, rfl⟩, H3.out.2.2.1.grown HG7.out H3.out.2.2.1.size (fun b hk => by injection hk with hk; omega)⟩
      | true =>
        have HYES : Hid (IsT17 s ∧ TbR P w1.heap.size C w3) := by
          rcases H3.out.2.2.2 with ⟨q1, q2, _⟩ | ⟨_, _, q⟩
          · exact ⟨⟨HPR.out.1, by rw [HPR.out.2.1]; exact q1, by rw [HPR.out.2.2.1]; exact HR0.out⟩, q2⟩
          · cases q
        go_wp2_with (first
          | (refine wpList_store_new rfl 25 (.tmp 7) (.tmp 25) rfl C _ 25 w2.heap.size rfl rfl rfl HIC.out (by rw [HCC.out.1]; rfl) HCC.out.2 ?_; rw [HW3.out])
          | (refine wpList_get rfl 25 (.tmp 7) rfl w2.heap.size 0 C C 25 _ rfl H3.out.1 (fun j v hv => by rw [Nat.zero_add]; exact hv) Tryd.underlying25 rfl HIC.out ?_)
          | (refine wpList_stoX rfl 25 (.tmp 2) (.tmp 30) rfl w.heap.size C zT17 25 rfl rfl H3.out.2.1 HIC.out HCC.out.1.symm HCC.out.2 ?_; intro w7 HB7 HG7)
          | fail)
        have hl := H2.out.2.2.2
        refine bodyPost_ret (res_cell_tmp rfl _ _ w.heap.size 25 C (0, 0) _ rfl HB7.out Tryd.underlying25 rfl HIC.out) rfl ⟨C, 0, rfl, .inl ⟨HYES.out.1, ?_, rfl⟩, H3.out.2.2.1.grown HG7.out H3.out.2.2.1.size (fun b hk => by injection hk with hk; omega)⟩
        rw [HPR.out.2.1]
        exact HYES.out.2.other HG7.out hl (by omega)
    · have hbq := str_n17 h0
      have HNO : Hid (¬ IsT17 s) := fun h => h0 (by rw [← HPR.out.2.2.1]; exact h.2.2)
      clear h0
      go_wp2_with (first
        | (refine wpList_bdX0 rfl 25 rfl (.agg zT17) (bd_zR _) ?_)
        | (refine wpList_stoX rfl 25 (.tmp 2) (.tmp 21) rfl w.heap.size zT17 zT17 25 rfl rfl H1.out.1 HI4.out rfl zT17_one ?_; intro w7 HB7 HG7)
        | fail)
      refine bodyPost_ret (res_cell_tmp rfl _ _ w.heap.size 25 zT17 (0, 0) _ rfl HB7.out Tryd.underlying25 rfl HI4.out) rfl ⟨zT17, 4, rfl, .inr ⟨HNO.out, rfl, rfl⟩, H1.out.2.grown HG7.out H1.out.2.size (fun b hk => by injection hk with hk; omega)⟩
end Go.Proofs.YteccnnpialaalaaDoor
