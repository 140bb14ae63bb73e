/- The walk of munimentlaw02.DigestBack. -/
import Derived.Test.YtbfdggkoildfkaaDoorD14
import Derived.Test.YtbfdggkoildfkaaDoorP11
import Derived.Test.YtbfdggkoildfkaaDoorE7
import Derived.BigQuiet
import Derived.Deep.MidRow
namespace Go.Proofs.YtbfdggkoildfkaaDoor
open Go.RowKit
set_option linter.unusedSimpArgs false
set_option linter.unusedVariables false
theorem idc_one (s : ByteArray) : (idc s).all (·.oneCell') = true := Array.all_eq_true_iff_forall_mem.2 (by intro v hv; exact bvc_one _ v (by simpa [idc] using hv))
theorem info_ids (s : ByteArray) (h : s.size = 32) : (Tryd.prog.info? 23).map (·.size) = some (idc s).size := info_32 (by rw [idc_size, h])
theorem hex_len (a : ByteArray) (h : a.size = 32) : (sb (hexL (bl a))).size = 64 := by rw [sb_size, hexL_length, bl_length, h]
theorem pid_hex (a : ByteArray) (h : a.size = 32) : pid (sb (hexL (bl a))) = idc a := by
  rw [pid_ok _ (by rw [(uh_hex a).1]; exact h), (uh_hex a).1]
theorem parse_hex (a : ByteArray) (w : World) (h : a.size = 32) (hA : All w) :
    Calls Tryd.prog 7 #[.string (sb (hexL (bl a)))] w fun e w' => e = .returned (.tuple #[.agg (idc a), .int .i64 0]) ∧ Below w.heap.size w w' := by
  have := parse_64 (sb (hexL (bl a))) w (hex_len a h) hA
  rwa [pid_hex a h, (uh_hex a).2] at this
/-- The world behind the two boxed names. -/
abbrev twoW (w : World) (a b : ByteArray) : World := (w.alloc (.cells (idc a) 23)).alloc (.cells (idc b) 23)
theorem Blk.range {w : World} {b : Nat} {C : Array Value} {T : TypeId} (h : Blk w b C T) : w.rangeAt b 0 C.toList := fun j v hv => by rw [h.cell, Nat.zero_add, ← hv, Array.getElem?_toList]
/-- What the law's last line reads, wherever it stands. -/
abbrev SX (w : World) (X : Nat) (a b : ByteArray) (k0 : Nat) (w' : World) : Prop :=
  w'.rangeAt X 0 (idc a).toList ∧ w'.rangeAt w.heap.size 0 (idc a).toList ∧ w'.rangeAt (w.heap.size + 1) 0 (idc b).toList ∧ w'.cell? ⟨w.heap.size, 0, none⟩ = some (.int .u8 (k0 : Int)) ∧ All w' ∧ w.grownBy w' none
theorem range_below {w w' : World} {b o : Nat} {cs : List Value} (h : w.rangeAt b o cs) (hg : w.grownBy w' none) : w'.rangeAt b o cs := fun j v hv => hg.cell (h j v hv) (by simp)
theorem SX.drew {w : World} {X : Nat} {a b : ByteArray} {k0 : Nat} {w' : World} (H : SX w X a b k0 w') : SX w X a b k0 w'.drew := by
  obtain ⟨h1, h2, h3, h4, h5, h6⟩ := H
  have g : w'.grownBy w'.drew none := Lib.Hx.grownBy_drew (World.grownBy.refl _ _)
  exact ⟨range_below h1 g, range_below h2 g, range_below h3 g, g.cell h4 (by simp), h5.grown g (by simp), h6.trans g⟩
theorem SX.below {w : World} {X : Nat} {a b : ByteArray} {k0 : Nat} {w' w'' : World} (H : SX w X a b k0 w') (hb : Below w'.heap.size w' w'') : SX w X a b k0 w'' := by
  obtain ⟨h1, h2, h3, h4, h5, h6⟩ := H
  have g := grown_of_below hb none
  exact ⟨range_below h1 g, range_below h2 g, range_below h3 g, g.cell h4 (by simp), h5.grown g (by simp), h6.trans g⟩
theorem SX.all {w : World} {X : Nat} {a b : ByteArray} {k0 : Nat} {w' : World} (H : SX w X a b k0 w') : All w' := H.2.2.2.2.1
theorem byl_whl (k : Nat) (p : ByteArray) (hk : k < 256) : byl (sb (whl k p)) = whl k p := byl_sb _ (by
  intro x hx
  simp only [whl, List.mem_cons, List.mem_append] at hx
  rcases hx with rfl | hx | hx
  · exact hk
  · exact fixN_lt _ _ x hx
  · exact byl_lt _ x hx)
/-- The law's last line: the two orders of names are one order. -/
theorem less_law (a b : ByteArray) (ha : a.size = 32) (hb : b.size = 32) : ((lessB a b || lessB b a) == !decide (a = b)) = true ∧ (!(lessB a b && lessB b a)) = true := by
  have h1 := cmpB_swap a.data.toList b.data.toList
  by_cases e : a = b
  · subst e
    have h0 := cmpB_refl a.data.toList
    have : lessB a a = false := by unfold lessB cmpId; rw [h0]; rfl
    simp [this]
  · have h0 : cmpId a b ≠ 0 := fun h => e (by
      have := cmpB_zero _ _ h
      cases a; cases b
      simp only [ByteArray.mk.injEq]
      exact Array.toList_inj.1 this)
    have h2 : cmpId b a = - cmpId a b := h1
    by_cases h3 : cmpId a b < 0
    · have e1 : lessB a b = true := decide_eq_true h3
      have e2 : lessB b a = false := decide_eq_false (by omega)
      simp [e1, e2, e]
    · have e1 : lessB a b = false := decide_eq_false h3
      have e2 : lessB b a = true := decide_eq_true (by omega)
      simp [e1, e2, e]
theorem less_cases (a b : ByteArray) (ha : a.size = 32) (hb : b.size = 32) : (lessB a b = false ∧ lessB b a = false ∧ decide (a = b) = true) ∨ (lessB a b = true ∧ lessB b a = false ∧ decide (a = b) = false) ∨ (lessB a b = false ∧ lessB b a = true ∧ decide (a = b) = false) := by
  have h := less_law a b ha hb
  revert h
  cases lessB a b <;> cases lessB b a <;> cases decide (a = b) <;> simp
theorem cls_text {w : World} {X : Nat} {a b : ByteArray} {k0 : Nat} {W : World} (ha : a.size = 32) (hW : SX w X a b k0 W) : Calls Tryd.prog 14 #[.agg (idc a)] W (fun e w'' => e = .returned (.string (sb (hexL (bl a)))) ∧ SX w X a b k0 w'') :=
  (text_any a W ha hW.all).mono (fun _ _ h => ⟨h.1, hW.below h.2⟩)
theorem cls_ab {w : World} {X : Nat} {a b : ByteArray} {k0 : Nat} {W : World} {x : Bool} (hx : x = lessB a b) (ha : a.size = 32) (hb : b.size = 32) (hW : SX w X a b k0 W) : Calls Tryd.prog 16 #[.agg (idc a), .agg (idc b)] W (fun e w'' => e = .returned (.bool x) ∧ SX w X a b k0 w'') :=
  (less_any a b W ha hb).mono (fun _ _ h => ⟨by rw [h.1, hx], hW.below h.2⟩)
theorem cls_ba {w : World} {X : Nat} {a b : ByteArray} {k0 : Nat} {W : World} {y : Bool} (hy : y = lessB b a) (ha : a.size = 32) (hb : b.size = 32) (hW : SX w X a b k0 W) : Calls Tryd.prog 16 #[.agg (idc b), .agg (idc a)] W (fun e w'' => e = .returned (.bool y) ∧ SX w X a b k0 w'') :=
  (less_any b a W hb ha).mono (fun _ _ h => ⟨by rw [h.1, hy], hW.below h.2⟩)
theorem cls_of {w : World} {X : Nat} {a b q : ByteArray} {k0 : Nat} {W : World} (hk : k0 < 256) (hq : q.size ≤ 2000) (hW : SX w X a b k0 W) : Calls Tryd.prog 12 #[.int .u8 (k0 : Int), .string q] W (fun e w'' => e = .returned (.agg (idc (sb (sha (whl k0 q))))) ∧ SX w X a b k0 w'') :=
  (of_id k0 q W hk hq hW.all.l).mono (fun _ _ h => ⟨h.1, hW.below h.2⟩)
theorem cls_whole {w : World} {X : Nat} {a b q : ByteArray} {k0 : Nat} {W : World} (hk : k0 < 256) (hq : q.size ≤ 2000) (hW : SX w X a b k0 W) : Calls Tryd.prog 23 #[.int .u8 (k0 : Int), .string q] W (fun e w'' => e = .returned (.string (sb (whl k0 q))) ∧ SX w X a b k0 w'') :=
  (whole_any k0 q W hk hq).mono (fun _ _ h => ⟨h.1, hW.below h.2⟩)
theorem cls_sum {w : World} {X : Nat} {a b q : ByteArray} {k0 : Nat} {W : World} (hk : k0 < 256) (hq : q.size ≤ 2000) (hW : SX w X a b k0 W) : Calls Tryd.prog 9 #[.string (sb (whl k0 q))] W (fun e w'' => e = .returned (.agg (idc (sb (sha (whl k0 q))))) ∧ SX w X a b k0 w'') :=
  (sum_id (sb (whl k0 q)) W hW.all.l (by rw [sb_size]; simp [whl, fixN_length, byl_length]; omega)).mono (fun _ _ h => ⟨by rw [h.1, byl_whl k0 q hk], hW.below h.2⟩)
theorem cls_awake {w : World} {X : Nat} {a b : ByteArray} {k0 : Nat} {W : World} (hW : SX w X a b k0 W) : Calls Tryd.prog 18 #[] W (fun e w'' => e = .returned (.bool true) ∧ SX w X a b k0 w'') :=
  (awake_any W hW.all).mono (fun _ _ h => ⟨h.1, hW.below h.2⟩)
theorem quiet_id {o : Oper} {a : Act} {C : World → Prop} {K : Act → Prop} (s : ByteArray) (hs : s.size = 32) (x : Operand) (ho : o.op = .load 23 x) (g : Nat) (hx : a.eval x = .pointer (some ⟨g, 0, none⟩))
    (hr : ∀ w, C w → w.rangeAt g 0 (idc s).toList) (hn : K (a.put o.dst (.agg (idc s)))) : o.quiet Tryd.prog a C K :=
  quiet_val (.agg (idc s)) (fun w hw => by
    have h := run_loadAt_mid (P := Tryd.prog) w g 0 23 (idc s).toList _ (hr w hw) Tryd.underlying23 rfl (by rw [Array.length_toList]; exact info_ids s hs)
    unfold execOp
    simp only [ho, hx, h, Sem.run_bind, Result.andThen_ok]
    rfl) hn
theorem quiet_u8 {o : Oper} {a : Act} {C : World → Prop} {K : Act → Prop} (x : Operand) (ho : o.op = .load 5 x) (g : Nat) (k0 : Int) (hx : a.eval x = .pointer (some ⟨g, 0, none⟩))
    (hc : ∀ w, C w → w.cell? ⟨g, 0, none⟩ = some (.int .u8 k0)) (hn : K (a.put o.dst (.int .u8 k0))) : o.quiet Tryd.prog a C K :=
  quiet_val (.int .u8 k0) (fun w hw => by
    have h := hc w hw
    have ha : (isAgg 5).run Tryd.prog w = .ok false w := by kernel_rfl
    unfold execOp
    simp [ho, hx, Instr.loadAt, Instr.sureAddr, loadVar, ha, h]) hn
set_option maxHeartbeats 12000000 in
set_option maxRecDepth 100000 in
theorem back_small (a b p : ByteArray) (w : World) (ha : a.size = 32) (hb : b.size = 32) (hps : p.size ≤ 2000) (hA : All w) :
    Calls Tryd.prog 5 #[.agg (idc a), .agg (idc b), .string p] w fun e w' => e = .returned (.bool true) ∧ Below w.heap.size w w' := by
  have HA : Hid (All w) := hA
  clear hA
  have hh := hex_len a ha
  have HBa : Hid (Blk (twoW w a b) w.heap.size (idc a) 23) := Blk.grown (blk_new w _) (World.grownBy_alloc _ _ none) (by simp)
  have HBb : Hid (Blk (twoW w a b) (w.heap.size + 1) (idc b) 23) := by
    have e := blk_new (w.alloc (.cells (idc a) 23)) (.cells (idc b) 23)
    rwa [alloc_size] at e
  obtain ⟨q, hq, hq2, hq3⟩ : ∃ q : ByteArray, q = p.extract 0 (min p.size 2000) ∧ q.size ≤ 2000 ∧ (p.size ≤ 2000 → q = p) := ⟨_, rfl, by rw [ByteArray.size_extract]; omega, fun h => by rw [Nat.min_eq_left h, ByteArray.extract_zero_size]⟩
  obtain ⟨k0, hk0, hk1⟩ : ∃ k0, k0 = (byl a).getD 0 0 ∧ k0 < 256 := ⟨_, rfl, by rw [List.getD, byl_getD a 0 (by omega)]; exact a[0].toNat_lt⟩
  have hL := less_cases a b ha hb
  have q1 := eql_ids a a ha ha
  have q2 := neq_ids a b ha hb
  have q4 := equalIn_ids a b ha hb
  have q3 := eql_ids (sb (sha (whl k0 q))) (sb (sha (whl k0 q))) (sha_size _) (sha_size _)
  have hpq : q = p := hq3 hps
  subst hpq
  clear hq hq3
  go_enter Tryd.func5, Tryd.ntmps5
  go_wp2_with (first
    | (refine wpList_load_row rfl 23 (.tmp 3) rfl w.heap.size rfl 23 (idc a) (0, 0) _ HBa.out Tryd.underlying23 rfl (info_ids a ha) ?_)
    | (go_at_call 14; refine (text_any a _ ha ((HA.out.alloc _).alloc _)).mono ?_; rintro e w1 ⟨rfl, hb1⟩; have HB1 : Hid (Below (twoW w a b).heap.size (twoW w a b) w1) := hb1; clear hb1)
    | (go_at_call 7; refine (parse_hex a _ ha (((HA.out.alloc _).alloc _).below HB1.out)).mono ?_; rintro e w2 ⟨rfl, hb2⟩; have HB2 : Hid (Below w1.heap.size w1 w2) := hb2; clear hb2)
    | (refine wpList_store_abs rfl 23 (.tmp 7) (.tmp 13) rfl (idc a) _ 23 w2.heap.size rfl rfl rfl (info_ids a ha) (by rw [idc_size, ha]; rfl) (idc_one a) ?_; intro w3 HBk HG3 hsz3))
  have g3 := ((grown_of_below HB1.out none).trans (grown_of_below HB2.out none)).trans HG3.out
  have HS : SX w w2.heap.size a b k0 w3 := ⟨HBk.out.range, (HBa.out.grown g3 (by simp)).range, (HBb.out.grown g3 (by simp)).range, by rw [(HBa.out.grown g3 (by simp)).cell, idc_get a 0 (by omega), hk0, List.getD, byl_getD a 0 (by omega)]; rfl, ((HA.out.alloc _).alloc _).grown g3 (by simp), ((World.grownBy_alloc w _ none).trans (World.grownBy_alloc _ _ none)).trans g3⟩
  have hu := Tryd.underlying23
  have hi1 : (Tryd.prog.info? 23).map (·.size) = some (idc a).toList.length := by rw [Array.length_toList]; exact info_ids a ha
  have hi2 : (Tryd.prog.info? 23).map (·.size) = some (idc b).toList.length := by rw [Array.length_toList]; exact info_ids b hb
  clear g3
  have hlen64 : (sb (hexL (bl a))).size = 64 := hh
  have q3' := q3
  clear HBk HG3 hsz3 HB1 HB2 HBa HBb HA hq2 hk0
  refine wp_region_class (SX w w2.heap.size a b k0) (by kernel_rfl) (by kernel_rfl) HS.drew ?_
  have hwl : byl (sb (whl k0 q)) = whl k0 q := byl_whl k0 q hk1
  have hk8 : ∀ W, SX w w2.heap.size a b k0 W → W.cell? ⟨w.heap.size, 0, none⟩ = some (.int .u8 (k0 : Int)) := fun W h => h.2.2.2.1
  rcases hL with ⟨e1, e2, e3⟩ | ⟨e1, e2, e3⟩ | ⟨e1, e2, e3⟩ <;> rw [e3] at q4 <;> simp only [e3, Bool.not_true, Bool.not_false] at q2 <;> have hx := e1.symm <;> have hy := e2.symm <;> clear e1 e2 e3
  all_goals
    repeat (first
      | go_big_quiet_skip
      | (go_big_quiet_want
         first
           | (refine quiet_id a ha _ rfl w2.heap.size rfl (fun _ h => h.1) ?_; go_big_quiet_on; simp only [Act.put, List.setIfInBounds_toArray, List.set_cons_zero, List.set_cons_succ])
           | (refine quiet_id a ha _ rfl w.heap.size rfl (fun _ h => h.2.1) ?_; go_big_quiet_on; simp only [Act.put, List.setIfInBounds_toArray, List.set_cons_zero, List.set_cons_succ])
           | (refine quiet_id b hb _ rfl (w.heap.size + 1) rfl (fun _ h => h.2.2.1) ?_; go_big_quiet_on; simp only [Act.put, List.setIfInBounds_toArray, List.set_cons_zero, List.set_cons_succ])
           | (refine quiet_val (.bool true) ?_ ?_; (focus (intro W hW; go_simp; done)); go_big_quiet_on; simp only [Act.put, List.setIfInBounds_toArray, List.set_cons_zero, List.set_cons_succ])
           | (refine quiet_val (.bool true) ?_ ?_; (focus (intro W hW; rfl)); go_big_quiet_on; simp only [Act.put, List.setIfInBounds_toArray, List.set_cons_zero, List.set_cons_succ])
           | (refine quiet_val (.bool false) ?_ ?_; (focus (intro W hW; rfl)); go_big_quiet_on; simp only [Act.put, List.setIfInBounds_toArray, List.set_cons_zero, List.set_cons_succ])
           | (refine quiet_val (.bool false) ?_ ?_; (focus (intro W hW; go_simp; done)); go_big_quiet_on; simp only [Act.put, List.setIfInBounds_toArray, List.set_cons_zero, List.set_cons_succ])
           | (refine quiet_val (.int .i64 64) ?_ ?_; (focus (intro W hW; go_simp; done)); go_big_quiet_on; simp only [Act.put, List.setIfInBounds_toArray, List.set_cons_zero, List.set_cons_succ])
           | (refine quiet_u8 _ rfl w.heap.size (k0 : Int) rfl hk8 ?_; go_big_quiet_on; simp only [Act.put, List.setIfInBounds_toArray, List.set_cons_zero, List.set_cons_succ])
           | (refine quiet_val (.pointer (some ⟨w.heap.size, 0, none⟩)) ?_ ?_; (focus (intro W hW; go_simp; done)); go_big_quiet_on; simp only [Act.put, List.setIfInBounds_toArray, List.set_cons_zero, List.set_cons_succ])
           | (refine quiet_call (.string (sb (hexL (bl a)))) 14 #[.agg (idc a)] ?_ ?_ ?_; (focus (intro W hW; go_simp; done)); (focus (intro W hW; exact cls_text ha hW)); go_big_quiet_on; simp only [Act.put, List.setIfInBounds_toArray, List.set_cons_zero, List.set_cons_succ])
           | (refine quiet_call (.bool true) 16 #[.agg (idc a), .agg (idc b)] ?_ ?_ ?_; (focus (intro W hW; go_simp; done)); (focus (intro W hW; exact cls_ab hx ha hb hW)); go_big_quiet_on; simp only [Act.put, List.setIfInBounds_toArray, List.set_cons_zero, List.set_cons_succ])
           | (refine quiet_call (.bool false) 16 #[.agg (idc a), .agg (idc b)] ?_ ?_ ?_; (focus (intro W hW; go_simp; done)); (focus (intro W hW; exact cls_ab hx ha hb hW)); go_big_quiet_on; simp only [Act.put, List.setIfInBounds_toArray, List.set_cons_zero, List.set_cons_succ])
           | (refine quiet_call (.bool true) 16 #[.agg (idc b), .agg (idc a)] ?_ ?_ ?_; (focus (intro W hW; go_simp; done)); (focus (intro W hW; exact cls_ba hy ha hb hW)); go_big_quiet_on; simp only [Act.put, List.setIfInBounds_toArray, List.set_cons_zero, List.set_cons_succ])
           | (refine quiet_call (.bool false) 16 #[.agg (idc b), .agg (idc a)] ?_ ?_ ?_; (focus (intro W hW; go_simp; done)); (focus (intro W hW; exact cls_ba hy ha hb hW)); go_big_quiet_on; simp only [Act.put, List.setIfInBounds_toArray, List.set_cons_zero, List.set_cons_succ])
           | (refine quiet_call (.agg (idc (sb (sha (whl k0 q))))) 12 #[.int .u8 (k0 : Int), .string q] ?_ ?_ ?_; (focus (intro W hW; go_simp; done)); (focus (intro W hW; exact cls_of hk1 hps hW)); go_big_quiet_on; simp only [Act.put, List.setIfInBounds_toArray, List.set_cons_zero, List.set_cons_succ])
           | (refine quiet_call (.string (sb (whl k0 q))) 23 #[.int .u8 (k0 : Int), .string q] ?_ ?_ ?_; (focus (intro W hW; go_simp; done)); (focus (intro W hW; exact cls_whole hk1 hps hW)); go_big_quiet_on; simp only [Act.put, List.setIfInBounds_toArray, List.set_cons_zero, List.set_cons_succ])
           | (refine quiet_call (.agg (idc (sb (sha (whl k0 q))))) 9 #[.string (sb (whl k0 q))] ?_ ?_ ?_; (focus (intro W hW; go_simp; done)); (focus (intro W hW; exact cls_sum hk1 hps hW)); go_big_quiet_on; simp only [Act.put, List.setIfInBounds_toArray, List.set_cons_zero, List.set_cons_succ])
           | (refine quiet_call (.bool true) 18 #[] ?_ ?_ ?_; (focus (intro W hW; go_simp; done)); (focus (intro W hW; exact cls_awake hW)); go_big_quiet_on; simp only [Act.put, List.setIfInBounds_toArray, List.set_cons_zero, List.set_cons_succ])
           | (go_big_quiet_op; go_big_quiet_on)))
    refine wpQuiet_nil ?_
    intro w' hw'
    go_wp2
    go_ret
    exact ⟨rfl, below_of_grown hw'.2.2.2.2.2⟩
end Go.Proofs.YtbfdggkoildfkaaDoor
