/- The document's made: a shard that is a sum of others, each times a number. -/
import Derived.Test.YtblmblbkfdcbjaaJ3
import Derived.Test.YtblmblbkfdcbjaaF3
import Derived.Test.YtblmblbkfdcbjaaF10
namespace Go.Proofs.Ytblmblbkfdcbjaa
open Go.RowKit
set_option linter.unusedSimpArgs false
set_option linter.unusedVariables false
/-- The bytes of a slice. -/
def ByL (w : World) (a : Option Addr) (r : ByteArray) (n : Nat) : Prop := ∀ j, j < n → ∃ g o, a = some ⟨g, o, none⟩ ∧ g < w.heap.size ∧ w.cell? ⟨g, o + j, none⟩ = some (c8 (bt r j))
theorem ByL.below {w w' : World} {a : Option Addr} {r : ByteArray} {n : Nat} (h : ByL w a r n) (hb : Below w.heap.size w w') : ByL w' a r n := by
  intro j hj
  obtain ⟨g, o, e, hg, hc⟩ := h j hj
  exact ⟨g, o, e, Nat.lt_of_lt_of_le hg hb.size, by rw [hb.cell (p := ⟨g, o + j, none⟩) hg]; exact hc⟩
theorem ByL.cel {w : World} {g o : Nat} {r : ByteArray} {n : Nat} (h : ByL w (some ⟨g, o, none⟩) r n) {j : Nat} (hj : j < n) : w.cell? ⟨g, o + j, none⟩ = some (c8 (bt r j)) := by
  obtain ⟨g2, o2, e, _, hc⟩ := h j hj
  obtain ⟨rfl, rfl⟩ : g = g2 ∧ o = o2 := by simpa using e
  exact hc
/-- The sum at the place i of the shard j. -/
def msF (r : ByteArray) (xs : List ByteArray) (j i p : Nat) : UInt8 := if p < i then mxF r xs (j + 1) p else mxF r xs j p
theorem ms_zero (r : ByteArray) (xs : List ByteArray) (d j : Nat) : fl d (msF r xs j 0) = fl d (mxF r xs j) := fl_congr d _ _ (fun p _ => if_neg (by omega))
theorem ms_all (r : ByteArray) (xs : List ByteArray) (d j i : Nat) (h : d ≤ i) : fl d (msF r xs j i) = fl d (mxF r xs (j + 1)) := fl_congr d _ _ (fun p hp => if_pos (by omega))
theorem ms_next (r : ByteArray) (xs : List ByteArray) (d j i : Nat) : (fl d (msF r xs j i)).set i (mxF r xs (j + 1) i) = fl d (msF r xs j (i + 1)) := by
  rw [fl_set]
  refine fl_congr d _ _ (fun p hp => ?_)
  unfold msF
  by_cases e : p = i
  · subst e; rw [if_pos rfl, if_pos (by omega)]
  · rw [if_neg e]
    by_cases h : p < i
    · rw [if_pos h, if_pos (by omega)]
    · rw [if_neg h, if_neg (by omega)]
/-- A row of the call's own under way. -/
structure Mo (w0 : World) (l : List UInt8) (W : World) : Prop where
  r : Bk W w0.heap.size (rc l) 5
  b : Below w0.heap.size w0 W
theorem Mo.drew {w0 W : World} {l : List UInt8} (h : Mo w0 l W) : Mo w0 l W.drew := ⟨h.r, h.b.drew⟩
theorem Mo.step {w0 W : World} {l : List UInt8} (h : Mo w0 l W) (j : Nat) (v : UInt8) : Mo w0 (l.set j v) (W.setCell ⟨w0.heap.size, j, none⟩ (c8 v)) :=
  ⟨by rw [← rc_set]; exact h.r.set j _, below_own h.b h.b.size (Lib.grownBy_setB (World.grownBy.refl _ _) _ _) (Nat.le_refl _)⟩
theorem quiet_ts {o : Oper} {a : Act} {C : World → Prop} {K : Act → Prop} (x : Operand) (ho : o.op = .load 9 x) (g f : Nat) (s : ByteArray) (hx : a.eval x = .pointer (some ⟨g, f, none⟩))
    (hc : ∀ w, C w → w.cell? ⟨g, f, none⟩ = some (.string s)) (hn : K (a.put o.dst (.string s))) : o.quiet Try.prog a C K :=
  quiet_val (.string s) (fun w hw => by
    have h := hc w hw
    have ha : (isAgg 9).run Try.prog w = .ok false w := by kernel_rfl
    unfold execOp
    simp [ho, hx, Instr.loadAt, Instr.sureAddr, loadVar, ha, h]) hn
set_option maxHeartbeats 2000000 in
set_option maxRecDepth 100000 in
theorem made_any (a b : Option Addr) (la ca cb k d : Nat) (r : ByteArray) (xs : List ByteArray) (w : World) (hr : ByL w a r k) (hx : TxL w b xs) (nx : xs.length = k) (hk1 : 1 ≤ k) (hk : k ≤ 64) (hla : k ≤ la) (hla2 : la ≤ 4611686018427387904)
    (sx : ∀ x ∈ xs, x.size = d) (hd : d ≤ 281474976710656) :
    Calls Try.prog 47 #[.slice a la ca, .slice b k cb] w fun e w' => e = .returned (.string (mixT r xs d)) ∧ Below w.heap.size w w' := by
  obtain ⟨x0, hx0⟩ : ∃ x0, xs[0]? = some x0 := ⟨_, List.getElem?_eq_getElem (by omega)⟩
  obtain ⟨gb, ob, rfl, hgb, hc0⟩ := hx 0 x0 hx0
  obtain ⟨ga, oa, rfl, hga, _⟩ := hr 0 (by omega)
  rw [Nat.add_zero] at hc0
  have hs0 : x0.size = d := sx x0 (List.mem_of_getElem? hx0)
  have HX : Hid (TxL w (some ⟨gb, ob, none⟩) xs) := hx
  have HR : Hid (ByL w (some ⟨ga, oa, none⟩) r k) := hr
  have NX : Hid (xs.length = k) := nx
  have SX : Hid (∀ x ∈ xs, x.size = d) := sx
  have hmu := make_u8 d hd
  clear hx hr nx sx hx0
  have HO0 : Hid (Mo w (fl d (mxF r xs 0)) (w.alloc (.cells (rc (fl d fun _ => 0)) 5))) := ⟨bk_new _ _ _, (Below.refl _ _).alloc (Nat.le_refl _) _⟩
  go_enter Try.func47, Try.ntmps47
  go_wp2_with fail
  go_loopw [6] (fun t wr => ∃ j : Nat, j ≤ k ∧ t = .int .i64 j ∧ Hid (Mo w (fl d (mxF r xs j)) wr)) (fun t _ => k - (intOf t).toNat)
  case atStart => exact ⟨0, by omega, rfl, HO0.out⟩
  case round =>
    clear HO0 hc0
    obtain ⟨j, hj, rfl, HO⟩ := hrel
    by_cases hlj : j < k
    · have hjz : (j : Int) < (k : Nat) := by omega
      have hjl : j < la := by omega
      have hjlz : (j : Int) < (la : Nat) := by omega
      have hc1 := (HR.out.below HO.out.b).cel hlj
      obtain ⟨x, hxj⟩ : ∃ x, xs[j]? = some x := ⟨_, List.getElem?_eq_getElem (by rw [NX.out]; exact hlj)⟩
      have HXJ : Hid (xs[j]? = some x) := hxj
      have hxs := SX.out x (List.mem_of_getElem? hxj)
      have HE : Hid (∀ p, mxF r xs (j + 1) p = mxF r xs j p ^^^ mul (bt r j) (bt x p)) := fun p => by
        show Sx (j + 1) _ = _
        rw [Sx, dm_at xs j p x hxj]; rfl
      clear hxj
      have HC1 : Hid (∀ W, Mo w (fl d (mxF r xs j)) W → True) := fun _ _ => trivial
      have HRJ : Hid (∀ W, Below w.heap.size w W → W.cell? ⟨ga, oa + j, none⟩ = some (c8 (bt r j))) := fun W hW => (HR.out.below hW).cel hlj
      obtain ⟨c, hc⟩ : ∃ c, bt r j = c := ⟨_, rfl⟩
      rw [hc] at HE hc1 HRJ
      have hc8 := c.toNat_lt
      clear hc HC1
      by_cases h0 : c = 0
      · have hz0 : ((c.toNat : Int) == 0) = true := by rw [h0]; rfl
        have HO2 : Hid (Mo w (fl d (mxF r xs (j + 1))) wr) := by
          show Mo _ _ _
          rw [fl_congr d (mxF r xs (j + 1)) (mxF r xs j) (fun p _ => by rw [HE.out p, h0, zero_mul, UInt8.xor_zero])]
          exact HO.out
        clear h0
        go_wp2
        go_roundw
        case rel => exact ⟨j + 1, by omega, by go_num, HO2.out⟩
        case measure => simp [intOf]; omega
      · have hz0 : ((c.toNat : Int) == 0) = false := by rw [beq_eq_false_iff_ne]; intro e; apply h0; apply UInt8.toNat_inj.1; show c.toNat = 0; omega
        clear h0
        go_wp2_with fail
        go_loopw [7] (fun t wr => ∃ i : Nat, i ≤ d ∧ t = .int .i64 i ∧ Hid (Mo w (fl d (msF r xs j i)) wr)) (fun t _ => d - (intOf t).toNat)
        case atStart => exact ⟨0, by omega, rfl, by show Mo _ _ _; rw [ms_zero]; exact HO.out⟩
        case round =>
          clear hc1 HO
          obtain ⟨i, hi, rfl, HO⟩ := hrel
          by_cases hli : i < d
          · have hiz : (i : Int) < (d : Nat) := by omega
            have hix : i < x.size := by omega
            have HE2 : Hid (mxF r xs (j + 1) i = mxF r xs j i ^^^ mul c x[i]) := by show _ = _; rw [HE.out i, bt_at]
            obtain ⟨v, hv⟩ : ∃ v, mxF r xs j i = v := ⟨_, rfl⟩
            rw [hv] at HE2
            obtain ⟨l, hl⟩ : ∃ l, fl d (msF r xs j i) = l := ⟨_, rfl⟩
            have HL : Hid (l[i]? = some v) := by show l[i]? = _; rw [← hl, fl_get d _ i hli, msF, if_neg (by omega), hv]
            have HLN : Hid (l.set i (v ^^^ mul c x[i]) = fl d (msF r xs j (i + 1))) := by show _ = _; rw [← hl, ← HE2.out, ms_next]
            rw [hl] at HO
            have hx8 := v.toNat_lt
            have hm8 := (mul c x[i]).toNat_lt
            have HX8 := xor8 v (mul c x[i])
            clear hv hl HE2
            go_wp2_with fail
            refine wp_region_tail (Mo w l) 18 (by kernel_rfl) (by kernel_rfl) HO.out.drew ?_
            simp only [List.take_succ_cons, List.take_zero, List.drop_succ_cons, List.drop_zero]
            iterate 4 (go_big_quiet_step (fail))
            go_big_quiet_want
            refine quiet_val (.pointer (some ⟨w.heap.size, i, none⟩)) ?_ ?_
            · intro W hW; go_simp; done
            go_big_quiet_on; simp only [Act.put, List.setIfInBounds_toArray, List.set_cons_zero, List.set_cons_succ]
            go_big_quiet_want
            refine quiet_byte (.tmp 34) rfl w.heap.size i v rfl (fun W hW => by rw [hW.r.cell, rc_get, HL.out]; rfl) ?_
            go_big_quiet_on; simp only [Act.put, List.setIfInBounds_toArray, List.set_cons_zero, List.set_cons_succ]
            iterate 2 (go_big_quiet_step (fail))
            go_big_quiet_want
            refine quiet_val (.pointer (some ⟨ga, oa + j, none⟩)) ?_ ?_
            · intro W hW; go_simp; done
            go_big_quiet_on; simp only [Act.put, List.setIfInBounds_toArray, List.set_cons_zero, List.set_cons_succ]
            go_big_quiet_want
            refine quiet_byte (.tmp 38) rfl ga (oa + j) c rfl (fun W hW => HRJ.out W hW.b) ?_
            go_big_quiet_on; simp only [Act.put, List.setIfInBounds_toArray, List.set_cons_zero, List.set_cons_succ]
            iterate 2 (go_big_quiet_step (fail))
            go_big_quiet_want
            refine quiet_val (.pointer (some ⟨gb, ob + j, none⟩)) ?_ ?_
            · intro W hW; go_simp; done
            go_big_quiet_on; simp only [Act.put, List.setIfInBounds_toArray, List.set_cons_zero, List.set_cons_succ]
            go_big_quiet_want
            refine quiet_ts (.tmp 42) rfl gb (ob + j) x rfl (fun W hW => (HX.out.below hW.b).cel HXJ.out) ?_
            go_big_quiet_on; simp only [Act.put, List.setIfInBounds_toArray, List.set_cons_zero, List.set_cons_succ]
            go_big_quiet_step (fail)
            go_big_quiet_want
            refine quiet_val (c8 x[i]) ?_ ?_
            · intro W hW; go_simp; done
            go_big_quiet_on; simp only [Act.put, List.setIfInBounds_toArray, List.set_cons_zero, List.set_cons_succ]
            go_big_quiet_want
            refine quiet_call (c8 (mul c x[i])) 34 #[c8 c, c8 x[i]] ?_ ?_ ?_
            · intro W hW; go_simp; done
            · intro W hW; exact (rtimes_any c x[i] W).mono (fun _ _ h => ⟨h.1, by rw [h.2]; exact hW⟩)
            go_big_quiet_on; simp only [Act.put, List.setIfInBounds_toArray, List.set_cons_zero, List.set_cons_succ]
            go_big_quiet_want
            refine quiet_val (c8 (v ^^^ mul c x[i])) ?_ ?_
            · intro W hW; go_simp; done
            go_big_quiet_on; simp only [Act.put, List.setIfInBounds_toArray, List.set_cons_zero, List.set_cons_succ]
            refine wpQuiet_nil ?_
            intro w9 hw9
            have hcl : w9.cell? ⟨w.heap.size, i, none⟩ = some (c8 v) := by rw [hw9.r.cell, rc_get, HL.out]; rfl
            have hfr := hw9.r.frozen i
            have HN : Hid (Mo w (fl d (msF r xs j (i + 1))) (w9.setCell ⟨w.heap.size, i, none⟩ (c8 (v ^^^ mul c x[i])))) := by
              show Mo _ _ _
              rw [← HLN.out]; exact hw9.step i _
            clear hw9 HO
            go_wp2
            go_roundw
            case rel => exact ⟨i + 1, by omega, by go_num, HN.out⟩
            case measure => simp [intOf]; omega
          · have hiz : ¬ (i : Int) < (d : Nat) := by omega
            have HO2 : Hid (Mo w (fl d (mxF r xs (j + 1))) wr) := by
              show Mo _ _ _
              rw [← ms_all r xs d j i (by omega)]
              exact HO.out
            go_wp2
            go_roundw
            case rel => exact ⟨j + 1, by omega, by go_num, HO2.out⟩
            case measure => simp [intOf]; omega
    · have hjz : ¬ (j : Int) < (k : Nat) := by omega
      have hjk : j = k := by omega
      have HO2 : Hid (Mo w (fl d (mxF r xs xs.length)) wr) := by
        have := HO.out
        rw [hjk, ← NX.out] at this
        exact this
      have hcv := conv_all (fl d (mxF r xs xs.length)) w.heap.size d d 5 wr (fl_len _ _) HO2.out.r
      clear hjk HO
      go_wp2
      go_ret
      exact ⟨rfl, HO2.out.b⟩
end Go.Proofs.Ytblmblbkfdcbjaa
