import Derived.Test.YtjnijcmalnckcaaDoorY4
import Derived.Test.YtjnijcmalnckcaaDoorY11
import Derived.WalkKit
import Derived.WalkSpells
import Derived.WalkLawsBesides
import Derived.Handy
import Derived.RegionTactic
import Derived.Test.YtjnijcmalnckcaaDoorY7
import Derived.Maps.AppendAt
import Derived.Deep.Cut
import Derived.Deep.CutRange
import Derived.Deep.DeepCutAuto
/- The document's own reader, as takers are told: what a number, a text, a byte taken tells. -/
namespace Go.Proofs.YtjnijcmalnckcaaDoor
open Go.RowKit
set_option linter.unusedSimpArgs false
set_option linter.unusedVariables false
/-- A reader of the document in block b. -/
structure RB (b : Nat) (s : ByteArray) (w : World) : Prop where
  rc : w.cell? ⟨b, 0, none⟩ = some (.string s)
  rf : w.frozen? ⟨b, 0, none⟩ = false
  rl : b < w.heap.size
theorem RB.step {b : Nat} {s s' : ByteArray} {w w' : World} (h : RB b s w) (hs : Step b w w' s') : RB b s' w' := ⟨hs.cell, hs.frozen, Nat.lt_of_lt_of_le h.rl hs.size⟩
/-- Behind so many errors as there were: does all fit? -/
def orE (u : Bool) (e : Int) : Bool := u || decide (e ≠ 0)
theorem orE_no (u : Bool) : orE u 4 = true := by unfold orE; cases u <;> rfl
theorem orE_ok (u : Bool) : orE u 0 = u := by unfold orE; cases u <;> rfl
theorem num_any {s : ByteArray} {u : Bool} {most : Nat} (hk : shK s ≠ 0) (h : shN s ≤ most) : NumS s u most (shN s) (s.extract (shK s) s.size) u :=
  ⟨h, ext_size _ _, fun hu => ⟨hu, num_split hk⟩, fun hu m r hmm hm he => ⟨hu, (num_front hm he).2.1, (num_front hm he).2.2⟩⟩
theorem txt_any10 {s : ByteArray} {u : Bool} {most : Nat} (hk : shK s ≠ 0) (hn : shN s ≤ most) (hl : shK s + shN s ≤ s.size) : TxtS s u most (s.extract (shK s) (shK s + shN s)) (s.extract (shK s + shN s) s.size) u :=
  ⟨by rw [(txt_split hk hl).2]; exact hn, ext_size _ _, fun hu => ⟨hu, (txt_split hk hl).1⟩, fun hu y r hmm hm he => ⟨hu, (txt_front hm he).2.2.2.1, (txt_front hm he).2.2.2.2⟩⟩
theorem ruintS (b : Nat) (s : ByteArray) (u : Bool) (w : World) (h : RB b s w) (hs : s.size ≤ 140737488351232) :
    Calls Tryd.prog 36 #[.pointer (some ⟨b, 0, none⟩)] w fun e w' => ∃ (n : Nat) (er : Int) (s' : ByteArray), e = .returned (.tuple #[.int .u64 (n : Int), .int .i64 er]) ∧ Step b w w' s' ∧ (er = 0 ∨ er = 4) ∧ NumS s u 18446744073709551615 n s' (orE u er) := by
  by_cases hk : shK s = 0
  · refine (ruint_no s b w (by unfold maxLen; omega) h.rc h.rf h.rl hk).mono ?_
    rintro e w' ⟨rfl, hst⟩
    exact ⟨0, 4, s, rfl, hst, .inr rfl, by rw [orE_no]; exact num_bad hk⟩
  · refine (ruint_ok s b w (by unfold maxLen; omega) h.rc h.rf h.rl hk).mono ?_
    rintro e w' ⟨rfl, hst⟩
    exact ⟨shN s, 0, _, rfl, hst, .inl rfl, by rw [orE_ok]; exact num_any hk (by have := shN_lt s; omega)⟩
theorem rtextS (b : Nat) (s : ByteArray) (u : Bool) (most : Nat) (w : World) (h : RB b s w) (hs : s.size ≤ 140737488351232) (hm : most ≤ 9223372036854775807) :
    Calls Tryd.prog 37 #[.pointer (some ⟨b, 0, none⟩), .int .i64 (most : Int)] w fun e w' => ∃ (x : ByteArray) (er : Int) (s' : ByteArray), e = .returned (.tuple #[.string x, .int .i64 er]) ∧ Step b w w' s' ∧ (er = 0 ∨ er = 4) ∧ TxtS s u most x s' (orE u er) := by
  have bad : shK s = 0 ∨ most < shN s ∨ s.size - shK s < shN s → Calls Tryd.prog 37 #[.pointer (some ⟨b, 0, none⟩), .int .i64 (most : Int)] w fun e w' => e = .returned (.tuple #[.string ⟨#[]⟩, .int .i64 4]) ∧ Step b w w' s := fun hh => by
    by_cases h1 : shK s = 0
    · exact rtext_no1 s b w (by unfold maxLen; omega) h.rc h.rf h.rl most hm h1
    · by_cases h2 : most < shN s
      · exact rtext_no2 s b w (by unfold maxLen; omega) h.rc h.rf h.rl most hm h1 h2
      · exact rtext_no3 s b w (by unfold maxLen; omega) h.rc h.rf h.rl most hm h1 (by omega) (by omega)
  by_cases hk : shK s = 0 ∨ most < shN s ∨ s.size - shK s < shN s
  · refine (bad hk).mono ?_
    rintro e w' ⟨rfl, hst⟩
    exact ⟨⟨#[]⟩, 4, s, rfl, hst, .inr rfl, by rw [orE_no]; exact txt_bad hk⟩
  · have g3 : shK s + shN s ≤ s.size := by have := shK_le s; omega
    refine (rtext_ok s b w (by unfold maxLen; omega) h.rc h.rf h.rl most hm (by omega) (by omega) g3).mono ?_
    rintro e w' ⟨rfl, hst⟩
    exact ⟨_, 0, _, rfl, hst, .inl rfl, by rw [orE_ok]; exact txt_any10 (by omega) (by omega) g3⟩
theorem rfixS (b : Nat) (s : ByteArray) (u : Bool) (w : World) (h : RB b s w) (hs : s.size ≤ 140737488351232) :
    Calls Tryd.prog 35 #[.pointer (some ⟨b, 0, none⟩), .int .i64 1] w fun e w' => ∃ (n : Nat) (er : Int) (s' : ByteArray), e = .returned (.tuple #[.int .u64 (n : Int), .int .i64 er]) ∧ Step b w w' s' ∧ (er = 0 ∨ er = 4) ∧ NodS s u n s' (orE u er) := by
  by_cases hk : s.size < 1
  · refine (rfixed_no s b w (by unfold maxLen; omega) h.rc h.rf h.rl 1 (by omega) (by omega) hk).mono ?_
    rintro e w' ⟨rfl, hst⟩
    exact ⟨0, 4, s, rfl, hst, .inr rfl, by rw [orE_no]; exact nod_bad hk⟩
  · refine (rfixed_ok s b w (by unfold maxLen; omega) h.rc h.rf h.rl 1 (by omega) (by omega) (by omega)).mono ?_
    rintro e w' ⟨rfl, hst⟩
    exact ⟨_, 0, _, rfl, hst, .inl rfl, by rw [orE_ok]; exact (nod_ok (by omega)).1⟩
end Go.Proofs.YtjnijcmalnckcaaDoor
/- A drawn append whose run is known. -/
namespace Go.Proofs.YtjnijcmalnckcaaDoor
open Go.RowKit
set_option linter.unusedSimpArgs false
set_option linter.unusedVariables false
theorem step_app_run {P : Program} {ops : Array Oper} {o : Oper} {a : Act} {w : World} {K : Act → World → Prop} {Q : Exit → Act → World → Prop} {E : Prop} (hgd : o.guard = none) (s x : Operand) (t u : TypeId)
    (ho : o.op = .call { callee := .builtin .append, args := #[s, x], argTypes := #[t, u] }) (v y v' : Value) (w' : World) (hs : a.eval s = v) (hx : a.eval x = y) (hr : (Builtin.append_ #[t, u] o.type #[v, y]).run P w = .ok v' w') (h : K (a.put o.dst v') w') :
    if Region.wanted o (yielded ops a.tmps) = true then Oper.wp P o a w K Q else E := by
  have hw : Region.wanted o (yielded ops a.tmps) = true := by simp [Region.wanted, hgd]
  rw [if_pos hw]
  unfold Oper.wp execOp
  simp only [ho, resolve, invoke, builtin, Sem.run_bind, Sem.run_pure, Result.andThen_ok, List.map_toArray, List.map_cons, List.map_nil, hs, hx, hr]
  exact h
end Go.Proofs.YtjnijcmalnckcaaDoor
/- The law's ref. -/
namespace Go.Proofs.YtjnijcmalnckcaaDoor
open Go.RowKit
set_option linter.unusedSimpArgs false
set_option linter.unusedVariables false
theorem inf_rxattr : (Tryd.prog.info? 61).map (fun i => (i.zero, i.size, i.bytes)) = some (some (.agg #[.string ⟨#[]⟩, .string ⟨#[]⟩]), 2, 32) := by kernel_rfl
theorem inf_rattr : (Tryd.prog.info? 25).map (·.size) = some 7 := by kernel_rfl
/-- What lies there while a list is copied. -/
structure OF (w0 : World) (nd md ui gi : Nat) (mt : Int) (tg : ByteArray) (ad : Option Addr) (n c : Nat) (ys : List (ByteArray × ByteArray)) (v : Value) (w : World) : Prop where
  ab : Bk w w0.heap.size (c7 nd md ui gi mt tg (.slice ad n c)) 28
  rb : Bk w (w0.heap.size + 1) z7 25
  xb : Bk w (w0.heap.size + 1 + 1) (c7 nd md ui gi mt tg v) 25
  ow : w.ownsRow (w0.heap.size + 1 + 1 + 1) 61 2 v ys.length (xav ys)
  bel : Below w0.heap.size w0 w
theorem OF.drew {w0 : World} {nd md ui gi : Nat} {mt : Int} {tg : ByteArray} {ad : Option Addr} {n c : Nat} {ys : List (ByteArray × ByteArray)} {v : Value} {w : World} (h : OF w0 nd md ui gi mt tg ad n c ys v w) : OF w0 nd md ui gi mt tg ad n c ys v w.drew :=
  ⟨h.ab, h.rb, h.xb, h.ow, h.bel.drew⟩
theorem OF.start (w0 : World) (nd md ui gi : Nat) (mt : Int) (tg : ByteArray) (ad : Option Addr) (n c : Nat) : OF w0 nd md ui gi mt tg ad n c [] (.slice none 0 0) (((w0.alloc (.cells (c7 nd md ui gi mt tg (.slice ad n c)) 28)).alloc (.cells z7 25)).alloc (.cells (c7 nd md ui gi mt tg (.slice none 0 0)) 25)) := by
  have s1 : (w0.alloc (.cells (c7 nd md ui gi mt tg (.slice ad n c)) 28)).heap.size = w0.heap.size + 1 := al_size _ _
  have s2 : ((w0.alloc (.cells (c7 nd md ui gi mt tg (.slice ad n c)) 28)).alloc (.cells z7 25)).heap.size = w0.heap.size + 1 + 1 := by rw [al_size, s1]
  have b1 := bk_new (w0.alloc (.cells (c7 nd md ui gi mt tg (.slice ad n c)) 28)) z7 25
  rw [s1] at b1
  have b2 := bk_new ((w0.alloc (.cells (c7 nd md ui gi mt tg (.slice ad n c)) 28)).alloc (.cells z7 25)) (c7 nd md ui gi mt tg (.slice none 0 0)) 25
  rw [s2] at b2
  exact ⟨((bk_new w0 _ _).alloc _).alloc _, b1.alloc _, b2, rows_none, (((Below.refl _ w0).alloc (Nat.le_refl _) _).alloc (by omega) _).alloc (by omega) _⟩
/-- One is appended. -/
theorem OF.app {w0 : World} {nd md ui gi : Nat} {mt : Int} {tg : ByteArray} {ad : Option Addr} {n c : Nat} {ys : List (ByteArray × ByteArray)} {v : Value} {w : World} (h : OF w0 nd md ui gi mt tg ad n c ys v w) (x y : ByteArray) (hn : (ys.length + 1) * 32 ≤ 140737488355328) :
    ∃ g cp w7, (Builtin.append_ #[23, 23] 23 #[v, .slice (some ⟨w.heap.size, 0, none⟩) 1 1]).run Tryd.prog (w.alloc (.cells #[.string x, .string y] 61)) = .ok (.slice (some ⟨g, 0, none⟩) (ys.length + 1) cp) w7 ∧
      OF w0 nd md ui gi mt tg ad n c (ys ++ [(x, y)]) (.slice (some ⟨g, 0, none⟩) (ys.length + 1) cp) (w7.setCell ⟨w0.heap.size + 1 + 1, 6, none⟩ (.slice (some ⟨g, 0, none⟩) (ys.length + 1) cp)) ∧
      Bk w7 (w0.heap.size + 1 + 1) (c7 nd md ui gi mt tg v) 25 ∧ Bk w7 w0.heap.size (c7 nd md ui gi mt tg (.slice ad n c)) 28 ∧ ys.length + 1 ≤ cp ∧ Below w0.heap.size w0 w7 ∧
      w7.ownsRow (w0.heap.size + 1 + 1 + 1) 61 2 (.slice (some ⟨g, 0, none⟩) (ys.length + 1) cp) (ys.length + 1) (xav (ys ++ [(x, y)])) ∧ Bk w7 (w0.heap.size + 1) z7 25 := by
  obtain ⟨i0, hi, hz0, hz1, hz2⟩ := info_parts inf_rxattr
  have hz := h.bel.size
  have hx3 := h.xb.lt
  obtain ⟨v', w7, hrun, hown, hgrow, _, hat⟩ := run_append_own_at (P := Tryd.prog) (w := w.alloc (.cells #[.string x, .string y] 61)) (w0.heap.size + 1 + 1 + 1) 23 23 61 i0 (.agg #[.string ⟨#[]⟩, .string ⟨#[]⟩]) 2 32 Tryd.underlying23 hi hz0 hz1 hz2 rfl (by decide) v ys.length (xav ys) (h.ow.alloc _) ⟨w.heap.size, 0, none⟩ 1 1 [.string x, .string y] rfl (new_two _ _ _ _) (one_two_s _ _) (by unfold maxLen; omega) (by omega) (by rw [al_size]; omega)
  have hgr : ∀ b, v.ownBlock = some b → w0.heap.size + 1 + 1 + 1 ≤ b := fun b hb => (rows_blk h.ow hb).1
  have b1 := (h.ab.alloc (.cells #[.string x, .string y] 61)).grown hgrow (fun e => by have := hgr _ e; omega)
  have b2 := (h.rb.alloc (.cells #[.string x, .string y] 61)).grown hgrow (fun e => by have := hgr _ e; omega)
  have b3 := (h.xb.alloc (.cells #[.string x, .string y] 61)).grown hgrow (fun e => by have := hgr _ e; omega)
  have b4 : Below w0.heap.size w0 w7 := rows_bel (h.bel.alloc hz _) (by rw [al_size]; omega) (h.ow.alloc _) (by omega) hgrow
  have ho : w7.ownsRow (w0.heap.size + 1 + 1 + 1) 61 2 v' (ys.length + 1) (xav (ys ++ [(x, y)])) := by rw [xav_app]; exact hown
  obtain ⟨g, cp, hv, hcp⟩ : ∃ g cp, v' = .slice (some ⟨g, 0, none⟩) (ys.length + 1) cp ∧ ys.length + 1 ≤ cp := by
    rcases ho.2 with ⟨_, h0⟩ | ⟨g7, c7, cur, h1, _, _, h2, _⟩
    · omega
    · exact ⟨g7, c7, h1, h2⟩
  subst hv
  have hg : w7.grownBy (w7.setCell ⟨w0.heap.size + 1 + 1, 6, none⟩ (.slice (some ⟨g, 0, none⟩) (ys.length + 1) cp)) (some (w0.heap.size + 1 + 1)) := Lib.grownBy_setB (World.grownBy.refl _ _) 6 _
  refine ⟨g, cp, w7, hrun, ⟨b1.grown hg (fun e => by injection e with e; omega), b2.grown hg (fun e => by injection e with e; omega), b3.set 6 _, ?_, below_own b4 b4.size hg (by omega)⟩, b3, b1, hcp, b4, ho, b2⟩
  rw [List.length_append]
  exact own_set ho (by omega)
set_option maxHeartbeats 8000000 in
set_option maxRecDepth 100000 in
theorem ref10 (nd md ui gi : Nat) (mt : Int) (tg : ByteArray) (xs : List (ByteArray × ByteArray)) (ad : Option Addr) (n c : Nat) (w : World) (hX : XaL w ad xs) (hl : xs.length = n) (hn : n ≤ 4398046510976) :
    Calls Tryd.prog 15 #[atV nd md ui gi mt tg (.slice ad n c)] w fun e w' => ∃ v, e = .returned (.agg (c7 nd md ui gi mt tg v)) ∧ w'.ownsRow w.heap.size 61 2 v n (xav xs) ∧ Below w.heap.size w w' := by
  have HX : Hid (XaL w ad xs) := hX
  have HL : Hid (xs.length = n) := hl
  have O0 : Hid (OF w nd md ui gi mt tg ad n c [] (.slice none 0 0) (((w.alloc (.cells (c7 nd md ui gi mt tg (.slice ad n c)) 28)).alloc (.cells z7 25)).alloc (.cells (c7 nd md ui gi mt tg (.slice none 0 0)) 25))) := OF.start w nd md ui gi mt tg ad n c
  clear hX hl
  go_enter Tryd.func15, Tryd.ntmps15
  go_wp2
  go_loopw [4] (fun v wr => ∃ (k : Nat) (u : Value), v = .int .i64 k ∧ k ≤ n ∧ Hid (OF w nd md ui gi mt tg ad n c (xs.take k) u wr)) (fun v _ => n - (intOf v).toNat)
  case atStart => exact ⟨0, _, rfl, Nat.zero_le _, O0.out⟩
  case round =>
    obtain ⟨k, u, rfl, hk, OR⟩ := hrel
    have htk : (xs.take k).length = k := by rw [List.length_take, HL.out]; omega
    have a6 : wr.cell? ⟨w.heap.size, 6, none⟩ = some (.slice ad n c) := by rw [OR.out.ab.cell]; rfl
    have x6 : wr.cell? ⟨w.heap.size + 1 + 1, 6, none⟩ = some u := by rw [OR.out.xb.cell]; rfl
    have hxl := OR.out.xb.lt
    by_cases hlt : k < n
    · have hkz : (k : Int) < (n : Nat) := by omega
      obtain ⟨x, hx⟩ : ∃ x, xs[k]? = some x := ⟨xs[k]'(by rw [HL.out]; exact hlt), List.getElem?_eq_getElem _⟩
      obtain ⟨g, o, rfl, hg2, hc1, hc2, _, _⟩ := HX.out.below OR.out.bel k x hx
      obtain ⟨x1, x2⟩ := x
      simp only at hc1 hc2
      obtain ⟨g7, cp7, w7, hrun, O7, b7, _, _, _, _⟩ := OR.out.drew.app x1 x2 (by rw [htk]; omega)
      have O8 : Hid (OF w nd md ui gi mt tg (some ⟨g, o, none⟩) n c (xs.take (k + 1)) (.slice (some ⟨g7, 0, none⟩) (k + 1) cp7) (w7.setCell ⟨w.heap.size + 1 + 1, 6, none⟩ (.slice (some ⟨g7, 0, none⟩) (k + 1) cp7))) := by
        rw [List.take_add_one, hx, Option.toList_some]
        rw [htk] at O7
        exact O7
      rw [htk] at hrun
      have y6 : w7.cell? ⟨w.heap.size + 1 + 1, 6, none⟩ = some u := by rw [b7.cell]; rfl
      have y6f := b7.frozen 6
      clear O7 b7 hx htk
      go_wp2
      go_region_law (refine step_app_run (by rfl) _ _ _ _ (by rfl) u (.slice (some ⟨wr.heap.size, 0, none⟩) 1 1) (.slice (some ⟨g7, 0, none⟩) (k + 1) cp7) w7 (by rfl) (by rfl) hrun ?_)
      all_goals (first | go_wp2 | skip)
      all_goals go_roundw
      all_goals first
        | (case rel => exact ⟨k + 1, _, by go_num, by omega, O8.out⟩)
        | (case measure => simp [intOf]; omega)
        | trace_state
    · have hkz : ¬ (k : Int) < (n : Nat) := by omega
      obtain rfl : k = n := by omega
      have hxs : xs.take k = xs := List.take_of_length_le (by rw [HL.out]; omega)
      rw [hxs] at OR htk
      have hu : ∃ o m d, u = .slice o m d := by
        rcases OR.out.ow.2 with ⟨h1, _⟩ | ⟨_, _, _, h1, _⟩
        · exact ⟨_, _, _, h1⟩
        · exact ⟨_, _, _, h1⟩
      obtain ⟨uo, um, ud, rfl⟩ := hu
      have BR : Hid (Bk wr (w.heap.size + 1) z7 25) := OR.out.rb
      have BO : Hid (wr.ownsRow (w.heap.size + 1 + 1 + 1) 61 2 (.slice uo um ud) k (xav xs)) := by
        have h := OR.out.ow
        rw [htk] at h
        exact h
      have BE : Hid (Below w.heap.size w wr) := OR.out.bel
      have e0 : wr.cell? ⟨w.heap.size + 1 + 1, 0, none⟩ = some (.int .u8 (nd : Int)) := by rw [OR.out.xb.cell]; rfl
      have e1 : wr.cell? ⟨w.heap.size + 1 + 1, 1, none⟩ = some (.int .u32 (md : Int)) := by rw [OR.out.xb.cell]; rfl
      have e2 : wr.cell? ⟨w.heap.size + 1 + 1, 2, none⟩ = some (.int .u32 (ui : Int)) := by rw [OR.out.xb.cell]; rfl
      have e3 : wr.cell? ⟨w.heap.size + 1 + 1, 3, none⟩ = some (.int .u32 (gi : Int)) := by rw [OR.out.xb.cell]; rfl
      have e4 : wr.cell? ⟨w.heap.size + 1 + 1, 4, none⟩ = some (.int .i64 mt) := by rw [OR.out.xb.cell]; rfl
      have e5 : wr.cell? ⟨w.heap.size + 1 + 1, 5, none⟩ = some (.string tg) := by rw [OR.out.xb.cell]; rfl
      have e6 : wr.cell? ⟨w.heap.size + 1 + 1, 6, none⟩ = some (.slice uo um ud) := by rw [OR.out.xb.cell]; rfl
      have hfz : ∀ j, wr.frozen? ⟨w.heap.size + 1, j, none⟩ = false := fun j => BR.out.frozen j
      have y0 : wr.cell? ⟨w.heap.size + 1, 0, none⟩ = some (.int .u8 0) := by rw [BR.out.cell]; rfl
      have y1 : wr.cell? ⟨w.heap.size + 1, 1, none⟩ = some (.int .u32 0) := by rw [BR.out.cell]; rfl
      have y2 : wr.cell? ⟨w.heap.size + 1, 2, none⟩ = some (.int .u32 0) := by rw [BR.out.cell]; rfl
      have y3 : wr.cell? ⟨w.heap.size + 1, 3, none⟩ = some (.int .u32 0) := by rw [BR.out.cell]; rfl
      have y4 : wr.cell? ⟨w.heap.size + 1, 4, none⟩ = some (.int .i64 0) := by rw [BR.out.cell]; rfl
      have y5 : wr.cell? ⟨w.heap.size + 1, 5, none⟩ = some (.string ⟨#[]⟩) := by rw [BR.out.cell]; rfl
      have y6 : wr.cell? ⟨w.heap.size + 1, 6, none⟩ = some (.slice none 0 0) := by rw [BR.out.cell]; rfl
      clear hxs htk
      go_wp2
      have q1 := bk_st7 BR.out (.int .u8 (nd : Int)) (.int .u32 (md : Int)) (.int .u32 (ui : Int)) (.int .u32 (gi : Int)) (.int .i64 mt) (.string tg) (.slice uo um ud)
      have q2 := gr_st7 wr (w.heap.size + 1) (.int .u8 (nd : Int)) (.int .u32 (md : Int)) (.int .u32 (ui : Int)) (.int .u32 (gi : Int)) (.int .i64 mt) (.string tg) (.slice uo um ud)
      exact bodyPost_ret (results_cell_row rfl _ _ (w.heap.size + 1) 25 (c7 nd md ui gi mt tg (.slice uo um ud)) (0, 0) _ rfl q1 Tryd.underlying25 rfl inf_rattr) rfl ⟨_, rfl, rows_low (own_gr BO.out q2 (by omega)) (by omega), below_own BE.out BE.out.size q2 (by omega)⟩
end Go.Proofs.YtjnijcmalnckcaaDoor
