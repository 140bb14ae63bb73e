/- The walk of groups.gather. -/
import Derived.Test.YthfggejdeodinaaU15
import Derived.Deep.Cut
import Derived.Deep.CutRange
import Derived.Deep.DeepCutAuto
namespace Go.Proofs.Ythfggejdeodinaa
open Go.RowKit
set_option linter.unusedSimpArgs false
set_option linter.unusedVariables false
theorem wpList_app_eq {P : Program} {ops : Array Oper} {rest : List Oper} {o : Oper} {a : Act} {w : World} {Q : Exit → Act → World → Prop} (hgd : o.guard = none) (sl x : Operand) (t u : TypeId)
    (ho : o.op = .call { callee := .builtin .append, args := #[sl, x], argTypes := #[t, u] }) (v y v' : Value) (w' : World) (hs : a.eval sl = v) (hx : a.eval x = y) (hr : (Builtin.append_ #[t, u] o.type #[v, y]).run P w = .ok v' w')
    (h : wpList P ops Q rest (a.put o.dst v') w') : wpList P ops Q (o :: rest) a w := by
  refine wpList_plain hgd fun K hK => ?_
  unfold Oper.wp execOp
  simp only [ho, resolve, invoke, builtin, Sem.run_bind, Sem.run_pure, Result.andThen_ok, List.map_toArray, List.map_cons, List.map_nil, hs, hx, hr]
  exact hK _ _ h
theorem inf_itm : (Try.prog.info? 37).map (fun i => (i.zero, i.size, i.bytes)) = some (some (.agg #[.int .i64 0, .int .i64 0]), 2, 16) := by kernel_rfl
/-- A row with two cells written over. -/
def row2 (I : Array Value) (p : Nat) (a b : Value) : Array Value := (I.toList.take (p * 2) ++ [a, b] ++ I.toList.drop (p * 2 + 2)).toArray
theorem row_size2 (I : Array Value) (p : Nat) (a b : Value) (h : p * 2 + 2 ≤ I.size) : (row2 I p a b).size = I.size := by
  unfold row2
  have e : I.toList.length = I.size := Array.length_toList
  rw [List.size_toArray]
  simp only [List.length_append, List.length_take, List.length_drop, e, List.length_cons, List.length_nil]
  omega
theorem row_get2 (I : Array Value) (p : Nat) (a b : Value) (h : p * 2 + 2 ≤ I.size) (j : Nat) : (row2 I p a b)[j]? = if j < p * 2 then I[j]? else if j = p * 2 then some a else if j = p * 2 + 1 then some b else I[j]? := by
  unfold row2
  have e : I.toList.length = I.size := Array.length_toList
  have hl : (I.toList.take (p * 2)).length = p * 2 := by rw [List.length_take, e]; omega
  rw [List.getElem?_toArray, List.append_assoc]
  by_cases c1 : j < p * 2
  · rw [if_pos c1, List.getElem?_append_left (by rw [hl]; exact c1), List.getElem?_take, if_pos c1, Array.getElem?_toList]
  · rw [if_neg c1, List.getElem?_append_right (by rw [hl]; omega), hl]
    by_cases c2 : j = p * 2
    · rw [if_pos c2, c2, Nat.sub_self]; rfl
    · rw [if_neg c2]
      by_cases c3 : j = p * 2 + 1
      · rw [if_pos c3, c3, show p * 2 + 1 - p * 2 = 1 from by omega]; rfl
      · rw [if_neg c3, List.getElem?_append_right (by simp; omega), List.getElem?_drop, Array.getElem?_toList]
        congr 1
        simp only [List.length_cons, List.length_nil]
        omega
/-- The row of items while they are gathered: the next tier's in front, those not yet gathered from f on. -/
structure Row (w : World) (gi cap : Nat) (its nx : List Itm) (f : Nat) : Prop where
  bk : ∃ I, Bk w gi I 37 ∧ I.size = cap * 2
  nx : ItL w gi 0 nx
  its : ∀ j x, f ≤ j → its[j]? = some x → w.cell? ⟨gi, j * 2, none⟩ = some (.int .i64 (x.1 : Int)) ∧ w.cell? ⟨gi, j * 2 + 1, none⟩ = some (.int .i64 (x.2 : Int))
theorem Row.keep {w w' : World} {gi cap : Nat} {its nx : List Itm} {f : Nat} (h : Row w gi cap its nx f) {ts : List TypeId} (hk : Kp ts w w') (ht : 37 ∉ ts) : Row w' gi cap its nx f := by
  obtain ⟨I, h1, h2⟩ := h.bk
  have h3 := hk _ _ _ ht h1
  refine ⟨⟨I, h3, h2⟩, h.nx.keep h1 h3, fun j x hj hx => ?_⟩
  obtain ⟨q1, q2⟩ := h.its j x hj hx
  exact ⟨by rw [h3.cell, ← h1.cell]; exact q1, by rw [h3.cell, ← h1.cell]; exact q2⟩
/-- An item put behind the next tier's. -/
theorem Row.put {w : World} {gi cap : Nat} {its nx : List Itm} {f f' : Nat} (h : Row w gi cap its nx f) (x : Itm) (hf : nx.length < f') (hff : f ≤ f') (hc : nx.length < cap) (hz : gi < w.heap.size) :
    ∃ w', (Builtin.append_ #[35, 35] 35 #[.slice (some ⟨gi, 0, none⟩) nx.length cap, .slice (some ⟨w.heap.size, 0, none⟩) 1 1]).run Try.prog (w.alloc (.cells #[.int .i64 (x.1 : Int), .int .i64 (x.2 : Int)] 37)) = .ok (.slice (some ⟨gi, 0, none⟩) (nx.length + 1) cap) w' ∧ Row w' gi cap its (nx ++ [x]) f' ∧ w.grownBy w' (some gi) := by
  obtain ⟨I, h1, h2⟩ := h.bk
  obtain ⟨i0, hi, hz0, hz1, hz2⟩ := info_parts inf_itm
  have ha := h1.alloc (.cells #[.int .i64 (x.1 : Int), .int .i64 (x.2 : Int)] 37)
  have hr := run_append_room (P := Try.prog) (w.alloc (.cells #[.int .i64 (x.1 : Int), .int .i64 (x.2 : Int)] 37)) 35 35 37 i0 Try.underlying35 hi gi nx.length cap I ha ⟨w.heap.size, 0, none⟩ 1 1 [.int .i64 (x.1 : Int), .int .i64 (x.2 : Int)] (by rw [hz1]; rfl) (news_twoU w _ _ _) (one_twoU _ _) (by omega) (by rw [hz1, h2]; simp; omega)
  rw [hz1] at hr
  refine ⟨(w.alloc (.cells #[.int .i64 (x.1 : Int), .int .i64 (x.2 : Int)] 37)).setRow gi (row2 I nx.length (.int .i64 (x.1 : Int)) (.int .i64 (x.2 : Int))), hr, ?_, ?_⟩
  · have hb := setRow_heap (w.alloc (.cells #[.int .i64 (x.1 : Int), .int .i64 (x.2 : Int)] 37)) gi I (row2 I nx.length (.int .i64 (x.1 : Int)) (.int .i64 (x.2 : Int))) 37 _ ha
    have hb' : Bk ((w.alloc (.cells #[.int .i64 (x.1 : Int), .int .i64 (x.2 : Int)] 37)).setRow gi (row2 I nx.length (.int .i64 (x.1 : Int)) (.int .i64 (x.2 : Int)))) gi (row2 I nx.length (.int .i64 (x.1 : Int)) (.int .i64 (x.2 : Int))) 37 := hb
    have hget := row_get2 I nx.length (.int .i64 (x.1 : Int)) (.int .i64 (x.2 : Int)) (by omega)
    refine ⟨⟨_, hb', by rw [row_size2 I nx.length _ _ (by omega)]; exact h2⟩, fun j y hy => ?_, fun j y hj hy => ?_⟩
    · rw [hb'.cell, hb'.cell, hget, hget]
      simp only [Nat.zero_add]
      rcases Nat.lt_or_ge j nx.length with c | c
      · rw [List.getElem?_append_left c] at hy
        obtain ⟨q1, q2⟩ := h.nx j y hy
        rw [if_pos (by omega), if_pos (by omega), ← h1.cell, ← h1.cell]
        simp only [Nat.zero_add] at q1 q2
        exact ⟨q1, q2⟩
      · have hj : j = nx.length := by
          have := (List.getElem?_eq_some_iff.1 hy).1
          rw [List.length_append, List.length_singleton] at this; omega
        subst hj
        rw [List.getElem?_append_right (Nat.le_refl _), Nat.sub_self] at hy
        cases hy
        rw [if_neg (by omega), if_pos rfl, if_neg (by omega), if_neg (by omega), if_pos rfl]
        exact ⟨rfl, rfl⟩
    · rw [hb'.cell, hb'.cell, hget, hget]
      obtain ⟨q1, q2⟩ := h.its j y (by omega) hy
      rw [if_neg (by omega), if_neg (by omega), if_neg (by omega), if_neg (by omega), if_neg (by omega), if_neg (by omega), ← h1.cell, ← h1.cell]
      exact ⟨q1, q2⟩
  · exact (World.grownBy_alloc w _ _).trans ⟨rfl, rfl, rfl, by simp, fun k _ hk => setRow_other _ gi k _ (fun e => hk (by rw [e]))⟩
/-- What lies there while a tier is gathered. -/
structure GW (w : World) (B gg n0 m gi cap : Nat) (its : List Itm) (s : GS) (f : Nat) (wr : World) : Prop where
  gr : ∃ vk ve, Gr wr B gg n0 m s.nodes [] vk ve
  row : Row wr gi cap its s.next f
  bel : Below B w wr
  lo : B ≤ w.heap.size ∧ B ≤ gi
set_option maxHeartbeats 4000000 in
set_option maxRecDepth 100000 in
theorem gather_any (B gg n0 m gi cap k t : Nat) (its : List Itm) (nodes : List (List Nat)) (w : World) (h : GW w B gg n0 m gi cap its ⟨[], nodes, []⟩ 0 w) (hk : its.length = k) (h1 : 1 ≤ k) (hc : k ≤ cap) (hc2 : cap ≤ 1048576) (ht : t ≤ 2097152) (hm : m ≤ 1024) (hlv : ∀ x ∈ its, x.2 ≤ 32)
    (hfl : nodes.flatten.length ≤ 2097152) (hnl : nodes.length + k ≤ 1048576) (h0 : n0 ≤ 1048576) (hB : B ≤ w.heap.size) :
    Calls Try.prog 8 #[.pointer (some ⟨gg, 0, none⟩), .slice (some ⟨gi, 0, none⟩) k cap, .int .i64 (t : Int)] w fun e w' => e = .returned (.slice (some ⟨gi, 0, none⟩) (gat n0 t m (its, nodes)).1.length cap) ∧ GW w B gg n0 m gi cap its ⟨(gat n0 t m (its, nodes)).1, (gat n0 t m (its, nodes)).2, []⟩ k w' := by
  have HH : Hid (GW w B gg n0 m gi cap its ⟨[], nodes, []⟩ 0 w) := h
  have HK : Hid (its.length = k) := hk
  have HL : Hid (∀ x ∈ its, x.2 ≤ 32) := hlv
  have HG : Hid ((gat n0 t m (its, nodes)).1 = (gst n0 t m its nodes k).next ∧ (gat n0 t m (its, nodes)).2 = (gst n0 t m its nodes k).nodes) := by unfold gat; simp only; rw [hk]; exact ⟨rfl, rfl⟩
  have HC : Hid (∀ i, i ≤ k → (gst n0 t m its nodes i).nodes.length ≤ 1048576 ∧ (gst n0 t m its nodes i).nodes.flatten.length ≤ 4194304 ∧ (gst n0 t m its nodes i).h.length ≤ i ∧ (gst n0 t m its nodes i).next.length + (gst n0 t m its nodes i).h.length ≤ i) := fun i hi => by
    obtain ⟨c1, c2⟩ := gst_cnt n0 t m its nodes i (by omega)
    obtain ⟨f, f1, f2, f3⟩ := gst_h n0 t m its nodes i (by omega)
    have : (gst n0 t m its nodes i).h.length = i - f := by rw [f2, List.length_drop, List.length_take]; omega
    omega
  clear h hk hlv
  go_enter Try.func8, Try.ntmps8
  go_wp2
  go_loopw [7, 8, 16] (fun x y z wr => ∃ (i p f : Nat), i ≤ k ∧ f ≤ i ∧ p ≤ f ∧ x = .slice (some ⟨gi, 0, none⟩) p cap ∧ y = .int .i64 (f : Int) ∧ z = .int .i64 (i : Int) ∧ Hid ((gst n0 t m its nodes i).next.length = p ∧ (gst n0 t m its nodes i).h = (its.take i).drop f) ∧ Hid (GW w B gg n0 m gi cap its (gst n0 t m its nodes i) f wr)) (fun _ _ z _ => k - (intOf z).toNat)
  case atStart => exact ⟨0, 0, 0, Nat.zero_le _, Nat.le_refl _, Nat.le_refl _, rfl, rfl, rfl, ⟨rfl, by simp [gst]⟩, HH.out⟩
  case round =>
    clear HH
    obtain ⟨i, p, f, hik, hfi, hpf, rfl, rfl, rfl, HS, HW⟩ := hrel
    by_cases hlt : i < k
    · have hiz : (i : Int) < (k : Nat) := by omega
      have hi0 : (0 : Int) ≤ i := by omega
      obtain ⟨x, hx⟩ : ∃ x, its[i]? = some x := ⟨_, List.getElem?_eq_getElem (by rw [HK.out]; exact hlt)⟩
      have HX : Hid (its[i]? = some x) := hx
      obtain ⟨p1, p2⟩ := HW.out.row.its i x hfi hx
      have hxl : x.2 ≤ 32 := HL.out x (List.mem_of_getElem? hx)
      obtain ⟨X, hX⟩ : ∃ X, x.1 = X := ⟨_, rfl⟩
      obtain ⟨Y, hY⟩ : ∃ X, x.2 = X := ⟨_, rfl⟩
      rw [hX] at p1
      rw [hY] at p2 hxl
      have HXY : Hid (x.1 = X ∧ x.2 = Y) := ⟨hX, hY⟩
      obtain ⟨vk, ve, hgr⟩ := HW.out.gr
      have gm : (wr.alloc (.cells #[.int .i64 (X : Int), .int .i64 (Y : Int)] 37)).cell? ⟨gg, 1, none⟩ = some (.int .i64 (m : Int)) := by rw [(hgr.bk.alloc _).cell]; rfl
      obtain ⟨n, hn⟩ : ∃ n, i + 1 - f = n := ⟨_, rfl⟩
      have hnz : (i : Int) + 1 - f = n := by omega
      clear hx hX hY hgr
      obtain ⟨cu, hcu⟩ : ∃ b, cuG t m its.length i ((gst n0 t m its nodes i).h ++ [x]) x = b := ⟨_, rfl⟩
      have hcu2 : (decide (t ≤ Y) || (decide (n = m) || decide (i + 1 = k))) = cu := by
        have hl : ((gst n0 t m its nodes i).h ++ [x]).length = n := by rw [HS.out.2, List.length_append, List.length_singleton, List.length_drop, List.length_take, HK.out]; omega
        rw [← hcu]
        unfold cuG
        rw [hl, HXY.out.2, HK.out]
      have HCU : Hid (cuG t m its.length i ((gst n0 t m its nodes i).h ++ [x]) x = cu) := hcu
      have HX2 : Hid (its.getD i (0, 0) = x) := by show _ = _; rw [List.getD, HX.out]; rfl
      clear hcu
      go_upto_region 7 with fail
      go_cut [16, 42] from 16 to 53 (fun s16 s42 wx => s16 = .int .i64 (i : Int) ∧ s42 = .bool cu ∧ wx = wr.alloc (.cells #[.int .i64 (X : Int), .int .i64 (Y : Int)] 37))
      case first =>
        by_cases c1 : t ≤ Y
        · have e1 : (Y : Int) ≥ t := by omega
          have e2 : cu = true := by rw [← hcu2]; simp [c1]
          clear hcu2
          subst e2
          go_wp2
          go_meet
          exact ⟨rfl, rfl, rfl⟩
        · have e1 : ¬ (Y : Int) ≥ t := by omega
          by_cases c2 : n = m
          · have e3 : ((n : Int) == m) = true := by simp [c2]
            have e2 : cu = true := by rw [← hcu2]; simp [c2]
            clear hcu2 c2
            subst e2
            go_wp2
            go_meet
            exact ⟨rfl, rfl, rfl⟩
          · have e3 : ((n : Int) == m) = false := by simp; omega
            have e2 : cu = decide (i + 1 = k) := by rw [← hcu2]; simp [c1, c2]
            obtain ⟨b, hb⟩ : ∃ b, ((i : Int) + 1 == k) = b := ⟨_, rfl⟩
            have e4 : cu = b := by
              rw [e2, ← hb]
              by_cases c3 : i + 1 = k
              · rw [decide_eq_true c3, eq_comm]; simp; omega
              · rw [decide_eq_false c3, eq_comm]; simp; omega
            clear hcu2 e2 c2
            subst e4
            go_wp2
            go_meet
            exact ⟨rfl, rfl, rfl⟩
      case rest =>
        obtain ⟨rfl, rfl, rfl⟩ := hcut
        cases cu with
        | false =>
          have HS1 : Hid (gst n0 t m its nodes (i + 1) = ⟨(gst n0 t m its nodes i).next, (gst n0 t m its nodes i).nodes, (gst n0 t m its nodes i).h ++ [x]⟩) := by
            show _ = _
            rw [gst, HX2.out, stG, HCU.out]; rfl
          have HF : Hid (((gst n0 t m its nodes (i + 1)).next.length = p ∧ (gst n0 t m its nodes (i + 1)).h = (its.take (i + 1)).drop f) ∧ GW w B gg n0 m gi cap its (gst n0 t m its nodes (i + 1)) f (wr.alloc (.cells #[.int .i64 (X : Int), .int .i64 (Y : Int)] 37))) := by
            have hbl : Below wr.heap.size wr (wr.alloc (.cells #[.int .i64 (X : Int), .int .i64 (Y : Int)] 37)) := (Below.refl _ _).alloc (Nat.le_refl _) _
            obtain ⟨vk, ve, hgr⟩ := HW.out.gr
            rw [HS1.out]
            refine ⟨⟨HS.out.1, ?_⟩, ⟨vk, ve, hgr.next hbl⟩, HW.out.row.keep (kp_below [] hbl) (by simp), HW.out.bel.trans (hbl.mono (Nat.le_trans hB HW.out.bel.size)), HW.out.lo⟩
            simp only
            rw [HS.out.2, List.take_add_one, HX.out, Option.toList_some, List.drop_append_of_le_length (by rw [List.length_take, HK.out]; omega)]
          clear HS HW HS1 gm p1 p2 hcu2
          go_wp2
          go_roundw
          case rel => exact ⟨i + 1, p, f, by omega, by omega, hpf, rfl, rfl, by go_num, HF.out.1, HF.out.2⟩
          case measure => simp [intOf]; omega
        | true =>
          obtain ⟨W1, hW1⟩ : ∃ W, W = wr.alloc (.cells #[.int .i64 (X : Int), .int .i64 (Y : Int)] 37) := ⟨_, rfl⟩
          have hbl : Below wr.heap.size wr W1 := by rw [hW1]; exact (Below.refl _ _).alloc (Nat.le_refl _) _
          have hB1 : Below B w W1 := HW.out.bel.trans (hbl.mono (Nat.le_trans hB HW.out.bel.size))
          have hz1 : B ≤ W1.heap.size := Nat.le_trans hB hB1.size
          obtain ⟨s, hs⟩ : ∃ s, gst n0 t m its nodes i = s := ⟨_, rfl⟩
          have hcnt := HC.out i hik
          rw [hs] at hcnt
          have hsp := HS.out
          rw [hs] at hsp
          have hrow := HW.out.row.keep (kp_below [] hbl) (by simp)
          obtain ⟨vk, ve, hgr⟩ := HW.out.gr
          rw [hs] at hrow hgr
          have hgr1 := hgr.next hbl
          obtain ⟨grp, hgrp⟩ : ∃ g, (its.take (i + 1)).drop f = g := ⟨_, rfl⟩
          have hgl : grp.length = n := by rw [← hgrp, List.length_drop, List.length_take, HK.out]; omega
          have hgs : s.h ++ [x] = grp := by rw [← hgrp, hsp.2, List.take_add_one, HX.out, Option.toList_some, List.drop_append_of_le_length (by rw [List.length_take, HK.out]; omega)]
          obtain ⟨I, hI, hIs⟩ := hrow.bk
          have hit : ItL W1 gi (f * 2) grp := fun j y hy => by
            have hj : j < n := by rw [← hgl]; exact (List.getElem?_eq_some_iff.1 hy).1
            rw [← hgrp, List.getElem?_drop, List.getElem?_take, if_pos (by omega)] at hy
            obtain ⟨q1, q2⟩ := hrow.its (f + j) y (by omega) hy
            rw [show f * 2 + j * 2 = (f + j) * 2 from by omega]
            exact ⟨q1, q2⟩
          have HJ : Hid (Calls Try.prog 10 #[.pointer (some ⟨gg, 0, none⟩), .slice (some ⟨gi, f * 2, none⟩) n (cap - f)] W1 fun e w2 => ∃ w3, e = .returned (.agg #[.int .i64 ((jn n0 s.nodes grp).1 : Int), .int .i64 ((jn n0 s.nodes grp).2 : Int)]) ∧
              (Builtin.append_ #[35, 35] 35 #[.slice (some ⟨gi, 0, none⟩) p cap, .slice (some ⟨w2.heap.size, 0, none⟩) 1 1]).run Try.prog (w2.alloc (.cells #[.int .i64 ((jn n0 s.nodes grp).1 : Int), .int .i64 ((jn n0 s.nodes grp).2 : Int)] 37)) = .ok (.slice (some ⟨gi, 0, none⟩) (p + 1) cap) w3 ∧
              Hid (GW w B gg n0 m gi cap its (gst n0 t m its nodes (i + 1)) (i + 1) w3 ∧ (gst n0 t m its nodes (i + 1)).next.length = p + 1 ∧ (gst n0 t m its nodes (i + 1)).h = (its.take (i + 1)).drop (i + 1))) := by
            refine (joined_any B gg n0 m gi (f * 2) n (cap - f) s.nodes vk ve grp I W1 hgr1 hI hit hgl (by omega) (by omega) (by omega) (by omega) h0 hz1).mono ?_
            rintro e w2 ⟨vk', ve', rfl, hgd⟩
            have hrow2 := hrow.keep hgd.kp (by decide)
            obtain ⟨I2, hI2, _⟩ := hrow2.bk
            obtain ⟨w3, hr, hrow3, hg3⟩ := hrow2.put (jn n0 s.nodes grp) (f' := i + 1) (by rw [hsp.1]; omega) (by omega) (by rw [hsp.1]; omega) hI2.lt
            rw [hsp.1] at hr
            have hst : gst n0 t m its nodes (i + 1) = ⟨s.next ++ [jn n0 s.nodes grp], nd s.nodes grp, []⟩ := by
              rw [gst, HX2.out, stG, HCU.out, hs, hgs]; rfl
            have hB2 : Below B w w2 := hB1.trans hgd.bel
            refine ⟨w3, rfl, hr, ?_, ?_, ?_⟩
            · rw [hst]
              refine ⟨⟨vk', ve', ?_⟩, hrow3, below_own hB2 (Nat.le_trans hB hB2.size) hg3 HW.out.lo.2, HW.out.lo⟩
              have hk3 : Kp [37] w2 w3 := kp_grown hI2 (by decide) hg3
              exact ⟨hk3 _ _ _ (by decide) hgd.gr.bk, own_kp hgd.gr.ok (by decide) hk3, own_kp hgd.gr.oe (by decide) hk3, hgd.gr.ap, hgd.gr.lo⟩
            · rw [hst]; simp only; rw [List.length_append, hsp.1]; rfl
            · rw [hst]; simp only; rw [List.drop_eq_nil_of_le (by rw [List.length_take]; omega)]
          have HW1 : Hid (W1 = wr.alloc (.cells #[.int .i64 (X : Int), .int .i64 (Y : Int)] 37)) := hW1
          have hfz : (f : Int) ≤ (i : Int) + 1 := by omega
          have hkz : (i : Int) + 1 ≤ (k : Nat) := by omega
          have hf0 : (0 : Int) ≤ f := by omega
          have hfc : ¬ cap = f := by omega
          have hn2 : (i : Int) + 1 - f = n := hnz
          have hikc : (i : Int) + 1 ≤ (cap : Nat) := by omega
          rw [← hW1]
          obtain ⟨J1, hJ1⟩ : ∃ J, (jn n0 s.nodes grp).1 = J := ⟨_, rfl⟩
          obtain ⟨J2, hJ2⟩ : ∃ J, (jn n0 s.nodes grp).2 = J := ⟨_, rfl⟩
          rw [hJ1, hJ2] at HJ
          clear HS HW gm p1 p2 hcu2 hbl hB1 hs hsp hcnt hrow hgr hgr1 hgrp hgl hgs hI hIs hit hW1 hJ1 hJ2
          go_wp2_with fail
          refine HJ.out.mono ?_
          rintro e w2 ⟨w3, rfl, hrun, HF⟩
          have HR : Hid _ := hrun
          clear hrun HJ
          go_wp2_with (at_builtin; refine wpList_app_eq rfl _ _ _ _ rfl (.slice (some ⟨gi, 0, none⟩) p cap) (.slice (some ⟨w2.heap.size, 0, none⟩) 1 1) (.slice (some ⟨gi, 0, none⟩) (p + 1) cap) w3 rfl rfl HR.out ?_)
          go_wp2
          go_roundw
          case rel => exact ⟨i + 1, p + 1, i + 1, by omega, Nat.le_refl _, by omega, rfl, by go_num, by go_num, HF.out.2, HF.out.1⟩
          case measure => simp [intOf]; omega
    · have hiz : ¬ (i : Int) < (k : Nat) := by omega
      have hik2 : i = k := by omega
      subst hik2
      have hfk : f = i := by
        have h1 := gst_end n0 t m its nodes
        rw [HK.out, HS.out.2] at h1
        have h2 := congrArg List.length h1
        rw [List.length_drop, List.length_take, HK.out] at h2
        simp at h2
        omega
      subst hfk
      have HF : Hid ((gat n0 t m (its, nodes)).1.length = p ∧ GW w B gg n0 m gi cap its ⟨(gat n0 t m (its, nodes)).1, (gat n0 t m (its, nodes)).2, []⟩ f wr) := by
        rw [HG.out.1, HG.out.2]
        exact ⟨HS.out.1, HW.out.gr, HW.out.row, HW.out.bel, HW.out.lo⟩
      clear HS HW HG HC
      go_wp2
      go_ret
      exact ⟨by rw [HF.out.1]; rfl, HF.out.2⟩
end Go.Proofs.Ythfggejdeodinaa
