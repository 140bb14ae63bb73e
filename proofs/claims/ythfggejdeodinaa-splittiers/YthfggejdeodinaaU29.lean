/- The walk of the document's Tiers. -/
import Derived.Test.YthfggejdeodinaaU28
import Derived.Test.YthfggejdeodinaaM21
import Derived.Deep.Cut
import Derived.Deep.CutRange
namespace Go.Proofs.Ythfggejdeodinaa
open Go.RowKit
set_option linter.unusedSimpArgs false
set_option linter.unusedVariables false
theorem gst_hm (n0 t m : Nat) (items : List Itm) (nodes : List (List Nat)) (hm : 0 < m) : ∀ i, (gst n0 t m items nodes i).h.length < m
  | 0 => hm
  | i + 1 => by
    have ih := gst_hm n0 t m items nodes hm i
    rw [gst, stG]
    split
    · exact hm
    · rename_i h
      simp only [cuG, Bool.or_eq_true, decide_eq_true_eq, not_or] at h
      have := h.2.1
      simp only [List.length_append, List.length_singleton] at this ⊢
      omega
/-- All numbers copied behind nothing. -/
theorem appAll (g0 o0 n c : Nat) (l : List Nat) (w : World) (ha : InL w (some ⟨g0, o0, none⟩) (l.map fun x : Nat => (x : Int))) (hn : l.length = n) (hnb : n ≤ 1048576) :
    ∃ a2 c2 W2, (Builtin.append_ #[22, 22] 22 #[.slice (some ⟨w.heap.size, 0, none⟩) 0 0, .slice (some ⟨g0, o0, none⟩) n c]).run Try.prog (w.alloc (.cells #[] 3)) = .ok (.slice a2 n c2) W2 ∧
      W2.ownsRow w.heap.size 3 1 (.slice a2 n c2) n (inv l) ∧ Below w.heap.size w W2 := by
  obtain ⟨i0, hi, hz0, hz1, hz2⟩ := info_parts inf_int
  have hal : Below w.heap.size w (w.alloc (.cells #[] 3)) := (Below.refl _ _).alloc (Nat.le_refl _) _
  have own0 : (w.alloc (.cells #[] 3)).ownsRow w.heap.size 3 1 (.slice (some ⟨w.heap.size, 0, none⟩) 0 0) 0 [] :=
    ⟨rfl, .inr ⟨w.heap.size, 0, #[], rfl, Nat.le_refl _, bk_new _ _ _, Nat.le_refl _, by unfold maxLen; omega, rfl, rfl⟩⟩
  obtain ⟨v', w7, hrun, hown, hgrow, _, hat⟩ := run_append_own_at (P := Try.prog) (w := w.alloc (.cells #[] 3)) w.heap.size 22 22 3 i0 (.int .i64 0) 1 8 Try.underlying22 hi hz0 hz1 hz2 rfl (by decide) (.slice (some ⟨w.heap.size, 0, none⟩) 0 0) 0 [] own0 ⟨g0, o0, none⟩ n c (inv l) (by rw [inv_len, hn, Nat.mul_one])
    (fun j u hu => by
      rw [inv, List.getElem?_map] at hu
      cases hj : l[j]? with
      | none => rw [hj] at hu; cases hu
      | some x =>
        rw [hj] at hu
        have e : Value.int .i64 (x : Int) = u := Option.some.inj hu
        obtain ⟨g, o, h1, h2, h3⟩ := ha j (x : Int) (by rw [List.getElem?_map, hj]; rfl)
        injection h1 with h1
        injection h1 with h1 h4
        subst h1
        subst h4
        rw [WideShapes.add_plain, hal.cell h2, h3, e]) (fun u hu => by
      rw [inv] at hu
      obtain ⟨x, _, rfl⟩ := List.mem_map.1 hu
      rfl) (by unfold maxLen; omega) (by omega) hal.size
  rw [Nat.zero_add, List.nil_append] at hown
  obtain ⟨a2, c2, rfl⟩ := sl_of hown
  exact ⟨a2, c2, w7, hrun, hown, hal.grown hgrow hal.size (fun b hb => by have e : w.heap.size = b := Option.some.inj hb; omega)⟩
theorem TS.sl {w W : World} {vl vn vx vg vo : Value} {lv ns xs gs : List Nat} {rows : List (Value × List Nat)} (h : TS w vl vn vx vg vo lv ns xs gs rows W) :
    (∃ a c, vl = .slice a lv.length c) ∧ (∃ a c, vn = .slice a ns.length c) ∧ (∃ a c, vx = .slice a xs.length c) ∧ (∃ a c, vg = .slice a gs.length c) ∧ (∃ a c, vo = .slice a rows.length c) :=
  ⟨sl_of (h.r.1 (vl, lv) (by simp)), sl_of (h.r.1 (vn, ns) (by simp)), sl_of (h.r.1 (vx, xs) (by simp)), sl_of (h.r.1 (vg, gs) (by simp)), sl_of h.o⟩
/-- A tier's state. -/
structure TR (w : World) (n m k : Nat) (l : List Nat) (vl vn vo : Value) (W : World) : Prop where
  ex : ∃ lv rows, TS w vl vn (.slice none 0 0) (.slice none 0 0) vo lv ((tir n m (itm l) k).1.map (·.1)) [] [] rows W ∧ rows.map Prod.snd = (tir n m (itm l) k).2 ∧ lv.length = n + (tir n m (itm l) k).2.length ∧ LvO lv (tir n m (itm l) k).1
/-- While a tier is gathered. -/
structure TG (w : World) (n t m i : Nat) (items : List Itm) (nodes : List (List Nat)) (lv : List Nat) (vl vn vx vg vo : Value) (W : World) : Prop where
  ex : ∃ rows, TS w vl vn vx vg vo (gsl n t m items nodes lv i) (items.map (·.1)) ((gst n t m items nodes i).next.map (·.1)) ((gst n t m items nodes i).h.map (·.1)) rows W ∧ rows.map Prod.snd = (gst n t m items nodes i).nodes
/-- What the document tells of good levels. -/
def RtR (m : Nat) (l : List Nat) (w : World) (e : Ending) (w' : World) : Prop := ∃ ao co rows, e = .returned (.tuple #[.slice ao (tnd m l).length co, .int .i64 0]) ∧ rows.map Prod.snd = tnd m l ∧ w'.ownsRow w.heap.size 22 1 (.slice ao (tnd m l).length co) (tnd m l).length (rows.map Prod.fst) ∧ Rws w' w.heap.size rows ∧ Below w.heap.size w w'
set_option maxHeartbeats 8000000 in
set_option maxRecDepth 100000 in
theorem rtiers_yes (g0 o0 n c m : Nat) (l : List Nat) (w : World) (ha : InL w (some ⟨g0, o0, none⟩) (l.map fun x : Nat => (x : Int))) (hn : l.length = n) (hnb : n ≤ 1048576) (hm1 : 2 ≤ m) (hm2 : m ≤ 1024) (hl : ∀ x ∈ l, x ≤ 32) :
    Calls Try.prog 4 #[.slice (some ⟨g0, o0, none⟩) n c, .int .i64 (m : Int)] w fun e w' => RtR m l w e w' := by
  have hok := itm_ok l hl
  rw [hn] at hok
  have HOK : Hid (TOk n (itm l, [])) := hok
  have HA : Hid (InL w (some ⟨g0, o0, none⟩) (l.map fun x : Nat => (x : Int))) := ha
  have HN : Hid (l.length = n) := hn
  have HL : Hid (∀ x ∈ l, x ≤ 32) := hl
  have hnz : ¬ (n : Int) > 1048576 := by omega
  have hmz1 : ¬ (m : Int) < 2 := by omega
  have hmz2 : ¬ (m : Int) > 1024 := by omega
  obtain ⟨a2, c2, W2, hr2, ho2, hb2⟩ := appAll g0 o0 n c l w ha hn hnb
  have hbs0 := bs0I w
  have HT0 : Hid (TS w (.slice a2 n c2) (.slice none 0 0) (.slice none 0 0) (.slice none 0 0) (.slice none 0 0) l (List.range 0) [] [] [] W2) := by
    refine ⟨⟨fun r hr => ?_, ?_⟩, ⟨rfl, .inl ⟨rfl, rfl⟩⟩, hb2⟩
    · simp only [List.mem_cons, List.not_mem_nil, or_false] at hr
      rcases hr with rfl | rfl | rfl | rfl
      · show W2.ownsRow _ _ _ _ l.length _
        rw [hn]; exact ho2
      · exact ⟨rfl, .inl ⟨rfl, rfl⟩⟩
      · exact ⟨rfl, .inl ⟨rfl, rfl⟩⟩
      · exact ⟨rfl, .inl ⟨rfl, rfl⟩⟩
    · have hz : ∀ u : Value, ApB (.slice none 0 0) u := fun u => .inl rfl
      simp only [List.pairwise_cons, List.mem_cons, List.not_mem_nil, or_false]
      refine ⟨fun r hr => ?_, fun r hr => hz _, fun r hr => hz _, fun r hr => (by cases hr), List.Pairwise.nil⟩
      rcases hr with rfl | rfl | rfl <;> exact (hz _).symm
  obtain ⟨W1, hW1⟩ : ∃ W, w.alloc (.cells #[] 3) = W := ⟨_, rfl⟩
  rw [hW1] at hr2 hbs0
  obtain ⟨gw, hgw⟩ : ∃ g, w.heap.size = g := ⟨_, rfl⟩
  rw [hgw] at hr2 hbs0
  clear hok ha hn hl ho2 hb2 hW1 hgw
  go_enter Try.func4, Try.ntmps4
  go_wp2
  go_loopw [6] (fun x wr => ∃ i : Nat, i ≤ n ∧ x = .int .i64 (i : Int) ∧ wr = w) (fun x _ => n - (intOf x).toNat)
  case atStart => exact ⟨0, Nat.zero_le _, rfl, rfl⟩
  case round =>
    obtain ⟨i, hin, rfl, hwr⟩ := hrel
    obtain rfl : w = wr := hwr.symm
    clear hwr
    by_cases hlt : i < n
    · have hiz : (i : Int) < (n : Nat) := by omega
      have hi0 : (0 : Int) ≤ i := by omega
      obtain ⟨x, hx⟩ : ∃ x, l[i]? = some x := ⟨_, List.getElem?_eq_getElem (by rw [HN.out]; exact hlt)⟩
      have hx32 : x ≤ 32 := HL.out x (List.mem_of_getElem? hx)
      obtain ⟨g, o, h1, hg, hc⟩ := HA.out i (x : Int) (by rw [List.getElem?_map, hx]; rfl)
      injection h1 with h1
      injection h1 with h1 h4
      subst h1
      subst h4
      have h2 : ¬ (x : Int) < 0 := by omega
      have h3 : ¬ (x : Int) > 32 := by omega
      clear hx hbs0 hr2
      go_wp2
      go_roundw
      case rel => exact ⟨i + 1, by omega, by go_num, by trivial⟩
      case measure => simp [intOf]; omega
    · obtain rfl : i = n := by omega
      have hiz : ¬ (i : Int) < (i : Nat) := by omega
      go_wp2_with (first
        | (refine wpList_bs0X rfl 22 rfl (.slice (some ⟨gw, 0, none⟩) 0 0) W1 hbs0 ?_)
        | (refine wpList_appX rfl (.tmp 44) (.tmp 45) 22 22 rfl (.slice (some ⟨gw, 0, none⟩) 0 0) (.slice (some ⟨g0, o0, none⟩) i c) (.slice a2 i c2) W2 rfl rfl hr2 ?_)
        | fail)
      clear hbs0 hr2 hiz hlt
      go_loopw [8, 9] (fun vv v wr => ∃ (j : Nat) (vn : Value), vn = vv ∧ v = .int .i64 j ∧ j ≤ i ∧ Hid (TS w (.slice a2 i c2) vn (.slice none 0 0) (.slice none 0 0) (.slice none 0 0) l (List.range j) [] [] [] wr)) (fun _ v _ => i - (intOf v).toNat)
      case atStart => exact ⟨0, _, rfl, rfl, by omega, HT0.out⟩
      case round =>
        clear HT0
        obtain ⟨j, vn, rfl, rfl, hj, HT⟩ := hrel
        by_cases hjl : j < i
        · have hjz : (j : Int) < (i : Int) := by omega
          obtain ⟨a9, c9, W9, hr9, hT9⟩ := HT.out.appN (x := j) (by simp; omega)
          have hbs := bsI (j : Int) wr
          rw [← List.range_succ] at hT9
          rw [List.length_range] at hr9 hT9
          have HT9 : Hid (TS w (.slice a2 i c2) (.slice a9 (j + 1) c9) (.slice none 0 0) (.slice none 0 0) (.slice none 0 0) l (List.range (j + 1)) [] [] [] W9) := hT9
          obtain ⟨W8, hW8⟩ : ∃ W, wr.alloc (.cells #[.int .i64 (j : Int)] 3) = W := ⟨_, rfl⟩
          obtain ⟨gb, hgb⟩ : ∃ g, wr.heap.size = g := ⟨_, rfl⟩
          rw [hW8, hgb] at hbs hr9
          obtain ⟨v9, hv9⟩ : ∃ u, Value.slice a9 (j + 1) c9 = u := ⟨_, rfl⟩
          rw [hv9] at hr9 HT9
          clear hT9 hW8 hgb hv9 HT
          go_wp2_with (first
            | (refine wpList_bsX rfl 22 (.tmp 54) rfl (.int .i64 (j : Int)) (.slice (some ⟨gb, 0, none⟩) 1 1) W8 rfl hbs ?_)
            | (refine wpList_appX rfl (.tmp 53) (.tmp 55) 22 22 rfl vn (.slice (some ⟨gb, 0, none⟩) 1 1) v9 W9 rfl rfl hr9 ?_)
            | fail)
          clear hbs hr9
          go_roundw
          case rel => exact ⟨j + 1, v9, rfl, by go_num, by omega, HT9.out⟩
          case measure => simp [intOf]; omega
        · obtain rfl : j = i := by omega
          have hjz : ¬ (j : Int) < (j : Int) := by omega
          have HR0 : Hid (TR w j m 0 l (.slice a2 j c2) vn (.slice none 0 0) wr) := by
            refine ⟨l, [], ?_, rfl, by rw [HN.out]; rfl, fun x hx => ?_⟩
            · have e : ((tir j m (itm l) 0).1.map (·.1)) = List.range j := by
                show (itm l).map (·.1) = _
                rw [itm, List.map_map, HN.out]
                exact List.map_id _
              rw [e]; exact HT.out
            · have hx' : x ∈ itm l := hx
              simp only [itm, List.mem_map, List.mem_range] at hx'
              obtain ⟨q, hq, rfl⟩ := hx'
              show l[q]? = some (l.getD q 0)
              rw [List.getD, List.getElem?_eq_getElem hq]; rfl
          clear HT
          go_wp2_with fail
          have HOKT : Hid (∀ k, TOk j (tir j m (itm l) k)) := fun k => tir_ok HOK.out k
          go_loopw [7, 8, 10, 11] (fun ul un uo ut wr => ∃ (k : Nat) (vl vn vo : Value), vl = ul ∧ vn = un ∧ vo = uo ∧ ut = .int .i64 ((k + 1 : Nat) : Int) ∧ k ≤ 33 + j ∧ Hid (TR w j m k l vl vn vo wr)) (fun _ _ _ ut _ => 35 + j - (intOf ut).toNat)
          case atStart => exact ⟨0, _, _, _, rfl, rfl, rfl, rfl, by omega, HR0.out⟩
          case round =>
            clear HR0
            obtain ⟨k, vl, vn, vo, rfl, rfl, rfl, rfl, hk, HR⟩ := hrel
            obtain ⟨lv, rows, hTS, hrows, hlv, hLO⟩ := HR.out.ex
            obtain ⟨its, hits⟩ : ∃ q, (tir j m (itm l) k).1 = q := ⟨_, rfl⟩
            obtain ⟨nds, hnds⟩ : ∃ q, (tir j m (itm l) k).2 = q := ⟨_, rfl⟩
            have htir : tir j m (itm l) k = (its, nds) := by rw [← hits, ← hnds]
            have hTO : TOk j (its, nds) := by rw [← htir]; exact HOKT.out k
            rw [hits] at hTS hLO
            rw [hnds] at hrows hlv
            have HTIR : Hid (tir j m (itm l) k = (its, nds) ∧ TOk j (its, nds)) := ⟨htir, hTO⟩
            have HTS : Hid (TS w vl vn (.slice none 0 0) (.slice none 0 0) vo lv (its.map (·.1)) [] [] rows wr ∧ rows.map Prod.snd = nds ∧ lv.length = j + nds.length ∧ LvO lv its) := ⟨hTS, hrows, hlv, hLO⟩
            obtain ⟨_, ⟨an, cn, hvn⟩, _, _, ⟨ao, co, hvo⟩⟩ := hTS.sl
            rw [List.length_map] at hvn
            obtain ⟨L, hL⟩ : ∃ q, its.length = q := ⟨_, rfl⟩
            rw [hL] at hvn
            have HLL : Hid (its.length = L ∧ L ≤ j ∧ nds.length + L ≤ j) := ⟨hL, by have := hTO.cnt; simp only at this; omega, by have := hTO.cnt; simp only at this; omega⟩
            subst hvn
            obtain ⟨T, hT⟩ : ∃ q, k + 1 = q := ⟨_, rfl⟩
            have HT : Hid (k + 1 = T) := hT
            rw [hT]
            clear hTS hrows hlv hLO htir hTO hits hnds HR hL hT hvo
            have hLj : L ≤ j := HLL.out.2.1
            have hTb : T ≤ 34 + j := by have := HT.out; omega
            by_cases h1 : 1 < L
            · have h1z : (1 : Int) < (L : Int) := by omega
              have HKB : Hid (k < 33 + j) := by
                show _ < _
                by_cases q : k < 33 + j
                · exact q
                · exfalso
                  have hke : k = 32 + (j + 1) := by omega
                  have := tir_ends HOK.out hm1 (j + 1)
                  rw [← hke, HTIR.out.1, itm_len, HN.out] at this
                  simp only [HLL.out.1] at this
                  omega
              have HG0 : Hid (TG w j T m 0 its nds lv vl (.slice an L cn) (.slice none 0 0) (.slice none 0 0) vo wr) := ⟨rows, HTS.out.1, HTS.out.2.1⟩
              have HLV : Hid (lv.length = j + nds.length ∧ LvO lv its) := ⟨HTS.out.2.2.1, HTS.out.2.2.2⟩
              clear HTS
              go_wp2_with fail
              go_loopw [7, 10, 12, 13, 14] (fun ul uo ux ug ui wr => ∃ (i : Nat) (vl vo vx vg : Value), vl = ul ∧ vo = uo ∧ vx = ux ∧ vg = ug ∧ ui = .int .i64 (i : Int) ∧ i ≤ L ∧ Hid (TG w j T m i its nds lv vl (.slice an L cn) vx vg vo wr)) (fun _ _ _ _ ui _ => L - (intOf ui).toNat)
              case atStart => exact ⟨0, _, _, _, _, rfl, rfl, rfl, rfl, rfl, by omega, HG0.out⟩
              case round =>
                clear HG0
                obtain ⟨i, vl, vo, vx, vg, rfl, rfl, rfl, rfl, rfl, hi, HG⟩ := hrel
                by_cases hlt : i < L
                · have hiz : (i : Int) < (L : Int) := by omega
                  have hi0 : (0 : Int) ≤ (i : Int) := by omega
                  obtain ⟨rows, hTS, hrows⟩ := HG.out.ex
                  obtain ⟨x, hx⟩ : ∃ x, its.getD i (0, 0) = x := ⟨_, rfl⟩
                  have hxi : its[i]? = some x := by
                    rw [← hx, List.getD, List.getElem?_eq_getElem (by rw [HLL.out.1]; exact hlt)]; rfl
                  have hxm : x ∈ its := List.mem_of_getElem? hxi
                  obtain ⟨S, hS⟩ : ∃ q, gst j T m its nds i = q := ⟨_, rfl⟩
                  obtain ⟨LV, hLV⟩ : ∃ q, gsl j T m its nds lv i = q := ⟨_, rfl⟩
                  have hhm := gst_hm j T m its nds (by omega) i
                  have hcnt := (gst_cnt j T m its nds i (by rw [HLL.out.1]; omega)).1
                  have hlen := gsl_len j T m its nds lv HLV.out.1 i
                  have hkeep := gsl_keep j T m its nds lv _ _ (HLV.out.2 x hxm) i
                  have hgst : gst j T m its nds (i + 1) = stG j T m L i S x := by rw [gst, hS, hx, HLL.out.1]
                  have hgsl : gsl j T m its nds lv (i + 1) = if cuG T m L i (S.h ++ [x]) x = true ∧ 2 ≤ (S.h ++ [x]).length then LV ++ [x.2] else LV := by rw [gsl, hS, hx, HLL.out.1, hLV]
                  rw [hS] at hTS hrows hhm hcnt hlen
                  rw [hLV] at hTS hlen hkeep
                  have hx32 : x.2 ≤ 32 := HTIR.out.2.lev x hxm
                  have HS : Hid (gst j T m its nds (i + 1) = stG j T m L i S x ∧ gsl j T m its nds lv (i + 1) = (if cuG T m L i (S.h ++ [x]) x = true ∧ 2 ≤ (S.h ++ [x]).length then LV ++ [x.2] else LV) ∧ rows.map Prod.snd = S.nodes ∧ LV.length = j + S.nodes.length ∧ S.nodes.length + S.next.length + S.h.length ≤ j + j) := ⟨hgst, hgsl, hrows, hlen, by have := HLL.out.2.2; omega⟩
                  obtain ⟨gn, cn', hvn, hcn, hcnl⟩ := hTS.r.get (v := .slice an L cn) (l := its.map (·.1)) (by simp) (i := i) (x := x.1) (by rw [List.getElem?_map, hxi]; rfl)
                  have hvn1 := (Value.slice.inj hvn).1
                  clear hvn
                  subst hvn1
                  obtain ⟨gl, cl, hvl, hcl, hcll⟩ := hTS.r.get (v := vl) (l := LV) (by simp) hkeep
                  obtain ⟨ln, hln⟩ : ∃ q, LV.length = q := ⟨_, rfl⟩
                  rw [hln] at hvl
                  subst hvl
                  have hxl : x.1 < ln := by rw [← hln]; exact (List.getElem?_eq_some_iff.1 hkeep).1
                  obtain ⟨_, _, _, _, ⟨ao, co, hvo⟩⟩ := hTS.sl
                  have hrl : rows.length = S.nodes.length := by rw [← hrows, List.length_map]
                  obtain ⟨R, hR⟩ : ∃ q, rows.length = q := ⟨_, rfl⟩
                  rw [hR] at hvo
                  subst hvo
                  obtain ⟨ag, cg, W9, hr9, hT9⟩ := hTS.appG (x := x.1) (by rw [List.length_map]; omega)
                  rw [List.length_map] at hr9 hT9
                  obtain ⟨hn, hhn⟩ : ∃ q, S.h.length + 1 = q := ⟨_, rfl⟩
                  rw [hhn] at hr9 hT9
                  have hbs := bsI (x.1 : Int) wr
                  obtain ⟨gg, cg', hvg, hcg, hcgl⟩ := hT9.r.get (v := .slice ag hn cg) (l := S.h.map (·.1) ++ [x.1]) (by simp) (i := S.h.length) (x := x.1) (by rw [List.getElem?_append_right (by rw [List.length_map]; exact Nat.le_refl _), List.length_map, Nat.sub_self]; rfl)
                  have hvg1 := (Value.slice.inj hvg).1
                  clear hvg
                  subst hvg1
                  obtain ⟨gn', cn2, hvn', hcn9, hq1⟩ := hT9.r.get (v := .slice (some ⟨gn, 0, none⟩) L cn) (l := its.map (·.1)) (by simp) (i := i) (x := x.1) (by rw [List.getElem?_map, hxi]; rfl)
                  have hvn1' := congrArg Addr.block (Option.some.inj (Value.slice.inj hvn').1)
                  clear hvn'
                  simp only at hvn1'
                  subst hvn1'
                  obtain ⟨gl', cl2, hvl', hcl9, hq2⟩ := hT9.r.get (v := .slice (some ⟨gl, 0, none⟩) ln cl) (l := LV) (by simp) hkeep
                  have hvl1' := congrArg Addr.block (Option.some.inj (Value.slice.inj hvl').1)
                  clear hvl'
                  simp only at hvl1'
                  subst hvl1'
                  have HT9 : Hid (TS w (.slice (some ⟨gl, 0, none⟩) ln cl) (.slice (some ⟨gn, 0, none⟩) L cn) vx (.slice (some ⟨gg, 0, none⟩) hn cg) (.slice ao R co) LV (its.map (·.1)) (S.next.map (·.1)) (S.h.map (·.1) ++ [x.1]) rows W9) := hT9
                  have HX : Hid (its[i]? = some x ∧ LV[x.1]? = some x.2 ∧ LV.length = ln ∧ rows.length = R ∧ R = S.nodes.length ∧ S.h.length + 1 = hn ∧ its.getD i (0, 0) = x) := ⟨hxi, hkeep, hln, hR, by omega, hhn, hx⟩
                  obtain ⟨x1, hx1⟩ : ∃ q, x.1 = q := ⟨_, rfl⟩
                  obtain ⟨x2, hx2⟩ : ∃ q, x.2 = q := ⟨_, rfl⟩
                  rw [hx1] at hr9 hbs hcn hcn9 hcl9 hxl
                  rw [hx2] at hcl9 hx32
                  obtain ⟨W8, hW8⟩ : ∃ W, wr.alloc (.cells #[.int .i64 (x1 : Int)] 3) = W := ⟨_, rfl⟩
                  obtain ⟨gb, hgb⟩ : ∃ g, wr.heap.size = g := ⟨_, rfl⟩
                  rw [hW8, hgb] at hbs hr9
                  have hhmn : hn ≤ m := by omega
                  have hRj : R ≤ j + j := by have := HLL.out.2.2; omega
                  have hlnj : ln ≤ j + j + j := by omega
                  clear hq1 hq2 hTS hrows hx hxi hxm hS hLV hhm hcnt hlen hkeep hgst hgsl hT9 hcnl hcll hcgl hln hR hrl hW8 hgb HG hcl hhn
                  go_upto_region 23 with (first
                    | (refine wpList_bsX rfl 22 (.tmp 72) rfl (.int .i64 (x1 : Int)) (.slice (some ⟨gb, 0, none⟩) 1 1) W8 rfl hbs ?_)
                    | (refine wpList_appX rfl (.tmp 68) (.tmp 73) 22 22 rfl vg (.slice (some ⟨gb, 0, none⟩) 1 1) (.slice (some ⟨gg, 0, none⟩) hn cg) W9 rfl rfl hr9 ?_)
                    | fail)
                  clear hbs hr9 hcn
                  obtain ⟨L1, hL1⟩ : ∃ q, L - 1 = q := ⟨_, rfl⟩
                  have hL1z : (L : Int) - 1 = (L1 : Int) := by omega
                  obtain ⟨B, hB⟩ : ∃ b, (!(cuG T m L i (S.h ++ [x]) x)) = b := ⟨_, rfl⟩
                  have HBB : Hid (B = (decide (x2 < T) && (decide (hn < m) && decide (i < L1)))) := by
                    show _ = _
                    have hl1 : (S.h ++ [x]).length = hn := by rw [List.length_append, List.length_singleton]; exact HX.out.2.2.2.2.2.1
                    rw [← hB, cuG, hl1, hx2, Bool.not_or, Bool.not_or]
                    congr 1
                    · by_cases q : x2 < T
                      · simp [q]
                      · simp [q]; omega
                    · congr 1
                      · by_cases q : hn < m
                        · simp [q]; omega
                        · have : hn = m := by omega
                          simp [this]
                      · by_cases q : i < L1
                        · simp [q]; omega
                        · have : i + 1 = L := by omega
                          simp [this, q]
                  go_cut [96] from 75 to 96 (fun xb wx => xb = .bool B ∧ wx = W9)
                  case first =>
                    by_cases c1 : x2 < T
                    · have c1z : (x2 : Int) < (T : Int) := by omega
                      by_cases c2 : hn < m
                      · have c2z : (hn : Int) < (m : Int) := by omega
                        by_cases c3 : i < L1
                        · have c3z : (i : Int) < (L1 : Int) := by omega
                          go_wp2
                          go_meet
                          exact ⟨by rw [HBB.out]; simp [c1, c2, c3], rfl⟩
                        · have c3z : ¬ (i : Int) < (L1 : Int) := by omega
                          go_wp2
                          go_meet
                          exact ⟨by rw [HBB.out]; simp [c1, c2, c3], rfl⟩
                      · have c2z : ¬ (hn : Int) < (m : Int) := by omega
                        go_wp2
                        go_meet
                        exact ⟨by rw [HBB.out]; simp [c1, c2], rfl⟩
                    · have c1z : ¬ (x2 : Int) < (T : Int) := by omega
                      go_wp2
                      go_meet
                      exact ⟨by rw [HBB.out]; simp [c1], rfl⟩
                  case rest =>
                  obtain ⟨rfl, hwc⟩ := hcut
                  obtain rfl : W9 = wc := hwc.symm
                  clear hwc hL1 hL1z HBB
                  cases B with
                  | true =>
                    have hcu : cuG T m L i (S.h ++ [x]) x = false := by simpa using hB
                    have HG' : Hid (TG w j T m (i + 1) its nds lv (.slice (some ⟨gl, 0, none⟩) ln cl) (.slice (some ⟨gn, 0, none⟩) L cn) vx (.slice (some ⟨gg, 0, none⟩) hn cg) (.slice ao R co) W9) := by
                      refine ⟨rows, ?_, ?_⟩
                      · rw [HS.out.1, HS.out.2.1, stG, if_neg (by rw [hcu]; simp), if_neg (by rw [hcu]; simp)]
                        simp only [List.map_append, List.map_cons, List.map_nil]
                        exact HT9.out
                      · rw [HS.out.1, stG, if_neg (by rw [hcu]; simp)]
                        exact HS.out.2.2.1
                    clear hcn9 hcl9 hcg hx1 hx2 hB hcu
                    go_wp2
                    go_roundw
                    case rel => exact ⟨i + 1, _, _, _, _, rfl, rfl, rfl, rfl, by go_num, by omega, HG'.out⟩
                    case measure => simp [intOf]; omega
                  | false =>
                    have hcu : cuG T m L i (S.h ++ [x]) x = true := by simpa using hB
                    clear hB
                    by_cases hh : S.h.length = 0
                    · have hh0 : S.h = [] := List.length_eq_zero_iff.1 hh
                      have hn1 : hn = 1 := by have := HX.out.2.2.2.2.2.1; omega
                      subst hn1
                      have hcg0 : W9.cell? ⟨gg, 0, none⟩ = some (.int .i64 (x1 : Int)) := by rw [← hx1]; rw [hh] at hcg; exact hcg
                      obtain ⟨ax, cx, W11, hr11, hT11⟩ := HT9.out.appX (x := x1) (by rw [List.length_map]; have := HS.out.2.2.2.2; omega)
                      have hbs := bsI (x1 : Int) W9
                      have HG' : Hid (TG w j T m (i + 1) its nds lv (.slice (some ⟨gl, 0, none⟩) ln cl) (.slice (some ⟨gn, 0, none⟩) L cn) (.slice ax ((S.next.map (·.1)).length + 1) cx) (.slice none 0 0) (.slice ao R co) W11) := by
                        refine ⟨rows, ?_, ?_⟩
                        · rw [HS.out.1, HS.out.2.1, stG, if_pos hcu, if_neg (by rw [hh0]; simp)]
                          have hj : jn j S.nodes (S.h ++ [x]) = x := by rw [hh0]; rfl
                          simp only [List.map_append, List.map_cons, List.map_nil, hj, hx1]
                          exact hT11.noG
                        · rw [HS.out.1, stG, if_pos hcu]
                          have hj : nd S.nodes (S.h ++ [x]) = S.nodes := by rw [hh0]; rfl
                          simp only [hj]
                          exact HS.out.2.2.1
                      obtain ⟨W10, hW10⟩ : ∃ W, W9.alloc (.cells #[.int .i64 (x1 : Int)] 3) = W := ⟨_, rfl⟩
                      obtain ⟨gb, hgb⟩ : ∃ g, W9.heap.size = g := ⟨_, rfl⟩
                      rw [hW10, hgb] at hbs hr11
                      obtain ⟨v11, hv11⟩ : ∃ u, Value.slice ax ((S.next.map (·.1)).length + 1) cx = u := ⟨_, rfl⟩
                      rw [hv11] at hr11 HG'
                      clear hcn9 hcl9 hcg hx1 hx2 hcu hT11 hW10 hgb hv11 hh hh0
                      go_wp2_with (first
                        | (refine wpList_bsX rfl 22 (.tmp 103) rfl (.int .i64 (x1 : Int)) (.slice (some ⟨gb, 0, none⟩) 1 1) W10 rfl hbs ?_)
                        | (refine wpList_appX rfl (.tmp 100) (.tmp 104) 22 22 rfl vx (.slice (some ⟨gb, 0, none⟩) 1 1) v11 W11 rfl rfl hr11 ?_)
                        | fail)
                      clear hbs hr11
                      go_roundw
                      case rel => exact ⟨i + 1, _, _, _, _, rfl, rfl, rfl, rfl, by go_num, by omega, HG'.out⟩
                      case measure => simp [intOf]; omega
                    · have hn1 : ¬ (hn : Int) = 1 := by have := HX.out.2.2.2.2.2.1; omega
                      have h2l : 2 ≤ (S.h ++ [x]).length := by rw [List.length_append, List.length_singleton]; omega
                      obtain ⟨J, hJ⟩ : ∃ q, j + R = q := ⟨_, rfl⟩
                      have hJz : (j : Int) + (R : Int) = (J : Int) := by omega
                      obtain ⟨ax, cx, W11, hr11, hT11⟩ := HT9.out.appX (x := J) (by rw [List.length_map]; have := HS.out.2.2.2.2; omega)
                      obtain ⟨gq, cq, hvq, hcn11, hq1⟩ := hT11.r.get (v := .slice (some ⟨gn, 0, none⟩) L cn) (l := its.map (·.1)) (by simp) (i := i) (x := x.1) (by rw [List.getElem?_map, HX.out.1]; rfl)
                      have hvq1 := congrArg Addr.block (Option.some.inj (Value.slice.inj hvq).1)
                      clear hvq
                      simp only at hvq1
                      subst hvq1
                      obtain ⟨gr, cr, hvr, hcl11, hq2⟩ := hT11.r.get (v := .slice (some ⟨gl, 0, none⟩) ln cl) (l := LV) (by simp) HX.out.2.1
                      have hvr1 := congrArg Addr.block (Option.some.inj (Value.slice.inj hvr).1)
                      clear hvr
                      simp only at hvr1
                      subst hvr1
                      obtain ⟨al, cl', W13, hr13, hT13⟩ := hT11.appL (x := x.2) (by rw [HX.out.2.2.1]; omega)
                      obtain ⟨ao', co', W15, hr15, hT15⟩ := hT13.appO (by rw [HX.out.2.2.2.1]; omega)
                      have hbs1 := bsI (J : Int) W9
                      have hbs2 := bsI (x.2 : Int) W11
                      have hbs3 := bsS (some ⟨gg, 0, none⟩) hn cg W13
                      have HG' : Hid (TG w j T m (i + 1) its nds lv (.slice al (LV.length + 1) cl') (.slice (some ⟨gn, 0, none⟩) L cn) (.slice ax ((S.next.map (·.1)).length + 1) cx) (.slice none 0 0) (.slice ao' (rows.length + 1) co') W15) := by
                        refine ⟨rows ++ [(.slice (some ⟨gg, 0, none⟩) hn cg, S.h.map (·.1) ++ [x.1])], ?_, ?_⟩
                        · rw [HS.out.1, HS.out.2.1, stG, if_pos hcu, if_pos ⟨hcu, h2l⟩]
                          have hj : jn j S.nodes (S.h ++ [x]) = (J, x.2) := by
                            rw [jn, if_neg (by omega), ← hJ, HX.out.2.2.2.2.1]
                            simp
                          simp only [List.map_append, List.map_cons, List.map_nil, hj]
                          exact hT15
                        · rw [HS.out.1, stG, if_pos hcu]
                          have hj : nd S.nodes (S.h ++ [x]) = S.nodes ++ [(S.h ++ [x]).map (·.1)] := by rw [nd, if_neg (by omega)]
                          simp only [hj, List.map_append, List.map_cons, List.map_nil]
                          rw [HS.out.2.2.1]
                      rw [HX.out.2.2.2.1] at hr15 HG'
                      rw [HX.out.2.2.1] at hr13 HG'
                      rw [hx1] at hcn11 hcl11
                      rw [hx2] at hcl11 hr13 hbs2
                      obtain ⟨W10, hW10⟩ : ∃ W, W9.alloc (.cells #[.int .i64 (J : Int)] 3) = W := ⟨_, rfl⟩
                      obtain ⟨gb1, hgb1⟩ : ∃ g, W9.heap.size = g := ⟨_, rfl⟩
                      rw [hW10, hgb1] at hbs1 hr11
                      obtain ⟨W12, hW12⟩ : ∃ W, W11.alloc (.cells #[.int .i64 (x2 : Int)] 3) = W := ⟨_, rfl⟩
                      obtain ⟨gb2, hgb2⟩ : ∃ g, W11.heap.size = g := ⟨_, rfl⟩
                      rw [hW12, hgb2] at hbs2 hr13
                      obtain ⟨W14, hW14⟩ : ∃ W, W13.alloc (.cells #[.slice (some ⟨gg, 0, none⟩) hn cg] 22) = W := ⟨_, rfl⟩
                      obtain ⟨gb3, hgb3⟩ : ∃ g, W13.heap.size = g := ⟨_, rfl⟩
                      rw [hW14, hgb3] at hbs3 hr15
                      obtain ⟨v11, hv11⟩ : ∃ u, Value.slice ax ((S.next.map (·.1)).length + 1) cx = u := ⟨_, rfl⟩
                      rw [hv11] at hr11 HG'
                      obtain ⟨v13, hv13⟩ : ∃ u, Value.slice al (ln + 1) cl' = u := ⟨_, rfl⟩
                      rw [hv13] at hr13 HG'
                      obtain ⟨v15, hv15⟩ : ∃ u, Value.slice ao' (R + 1) co' = u := ⟨_, rfl⟩
                      rw [hv15] at hr15 HG'
                      clear hq1 hq2 hcn9 hcl9 hcg hx1 hx2 hcu hT11 hT13 hT15 hW10 hgb1 hW12 hgb2 hW14 hgb3 hv11 hv13 hv15 hh h2l hJ
                      go_wp2_with (first
                        | (refine wpList_bsX rfl 22 (.tmp 111) rfl (.int .i64 (J : Int)) (.slice (some ⟨gb1, 0, none⟩) 1 1) W10 rfl hbs1 ?_)
                        | (refine wpList_appX rfl (.tmp 106) (.tmp 112) 22 22 rfl vx (.slice (some ⟨gb1, 0, none⟩) 1 1) v11 W11 rfl rfl hr11 ?_)
                        | (refine wpList_bsX rfl 22 (.tmp 121) rfl (.int .i64 (x2 : Int)) (.slice (some ⟨gb2, 0, none⟩) 1 1) W12 rfl hbs2 ?_)
                        | (refine wpList_appX rfl (.tmp 114) (.tmp 122) 22 22 rfl (.slice (some ⟨gl, 0, none⟩) ln cl) (.slice (some ⟨gb2, 0, none⟩) 1 1) v13 W13 rfl rfl hr13 ?_)
                        | (refine wpList_bsX rfl 23 (.tmp 125) rfl (.slice (some ⟨gg, 0, none⟩) hn cg) (.slice (some ⟨gb3, 0, none⟩) 1 1) W14 rfl hbs3 ?_)
                        | (refine wpList_appX rfl (.tmp 124) (.tmp 126) 23 23 rfl (.slice ao R co) (.slice (some ⟨gb3, 0, none⟩) 1 1) v15 W15 rfl rfl hr15 ?_)
                        | fail)
                      clear hbs1 hbs2 hbs3 hr11 hr13 hr15 hcn11 hcl11
                      go_roundw
                      case rel => exact ⟨i + 1, _, _, _, _, rfl, rfl, rfl, rfl, by go_num, by omega, HG'.out⟩
                      case measure => simp [intOf]; omega
                · obtain rfl : i = L := by omega
                  have hiz : ¬ (i : Int) < (i : Int) := by omega
                  obtain ⟨rows, hTS, hrows⟩ := HG.out.ex
                  have hend := gst_end j T m its nds
                  rw [HLL.out.1] at hend
                  have HR' : Hid (TR w j m (k + 1) l vl vx vo wr) := by
                    have htir : tir j m (itm l) (k + 1) = ((gst j T m its nds i).next, (gst j T m its nds i).nodes) := by
                      rw [tir, HTIR.out.1, if_neg (by simp only [HLL.out.1]; omega), HT.out, gat]
                      simp only [HLL.out.1]
                    refine ⟨gsl j T m its nds lv i, rows, ?_, ?_, ?_, ?_⟩
                    · rw [htir]; exact hTS.turn
                    · rw [htir]; exact hrows
                    · rw [htir]; exact gsl_len j T m its nds lv HLV.out.1 i
                    · rw [htir]; exact (gsl_ok j T m its nds lv HLV.out.1 HLV.out.2 i (by rw [HLL.out.1]; omega)).1
                  have hTT : (T : Int) + 1 = ((k + 1 + 1 : Nat) : Int) := by have := HT.out; omega
                  clear hTS hrows hend HG
                  go_wp2
                  go_roundw
                  case rel => exact ⟨k + 1, _, _, _, rfl, rfl, rfl, by go_num, by have := HKB.out; omega, HR'.out⟩
                  case measure => simp [intOf]; omega
            · have h1z : ¬ (1 : Int) < (L : Int) := by omega
              have HND : Hid (nds = tnd m l) := by
                show _ = _
                have h := tnd_at (m := m) (levels := l) (k := k) (by rw [HN.out]; exact hk) (by rw [HN.out, HTIR.out.1]; simp only [HLL.out.1]; omega)
                rw [HN.out, HTIR.out.1] at h
                exact h
              have hrl : rows.length = (tnd m l).length := by rw [← HND.out, ← HTS.out.2.1, List.length_map]
              obtain ⟨_, _, _, _, ⟨ao, co, hvo⟩⟩ := HTS.out.1.sl
              rw [hrl] at hvo
              subst hvo
              have HO : Hid (wr.ownsRow w.heap.size 22 1 (.slice ao (tnd m l).length co) (tnd m l).length (rows.map Prod.fst) ∧ Rws wr w.heap.size rows ∧ rows.map Prod.snd = tnd m l ∧ Below w.heap.size w wr) := by
                have h := HTS.out.1.o
                rw [hrl] at h
                exact ⟨h, HTS.out.1.r.tail.tail.tail.tail, by rw [HTS.out.2.1, HND.out], HTS.out.1.bel⟩
              obtain ⟨N, hN⟩ : ∃ q, (tnd m l).length = q := ⟨_, rfl⟩
              rw [hN] at HO
              rw [hN]
              have HNN : Hid ((tnd m l).length = N) := hN
              clear HTS hrl hN
              go_wp2
              go_ret2
              exact ⟨ao, co, rows, by rw [HNN.out]; rfl, HO.out.2.2.1, by rw [HNN.out]; exact HO.out.1, HO.out.2.1, HO.out.2.2.2⟩
end Go.Proofs.Ythfggejdeodinaa
