import Derived.Test.YtbfoiocbmhhdbaaGreatY23
import Derived.RegionTactic
import Derived.Laws.Concat
import Derived.Test.YtbfoiocbmhhdbaaGreatY15
import Derived.Test.YtbfoiocbmhhdbaaGreatY6
import Derived.Deep.RegionHeld3
/- The document's laid. -/
namespace Go.Proofs.YtbfoiocbmhhdbaaGreat
open Go.RowKit
set_option linter.unusedSimpArgs false
set_option linter.unusedVariables false
theorem conv_idX (g : Nat) (s : ByteArray) (hs : s.size = 32) (w : World) (T : TypeId) (h : Bk w g (idc s) T) : (convert 131 9 (.slice (some ⟨g, 0, none⟩) 32 32)).run Tryz.prog w = .ok (.string s) w := by
  have hl : (bl s).length = 32 := by rw [bl_length, hs]
  have q := run_convert_bytes_back (P := Tryz.prog) w 131 9 5 ⟨g, 0, none⟩ 32 (bl s) Tryz.underlying131 Tryz.underlying5 Tryz.underlying9 (fun j hj => by
    rw [WideShapes.add_plain, Nat.zero_add, h.cell]
    simp only [idc, bvc, byl, List.getElem?_toArray, List.getElem?_map, bl] at hj ⊢
    rw [List.getElem?_eq_getElem hj]; rfl)
  rw [hl] at q
  exact q
theorem quiet_add {P : Program} {o : Oper} {a : Act} {C : World → Prop} {K : Act → Prop} (t t' : TypeId) (x y : Operand) (ho : o.op = .binOp .add t x y t') (p q r : ByteArray) (hx : a.eval x = .string p) (hy : a.eval y = .string q) (hr : p ++ q = r) (hz : p.size + q.size ≤ 9223372036854775807) (hn : K (a.put o.dst (.string r))) : o.quiet P a C K :=
  quiet_val10 (.string r) (fun w hw => by
    unfold execOp
    simp only [ho, hx, hy, binOp_string_add]
    rw [← hr]
    simp [eqGuard, run_string_add_sum w p q hz]) hn
/-- What stands ahead of the entries' counts. -/
def hd0 (s : ByteArray) (n : Nat) : List UInt8 := [109, 105, 120, 49] ++ (bl s ++ f4 n)
theorem ix_eq (s : ByteArray) (l : List Xe) : ixB s l = hd0 s l.length ++ (fanT l 256 ++ ensB l) := by simp [ixB, hdB, hd0]
/-- While the head is laid. -/
structure LdC (w : World) (D : Array Value) (W : World) : Prop where
  box : Bk W w.heap.size D 48
  bel : Below w.heap.size w W
/-- A row under way. -/
structure LfS (w9 : World) (v : Value) (l : List UInt8) (W : World) : Prop where
  row : Fre W w9.heap.size v (bcl l)
  bel : Below w9.heap.size w9 W
theorem LfS.below {w9 : World} {v : Value} {l : List UInt8} {W W' : World} (h : LfS w9 v l W) (hb : Below W.heap.size W W') : LfS w9 v l W' := ⟨h.row.kept (gr_of_below hb none) (fun k hk => by cases hk), h.bel.trans (hb.mono h.bel.size)⟩
theorem fre_str {w : World} {B : Nat} {v : Value} {l : List UInt8} (h : Fre w B v (bcl l)) : (convert 131 9 v).run Tryz.prog w = .ok (.string ⟨l.toArray⟩) w := by
  obtain ⟨g, cap, rfl, _, _, _, hc⟩ := h.cell
  have q := run_convert_bytes_back (P := Tryz.prog) w 131 9 5 ⟨g, 0, none⟩ cap l Tryz.underlying131 Tryz.underlying5 Tryz.underlying9 (fun j hj => by
    rw [WideShapes.add_plain, Nat.zero_add, hc j (by rw [bcl_len]; exact hj)]
    simp only [bcl, List.getElem?_map, List.getElem?_eq_getElem hj]; rfl)
  rw [bcl_len]
  exact q
theorem fix4_str (n : Nat) : bl ((⟨#[]⟩ : ByteArray) ++ sb (fixN 4 n)) = f4 n := by
  rw [f4, bl_append, bl_sb]; rfl
theorem idc_bcl (s : ByteArray) : (idc s).toList = bcl (bl s) := by simp [idc, bvc, byl, bcl, bl]
theorem ens_len : ∀ (l : List Xe), (∀ e ∈ l, e.id.size = 32) → (ensB l).length = 41 * l.length
  | [], _ => rfl
  | e :: r, h => by
    have ih := ens_len r (fun x hx => h x (List.mem_cons_of_mem _ hx))
    have : ensB (e :: r) = enB e ++ ensB r := by simp [ensB]
    rw [this, List.length_append, ih, enB_len (h e (List.mem_cons_self ..)), List.length_cons]; omega
theorem slice32o (g o : Nat) (w : World) : (Instr.sliceAt 48 (.pointer (some ⟨g, o, none⟩)) none none none).run Tryz.prog w = .ok (.slice (some ⟨g, o, none⟩) 32 32) w := by
  have e1 : Tryz.prog.elem 48 = 5 := by kernel_rfl
  have e2 : Tryz.prog.arrayLen 48 = 32 := by kernel_rfl
  have e0 : Tryz.prog.underlying 48 = some (.array (Tryz.prog.arrayLen 48) (Tryz.prog.elem 48)) := by kernel_rfl
  rw [run_sliceAt_array_all (P := Tryz.prog) w 48 ⟨g, o, none⟩ e0]
  rw [e1, e2, sizeOf_u8']
  simp only [slicedAt, Result.andThen, Addr.add_mid]
  simp
set_option maxHeartbeats 4000000 in
set_option maxRecDepth 100000 in
theorem rlaid_any (s : ByteArray) (l : List Xe) (a : Option Addr) (n c : Nat) (w : World) (hs : s.size = 32) (hX : XeL w a l) (hl : l.length = n) (hn : n ≤ 65536) (ho : ∀ e ∈ l, 0 ≤ e.off ∧ e.off < 4294967296 ∧ 0 ≤ e.sz ∧ e.sz < 4294967296) :
    Calls Tryz.prog 86 #[.agg (idc s), .slice a n c] w fun e w' => e = .returned (.string ⟨(ixB s l).toArray⟩) ∧ Below w.heap.size w w' := by
  have FX : Hid (∀ m : Nat, m < 4294967296 → ∃ t : ByteArray, t.size = 4 ∧ bl t = f4 m ∧ ∀ W, Calls Tryz.prog 57 #[.int .u64 (m : Int), .int .i64 4] W fun e w' => e = .returned (.string t) ∧ Below W.heap.size W w') := fun m hm =>
    ⟨_, by rw [← bl_length, fix4_str, f4_len], fix4_str m, fun W => rfix_any m 4 W (by omega) (by omega) (by omega) (by omega)⟩
  have HX : Hid (XeL w a l) := hX
  have HLN : Hid (l.length = n) := hl
  have HO : Hid (∀ e ∈ l, 0 ≤ e.off ∧ e.off < 4294967296 ∧ 0 ≤ e.sz ∧ e.sz < 4294967296) := ho
  have HC : Hid (∀ W, LdC w (idc s) W → (convert 131 9 (.slice (some ⟨w.heap.size, 0, none⟩) 32 32)).run Tryz.prog W = .ok (.string s) W) := fun W hW => conv_idX _ s hs W _ hW.box
  have H0 : Hid (LdC w (idc s) (w.alloc (.cells (idc s) 48))) := ⟨bk_new _ _ _, (Below.refl _ _).alloc (Nat.le_refl _) _⟩
  obtain ⟨t0, zt0, ht0, FN⟩ := FX.out n (by omega)
  obtain ⟨M1, hM1⟩ : ∃ M : ByteArray, (⟨#[109, 105, 120, 49]⟩ : ByteArray) ++ s = M := ⟨_, rfl⟩
  have zM1 : M1.size = 36 := by rw [← hM1, ByteArray.size_append, hs]; rfl
  obtain ⟨M2, hM2⟩ : ∃ M : ByteArray, M1 ++ t0 = M := ⟨_, rfl⟩
  have zM2 : M2.size = 40 := by rw [← hM2, ByteArray.size_append, zM1, zt0]
  have HB2 : Hid (bl M2 = hd0 s n) := by show _ = _; rw [← hM2, ← hM1, bl_append, bl_append, ht0, hd0, List.append_assoc]; rfl
  have zh : (hd0 s n).length = 40 := by rw [← HB2.out, bl_length, zM2]
  have HFN : Hid (∀ W, LdC w (idc s) W → Calls Tryz.prog 57 #[.int .u64 (n : Int), .int .i64 4] W fun e w' => e = .returned (.string t0) ∧ LdC w (idc s) w') := fun W hW => (FN W).mono fun e w' q => ⟨q.1, hW.box.below q.2 hW.box.lt, hW.bel.trans (q.2.mono hW.bel.size)⟩
  obtain ⟨D, hD⟩ : ∃ D, idc s = D := ⟨_, rfl⟩
  rw [hD] at HC H0 HFN ⊢
  have hs32 := slice32 w.heap.size
  have wn : IntKind.u64.wrap (n : Int) = (n : Int) := by rw [IntKind.wrap_u64]; omega
  have s1 : (4 : Nat) + s.size ≤ 9223372036854775807 := by omega
  have s2 : M1.size + t0.size ≤ 9223372036854775807 := by omega
  have HM1 : Hid ((⟨#[109, 105, 120, 49]⟩ : ByteArray) ++ s = M1) := hM1
  have HM2 : Hid (M1 ++ t0 = M2) := hM2
  clear hX hl ho hs hM1 hM2 FN ht0 hD
  go_enter Tryz.func86, Tryz.ntmps86
  go_wp2
  refine wp_region_tail (LdC w D) 8 (by kernel_rfl) (by kernel_rfl) ⟨H0.out.box, H0.out.bel.drew⟩ ?_
  simp only [List.take_succ_cons, List.take_zero, List.drop_succ_cons, List.drop_zero]
  repeat (first
    | go_big_quiet_skip
    | (go_big_quiet_want
       first
         | (refine quiet_call10 (.string t0) 57 #[.int .u64 (n : Int), .int .i64 4] ?_ ?_ ?_; (focus (intro W hW; go_simp; done)); (focus (intro W hW; exact HFN.out W hW)); go_big_quiet_on; simp only [Act.put, List.setIfInBounds_toArray, List.set_cons_zero, List.set_cons_succ])
         | (refine quiet_val10 (.slice (some ⟨w.heap.size, 0, none⟩) 32 32) ?_ ?_; (focus (intro W hW; have hq := hs32 W; go_simp; done)); go_big_quiet_on; simp only [Act.put, List.setIfInBounds_toArray, List.set_cons_zero, List.set_cons_succ])
         | (refine quiet_val10 (.string s) ?_ ?_; (focus (intro W hW; have hq := HC.out W hW; go_simp; done)); go_big_quiet_on; simp only [Act.put, List.setIfInBounds_toArray, List.set_cons_zero, List.set_cons_succ])
         | (refine quiet_add _ _ _ _ rfl ⟨#[109, 105, 120, 49]⟩ s M1 rfl rfl HM1.out (by show (4 : Nat) + s.size ≤ _; omega) ?_; go_big_quiet_on; simp only [Act.put, List.setIfInBounds_toArray, List.set_cons_zero, List.set_cons_succ])
         | (refine quiet_add _ _ _ _ rfl M1 t0 M2 rfl rfl HM2.out (by omega) ?_; go_big_quiet_on; simp only [Act.put, List.setIfInBounds_toArray, List.set_cons_zero, List.set_cons_succ])
         | (refine quiet_val10 (.int .i64 (n : Int)) ?_ ?_; (focus (intro W hW; go_simp; done)); go_big_quiet_on; simp only [Act.put, List.setIfInBounds_toArray, List.set_cons_zero, List.set_cons_succ])
         | (refine quiet_val10 (.int .u64 (n : Int)) ?_ ?_; (focus (intro W hW; go_simp; done)); go_big_quiet_on; simp only [Act.put, List.setIfInBounds_toArray, List.set_cons_zero, List.set_cons_succ])
         | (go_big_quiet_op; go_big_quiet_on)))
  refine wpQuiet_nil ?_
  intro w9 hw9
  obtain ⟨v9, W9, cv, cb, cf⟩ := Fre.of_conv M2 w9 (by omega)
  rw [bcl_str, HB2.out] at cf
  have H9 : Hid (Fre W9 w9.heap.size v9 (bcl (hd0 s n ++ fanT l 0)) ∧ Below w9.heap.size w9 W9 ∧ XeL w9 a l ∧ Below w.heap.size w w9) := ⟨by rw [show fanT l 0 = [] from rfl, List.append_nil]; exact cf, cb, HX.out.below hw9.bel, hw9.bel⟩
  clear cf cb hw9 H0 HC HFN
  go_wp2
  go_loopw [5, 6] (fun v t wr => ∃ b : Nat, b ≤ 256 ∧ t = .int .i64 b ∧ Hid (Fre wr w9.heap.size v (bcl (hd0 s n ++ fanT l b)) ∧ Below w9.heap.size w9 wr)) (fun _ t _ => 256 - (intOf t).toNat)
  case atStart => exact ⟨0, by omega, rfl, H9.out.1, H9.out.2.1⟩
  case round =>
    obtain ⟨b, hb, rfl, HR⟩ := hrel
    by_cases hlt : b < 256
    · have hbz : (b : Int) < 256 := by omega
      go_wp2
      go_loopw [7, 8] (fun v t W => ∃ i N : Nat, i ≤ n ∧ t = .int .i64 i ∧ v = .int .i64 N ∧ N ≤ i ∧ Hid (fanL (l.take i) b = N) ∧ W = wr) (fun _ t _ => n - (intOf t).toNat)
      case atStart => exact ⟨0, 0, by omega, rfl, rfl, by omega, rfl, rfl⟩
      case round =>
        obtain ⟨i, N, hi, rfl, rfl, hN, HN, rfl⟩ := hrel
        by_cases hin : i < n
        · have hiz : (i : Int) < (n : Int) := by omega
          obtain ⟨e, he⟩ : ∃ e, l[i]? = some e := ⟨_, List.getElem?_eq_getElem (by rw [HLN.out]; exact hin)⟩
          have HC1 : Hid _ := cnt_next l b i e he
          obtain ⟨hid, ge, oe, ea, hge, hce⟩ := (H9.out.2.2.1.below HR.out.2) i e he
          have c0 := hce 0 _ (xeC_id e hid 0 _ (idc_get e.id 0 (by omega)))
          rw [Nat.add_zero] at c0
          have hf8 : (e.id[0]'(by omega)).toNat = fst8 e := by
            unfold fst8 bl
            have : e.id.data.toList.headD 0 = e.id[0]'(by omega) := by
              rw [List.headD_eq_head?_getD, List.head?_eq_getElem?, List.getElem?_eq_getElem (by rw [Array.length_toList]; show 0 < e.id.size; omega)]
              rfl
            rw [this]
          rw [hf8] at c0
          have h256 := fst8_lt e
          obtain ⟨F, hF⟩ : ∃ F, fst8 e = F := ⟨_, rfl⟩
          rw [hF] at c0 h256 HC1
          subst ea
          clear hf8 hF he hce
          by_cases hFb : F ≤ b
          · have hFz : (F : Int) ≤ (b : Int) := by omega
            have HN2 : Hid (fanL (l.take (i + 1)) b = N + 1) := by show _ = _; rw [HC1.out, HN.out, if_pos hFb]
            clear HC1 HN hFb
            go_wp2
            go_roundw
            case rel => exact ⟨i + 1, N + 1, by omega, by go_num, by go_num, by omega, HN2.out, trivial⟩
            case measure => simp [intOf]; omega
          · have hFz : ¬ (F : Int) ≤ (b : Int) := by omega
            have HN2 : Hid (fanL (l.take (i + 1)) b = N) := by show _ = _; rw [HC1.out, HN.out, if_neg hFb]; rfl
            clear HC1 HN hFb
            go_wp2
            go_roundw
            case rel => exact ⟨i + 1, N, by omega, by go_num, by go_num, by omega, HN2.out, trivial⟩
            case measure => simp [intOf]; omega
        · have hiz : ¬ (i : Int) < (n : Int) := by omega
          have HF : Hid (fanL l b = N) := by
            have h := HN.out
            rw [show i = l.length from by rw [HLN.out]; omega, List.take_length] at h
            exact h
          have hN32 : N ≤ 65536 := by omega
          obtain ⟨t1, zt1, ht1, FN1⟩ := FX.out N (by omega)
          have HFN : Hid (∀ W, Calls Tryz.prog 57 #[.int .u64 (N : Int), .int .i64 4] W fun e w' => e = .returned (.string t1) ∧ Below W.heap.size W w') := FN1
          have HT1 : Hid (Lib.strCells t1 = bcl (f4 N)) := by show _ = _; rw [bcl_str, ht1]
          have wN : IntKind.u64.wrap (N : Int) = (N : Int) := by rw [IntKind.wrap_u64]; omega
          have zl : (bcl (hd0 s n ++ fanT l b)).length ≤ 2000 := by rw [bcl_len, List.length_append, zh, fanT_len]; omega
          clear FN1 ht1 HN
          go_wp2_with fail
          refine (HFN.out _).mono ?_
          rintro e w2 ⟨rfl, b2⟩
          have HR2 : Hid (Fre w2 w9.heap.size u5 (bcl (hd0 s n ++ fanT l b)) ∧ Below w9.heap.size w9 w2) := ⟨HR.out.1.kept (gr_of_below b2 none) (fun k hk => by cases hk), HR.out.2.trans (b2.mono HR.out.2.size)⟩
          have hz2 : w9.heap.size ≤ w2.heap.size := HR2.out.2.size
          clear b2 HR
          go_wp2_with (at_builtin; refine wpList_free_text rfl _ _ rfl w9.heap.size u5 _ rfl HR2.out.1 hz2 t1 rfl (by omega) (by omega) ?_)
          intro v3 w3 hf3 hg3 hk3
          have HR3 : Hid (Fre w3 w9.heap.size v3 (bcl (hd0 s n ++ fanT l (b + 1))) ∧ Below w9.heap.size w9 w3) := by
            refine ⟨?_, HR2.out.2.grown hg3 hz2 hk3⟩
            rw [fanT_succ, HF.out, ← List.append_assoc, bcl_append, ← HT1.out]; exact hf3
          clear hf3 hg3 hk3 HR2
          go_wp2
          go_roundw
          case rel => exact ⟨b + 1, by omega, by go_num, HR3.out⟩
          case measure => simp [intOf]; omega
    · have hbz : ¬ (b : Int) < 256 := by omega
      have HR0 : Hid (Fre wr w9.heap.size u5 (bcl (hd0 s n ++ (fanT l 256 ++ ensB (l.take 0)))) ∧ Below w9.heap.size w9 wr) := by
        have h := HR.out
        rw [show b = 256 from by omega] at h
        exact ⟨by rw [List.take_zero, show ensB [] = [] from rfl, List.append_nil]; exact h.1, h.2⟩
      clear HR hlt
      go_wp2
      go_loopw [5, 9] (fun v t wr => ∃ i : Nat, i ≤ n ∧ t = .int .i64 i ∧ Hid (Fre wr w9.heap.size v (bcl (hd0 s n ++ (fanT l 256 ++ ensB (l.take i)))) ∧ Below w9.heap.size w9 wr)) (fun _ t _ => n - (intOf t).toNat)
      case atStart => exact ⟨0, by omega, rfl, HR0.out⟩
      case round =>
        clear HR0
        obtain ⟨i, hi, rfl, HR⟩ := hrel
        by_cases hin : i < n
        · have hiz : (i : Int) < (n : Int) := by omega
          obtain ⟨e, he⟩ : ∃ e, l[i]? = some e := ⟨_, List.getElem?_eq_getElem (by rw [HLN.out]; exact hin)⟩
          have HEN : Hid _ := ens_next l i e he
          obtain ⟨o1, o2, o3, o4⟩ := HO.out e (List.mem_of_getElem? he)
          obtain ⟨O, hO⟩ : ∃ O : Nat, e.off = (O : Int) := ⟨e.off.toNat, by omega⟩
          obtain ⟨Z, hZ⟩ : ∃ O : Nat, e.sz = (O : Int) := ⟨e.sz.toNat, by omega⟩
          have HEB : Hid (enB e = bl e.id ++ ([e.k] ++ (f4 O ++ f4 Z))) := by show _ = _; rw [enB, hO, hZ]; rfl
          obtain ⟨t2, zt2, ht2, F2⟩ := FX.out O (by omega)
          obtain ⟨t3, zt3, ht3, F3⟩ := FX.out Z (by omega)
          obtain ⟨hid, ge, oe, ea, hge, hce⟩ := H9.out.2.2.1 i e he
          have HCE : Hid (∀ W, Below w9.heap.size w9 W → (∀ j v, (idc e.id)[j]? = some v → W.cell? ⟨ge, oe + i * 35 + j, none⟩ = some v) ∧ W.cell? ⟨ge, oe + i * 35 + 32, none⟩ = some (.int .u8 (e.k.toNat : Int)) ∧ W.cell? ⟨ge, oe + i * 35 + 33, none⟩ = some (.int .i64 (O : Int)) ∧ W.cell? ⟨ge, oe + i * 35 + 34, none⟩ = some (.int .i64 (Z : Int))) := by
            intro W hW
            have k : ∀ j v, (xeC e)[j]? = some v → W.cell? ⟨ge, oe + i * 35 + j, none⟩ = some v := fun j v hv => by rw [hW.cell (p := ⟨ge, oe + i * 35 + j, none⟩) hge]; exact hce j v hv
            have q := xeC_at e hid
            rw [hO, hZ] at q
            exact ⟨fun j v hv => k j v (by have := xeC_id e hid j v hv; rwa [Nat.zero_add] at this), k 32 _ q.1, k 33 _ q.2.1, k 34 _ q.2.2⟩
          have hsl := slice32o ge (oe + i * 35)
          have zb : (bcl (hd0 s n ++ (fanT l 256 ++ ensB (l.take i)))).length ≤ 10000000 := by
            have := ens_len (l.take i) (fun e he => H9.out.2.2.1.ids e (List.mem_of_mem_take he))
            rw [bcl_len, List.length_append, List.length_append, zh, fanT_len, this, List.length_take]; omega
          have hz0 : w9.heap.size ≤ wr.heap.size := HR.out.2.size
          have HS32 : Hid ((idc e.id).toList.length = 32 ∧ (idc e.id).toList = bcl (bl e.id)) := ⟨by rw [Array.length_toList, idc_size, hid], idc_bcl _⟩
          subst ea
          have HNW : Hid (∀ (j : Nat) (u : Value), (idc e.id).toList[j]? = some u → wr.cell? ((⟨ge, oe + i * 35, none⟩ : Addr).add j) = some u) := fun j u hu => by
            rw [WideShapes.add_plain]
            exact (HCE.out wr HR.out.2).1 j u (by rwa [Array.getElem?_toList] at hu)
          have HF2 : Hid (∀ W, Calls Tryz.prog 57 #[.int .u64 (O : Int), .int .i64 4] W fun e w' => e = .returned (.string t2) ∧ Below W.heap.size W w') := F2
          have HF3 : Hid (∀ W, Calls Tryz.prog 57 #[.int .u64 (Z : Int), .int .i64 4] W fun e w' => e = .returned (.string t3) ∧ Below W.heap.size W w') := F3
          obtain ⟨t4, ht4⟩ : ∃ t4, t2 ++ t3 = t4 := ⟨_, rfl⟩
          have zt4 : t4.size = 8 := by rw [← ht4, ByteArray.size_append, zt2, zt3]
          have HT4 : Hid (t2 ++ t3 = t4 ∧ Lib.strCells t4 = bcl (f4 O ++ f4 Z)) := ⟨ht4, by rw [bcl_str, ← ht4, bl_append, ht2, ht3]⟩
          obtain ⟨X, hX⟩ : ∃ X, hd0 s n ++ (fanT l 256 ++ ensB (l.take i)) = X := ⟨_, rfl⟩
          rw [hX] at zb HR
          have HXN : Hid (hd0 s n ++ (fanT l 256 ++ ensB (l.take (i + 1))) = X ++ bl e.id ++ [e.k] ++ (f4 O ++ f4 Z)) := by show _ = _; rw [HEN.out, HEB.out, ← hX]; simp
          rw [bcl_len] at zb
          have zid : (bl e.id).length = 32 := by rw [bl_length, hid]
          obtain ⟨kk, hkk⟩ : ∃ kk, e.k.toNat = kk := ⟨_, rfl⟩
          have HKK : Hid (bcl [e.k] = [.int .u8 (kk : Int)]) := by show _ = _; rw [← hkk]; rfl
          have hk256 : kk < 256 := by rw [← hkk]; exact UInt8.toNat_lt _
          rw [hkk] at HCE
          have wO : IntKind.u64.wrap (O : Int) = (O : Int) := by rw [IntKind.wrap_u64]; omega
          have wZ : IntKind.u64.wrap (Z : Int) = (Z : Int) := by rw [IntKind.wrap_u64]; omega
          clear he hce hO hZ o1 o2 o3 o4 ht2 ht3 F2 F3 ht4 hX hkk HEN HEB
          go_wp2_with (at_builtin; refine wpList_free_row rfl _ _ rfl w9.heap.size u5 _ rfl HR.out.1 hz0 ⟨ge, oe + i * 35, none⟩ 32 32 (idc e.id).toList rfl HS32.out.1 HNW.out (idc_oneX e.id) (by omega) (by rw [bcl_len]; omega) ?_)
          intro v2 w2 hf2 hg2 hk2
          have HR2 : Hid (Fre w2 w9.heap.size v2 (bcl (X ++ bl e.id)) ∧ Below w9.heap.size w9 w2) := by
            refine ⟨?_, HR.out.2.grown hg2 hz0 hk2⟩
            rw [bcl_append, ← HS32.out.2]; exact hf2
          have hz2 : w9.heap.size ≤ w2.heap.size := HR2.out.2.size
          have c32 := (HCE.out w2 HR2.out.2).2.1
          have HN2 : Hid (Fre (w2.alloc (.cells #[.int .u8 (kk : Int)] 5)) w9.heap.size v2 (bcl (X ++ bl e.id)) ∧ (w2.alloc (.cells #[.int .u8 (kk : Int)] 5)).cell? ⟨w2.heap.size, 0, none⟩ = some (.int .u8 (kk : Int)) ∧ w9.heap.size ≤ (w2.alloc (.cells #[.int .u8 (kk : Int)] 5)).heap.size) := ⟨HR2.out.1.kept (World.grownBy_alloc _ _ none) (fun k hk => by cases hk), by rw [(bk_new _ _ _).cell]; rfl, by rw [al_size]; omega⟩
          clear hf2 hg2 hk2 HR HNW
          go_wp2_with (at_builtin; refine wpList_free_byte rfl _ _ rfl w9.heap.size v2 _ rfl HN2.out.1 HN2.out.2.2 ⟨w2.heap.size, 0, none⟩ 1 (kk : Int) rfl HN2.out.2.1 (by rw [bcl_len, List.length_append]; omega) ?_)
          intro v3 w3 hf3 hg3 hk3
          have HR3 : Hid (LfS w9 v3 (X ++ bl e.id ++ [e.k]) w3) := by
            refine ⟨?_, (HR2.out.2.alloc hz2 _).grown hg3 HN2.out.2.2 hk3⟩
            rw [bcl_append, HKK.out]; exact hf3
          clear hf3 hg3 hk3 HR2 HN2 c32
          have C2 : Hid (∀ W, LfS w9 v3 (X ++ bl e.id ++ [e.k]) W → Calls Tryz.prog 57 #[.int .u64 (O : Int), .int .i64 4] W fun e' w' => e' = .returned (.string t2) ∧ LfS w9 v3 (X ++ bl e.id ++ [e.k]) w') := fun W hW => (HF2.out W).mono fun e' w' q => ⟨q.1, hW.below q.2⟩
          have C3 : Hid (∀ W, LfS w9 v3 (X ++ bl e.id ++ [e.k]) W → Calls Tryz.prog 57 #[.int .u64 (Z : Int), .int .i64 4] W fun e' w' => e' = .returned (.string t3) ∧ LfS w9 v3 (X ++ bl e.id ++ [e.k]) w') := fun W hW => (HF3.out W).mono fun e' w' q => ⟨q.1, hW.below q.2⟩
          go_wp2_with fail
          refine wp_region_tail (LfS w9 v3 (X ++ bl e.id ++ [e.k])) 16 (by kernel_rfl) (by kernel_rfl) (HR3.out.below (Below.refl _ _).drew) ?_
          simp only [List.take_succ_cons, List.take_zero, List.drop_succ_cons, List.drop_zero]
          repeat (first
            | go_big_quiet_skip
            | (go_big_quiet_want
               first
                 | (refine quiet_one 3 _ rfl ge (oe + i * 35 + 33) (.int .i64 (O : Int)) rfl (fun _ => by kernel_rfl) (fun W hW => (HCE.out W hW.bel).2.2.1) ?_; go_big_quiet_on; simp only [Act.put, List.setIfInBounds_toArray, List.set_cons_zero, List.set_cons_succ])
                 | (refine quiet_one 3 _ rfl ge (oe + i * 35 + 34) (.int .i64 (Z : Int)) rfl (fun _ => by kernel_rfl) (fun W hW => (HCE.out W hW.bel).2.2.2) ?_; go_big_quiet_on; simp only [Act.put, List.setIfInBounds_toArray, List.set_cons_zero, List.set_cons_succ])
                 | (refine quiet_call10 (.string t2) 57 #[.int .u64 (O : Int), .int .i64 4] ?_ ?_ ?_; (focus (intro W hW; go_simp; done)); (focus (intro W hW; exact C2.out W hW)); go_big_quiet_on; simp only [Act.put, List.setIfInBounds_toArray, List.set_cons_zero, List.set_cons_succ])
                 | (refine quiet_call10 (.string t3) 57 #[.int .u64 (Z : Int), .int .i64 4] ?_ ?_ ?_; (focus (intro W hW; go_simp; done)); (focus (intro W hW; exact C3.out W hW)); go_big_quiet_on; simp only [Act.put, List.setIfInBounds_toArray, List.set_cons_zero, List.set_cons_succ])
                 | (refine quiet_add _ _ _ _ rfl t2 t3 t4 rfl rfl HT4.out.1 (by omega) ?_; go_big_quiet_on; simp only [Act.put, List.setIfInBounds_toArray, List.set_cons_zero, List.set_cons_succ])
                 | (refine quiet_val10 (.int .u64 (O : Int)) ?_ ?_; (focus (intro W hW; go_simp; done)); go_big_quiet_on; simp only [Act.put, List.setIfInBounds_toArray, List.set_cons_zero, List.set_cons_succ])
                 | (refine quiet_val10 (.int .u64 (Z : Int)) ?_ ?_; (focus (intro W hW; go_simp; done)); go_big_quiet_on; simp only [Act.put, List.setIfInBounds_toArray, List.set_cons_zero, List.set_cons_succ])
                 | (go_big_quiet_op; go_big_quiet_on)
                 | (refine quiet_val10 (.pointer (some ⟨ge, oe + i * 35, none⟩)) ?_ ?_; (focus (intro W hW; go_simp; done)); go_big_quiet_on; simp only [Act.put, List.setIfInBounds_toArray, List.set_cons_zero, List.set_cons_succ])
                 | (refine quiet_val10 (.pointer (some ⟨ge, oe + i * 35 + 33, none⟩)) ?_ ?_; (focus (intro W hW; go_simp; done)); go_big_quiet_on; simp only [Act.put, List.setIfInBounds_toArray, List.set_cons_zero, List.set_cons_succ])
                 | (refine quiet_val10 (.pointer (some ⟨ge, oe + i * 35 + 34, none⟩)) ?_ ?_; (focus (intro W hW; go_simp; done)); go_big_quiet_on; simp only [Act.put, List.setIfInBounds_toArray, List.set_cons_zero, List.set_cons_succ])))
          refine wpQuiet_nil ?_
          intro w4 hw4
          have HR4 : Hid (LfS w9 v3 (X ++ bl e.id ++ [e.k]) w4) := hw4
          have hz4 : w9.heap.size ≤ w4.heap.size := hw4.bel.size
          clear hw4 HR3 C2 C3
          go_wp2_with (at_builtin; refine wpList_free_text rfl _ _ rfl w9.heap.size v3 _ rfl HR4.out.row hz4 t4 rfl (by omega) (by rw [bcl_len, List.length_append, List.length_append]; simp only [List.length_cons, List.length_nil]; omega) ?_)
          intro v5 w5 hf5 hg5 hk5
          have HR5 : Hid (Fre w5 w9.heap.size v5 (bcl (hd0 s n ++ (fanT l 256 ++ ensB (l.take (i + 1))))) ∧ Below w9.heap.size w9 w5) := by
            refine ⟨?_, HR4.out.bel.grown hg5 hz4 hk5⟩
            rw [HXN.out, bcl_append (X ++ bl e.id ++ [e.k]), ← HT4.out.2, List.append_assoc X]; exact hf5
          clear hf5 hg5 hk5 HR4
          go_wp2
          go_roundw
          case rel => exact ⟨i + 1, by omega, by go_num, HR5.out⟩
          case measure => simp [intOf]; omega
        · have hiz : ¬ (i : Int) < (n : Int) := by omega
          have HE : Hid (Fre wr w9.heap.size u5 (bcl (ixB s l))) := by
            have h := HR.out.1
            rw [show i = l.length from by rw [HLN.out]; omega, List.take_length, ← HLN.out, ← ix_eq] at h
            exact h
          have hcv := fre_str HE.out
          have HB : Hid (Below w.heap.size w wr) := H9.out.2.2.2.trans (HR.out.2.mono H9.out.2.2.2.size)
          clear HR
          go_wp2
          go_ret
          exact ⟨rfl, HB.out⟩
end Go.Proofs.YtbfoiocbmhhdbaaGreat
/- The document's Build: the names met so far; what it tells. -/
namespace Go.Proofs.YtbfoiocbmhhdbaaGreat
open Go.RowKit
set_option linter.unusedSimpArgs false
set_option linter.unusedVariables false
def isIx (v : Value) : Prop := ∃ n : Int, v = .int .i64 n
/-- How the document's looking stands. -/
structure BXr (w : World) (m : Nat) (D : Array Value) (d : List Xe) (wr : World) : Prop where
  st : St isIx wr m (d.map (fun e : Xe => e.id))
  bel : Below w.heap.size w wr
  bx : Bk wr w.heap.size D 48
  mlb : w.heap.size < m
theorem BXr.keep {w wr w' : World} {m : Nat} {D : Array Value} {d : List Xe} (h : BXr w m D d wr) (hb : Below wr.heap.size wr w') : BXr w m D d w' :=
  ⟨h.st.below hb, h.bel.trans (hb.mono h.bel.size), h.bx.below hb h.bx.lt, h.mlb⟩
theorem zero_int13 (w : World) : (zeroValue 3).run Tryz.prog w = .ok (.int .i64 0) w := by kernel_rfl
theorem BXr.look {w wr : World} {m : Nat} {D : Array Value} {d : List Xe} (h : BXr w m D d wr) (x : ByteArray) (hx : x.size = 32) : ∃ n : Int, (Instr.lookup 46 (.map (some m)) (.agg (idc x)) true).run Tryz.prog wr = .ok (.tuple #[.int .i64 n, .bool (hasX d x)]) wr := by
  obtain ⟨v, h1, n, rfl⟩ := h.st.look Tryz.underlying46 (zero_int13 _) ⟨0, rfl⟩ x hx
  exact ⟨n, h1⟩
theorem BXr.put {w wr : World} {m : Nat} {D : Array Value} {d : List Xe} (h : BXr w m D d wr) (hn : d.length < 1048576) (e : Xe) (hx : e.id.size = 32) (n : Int) :
    ∃ w', (Instr.mapUpdate 46 (.map (some m)) (.agg (idc e.id)) (.int .i64 n)).run Tryz.prog wr = .ok () w' ∧ BXr w m D (d ++ [e]) w' := by
  obtain ⟨w', h1, h2, h3⟩ := h.st.put Tryz.underlying46 (by rw [List.length_map]; exact hn) e.id hx (.int .i64 n) ⟨n, rfl⟩
  obtain ⟨es, c, hm⟩ := h.st.isMap
  refine ⟨w', h1, by rw [List.map_append]; exact h2, below_own h.bel h.bel.size h3 (Nat.le_of_lt h.mlb), h.bx.grown h3 (fun q => ?_), h.mlb⟩
  injection q with q
  have hb' : wr.heap[w.heap.size]? = some (.cells D 48 (0, 0)) := h.bx
  rw [← q, hm] at hb'
  cases hb'
theorem BXr.new (w : World) (D : Array Value) : BXr w (w.heap.size + 1) D [] ((w.alloc (.cells D 48)).alloc (.map #[] 0)) := by
  have h := St.made isIx (w.alloc (.cells D 48))
  rw [al_size] at h
  exact ⟨h, ((Below.refl _ _).alloc (Nat.le_refl _) _).alloc (by simp) _, (bk_new _ _ _).alloc _, by omega⟩
/-- One rising order of the same entries. -/
theorem perm_one {L L' l : List Xe} (p : L.Perm l) (p' : L'.Perm l) (h : OkL L) (h' : OkL L') : L = L' := rise_one (p.trans p'.symm) h.ri h'.ri
end Go.Proofs.YtbfoiocbmhhdbaaGreat
/- The document's may: may an entry be indexed? -/
namespace Go.Proofs.YtbfoiocbmhhdbaaGreat
open Go.RowKit
set_option linter.unusedSimpArgs false
set_option linter.unusedVariables false
set_option maxHeartbeats 4000000 in
set_option maxRecDepth 100000 in
theorem rmay_any (e : Xe) (w : World) (h : e.id.size = 32) : Calls Tryz.prog 85 #[.agg (xeC e)] w fun r w' => r = .returned (.bool (okX e)) ∧ w' = w.alloc (.cells (xeC e) 91) := by
  obtain ⟨c1, c2, c3⟩ := xeC_at e h
  have hb := bk_new w (xeC e) 91
  have k1 : (w.alloc (.cells (xeC e) 91)).cell? ⟨w.heap.size, 32, none⟩ = some (.int .u8 (e.k.toNat : Int)) := by rw [hb.cell]; exact c1
  have k2 : (w.alloc (.cells (xeC e) 91)).cell? ⟨w.heap.size, 33, none⟩ = some (.int .i64 e.off) := by rw [hb.cell]; exact c2
  have k3 : (w.alloc (.cells (xeC e) 91)).cell? ⟨w.heap.size, 34, none⟩ = some (.int .i64 e.sz) := by rw [hb.cell]; exact c3
  clear hb c1 c2 c3
  have HE := okX_eq e
  obtain ⟨r, hr⟩ : ∃ r, okX e = r := ⟨_, rfl⟩
  rw [hr] at HE ⊢
  obtain ⟨C, hC⟩ : ∃ C, xeC e = C := ⟨_, rfl⟩
  rw [hC] at k1 k2 k3 ⊢
  obtain ⟨ei, ek, eo, ez⟩ := e
  simp only at k1 k2 k3 HE
  obtain ⟨K, hK⟩ : ∃ K : Int, (ek.toNat : Int) = K := ⟨_, rfl⟩
  rw [hK] at k1 HE
  have HH : Hid (∀ (q : Bool), (q = true ↔ 1 ≤ K ∧ K ≤ 5 ∧ 4 ≤ eo ∧ eo ≤ 67108864 ∧ 0 ≤ ez ∧ ez ≤ 2097152) → q = r) := HE
  clear HE hr hC h hK
  by_cases g1 : 1 ≤ K
  · by_cases g2 : K ≤ 5
    · by_cases g3 : 4 ≤ eo
      · by_cases g4 : eo ≤ 67108864
        · by_cases g5 : 0 ≤ ez
          · go_enter Tryz.func85, Tryz.ntmps85
            go_wp2
            go_ret
            exact ⟨retBX (HH.out _ (by simp [g1, g2, g3, g4, g5] <;> omega)), rfl⟩
          · go_enter Tryz.func85, Tryz.ntmps85
            go_wp2
            go_ret
            exact ⟨retBX (HH.out _ (by simp [g1, g2, g3, g4, g5] <;> omega)), rfl⟩
        · go_enter Tryz.func85, Tryz.ntmps85
          go_wp2
          go_ret
          exact ⟨retBX (HH.out _ (by simp [g1, g2, g3, g4] <;> omega)), rfl⟩
      · go_enter Tryz.func85, Tryz.ntmps85
        go_wp2
        go_ret
        exact ⟨retBX (HH.out _ (by simp [g1, g2, g3] <;> omega)), rfl⟩
    · go_enter Tryz.func85, Tryz.ntmps85
      go_wp2
      go_ret
      exact ⟨retBX (HH.out _ (by simp [g1, g2] <;> omega)), rfl⟩
  · go_enter Tryz.func85, Tryz.ntmps85
    go_wp2
    go_ret
    exact ⟨retBX (HH.out _ (by simp [g1] <;> omega)), rfl⟩
end Go.Proofs.YtbfoiocbmhhdbaaGreat
/- The document's Build. -/
namespace Go.Proofs.YtbfoiocbmhhdbaaGreat
open Go.RowKit
set_option linter.unusedSimpArgs false
set_option linter.unusedVariables false
/-- What Build tells. -/
def BdR (s : ByteArray) (l : List Xe) (R : ByteArray) : Prop := (bE l ≠ 0 → R = ⟨#[]⟩) ∧ (bE l = 0 → ∃ L, L.Perm l ∧ OkL L ∧ R = ⟨(ixB s L).toArray⟩)
theorem ret_seR {a : ByteArray} {e e' : Int} (h : e' = e) : Ending.returned (.tuple #[.string a, .int .i64 e]) = .returned (.tuple #[.string a, .int .i64 e']) := by rw [h]
theorem BdR.no {s : ByteArray} {l : List Xe} (h : bE l ≠ 0) : BdR s l ⟨#[]⟩ := ⟨fun _ => rfl, fun q => absurd q h⟩
theorem inf_id32 (x : ByteArray) (h : x.size = 32) : (Tryz.prog.info? 48).map (·.size) = some (idc x).toList.length := by rw [Array.length_toList]; exact info_32 (by rw [idc_size, h])
theorem inf_xrL (e : Xe) (h : e.id.size = 32) : (Tryz.prog.info? 91).map (·.size) = some (xeC e).toList.length := by rw [Array.length_toList, xeC_size e h]; exact inf_xr35
set_option maxHeartbeats 4000000 in
set_option maxRecDepth 100000 in
theorem rbuild13 (s : ByteArray) (l : List Xe) (a : Option Addr) (n c : Nat) (w : World) (hs : s.size = 32) (hX : XeL w a l) (hl : l.length = n) (hA : (a = none ∧ c = 0) ∨ ∃ g o, a = some ⟨g, o, none⟩) (hc : n ≤ c) (hn : n ≤ 4611686018427387904) :
    Calls Tryz.prog 36 #[.agg (idc s), .slice a n c] w fun e w' => ∃ R, e = .returned (.tuple #[.string R, .int .i64 (bE l)]) ∧ BdR s l R ∧ Below w.heap.size w w' := by
  have HX : Hid (XeL w a l) := hX
  have HN : Hid (l.length = n) := hl
  have HSZ : Hid (s.size = 32 ∧ n ≤ c) := ⟨hs, hc⟩
  have HAA : Hid ((a = none ∧ c = 0) ∨ ∃ g o, a = some ⟨g, o, none⟩) := hA
  have hmm := @run_makeMap Tryz.prog
  obtain ⟨D, hD⟩ : ∃ D, idc s = D := ⟨_, rfl⟩
  have HD : Hid (idc s = D) := hD
  have HS0 : Hid _ := BXr.new w D
  rw [hD]
  have HNB : Hid (n ≤ 4611686018427387904) := hn
  clear hX hl hs hD hA hc hn
  go_enter Tryz.func36, Tryz.ntmps36
  go_wp2
  go_loopw [7] (fun v wr => ∃ k : Nat, v = .int .i64 k ∧ k ≤ n ∧ Hid (BXr w (w.heap.size + 1) D (l.take k) wr ∧ bE l = xbE (l.take k) (l.drop k) ∧ GdX (l.take k))) (fun v _ => n - (intOf v).toNat)
  case atStart => exact ⟨0, rfl, Nat.zero_le _, HS0.out, rfl, by rw [List.take_zero]; exact GdX.nil⟩
  case round =>
    clear HS0 hmm
    obtain ⟨k, rfl, hk, HR⟩ := hrel
    by_cases hlt : k < n
    · have hkz : (k : Int) < (n : Int) := by omega
      obtain ⟨e, he⟩ : ∃ e, l[k]? = some e := ⟨_, List.getElem?_eq_getElem (by rw [HN.out]; exact hlt)⟩
      have HST : Hid _ := xbE_step l k e he
      have HT1 : Hid (l.take (k + 1) = l.take k ++ [e]) := by show _ = _; rw [List.take_add_one, he]; rfl
      have HKL : Hid (k ≤ 65536) := by have := HR.out.2.2.len; rw [List.length_take, HN.out] at this; show k ≤ 65536; omega
      have hk7 : k ≤ 70000 := by have := HKL.out; omega
      have HLK : Hid ((l.take k).length = k) := by show _ = _; rw [List.length_take, HN.out]; omega
      obtain ⟨hid, ge, oe, ea, hge, hce⟩ := HX.out k e he
      have HCE : Hid (∀ W, Below w.heap.size w W → ∀ j v, (xeC e).toList[j]? = some v → W.cell? ⟨ge, oe + k * 35 + j, none⟩ = some v) := fun W hW j v hv => by rw [hW.cell (p := ⟨ge, oe + k * 35 + j, none⟩) hge]; exact hce j v (by rwa [Array.getElem?_toList] at hv)
      have HCI : Hid (∀ W, Below w.heap.size w W → ∀ j v, (idc e.id).toList[j]? = some v → W.cell? ⟨ge, oe + k * 35 + j, none⟩ = some v) := fun W hW j v hv => HCE.out W hW j v (by rw [Array.getElem?_toList] at hv ⊢; have := xeC_id e hid j v hv; rwa [Nat.zero_add] at this)
      have HID : Hid (e.id.size = 32) := hid
      have I35 := inf_xrL e hid
      have I32 := inf_id32 e.id hid
      subst ea
      clear he hce hid
      go_wp2_with (first
        | (refine wpList_load_mid rfl 91 (.tmp 19) rfl ge (oe + k * 35) rfl (xeC e).toList _ (HCE.out _ HR.out.1.bel) Tryz.underlying91 rfl I35 ?_)
        | fail)
      refine (rmay_any e _ HID.out).mono ?_
      rintro r w2 ⟨rfl, hw2⟩
      have HR2 : Hid (BXr w (w.heap.size + 1) D (l.take k) w2) := by
        show BXr _ _ _ _ _
        rw [hw2]
        exact HR.out.1.keep ((Below.refl _ _).alloc (Nat.le_refl _) _)
      clear hw2
      cases hok : okX e with
      | false =>
        have HE : Hid (bE l = 1) := by show _ = _; rw [HR.out.2.1, HST.out, if_pos (.inl hok)]
        clear hok
        go_wp2
        go_ret2
        exact ⟨_, ret_seR HE.out, BdR.no (by rw [HE.out]; decide), HR2.out.bel⟩
      | true =>
        by_cases hmax : k = 65536
        · have hmz : (65536 : Int) ≤ (k : Int) := by omega
          have HE : Hid (bE l = 1) := by show _ = _; rw [HR.out.2.1, HST.out, if_pos (.inr hmax)]
          clear hmax hok
          go_wp2
          go_ret2
          exact ⟨_, ret_seR HE.out, BdR.no (by rw [HE.out]; decide), HR2.out.bel⟩
        · have hdz : decide ((65536 : Int) ≤ (k : Int)) = false := decide_eq_false (by have := HKL.out; omega)
          have HMX : Hid (¬ (okX e = false ∨ k = 65536)) := by rintro (q | q); rw [hok] at q; cases q; exact hmax q
          obtain ⟨nn, hlk⟩ := HR2.out.look e.id HID.out
          clear hmax hok
          cases hhas : hasX (l.take k) e.id with
          | true =>
            have HE : Hid (bE l = 7) := by show _ = _; rw [HR.out.2.1, HST.out, if_neg HMX.out, if_pos hhas]
            rw [hhas] at hlk
            obtain ⟨D2, hD2⟩ : ∃ D2, idc e.id = D2 := ⟨_, rfl⟩
            rw [hD2] at hlk I32 HCI
            clear hhas hD2
            go_wp2_with (first
              | (refine wpList_load_mid rfl 48 (.tmp 32) rfl ge (oe + k * 35) rfl D2.toList _ (HCI.out _ HR2.out.bel) Tryz.underlying48 rfl I32 ?_)
              | fail)
            go_ret2
            exact ⟨_, ret_seR HE.out, BdR.no (by rw [HE.out]; decide), HR2.out.bel⟩
          | false =>
            have HE : Hid (bE l = xbE (l.take (k + 1)) (l.drop (k + 1))) := by show _ = _; rw [HR.out.2.1, HST.out, if_neg HMX.out, if_neg (by rw [hhas]; simp)]
            have HG : Hid (GdX (l.take (k + 1))) := by
              show GdX _
              rw [HT1.out]
              exact HR.out.2.2.snoc (by rw [HLK.out]; exact HMX.out) hhas
            rw [hhas] at hlk
            obtain ⟨w3, hput, h3⟩ := HR2.out.put (by rw [HLK.out]; have := HKL.out; omega) e HID.out (k : Int)
            have HR3 : Hid (BXr w (w.heap.size + 1) D (l.take (k + 1)) w3) := by show BXr _ _ _ _ _; rw [HT1.out]; exact h3
            obtain ⟨D2, hD2⟩ : ∃ D2, idc e.id = D2 := ⟨_, rfl⟩
            rw [hD2] at hlk I32 HCI hput
            clear hhas hD2 h3
            go_wp2_with (first
              | (refine wpList_load_mid rfl 48 (.tmp 32) rfl ge (oe + k * 35) rfl D2.toList _ (HCI.out _ HR2.out.bel) Tryz.underlying48 rfl I32 ?_)
              | (refine wpList_load_mid rfl 48 (.tmp 42) rfl ge (oe + k * 35) rfl D2.toList _ (HCI.out _ HR2.out.bel) Tryz.underlying48 rfl I32 ?_)
              | fail)
            go_roundw
            case rel => exact ⟨k + 1, by go_num, by omega, HR3.out, HE.out, HG.out⟩
            case measure => simp [intOf]; omega
    · have hkz : ¬ (k : Int) < (n : Int) := by omega
      have HF : Hid (BXr w (w.heap.size + 1) D l wr ∧ bE l = 0 ∧ GdX l) := by
        have h := HR.out
        rw [show k = l.length from by rw [HN.out]; omega, List.take_length, List.drop_length] at h
        exact ⟨h.1, h.2.1, h.2.2⟩
      have HBK : Hid (Bk wr w.heap.size D 48 ∧ Below w.heap.size w wr) := ⟨HF.out.1.bx, HF.out.1.bel⟩
      have HE0 : Hid (bE l = 0 ∧ GdX l) := HF.out.2
      obtain ⟨cs, hcs⟩ : ∃ cs : List Value, D.toList = cs := ⟨_, rfl⟩
      have hca : D = cs.toArray := by rw [← hcs]
      have hcl : cs.length = 32 := by rw [← hcs, Array.length_toList, ← HD.out, idc_size, HSZ.out.1]
      have HRA : Hid (∀ W, Below wr.heap.size wr W → W.rangeAt w.heap.size 0 cs) := fun W hW j v hv => by
        rw [Nat.zero_add, (HBK.out.1.below hW HBK.out.1.lt).cell]
        rwa [← hcs, Array.getElem?_toList] at hv
      have HSO : Hid (∀ W, Below w.heap.size w W → Calls Tryz.prog 56 #[.slice a n c] W fun e w' => ∃ g c' L, e = .returned (.slice (some ⟨g, 0, none⟩) n c') ∧ XeL w' (some ⟨g, 0, none⟩) L ∧ L.length = n ∧ L.Perm l ∧ OkL L ∧ Below W.heap.size W w') := fun W hW => by
        have key : Calls Tryz.prog 56 #[.slice a n c] W fun e w' => SoS W l n e w' := by
          rcases HAA.out with ⟨h1, h2⟩ | ⟨g, o, h1⟩
          · have hn0 : n = 0 := by have := HSZ.out.2; omega
            have hl0 : l = [] := List.eq_nil_of_length_eq_zero (by rw [HN.out]; exact hn0)
            rw [h1, h2, hn0, hl0]; exact rsorted_nil 0 W
          · rw [h1]
            have hx := HX.out.below hW
            rw [h1] at hx
            exact rsorted_any l ⟨g, o, none⟩ n c W HN.out hx HSZ.out.2 (by have := HE0.out.2.len; rw [HN.out] at this; exact this)
        refine key.mono ?_
        rintro e w' ⟨g, c', L, h1, h2, h3, h4, h5⟩
        have hLn : L.length = n := by rw [h3.length_eq]; exact HN.out
        have hid : ∀ e ∈ L, e.id.size = 32 := fun e he => HX.out.ids e (h3.mem_iff.1 he)
        obtain ⟨a', c'', hv, hx, _, _⟩ := own_xel h2 hLn hid
        injection hv with hv _ _
        subst hv
        have hri : Rise L := by
          have hap : Aprt L := HE0.out.2.ap.perm h3.symm
          exact (h4.and hap).imp (fun {a b} q => ltN_ne q.2 q.1)
        exact ⟨g, c', L, h1, hx, hLn, h3, ⟨fun e he => HE0.out.2.ok e (h3.mem_iff.1 he), hid, hri, by rw [hLn, ← HN.out]; exact HE0.out.2.len⟩, h5⟩
      have HLD : Hid (∀ g c' L W, XeL W (some ⟨g, 0, none⟩) L → L.length = n → OkL L → Calls Tryz.prog 86 #[.agg cs.toArray, .slice (some ⟨g, 0, none⟩) n c'] W fun e w' => e = .returned (.string ⟨(ixB s L).toArray⟩) ∧ Below W.heap.size W w') := fun g c' L W h1 h2 h3 => by
        rw [← hca, ← HD.out]
        exact rlaid_any s L _ n c' W HSZ.out.1 h1 h2 (by have := h3.len; omega) (fun e he => by have := (okX_iff e).1 (h3.ok e he); omega)
      have hi4 : (Tryz.prog.info? 48).map (·.size) = some cs.length := by rw [hcl]; kernel_rfl
      have hu4 := Tryz.underlying48
      have hS4 : wr.rangeAt w.heap.size 0 cs := HRA.out _ (Below.refl _ _)
      clear HR hlt HF hcs hca
      go_wp2_with fail
      go_region_held3 (fun W => W.rangeAt w.heap.size 0 cs) (first | exact HRA.out _ (Below.refl _ _) | exact HRA.out _ (Below.refl _ _).drew | exact HRA.out _ HB2.out.1 | exact HRA.out _ HB3.out)
        (first
        | (go_at_call 86; refine Calls.mono (HLD.out _ _ _ _ HB2.out.2.1 HB2.out.2.2.1 HB2.out.2.2.2.2) ?_; rintro e w3 ⟨rfl, hb3⟩
           have HB3 : Hid (Below wr.heap.size wr w3) := HB2.out.1.trans (hb3.mono HB2.out.1.size)
           clear hb3)
        | (go_at_call 56; refine Calls.mono (HSO.out _ HBK.out.2.drew) ?_; rintro e w2 ⟨g, c', L, rfl, h1, h2, h3, h4, hb2⟩
           have HB2 : Hid (Below wr.heap.size wr w2 ∧ XeL w2 (some ⟨g, 0, none⟩) L ∧ L.length = n ∧ L.Perm l ∧ OkL L) := ⟨(Below.refl wr.heap.size wr).drew.trans hb2, h1, h2, h3, h4⟩
           clear h1 h2 h3 h4 hb2)
        | fail)
      go_wp2
      go_ret2
      exact ⟨_, ret_seR HE0.out.1, ⟨fun q => absurd HE0.out.1 q, fun _ => ⟨L, HB2.out.2.2.2.1, HB2.out.2.2.2.2, rfl⟩⟩, HBK.out.2.trans (HB3.out.mono HBK.out.2.size)⟩
end Go.Proofs.YtbfoiocbmhhdbaaGreat
