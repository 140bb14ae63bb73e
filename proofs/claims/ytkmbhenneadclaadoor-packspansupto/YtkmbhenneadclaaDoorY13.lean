import Derived.Test.YtkmbhenneadclaaDoorY12
/- The walk of munimentlaw11.PackBack, where a pack is made. -/
namespace Go.Proofs.YtkmbhenneadclaaDoor
open Go.RowKit
set_option linter.unusedSimpArgs false
set_option linter.unusedVariables false
theorem putAll {C : Array Value} {l : List Value} (h : C.size = l.length) : (putC C 0 l).toList = l := by
  apply List.ext_getElem?
  intro i
  rw [Array.getElem?_toList, putC_get l 0 C i (by omega)]
  split
  · rw [Nat.sub_zero]
  · rename_i h2
    rw [Array.getElem?_eq_none (by omega), List.getElem?_eq_none (by omega)]
theorem scan_bu (l : List Ob) (h : buE l = 0) (W : World) (hL : Lst W) : Calls Tryd.prog 13 #[.string (buS l)] W fun e w' => ∃ a c, e = .returned (.tuple #[.slice a l.length c, .int .i64 0]) ∧ Hid (EnL w' a (ens 4 l) ∧ Below W.heap.size W w') := by
  have hz := (pkO_bu h).1
  refine (scan_any (buS l) W (by omega) hL).mono ?_
  rintro e w' ⟨m, v, er, rfl, h3, h4, h5⟩
  obtain ⟨rfl, rfl⟩ := scA_bu h h3
  rw [ens_length] at h4
  obtain ⟨a, c, rfl, h6⟩ := row_enl h4 (ens_length _ _) (ens_ids _ _)
  exact ⟨a, c, rfl, h6, h5⟩
set_option maxHeartbeats 8000000 in
set_option maxRecDepth 100000 in
theorem back_yes (l : List Ob) (ad : Option Addr) (n c : Nat) (cut : Nat) (w : World) (hO : ObL w ad l) (hl : l.length = n) (hn : (n + 1) * 24 ≤ 140737488355328) (hcut : cut < 4294967296) (hA : All w) (hE : buE l = 0) :
    Calls Tryd.prog 5 #[.slice ad n c, .int .u32 (cut : Int)] w fun e w' => e = .returned (.bool true) ∧ Below w.heap.size w w' := by
  have HA : Hid (All w) := hA
  have HO : Hid (ObL w ad l) := hO
  have HN : Hid (l.length = n) := hl
  have HE : Hid (buE l = 0) := hE
  have HZ : Hid (ObZ l) := hO.sz
  have hgd := buE_ok hE
  have hn16 : n ≤ 65536 := by rw [← hl]; exact hgd.len
  have HOB := own_build l ad n c w hO hl hn hA.l
  rw [hE] at HOB
  obtain ⟨s, hs⟩ : ∃ s, s = buS l := ⟨_, rfl⟩
  have HS : Hid (s = buS l) := hs
  have hsz : s.size ≤ 67108864 := by rw [hs]; exact (pkO_bu hE).1
  have hs4 : 14 ≤ s.size := by rw [hs, buS_size hE, trl_size, encS_length]; have := slen_pos l.length; omega
  rw [← hs] at HOB
  have HOB' : Hid (Calls Tryd.prog 7 #[.slice ad n c] w fun e w' => ∃ v, e = .returned v ∧ Hid (Below w.heap.size w w' ∧ Calls Tryd.prog 8 #[v] w' fun e w'' => e = .returned (.tuple #[.string s, .int .i64 0]) ∧ Below w.heap.size w w'')) := HOB
  have HSC : Hid (∀ W, Lst W → Calls Tryd.prog 13 #[.string s] W fun e w' => ∃ a c, e = .returned (.tuple #[.slice a n c, .int .i64 0]) ∧ Hid (EnL w' a (ens 4 l) ∧ Below W.heap.size W w')) := fun W hW => by
    have := scan_bu l hE W hW
    rwa [← hs, hl] at this
  have HENS : Hid (∀ k o, l[k]? = some o → (ens 4 l)[k]? = some (enO (4 + lenL (l.take k)) o)) := fun k o h => ens_get l 4 k o h
  clear hO hl hn hA hE HOB hs hgd
  go_enter Tryd.func5, Tryd.ntmps5
  go_wp2_with fail
  refine HOB'.out.mono ?_
  rintro e w1 ⟨v, rfl, H1⟩
  clear HOB'
  go_wp2_with fail
  refine H1.out.2.mono ?_
  rintro e w2 ⟨rfl, hb2⟩
  have HB2 : Hid (Below w.heap.size w w2) := hb2
  clear hb2 H1
  go_wp2_with fail
  refine (HSC.out _ (HA.out.below HB2.out).l).mono ?_
  rintro e w3 ⟨am, cm, rfl, H3⟩
  have HB3 : Hid (Below w.heap.size w w3) := HB2.out.trans (H3.out.2.mono HB2.out.size)
  have HEL : Hid (EnL w3 am (ens 4 l)) := H3.out.1
  have HOL : Hid (ObL w3 ad l) := HO.out.below HB3.out
  have HA3 : Hid (All w3) := HA.out.below HB3.out
  clear H3 HB2 HSC
  go_wp2
  go_loopw [9, 10] (fun m v wr => ∃ (k : Nat) (u : Value), m = u ∧ v = .int .i64 k ∧ k ≤ n ∧ Hid (OwS w3 (l.take k) u wr)) (fun m v _ => n - (intOf v).toNat)
  case atStart => exact ⟨0, _, rfl, rfl, Nat.zero_le _, rows_none, Below.refl _ _⟩
  case round =>
    obtain ⟨k, u, rfl, rfl, hk, OR⟩ := hrel
    by_cases hlt : k < n
    · have hkz : (k : Int) < (n : Nat) := by omega
      have htk : (l.take k).length = k := by rw [List.length_take, HN.out]; omega
      obtain ⟨o, ho⟩ : ∃ o, l[k]? = some o := ⟨l[k]'(by rw [HN.out]; exact hlt), List.getElem?_eq_getElem _⟩
      have hle := rec_le HE.out k o ho
      have hrec := rec_at HE.out k o ho
      obtain ⟨hrd1, hrd2⟩ := read_rec HE.out k o ho
      have hok := (buE_ok HE.out).ok o (List.mem_of_getElem? ho)
      obtain ⟨hon1, hon2⟩ := one_rec o hok
      have hens := HENS.out k o ho
      rw [← HS.out] at hle hrec hrd1 hrd2
      obtain ⟨a, ha⟩ : ∃ a, a = 4 + lenL (l.take k) := ⟨_, rfl⟩
      rw [← ha] at hle hrec hrd1 hrd2 hens
      have hpz : o.p.size ≤ 2097152 := ((okO_iff _).1 hok).2.2
      obtain ⟨g, z, C, rfl, hB, hC⟩ := HEL.out.below OR.out.bel k _ hens
      obtain ⟨gl, zl, rfl, hgl, hl0, hl1, _⟩ := HOL.out.below OR.out.bel k o ho
      have HOk : Hid (l[k]? = some o) := ho
      obtain ⟨rc, hrc⟩ : ∃ rc, rc = recO o := ⟨_, rfl⟩
      rw [← hrc] at hrec hon1 hon2
      have hrcz : rc.size ≤ 67108864 := by rw [hrc, recO_size]; omega
      obtain ⟨x, hx⟩ : ∃ x, x = nmO o := ⟨_, rfl⟩
      have hxz : x.size = 32 := by rw [hx]; exact nmO_size _
      have hen : enO a o = ⟨x, o.k, a, o.p.size⟩ := by rw [enO, hx]
      rw [hen] at hC
      have HOF : Hid (∀ W, Below wr.heap.size wr W → Calls Tryd.prog 31 #[.int .u8 (o.k.toNat : Int), .string o.p] W fun e w' => e = .returned (.agg (idc x)) ∧ Below W.heap.size W w') := fun W hW => by
        rw [hx]; exact of_nm o W (by omega) ((HA3.out.below OR.out.bel).below hW).l
      have HRD : Hid (∀ W, Calls Tryd.prog 17 #[.string s, .int .i64 (a : Int)] W fun e w' => e = .returned (.tuple #[.agg #[.int .u8 (o.k.toNat : Int), .string o.p], .int .i64 0]) ∧ Below W.heap.size W w') := fun W => by
        have := read_any s (a : Int) W (by omega)
        rwa [hrd1, hrd2] at this
      have HON : Hid (∀ W, Calls Tryd.prog 19 #[.string rc] W fun e w' => e = .returned (.tuple #[.agg #[.int .u8 (o.k.toNat : Int), .string o.p], .int .i64 0]) ∧ Below W.heap.size W w') := fun W => by
        have := one_any rc W (by omega)
        rwa [hon1, hon2] at this
      clear hrd1 hrd2 hon1 hon2 hens hen hx hrc ha ho hok
      obtain ⟨kk, p⟩ := o
      simp only at hle hrec hpz hl0 hl1 hC HOF HRD HON
      obtain ⟨b, hb⟩ : ∃ b, b = a + (9 + p.size) := ⟨_, rfl⟩
      rw [← hb] at hrec hle
      have hab : (a : Int) + (9 + (p.size : Int)) = (b : Int) := by omega
      have hbs : (b : Int) ≤ (s.size : Int) := by omega
      have habz : (a : Int) ≤ (b : Int) := by omega
      have hn1 : ¬ ((s.size : Int) - (a : Int) < 9 + (p.size : Int)) := by omega
      have has : ¬ ((s.size : Int) < (a : Int)) := by omega
      have HSP : Hid (∀ W, Calls Tryd.prog 22 #[.agg (enC ⟨x, kk, a, p.size⟩)] W fun e w' => e = .returned (.tuple #[.int .i64 (a : Int), .int .i64 (9 + (p.size : Int))]) ∧ Below W.heap.size W w') := fun W => span_any ⟨x, kk, a, p.size⟩ W hxz (by simp only; omega) (by simp only; omega)
      have hi35 := info_en (enC_size ⟨x, kk, a, p.size⟩ hxz)
      have HB : Hid (Bk wr g C 56) := hB
      have HC : Hid (∀ j v, (enC ⟨x, kk, a, p.size⟩)[j]? = some v → C[z + k * 35 + j]? = some v) := hC
      have HL01 : Hid (wr.cell? ⟨gl, zl + k * 2, none⟩ = some (.int .u8 (kk.toNat : Int)) ∧ wr.cell? ⟨gl, zl + k * 2 + 1, none⟩ = some (.string p)) := ⟨hl0, hl1⟩
      clear hB hC hl0 hl1 hb
      go_wp2_with (first
        | (refine wpList_get rfl 56 (.tmp 79) rfl g (z + k * 35) C (enC ⟨x, kk, a, p.size⟩) 56 _ rfl HB.out HC.out Tryd.underlying56 rfl hi35 ?_)
        | fail)
      refine (HSP.out _).mono ?_
      rintro e w5 ⟨rfl, hb5⟩
      have HB5 : Hid (Below wr.heap.size wr w5) := hb5
      have hbk5 := HB.out.below hb5 HB.out.lt
      obtain ⟨q0, q1, q2⟩ := enC_at ⟨x, kk, a, p.size⟩ hxz
      have c5 : w5.cell? ⟨g, z + k * 35 + 33, none⟩ = some (.int .i64 (a : Int)) := by rw [hbk5.cell]; exact HC.out 33 _ q1
      clear hb5 hbk5 HSP
      go_wp2_with fail
      refine (HRD.out _).mono ?_
      rintro e w6 ⟨rfl, hb6⟩
      have HB6 : Hid (Below wr.heap.size wr (w6.alloc (.cells #[.int .u8 (kk.toNat : Int), .string p] 30))) := (HB5.out.trans (hb6.mono HB5.out.size)).alloc (Nat.le_trans HB5.out.size hb6.size) _
      have HK6 : Hid (Bk (w6.alloc (.cells #[.int .u8 (kk.toNat : Int), .string p] 30)) w6.heap.size #[.int .u8 (kk.toNat : Int), .string p] 30) := bk_new _ _ _
      clear hb6 HRD c5
      go_wp2_with fail
      refine (HON.out _).mono ?_
      rintro e w7 ⟨rfl, hb7⟩
      have hB7 : Below wr.heap.size wr (w7.alloc (.cells #[.int .u8 (kk.toNat : Int), .string p] 30)) := (HB6.out.trans (hb7.mono HB6.out.size)).alloc (Nat.le_trans HB6.out.size hb7.size) _
      have HB7 : Hid (Below wr.heap.size wr (w7.alloc (.cells #[.int .u8 (kk.toNat : Int), .string p] 30))) := hB7
      have hk7 := (HK6.out.below hb7 HK6.out.lt).alloc (.cells #[.int .u8 (kk.toNat : Int), .string p] 30)
      have hbk7 := HB.out.below hB7 HB.out.lt
      have d0 : (w7.alloc (.cells #[.int .u8 (kk.toNat : Int), .string p] 30)).cell? ⟨w6.heap.size, 0, none⟩ = some (.int .u8 (kk.toNat : Int)) := by rw [hk7.cell]; rfl
      have d1 : (w7.alloc (.cells #[.int .u8 (kk.toNat : Int), .string p] 30)).cell? ⟨w6.heap.size, 1, none⟩ = some (.string p) := by rw [hk7.cell]; rfl
      have e0 : (w7.alloc (.cells #[.int .u8 (kk.toNat : Int), .string p] 30)).cell? ⟨gl, zl + k * 2, none⟩ = some (.int .u8 (kk.toNat : Int)) := by rw [hB7.cell (p := ⟨gl, zl + k * 2, none⟩) hgl]; exact HL01.out.1
      have e1 : (w7.alloc (.cells #[.int .u8 (kk.toNat : Int), .string p] 30)).cell? ⟨gl, zl + k * 2 + 1, none⟩ = some (.string p) := by rw [hB7.cell (p := ⟨gl, zl + k * 2 + 1, none⟩) hgl]; exact HL01.out.2
      have m32 : (w7.alloc (.cells #[.int .u8 (kk.toNat : Int), .string p] 30)).cell? ⟨g, z + k * 35 + 32, none⟩ = some (.int .u8 (kk.toNat : Int)) := by rw [hbk7.cell]; exact HC.out 32 _ q0
      have m34 : (w7.alloc (.cells #[.int .u8 (kk.toNat : Int), .string p] 30)).cell? ⟨g, z + k * 35 + 34, none⟩ = some (.int .i64 (p.size : Int)) := by rw [hbk7.cell]; exact HC.out 34 _ q2
      have HBK7 : Hid (Bk (w7.alloc (.cells #[.int .u8 (kk.toNat : Int), .string p] 30)) g C 56) := hbk7
      have HK7 : Hid (Bk (w7.alloc (.cells #[.int .u8 (kk.toNat : Int), .string p] 30)) w6.heap.size #[.int .u8 (kk.toNat : Int), .string p] 30) := hk7
      have hneq := neq_obj kk p
      have hi32 : (Tryd.prog.info? 54).map (·.size) = some (idc x).size := info_32 (by rw [idc_size, hxz])
      have hnid : ∀ W, (binOp .neq 54 (.agg (idc x)) (.agg (idc x))).run Tryd.prog W = .ok (.bool false) W := fun W => by rw [neq_ids x x hxz hxz]; simp
      have hz6 : w6.heap.size < (w7.alloc (.cells #[.int .u8 (kk.toNat : Int), .string p] 30)).heap.size := hk7.lt
      have hg7 : g < (w7.alloc (.cells #[.int .u8 (kk.toNat : Int), .string p] 30)).heap.size := hbk7.lt
      have HP7 : Hid (Bk (w7.alloc (.cells #[.int .u8 (kk.toNat : Int), .string p] 30)) w7.heap.size #[.int .u8 (kk.toNat : Int), .string p] 30) := bk_new _ _ _
      clear hb7 hB7 hk7 hbk7 HON HB6 HK6
      go_wp2_with fail
      generalize w7.alloc (.cells #[.int .u8 (kk.toNat : Int), .string p] 30) = W7 at HB7 d0 d1 e0 e1 m32 m34 HBK7 HK7 HP7 hz6 hg7 ⊢
      have hgl7 : gl < W7.heap.size := Nat.lt_of_lt_of_le hgl HB7.out.size
      have D0 : Hid (W7.cell? ⟨w6.heap.size, 0, none⟩ = some (.int .u8 (kk.toNat : Int)) ∧ W7.cell? ⟨w6.heap.size, 1, none⟩ = some (.string p) ∧ W7.cell? ⟨gl, zl + k * 2, none⟩ = some (.int .u8 (kk.toNat : Int)) ∧ W7.cell? ⟨gl, zl + k * 2 + 1, none⟩ = some (.string p) ∧ W7.cell? ⟨g, z + k * 35 + 32, none⟩ = some (.int .u8 (kk.toNat : Int)) ∧ W7.cell? ⟨g, z + k * 35 + 34, none⟩ = some (.int .i64 (p.size : Int))) := ⟨d0, d1, e0, e1, m32, m34⟩
      have HOC : Hid (∀ W, Below W7.heap.size W7 W → Calls Tryd.prog 31 #[.int .u8 (kk.toNat : Int), .string p] W fun e w' => e = .returned (.agg (idc x)) ∧ Below W7.heap.size W7 w') := fun W hW =>
        (HOF.out W (HB7.out.trans (hW.mono HB7.out.size))).mono fun e w' h => ⟨h.1, hW.trans (h.2.mono hW.size)⟩
      have HU8 : Hid (∀ w, (isAgg 5).run Tryd.prog w = .ok false w) := fun w => by kernel_rfl
      have HI64 : Hid (∀ w, (isAgg 3).run Tryd.prog w = .ok false w) := fun w => by kernel_rfl
      have HST : Hid (∀ w, (isAgg 9).run Tryd.prog w = .ok false w) := fun w => by kernel_rfl
      have HIX : Hid (∀ j v, (idc x)[j]? = some v → C[z + k * 35 + j]? = some v) := fun j v hv => HC.out j v (by have := enC_id ⟨x, kk, a, p.size⟩ hxz j v hv; rwa [Nat.zero_add] at this)
      clear d0 d1 e0 e1 m32 m34 q0 q1 q2 hrec hab hbs habz hn1 has HENS hi35
      refine region_class10 (fun W => Below W7.heap.size W7 W) (by kernel_rfl) (by kernel_rfl) (Below.refl _ _).drew ?_
      simp only [List.append_eq, List.cons_append, List.nil_append]
      (go_big_quiet_want; (go_big_quiet_op; go_big_quiet_on))
      (go_big_quiet_want; (refine quiet_val10 (.bool false) ?_ ?_; (focus (intro W hW; go_simp; done)); go_big_quiet_on; simp only [Act.put, List.setIfInBounds_toArray, List.set_cons_zero, List.set_cons_succ]))
      (go_big_quiet_want; (go_big_quiet_op; go_big_quiet_on))
      (go_big_quiet_want; (go_big_quiet_op; go_big_quiet_on))
      (go_big_quiet_want; (refine quiet_val10 (.bool false) ?_ ?_; (focus (intro W hW; go_simp; done)); go_big_quiet_on; simp only [Act.put, List.setIfInBounds_toArray, List.set_cons_zero, List.set_cons_succ]))
      (go_big_quiet_want; (refine quiet_val10 (.bool false) ?_ ?_; (focus (intro W hW; go_simp; done)); go_big_quiet_on; simp only [Act.put, List.setIfInBounds_toArray, List.set_cons_zero, List.set_cons_succ]))
      (go_big_quiet_want; (go_big_quiet_op; go_big_quiet_on))
      (go_big_quiet_want; (refine quiet_row 30 (.tmp 13) rfl w6.heap.size 0 #[.int .u8 (kk.toNat : Int), .string p] #[.int .u8 (kk.toNat : Int), .string p] 30 _ rfl (fun W hW => HK7.out.below hW hz6) (fun j v hv => by rw [Nat.zero_add]; exact hv) Tryd.underlying30 rfl inf_ob ?_; go_big_quiet_on; simp only [Act.put, List.setIfInBounds_toArray, List.set_cons_zero, List.set_cons_succ]))
      (go_big_quiet_want; (refine quiet_row 30 (.tmp 15) rfl w7.heap.size 0 #[.int .u8 (kk.toNat : Int), .string p] #[.int .u8 (kk.toNat : Int), .string p] 30 _ rfl (fun W hW => HP7.out.below hW HP7.out.lt) (fun j v hv => by rw [Nat.zero_add]; exact hv) Tryd.underlying30 rfl inf_ob ?_; go_big_quiet_on; simp only [Act.put, List.setIfInBounds_toArray, List.set_cons_zero, List.set_cons_succ]))
      (go_big_quiet_want; (refine quiet_val10 (.bool false) ?_ ?_; (focus (intro W hW; go_simp; done)); go_big_quiet_on; simp only [Act.put, List.setIfInBounds_toArray, List.set_cons_zero, List.set_cons_succ]))
      (go_big_quiet_want; (refine quiet_val10 (.bool false) ?_ ?_; (focus (intro W hW; go_simp; done)); go_big_quiet_on; simp only [Act.put, List.setIfInBounds_toArray, List.set_cons_zero, List.set_cons_succ]))
      (go_big_quiet_want; (go_big_quiet_op; go_big_quiet_on))
      (go_big_quiet_want; (refine quiet_val10 (.pointer (some ⟨w6.heap.size, 0, none⟩)) ?_ ?_; (focus (intro W hW; go_simp; done)); go_big_quiet_on; simp only [Act.put, List.setIfInBounds_toArray, List.set_cons_zero, List.set_cons_succ]))
      (go_big_quiet_want; (refine quiet_one 5 _ rfl w6.heap.size 0 (.int .u8 (kk.toNat : Int)) rfl HU8.out (fun W hW => by rw [hW.cell (p := ⟨w6.heap.size, 0, none⟩) hz6]; exact D0.out.1) ?_; go_big_quiet_on; simp only [Act.put, List.setIfInBounds_toArray, List.set_cons_zero, List.set_cons_succ]))
      (go_big_quiet_want; (go_big_quiet_op; go_big_quiet_on))
      (go_big_quiet_want; (go_big_quiet_op; go_big_quiet_on))
      (go_big_quiet_want; (refine quiet_val10 (.pointer (some ⟨gl, zl + k * 2, none⟩)) ?_ ?_; (focus (intro W hW; go_simp; done)); go_big_quiet_on; simp only [Act.put, List.setIfInBounds_toArray, List.set_cons_zero, List.set_cons_succ]))
      (go_big_quiet_want; (refine quiet_val10 (.pointer (some ⟨gl, zl + k * 2, none⟩)) ?_ ?_; (focus (intro W hW; go_simp; done)); go_big_quiet_on; simp only [Act.put, List.setIfInBounds_toArray, List.set_cons_zero, List.set_cons_succ]))
      (go_big_quiet_want; (refine quiet_one 5 _ rfl gl (zl + k * 2) (.int .u8 (kk.toNat : Int)) rfl HU8.out (fun W hW => by rw [hW.cell (p := ⟨gl, zl + k * 2, none⟩) hgl7]; exact D0.out.2.2.1) ?_; go_big_quiet_on; simp only [Act.put, List.setIfInBounds_toArray, List.set_cons_zero, List.set_cons_succ]))
      (go_big_quiet_want; (refine quiet_val10 (.bool false) ?_ ?_; (focus (intro W hW; go_simp; done)); go_big_quiet_on; simp only [Act.put, List.setIfInBounds_toArray, List.set_cons_zero, List.set_cons_succ]))
      (go_big_quiet_want; (refine quiet_val10 (.bool false) ?_ ?_; (focus (intro W hW; go_simp; done)); go_big_quiet_on; simp only [Act.put, List.setIfInBounds_toArray, List.set_cons_zero, List.set_cons_succ]))
      (go_big_quiet_want; (go_big_quiet_op; go_big_quiet_on))
      (go_big_quiet_want; (refine quiet_val10 (.pointer (some ⟨w6.heap.size, 1, none⟩)) ?_ ?_; (focus (intro W hW; go_simp; done)); go_big_quiet_on; simp only [Act.put, List.setIfInBounds_toArray, List.set_cons_zero, List.set_cons_succ]))
      (go_big_quiet_want; (refine quiet_one 9 _ rfl w6.heap.size 1 (.string p) rfl HST.out (fun W hW => by rw [hW.cell (p := ⟨w6.heap.size, 1, none⟩) hz6]; exact D0.out.2.1) ?_; go_big_quiet_on; simp only [Act.put, List.setIfInBounds_toArray, List.set_cons_zero, List.set_cons_succ]))
      (go_big_quiet_want; (go_big_quiet_op; go_big_quiet_on))
      (go_big_quiet_want; (go_big_quiet_op; go_big_quiet_on))
      (go_big_quiet_want; (refine quiet_val10 (.pointer (some ⟨gl, zl + k * 2, none⟩)) ?_ ?_; (focus (intro W hW; go_simp; done)); go_big_quiet_on; simp only [Act.put, List.setIfInBounds_toArray, List.set_cons_zero, List.set_cons_succ]))
      (go_big_quiet_want; (refine quiet_val10 (.pointer (some ⟨gl, zl + k * 2 + 1, none⟩)) ?_ ?_; (focus (intro W hW; go_simp; done)); go_big_quiet_on; simp only [Act.put, List.setIfInBounds_toArray, List.set_cons_zero, List.set_cons_succ]))
      (go_big_quiet_want; (refine quiet_one 9 _ rfl gl (zl + k * 2 + 1) (.string p) rfl HST.out (fun W hW => by rw [hW.cell (p := ⟨gl, zl + k * 2 + 1, none⟩) hgl7]; exact D0.out.2.2.2.1) ?_; go_big_quiet_on; simp only [Act.put, List.setIfInBounds_toArray, List.set_cons_zero, List.set_cons_succ]))
      (go_big_quiet_want; (refine quiet_val10 (.bool false) ?_ ?_; (focus (intro W hW; go_simp; done)); go_big_quiet_on; simp only [Act.put, List.setIfInBounds_toArray, List.set_cons_zero, List.set_cons_succ]))
      (go_big_quiet_want; (refine quiet_val10 (.bool false) ?_ ?_; (focus (intro W hW; go_simp; done)); go_big_quiet_on; simp only [Act.put, List.setIfInBounds_toArray, List.set_cons_zero, List.set_cons_succ]))
      (go_big_quiet_want; (go_big_quiet_op; go_big_quiet_on))
      (go_big_quiet_want; (go_big_quiet_op; go_big_quiet_on))
      (go_big_quiet_want; (go_big_quiet_op; go_big_quiet_on))
      (go_big_quiet_want; (refine quiet_val10 (.pointer (some ⟨g, z + k * 35, none⟩)) ?_ ?_; (focus (intro W hW; go_simp; done)); go_big_quiet_on; simp only [Act.put, List.setIfInBounds_toArray, List.set_cons_zero, List.set_cons_succ]))
      (go_big_quiet_want; (refine quiet_val10 (.pointer (some ⟨g, z + k * 35 + 32, none⟩)) ?_ ?_; (focus (intro W hW; go_simp; done)); go_big_quiet_on; simp only [Act.put, List.setIfInBounds_toArray, List.set_cons_zero, List.set_cons_succ]))
      (go_big_quiet_want; (refine quiet_one 5 _ rfl g (z + k * 35 + 32) (.int .u8 (kk.toNat : Int)) rfl HU8.out (fun W hW => by rw [hW.cell (p := ⟨g, z + k * 35 + 32, none⟩) hg7]; exact D0.out.2.2.2.2.1) ?_; go_big_quiet_on; simp only [Act.put, List.setIfInBounds_toArray, List.set_cons_zero, List.set_cons_succ]))
      (go_big_quiet_want; (refine quiet_val10 (.pointer (some ⟨w6.heap.size, 0, none⟩)) ?_ ?_; (focus (intro W hW; go_simp; done)); go_big_quiet_on; simp only [Act.put, List.setIfInBounds_toArray, List.set_cons_zero, List.set_cons_succ]))
      (go_big_quiet_want; (refine quiet_one 5 _ rfl w6.heap.size 0 (.int .u8 (kk.toNat : Int)) rfl HU8.out (fun W hW => by rw [hW.cell (p := ⟨w6.heap.size, 0, none⟩) hz6]; exact D0.out.1) ?_; go_big_quiet_on; simp only [Act.put, List.setIfInBounds_toArray, List.set_cons_zero, List.set_cons_succ]))
      (go_big_quiet_want; (refine quiet_val10 (.bool false) ?_ ?_; (focus (intro W hW; go_simp; done)); go_big_quiet_on; simp only [Act.put, List.setIfInBounds_toArray, List.set_cons_zero, List.set_cons_succ]))
      (go_big_quiet_want; (refine quiet_val10 (.bool false) ?_ ?_; (focus (intro W hW; go_simp; done)); go_big_quiet_on; simp only [Act.put, List.setIfInBounds_toArray, List.set_cons_zero, List.set_cons_succ]))
      (go_big_quiet_want; (go_big_quiet_op; go_big_quiet_on))
      (go_big_quiet_want; (go_big_quiet_op; go_big_quiet_on))
      (go_big_quiet_want; (go_big_quiet_op; go_big_quiet_on))
      (go_big_quiet_want; (refine quiet_val10 (.pointer (some ⟨g, z + k * 35, none⟩)) ?_ ?_; (focus (intro W hW; go_simp; done)); go_big_quiet_on; simp only [Act.put, List.setIfInBounds_toArray, List.set_cons_zero, List.set_cons_succ]))
      (go_big_quiet_want; (refine quiet_val10 (.pointer (some ⟨g, z + k * 35 + 34, none⟩)) ?_ ?_; (focus (intro W hW; go_simp; done)); go_big_quiet_on; simp only [Act.put, List.setIfInBounds_toArray, List.set_cons_zero, List.set_cons_succ]))
      (go_big_quiet_want; (refine quiet_one 3 _ rfl g (z + k * 35 + 34) (.int .i64 (p.size : Int)) rfl HI64.out (fun W hW => by rw [hW.cell (p := ⟨g, z + k * 35 + 34, none⟩) hg7]; exact D0.out.2.2.2.2.2) ?_; go_big_quiet_on; simp only [Act.put, List.setIfInBounds_toArray, List.set_cons_zero, List.set_cons_succ]))
      (go_big_quiet_want; (refine quiet_val10 (.pointer (some ⟨w6.heap.size, 1, none⟩)) ?_ ?_; (focus (intro W hW; go_simp; done)); go_big_quiet_on; simp only [Act.put, List.setIfInBounds_toArray, List.set_cons_zero, List.set_cons_succ]))
      (go_big_quiet_want; (refine quiet_one 9 _ rfl w6.heap.size 1 (.string p) rfl HST.out (fun W hW => by rw [hW.cell (p := ⟨w6.heap.size, 1, none⟩) hz6]; exact D0.out.2.1) ?_; go_big_quiet_on; simp only [Act.put, List.setIfInBounds_toArray, List.set_cons_zero, List.set_cons_succ]))
      (go_big_quiet_want; (refine quiet_val10 (.int .i64 (p.size : Int)) ?_ ?_; (focus (intro W hW; go_simp; done)); go_big_quiet_on; simp only [Act.put, List.setIfInBounds_toArray, List.set_cons_zero, List.set_cons_succ]))
      (go_big_quiet_want; (refine quiet_val10 (.bool false) ?_ ?_; (focus (intro W hW; go_simp; done)); go_big_quiet_on; simp only [Act.put, List.setIfInBounds_toArray, List.set_cons_zero, List.set_cons_succ]))
      (go_big_quiet_want; (refine quiet_val10 (.bool false) ?_ ?_; (focus (intro W hW; go_simp; done)); go_big_quiet_on; simp only [Act.put, List.setIfInBounds_toArray, List.set_cons_zero, List.set_cons_succ]))
      (go_big_quiet_want; (go_big_quiet_op; go_big_quiet_on))
      (go_big_quiet_want; (go_big_quiet_op; go_big_quiet_on))
      (go_big_quiet_want; (go_big_quiet_op; go_big_quiet_on))
      (go_big_quiet_want; (refine quiet_val10 (.pointer (some ⟨g, z + k * 35, none⟩)) ?_ ?_; (focus (intro W hW; go_simp; done)); go_big_quiet_on; simp only [Act.put, List.setIfInBounds_toArray, List.set_cons_zero, List.set_cons_succ]))
      (go_big_quiet_want; (refine quiet_val10 (.pointer (some ⟨g, z + k * 35, none⟩)) ?_ ?_; (focus (intro W hW; go_simp; done)); go_big_quiet_on; simp only [Act.put, List.setIfInBounds_toArray, List.set_cons_zero, List.set_cons_succ]))
      (go_big_quiet_want; (refine quiet_row 54 (.tmp 180) rfl g (z + k * 35) C (idc x) 56 _ rfl (fun W hW => HBK7.out.below hW hg7) HIX.out Tryd.underlying54 rfl hi32 ?_; go_big_quiet_on; simp only [Act.put, List.setIfInBounds_toArray, List.set_cons_zero, List.set_cons_succ]))
      (go_big_quiet_want; (refine quiet_val10 (.pointer (some ⟨w6.heap.size, 0, none⟩)) ?_ ?_; (focus (intro W hW; go_simp; done)); go_big_quiet_on; simp only [Act.put, List.setIfInBounds_toArray, List.set_cons_zero, List.set_cons_succ]))
      (go_big_quiet_want; (refine quiet_one 5 _ rfl w6.heap.size 0 (.int .u8 (kk.toNat : Int)) rfl HU8.out (fun W hW => by rw [hW.cell (p := ⟨w6.heap.size, 0, none⟩) hz6]; exact D0.out.1) ?_; go_big_quiet_on; simp only [Act.put, List.setIfInBounds_toArray, List.set_cons_zero, List.set_cons_succ]))
      (go_big_quiet_want; (refine quiet_val10 (.pointer (some ⟨w6.heap.size, 1, none⟩)) ?_ ?_; (focus (intro W hW; go_simp; done)); go_big_quiet_on; simp only [Act.put, List.setIfInBounds_toArray, List.set_cons_zero, List.set_cons_succ]))
      (go_big_quiet_want; (refine quiet_one 9 _ rfl w6.heap.size 1 (.string p) rfl HST.out (fun W hW => by rw [hW.cell (p := ⟨w6.heap.size, 1, none⟩) hz6]; exact D0.out.2.1) ?_; go_big_quiet_on; simp only [Act.put, List.setIfInBounds_toArray, List.set_cons_zero, List.set_cons_succ]))
      (go_big_quiet_want; (refine quiet_call10 (.agg (idc x)) 31 #[.int .u8 (kk.toNat : Int), .string p] ?_ ?_ ?_; (focus (intro W hW; go_simp; done)); (focus (intro W hW; exact HOC.out W hW)); go_big_quiet_on; simp only [Act.put, List.setIfInBounds_toArray, List.set_cons_zero, List.set_cons_succ]))
      (go_big_quiet_want; (refine quiet_val10 (.bool false) ?_ ?_; (focus (intro W hW; go_simp; done)); go_big_quiet_on; simp only [Act.put, List.setIfInBounds_toArray, List.set_cons_zero, List.set_cons_succ]))
      (go_big_quiet_want; (refine quiet_val10 (.bool false) ?_ ?_; (focus (intro W hW; go_simp; done)); go_big_quiet_on; simp only [Act.put, List.setIfInBounds_toArray, List.set_cons_zero, List.set_cons_succ]))
      refine wpQuiet_nil ?_
      intro w8 hw8
      have hB8 : Below wr.heap.size wr w8 := HB7.out.trans (hw8.mono HB7.out.size)
      have hO8 : OwS w3 (l.take k) u9 w8 := OR.out.keep hB8
      obtain ⟨g9, cp9, w9, hrun, O9, _⟩ := hO8.app ⟨kk, p⟩ (by rw [htk]; omega)
      have O10 : Hid (OwS w3 (l.take (k + 1)) (.slice (some ⟨g9, 0, none⟩) (k + 1) cp9) w9) := by
        rw [List.take_add_one, HOk.out, Option.toList_some]
        rw [htk] at O9
        exact O9
      rw [htk] at hrun
      simp only at hrun
      have hk8 := HK7.out.below hw8 hz6
      have f0 : w8.cell? ⟨w6.heap.size, 0, none⟩ = some (.int .u8 (kk.toNat : Int)) := by rw [hk8.cell]; rfl
      have f1 : w8.cell? ⟨w6.heap.size, 1, none⟩ = some (.string p) := by rw [hk8.cell]; rfl
      clear hw8 hB8 hO8 O9 hk8 HOC HOF
      go_wp2_with (first
        | (refine wpList_appR rfl (.tmp 189) (.tmp 191) 23 23 rfl u9 (.slice (some ⟨w8.heap.size, 0, none⟩) 1 1) (.slice (some ⟨g9, 0, none⟩) (k + 1) cp9) w9 rfl rfl hrun ?_)
        | fail)
      go_roundw
      case rel => exact ⟨k + 1, _, rfl, by go_num, by omega, O10.out⟩
      case measure => simp [intOf]; omega
    · have hkz : ¬ (k : Int) < (n : Nat) := by omega
      obtain rfl : k = n := by omega
      have hxs : l.take k = l := List.take_of_length_le (by rw [HN.out]; omega)
      rw [hxs] at OR
      have hor := OR.out.ow
      rw [HN.out] at hor
      obtain ⟨a2, c2, hu9, hOL2⟩ := row_obl0 hor HZ.out HN.out
      subst hu9
      have hAr : All wr := HA3.out.below OR.out.bel
      have HBu : Hid (Calls Tryd.prog 8 #[.slice a2 k c2] wr fun e w' => e = .returned (.tuple #[.string s, .int .i64 0]) ∧ Below wr.heap.size wr w') := by
        have := build_any l a2 k c2 wr hOL2 HN.out (by omega) hAr.l
        rwa [HE.out, ← HS.out] at this
      obtain ⟨q, hq⟩ : ∃ q, q = cut % s.size := ⟨_, rfl⟩
      have hqs : q < s.size := by rw [hq]; exact Nat.mod_lt _ (by omega)
      have hmod : (cut : Int).tmod (s.size : Int) = (q : Int) := by rw [hq]; rfl
      have hmod2 : (cut : Int) % (s.size : Int) = (q : Int) := by rw [hq]; rfl
      have hs0 : ((s.size : Int) == 0) = false := by rw [beq_eq_false_iff_ne]; omega
      have hqz : (q : Int) ≤ (s.size : Int) := by omega
      obtain ⟨cs, hcs⟩ : ∃ cs, s.extract 0 q = cs := ⟨_, rfl⟩
      have hcz : cs.size ≤ 67108864 := by rw [← hcs, cut_size s q (by omega)]; omega
      obtain ⟨j, hj⟩ : ∃ j, j = cwN q 4 l := ⟨_, rfl⟩
      have hjn : j ≤ k := by rw [hj, ← HN.out]; exact cwN_le q l 4
      have hjz : ¬ (k : Int) < (j : Int) := by omega
      have hjd : decide (k < j) = false := decide_eq_false (by omega)
      have hjd2 : decide ((k : Int) < (j : Int)) = false := decide_eq_false hjz
      have HSc : Hid (∀ W, Lst W → Calls Tryd.prog 13 #[.string cs] W fun e w' => ∃ v, e = .returned (.tuple #[v, .int .i64 4]) ∧ Below W.heap.size W w') := fun W hW => by
        refine (scan_any cs W (by omega) hW).mono ?_
        rintro e w' ⟨m, v, er, rfl, h3, h4, h5⟩
        rw [← hcs, HS.out] at h3
        obtain rfl := cut_sc HE.out (by rw [← HS.out]; exact hqs) h3
        exact ⟨v, rfl, h5⟩
      have HSv : Hid (∀ W, Lst W → Calls Tryd.prog 15 #[.string cs] W fun e w' => ∃ a c, e = .returned (.slice a j c) ∧ Hid (EnL w' a (ens 4 (l.take j)) ∧ Below W.heap.size W w')) := fun W hW => by
        refine (salvage_any cs W (by omega) hW).mono ?_
        rintro e w' ⟨m, v, rfl, h3, h4, h5⟩
        rw [← hcs, HS.out] at h3
        have hm := cut_sv HE.out (by rw [← HS.out]; exact hqs) h3
        rw [← hj] at hm
        subst hm
        rw [ens_length, List.length_take, HN.out, Nat.min_eq_left hjn] at h4
        obtain ⟨a, c, rfl, h6⟩ := row_enl h4 (by rw [ens_length, List.length_take, HN.out, Nat.min_eq_left hjn]) (ens_ids _ _)
        exact ⟨a, c, rfl, h6, h5⟩
      have HJ : Hid (j = cwN q 4 l) := hj
      have HQ : Hid (q < s.size) := hqs
      clear hxs hor hOL2 hq hj
      go_wp2_with fail
      refine HBu.out.mono ?_
      rintro e w4 ⟨rfl, hb4⟩
      have HB4 : Hid (Below w3.heap.size w3 w4) := OR.out.bel.trans (hb4.mono OR.out.bel.size)
      clear hb4 HBu
      go_wp2_with fail
      refine (HSc.out _ (HA3.out.below HB4.out).l).mono ?_
      rintro e w5 ⟨v5, rfl, hb5⟩
      have HB5 : Hid (Below w3.heap.size w3 w5) := HB4.out.trans (hb5.mono HB4.out.size)
      clear hb5 HSc
      go_wp2_with fail
      refine (HSv.out _ (HA3.out.below HB5.out).l).mono ?_
      rintro e w6 ⟨al, cl, rfl, H6⟩
      have HB6 : Hid (Below w3.heap.size w3 w6) := HB5.out.trans (H6.out.2.mono HB5.out.size)
      have HEL6 : Hid (EnL w6 am (ens 4 l)) := HEL.out.below HB6.out
      have HLF6 : Hid (EnL w6 al (ens 4 (l.take j))) := H6.out.1
      have HA6 : Hid (All w6) := HA3.out.below HB6.out
      clear H6 HSv hcs hmod hmod2 hAr
      go_wp2
      go_loopw [23] (fun v wr => ∃ (i : Nat), v = .int .i64 i ∧ i ≤ k ∧ Hid (Below w6.heap.size w6 wr)) (fun v _ => k - (intOf v).toNat)
      case atStart => exact ⟨0, rfl, Nat.zero_le _, Below.refl _ _⟩
      case round =>
        obtain ⟨i, rfl, hi, HR⟩ := hrel
        by_cases hlt2 : i < k
        · have hkz2 : (i : Int) < (k : Nat) := by omega
          obtain ⟨o, ho⟩ : ∃ o, l[i]? = some o := ⟨l[i]'(by rw [HN.out]; exact hlt2), List.getElem?_eq_getElem _⟩
          have hle := rec_le HE.out i o ho
          have hok := (buE_ok HE.out).ok o (List.mem_of_getElem? ho)
          have hens := HENS.out i o ho
          have hcw := cwN_iff q l 4 i o ho
          have hlf := fun h => ens_take l j i o ho h
          rw [← HS.out] at hle
          rw [← HJ.out] at hcw
          obtain ⟨a, ha⟩ : ∃ a, a = 4 + lenL (l.take i) := ⟨_, rfl⟩
          rw [← ha] at hle hens hcw hlf
          have hpz : o.p.size ≤ 2097152 := ((okO_iff _).1 hok).2.2
          obtain ⟨g, z, C, rfl, hB, hC⟩ := HEL6.out.below HR.out i _ hens
          obtain ⟨x, hx⟩ : ∃ x, x = nmO o := ⟨_, rfl⟩
          have hxz : x.size = 32 := by rw [hx]; exact nmO_size _
          have hen : enO a o = ⟨x, o.k, a, o.p.size⟩ := by rw [enO, hx]
          rw [hen] at hC hlf
          clear hens hen hx ha ho hok
          obtain ⟨kk, p⟩ := o
          simp only at hle hpz hC hcw hlf
          have HSP : Hid (∀ W, Calls Tryd.prog 22 #[.agg (enC ⟨x, kk, a, p.size⟩)] W fun e w' => e = .returned (.tuple #[.int .i64 (a : Int), .int .i64 (9 + (p.size : Int))]) ∧ Below W.heap.size W w') := fun W => span_any ⟨x, kk, a, p.size⟩ W hxz (by simp only; omega) (by simp only; omega)
          have hi35 := info_en (enC_size ⟨x, kk, a, p.size⟩ hxz)
          have HB : Hid (Bk wr g C 56) := hB
          have HC : Hid (∀ j v, (enC ⟨x, kk, a, p.size⟩)[j]? = some v → C[z + i * 35 + j]? = some v) := hC
          have HLF : Hid (i < j → (ens 4 (l.take j))[i]? = some ⟨x, kk, a, p.size⟩) := hlf
          clear hB hC hlf
          by_cases hij : i < j
          · have hw1 : (a : Int) + (9 + (p.size : Int)) ≤ (q : Int) := by have := hcw.2 hij; omega
            have hw2 : (i : Int) < (j : Int) := by omega
            obtain ⟨gl, zl, Cl, rfl, hBl, hCl⟩ := HLF6.out.below HR.out i _ (HLF.out hij)
            have HBl : Hid (Bk wr gl Cl 56) := hBl
            have HCl : Hid (∀ j v, (enC ⟨x, kk, a, p.size⟩)[j]? = some v → Cl[zl + i * 35 + j]? = some v) := hCl
            clear hcw hij hBl hCl
            go_wp2_with (first
              | (refine wpList_get rfl 56 (.tmp 241) rfl g (z + i * 35) C (enC ⟨x, kk, a, p.size⟩) 56 _ rfl HB.out HC.out Tryd.underlying56 rfl hi35 ?_)
              | fail)
            refine (HSP.out _).mono ?_
            rintro e w7 ⟨rfl, hb7⟩
            have HB7 : Hid (Below wr.heap.size wr w7) := hb7
            have HK7 : Hid (Bk w7 g C 56) := HB.out.below hb7 HB.out.lt
            have HL7 : Hid (Bk w7 gl Cl 56) := HBl.out.below hb7 HBl.out.lt
            have hneq : ∀ W, (binOp .neq 56 (.agg (enC ⟨x, kk, a, p.size⟩)) (.agg (enC ⟨x, kk, a, p.size⟩))).run Tryd.prog W = .ok (.bool false) W := fun W => by rw [neq_enp _ _ hxz hxz, enQ_self]; rfl
            clear hb7 HSP
            go_wp2_with fail
            refine region_class10 (fun W => Below w7.heap.size w7 W) (by kernel_rfl) (by kernel_rfl) (Below.refl _ _).drew ?_
            repeat (first
              | go_big_quiet_skip
              | (go_big_quiet_want
                 first
                   | (refine quiet_row 56 (.tmp 262) rfl gl (zl + i * 35) Cl (enC ⟨x, kk, a, p.size⟩) 56 _ rfl (fun W hW => HL7.out.below hW HL7.out.lt) HCl.out Tryd.underlying56 rfl hi35 ?_; go_big_quiet_on; simp only [Act.put, List.setIfInBounds_toArray, List.set_cons_zero, List.set_cons_succ])
                   | (refine quiet_row 56 (.tmp 266) rfl g (z + i * 35) C (enC ⟨x, kk, a, p.size⟩) 56 _ rfl (fun W hW => HK7.out.below hW HK7.out.lt) HC.out Tryd.underlying56 rfl hi35 ?_; go_big_quiet_on; simp only [Act.put, List.setIfInBounds_toArray, List.set_cons_zero, List.set_cons_succ])
                   | (refine quiet_val10 (.bool false) ?_ ?_; (focus (intro W hW; go_simp; done)); go_big_quiet_on; simp only [Act.put, List.setIfInBounds_toArray, List.set_cons_zero, List.set_cons_succ])
                   | (refine quiet_val10 (.bool true) ?_ ?_; (focus (intro W hW; go_simp; done)); go_big_quiet_on; simp only [Act.put, List.setIfInBounds_toArray, List.set_cons_zero, List.set_cons_succ])
                   | (refine quiet_val10 (.int .i64 (j : Int)) ?_ ?_; (focus (intro W hW; go_simp; done)); go_big_quiet_on; simp only [Act.put, List.setIfInBounds_toArray, List.set_cons_zero, List.set_cons_succ])
                   | (refine quiet_val10 (.pointer (some ⟨gl, zl + i * 35, none⟩)) ?_ ?_; (focus (intro W hW; go_simp; done)); go_big_quiet_on; simp only [Act.put, List.setIfInBounds_toArray, List.set_cons_zero, List.set_cons_succ])
                   | (refine quiet_val10 (.pointer (some ⟨g, z + i * 35, none⟩)) ?_ ?_; (focus (intro W hW; go_simp; done)); go_big_quiet_on; simp only [Act.put, List.setIfInBounds_toArray, List.set_cons_zero, List.set_cons_succ])
                   | (go_big_quiet_op; go_big_quiet_on)))
            refine wpQuiet_nil ?_
            intro w8 hw8
            have HB8 : Hid (Below w6.heap.size w6 w8) := HR.out.trans ((HB7.out.trans (hw8.mono HB7.out.size)).mono HR.out.size)
            clear hw8
            go_wp2
            go_roundw
            case rel => exact ⟨i + 1, by go_num, by omega, HB8.out⟩
            case measure => simp [intOf]; omega
          · have hw1 : ¬ (a : Int) + (9 + (p.size : Int)) ≤ (q : Int) := fun h => hij (hcw.1 (by omega))
            have hw2 : ¬ (i : Int) < (j : Int) := by omega
            have hw3 : decide ((a : Int) + (9 + (p.size : Int)) ≤ (q : Int)) = false := decide_eq_false hw1
            have hw4 : decide ((i : Int) < (j : Int)) = false := decide_eq_false hw2
            have hw5 : decide (i < j) = false := decide_eq_false hij
            clear hcw hij HLF
            go_wp2_with (first
              | (refine wpList_get rfl 56 (.tmp 241) rfl g (z + i * 35) C (enC ⟨x, kk, a, p.size⟩) 56 _ rfl HB.out HC.out Tryd.underlying56 rfl hi35 ?_)
              | fail)
            refine (HSP.out _).mono ?_
            rintro e w7 ⟨rfl, hb7⟩
            have HB7 : Hid (Below wr.heap.size wr w7) := hb7
            clear hb7 HSP
            go_wp2_with fail
            refine region_class10 (fun W => Below w7.heap.size w7 W) (by kernel_rfl) (by kernel_rfl) (Below.refl _ _).drew ?_
            repeat (first
              | go_big_quiet_skip
              | (go_big_quiet_want
                 first
                   | (refine quiet_val10 (.bool false) ?_ ?_; (focus (intro W hW; go_simp; done)); go_big_quiet_on; simp only [Act.put, List.setIfInBounds_toArray, List.set_cons_zero, List.set_cons_succ])
                   | (refine quiet_val10 (.int .i64 (j : Int)) ?_ ?_; (focus (intro W hW; go_simp; done)); go_big_quiet_on; simp only [Act.put, List.setIfInBounds_toArray, List.set_cons_zero, List.set_cons_succ])
                   | (go_big_quiet_op; go_big_quiet_on)))
            refine wpQuiet_nil ?_
            intro w8 hw8
            have HB8 : Hid (Below w6.heap.size w6 w8) := HR.out.trans ((HB7.out.trans (hw8.mono HB7.out.size)).mono HR.out.size)
            clear hw8
            go_wp2
            go_roundw
            case rel => exact ⟨i + 1, by go_num, by omega, HB8.out⟩
            case measure => simp [intOf]; omega
        · have hkz2 : ¬ (i : Int) < (k : Nat) := by omega
          obtain ⟨y, hy⟩ : ∃ y, y = sb (sha (byl s)) := ⟨_, rfl⟩
          have hyz : y.size = 32 := by rw [hy]; exact sha_size _
          obtain ⟨L, hL⟩ : ∃ L, L = lbl y := ⟨_, rfl⟩
          have hLz : L.size ≤ 140737488351232 := by
            rw [hL, lbl, ByteArray.size_append, ByteArray.size_append, sb_size, hexL_length, bl_length, hyz]; decide
          have HSm : Hid (∀ W, Lst W → Calls Tryd.prog 32 #[.string s] W fun e w' => e = .returned (.agg (idc y)) ∧ Below W.heap.size W w') := fun W hW => by rw [hy]; exact sum_id s W hW (by omega)
          have HLb : Hid (∀ W, All W → Calls Tryd.prog 27 #[.agg (idc y)] W fun e w' => e = .returned (.string L) ∧ Below W.heap.size W w') := fun W hW => by rw [hL]; exact label_any y W hyz hW
          have HSu : Hid (∀ W, All W → Calls Tryd.prog 24 #[.string L] W fun e w' => e = .returned (.tuple #[.agg (idc y), .int .i64 0]) ∧ Below W.heap.size W w') := fun W hW => by
            have := sum11 L W hLz hW
            rw [hL, (sm_lbl y hyz).1, (sm_lbl y hyz).2] at this
            rw [hL]; exact this
          have HFt : Hid (∀ W, All W → Calls Tryd.prog 29 #[.string L, .string s] W fun e w' => e = .returned (.bool true) ∧ Below W.heap.size W w') := fun W hW => by
            have := fits11 L s W (by omega) (by omega) hW
            have hf : ftB11 L s = true := by rw [ftB11, ← hy, ← hL]; exact beq_self_eq_true _
            rwa [hf] at this
          have heq : Hid (∀ W, (binOp .eql 54 (.agg (idc y)) (.agg (idc y))).run Tryd.prog W = .ok (.bool true) W) := fun W => by rw [eql_ids y y hyz hyz]; simp
          have hi32 : (Tryd.prog.info? 54).map (·.size) = some (idc y).size := info_32 (by rw [idc_size, hyz])
          have hiz : z32c.size = (idc y).size := by rw [idc_size, hyz]; exact z32c_size
          have HAr : Hid (All wr) := HA6.out.below HR.out
          have HBr : Hid (Below w.heap.size w wr) := HB3.out.trans ((HB6.out.trans (HR.out.mono HB6.out.size)).mono HB3.out.size)
          clear hy hL
          go_wp2_with (first
            | (go_at_call 32; refine (HSm.out _ HAr.out.l).mono ?_; rintro e w7 ⟨rfl, hb7⟩; have HA7 : Hid (All w7) := HAr.out.below hb7; have HB7 : Hid (Below w.heap.size w w7) := HBr.out.trans (hb7.mono HBr.out.size); clear hb7)
            | (refine wpList_store_abs rfl 54 (.tmp 27) (.tmp 272) rfl (idc y) z32c 54 w7.heap.size rfl rfl rfl hi32 hiz (idc_all y) ?_; intro w8 HBk HG hsz8; have HK8 : Hid (Bk w8 w7.heap.size (idc y) 54) := HBk.out; have HA8 : Hid (All w8) := HA7.out.below (below_none HG.out); have HB8 : Hid (Below w.heap.size w w8) := HB7.out.trans ((below_none HG.out).mono HB7.out.size))
            | (refine wpList_get rfl 54 (.tmp 27) rfl w7.heap.size 0 (idc y) (idc y) 54 _ rfl HK8.out (fun j u hu => by rw [Nat.zero_add]; exact hu) Tryd.underlying54 rfl hi32 ?_)
            | fail)
          refine (HLb.out _ HA8.out).mono ?_
          rintro e w9 ⟨rfl, hb9⟩
          have HA9 : Hid (All w9) := HA8.out.below hb9
          have HB9 : Hid (Below w.heap.size w w9) := HB8.out.trans (hb9.mono HB8.out.size)
          have HK9 : Hid (Bk w9 w7.heap.size (idc y) 54) := HK8.out.below hb9 HK8.out.lt
          clear hb9
          go_wp2_with fail
          refine (HSu.out _ HA9.out).mono ?_
          rintro e w10 ⟨rfl, hb10⟩
          have HA10 : Hid (All w10) := HA9.out.below hb10
          have HB10 : Hid (Below w.heap.size w w10) := HB9.out.trans (hb10.mono HB9.out.size)
          have HK10 : Hid (Bk w10 w7.heap.size (idc y) 54) := HK9.out.below hb10 HK9.out.lt
          clear hb10
          have hbn : Bk (w10.alloc (.cells z32c 54)) w10.heap.size z32c 54 := bk_new _ _ _
          have HFin : Hid (∀ w11, Bk w11 w10.heap.size (putC z32c 0 (idc y).toList) 54 → (w10.alloc (.cells z32c 54)).grownBy w11 (some w10.heap.size) → Bk w11 w10.heap.size (idc y) 54 ∧ Bk w11 w7.heap.size (idc y) 54 ∧ All w11 ∧ Below w.heap.size w w11) := fun w11 h1 h2 => by
            have h3 : Below w10.heap.size w10 w11 := below_own ((Below.refl _ _).alloc (Nat.le_refl _) _) (by rw [al_size]; omega) h2 (Nat.le_refl _)
            refine ⟨?_, HK10.out.below h3 HK10.out.lt, HA10.out.below h3, HB10.out.trans (h3.mono HB10.out.size)⟩
            have e : putC z32c 0 (idc y).toList = idc y := by
              apply Array.ext'
              exact putAll (by rw [Array.length_toList, hiz])
            rw [e] at h1
            exact h1
          go_upto_region 34 with (first
            | (refine wpList_put (op := { dst := none, op := .store 54 (.tmp 28) (.tmp 277), type := _, pos := _, after := _, guard := none }) rfl 54 (.tmp 28) (.tmp 277) rfl w10.heap.size 0 z32c (idc y) 54 rfl rfl hbn hi32 (by rw [hiz]; omega) (idc_all y) ?_; intro w11 HBk2 HG2 hsz11; have H11 : Hid (Bk w11 w10.heap.size (idc y) 54 ∧ Bk w11 w7.heap.size (idc y) 54 ∧ All w11 ∧ Below w.heap.size w w11) := HFin.out w11 HBk2.out HG2.out)
            | fail)
          have HLc : Hid (∀ W, Below w11.heap.size w11 W → Calls Tryd.prog 27 #[.agg (idc y)] W fun e w' => e = .returned (.string L) ∧ Below w11.heap.size w11 w') := fun W hW => (HLb.out W (H11.out.2.2.1.below hW)).mono fun e w' h => ⟨h.1, hW.trans (h.2.mono hW.size)⟩
          have HFc : Hid (∀ W, Below w11.heap.size w11 W → Calls Tryd.prog 29 #[.string L, .string s] W fun e w' => e = .returned (.bool true) ∧ Below w11.heap.size w11 w') := fun W hW => (HFt.out W (H11.out.2.2.1.below hW)).mono fun e w' h => ⟨h.1, hW.trans (h.2.mono hW.size)⟩
          have HWc : Hid (∀ W, Below w11.heap.size w11 W → Calls Tryd.prog 12 #[] W fun e w' => e = .returned (.bool true) ∧ Below w11.heap.size w11 w') := fun W hW => (awake11 W (H11.out.2.2.1.below hW).l).mono fun e w' h => ⟨h.1, hW.trans (h.2.mono hW.size)⟩
          rename_i K3 A2 K2 Q1 K1 A1 K0 A0
          clear A2 A1 HBk2 HG2 hsz11 hiz
          refine region_plain11 (fun W => Below w11.heap.size w11 W) (Below.refl _ _) ?_
          (go_big_quiet_want; (refine quiet_row 54 (.tmp 28) rfl w10.heap.size 0 (idc y) (idc y) 54 _ rfl (fun W hW => H11.out.1.below hW H11.out.1.lt) (fun j v hv => by rw [Nat.zero_add]; exact hv) Tryd.underlying54 rfl hi32 ?_; go_big_quiet_on; simp only [Act.put, List.setIfInBounds_toArray, List.set_cons_zero, List.set_cons_succ]))
          (go_big_quiet_want; (refine quiet_row 54 (.tmp 27) rfl w7.heap.size 0 (idc y) (idc y) 54 _ rfl (fun W hW => H11.out.2.1.below hW H11.out.2.1.lt) (fun j v hv => by rw [Nat.zero_add]; exact hv) Tryd.underlying54 rfl hi32 ?_; go_big_quiet_on; simp only [Act.put, List.setIfInBounds_toArray, List.set_cons_zero, List.set_cons_succ]))
          (go_big_quiet_want; (refine quiet_val10 (.bool true) ?_ ?_; (focus (intro W hW; have hq := heq.out; go_simp; done)); go_big_quiet_on; simp only [Act.put, List.setIfInBounds_toArray, List.set_cons_zero, List.set_cons_succ]))
          (go_big_quiet_want; (go_big_quiet_op; go_big_quiet_on))
          (go_big_quiet_want; (go_big_quiet_op; go_big_quiet_on))
          (go_big_quiet_want; (refine quiet_val10 (.bool true) ?_ ?_; (focus (intro W hW; go_simp; done)); go_big_quiet_on; simp only [Act.put, List.setIfInBounds_toArray, List.set_cons_zero, List.set_cons_succ]))
          (go_big_quiet_want; (refine quiet_val10 (.bool true) ?_ ?_; (focus (intro W hW; go_simp; done)); go_big_quiet_on; simp only [Act.put, List.setIfInBounds_toArray, List.set_cons_zero, List.set_cons_succ]))
          (go_big_quiet_want; (go_big_quiet_op; go_big_quiet_on))
          (go_big_quiet_want; (refine quiet_row 54 (.tmp 27) rfl w7.heap.size 0 (idc y) (idc y) 54 _ rfl (fun W hW => H11.out.2.1.below hW H11.out.2.1.lt) (fun j v hv => by rw [Nat.zero_add]; exact hv) Tryd.underlying54 rfl hi32 ?_; go_big_quiet_on; simp only [Act.put, List.setIfInBounds_toArray, List.set_cons_zero, List.set_cons_succ]))
          (go_big_quiet_want; (refine quiet_call10 (.string L) 27 #[.agg (idc y)] ?_ ?_ ?_; (focus (intro W hW; go_simp; done)); (focus (intro W hW; exact HLc.out W hW)); go_big_quiet_on; simp only [Act.put, List.setIfInBounds_toArray, List.set_cons_zero, List.set_cons_succ]))
          (go_big_quiet_want; (go_big_quiet_op; go_big_quiet_on))
          (go_big_quiet_want; (refine quiet_call10 (.bool true) 29 #[.string L, .string s] ?_ ?_ ?_; (focus (intro W hW; go_simp; done)); (focus (intro W hW; exact HFc.out W hW)); go_big_quiet_on; simp only [Act.put, List.setIfInBounds_toArray, List.set_cons_zero, List.set_cons_succ]))
          (go_big_quiet_want; (refine quiet_val10 (.bool true) ?_ ?_; (focus (intro W hW; go_simp; done)); go_big_quiet_on; simp only [Act.put, List.setIfInBounds_toArray, List.set_cons_zero, List.set_cons_succ]))
          (go_big_quiet_want; (go_big_quiet_op; go_big_quiet_on))
          (go_big_quiet_want; (refine quiet_call10 (.bool true) 12 #[] ?_ ?_ ?_; (focus (intro W hW; go_simp; done)); (focus (intro W hW; exact HWc.out W hW)); go_big_quiet_on; simp only [Act.put, List.setIfInBounds_toArray, List.set_cons_zero, List.set_cons_succ]))
          (go_big_quiet_want; (refine quiet_val10 (.bool true) ?_ ?_; (focus (intro W hW; go_simp; done)); go_big_quiet_on; simp only [Act.put, List.setIfInBounds_toArray, List.set_cons_zero, List.set_cons_succ]))
          (go_big_quiet_want; (go_big_quiet_op; go_big_quiet_on))
          refine wpQuiet_nil ?_
          intro w14 hw14
          have HB14 : Hid (Below w.heap.size w w14) := H11.out.2.2.2.trans (hw14.mono H11.out.2.2.2.size)
          clear hw14
          go_wp2
          go_ret
          exact ⟨rfl, HB14.out⟩
end Go.Proofs.YtkmbhenneadclaaDoor
