/- The walk of munimentlaw02.DigestPieces. -/
import Derived.Test.YtbfdggkoildfkaaDoorZ12
import Derived.Test.YtbfdggkoildfkaaDoorO4
namespace Go.Proofs.YtbfdggkoildfkaaDoor
open Go.RowKit
set_option linter.unusedSimpArgs false
set_option linter.unusedVariables false
/-- Two sums under way: what was written to the one, how many letters to the other. -/
structure Pc (w : World) (b1 b2 : Nat) (a : ByteArray) (k : Nat) (wr : World) : Prop where
  s1 : ∃ m, Stt wr b1 52 (byl a) m
  s2 : ∃ m, Stt wr b2 52 (List.replicate k 120) m
  below : Below w.heap.size w wr
theorem quiet_idb {o : Oper} {a : Act} {C : World → Prop} {K : Act → Prop} (s : ByteArray) (hs : s.size = 32) (x : Operand) (ho : o.op = .load 23 x) (g : Nat) (hx : a.eval x = .pointer (some ⟨g, 0, none⟩))
    (hr : ∀ w, C w → Blk w g (idc s) 23) (hn : K (a.put o.dst (.agg (idc s)))) : o.quiet Tryd.prog a C K :=
  quiet_val (.agg (idc s)) (fun w hw => by
    have h := run_loadAt_mid (P := Tryd.prog) w g 0 23 (idc s).toList _ (fun j u hj => by rw [(hr w hw).cell, Nat.zero_add, ← hj, Array.getElem?_toList]) Tryd.underlying23 rfl (by rw [Array.length_toList]; exact info_32 (by rw [idc_size, hs]))
    unfold execOp
    simp only [ho, hx, h, Sem.run_bind, Result.andThen_ok]
    rfl) hn
theorem idc_one' (s : ByteArray) : (idc s).all (·.oneCell') = true := Array.all_eq_true_iff_forall_mem.2 (by intro v hv; exact bvc_one _ v (by simpa [idc] using hv))
theorem Pc.below' {w : World} {b1 b2 : Nat} {a : ByteArray} {k : Nat} {wr w' : World} (h : Pc w b1 b2 a k wr) (hb : Below wr.heap.size wr w') : Pc w b1 b2 a k w' := by
  obtain ⟨m1, h1⟩ := h.s1
  obtain ⟨m2, h2⟩ := h.s2
  exact ⟨⟨m1, h1.grown (grown_of_below hb none) (by simp)⟩, ⟨m2, h2.grown (grown_of_below hb none) (by simp)⟩, h.below.trans (hb.mono h.below.size)⟩
theorem Pc.grown' {w : World} {b1 b2 : Nat} {a : ByteArray} {k : Nat} {wr w' : World} (h : Pc w b1 b2 a k wr) (hg : wr.grownBy w' none) : Pc w b1 b2 a k w' :=
  h.below' (below_of_grown hg)
theorem x_byl : byl ⟨#[120]⟩ = [120] := by decide +kernel
theorem rep_snoc (k : Nat) : List.replicate k 120 ++ [120] = List.replicate (k + 1) 120 := by rw [List.replicate_succ']
set_option maxRecDepth 100000 in
set_option maxHeartbeats 4000000 in
theorem pieces_walk (a0 : Option Addr) (n cap : Nat) (T : Nat → ByteArray) (w : World) (hn : n ≤ maxLen) (hL : LieS w a0 n T) (hT : ∀ i, i < n → (T i).size ≤ 140737488351232) (hA : All w) :
    Calls Tryd.prog 4 #[.slice a0 n cap] w fun e w' => e = .returned (.bool true) ∧ Below w.heap.size w w' := by
  unfold maxLen at hn
  have HL : Hid (LieS w a0 n T) := hL
  have HT : Hid (∀ i, i < n → (T i).size ≤ 140737488351232) := hT
  have HA : Hid (All w) := hA
  have hlt2 := hA.lt
  clear hL hT hA
  go_enter Tryd.func4, Tryd.ntmps4
  go_wp2_with fail
  refine (new_any w HA.out.l).mono ?_
  rintro e w1 ⟨b1, rfl, hb1, hs1, hg1⟩
  have H1 : Hid (Below w.heap.size w w1) := below_of_grown hg1
  have HS1 : Hid (Stt w1 b1 52 [] z64) := hs1
  have z1 : b1 < w1.heap.size := blk_lt hs1.blk
  clear hs1 hg1
  go_wp2_with fail
  refine (new_any w1 (HA.out.below H1.out).l).mono ?_
  rintro e w2 ⟨b2, rfl, hb2, hs2, hg2⟩
  have HP : Hid (Pc w b1 b2 ⟨#[]⟩ 0 w2) := ⟨⟨z64, HS1.out.grown hg2 (by simp)⟩, ⟨z64, hs2⟩, H1.out.trans ((below_of_grown hg2).mono H1.out.size)⟩
  clear hs2 hg2 HS1 H1
  go_wp2
  go_loopw [5, 6] (fun v i wr => ∃ (k : Nat) (a : ByteArray), k ≤ n ∧ k ≤ 60 ∧ i = .int .i64 k ∧ v = .string a ∧ a.size ≤ 300 * k ∧ Hid (Pc w b1 b2 a k wr)) (fun _ i _ => 70 - (intOf i).toNat)
  case atStart => exact ⟨0, ⟨#[]⟩, by omega, by omega, rfl, rfl, by decide, HP.out⟩
  case round =>
    clear HP
    obtain ⟨k, a, hk, hk60, rfl, rfl, haz, HR⟩ := hrel
    have zr : w.heap.size ≤ wr.heap.size := HR.out.below.size
    by_cases hlt : k < n ∧ k < 60
    · obtain ⟨h1, h2⟩ := hlt
      obtain ⟨g, o, rfl, hg, hc⟩ := HL.out k h1
      obtain ⟨x, hx⟩ : ∃ x, x = T k := ⟨_, rfl⟩
      rw [← hx] at hc
      have hxz : x.size ≤ 140737488351232 := by rw [hx]; exact HT.out k h1
      have hcr : wr.cell? ⟨g, o + k, none⟩ = some (.string x) := by rw [HR.out.below.cell (p := ⟨g, o + k, none⟩) hg]; exact hc
      clear hc hx
      have hp3 : (x.size : Int) ≤ 300 ∨ ((300 : Int) < x.size ∧ (300 : Int) ≤ x.size) := by omega
      rcases hp3 with h300 | ⟨h300, hle⟩
      all_goals
        go_wp2
        refine wp_region_class (fun W => W.cell? ⟨g, o + k, none⟩ = some (.string x) ∧ Pc w b1 b2 a k W) (by kernel_rfl) (by kernel_rfl) ⟨hcr, HR.out.grown' (Lib.Hx.grownBy_drew (World.grownBy.refl _ _))⟩ ?_
        repeat (first
          | go_big_quiet_skip
          | (go_big_quiet_want
             first
               | (refine quiet_str _ rfl g (o + k) x rfl (fun _ h => h.1) ?_; go_big_quiet_on; simp only [Act.put, List.setIfInBounds_toArray, List.set_cons_zero, List.set_cons_succ])
               | (refine quiet_val (.pointer (some ⟨g, o + k, none⟩)) ?_ ?_; (focus (intro W hW; go_simp; done)); go_big_quiet_on; simp only [Act.put, List.setIfInBounds_toArray, List.set_cons_zero, List.set_cons_succ])
               | (refine quiet_val (.int .i64 (x.size : Int)) ?_ ?_; (focus (intro W hW; go_simp; first | done | omega | (rw [if_neg (by omega)]) | (rw [if_pos (by omega)]))); go_big_quiet_on; simp only [Act.put, List.setIfInBounds_toArray, List.set_cons_zero, List.set_cons_succ])
               | (refine quiet_val (.int .i64 300) ?_ ?_; (focus (intro W hW; go_simp; first | done | omega | (rw [if_neg (by omega)]) | (rw [if_pos (by omega)]))); go_big_quiet_on; simp only [Act.put, List.setIfInBounds_toArray, List.set_cons_zero, List.set_cons_succ])
               | (refine quiet_val (.string x) ?_ ?_; (focus (intro W hW; go_simp; done)); go_big_quiet_on; simp only [Act.put, List.setIfInBounds_toArray, List.set_cons_zero, List.set_cons_succ])
               | (refine quiet_val (.string (x.extract 0 300)) ?_ ?_; (focus (intro W hW; go_simp; first | done | (rw [if_pos (by omega)]))); go_big_quiet_on; simp only [Act.put, List.setIfInBounds_toArray, List.set_cons_zero, List.set_cons_succ])
               | (go_big_quiet_op; go_big_quiet_on)))
        refine wpQuiet_nil ?_
        intro w3 hw3
        have HR3 : Hid (Pc w b1 b2 a k w3) := hw3.2
        clear hw3 hcr
      all_goals first
        | (obtain ⟨p, hp⟩ : ∃ p, p = x.extract 0 300 := ⟨_, rfl⟩
           rw [← hp]
           have hpz : p.size ≤ 300 := by rw [hp]; simp; omega
           clear hp h300)
        | (obtain ⟨p, hp⟩ : ∃ p, p = x := ⟨_, rfl⟩
           rw [← hp]
           have hpz : p.size ≤ 300 := by rw [hp]; omega
           clear hp h300)
      all_goals
        have hap : a.size + p.size ≤ 300 * (k + 1) := by omega
        go_wp2_with fail
        obtain ⟨m1, hs1⟩ := HR3.out.s1
        refine (write_any (byl a) m1 p b1 w3 hs1 (HA.out.below HR3.out.below).l (by omega) (by rw [byl_length]; omega)).mono ?_
        rintro e w4 ⟨rfl, ⟨m1', hs4⟩, hg4⟩
        clear hs1
        obtain ⟨a', ha'⟩ : ∃ a', a' = a ++ p := ⟨_, rfl⟩
        have haz' : a'.size ≤ 300 * (k + 1) := by rw [ha', append_size]; omega
        have hby : byl a' = byl a ++ byl p := by rw [ha']; exact byl_app a p
        rw [← hby] at hs4
        rw [← ha']
        clear hby ha'
        obtain ⟨m2, hs2⟩ := HR3.out.s2
        have hz3 : w.heap.size ≤ w3.heap.size := HR3.out.below.size
        have hb4 : Below w.heap.size w w4 := HR3.out.below.grown hg4 hz3 (fun j hj => by cases hj; exact hb1)
        have hs24 := hs2.grown hg4 (by simp; omega)
        have HB4 : Hid (Below w.heap.size w w4) := hb4
        have HS4 : Hid (Stt w4 b1 52 (byl a') m1') := hs4
        have HS24 : Hid (Stt w4 b2 52 (List.replicate k 120) m2) := hs24
        have hz4 : w.heap.size ≤ w4.heap.size := hb4.size
        clear hs4 hs24 hs2 hg4 hb4
        go_wp2_with fail
        refine (write_any (List.replicate k 120) m2 ⟨#[120]⟩ b2 w4 HS24.out (HA.out.below HB4.out).l (by omega) (by rw [List.length_replicate, show (⟨#[120]⟩ : ByteArray).size = 1 from rfl]; omega)).mono ?_
        rintro e w5 ⟨rfl, ⟨m2', hs5⟩, hg5⟩
        rw [x_byl, rep_snoc] at hs5
        have HP5 : Hid (Pc w b1 b2 a' (k + 1) w5) := ⟨⟨m1', HS4.out.grown hg5 (by simp; omega)⟩, ⟨m2', hs5⟩, HB4.out.grown hg5 hz4 (fun j hj => by cases hj; omega)⟩
        have hz5 : w.heap.size ≤ w5.heap.size := HP5.out.below.size
        clear hs5 hg5 HS4 HS24 HB4
        go_wp2_with fail
        obtain ⟨m5, hs5⟩ := HP5.out.s1
        refine (stsum_any (byl a') m5 b1 w5 hs5 (HA.out.below HP5.out.below).l (by rw [byl_length]; omega)).mono ?_
        rintro e w6 ⟨rfl, hb6⟩
        rw [shc_idc]
        obtain ⟨q, hq⟩ : ∃ q, q = sb (sha (byl a')) := ⟨_, rfl⟩
        rw [← hq]
        have hqz : q.size = 32 := by rw [hq]; exact sha_size _
        have HQ : Hid (q = sb (sha (byl a'))) := hq
        have HP6 : Hid (Pc w b1 b2 a' (k + 1) w6) := HP5.out.below' hb6
        clear hb6 hq hs5 HP5
        go_wp2_with (refine wpList_store_abs rfl 23 (.tmp 9) (.tmp 47) rfl (idc q) _ 23 w6.heap.size rfl rfl rfl (info_32 (by rw [idc_size, hqz])) (by rw [idc_size, hqz]; rfl) (idc_one' q) ?_; intro w7 HI7 HG7 hz7)
        have HP7 : Hid (Pc w b1 b2 a' (k + 1) w7) := HP6.out.grown' HG7.out
        have qn := neq_ids q q hqz hqz
        have HWA : Hid (IntKind.u64.wrap (a'.size : Int) = (a'.size : Int)) := wrap64s _ (by omega)
        have C1 : Hid (∀ W, (Blk W w6.heap.size (idc q) 23 ∧ Pc w b1 b2 a' (k + 1) W) → Calls Tryd.prog 11 #[.string a'] W (fun e w'' => e = .returned (.agg (idc q)) ∧ (Blk w'' w6.heap.size (idc q) 23 ∧ Pc w b1 b2 a' (k + 1) w''))) := fun W hW =>
          (quick_id a' W (by omega)).mono (fun _ _ h => ⟨by rw [h.1, HQ.out], hW.1.grown (grown_of_below h.2 none) (by simp), hW.2.below' h.2⟩)
        have C2 : Hid (∀ W, (Blk W w6.heap.size (idc q) 23 ∧ Pc w b1 b2 a' (k + 1) W) → Calls Tryd.prog 22 #[.pointer (some ⟨b1, 0, none⟩)] W (fun e w'' => e = .returned (.int .u64 (a'.size : Int)) ∧ (Blk w'' w6.heap.size (idc q) 23 ∧ Pc w b1 b2 a' (k + 1) w''))) := fun W hW => by
          obtain ⟨mm, hm⟩ := hW.2.s1
          exact (wrote_any (byl a') mm b1 W hm).mono (fun _ _ h => ⟨by rw [h.1, byl_length], by rw [h.2]; exact hW⟩)
        clear HG7 hz7 HP6
        refine wp_region_class (fun W => Blk W w6.heap.size (idc q) 23 ∧ Pc w b1 b2 a' (k + 1) W) (by kernel_rfl) (by kernel_rfl) ⟨HI7.out, HP7.out.grown' (Lib.Hx.grownBy_drew (World.grownBy.refl _ _))⟩ ?_
        repeat (first
          | go_big_quiet_skip
          | (go_big_quiet_want
             first
               | (refine quiet_idb q hqz _ rfl w6.heap.size rfl (fun _ h => h.1) ?_; go_big_quiet_on; simp only [Act.put, List.setIfInBounds_toArray, List.set_cons_zero, List.set_cons_succ])
               | (refine quiet_call (.agg (idc q)) 11 #[.string a'] ?_ ?_ ?_; (focus (intro W hW; go_simp; done)); (focus (intro W hW; exact C1.out W hW)); go_big_quiet_on; simp only [Act.put, List.setIfInBounds_toArray, List.set_cons_zero, List.set_cons_succ])
               | (refine quiet_call (.int .u64 (a'.size : Int)) 22 #[.pointer (some ⟨b1, 0, none⟩)] ?_ ?_ ?_; (focus (intro W hW; go_simp; done)); (focus (intro W hW; exact C2.out W hW)); go_big_quiet_on; simp only [Act.put, List.setIfInBounds_toArray, List.set_cons_zero, List.set_cons_succ])
               | (refine quiet_val (.bool false) ?_ ?_; (focus (intro W hW; go_simp; done)); go_big_quiet_on; simp only [Act.put, List.setIfInBounds_toArray, List.set_cons_zero, List.set_cons_succ])
               | (refine quiet_val (.int .i64 (a'.size : Int)) ?_ ?_; (focus (intro W hW; go_simp; done)); go_big_quiet_on; simp only [Act.put, List.setIfInBounds_toArray, List.set_cons_zero, List.set_cons_succ])
               | (refine quiet_val (.int .u64 (a'.size : Int)) ?_ ?_; (focus (intro W hW; go_simp; first | done | exact HWA.out)); go_big_quiet_on; simp only [Act.put, List.setIfInBounds_toArray, List.set_cons_zero, List.set_cons_succ])
               | (go_big_quiet_op; go_big_quiet_on)))
        refine wpQuiet_nil ?_
        intro w8 hw8
        have HP8 : Hid (Pc w b1 b2 a' (k + 1) w8) := hw8.2
        clear hw8 HI7 HP7 C1 C2 qn
        go_wp2
        go_roundw
        case rel => exact ⟨k + 1, a', by omega, by omega, by go_num, rfl, haz', HP8.out⟩
        case measure => simp [intOf]; omega
    · have hke : (k = n ∧ (n : Int) ≤ 60) ∨ (k = 60 ∧ (60 : Int) < n) := by omega
      have hkt : (¬ k < n) ∨ (k < n ∧ ¬ k < 60) := by omega
      have HKE : Hid ((k = n ∧ (n : Int) ≤ 60) ∨ (k = 60 ∧ (60 : Int) < n)) := hke
      clear hke hlt
      have HWK : Hid (IntKind.u64.wrap (k : Int) = (k : Int)) := wrap64s _ (by omega)
      obtain ⟨q, hq⟩ : ∃ q, q = sb (sha (byl a)) := ⟨_, rfl⟩
      have hqz : q.size = 32 := by rw [hq]; exact sha_size _
      have HQ : Hid (q = sb (sha (byl a))) := hq
      clear hq
      rcases hkt with h1 | ⟨h1, h2⟩
      all_goals
        go_wp2_with fail
        obtain ⟨m5, hs5⟩ := HR.out.s1
        refine (stsum_any (byl a) m5 b1 wr hs5 (HA.out.below HR.out.below).l (by rw [byl_length]; omega)).mono ?_
        rintro e w6 ⟨rfl, hb6⟩
        rw [shc_idc, ← HQ.out]
        have HP6 : Hid (Pc w b1 b2 a k w6) := HR.out.below' hb6
        clear hb6 hs5
        go_wp2_with (refine wpList_store_abs rfl 23 (.tmp 11) (.tmp 72) rfl (idc q) _ 23 w6.heap.size rfl rfl rfl (info_32 (by rw [idc_size, hqz])) (by rw [idc_size, hqz]; rfl) (idc_one' q) ?_; intro w7 HI7 HG7 hz7)
        have HP7 : Hid (Pc w b1 b2 a k w7) := HP6.out.grown' HG7.out
        have qe := eql_ids q q hqz hqz
        have C1 : Hid (∀ W, (Blk W w6.heap.size (idc q) 23 ∧ Pc w b1 b2 a k W) → Calls Tryd.prog 9 #[.string a] W (fun e w'' => e = .returned (.agg (idc q)) ∧ (Blk w'' w6.heap.size (idc q) 23 ∧ Pc w b1 b2 a k w''))) := fun W hW =>
          (sum_id a W (HA.out.below hW.2.below).l (by omega)).mono (fun _ _ h => ⟨by rw [h.1, HQ.out], hW.1.grown (grown_of_below h.2 none) (by simp), hW.2.below' h.2⟩)
        have C2 : Hid (∀ W, (Blk W w6.heap.size (idc q) 23 ∧ Pc w b1 b2 a k W) → Calls Tryd.prog 22 #[.pointer (some ⟨b2, 0, none⟩)] W (fun e w'' => e = .returned (.int .u64 (k : Int)) ∧ (Blk w'' w6.heap.size (idc q) 23 ∧ Pc w b1 b2 a k w''))) := fun W hW => by
          obtain ⟨mm, hm⟩ := hW.2.s2
          exact (wrote_any (List.replicate k 120) mm b2 W hm).mono (fun _ _ h => ⟨by rw [h.1, List.length_replicate], by rw [h.2]; exact hW⟩)
        have C3 : Hid (∀ W, (Blk W w6.heap.size (idc q) 23 ∧ Pc w b1 b2 a k W) → Calls Tryd.prog 18 #[] W (fun e w'' => e = .returned (.bool true) ∧ (Blk w'' w6.heap.size (idc q) 23 ∧ Pc w b1 b2 a k w''))) := fun W hW =>
          (awake_any W (HA.out.below hW.2.below)).mono (fun _ _ h => ⟨h.1, hW.1.grown (grown_of_below h.2 none) (by simp), hW.2.below' h.2⟩)
        have HWN : Hid (IntKind.u64.wrap (n : Int) = (n : Int)) := wrap64s _ (by omega)
        clear HG7 hz7 HP6
      all_goals
        have hk4 : ((n : Int) ≤ 60 ∧ ((k : Int) ≤ n ∧ (n : Int) ≤ k)) ∨ ((60 : Int) < n ∧ ((k : Int) ≤ 60 ∧ (60 : Int) ≤ k)) := by have := HKE.out; omega
        have hk5 := hk4
        clear HKE HR
        rcases hk4 with ⟨e1, e2, e3⟩ | ⟨e1, e2, e3⟩
      all_goals first | (exfalso; omega) | clear hk5 h1 hk hk60
      all_goals
        refine wp_region_class (fun W => Blk W w6.heap.size (idc q) 23 ∧ Pc w b1 b2 a k W) (by kernel_rfl) (by kernel_rfl) ⟨HI7.out, HP7.out.grown' (Lib.Hx.grownBy_drew (World.grownBy.refl _ _))⟩ ?_
        repeat (first
          | go_big_quiet_skip
          | (go_big_quiet_want
             first
               | (refine quiet_idb q hqz _ rfl w6.heap.size rfl (fun _ h => h.1) ?_; go_big_quiet_on; simp only [Act.put, List.setIfInBounds_toArray, List.set_cons_zero, List.set_cons_succ])
               | (refine quiet_call (.agg (idc q)) 9 #[.string a] ?_ ?_ ?_; (focus (intro W hW; go_simp; done)); (focus (intro W hW; exact C1.out W hW)); go_big_quiet_on; simp only [Act.put, List.setIfInBounds_toArray, List.set_cons_zero, List.set_cons_succ])
               | (refine quiet_call (.int .u64 (k : Int)) 22 #[.pointer (some ⟨b2, 0, none⟩)] ?_ ?_ ?_; (focus (intro W hW; go_simp; done)); (focus (intro W hW; exact C2.out W hW)); go_big_quiet_on; simp only [Act.put, List.setIfInBounds_toArray, List.set_cons_zero, List.set_cons_succ])
               | (refine quiet_call (.bool true) 18 #[] ?_ ?_ ?_; (focus (intro W hW; go_simp; done)); (focus (intro W hW; exact C3.out W hW)); go_big_quiet_on; simp only [Act.put, List.setIfInBounds_toArray, List.set_cons_zero, List.set_cons_succ])
               | (refine quiet_val (.bool true) ?_ ?_; (focus (intro W hW; go_simp; first | done | omega | (rw [beq_iff_eq]; omega))); go_big_quiet_on; simp only [Act.put, List.setIfInBounds_toArray, List.set_cons_zero, List.set_cons_succ])
               | (refine quiet_val (.int .i64 (n : Int)) ?_ ?_; (focus (intro W hW; go_simp; first | done | omega)); go_big_quiet_on; simp only [Act.put, List.setIfInBounds_toArray, List.set_cons_zero, List.set_cons_succ])
                     | (refine quiet_val (.int .i64 60) ?_ ?_; (focus (intro W hW; go_simp; first | done | omega)); go_big_quiet_on; simp only [Act.put, List.setIfInBounds_toArray, List.set_cons_zero, List.set_cons_succ])
               | (refine quiet_val (.int .u64 (n : Int)) ?_ ?_; (focus (intro W hW; go_simp; first | done | exact HWN.out | (rw [HWN.out]))); go_big_quiet_on; simp only [Act.put, List.setIfInBounds_toArray, List.set_cons_zero, List.set_cons_succ])
               | (refine quiet_val (.int .u64 60) ?_ ?_; (focus (intro W hW; go_simp; first | done | rfl | decide)); go_big_quiet_on; simp only [Act.put, List.setIfInBounds_toArray, List.set_cons_zero, List.set_cons_succ])
               | (go_big_quiet_op; go_big_quiet_on)))
        refine wpQuiet_nil ?_
        intro w8 hw8
        have HB8 : Hid (Below w.heap.size w w8) := hw8.2.below
        clear hw8 C1 C2 C3 HI7 HP7
        go_wp2
        go_ret
        exact ⟨rfl, HB8.out⟩
end Go.Proofs.YtbfdggkoildfkaaDoor
