import Derived.Test.YtpfknjnigcefgaaGreatDoorY25
import Derived.Deep.RegionHeld3
/- The law's asked: an index that is there, asked of both. -/
namespace Go.Proofs.YtpfknjnigcefgaaGreatDoor
open Go.RowKit
set_option linter.unusedSimpArgs false
set_option linter.unusedVariables false
set_option maxHeartbeats 32000000 in
set_option maxRecDepth 100000 in
theorem asked13 (gX gY : Nat) (s : ByteArray) (l : List Xe) (ai : Option Addr) (ni ci : Nat) (ids : List ByteArray) (ap : Option Addr) (np cp F : Nat) (lb : ByteArray) (w : World) (hx : IxS w gX s l) (hok : OkL l) (hy : RIx w gY s l) (hni : NmL w ai ids) (hil : ids.length = ni) (hnp : IpL w ap np) (hF : F < 256) (hn1 : ni ≤ 1000000000000000) (hn2 : np ≤ 1000000000000000) :
    Calls Tryz.prog 22 #[.pointer (some ⟨gX, 0, none⟩), .pointer (some ⟨gY, 0, none⟩), .agg #[.slice ai ni ci, .slice ap np cp, .int .u8 (F : Int), .string lb]] w fun e w' => e = .returned (.bool true) ∧ Below w.heap.size w w' := by
  obtain ⟨n, hl⟩ : ∃ n, l.length = n := ⟨_, rfl⟩
  have hn6 : n ≤ 70000 := by have := hok.len; omega
  have HL : Hid (l.length = n ∧ l.length ≤ 65536) := ⟨hl, hok.len⟩
  have HOK : Hid (OkL l) := hok
  have HIL : Hid (ids.length = ni) := hil
  have hs32 : s.size = 32 := hy.id
  obtain ⟨ay, ny, cy, hyb, hyx, hyl, hyc, hya⟩ := hy.row
  rw [hl] at hyl
  subst hyl
  obtain ⟨V, hV⟩ : ∃ V, w.alloc (.cells #[.slice ai ni ci, .slice ap np cp, .int .u8 (F : Int), .string lb] 40) = V := ⟨_, rfl⟩
  have HV : Hid (AkS w w.heap.size gX gY s l ay n cy ai ni ci ids ap np cp F lb V) := by
    rw [← hV]
    have hb : Below w.heap.size w (w.alloc (.cells #[.slice ai ni ci, .slice ap np cp, .int .u8 (F : Int), .string lb] 40)) := (Below.refl _ _).alloc (Nat.le_refl _) _
    exact ⟨hx.below hb, hy.below hb, hyb.below hb hyb.lt, hyx.below hb, bk_new _ _ _, hni.below hb, hnp.below hb, hb⟩
  have HK : Hid (∀ W, Below V.heap.size V W → AkS w w.heap.size gX gY s l ay n cy ai ni ci ids ap np cp F lb W) := fun W hW => HV.out.next hW
  have hAL := iall_any gX s l V HV.out.x hok.len
  have HAL : Hid (Calls Tryz.prog 50 #[.pointer (some ⟨gX, 0, none⟩)] V fun e w' => ∃ a c, e = .returned (.slice a n c) ∧ XeL w' a l ∧ (n = 0 ∨ ∃ g C, a = some ⟨g, 0, none⟩ ∧ V.heap.size ≤ g ∧ Bk w' g C 34 ∧ n * 35 ≤ C.size) ∧ n ≤ c ∧ Below V.heap.size V w') := by
    refine hAL.mono ?_
    rintro e w' ⟨v, rfl, hr, hb⟩
    have hid : ∀ e ∈ l, e.id.size = 32 := fun e he => HV.out.yx.ids e he
    obtain ⟨a, c, hv, hx', hle, _⟩ := own_xel hr rfl hid
    rw [hl] at hv hle
    refine ⟨a, c, by rw [hv], hx', ?_, hle, hb⟩
    rcases hr.2 with ⟨_, h0⟩ | ⟨g, cap, cur, q, hg1, hg2, hg3, _, hg5, _⟩
    · exact .inl (by omega)
    · rw [hv] at q
      injection q with q1 _ _
      refine .inr ⟨g, cur, q1, hg1, hg2, ?_⟩
      rw [hl] at hg3
      rw [hg5]
      exact Nat.mul_le_mul_right 35 hg3
  obtain ⟨D, hD⟩ : ∃ D, idc s = D := ⟨_, rfl⟩
  have HI32 : Hid ((Tryz.prog.info? 23).map (·.size) = some D.size) := info_32 (by rw [← hD, idc_size, hs32])
  have HNED : Hid (∀ u, (binOp .neq 23 (.agg D) (.agg D)).run Tryz.prog u = .ok (.bool false) u) := fun u => by rw [← hD, neq_ids s s hs32 hs32 u]; simp
  have HCD : Hid (∀ j v, D[j]? = some v → (rixC s (.slice ay n cy))[0 + j]? = some v) := fun j v hv => rixC_id s _ hs32 j v (by rw [hD]; exact hv)
  have HPK : Hid (∀ W, Below V.heap.size V W → Calls Tryz.prog 51 #[.pointer (some ⟨gX, 0, none⟩)] W fun e w' => e = .returned (.agg D) ∧ Below W.heap.size W w') := fun W hW => by rw [← hD]; exact pack_any gX s l W (HK.out W hW).x
  have HLE : Hid (∀ W, Below V.heap.size V W → Calls Tryz.prog 21 #[.pointer (some ⟨gX, 0, none⟩)] W fun e w' => e = .returned (.int .i64 (n : Int)) ∧ Below W.heap.size W w') := fun W hW => (ilen_any gX s l W (HK.out W hW).x).mono fun e w' q => ⟨by rw [q.1, hl], by rw [q.2]; exact Below.refl _ _⟩
  have HFX : Hid (∀ x W, x.size = 32 → Below V.heap.size V W → ∃ e E, e.id.size = 32 ∧ Calls Tryz.prog 36 #[.pointer (some ⟨gX, 0, none⟩), .agg (idc x)] W (fun r w' => r = .returned (.tuple #[.agg (xeC e), .int .i64 E]) ∧ Below W.heap.size W w') ∧ ∀ W2, Below V.heap.size V W2 → Calls Tryz.prog 52 #[.pointer (some ⟨gY, 0, none⟩), .agg (idc x)] W2 (fun r w' => r = .returned (.tuple #[.agg (xeC e), .int .i64 E]) ∧ Below W2.heap.size W2 w')) := fun x W hx hW => by
    obtain ⟨e, E, h1, h2⟩ := fdV_one (fnd l x) (fun e he => HOK.out.id e (fnd_some he).1)
    refine ⟨e, E, h2, ?_, fun W2 hW2 => ?_⟩
    · rw [← h1]; exact find_any gX s x l W (HK.out W hW).x HOK.out.ri hx HOK.out.len
    · rw [← h1]; exact rfind13 gY s x l W2 (HK.out W2 hW2).y hx HOK.out.len
  have HAT : Hid (∀ (i : Int) W, Below V.heap.size V W → ∃ e E, e.id.size = 32 ∧ Calls Tryz.prog 53 #[.pointer (some ⟨gX, 0, none⟩), .int .i64 i] W (fun r w' => r = .returned (.tuple #[.agg (xeC e), .int .i64 E]) ∧ Below W.heap.size W w') ∧ ∀ W2, Below V.heap.size V W2 → Calls Tryz.prog 54 #[.pointer (some ⟨gY, 0, none⟩), .int .i64 i] W2 (fun r w' => r = .returned (.tuple #[.agg (xeC e), .int .i64 E]) ∧ Below W2.heap.size W2 w')) := fun i W hW => by
    obtain ⟨e, E, h1, h2⟩ := atV_one l i HOK.out.id
    refine ⟨e, E, h2, ?_, fun W2 hW2 => ?_⟩
    · rw [← h1]; exact at_any gX s l i W (HK.out W hW).x HOK.out.len
    · rw [← h1]; exact rat13_any gY s l i W2 (HK.out W2 hW2).y HOK.out.len
  have HRX : Hid (∀ W, Below V.heap.size V W → Calls Tryz.prog 55 #[.pointer (some ⟨gX, 0, none⟩), .int .u8 (F : Int)] W fun e w' => e = .returned (.tuple #[.int .i64 (fanB l F : Int), .int .i64 (fanL l F : Int)]) ∧ Below W.heap.size W w') := fun W hW => (irange_any gX s l F hF W (HK.out W hW).x).mono fun e w' q => ⟨q.1, by obtain ⟨k, q2⟩ := q.2; rw [q2]; exact blw_drewNx (Below.refl _ _) k⟩
  have HRY : Hid (∀ W, Below V.heap.size V W → Calls Tryz.prog 56 #[.pointer (some ⟨gY, 0, none⟩), .int .u8 (F : Int)] W fun e w' => e = .returned (.tuple #[.int .i64 (fanB l F : Int), .int .i64 (fanL l F : Int)]) ∧ Below W.heap.size W w') := fun W hW => (rrange13 gY s l F W (HK.out W hW).y hF HOK.out.len).mono fun e w' q => ⟨q.1, by rw [q.2]; exact Below.refl _ _⟩
  have HBV : Hid (Below w.heap.size w V) := HV.out.bel
  have HSA : Hid (∀ a c W, XeL W a l → Below V.heap.size V W → Calls Tryz.prog 10 #[.slice a n c, .slice ay n cy] W fun e w' => e = .returned (.bool true) ∧ Below W.heap.size W w') := fun a c W h1 hW => same13 l a ay n c cy W h1 (HK.out W hW).yx hl (by omega)
  obtain ⟨p, hp⟩ : ∃ p, fanB l F = p := ⟨_, rfl⟩
  obtain ⟨q, hq⟩ : ∃ q, fanL l F = q := ⟨_, rfl⟩
  rw [hp, hq] at HRX HRY
  clear hx hy hyb hyx hyc hya hni hnp hok hl hil hD hs32 hAL hp hq
  go_enter Tryz.func22, Tryz.ntmps22
  go_wp2_with fail
  try rw [hV]
  clear hV
  refine HAL.out.mono ?_
  rintro e w1 ⟨aa, ca, rfl, hxa, hga, hca, hb1⟩
  have HB1 : Hid (Below V.heap.size V w1) := hb1
  have HGA : Hid (n = 0 ∨ ∃ g C, aa = some ⟨g, 0, none⟩ ∧ V.heap.size ≤ g ∧ Bk w1 g C 34 ∧ n * 35 ≤ C.size) := hga
  have HC1 : Hid (∀ W, Below w1.heap.size w1 W → Below V.heap.size V W) := fun W hW => HB1.out.trans (hW.mono HB1.out.size)
  have HXA : Hid (∀ W, Below w1.heap.size w1 W → XeL W aa l) := fun W hW => hxa.below hW
  have PK : Hid (∀ W, Below w1.heap.size w1 W → Calls Tryz.prog 51 #[.pointer (some ⟨gX, 0, none⟩)] W fun e w' => e = .returned (.agg D) ∧ Below w1.heap.size w1 w') := fun W hW => (HPK.out W (HC1.out W hW)).mono fun e w' q => ⟨q.1, hW.trans (q.2.mono hW.size)⟩
  have LE : Hid (∀ W, Below w1.heap.size w1 W → Calls Tryz.prog 21 #[.pointer (some ⟨gX, 0, none⟩)] W fun e w' => e = .returned (.int .i64 (n : Int)) ∧ Below w1.heap.size w1 w') := fun W hW => (HLE.out W (HC1.out W hW)).mono fun e w' q => ⟨q.1, hW.trans (q.2.mono hW.size)⟩
  have SA : Hid (∀ W, Below w1.heap.size w1 W → Calls Tryz.prog 10 #[.slice aa n ca, .slice ay n cy] W fun e w' => e = .returned (.bool true) ∧ Below w1.heap.size w1 w') := fun W hW => (HSA.out aa ca W (HXA.out W hW) (HC1.out W hW)).mono fun e w' q => ⟨q.1, hW.trans (q.2.mono hW.size)⟩
  have YB : Hid (∀ W, Below w1.heap.size w1 W → Bk W gY (rixC s (.slice ay n cy)) 81) := fun W hW => (HK.out W (HC1.out W hW)).yb
  have YS : Hid (∀ W, Below w1.heap.size w1 W → W.cell? ⟨gY, 32, none⟩ = some (.slice ay n cy)) := fun W hW => by rw [(YB.out W hW).cell]; exact rixC_at s _ (HK.out W (HC1.out W hW)).y.id
  clear hb1 hga hxa HAL
  go_wp2_with fail
  have hNED := HNED.out
  refine region_class10 (fun W => Below w1.heap.size w1 W) (by kernel_rfl) (by kernel_rfl) ((Below.refl _ _).drew) ?_
  try simp only [Act.put, List.setIfInBounds_toArray, List.set_cons_zero, List.set_cons_succ]
  repeat (first
    | go_big_quiet_skip
    | (go_big_quiet_want
       first
         | (refine quiet_call10 (.agg D) 51 #[.pointer (some ⟨gX, 0, none⟩)] ?_ ?_ ?_; (focus (intro W hW; go_simp; done)); (focus (intro W hW; exact PK.out W hW)); go_big_quiet_on; simp only [Act.put, List.setIfInBounds_toArray, List.set_cons_zero, List.set_cons_succ])
         | (refine quiet_row 23 _ rfl gY 0 (rixC s (.slice ay n cy)) D 81 _ rfl YB.out HCD.out Tryz.underlying23 rfl HI32.out ?_; go_big_quiet_on; simp only [Act.put, List.setIfInBounds_toArray, List.set_cons_zero, List.set_cons_succ])
         | (refine quiet_call10 (.int .i64 (n : Int)) 21 #[.pointer (some ⟨gX, 0, none⟩)] ?_ ?_ ?_; (focus (intro W hW; go_simp; done)); (focus (intro W hW; exact LE.out W hW)); go_big_quiet_on; simp only [Act.put, List.setIfInBounds_toArray, List.set_cons_zero, List.set_cons_succ])
         | (refine quiet_one 24 _ rfl gY 32 (.slice ay n cy) rfl (fun _ => by kernel_rfl) (fun W hW => YS.out W hW) ?_; go_big_quiet_on; simp only [Act.put, List.setIfInBounds_toArray, List.set_cons_zero, List.set_cons_succ])
         | (refine quiet_call10 (.bool true) 10 #[.slice aa n ca, .slice ay n cy] ?_ ?_ ?_; (focus (intro W hW; go_simp; done)); (focus (intro W hW; exact SA.out W hW)); go_big_quiet_on; simp only [Act.put, List.setIfInBounds_toArray, List.set_cons_zero, List.set_cons_succ])
         | (refine quiet_val10 (.pointer (some ⟨gY, 0, none⟩)) ?_ ?_; (focus (intro W hW; go_simp; done)); go_big_quiet_on; simp only [Act.put, List.setIfInBounds_toArray, List.set_cons_zero, List.set_cons_succ])
         | (refine quiet_val10 (.pointer (some ⟨gY, 32, none⟩)) ?_ ?_; (focus (intro W hW; go_simp; done)); go_big_quiet_on; simp only [Act.put, List.setIfInBounds_toArray, List.set_cons_zero, List.set_cons_succ])
         | (refine quiet_val10 (.bool false) ?_ ?_; (focus (intro W hW; go_simp; done)); go_big_quiet_on; simp only [Act.put, List.setIfInBounds_toArray, List.set_cons_zero, List.set_cons_succ])
         | (refine quiet_val10 (.int .i64 (n : Int)) ?_ ?_; (focus (intro W hW; go_simp; done)); go_big_quiet_on; simp only [Act.put, List.setIfInBounds_toArray, List.set_cons_zero, List.set_cons_succ])
         | (go_big_quiet_op; go_big_quiet_on)))
  refine wpQuiet_nil ?_
  intro w2 hw2
  have H2 : Hid (Below V.heap.size V w2 ∧ (n = 0 ∨ ∃ g C, aa = some ⟨g, 0, none⟩ ∧ V.heap.size ≤ g ∧ Bk w2 g C 34 ∧ n * 35 ≤ C.size)) := by
    refine ⟨HC1.out w2 hw2, ?_⟩
    rcases HGA.out with q | ⟨g, C, q1, q2, q3, q4⟩
    · exact .inl q
    · exact .inr ⟨g, C, q1, q2, q3.below hw2 q3.lt, q4⟩
  clear hw2 hNED PK LE SA YB YS HC1 HXA HGA HB1
  go_wp2
  go_loopw [8] (fun v wr => ∃ k : Nat, v = .int .i64 k ∧ k ≤ n ∧ Hid (Below V.heap.size V wr ∧ (n = 0 ∨ ∃ g C, aa = some ⟨g, 0, none⟩ ∧ V.heap.size ≤ g ∧ Bk wr g C 34 ∧ n * 35 ≤ C.size))) (fun v _ => n - (intOf v).toNat)
  case atStart => exact ⟨0, rfl, Nat.zero_le _, H2.out⟩
  case round =>
    clear H2
    obtain ⟨k, rfl, hk, HR⟩ := hrel
    by_cases hlt : k < n
    · have hkz : (k : Int) < (n : Int) := by omega
      obtain ⟨g, C, rfl, hg1, hg2, hg3⟩ : ∃ g C, aa = some ⟨g, 0, none⟩ ∧ V.heap.size ≤ g ∧ Bk wr g C 34 ∧ n * 35 ≤ C.size := by
        rcases HR.out.2 with q | q
        · omega
        · exact q
      have hin : k * 35 + 33 < C.size := by omega
      obtain ⟨old, hc⟩ : ∃ old, wr.cell? ⟨g, k * 35 + 33, none⟩ = some old := ⟨C[k * 35 + 33]'hin, by rw [hg2.cell]; exact Array.getElem?_eq_getElem hin⟩
      have hf := hg2.frozen (k * 35 + 33)
      have HN : Hid (Below V.heap.size V (wr.setCell ⟨g, k * 35 + 33, none⟩ (.int .i64 (-1))) ∧ (n = 0 ∨ ∃ g' C, some ⟨g, 0, none⟩ = some (⟨g', 0, none⟩ : Addr) ∧ V.heap.size ≤ g' ∧ Bk (wr.setCell ⟨g, k * 35 + 33, none⟩ (.int .i64 (-1))) g' C 34 ∧ n * 35 ≤ C.size)) :=
        ⟨below_own HR.out.1 HR.out.1.size (set_grown _ _ _ _) hg1, .inr ⟨g, _, rfl, hg1, hg2.set _ _, by rw [Array.size_setIfInBounds]; exact hg3⟩⟩
      clear HR hg2 hin
      go_wp2
      go_roundw
      case rel => exact ⟨k + 1, by go_num, by omega, HN.out⟩
      case measure => simp [intOf]; omega
    · have hkz : ¬ (k : Int) < (n : Int) := by omega
      have H3 : Hid (Below V.heap.size V wr) := HR.out.1
      clear HR hlt hk
      go_wp2
      go_loopw [9] (fun v wr => ∃ k : Nat, v = .int .i64 k ∧ k ≤ ni ∧ k ≤ 60 ∧ Hid (Below V.heap.size V wr)) (fun v _ => 60 - (intOf v).toNat)
      case atStart => exact ⟨0, rfl, Nat.zero_le _, Nat.zero_le _, H3.out⟩
      case round =>
        clear H3 hkz
        obtain ⟨k, rfl, hk, hk60, HR⟩ := hrel
        obtain ⟨c0, _, _, _⟩ := (HK.out wr HR.out).c0
        by_cases hlt : k < ni ∧ k < 60
        · obtain ⟨hlt, hlt60⟩ := hlt
          have hkz : (k : Int) < (ni : Int) := by omega
          have hkz60 : (k : Int) < 60 := by omega
          obtain ⟨x, hx⟩ : ∃ x, ids[k]? = some x := ⟨_, List.getElem?_eq_getElem (by rw [HIL.out]; exact hlt)⟩
          obtain ⟨h32, gi, oi, rfl, hgi, hcells⟩ := (HK.out wr HR.out).ni k x hx
          obtain ⟨e, E, he32, hf1, hf2⟩ := HFX.out x wr h32 HR.out
          obtain ⟨I, hI⟩ : ∃ I, idc x = I := ⟨_, rfl⟩
          rw [hI] at hf1 hf2
          obtain ⟨X, hX⟩ : ∃ X, xeC e = X := ⟨_, rfl⟩
          rw [hX] at hf1 hf2
          have HCI : Hid (∀ W, Below wr.heap.size wr W → ∀ j v, I[j]? = some v → W.cell? ⟨gi, oi + k * 32 + j, none⟩ = some v) := fun W hW j v hv => by rw [hW.cell (p := ⟨gi, oi + k * 32 + j, none⟩) hgi]; exact hcells j v (by rw [hI]; exact hv)
          have HII : Hid ((Tryz.prog.info? 23).map (·.size) = some I.toList.length) := by show _ = _; rw [← hI, Array.length_toList]; exact info_32 (by rw [idc_size, h32])
          have HXI : Hid (X.size = 35 ∧ X.all (·.oneCell') = true ∧ (Tryz.prog.info? 34).map (·.size) = some X.size ∧ (Tryz.prog.info? 56).map (·.size) = some X.size) := by rw [← hX]; exact ⟨xeC_size e he32, xeC_all e, info_xe (xeC_size e he32), by rw [inf_xr35, xeC_size e he32]⟩
          have HOW : Hid (∀ W, Calls Tryz.prog 23 #[.agg X] W fun r w' => r = .returned (.agg X) ∧ Below W.heap.size W w') := fun W => by rw [← hX]; exact own13 e W he32
          have HNE : Hid (∀ u, (binOp .neq 34 (.agg X) (.agg X)).run Tryz.prog u = .ok (.bool false) u) := fun u => by rw [← hX, neq_xe e e he32 he32 u, xeQ_self]; rfl
          have HF1 : Hid (Calls Tryz.prog 36 #[.pointer (some ⟨gX, 0, none⟩), .agg I] wr (fun r w' => r = .returned (.tuple #[.agg X, .int .i64 E]) ∧ Below wr.heap.size wr w')) := hf1
          have HF2 : Hid (∀ W2, Below V.heap.size V W2 → Calls Tryz.prog 52 #[.pointer (some ⟨gY, 0, none⟩), .agg I] W2 (fun r w' => r = .returned (.tuple #[.agg X, .int .i64 E]) ∧ Below W2.heap.size W2 w')) := hf2
          clear hf1 hf2 hcells hI hX h32 he32 hx
          go_wp2_with (first
            | (refine wpList_load_mid rfl 23 (.tmp 77) rfl gi (oi + k * 32) rfl I.toList _ (fun j v hv => HCI.out _ (Below.refl _ _) j v (by rwa [Array.getElem?_toList] at hv)) Tryz.underlying23 rfl HII.out ?_)
            | fail)
          refine HF1.out.mono ?_
          rintro r w3 ⟨rfl, hb3⟩
          have B3 : Hid (Below wr.heap.size wr w3) := hb3
          obtain ⟨W3, hW3⟩ : ∃ W3, w3.alloc (.cells X 34) = W3 := ⟨_, rfl⟩
          have K3 : Hid (Bk W3 w3.heap.size X 34 ∧ Below wr.heap.size wr W3) := by rw [← hW3]; exact ⟨bk_new _ _ _, B3.out.alloc B3.out.size _⟩
          have c03 := ((HK.out W3 (HR.out.trans (K3.out.2.mono HR.out.size))).c0).1
          clear hb3 HF1 c0
          go_wp2_with (first
            | (refine wpList_store_new rfl 34 (.tmp 10) (.tmp 80) rfl X _ 34 w3.heap.size rfl rfl rfl HXI.out.2.2.1 (by rw [HXI.out.1]; rfl) HXI.out.2.1 ?_)
            | (refine wpList_load_mid rfl 23 (.tmp 87) rfl gi (oi + k * 32) rfl I.toList _ (fun j v hv => HCI.out _ K3.out.2 j v (by rwa [Array.getElem?_toList] at hv)) Tryz.underlying23 rfl HII.out ?_)
            | fail)
          clear hW3
          refine (HF2.out W3 (HR.out.trans (K3.out.2.mono HR.out.size))).mono ?_
          rintro r w4 ⟨rfl, hb4⟩
          have B4 : Hid (Bk w4 w3.heap.size X 34 ∧ Below wr.heap.size wr w4) := ⟨K3.out.1.below hb4 K3.out.1.lt, K3.out.2.trans (hb4.mono K3.out.2.size)⟩
          clear hb4 HF2 K3 c03
          obtain ⟨W4, hW4⟩ : ∃ W4, w4.alloc (.cells X 56) = W4 := ⟨_, rfl⟩
          have K4 : Hid (TwE wr w3.heap.size w4.heap.size X W4) := by rw [← hW4]; exact ⟨B4.out.1.alloc _, bk_new _ _ _, B4.out.2.alloc B4.out.2.size _⟩
          clear B4 B3
          go_wp2_with (first
            | (refine wpList_store_new rfl 56 (.tmp 12) (.tmp 90) rfl X _ 56 w4.heap.size rfl rfl rfl HXI.out.2.2.2 (by rw [HXI.out.1]; rfl) HXI.out.2.1 ?_)
            | fail)
          clear hW4
          have OW : Hid (∀ W, TwE wr w3.heap.size w4.heap.size X W → Calls Tryz.prog 23 #[.agg X] W fun r w' => r = .returned (.agg X) ∧ TwE wr w3.heap.size w4.heap.size X w') := fun W hW => (HOW.out W).mono fun r w' q => ⟨q.1, hW.next q.2⟩
          have hNE := HNE.out
          refine region_class10 (TwE wr w3.heap.size w4.heap.size X) (by kernel_rfl) (by kernel_rfl) (K4.out.next (Below.refl _ _).drew) ?_
          try simp only [Act.put, List.setIfInBounds_toArray, List.set_cons_zero, List.set_cons_succ]
          repeat (first
            | go_big_quiet_skip
            | (go_big_quiet_want
               first
                 | (refine quiet_row 34 _ rfl w3.heap.size 0 X X 34 _ rfl (fun _ h => h.k1) (fun j v hv => by rw [Nat.zero_add]; exact hv) Tryz.underlying34 rfl HXI.out.2.2.1 ?_; go_big_quiet_on; simp only [Act.put, List.setIfInBounds_toArray, List.set_cons_zero, List.set_cons_succ])
                 | (refine quiet_row 56 _ rfl w4.heap.size 0 X X 56 _ rfl (fun _ h => h.k2) (fun j v hv => by rw [Nat.zero_add]; exact hv) Tryz.underlying56 rfl HXI.out.2.2.2 ?_; go_big_quiet_on; simp only [Act.put, List.setIfInBounds_toArray, List.set_cons_zero, List.set_cons_succ])
                 | (refine quiet_call10 (.agg X) 23 #[.agg X] ?_ ?_ ?_; (focus (intro W hW; go_simp; done)); (focus (intro W hW; exact OW.out W hW)); go_big_quiet_on; simp only [Act.put, List.setIfInBounds_toArray, List.set_cons_zero, List.set_cons_succ])
                 | (refine quiet_val10 (.bool false) ?_ ?_; (focus (intro W hW; go_simp; done)); go_big_quiet_on; simp only [Act.put, List.setIfInBounds_toArray, List.set_cons_zero, List.set_cons_succ])
                 | (go_big_quiet_op; go_big_quiet_on)))
          refine wpQuiet_nil ?_
          intro w9 hw9
          have H9 : Hid (Below V.heap.size V w9) := HR.out.trans (hw9.bel.mono HR.out.size)
          clear hw9 hNE OW HNE HOW HXI HII HCI K4 HR
          go_wp2
          go_roundw
          case rel => exact ⟨k + 1, by go_num, by omega, by omega, H9.out⟩
          case measure => simp [intOf]; omega
        · have hH : Hid (Below V.heap.size V wr) := HR.out
          have hT : ∀ (P : Prop), (¬ k < ni → P) → (k < ni → k = 60 → P) → P := fun P h1 h2 => by
            by_cases q : k < ni
            · exact h2 q (by omega)
            · exact h1 q
          clear HR
          by_cases hkn : k < ni
          · have hkz : (k : Int) < (ni : Int) := by omega
            have hkz60 : ¬ (k : Int) < 60 := by omega
            clear hT hlt
            go_wp2
            go_loopw [14] (fun v wr => ∃ k : Nat, v = .int .i64 k ∧ k ≤ np ∧ k ≤ 60 ∧ Hid (Below V.heap.size V wr)) (fun v _ => 60 - (intOf v).toNat)
            case atStart => exact ⟨0, rfl, Nat.zero_le _, Nat.zero_le _, hH.out⟩
            case round =>
              clear hH hkz hk hk60 hkn
              obtain ⟨k, rfl, hk, hk60, HR⟩ := hrel
              obtain ⟨_, c1, _, _⟩ := (HK.out wr HR.out).c0
              by_cases hlt : k < np ∧ k < 60
              · obtain ⟨hlt, hlt60⟩ := hlt
                have hkz : (k : Int) < (np : Int) := by omega
                have hkz60 : (k : Int) < 60 := by omega
                obtain ⟨gi, oi, P, rfl, hgi, hcell⟩ := (HK.out wr HR.out).np k hlt
                obtain ⟨e, E, he32, hf1, hf2⟩ := HAT.out P wr HR.out
                obtain ⟨X, hX⟩ : ∃ X, xeC e = X := ⟨_, rfl⟩
                rw [hX] at hf1 hf2
                have HCP : Hid (∀ W, Below wr.heap.size wr W → W.cell? ⟨gi, oi + k, none⟩ = some (.int .i64 P)) := fun W hW => by rw [hW.cell (p := ⟨gi, oi + k, none⟩) hgi]; exact hcell
                have HXI : Hid (X.size = 35 ∧ X.all (·.oneCell') = true ∧ (Tryz.prog.info? 34).map (·.size) = some X.size ∧ (Tryz.prog.info? 56).map (·.size) = some X.size) := by rw [← hX]; exact ⟨xeC_size e he32, xeC_all e, info_xe (xeC_size e he32), by rw [inf_xr35, xeC_size e he32]⟩
                have HOW : Hid (∀ W, Calls Tryz.prog 23 #[.agg X] W fun r w' => r = .returned (.agg X) ∧ Below W.heap.size W w') := fun W => by rw [← hX]; exact own13 e W he32
                have HNE : Hid (∀ u, (binOp .neq 34 (.agg X) (.agg X)).run Tryz.prog u = .ok (.bool false) u) := fun u => by rw [← hX, neq_xe e e he32 he32 u, xeQ_self]; rfl
                have HF1 : Hid (Calls Tryz.prog 53 #[.pointer (some ⟨gX, 0, none⟩), .int .i64 P] wr (fun r w' => r = .returned (.tuple #[.agg X, .int .i64 E]) ∧ Below wr.heap.size wr w')) := hf1
                have HF2 : Hid (∀ W2, Below V.heap.size V W2 → Calls Tryz.prog 54 #[.pointer (some ⟨gY, 0, none⟩), .int .i64 P] W2 (fun r w' => r = .returned (.tuple #[.agg X, .int .i64 E]) ∧ Below W2.heap.size W2 w')) := hf2
                clear hf1 hf2 hX he32
                go_wp2_with fail
                refine HF1.out.mono ?_
                rintro r w3 ⟨rfl, hb3⟩
                have B3 : Hid (Below wr.heap.size wr w3) := hb3
                obtain ⟨W3, hW3⟩ : ∃ W3, w3.alloc (.cells X 34) = W3 := ⟨_, rfl⟩
                have K3 : Hid (Bk W3 w3.heap.size X 34 ∧ Below wr.heap.size wr W3) := by rw [← hW3]; exact ⟨bk_new _ _ _, B3.out.alloc B3.out.size _⟩
                have c13 := ((HK.out W3 (HR.out.trans (K3.out.2.mono HR.out.size))).c0).2.1
                have cP3 := HCP.out W3 K3.out.2
                clear hb3 HF1 c1 hcell
                go_wp2_with (first
                  | (refine wpList_store_new rfl 34 (.tmp 15) (.tmp 120) rfl X _ 34 w3.heap.size rfl rfl rfl HXI.out.2.2.1 (by rw [HXI.out.1]; rfl) HXI.out.2.1 ?_)
                  | fail)
                clear hW3
                refine (HF2.out W3 (HR.out.trans (K3.out.2.mono HR.out.size))).mono ?_
                rintro r w4 ⟨rfl, hb4⟩
                have B4 : Hid (Bk w4 w3.heap.size X 34 ∧ Below wr.heap.size wr w4) := ⟨K3.out.1.below hb4 K3.out.1.lt, K3.out.2.trans (hb4.mono K3.out.2.size)⟩
                clear hb4 HF2 K3 c13 cP3
                obtain ⟨W4, hW4⟩ : ∃ W4, w4.alloc (.cells X 56) = W4 := ⟨_, rfl⟩
                have K4 : Hid (TwE wr w3.heap.size w4.heap.size X W4) := by rw [← hW4]; exact ⟨B4.out.1.alloc _, bk_new _ _ _, B4.out.2.alloc B4.out.2.size _⟩
                clear B4 B3
                go_wp2_with (first
                  | (refine wpList_store_new rfl 56 (.tmp 17) (.tmp 130) rfl X _ 56 w4.heap.size rfl rfl rfl HXI.out.2.2.2 (by rw [HXI.out.1]; rfl) HXI.out.2.1 ?_)
                  | fail)
                clear hW4
                have OW : Hid (∀ W, TwE wr w3.heap.size w4.heap.size X W → Calls Tryz.prog 23 #[.agg X] W fun r w' => r = .returned (.agg X) ∧ TwE wr w3.heap.size w4.heap.size X w') := fun W hW => (HOW.out W).mono fun r w' q => ⟨q.1, hW.next q.2⟩
                have hNE := HNE.out
                refine region_class10 (TwE wr w3.heap.size w4.heap.size X) (by kernel_rfl) (by kernel_rfl) (K4.out.next (Below.refl _ _).drew) ?_
                try simp only [Act.put, List.setIfInBounds_toArray, List.set_cons_zero, List.set_cons_succ]
                repeat (first
                  | go_big_quiet_skip
                  | (go_big_quiet_want
                     first
                       | (refine quiet_row 34 _ rfl w3.heap.size 0 X X 34 _ rfl (fun _ h => h.k1) (fun j v hv => by rw [Nat.zero_add]; exact hv) Tryz.underlying34 rfl HXI.out.2.2.1 ?_; go_big_quiet_on; simp only [Act.put, List.setIfInBounds_toArray, List.set_cons_zero, List.set_cons_succ])
                       | (refine quiet_row 56 _ rfl w4.heap.size 0 X X 56 _ rfl (fun _ h => h.k2) (fun j v hv => by rw [Nat.zero_add]; exact hv) Tryz.underlying56 rfl HXI.out.2.2.2 ?_; go_big_quiet_on; simp only [Act.put, List.setIfInBounds_toArray, List.set_cons_zero, List.set_cons_succ])
                       | (refine quiet_call10 (.agg X) 23 #[.agg X] ?_ ?_ ?_; (focus (intro W hW; go_simp; done)); (focus (intro W hW; exact OW.out W hW)); go_big_quiet_on; simp only [Act.put, List.setIfInBounds_toArray, List.set_cons_zero, List.set_cons_succ])
                       | (refine quiet_val10 (.bool false) ?_ ?_; (focus (intro W hW; go_simp; done)); go_big_quiet_on; simp only [Act.put, List.setIfInBounds_toArray, List.set_cons_zero, List.set_cons_succ])
                       | (go_big_quiet_op; go_big_quiet_on)))
                refine wpQuiet_nil ?_
                intro w9 hw9
                have H9 : Hid (Below V.heap.size V w9) := HR.out.trans (hw9.bel.mono HR.out.size)
                clear hw9 hNE OW HNE HOW HXI HCP K4 HR
                go_wp2
                go_roundw
                case rel => exact ⟨k + 1, by go_num, by omega, by omega, H9.out⟩
                case measure => simp [intOf]; omega
              · have HZ : Hid (Below V.heap.size V wr) := HR.out
                clear HR
                by_cases hkn : k < np
                · have hkz : (k : Int) < (np : Int) := by omega
                  have hkz60 : ¬ (k : Int) < 60 := by omega
                  clear hlt
                  obtain ⟨_, _, cF, _⟩ := (HK.out wr HZ.out).c0
                  go_wp2_with fail
                  refine (HRX.out wr HZ.out).mono ?_
                  rintro r w5 ⟨rfl, hb5⟩
                  have Z5 : Hid (Below V.heap.size V w5) := HZ.out.trans (hb5.mono HZ.out.size)
                  obtain ⟨_, _, cF5, _⟩ := (HK.out w5 Z5.out).c0
                  clear hb5 cF
                  go_wp2_with fail
                  refine (HRY.out w5 Z5.out).mono ?_
                  rintro r w6 ⟨rfl, hb6⟩
                  have Z6 : Hid (Below V.heap.size V w6) := Z5.out.trans (hb6.mono Z5.out.size)
                  clear hb6 cF5
                  have YS : Hid (∀ W, Below V.heap.size V W → W.cell? ⟨gY, 32, none⟩ = some (.slice ay n cy)) := fun W hW => by rw [((HK.out W hW).yb).cell]; exact rixC_at s _ (HK.out W hW).y.id
                  have AL : Hid (∀ W, Below V.heap.size V W → Calls Tryz.prog 50 #[.pointer (some ⟨gX, 0, none⟩)] W fun e w' => ∃ a c, e = .returned (.slice a n c) ∧ XeL w' a l ∧ Below W.heap.size W w') := fun W hW => by
                    refine (iall_any gX s l W (HK.out W hW).x HL.out.2).mono ?_
                    rintro e w' ⟨v, rfl, hr, hb⟩
                    obtain ⟨a, c, hv, hx', _, _⟩ := own_xel hr rfl (fun e he => HOK.out.id e he)
                    rw [HL.out.1] at hv
                    exact ⟨a, c, by rw [hv], hx', hb⟩
                  have hS6 := YS.out w6 Z6.out
                  have hpp : ((p : Int) == (p : Int)) = true := by rw [beq_iff_eq]
                  have hqq : ((q : Int) == (q : Int)) = true := by rw [beq_iff_eq]
                  go_wp2_with fail
                  go_region_held3 (fun W => W.cell? ⟨gY, 32, none⟩ = some (.slice ay n cy)) (first | exact hS6 | exact YS.out _ Z6.out | exact YS.out _ Z6.out.drew | exact YS.out _ Z7.out.1 | exact YS.out _ Z8.out)
                    (first
                    | (go_at_call 10; refine Calls.mono (HSA.out _ _ w7 Z7.out.2 Z7.out.1) ?_; rintro e w8 ⟨rfl, hb8⟩
                       have Z8 : Hid (Below V.heap.size V w8) := Z7.out.1.trans (hb8.mono Z7.out.1.size)
                       clear hb8)
                    | (go_at_call 50; refine Calls.mono (AL.out _ Z6.out.drew) ?_; rintro e w7 ⟨a7, c7, rfl, hx7, hb7⟩
                       have Z7 : Hid (Below V.heap.size V w7 ∧ XeL w7 a7 l) := ⟨Z6.out.drew.trans (hb7.mono Z6.out.drew.size), hx7⟩
                       clear hx7 hb7)
                    | fail)
                  go_wp2
                  go_ret
                  exact ⟨rfl, HBV.out.trans (Z8.out.mono HBV.out.size)⟩
                · have hkz : ¬ (k : Int) < (np : Int) := by omega
                  clear hlt
                  obtain ⟨_, _, cF, _⟩ := (HK.out wr HZ.out).c0
                  go_wp2_with fail
                  refine (HRX.out wr HZ.out).mono ?_
                  rintro r w5 ⟨rfl, hb5⟩
                  have Z5 : Hid (Below V.heap.size V w5) := HZ.out.trans (hb5.mono HZ.out.size)
                  obtain ⟨_, _, cF5, _⟩ := (HK.out w5 Z5.out).c0
                  clear hb5 cF
                  go_wp2_with fail
                  refine (HRY.out w5 Z5.out).mono ?_
                  rintro r w6 ⟨rfl, hb6⟩
                  have Z6 : Hid (Below V.heap.size V w6) := Z5.out.trans (hb6.mono Z5.out.size)
                  clear hb6 cF5
                  have YS : Hid (∀ W, Below V.heap.size V W → W.cell? ⟨gY, 32, none⟩ = some (.slice ay n cy)) := fun W hW => by rw [((HK.out W hW).yb).cell]; exact rixC_at s _ (HK.out W hW).y.id
                  have AL : Hid (∀ W, Below V.heap.size V W → Calls Tryz.prog 50 #[.pointer (some ⟨gX, 0, none⟩)] W fun e w' => ∃ a c, e = .returned (.slice a n c) ∧ XeL w' a l ∧ Below W.heap.size W w') := fun W hW => by
                    refine (iall_any gX s l W (HK.out W hW).x HL.out.2).mono ?_
                    rintro e w' ⟨v, rfl, hr, hb⟩
                    obtain ⟨a, c, hv, hx', _, _⟩ := own_xel hr rfl (fun e he => HOK.out.id e he)
                    rw [HL.out.1] at hv
                    exact ⟨a, c, by rw [hv], hx', hb⟩
                  have hS6 := YS.out w6 Z6.out
                  have hpp : ((p : Int) == (p : Int)) = true := by rw [beq_iff_eq]
                  have hqq : ((q : Int) == (q : Int)) = true := by rw [beq_iff_eq]
                  go_wp2_with fail
                  go_region_held3 (fun W => W.cell? ⟨gY, 32, none⟩ = some (.slice ay n cy)) (first | exact hS6 | exact YS.out _ Z6.out | exact YS.out _ Z6.out.drew | exact YS.out _ Z7.out.1 | exact YS.out _ Z8.out)
                    (first
                    | (go_at_call 10; refine Calls.mono (HSA.out _ _ w7 Z7.out.2 Z7.out.1) ?_; rintro e w8 ⟨rfl, hb8⟩
                       have Z8 : Hid (Below V.heap.size V w8) := Z7.out.1.trans (hb8.mono Z7.out.1.size)
                       clear hb8)
                    | (go_at_call 50; refine Calls.mono (AL.out _ Z6.out.drew) ?_; rintro e w7 ⟨a7, c7, rfl, hx7, hb7⟩
                       have Z7 : Hid (Below V.heap.size V w7 ∧ XeL w7 a7 l) := ⟨Z6.out.drew.trans (hb7.mono Z6.out.drew.size), hx7⟩
                       clear hx7 hb7)
                    | fail)
                  go_wp2
                  go_ret
                  exact ⟨rfl, HBV.out.trans (Z8.out.mono HBV.out.size)⟩
          · have hkz : ¬ (k : Int) < (ni : Int) := by omega
            clear hT hlt
            go_wp2
            go_loopw [14] (fun v wr => ∃ k : Nat, v = .int .i64 k ∧ k ≤ np ∧ k ≤ 60 ∧ Hid (Below V.heap.size V wr)) (fun v _ => 60 - (intOf v).toNat)
            case atStart => exact ⟨0, rfl, Nat.zero_le _, Nat.zero_le _, hH.out⟩
            case round =>
              clear hH hkz hk hk60 hkn
              obtain ⟨k, rfl, hk, hk60, HR⟩ := hrel
              obtain ⟨_, c1, _, _⟩ := (HK.out wr HR.out).c0
              by_cases hlt : k < np ∧ k < 60
              · obtain ⟨hlt, hlt60⟩ := hlt
                have hkz : (k : Int) < (np : Int) := by omega
                have hkz60 : (k : Int) < 60 := by omega
                obtain ⟨gi, oi, P, rfl, hgi, hcell⟩ := (HK.out wr HR.out).np k hlt
                obtain ⟨e, E, he32, hf1, hf2⟩ := HAT.out P wr HR.out
                obtain ⟨X, hX⟩ : ∃ X, xeC e = X := ⟨_, rfl⟩
                rw [hX] at hf1 hf2
                have HCP : Hid (∀ W, Below wr.heap.size wr W → W.cell? ⟨gi, oi + k, none⟩ = some (.int .i64 P)) := fun W hW => by rw [hW.cell (p := ⟨gi, oi + k, none⟩) hgi]; exact hcell
                have HXI : Hid (X.size = 35 ∧ X.all (·.oneCell') = true ∧ (Tryz.prog.info? 34).map (·.size) = some X.size ∧ (Tryz.prog.info? 56).map (·.size) = some X.size) := by rw [← hX]; exact ⟨xeC_size e he32, xeC_all e, info_xe (xeC_size e he32), by rw [inf_xr35, xeC_size e he32]⟩
                have HOW : Hid (∀ W, Calls Tryz.prog 23 #[.agg X] W fun r w' => r = .returned (.agg X) ∧ Below W.heap.size W w') := fun W => by rw [← hX]; exact own13 e W he32
                have HNE : Hid (∀ u, (binOp .neq 34 (.agg X) (.agg X)).run Tryz.prog u = .ok (.bool false) u) := fun u => by rw [← hX, neq_xe e e he32 he32 u, xeQ_self]; rfl
                have HF1 : Hid (Calls Tryz.prog 53 #[.pointer (some ⟨gX, 0, none⟩), .int .i64 P] wr (fun r w' => r = .returned (.tuple #[.agg X, .int .i64 E]) ∧ Below wr.heap.size wr w')) := hf1
                have HF2 : Hid (∀ W2, Below V.heap.size V W2 → Calls Tryz.prog 54 #[.pointer (some ⟨gY, 0, none⟩), .int .i64 P] W2 (fun r w' => r = .returned (.tuple #[.agg X, .int .i64 E]) ∧ Below W2.heap.size W2 w')) := hf2
                clear hf1 hf2 hX he32
                go_wp2_with fail
                refine HF1.out.mono ?_
                rintro r w3 ⟨rfl, hb3⟩
                have B3 : Hid (Below wr.heap.size wr w3) := hb3
                obtain ⟨W3, hW3⟩ : ∃ W3, w3.alloc (.cells X 34) = W3 := ⟨_, rfl⟩
                have K3 : Hid (Bk W3 w3.heap.size X 34 ∧ Below wr.heap.size wr W3) := by rw [← hW3]; exact ⟨bk_new _ _ _, B3.out.alloc B3.out.size _⟩
                have c13 := ((HK.out W3 (HR.out.trans (K3.out.2.mono HR.out.size))).c0).2.1
                have cP3 := HCP.out W3 K3.out.2
                clear hb3 HF1 c1 hcell
                go_wp2_with (first
                  | (refine wpList_store_new rfl 34 (.tmp 15) (.tmp 120) rfl X _ 34 w3.heap.size rfl rfl rfl HXI.out.2.2.1 (by rw [HXI.out.1]; rfl) HXI.out.2.1 ?_)
                  | fail)
                clear hW3
                refine (HF2.out W3 (HR.out.trans (K3.out.2.mono HR.out.size))).mono ?_
                rintro r w4 ⟨rfl, hb4⟩
                have B4 : Hid (Bk w4 w3.heap.size X 34 ∧ Below wr.heap.size wr w4) := ⟨K3.out.1.below hb4 K3.out.1.lt, K3.out.2.trans (hb4.mono K3.out.2.size)⟩
                clear hb4 HF2 K3 c13 cP3
                obtain ⟨W4, hW4⟩ : ∃ W4, w4.alloc (.cells X 56) = W4 := ⟨_, rfl⟩
                have K4 : Hid (TwE wr w3.heap.size w4.heap.size X W4) := by rw [← hW4]; exact ⟨B4.out.1.alloc _, bk_new _ _ _, B4.out.2.alloc B4.out.2.size _⟩
                clear B4 B3
                go_wp2_with (first
                  | (refine wpList_store_new rfl 56 (.tmp 17) (.tmp 130) rfl X _ 56 w4.heap.size rfl rfl rfl HXI.out.2.2.2 (by rw [HXI.out.1]; rfl) HXI.out.2.1 ?_)
                  | fail)
                clear hW4
                have OW : Hid (∀ W, TwE wr w3.heap.size w4.heap.size X W → Calls Tryz.prog 23 #[.agg X] W fun r w' => r = .returned (.agg X) ∧ TwE wr w3.heap.size w4.heap.size X w') := fun W hW => (HOW.out W).mono fun r w' q => ⟨q.1, hW.next q.2⟩
                have hNE := HNE.out
                refine region_class10 (TwE wr w3.heap.size w4.heap.size X) (by kernel_rfl) (by kernel_rfl) (K4.out.next (Below.refl _ _).drew) ?_
                try simp only [Act.put, List.setIfInBounds_toArray, List.set_cons_zero, List.set_cons_succ]
                repeat (first
                  | go_big_quiet_skip
                  | (go_big_quiet_want
                     first
                       | (refine quiet_row 34 _ rfl w3.heap.size 0 X X 34 _ rfl (fun _ h => h.k1) (fun j v hv => by rw [Nat.zero_add]; exact hv) Tryz.underlying34 rfl HXI.out.2.2.1 ?_; go_big_quiet_on; simp only [Act.put, List.setIfInBounds_toArray, List.set_cons_zero, List.set_cons_succ])
                       | (refine quiet_row 56 _ rfl w4.heap.size 0 X X 56 _ rfl (fun _ h => h.k2) (fun j v hv => by rw [Nat.zero_add]; exact hv) Tryz.underlying56 rfl HXI.out.2.2.2 ?_; go_big_quiet_on; simp only [Act.put, List.setIfInBounds_toArray, List.set_cons_zero, List.set_cons_succ])
                       | (refine quiet_call10 (.agg X) 23 #[.agg X] ?_ ?_ ?_; (focus (intro W hW; go_simp; done)); (focus (intro W hW; exact OW.out W hW)); go_big_quiet_on; simp only [Act.put, List.setIfInBounds_toArray, List.set_cons_zero, List.set_cons_succ])
                       | (refine quiet_val10 (.bool false) ?_ ?_; (focus (intro W hW; go_simp; done)); go_big_quiet_on; simp only [Act.put, List.setIfInBounds_toArray, List.set_cons_zero, List.set_cons_succ])
                       | (go_big_quiet_op; go_big_quiet_on)))
                refine wpQuiet_nil ?_
                intro w9 hw9
                have H9 : Hid (Below V.heap.size V w9) := HR.out.trans (hw9.bel.mono HR.out.size)
                clear hw9 hNE OW HNE HOW HXI HCP K4 HR
                go_wp2
                go_roundw
                case rel => exact ⟨k + 1, by go_num, by omega, by omega, H9.out⟩
                case measure => simp [intOf]; omega
              · have HZ : Hid (Below V.heap.size V wr) := HR.out
                clear HR
                by_cases hkn : k < np
                · have hkz : (k : Int) < (np : Int) := by omega
                  have hkz60 : ¬ (k : Int) < 60 := by omega
                  clear hlt
                  obtain ⟨_, _, cF, _⟩ := (HK.out wr HZ.out).c0
                  go_wp2_with fail
                  refine (HRX.out wr HZ.out).mono ?_
                  rintro r w5 ⟨rfl, hb5⟩
                  have Z5 : Hid (Below V.heap.size V w5) := HZ.out.trans (hb5.mono HZ.out.size)
                  obtain ⟨_, _, cF5, _⟩ := (HK.out w5 Z5.out).c0
                  clear hb5 cF
                  go_wp2_with fail
                  refine (HRY.out w5 Z5.out).mono ?_
                  rintro r w6 ⟨rfl, hb6⟩
                  have Z6 : Hid (Below V.heap.size V w6) := Z5.out.trans (hb6.mono Z5.out.size)
                  clear hb6 cF5
                  have YS : Hid (∀ W, Below V.heap.size V W → W.cell? ⟨gY, 32, none⟩ = some (.slice ay n cy)) := fun W hW => by rw [((HK.out W hW).yb).cell]; exact rixC_at s _ (HK.out W hW).y.id
                  have AL : Hid (∀ W, Below V.heap.size V W → Calls Tryz.prog 50 #[.pointer (some ⟨gX, 0, none⟩)] W fun e w' => ∃ a c, e = .returned (.slice a n c) ∧ XeL w' a l ∧ Below W.heap.size W w') := fun W hW => by
                    refine (iall_any gX s l W (HK.out W hW).x HL.out.2).mono ?_
                    rintro e w' ⟨v, rfl, hr, hb⟩
                    obtain ⟨a, c, hv, hx', _, _⟩ := own_xel hr rfl (fun e he => HOK.out.id e he)
                    rw [HL.out.1] at hv
                    exact ⟨a, c, by rw [hv], hx', hb⟩
                  have hS6 := YS.out w6 Z6.out
                  have hpp : ((p : Int) == (p : Int)) = true := by rw [beq_iff_eq]
                  have hqq : ((q : Int) == (q : Int)) = true := by rw [beq_iff_eq]
                  go_wp2_with fail
                  go_region_held3 (fun W => W.cell? ⟨gY, 32, none⟩ = some (.slice ay n cy)) (first | exact hS6 | exact YS.out _ Z6.out | exact YS.out _ Z6.out.drew | exact YS.out _ Z7.out.1 | exact YS.out _ Z8.out)
                    (first
                    | (go_at_call 10; refine Calls.mono (HSA.out _ _ w7 Z7.out.2 Z7.out.1) ?_; rintro e w8 ⟨rfl, hb8⟩
                       have Z8 : Hid (Below V.heap.size V w8) := Z7.out.1.trans (hb8.mono Z7.out.1.size)
                       clear hb8)
                    | (go_at_call 50; refine Calls.mono (AL.out _ Z6.out.drew) ?_; rintro e w7 ⟨a7, c7, rfl, hx7, hb7⟩
                       have Z7 : Hid (Below V.heap.size V w7 ∧ XeL w7 a7 l) := ⟨Z6.out.drew.trans (hb7.mono Z6.out.drew.size), hx7⟩
                       clear hx7 hb7)
                    | fail)
                  go_wp2
                  go_ret
                  exact ⟨rfl, HBV.out.trans (Z8.out.mono HBV.out.size)⟩
                · have hkz : ¬ (k : Int) < (np : Int) := by omega
                  clear hlt
                  obtain ⟨_, _, cF, _⟩ := (HK.out wr HZ.out).c0
                  go_wp2_with fail
                  refine (HRX.out wr HZ.out).mono ?_
                  rintro r w5 ⟨rfl, hb5⟩
                  have Z5 : Hid (Below V.heap.size V w5) := HZ.out.trans (hb5.mono HZ.out.size)
                  obtain ⟨_, _, cF5, _⟩ := (HK.out w5 Z5.out).c0
                  clear hb5 cF
                  go_wp2_with fail
                  refine (HRY.out w5 Z5.out).mono ?_
                  rintro r w6 ⟨rfl, hb6⟩
                  have Z6 : Hid (Below V.heap.size V w6) := Z5.out.trans (hb6.mono Z5.out.size)
                  clear hb6 cF5
                  have YS : Hid (∀ W, Below V.heap.size V W → W.cell? ⟨gY, 32, none⟩ = some (.slice ay n cy)) := fun W hW => by rw [((HK.out W hW).yb).cell]; exact rixC_at s _ (HK.out W hW).y.id
                  have AL : Hid (∀ W, Below V.heap.size V W → Calls Tryz.prog 50 #[.pointer (some ⟨gX, 0, none⟩)] W fun e w' => ∃ a c, e = .returned (.slice a n c) ∧ XeL w' a l ∧ Below W.heap.size W w') := fun W hW => by
                    refine (iall_any gX s l W (HK.out W hW).x HL.out.2).mono ?_
                    rintro e w' ⟨v, rfl, hr, hb⟩
                    obtain ⟨a, c, hv, hx', _, _⟩ := own_xel hr rfl (fun e he => HOK.out.id e he)
                    rw [HL.out.1] at hv
                    exact ⟨a, c, by rw [hv], hx', hb⟩
                  have hS6 := YS.out w6 Z6.out
                  have hpp : ((p : Int) == (p : Int)) = true := by rw [beq_iff_eq]
                  have hqq : ((q : Int) == (q : Int)) = true := by rw [beq_iff_eq]
                  go_wp2_with fail
                  go_region_held3 (fun W => W.cell? ⟨gY, 32, none⟩ = some (.slice ay n cy)) (first | exact hS6 | exact YS.out _ Z6.out | exact YS.out _ Z6.out.drew | exact YS.out _ Z7.out.1 | exact YS.out _ Z8.out)
                    (first
                    | (go_at_call 10; refine Calls.mono (HSA.out _ _ w7 Z7.out.2 Z7.out.1) ?_; rintro e w8 ⟨rfl, hb8⟩
                       have Z8 : Hid (Below V.heap.size V w8) := Z7.out.1.trans (hb8.mono Z7.out.1.size)
                       clear hb8)
                    | (go_at_call 50; refine Calls.mono (AL.out _ Z6.out.drew) ?_; rintro e w7 ⟨a7, c7, rfl, hx7, hb7⟩
                       have Z7 : Hid (Below V.heap.size V w7 ∧ XeL w7 a7 l) := ⟨Z6.out.drew.trans (hb7.mono Z6.out.drew.size), hx7⟩
                       clear hx7 hb7)
                    | fail)
                  go_wp2
                  go_ret
                  exact ⟨rfl, HBV.out.trans (Z8.out.mono HBV.out.size)⟩
end Go.Proofs.YtpfknjnigcefgaaGreatDoor
