import Derived.Test.YtpfknjnigcefgaaGreatDoorY10
import Derived.Test.YtpfknjnigcefgaaGreatDoorY18
import Derived.Test.YtpfknjnigcefgaaGreatDoorY9
import Derived.Deep.RegionHeld3
import Derived.Test.YtpfknjnigcefgaaGreatDoorChecked
import Derived.Shelf.Strings.Builder1
import Derived.Lib.OthersKept
import Derived.WalkKit
import Derived.BigCall
import Derived.Shelf.Strings.BuilderK
import Derived.OwnWalk
import Derived.Shelf.Strings.Builder2
import Derived.Test.YtpfknjnigcefgaaGreatDoorY8
/- The document's Build: the names met so far; what it tells. -/
namespace Go.Proofs.YtpfknjnigcefgaaGreatDoor
open Go.RowKit
set_option linter.unusedSimpArgs false
set_option linter.unusedVariables false
def isIx (v : Value) : Prop := ∃ n : Int, v = .int .i64 n
/-- How the document's looking stands. -/
structure BXr (w : World) (m : Nat) (D : Array Value) (d : List Xe) (wr : World) : Prop where
  st : St isIx wr m (d.map (fun e : Xe => e.id))
  bel : Below w.heap.size w wr
  bx : Bk wr w.heap.size D 23
  mlb : w.heap.size < m
theorem BXr.keep {w wr w' : World} {m : Nat} {D : Array Value} {d : List Xe} (h : BXr w m D d wr) (hb : Below wr.heap.size wr w') : BXr w m D d w' :=
  ⟨h.st.below hb, h.bel.trans (hb.mono h.bel.size), h.bx.below hb h.bx.lt, h.mlb⟩
theorem zero_int13 (w : World) : (zeroValue 3).run Tryz.prog w = .ok (.int .i64 0) w := by kernel_rfl
theorem BXr.look {w wr : World} {m : Nat} {D : Array Value} {d : List Xe} (h : BXr w m D d wr) (x : ByteArray) (hx : x.size = 32) : ∃ n : Int, (Instr.lookup 66 (.map (some m)) (.agg (idc x)) true).run Tryz.prog wr = .ok (.tuple #[.int .i64 n, .bool (hasX d x)]) wr := by
  obtain ⟨v, h1, n, rfl⟩ := h.st.look Tryz.underlying66 (zero_int13 _) ⟨0, rfl⟩ x hx
  exact ⟨n, h1⟩
theorem BXr.put {w wr : World} {m : Nat} {D : Array Value} {d : List Xe} (h : BXr w m D d wr) (hn : d.length < 1048576) (e : Xe) (hx : e.id.size = 32) (n : Int) :
    ∃ w', (Instr.mapUpdate 66 (.map (some m)) (.agg (idc e.id)) (.int .i64 n)).run Tryz.prog wr = .ok () w' ∧ BXr w m D (d ++ [e]) w' := by
  obtain ⟨w', h1, h2, h3⟩ := h.st.put Tryz.underlying66 (by rw [List.length_map]; exact hn) e.id hx (.int .i64 n) ⟨n, rfl⟩
  obtain ⟨es, c, hm⟩ := h.st.isMap
  refine ⟨w', h1, by rw [List.map_append]; exact h2, below_own h.bel h.bel.size h3 (Nat.le_of_lt h.mlb), h.bx.grown h3 (fun q => ?_), h.mlb⟩
  injection q with q
  have hb' : wr.heap[w.heap.size]? = some (.cells D 23 (0, 0)) := h.bx
  rw [← q, hm] at hb'
  cases hb'
theorem BXr.new (w : World) (D : Array Value) : BXr w (w.heap.size + 1) D [] ((w.alloc (.cells D 23)).alloc (.map #[] 0)) := by
  have h := St.made isIx (w.alloc (.cells D 23))
  rw [al_size] at h
  exact ⟨h, ((Below.refl _ _).alloc (Nat.le_refl _) _).alloc (by simp) _, (bk_new _ _ _).alloc _, by omega⟩
/-- One rising order of the same entries. -/
theorem perm_one {L L' l : List Xe} (p : L.Perm l) (p' : L'.Perm l) (h : OkL L) (h' : OkL L') : L = L' := rise_one (p.trans p'.symm) h.ri h'.ri
end Go.Proofs.YtpfknjnigcefgaaGreatDoor
/- The document's may: may an entry be indexed? -/
namespace Go.Proofs.YtpfknjnigcefgaaGreatDoor
open Go.RowKit
set_option linter.unusedSimpArgs false
set_option linter.unusedVariables false
set_option maxHeartbeats 4000000 in
set_option maxRecDepth 100000 in
theorem rmay_any (e : Xe) (w : World) (h : e.id.size = 32) : Calls Tryz.prog 30 #[.agg (xeC e)] w fun r w' => r = .returned (.bool (okX e)) ∧ w' = w.alloc (.cells (xeC e) 56) := by
  obtain ⟨c1, c2, c3⟩ := xeC_at e h
  have hb := bk_new w (xeC e) 56
  have k1 : (w.alloc (.cells (xeC e) 56)).cell? ⟨w.heap.size, 32, none⟩ = some (.int .u8 (e.k.toNat : Int)) := by rw [hb.cell]; exact c1
  have k2 : (w.alloc (.cells (xeC e) 56)).cell? ⟨w.heap.size, 33, none⟩ = some (.int .i64 e.off) := by rw [hb.cell]; exact c2
  have k3 : (w.alloc (.cells (xeC e) 56)).cell? ⟨w.heap.size, 34, none⟩ = some (.int .i64 e.sz) := by rw [hb.cell]; exact c3
  clear hb c1 c2 c3
  have HE := okX_eq e
  obtain ⟨r, hr⟩ : ∃ r, okX e = r := ⟨_, rfl⟩
  rw [hr] at HE ⊢
  obtain ⟨C, hC⟩ : ∃ C, xeC e = C := ⟨_, rfl⟩
  rw [hC] at k1 k2 k3 ⊢
  obtain ⟨ei, ek, eo, ez⟩ := e
  simp only at k1 k2 k3 HE
  obtain ⟨K, hK⟩ : ∃ K : Int, (ek.toNat : Int) = K := ⟨_, rfl⟩
  rw [hK] at k1 HE
  have HH : Hid (∀ (q : Bool), (q = true ↔ 1 ≤ K ∧ K ≤ 5 ∧ 4 ≤ eo ∧ eo ≤ 67108864 ∧ 0 ≤ ez ∧ ez ≤ 2097152) → q = r) := HE
  clear HE hr hC h hK
  by_cases g1 : 1 ≤ K
  · by_cases g2 : K ≤ 5
    · by_cases g3 : 4 ≤ eo
      · by_cases g4 : eo ≤ 67108864
        · by_cases g5 : 0 ≤ ez
          · go_enter Tryz.func30, Tryz.ntmps30
            go_wp2
            go_ret
            exact ⟨retBX (HH.out _ (by simp [g1, g2, g3, g4, g5] <;> omega)), rfl⟩
          · go_enter Tryz.func30, Tryz.ntmps30
            go_wp2
            go_ret
            exact ⟨retBX (HH.out _ (by simp [g1, g2, g3, g4, g5] <;> omega)), rfl⟩
        · go_enter Tryz.func30, Tryz.ntmps30
          go_wp2
          go_ret
          exact ⟨retBX (HH.out _ (by simp [g1, g2, g3, g4] <;> omega)), rfl⟩
      · go_enter Tryz.func30, Tryz.ntmps30
        go_wp2
        go_ret
        exact ⟨retBX (HH.out _ (by simp [g1, g2, g3] <;> omega)), rfl⟩
    · go_enter Tryz.func30, Tryz.ntmps30
      go_wp2
      go_ret
      exact ⟨retBX (HH.out _ (by simp [g1, g2] <;> omega)), rfl⟩
  · go_enter Tryz.func30, Tryz.ntmps30
    go_wp2
    go_ret
    exact ⟨retBX (HH.out _ (by simp [g1] <;> omega)), rfl⟩
end Go.Proofs.YtpfknjnigcefgaaGreatDoor
/- The document's Build. -/
namespace Go.Proofs.YtpfknjnigcefgaaGreatDoor
open Go.RowKit
set_option linter.unusedSimpArgs false
set_option linter.unusedVariables false
/-- What Build tells. -/
def BdR (s : ByteArray) (l : List Xe) (R : ByteArray) : Prop := (bE l ≠ 0 → R = ⟨#[]⟩) ∧ (bE l = 0 → ∃ L, L.Perm l ∧ OkL L ∧ R = ⟨(ixB s L).toArray⟩)
theorem ret_seR {a : ByteArray} {e e' : Int} (h : e' = e) : Ending.returned (.tuple #[.string a, .int .i64 e]) = .returned (.tuple #[.string a, .int .i64 e']) := by rw [h]
theorem BdR.no {s : ByteArray} {l : List Xe} (h : bE l ≠ 0) : BdR s l ⟨#[]⟩ := ⟨fun _ => rfl, fun q => absurd q h⟩
theorem inf_id32 (x : ByteArray) (h : x.size = 32) : (Tryz.prog.info? 23).map (·.size) = some (idc x).toList.length := by rw [Array.length_toList]; exact info_32 (by rw [idc_size, h])
theorem inf_xrL (e : Xe) (h : e.id.size = 32) : (Tryz.prog.info? 56).map (·.size) = some (xeC e).toList.length := by rw [Array.length_toList, xeC_size e h]; exact inf_xr35
set_option maxHeartbeats 4000000 in
set_option maxRecDepth 100000 in
theorem rbuild13 (s : ByteArray) (l : List Xe) (a : Option Addr) (n c : Nat) (w : World) (hs : s.size = 32) (hX : XeL w a l) (hl : l.length = n) (hA : (a = none ∧ c = 0) ∨ ∃ g o, a = some ⟨g, o, none⟩) (hc : n ≤ c) (hn : n ≤ 4611686018427387904) :
    Calls Tryz.prog 7 #[.agg (idc s), .slice a n c] w fun e w' => ∃ R, e = .returned (.tuple #[.string R, .int .i64 (bE l)]) ∧ BdR s l R ∧ Below w.heap.size w w' := by
  have HX : Hid (XeL w a l) := hX
  have HN : Hid (l.length = n) := hl
  have HSZ : Hid (s.size = 32 ∧ n ≤ c) := ⟨hs, hc⟩
  have HAA : Hid ((a = none ∧ c = 0) ∨ ∃ g o, a = some ⟨g, o, none⟩) := hA
  have hmm := @run_makeMap Tryz.prog
  obtain ⟨D, hD⟩ : ∃ D, idc s = D := ⟨_, rfl⟩
  have HD : Hid (idc s = D) := hD
  have HS0 : Hid _ := BXr.new w D
  rw [hD]
  have HNB : Hid (n ≤ 4611686018427387904) := hn
  clear hX hl hs hD hA hc hn
  go_enter Tryz.func7, Tryz.ntmps7
  go_wp2
  go_loopw [7] (fun v wr => ∃ k : Nat, v = .int .i64 k ∧ k ≤ n ∧ Hid (BXr w (w.heap.size + 1) D (l.take k) wr ∧ bE l = xbE (l.take k) (l.drop k) ∧ GdX (l.take k))) (fun v _ => n - (intOf v).toNat)
  case atStart => exact ⟨0, rfl, Nat.zero_le _, HS0.out, rfl, by rw [List.take_zero]; exact GdX.nil⟩
  case round =>
    clear HS0 hmm
    obtain ⟨k, rfl, hk, HR⟩ := hrel
    by_cases hlt : k < n
    · have hkz : (k : Int) < (n : Int) := by omega
      obtain ⟨e, he⟩ : ∃ e, l[k]? = some e := ⟨_, List.getElem?_eq_getElem (by rw [HN.out]; exact hlt)⟩
      have HST : Hid _ := xbE_step l k e he
      have HT1 : Hid (l.take (k + 1) = l.take k ++ [e]) := by show _ = _; rw [List.take_add_one, he]; rfl
      have HKL : Hid (k ≤ 65536) := by have := HR.out.2.2.len; rw [List.length_take, HN.out] at this; show k ≤ 65536; omega
      have hk7 : k ≤ 70000 := by have := HKL.out; omega
      have HLK : Hid ((l.take k).length = k) := by show _ = _; rw [List.length_take, HN.out]; omega
      obtain ⟨hid, ge, oe, ea, hge, hce⟩ := HX.out k e he
      have HCE : Hid (∀ W, Below w.heap.size w W → ∀ j v, (xeC e).toList[j]? = some v → W.cell? ⟨ge, oe + k * 35 + j, none⟩ = some v) := fun W hW j v hv => by rw [hW.cell (p := ⟨ge, oe + k * 35 + j, none⟩) hge]; exact hce j v (by rwa [Array.getElem?_toList] at hv)
      have HCI : Hid (∀ W, Below w.heap.size w W → ∀ j v, (idc e.id).toList[j]? = some v → W.cell? ⟨ge, oe + k * 35 + j, none⟩ = some v) := fun W hW j v hv => HCE.out W hW j v (by rw [Array.getElem?_toList] at hv ⊢; have := xeC_id e hid j v hv; rwa [Nat.zero_add] at this)
      have HID : Hid (e.id.size = 32) := hid
      have I35 := inf_xrL e hid
      have I32 := inf_id32 e.id hid
      subst ea
      clear he hce hid
      go_wp2_with (first
        | (refine wpList_load_mid rfl 56 (.tmp 19) rfl ge (oe + k * 35) rfl (xeC e).toList _ (HCE.out _ HR.out.1.bel) Tryz.underlying56 rfl I35 ?_)
        | fail)
      refine (rmay_any e _ HID.out).mono ?_
      rintro r w2 ⟨rfl, hw2⟩
      have HR2 : Hid (BXr w (w.heap.size + 1) D (l.take k) w2) := by
        show BXr _ _ _ _ _
        rw [hw2]
        exact HR.out.1.keep ((Below.refl _ _).alloc (Nat.le_refl _) _)
      clear hw2
      cases hok : okX e with
      | false =>
        have HE : Hid (bE l = 1) := by show _ = _; rw [HR.out.2.1, HST.out, if_pos (.inl hok)]
        clear hok
        go_wp2
        go_ret2
        exact ⟨_, ret_seR HE.out, BdR.no (by rw [HE.out]; decide), HR2.out.bel⟩
      | true =>
        by_cases hmax : k = 65536
        · have hmz : (65536 : Int) ≤ (k : Int) := by omega
          have HE : Hid (bE l = 1) := by show _ = _; rw [HR.out.2.1, HST.out, if_pos (.inr hmax)]
          clear hmax hok
          go_wp2
          go_ret2
          exact ⟨_, ret_seR HE.out, BdR.no (by rw [HE.out]; decide), HR2.out.bel⟩
        · have hdz : decide ((65536 : Int) ≤ (k : Int)) = false := decide_eq_false (by have := HKL.out; omega)
          have HMX : Hid (¬ (okX e = false ∨ k = 65536)) := by rintro (q | q); rw [hok] at q; cases q; exact hmax q
          obtain ⟨nn, hlk⟩ := HR2.out.look e.id HID.out
          clear hmax hok
          cases hhas : hasX (l.take k) e.id with
          | true =>
            have HE : Hid (bE l = 7) := by show _ = _; rw [HR.out.2.1, HST.out, if_neg HMX.out, if_pos hhas]
            rw [hhas] at hlk
            obtain ⟨D2, hD2⟩ : ∃ D2, idc e.id = D2 := ⟨_, rfl⟩
            rw [hD2] at hlk I32 HCI
            clear hhas hD2
            go_wp2_with (first
              | (refine wpList_load_mid rfl 23 (.tmp 32) rfl ge (oe + k * 35) rfl D2.toList _ (HCI.out _ HR2.out.bel) Tryz.underlying23 rfl I32 ?_)
              | fail)
            go_ret2
            exact ⟨_, ret_seR HE.out, BdR.no (by rw [HE.out]; decide), HR2.out.bel⟩
          | false =>
            have HE : Hid (bE l = xbE (l.take (k + 1)) (l.drop (k + 1))) := by show _ = _; rw [HR.out.2.1, HST.out, if_neg HMX.out, if_neg (by rw [hhas]; simp)]
            have HG : Hid (GdX (l.take (k + 1))) := by
              show GdX _
              rw [HT1.out]
              exact HR.out.2.2.snoc (by rw [HLK.out]; exact HMX.out) hhas
            rw [hhas] at hlk
            obtain ⟨w3, hput, h3⟩ := HR2.out.put (by rw [HLK.out]; have := HKL.out; omega) e HID.out (k : Int)
            have HR3 : Hid (BXr w (w.heap.size + 1) D (l.take (k + 1)) w3) := by show BXr _ _ _ _ _; rw [HT1.out]; exact h3
            obtain ⟨D2, hD2⟩ : ∃ D2, idc e.id = D2 := ⟨_, rfl⟩
            rw [hD2] at hlk I32 HCI hput
            clear hhas hD2 h3
            go_wp2_with (first
              | (refine wpList_load_mid rfl 23 (.tmp 32) rfl ge (oe + k * 35) rfl D2.toList _ (HCI.out _ HR2.out.bel) Tryz.underlying23 rfl I32 ?_)
              | (refine wpList_load_mid rfl 23 (.tmp 42) rfl ge (oe + k * 35) rfl D2.toList _ (HCI.out _ HR2.out.bel) Tryz.underlying23 rfl I32 ?_)
              | fail)
            go_roundw
            case rel => exact ⟨k + 1, by go_num, by omega, HR3.out, HE.out, HG.out⟩
            case measure => simp [intOf]; omega
    · have hkz : ¬ (k : Int) < (n : Int) := by omega
      have HF : Hid (BXr w (w.heap.size + 1) D l wr ∧ bE l = 0 ∧ GdX l) := by
        have h := HR.out
        rw [show k = l.length from by rw [HN.out]; omega, List.take_length, List.drop_length] at h
        exact ⟨h.1, h.2.1, h.2.2⟩
      have HBK : Hid (Bk wr w.heap.size D 23 ∧ Below w.heap.size w wr) := ⟨HF.out.1.bx, HF.out.1.bel⟩
      have HE0 : Hid (bE l = 0 ∧ GdX l) := HF.out.2
      obtain ⟨cs, hcs⟩ : ∃ cs : List Value, D.toList = cs := ⟨_, rfl⟩
      have hca : D = cs.toArray := by rw [← hcs]
      have hcl : cs.length = 32 := by rw [← hcs, Array.length_toList, ← HD.out, idc_size, HSZ.out.1]
      have HRA : Hid (∀ W, Below wr.heap.size wr W → W.rangeAt w.heap.size 0 cs) := fun W hW j v hv => by
        rw [Nat.zero_add, (HBK.out.1.below hW HBK.out.1.lt).cell]
        rwa [← hcs, Array.getElem?_toList] at hv
      have HSO : Hid (∀ W, Below w.heap.size w W → Calls Tryz.prog 32 #[.slice a n c] W fun e w' => ∃ g c' L, e = .returned (.slice (some ⟨g, 0, none⟩) n c') ∧ XeL w' (some ⟨g, 0, none⟩) L ∧ L.length = n ∧ L.Perm l ∧ OkL L ∧ Below W.heap.size W w') := fun W hW => by
        have key : Calls Tryz.prog 32 #[.slice a n c] W fun e w' => SoS W l n e w' := by
          rcases HAA.out with ⟨h1, h2⟩ | ⟨g, o, h1⟩
          · have hn0 : n = 0 := by have := HSZ.out.2; omega
            have hl0 : l = [] := List.eq_nil_of_length_eq_zero (by rw [HN.out]; exact hn0)
            rw [h1, h2, hn0, hl0]; exact rsorted_nil 0 W
          · rw [h1]
            have hx := HX.out.below hW
            rw [h1] at hx
            exact rsorted_any l ⟨g, o, none⟩ n c W HN.out hx HSZ.out.2 (by have := HE0.out.2.len; rw [HN.out] at this; exact this)
        refine key.mono ?_
        rintro e w' ⟨g, c', L, h1, h2, h3, h4, h5⟩
        have hLn : L.length = n := by rw [h3.length_eq]; exact HN.out
        have hid : ∀ e ∈ L, e.id.size = 32 := fun e he => HX.out.ids e (h3.mem_iff.1 he)
        obtain ⟨a', c'', hv, hx, _, _⟩ := own_xel h2 hLn hid
        injection hv with hv _ _
        subst hv
        have hri : Rise L := by
          have hap : Aprt L := HE0.out.2.ap.perm h3.symm
          exact (h4.and hap).imp (fun {a b} q => ltN_ne q.2 q.1)
        exact ⟨g, c', L, h1, hx, hLn, h3, ⟨fun e he => HE0.out.2.ok e (h3.mem_iff.1 he), hid, hri, by rw [hLn, ← HN.out]; exact HE0.out.2.len⟩, h5⟩
      have HLD : Hid (∀ g c' L W, XeL W (some ⟨g, 0, none⟩) L → L.length = n → OkL L → Calls Tryz.prog 31 #[.agg cs.toArray, .slice (some ⟨g, 0, none⟩) n c'] W fun e w' => e = .returned (.string ⟨(ixB s L).toArray⟩) ∧ Below W.heap.size W w') := fun g c' L W h1 h2 h3 => by
        rw [← hca, ← HD.out]
        exact rlaid_any s L _ n c' W HSZ.out.1 h1 h2 (by have := h3.len; omega) (fun e he => by have := (okX_iff e).1 (h3.ok e he); omega)
      have hi4 : (Tryz.prog.info? 23).map (·.size) = some cs.length := by rw [hcl]; kernel_rfl
      have hu4 := Tryz.underlying23
      have hS4 : wr.rangeAt w.heap.size 0 cs := HRA.out _ (Below.refl _ _)
      clear HR hlt HF hcs hca
      go_wp2_with fail
      go_region_held3 (fun W => W.rangeAt w.heap.size 0 cs) (first | exact HRA.out _ (Below.refl _ _) | exact HRA.out _ (Below.refl _ _).drew | exact HRA.out _ HB2.out.1 | exact HRA.out _ HB3.out)
        (first
        | (go_at_call 31; refine Calls.mono (HLD.out _ _ _ _ HB2.out.2.1 HB2.out.2.2.1 HB2.out.2.2.2.2) ?_; rintro e w3 ⟨rfl, hb3⟩
           have HB3 : Hid (Below wr.heap.size wr w3) := HB2.out.1.trans (hb3.mono HB2.out.1.size)
           clear hb3)
        | (go_at_call 32; refine Calls.mono (HSO.out _ HBK.out.2.drew) ?_; rintro e w2 ⟨g, c', L, rfl, h1, h2, h3, h4, hb2⟩
           have HB2 : Hid (Below wr.heap.size wr w2 ∧ XeL w2 (some ⟨g, 0, none⟩) L ∧ L.length = n ∧ L.Perm l ∧ OkL L) := ⟨(Below.refl wr.heap.size wr).drew.trans hb2, h1, h2, h3, h4⟩
           clear h1 h2 h3 h4 hb2)
        | fail)
      go_wp2
      go_ret2
      exact ⟨_, ret_seR HE0.out.1, ⟨fun q => absurd HE0.out.1 q, fun _ => ⟨L, HB2.out.2.2.2.1, HB2.out.2.2.2.2, rfl⟩⟩, HBK.out.2.trans (HB3.out.mono HBK.out.2.size)⟩
end Go.Proofs.YtpfknjnigcefgaaGreatDoor
/- The layings of strings.Builder. -/
namespace Go.Proofs.YtpfknjnigcefgaaGreatDoor
open Go.Shelf
def lays169_ren : Go.Shelf.Ren := ⟨fun | 169 => 66 | n => n, fun | 70 => 116 | 9 => 9 | 0 => 0 | 72 => 118 | 37 => 82 | 127 => 155 | 3 => 3 | 5 => 5 | n => n, fun | n => n⟩
theorem lays169 : Go.Proofs.Lays.n169 Tryz.prog lays169_ren := {
  mixed := by kernel_rfl
  f169 := Tryz.func66.trans (congrArg some (by kernel_rfl))
  t0 := Tryz.underlying0
  a0 := Tryz.isAgg0
  z0 := Tryz.sizeOf0
  v0 := Tryz.zeroValue0
  t3 := Tryz.underlying3
  a3 := Tryz.isAgg3
  z3 := Tryz.sizeOf3
  v3 := Tryz.zeroValue3
  t9 := Tryz.underlying9
  a9 := Tryz.isAgg9
  z9 := Tryz.sizeOf9
  v9 := Tryz.zeroValue9
  t37 := Tryz.underlying82
  a37 := Tryz.isAgg82
  z37 := Tryz.sizeOf82
  v37 := Tryz.zeroValue82
  t70 := Tryz.underlying116
  a70 := Tryz.isAgg116
  z70 := Tryz.sizeOf116
  v70 := Tryz.zeroValue116
  t72 := Tryz.underlying118
  a72 := Tryz.isAgg118
  z72 := Tryz.sizeOf118
  v72 := Tryz.zeroValue118
  t127 := Tryz.underlying155
  a127 := Tryz.isAgg155
  z127 := Tryz.sizeOf155
  v127 := Tryz.zeroValue155 }
def lays166_ren : Go.Shelf.Ren := ⟨fun | 166 => 63 | 240 => 102 | 276 => 128 | n => n, fun | 0 => 0 | 3 => 3 | 4 => 4 | 5 => 5 | 9 => 9 | 20 => 20 | 37 => 82 | 70 => 116 | 72 => 118 | 75 => 122 | 164 => 180 | 80 => 65 | n => n, fun | n => n⟩
theorem lays166 : Go.Proofs.Lays.n166 Tryz.prog lays166_ren := {
  mixed := by kernel_rfl
  f166 := Tryz.func63.trans (congrArg some (by kernel_rfl))
  f240 := Tryz.func102.trans (congrArg some (by kernel_rfl))
  f276 := Tryz.func128.trans (congrArg some (by kernel_rfl))
  t0 := Tryz.underlying0
  a0 := Tryz.isAgg0
  z0 := Tryz.sizeOf0
  v0 := Tryz.zeroValue0
  t3 := Tryz.underlying3
  a3 := Tryz.isAgg3
  z3 := Tryz.sizeOf3
  v3 := Tryz.zeroValue3
  t4 := Tryz.underlying4
  a4 := Tryz.isAgg4
  z4 := Tryz.sizeOf4
  v4 := Tryz.zeroValue4
  t9 := Tryz.underlying9
  a9 := Tryz.isAgg9
  z9 := Tryz.sizeOf9
  v9 := Tryz.zeroValue9
  t20 := Tryz.underlying20
  a20 := Tryz.isAgg20
  z20 := Tryz.sizeOf20
  v20 := Tryz.zeroValue20
  t37 := Tryz.underlying82
  a37 := Tryz.isAgg82
  z37 := Tryz.sizeOf82
  v37 := Tryz.zeroValue82
  t70 := Tryz.underlying116
  a70 := Tryz.isAgg116
  z70 := Tryz.sizeOf116
  v70 := Tryz.zeroValue116
  t72 := Tryz.underlying118
  a72 := Tryz.isAgg118
  z72 := Tryz.sizeOf118
  v72 := Tryz.zeroValue118
  t75 := Tryz.underlying122
  a75 := Tryz.isAgg122
  z75 := Tryz.sizeOf122
  v75 := Tryz.zeroValue122
  t164 := Tryz.underlying180
  a164 := Tryz.isAgg180
  z164 := Tryz.sizeOf180
  v164 := Tryz.zeroValue180 }
theorem extra166 : Builder.Extra Tryz.prog lays166_ren := {
  sizeBuilder := by kernel_rfl
  liesBuilder := by kernel_rfl
  t5 := Tryz.underlying5
  a5 := Tryz.isAgg5
  z5 := Tryz.sizeOf5
  v5 := Tryz.zeroValue5
  infoByte := by kernel_rfl
  cellsByte := by kernel_rfl
  sizeByte := by kernel_rfl
  neB5 := by decide }
theorem extra169 : Builder.Extra Tryz.prog lays169_ren := {
  sizeBuilder := by kernel_rfl
  liesBuilder := by kernel_rfl
  t5 := Tryz.underlying5
  a5 := Tryz.isAgg5
  z5 := Tryz.sizeOf5
  v5 := Tryz.zeroValue5
  infoByte := by kernel_rfl
  cellsByte := by kernel_rfl
  sizeByte := by kernel_rfl
  neB5 := by decide }
end Go.Proofs.YtpfknjnigcefgaaGreatDoor
/- strings.Builder, all but WriteByte. -/
namespace Go.Proofs.YtpfknjnigcefgaaGreatDoor
open Go.RowKit
set_option linter.unusedSimpArgs false
set_option linter.unusedVariables false
/-- A builder that holds these bytes. -/
abbrev Bld (B b : Nat) (l : List UInt8) (w : World) : Prop := Lib.IsBuilderF 118 5 B b (Lib.byteCells l) w
abbrev Oth (b : Nat) (w w' : World) : Prop := Lib.OthersKept 5 (some b) w w'
theorem str_cells (s : ByteArray) : Lib.strCells s = Lib.byteCells s.data.toList := by
  unfold Lib.strCells Lib.byteCells
  rfl
theorem writeS (B b : Nat) (l : List UInt8) (s : ByteArray) (w : World) (h : Bld B b l w) (hlen : l.length + s.size ≤ 140737488355328) (hBw : B ≤ w.heap.size) :
    Calls Tryz.prog 63 #[.pointer (some ⟨b, 0, none⟩), .string s] w fun e w' => e = .returned (.tuple #[.int .i64 s.size, .nilIface]) ∧ Bld B b (l ++ s.data.toList) w' ∧ Below B w w' ∧ Oth b w w' :=
  (Any.Builder_WriteString_k lays166 extra166 B b (Lib.byteCells l) s w h (by rw [Lib.byteCells_length]; exact hlen) hBw).mono fun e w' ⟨he, h1, h2, h3⟩ =>
    ⟨he, by rw [Bld, Lib.byteCells_append, ← str_cells]; exact Or.inr h1, h2, h3⟩
theorem buildS (B b : Nat) (l : List UInt8) (w : World) (h : Bld B b l w) (hBw : B ≤ w.heap.size) :
    Calls Tryz.prog 66 #[.pointer (some ⟨b, 0, none⟩)] w fun e w' => e = .returned (.string ⟨l.toArray⟩) ∧ Bld B b l w' ∧ Below B w w' ∧ Oth b w w' :=
  Any.Builder_String_any_k lays169 extra169 B b l w h hBw
theorem fresh_bld (w : World) : Bld w.heap.size w.heap.size [] (w.alloc (.cells #[.pointer none, .slice none 0 0] 118)) := Lib.IsBuilderF.of (Lib.fresh_isBuilder _ _ w)
end Go.Proofs.YtpfknjnigcefgaaGreatDoor
/- The laying of strings.Builder.Grow. -/
namespace Go.Proofs.YtpfknjnigcefgaaGreatDoor
open Go.Shelf
def lays165_ren : Go.Shelf.Ren := ⟨fun | 165 => 60 | 240 => 102 | 241 => 103 | 276 => 128 | 277 => 129 | n => n, fun | 70 => 116 | 3 => 3 | 0 => 0 | 4 => 4 | 9 => 9 | 20 => 20 | 72 => 118 | 37 => 82 | 164 => 180 | 5 => 5 | n => n, fun | n => n⟩
theorem lays165 : Go.Proofs.Lays.n165 Tryz.prog lays165_ren := {
  mixed := by kernel_rfl
  f165 := Tryz.func60.trans (congrArg some (by kernel_rfl))
  f240 := Tryz.func102.trans (congrArg some (by kernel_rfl))
  f241 := Tryz.func103.trans (congrArg some (by kernel_rfl))
  f276 := Tryz.func128.trans (congrArg some (by kernel_rfl))
  f277 := Tryz.func129.trans (congrArg some (by kernel_rfl))
  t0 := Tryz.underlying0
  a0 := Tryz.isAgg0
  z0 := Tryz.sizeOf0
  v0 := Tryz.zeroValue0
  t3 := Tryz.underlying3
  a3 := Tryz.isAgg3
  z3 := Tryz.sizeOf3
  v3 := Tryz.zeroValue3
  t4 := Tryz.underlying4
  a4 := Tryz.isAgg4
  z4 := Tryz.sizeOf4
  v4 := Tryz.zeroValue4
  t9 := Tryz.underlying9
  a9 := Tryz.isAgg9
  z9 := Tryz.sizeOf9
  v9 := Tryz.zeroValue9
  t20 := Tryz.underlying20
  a20 := Tryz.isAgg20
  z20 := Tryz.sizeOf20
  v20 := Tryz.zeroValue20
  t37 := Tryz.underlying82
  a37 := Tryz.isAgg82
  z37 := Tryz.sizeOf82
  v37 := Tryz.zeroValue82
  t70 := Tryz.underlying116
  a70 := Tryz.isAgg116
  z70 := Tryz.sizeOf116
  v70 := Tryz.zeroValue116
  t72 := Tryz.underlying118
  a72 := Tryz.isAgg118
  z72 := Tryz.sizeOf118
  v72 := Tryz.zeroValue118
  t164 := Tryz.underlying180
  a164 := Tryz.isAgg180
  z164 := Tryz.sizeOf180
  v164 := Tryz.zeroValue180 }
end Go.Proofs.YtpfknjnigcefgaaGreatDoor
/- strings.Builder: Write of bytes that lie somewhere, Grow of a fresh one. -/
namespace Go.Proofs.YtpfknjnigcefgaaGreatDoor
open Go.RowKit
set_option linter.unusedSimpArgs false
set_option linter.unusedVariables false
set_option maxHeartbeats 2000000 in
set_option maxRecDepth 100000 in
theorem writeV (B b : Nat) (l L : List UInt8) (g o n c : Nat) (C : Array Value) (T : TypeId) (w : World) (h : Bld B b l w) (hB0 : Bk w g C T) (hT : T ≠ 5) (hgb : g ≠ b) (hL : L.length = n) (hc : ∀ j u, (Lib.byteCells L)[j]? = some u → C[o + j]? = some u) (hlen : l.length + n ≤ 140737488355328) (hBw : B ≤ w.heap.size) :
    Calls Tryz.prog 64 #[.pointer (some ⟨b, 0, none⟩), .slice (some ⟨g, o, none⟩) n c] w fun e w' => e = .returned (.tuple #[.int .i64 n, .nilIface]) ∧ Bld B b (l ++ L) w' ∧ Below B w w' ∧ Oth b w w' := by
  obtain ⟨i0, hi, hz0, hz1, hz2⟩ := info_parts extra166.infoByte
  have hi' : Tryz.prog.info? 5 = some i0 := hi
  have e240 : ∀ args w, (callFunc 102 args).run Tryz.prog w = .ok (.enter 102 args) w := enters_of Tryz.func102 (by kernel_rfl) rfl
  have HCK : Hid (Calls Tryz.prog 102 #[.pointer (some ⟨b, 0, none⟩)] w fun e w' => e = .returned (.tuple #[]) ∧ (Lib.BuilderAtF 118 5 B b (.pointer (some ⟨b, 0, none⟩)) (Lib.byteCells l) w' ∧ Below B w w' ∧ Lib.OthersKept 5 (some b) w w')) := Any.Builder_copyCheck_k { lays166 with } extra166.toX72 B b (Lib.byteCells l) w h
  have HB0 : Hid (Bk w g C T) := hB0
  have HC : Hid (∀ j u, (Lib.byteCells L)[j]? = some u → C[o + j]? = some u) := hc
  have HLL : Hid (L.length = n) := hL
  clear h hB0 hc hi
  have hbl := Lib.byteCells_length l
  have hbL := Lib.byteCells_length L
  go_enter Tryz.func64, Tryz.ntmps64
  go_wp2_with fail
  refine HCK.out.mono ?_
  rintro e w1 ⟨rfl, h1, hb1, hk1⟩
  obtain ⟨hB, v, hbk, hown, hne⟩ := h1
  have c0 : w1.cell? ⟨b, 0, none⟩ = some (.pointer (some ⟨b, 0, none⟩)) := by rw [Lib.cell_of_heap hbk]; rfl
  have c1 : w1.cell? ⟨b, 1, none⟩ = some v := by rw [Lib.cell_of_heap hbk]; rfl
  have HB1 : Hid (Bk w1 g C T) := hk1 g _ HB0.out (fun e => hgb (Option.some.inj e)) (fun c' fz e => by injection e with _ e2; exact hT e2)
  go_wp2_with (at_builtin; refine wpList_append_ownF _ rfl _ _ 82 rfl B 5 i0 (.int .u8 0) 1 1 Tryz.underlying82 hi' hz0 hz1 hz2 rfl (by decide) _ _ _ rfl hown ⟨g, o, none⟩ n c (Lib.byteCells L) rfl ?c0 ?c1 ?c2 ?c3 ?c4 ?c5 ?_)
  case c0 => rw [hbL, HLL.out, Nat.mul_one]
  case c1 =>
    intro j u hj
    rw [WideShapes.add_plain, HB1.out.cell]
    exact HC.out j u hj
  case c2 => exact Lib.byteCells_one L
  case c3 => rw [hbl]; unfold maxLen; omega
  case c4 => rw [hbl]; omega
  case c5 => have := hb1.size; omega
  intro v' w2 hown' hgrow _
  have hlt : b < w1.heap.size := by
    rcases Nat.lt_or_ge b w1.heap.size with h' | h'
    · exact h'
    · simp [Array.getElem?_eq_none h'] at hbk
  have hb2 : w2.heap[b]? = some (.cells #[.pointer (some ⟨b, 0, none⟩), v] 118 (0, 0)) := by
    rw [hgrow.block b hlt (fun e => hne e.symm)]
    exact hbk
  have d0 : w2.cell? ⟨b, 0, none⟩ = some (.pointer (some ⟨b, 0, none⟩)) := by rw [Lib.cell_of_heap hb2]; rfl
  have d1 : w2.cell? ⟨b, 1, none⟩ = some v := by rw [Lib.cell_of_heap hb2]; rfl
  have f1 : w2.frozen? ⟨b, 1, none⟩ = false := Lib.frozen_of_heap hb2 1
  obtain ⟨ao, n', cap, rfl⟩ : ∃ ao n' cap, v' = .slice ao n' cap := by
    rcases hown'.2 with ⟨hv, _⟩ | ⟨g, cap, cur, fz, hv, _⟩
    · exact ⟨_, _, _, hv⟩
    · exact ⟨_, _, _, hv⟩
  have HE : Hid (Bld B b (l ++ L) (w2.setCell ⟨b, 1, none⟩ (.slice ao n' cap)) ∧ Below B w (w2.setCell ⟨b, 1, none⟩ (.slice ao n' cap)) ∧ Oth b w (w2.setCell ⟨b, 1, none⟩ (.slice ao n' cap))) := by
    refine ⟨Or.inr ?_, ?_, (hk1.grown hgrow (Lib.ownsRowF_kind hown)).setCell ⟨b, 1, none⟩ rfl _⟩
    · rw [Lib.byteCells_append]
      exact Lib.BuilderAtF.put (T := 118) (e := 5) hB hb2 (bs' := Lib.byteCells l ++ Lib.byteCells L) (by rw [List.length_append, hbL, hbl, HLL.out]; exact hown') extra166.neB5
    · exact (hb1.grown hgrow (by have := hb1.size; omega) (fun k hk => (hown.lt k hk).1)).setCell (p := ⟨b, 1, none⟩) hB _
  clear hown hown' hgrow hk1 hb1 hbk hb2 hne
  go_wp2
  go_ret2
  exact ⟨rfl, HE.out⟩
theorem extra165 : Builder.Extra Tryz.prog lays165_ren := {
  sizeBuilder := by kernel_rfl
  liesBuilder := by kernel_rfl
  t5 := Tryz.underlying5
  a5 := Tryz.isAgg5
  z5 := Tryz.sizeOf5
  v5 := Tryz.zeroValue5
  infoByte := by kernel_rfl
  cellsByte := by kernel_rfl
  sizeByte := by kernel_rfl
  neB5 := by decide }
/-- Grow of a builder that was just made. -/
theorem growB (n : Nat) (w : World) (hn : n ≤ 281474976710656) :
    Calls Tryz.prog 60 #[.pointer (some ⟨w.heap.size, 0, none⟩), .int .i64 n] (w.alloc (.cells #[.pointer none, .slice none 0 0] 118)) fun e w' => e = .returned (.tuple #[]) ∧ Bld w.heap.size w.heap.size [] w' ∧ Below w.heap.size w w' := by
  refine (Any.Builder_Grow_fresh lays165 extra165 w.heap.size w.heap.size n (w.alloc (.cells #[.pointer none, .slice none 0 0] 118)) (Nat.le_refl _) (bk_new _ _ _) (by rw [al_size]; omega) hn).mono ?_
  rintro e w' ⟨he, h1, h2⟩
  exact ⟨he, .inr (Lib.BuilderAtF.of h1), ((Below.refl _ _).alloc (Nat.le_refl _) _).trans h2⟩
end Go.Proofs.YtpfknjnigcefgaaGreatDoor
/- The laying of strings.Builder.WriteByte. -/
namespace Go.Proofs.YtpfknjnigcefgaaGreatDoor
open Go.Shelf
def lays167_ren : Go.Shelf.Ren := ⟨fun | 167 => 65 | 240 => 102 | 276 => 128 | n => n, fun | 0 => 0 | 3 => 3 | 4 => 4 | 5 => 5 | 9 => 9 | 20 => 20 | 37 => 82 | 70 => 116 | 72 => 118 | 75 => 122 | 164 => 180 | 80 => 65 | n => n, fun | n => n⟩
theorem lays167 : Go.Proofs.Lays.n167 Tryz.prog lays167_ren := {
  mixed := by kernel_rfl
  f167 := Tryz.func65.trans (congrArg some (by kernel_rfl))
  f240 := Tryz.func102.trans (congrArg some (by kernel_rfl))
  f276 := Tryz.func128.trans (congrArg some (by kernel_rfl))
  t0 := Tryz.underlying0
  a0 := Tryz.isAgg0
  z0 := Tryz.sizeOf0
  v0 := Tryz.zeroValue0
  t4 := Tryz.underlying4
  a4 := Tryz.isAgg4
  z4 := Tryz.sizeOf4
  v4 := Tryz.zeroValue4
  t5 := Tryz.underlying5
  a5 := Tryz.isAgg5
  z5 := Tryz.sizeOf5
  v5 := Tryz.zeroValue5
  t9 := Tryz.underlying9
  a9 := Tryz.isAgg9
  z9 := Tryz.sizeOf9
  v9 := Tryz.zeroValue9
  t20 := Tryz.underlying20
  a20 := Tryz.isAgg20
  z20 := Tryz.sizeOf20
  v20 := Tryz.zeroValue20
  t37 := Tryz.underlying82
  a37 := Tryz.isAgg82
  z37 := Tryz.sizeOf82
  v37 := Tryz.zeroValue82
  t70 := Tryz.underlying116
  a70 := Tryz.isAgg116
  z70 := Tryz.sizeOf116
  v70 := Tryz.zeroValue116
  t72 := Tryz.underlying118
  a72 := Tryz.isAgg118
  z72 := Tryz.sizeOf118
  v72 := Tryz.zeroValue118
  t75 := Tryz.underlying122
  a75 := Tryz.isAgg122
  z75 := Tryz.sizeOf122
  v75 := Tryz.zeroValue122
  t164 := Tryz.underlying180
  a164 := Tryz.isAgg180
  z164 := Tryz.sizeOf180
  v164 := Tryz.zeroValue180 }
theorem extra167 : Builder.Extra Tryz.prog lays167_ren := {
  sizeBuilder := by kernel_rfl
  liesBuilder := by kernel_rfl
  t5 := Tryz.underlying5
  a5 := Tryz.isAgg5
  z5 := Tryz.sizeOf5
  v5 := Tryz.zeroValue5
  infoByte := by kernel_rfl
  cellsByte := by kernel_rfl
  sizeByte := by kernel_rfl
  neB5 := by decide }
end Go.Proofs.YtpfknjnigcefgaaGreatDoor
