import Derived.Test.YtecpcocnoengiaaY2
import Derived.Test.YtecpcocnoengiaaY3
import Derived.Deep.RegionHeld3
import Derived.Test.YtecpcocnoengiaaChecked
import Derived.BigQuiet
import Derived.Deep.QuietTactic
import Derived.StillTail
import Derived.Deep.Quiet
/- shards.mixed: of each row a shard. -/
namespace Go.Proofs.Ytecpcocnoengiaa
open Go.RowKit
set_option linter.unusedSimpArgs false
set_option linter.unusedVariables false
theorem TxL.cel {w : World} {g o : Nat} {xs : List ByteArray} (h : TxL w (some ⟨g, o, none⟩) xs) {i : Nat} {x : ByteArray} (hx : xs[i]? = some x) : w.cell? ⟨g, o + i, none⟩ = some (.string x) := by
  obtain ⟨g2, o2, e, _, hc⟩ := h i x hx
  obtain ⟨rfl, rfl⟩ : g = g2 ∧ o = o2 := by simpa using e
  exact hc
/-- The byte p of the text j of a list. -/
def dm (xs : List ByteArray) (j p : Nat) : UInt8 := bt (xs.getD j (mkT [])) p
theorem dm_at (xs : List ByteArray) (j p : Nat) (x : ByteArray) (h : xs[j]? = some x) : dm xs j p = bt x p := by rw [dm, List.getD, h]; rfl
/-- A sum of shards, each times its number; of each row one. -/
def mxF (r : ByteArray) (xs : List ByteArray) (k p : Nat) : UInt8 := Sx k (fun j => mul (bt r j) (dm xs j p))
def mixT (r : ByteArray) (xs : List ByteArray) (d : Nat) : ByteArray := mkT (fl d (mxF r xs xs.length))
def mixL (rs xs : List ByteArray) (d : Nat) : List ByteArray := rs.map fun r => mixT r xs d
theorem mixL_len (rs xs : List ByteArray) (d : Nat) : (mixL rs xs d).length = rs.length := by simp [mixL]
theorem mixT_size (r : ByteArray) (xs : List ByteArray) (d : Nat) : (mixT r xs d).size = d := by rw [mixT, mkT_size, fl_len]
/-- A list of which the first i are laid. -/
def prt (L : List ByteArray) (i : Nat) : List ByteArray := L.take i ++ List.replicate (L.length - i) (mkT [])
theorem prt_len (L : List ByteArray) (i : Nat) (h : i ≤ L.length) : (prt L i).length = L.length := by simp [prt]; omega
theorem prt_zero (L : List ByteArray) : prt L 0 = List.replicate L.length (mkT []) := by simp [prt]
theorem prt_all (L : List ByteArray) : prt L L.length = L := by simp [prt]
theorem prt_at (L : List ByteArray) (i : Nat) (h : i < L.length) : (prt L i)[i]? = some (mkT []) := by
  rw [prt, List.getElem?_append_right (by simp; omega)]
  simp only [List.length_take, Nat.min_eq_left (Nat.le_of_lt h), Nat.sub_self]
  rw [List.getElem?_replicate, if_pos (by omega)]
theorem prt_next (L : List ByteArray) (i : Nat) (x : ByteArray) (h : L[i]? = some x) : (prt L i).set i x = prt L (i + 1) := by
  have hi : i < L.length := (List.getElem?_eq_some_iff.1 h).1
  apply List.ext_getElem?
  intro j
  rw [List.getElem?_set, prt_len L i (by omega)]
  unfold prt
  by_cases e : i = j
  · subst e
    rw [if_pos rfl, if_pos hi, List.getElem?_append_left (by simp; omega), List.getElem?_take, if_pos (by omega), h]
  · rw [if_neg e]
    by_cases h1 : j < i
    · rw [List.getElem?_append_left (by simp; omega), List.getElem?_append_left (by simp; omega), List.getElem?_take, List.getElem?_take, if_pos h1, if_pos (by omega)]
    · rw [List.getElem?_append_right (by simp; omega), List.getElem?_append_right (by simp; omega), List.getElem?_replicate, List.getElem?_replicate]
      simp only [List.length_take]
      by_cases h2 : j < L.length
      · rw [if_pos (by omega), if_pos (by omega)]
      · rw [if_neg (by omega), if_neg (by omega)]
theorem info_u8 : (Try.prog.info? 5).map (fun i => (i.zero, i.size, i.bytes)) = some (some (.int .u8 0), 1, 1) := by kernel_rfl
theorem made_u8 (n : Nat) : madeCells #[Value.int .u8 0] n = rc (fl n fun _ => 0) := by
  apply Array.ext_getElem?
  intro i
  rw [rc_get]
  simp only [madeCells]
  by_cases hi : i < n
  · rw [fl_get n _ i hi]
    simp [hi, Nat.mod_one]
  · rw [List.getElem?_eq_none (by rw [fl_len]; omega), Array.getElem?_eq_none (by simp; omega)]; rfl
theorem make_u8 (n : Nat) (hn : n ≤ 281474976710656) (u : World) : (Instr.makeSlice 28 (.int .i64 n) (.int .i64 n)).run Try.prog u =
    .ok (.slice (some ⟨u.heap.size, 0, none⟩) n n) (u.alloc (.cells (rc (fl n fun _ => 0)) 5)) := by
  obtain ⟨i0, hi, hz0, hz1, hz2⟩ := info_parts info_u8
  have h := run_make (P := Try.prog) u 28 5 i0 (.int .u8 0) Try.underlying28 hi hz0 .i64 .i64 (n : Int) (n : Int) (by omega) (Int.le_refl _) (by rw [hz2]; omega) (by omega)
  rw [Int.toNat_natCast] at h
  rw [← made_u8]
  simpa [hz1, Value.cells] using h
theorem conv_all (l : List UInt8) (g n cap : Nat) (T : TypeId) (w : World) (hl : l.length = n) (hB : Bk w g (rc l) T) :
    (convert 28 9 (.slice (some ⟨g, 0, none⟩) n cap)).run Try.prog w = .ok (.string (mkT l)) w := by
  have h := conv_front l g n cap T w (by omega) hB
  rwa [List.take_of_length_le (by omega)] at h
set_option maxHeartbeats 2000000 in
set_option maxRecDepth 100000 in
theorem mixed_any (a b : Option Addr) (ca cb n k d : Nat) (rs xs : List ByteArray) (w : World) (hr : TxL w a rs) (hx : TxL w b xs) (nr : rs.length = n) (nx : xs.length = k) (hn : n ≤ 64) (hk1 : 1 ≤ k) (hk : k ≤ 64)
    (sr : ∀ r ∈ rs, r.size = k) (sx : ∀ x ∈ xs, x.size = d) (hd : d ≤ 281474976710656) :
    Calls Try.prog 15 #[.slice a n ca, .slice b k cb] w fun e w' => ∃ ao, e = .returned (.slice ao n n) ∧ Mad w ao (mixL rs xs d) w' ∧ Below w.heap.size w w' := by
  obtain ⟨x0, hx0⟩ : ∃ x0, xs[0]? = some x0 := ⟨_, List.getElem?_eq_getElem (by omega)⟩
  obtain ⟨gb, ob, rfl, hgb, _⟩ := hx 0 x0 hx0
  have hs0 : x0.size = d := sx x0 (List.mem_of_getElem? hx0)
  have HX : Hid (TxL w (some ⟨gb, ob, none⟩) xs) := hx
  have HR : Hid (TxL w a rs) := hr
  have NR : Hid (rs.length = n) := nr
  have NX : Hid (xs.length = k) := nx
  have SR : Hid (∀ r ∈ rs, r.size = k) := sr
  have SX : Hid (∀ x ∈ xs, x.size = d) := sx
  have HX0 : Hid (xs[0]? = some x0) := hx0
  have NL : Hid ((mixL rs xs d).length = n) := by show _ = n; rw [mixL_len, nr]
  have hmk := make_txts n hn
  have hmu := make_u8 d hd
  clear hx hr nr nx sr sx hx0
  go_enter Try.func15, Try.ntmps15
  go_wp2_with fail
  go_loopw [16] (fun v wr => ∃ i : Nat, i ≤ n ∧ v = .int .i64 i ∧ Hid (Bk wr w.heap.size (txc (prt (mixL rs xs d) i)) 9) ∧ Hid (Below w.heap.size w wr) ∧ w.heap.size < wr.heap.size) (fun v _ => n - (intOf v).toNat)
  case atStart =>
    refine ⟨0, by omega, rfl, ?_, (Below.refl _ _).alloc (Nat.le_refl _) _, by rw [al_size]; omega⟩
    show Bk _ _ _ _
    rw [prt_zero, NL.out]
    exact bk_new w _ _
  case round =>
    obtain ⟨i, hi, rfl, HT, HW, hsz⟩ := hrel
    obtain ⟨wo, rfl⟩ : ∃ wo, wo = wr := ⟨_, rfl⟩
    by_cases hlt : i < n
    · have hiz : (i : Int) < (n : Nat) := by omega
      obtain ⟨r, hr⟩ : ∃ r, rs[i]? = some r := ⟨_, List.getElem?_eq_getElem (by rw [NR.out]; exact hlt)⟩
      obtain ⟨ga, oa, rfl, hga, hca⟩ := HR.out i r hr
      have hc1 : wo.cell? ⟨ga, oa + i, none⟩ = some (.string r) := by rw [HW.out.cell (p := ⟨ga, oa + i, none⟩) hga]; exact hca
      have hc2 : wo.cell? ⟨gb, ob, none⟩ = some (.string x0) := by
        have := (HX.out.below HW.out).cel HX0.out
        rwa [Nat.add_zero] at this
      have hrs := SR.out r (List.mem_of_getElem? hr)
      have HM : Hid ((mixL rs xs d)[i]? = some (mixT r xs d)) := by show _ = _; rw [mixL, List.getElem?_map, hr]; rfl
      clear hca hr
      go_wp2_with fail
      go_loopw [28] (fun v w2 => ∃ j : Nat, j ≤ k ∧ v = .int .i64 j ∧ Hid (Bk w2 wo.heap.size (rc (fl d (mxF r xs j))) 5) ∧ Hid (Below wo.heap.size wo w2) ∧ wo.heap.size < w2.heap.size) (fun v _ => k - (intOf v).toNat)
      case atStart =>
        refine ⟨0, by omega, rfl, ?_, (Below.refl _ _).alloc (Nat.le_refl _) _, by rw [al_size]; omega⟩
        show Bk _ _ _ _
        have e : fl d (mxF r xs 0) = fl d (fun _ => 0) := rfl
        rw [e]
        exact bk_new wo _ _
      case round =>
        obtain ⟨j, hj, rfl, HS, HV, hsv⟩ := hrel
        by_cases hlj : j < k
        · have hjz : (j : Int) < (k : Nat) := by omega
          have hjr : j < r.size := by omega
          obtain ⟨x, hxj⟩ : ∃ x, xs[j]? = some x := ⟨_, List.getElem?_eq_getElem (by rw [NX.out]; exact hlj)⟩
          have hc3 : wr.cell? ⟨gb, ob + j, none⟩ = some (.string x) := ((HX.out.below HW.out).below HV.out).cel hxj
          have hxs := SX.out x (List.mem_of_getElem? hxj)
          have HE : Hid (∀ p, mxF r xs (j + 1) p = mxF r xs j p ^^^ mul r[j] (bt x p)) := fun p => by
            show Sx (j + 1) _ = _
            rw [Sx, dm_at xs j p x hxj, ← bt_at r j hjr]; rfl
          obtain ⟨c, hc⟩ : ∃ c, r[j] = c := ⟨_, rfl⟩
          rw [hc] at HE
          have hc8 := c.toNat_lt
          clear hxj
          by_cases h0 : c = 0
          · have hz0 : ((c.toNat : Int) == 0) = true := by rw [h0]; rfl
            have HS2 : Hid (Bk wr wo.heap.size (rc (fl d (mxF r xs (j + 1)))) 5) := by
              show Bk _ _ _ _
              rw [fl_congr d (mxF r xs (j + 1)) (mxF r xs j) (fun p _ => by rw [HE.out p, h0, zero_mul, UInt8.xor_zero])]
              exact HS.out
            clear h0
            go_wp2
            go_roundw
            case rel => exact ⟨j + 1, by omega, by go_num, HS2.out, HV.out, hsv⟩
            case measure => simp [intOf]; omega
          · have hz0 : ((c.toNat : Int) == 0) = false := by rw [beq_eq_false_iff_ne]; intro e; apply h0; apply UInt8.toNat_inj.1; show c.toNat = 0; omega
            clear h0
            go_wp2_with fail
            refine (add_any wo.heap.size d (mxF r xs j) x c _ HS.out hxs (by omega)).mono ?_
            rintro e w3 ⟨rfl, hB3, hg3⟩
            have HS2 : Hid (Bk w3 wo.heap.size (rc (fl d (mxF r xs (j + 1)))) 5) := by
              show Bk _ _ _ _
              rw [fl_congr d (mxF r xs (j + 1)) (fun p => mxF r xs j p ^^^ mul c (bt x p)) (fun p _ => HE.out p)]
              exact hB3
            have HV2 : Hid (Below wo.heap.size wo w3) := below_own HV.out (by omega) hg3 (Nat.le_refl _)
            have hsv2 : wo.heap.size < w3.heap.size := Nat.lt_of_lt_of_le hsv hg3.size
            clear hB3 hg3
            go_wp2
            go_roundw
            case rel => exact ⟨j + 1, by omega, by go_num, HS2.out, HV2.out, hsv2⟩
            case measure => simp [intOf]; omega
        · have hjz : ¬ (j : Int) < (k : Nat) := by omega
          have hjk : j = k := by omega
          have HS2 : Hid (Bk wr wo.heap.size (rc (fl d (mxF r xs xs.length))) 5) := by
            have := HS.out
            rw [hjk, ← NX.out] at this
            exact this
          have hcv := conv_all (fl d (mxF r xs xs.length)) wo.heap.size d d 5 wr (fl_len _ _) HS2.out
          have HT2 : Hid (Bk wr w.heap.size (txc (prt (mixL rs xs d) i)) 9) := HT.out.below HV.out hsz
          have hc4 : wr.cell? ⟨w.heap.size, i, none⟩ = some (.string (mkT [])) := by rw [HT2.out.cell, txc_get, prt_at _ i (by rw [NL.out]; exact hlt)]; rfl
          have hf4 := HT2.out.frozen i
          have HN : Hid (Bk (wr.setCell ⟨w.heap.size, i, none⟩ (.string (mkT (fl d (mxF r xs xs.length))))) w.heap.size (txc (prt (mixL rs xs d) (i + 1))) 9) := by
            show Bk _ _ _ _
            rw [← prt_next _ i _ HM.out, ← txc_set]
            exact HT2.out.set i _
          have HWn : Hid (Below w.heap.size w (wr.setCell ⟨w.heap.size, i, none⟩ (.string (mkT (fl d (mxF r xs xs.length)))))) := (HW.out.trans (HV.out.mono (by omega))).setCell (Nat.le_refl _) _
          have hszn : w.heap.size < (wr.setCell ⟨w.heap.size, i, none⟩ (.string (mkT (fl d (mxF r xs xs.length))))).heap.size := by simp [World.setCell]; omega
          clear hjk HS HS2 HT2
          go_wp2
          go_roundw
          case rel => exact ⟨i + 1, by omega, by go_num, HN.out, HWn.out, hszn⟩
          case measure => simp [intOf]; omega
    · have hiz : ¬ (i : Int) < (n : Nat) := by omega
      have hin : i = n := by omega
      have HF : Hid (Bk wo w.heap.size (txc (mixL rs xs d)) 9) := by
        have := HT.out
        rw [hin, ← NL.out, prt_all] at this
        exact this
      go_wp2
      go_ret
      exact ⟨_, rfl, .inr ⟨_, rfl, Nat.le_refl _, HF.out⟩, HW.out⟩
end Go.Proofs.Ytecpcocnoengiaa
/- A row of bytes of the call's own under way. -/
namespace Go.Proofs.Ytecpcocnoengiaa
open Go.RowKit
set_option linter.unusedSimpArgs false
set_option linter.unusedVariables false
/-- A row of the call's own under way. -/
structure Mo (w0 : World) (l : List UInt8) (W : World) : Prop where
  r : Bk W w0.heap.size (rc l) 5
  b : Below w0.heap.size w0 W
theorem Mo.drew {w0 W : World} {l : List UInt8} (h : Mo w0 l W) : Mo w0 l W.drew := ⟨h.r, h.b.drew⟩
theorem Mo.step {w0 W : World} {l : List UInt8} (h : Mo w0 l W) (j : Nat) (v : UInt8) : Mo w0 (l.set j v) (W.setCell ⟨w0.heap.size, j, none⟩ (c8 v)) :=
  ⟨by rw [← rc_set]; exact h.r.set j _, below_own h.b h.b.size (Lib.grownBy_setB (World.grownBy.refl _ _) _ _) (Nat.le_refl _)⟩
end Go.Proofs.Ytecpcocnoengiaa
/- shards.hold, together, even; the document's alike. -/
namespace Go.Proofs.Ytecpcocnoengiaa
open Go.RowKit
set_option linter.unusedSimpArgs false
set_option linter.unusedVariables false
def hlB (k : Int) : Bool := decide (1 ≤ k ∧ k ≤ 32)
def tgB (n k : Int) : Bool := decide ((1 ≤ k ∧ k ≤ 32) ∧ k ≤ n ∧ n ≤ 64)
def evn (xs : List ByteArray) : Bool := xs.all fun x => x.size == wid xs
theorem evn_no (xs : List ByteArray) (k : Nat) (x : ByteArray) (hk : xs[k]? = some x) (h : ¬ x.size = wid xs) : evn xs = false := by
  rw [evn, Bool.eq_false_iff]
  intro e
  rw [List.all_eq_true] at e
  have := e x (List.mem_of_getElem? hk)
  simp at this
  exact h this
theorem evn_yes (xs : List ByteArray) (h : ∀ (k : Nat) (x : ByteArray), xs[k]? = some x → x.size = wid xs) : evn xs = true := by
  rw [evn, List.all_eq_true]
  intro x hx
  obtain ⟨i, hi, e⟩ := List.mem_iff_getElem.1 hx
  have := h i x (by rw [List.getElem?_eq_getElem hi, e])
  simpa using this
theorem evn_all (xs : List ByteArray) (h : evn xs = true) : ∀ x ∈ xs, x.size = wid xs := by
  intro x hx
  rw [evn, List.all_eq_true] at h
  simpa using h x hx
theorem hold_any (k : Int) (w : World) :
    Calls Try.prog 13 #[.int .i64 k] w fun e w' => e = .returned (.bool (hlB k)) ∧ w' = w := by
  unfold hlB
  by_cases h1 : 1 ≤ k
  · by_cases h2 : k ≤ 32
    · rw [decide_eq_true ⟨h1, h2⟩]
      go_enter Try.func13, Try.ntmps13
      go_wp2
      go_ret
      exact ⟨rfl, rfl⟩
    · rw [decide_eq_false (fun h => h2 h.2)]
      go_enter Try.func13, Try.ntmps13
      go_wp2
      go_ret
      exact ⟨rfl, rfl⟩
  · rw [decide_eq_false (fun h => h1 h.1)]
    go_enter Try.func13, Try.ntmps13
    go_wp2
    go_ret
    exact ⟨rfl, rfl⟩
theorem together_any (n k : Int) (w : World) :
    Calls Try.prog 17 #[.int .i64 n, .int .i64 k] w fun e w' => e = .returned (.bool (tgB n k)) ∧ w' = w := by
  have hh := hold_any k
  by_cases h1 : 1 ≤ k ∧ k ≤ 32
  · rw [hlB, decide_eq_true h1] at hh
    have C : Hid _ := hh
    clear hh
    by_cases h2 : k ≤ n
    · by_cases h3 : n ≤ 64
      · have e : tgB n k = true := decide_eq_true ⟨h1, h2, h3⟩
        rw [e]
        clear h1
        go_enter Try.func17, Try.ntmps17
        go_wp2_with fail
        refine Calls.mono (C.out _) ?_
        rintro e w1 ⟨rfl, hw⟩
        subst hw
        go_wp2
        go_ret
        exact ⟨rfl, rfl⟩
      · have e : tgB n k = false := decide_eq_false (fun h => h3 h.2.2)
        rw [e]
        clear h1
        go_enter Try.func17, Try.ntmps17
        go_wp2_with fail
        refine Calls.mono (C.out _) ?_
        rintro e w1 ⟨rfl, hw⟩
        subst hw
        go_wp2
        go_ret
        exact ⟨by rw [decide_eq_false (by omega)]; rfl, rfl⟩
    · have e : tgB n k = false := decide_eq_false (fun h => h2 h.2.1)
      rw [e]
      clear h1
      go_enter Try.func17, Try.ntmps17
      go_wp2_with fail
      refine Calls.mono (C.out _) ?_
      rintro e w1 ⟨rfl, hw⟩
      subst hw
      go_wp2
      go_ret
      exact ⟨rfl, rfl⟩
  · rw [hlB, decide_eq_false h1] at hh
    have C : Hid _ := hh
    clear hh
    have e : tgB n k = false := decide_eq_false (fun h => h1 h.1)
    rw [e]
    clear h1
    go_enter Try.func17, Try.ntmps17
    go_wp2_with fail
    refine Calls.mono (C.out _) ?_
    rintro e w1 ⟨rfl, hw⟩
    subst hw
    go_wp2
    go_ret
    exact ⟨rfl, rfl⟩
set_option maxHeartbeats 1000000 in
set_option maxRecDepth 100000 in
theorem even_any (a : Option Addr) (c : Nat) (xs : List ByteArray) (w : World) (hx : TxL w a xs) (nx : xs.length ≤ 4611686018427387904) :
    Calls Try.prog 14 #[.slice a xs.length c] w fun e w' => e = .returned (.bool (evn xs)) ∧ Below w.heap.size w w' := by
  have HX : Hid (TxL w a xs) := hx
  clear hx
  obtain ⟨n, hn⟩ : ∃ n, xs.length = n := ⟨_, rfl⟩
  have HN : Hid (xs.length = n) := hn
  rw [hn] at nx ⊢
  clear hn
  go_enter Try.func14, Try.ntmps14
  go_wp2_with fail
  go_loop [7] (fun v => ∃ k : Nat, k ≤ n ∧ v = .int .i64 k ∧ Hid (∀ (i : Nat) (x : ByteArray), i < k → xs[i]? = some x → x.size = wid xs)) (fun v => n - (intOf v).toNat)
  case atStart => exact ⟨0, by omega, rfl, fun i x hi => by omega⟩
  case round =>
    obtain ⟨k, hk, rfl, HR⟩ := hrel
    by_cases hlt : k < n
    · obtain ⟨x0, hx0⟩ : ∃ x, xs[0]? = some x := ⟨xs[0]'(by rw [HN.out]; omega), List.getElem?_eq_getElem _⟩
      obtain ⟨g, o, rfl, hg, hc0⟩ := HX.out 0 x0 hx0
      rw [Nat.add_zero] at hc0
      have HW : Hid (wid xs = x0.size) := by show wid xs = _; simp [wid, hx0]
      obtain ⟨x, hx⟩ : ∃ x, xs[k]? = some x := ⟨xs[k]'(by rw [HN.out]; exact hlt), List.getElem?_eq_getElem _⟩
      obtain ⟨g2, o2, heq, _, hc⟩ := HX.out k x hx
      obtain ⟨rfl, rfl⟩ : g = g2 ∧ o = o2 := by simpa using heq
      have hkz : (k : Int) < (n : Nat) := by omega
      have hn0 : (0 : Int) < (n : Nat) := by omega
      have HK : Hid (xs[k]? = some x) := hx
      clear heq hx hx0
      by_cases he : x.size = x0.size
      · have hb : ((x.size : Int) == (x0.size : Int)) = true := by rw [he]; simp
        have hb' : ((x.size : Int) != (x0.size : Int)) = false := by rw [bne, hb]; rfl
        have HE : Hid (∀ (i : Nat) (x : ByteArray), i < k + 1 → xs[i]? = some x → x.size = wid xs) := by
          intro i y hi hy
          by_cases e : i < k
          · exact HR.out i y e hy
          · obtain rfl : i = k := by omega
            rw [HK.out] at hy
            cases hy
            rw [HW.out, he]
        clear he
        go_wp2
        go_round
        case rel => exact ⟨k + 1, by omega, by go_num, HE.out⟩
        case measure => simp [intOf]; omega
      · have hb : ((x.size : Int) == (x0.size : Int)) = false := by rw [beq_eq_false_iff_ne]; omega
        have hb' : ((x.size : Int) != (x0.size : Int)) = true := by rw [bne, hb]; rfl
        have HNO : Hid (evn xs = false) := evn_no xs k x HK.out (by rw [HW.out]; exact he)
        clear he
        go_wp2
        go_ret
        exact ⟨by rw [HNO.out]; rfl, Below.refl _ _⟩
    · have hkz : ¬ (k : Int) < (n : Nat) := by omega
      have HY : Hid (evn xs = true) := evn_yes xs (fun i x hx => HR.out i x (by have := (List.getElem?_eq_some_iff.1 hx).1; rw [HN.out] at this; omega) hx)
      clear HR
      go_wp2
      go_ret
      exact ⟨by rw [HY.out]; rfl, Below.refl _ _⟩
end Go.Proofs.Ytecpcocnoengiaa
/- A region that draws its order: its first operations quiet in a class of worlds, in whatever order; the last ones, which wait for all of these, one behind the other. -/
namespace Go.Proofs.Ytecpcocnoengiaa
open Go.RowKit
set_option linter.unusedSimpArgs false
set_option linter.unusedVariables false
theorem quiet_val {P : Program} {o : Oper} {a : Act} {C : World → Prop} {K : Act → Prop} (v : Value) (h : ∀ w, C w → (execOp a.eval o).run P w = .ok (.value v) w) (hn : K (a.put o.dst v)) : o.quiet P a C K :=
  ⟨v, fun w hw => by unfold Oper.quietAt; rw [h w hw]; exact ⟨rfl, rfl⟩, hn⟩
theorem quiet_call {P : Program} {o : Oper} {a : Act} {C : World → Prop} {K : Act → Prop} (v : Value) (f : FuncId) (args : Array Value) (h : ∀ w, C w → (execOp a.eval o).run P w = .ok (.enter f args) w)
    (hc : ∀ w, C w → Calls P f args w (fun e w'' => e = .returned v ∧ C w'')) (hn : K (a.put o.dst v)) : o.quiet P a C K :=
  ⟨v, fun w hw => by unfold Oper.quietAt; rw [h w hw]; exact ⟨rfl, hc w hw⟩, hn⟩
section
variable {P : Program} {ops : Array Oper} {md : Region.Mode} {C : World → Prop}
/-- So many operations of the head come up, in whatever order, then L holds. -/
def headQ (P : Program) (md : Region.Mode) (ops : Array Oper) (C : World → Prop) (n : Nat) (L : Array Bool → Act → Prop) : Nat → Array Bool → Act → Prop
  | 0, listed, a => L listed a
  | f + 1, listed, a => (∃ i, i ∈ Region.ready md ops listed) ∧ ∀ i, i ∈ Region.ready md ops listed → i < n ∧ qOp P ops C i (headQ P md ops C n L f (listed.setIfInBounds i true)) a
theorem any_of_headQ {n g : Nat} {L : Array Bool → Act → Prop} {R : Exit → Act → World → Prop} (hL : ∀ listed a w, C w → L listed a → wpAny P md ops R g listed a w) (f : Nat) :
    ∀ (listed : Array Bool) (a : Act) (w : World), C w → headQ P md ops C n L f listed a → wpAny P md ops R (f + g) listed a w := by
  induction f with
  | zero => intro listed a w hw h; rw [Nat.zero_add]; exact hL _ _ _ hw h
  | succ f ih =>
    intro listed a w hw h
    rw [Nat.add_right_comm]
    refine ⟨fun h0 => ?_, fun i hi => wpOp_of_qOp hw (fun a' w' hw' h' => ih _ a' w' hw' h') (h.2 i hi).2⟩
    obtain ⟨i, hi⟩ := h.1
    rw [h0] at hi; cases hi
/-- One of the head may be taken first. -/
theorem headQ_first {n i : Nat} {oi : Oper} {v : Value} {L : Array Bool → Act → Prop} (hi : ops[i]? = some oi) (hsel : ∀ (j : Nat) (o : Oper) cs b, ops[j]? = some o → o.op ≠ .select cs b)
    (hs : Region.sinkB md ops n = true) (hc : Region.chainB md ops n = true) (hn : n < ops.size) (hin : i < n) (hdone : ∀ listed a, L listed a → ∀ j, j ∈ Region.ready md ops listed → n ≤ j) (f : Nat) :
    ∀ (listed : Array Bool) (a : Act), HeadInv md ops n listed →
      (∀ j oj, ops[j]? = some oj → j ≠ i → listed.getD j true = false → (∀ e ∈ oj.after, Region.binds md e = true → e.on ≠ i) → oi.apart ops oj = true) →
      i ∈ Region.ready md ops listed → YieldsIn P ops C oi v a →
      headQ P md ops C n L f (listed.setIfInBounds i true) (a.put oi.dst v) → headQ P md ops C n L (f + 1) listed a := by
  induction f with
  | zero =>
    intro listed a inv _ hr hy H
    refine ⟨⟨i, hr⟩, fun j hj => ?_⟩
    have hun := (mem_ready.1 hr).1
    have hjn : j < n := Nat.lt_of_not_le fun h => tail_waits hs hc hn inv _ i rfl hin hun j h hj
    by_cases e : j = i
    · subst e; exact ⟨hjn, hy.qOp hi H⟩
    · have := hdone _ _ H j (ready_mono hj e); omega
  | succ f ih =>
    intro listed a inv hfree hr hy H
    refine ⟨⟨i, hr⟩, fun j hj => ?_⟩
    have hun := (mem_ready.1 hr).1
    have hjn : j < n := Nat.lt_of_not_le fun h => tail_waits hs hc hn inv _ i rfl hin hun j h hj
    refine ⟨hjn, ?_⟩
    by_cases e : j = i
    · subst e; exact hy.qOp hi H
    · obtain ⟨hjun, oj, hoj, hall⟩ := mem_ready.1 hj
      have hap : oi.apart ops oj = true := hfree j oj hoj e hjun (fun d hd hb he => by
        have h1 := hall d hd hb
        rw [he, getD_both hun] at h1; cases h1)
      have h2 := qOp_put hoj hap (fun cs b => hsel i oi cs b hi) (fun cs b => hsel j oj cs b hoj) hy (H.2 j (ready_mono hj e)).2
      refine qOp_mono (fun a' h3 => ih _ a' (inv.set hj hjn) (fun k ok hk hki hu hno => hfree k ok hk hki ?_ hno) (ready_mono hr (Ne.symm e)) h3.1 ?_) h2
      · by_cases ejk : j = k
        · subst ejk; exact hjun
        · rwa [getD_set_ne true ejk] at hu
      · rw [Array.setIfInBounds_comm _ _ e]; exact h3.2
theorem headQ_lex {n g : Nat} {Lq : Act → Prop} (hsel : Region.noSelect ops = true) (hs : Region.sinkB md ops n = true) (hc : Region.chainB md ops n = true) (hn : n < ops.size) (l : List Oper) :
    ∀ (k : Nat) (listed : Array Bool) (a : Act), (∀ j, j < l.length → l[j]? = ops[k + j]?) → k + l.length = n → HeadInv md ops n listed → Region.lexHead md ops g l.length k listed = true → wpQuiet P ops C Lq l a →
    headQ P md ops C n (fun listed' a' => Region.seqB md ops g n listed' = true ∧ Lq a') l.length listed a := by
  induction l with
  | nil =>
    intro k listed a _ hk _ hB h
    obtain rfl : k = n := by simpa using hk
    exact ⟨hB, h⟩
  | cons o l ih =>
    intro k listed a hl hk inv hB h
    rw [List.length_cons] at hk
    have h0 : ops[k]? = some o := by have := hl 0 (by simp); simpa using this.symm
    simp only [List.length_cons, Region.lexHead, Bool.and_eq_true] at hB
    have hr : k ∈ Region.ready md ops listed := by simpa using hB.1.1
    have hq : qOp P ops C k (wpQuiet P ops C Lq l) a := by unfold qOp; simp only [h0]; exact h
    obtain ⟨v, hy, hK⟩ := yieldsIn_of_qOp h0 hq
    refine headQ_first h0 (Region.noSelect_spec hsel) hs hc hn (by omega) (fun listed' a' hL => seqB_ready hL.1) l.length listed a inv (Region.free_spec h0 hB.1.2) hr hy ?_
    refine ih (k + 1) _ _ (fun j hj => ?_) (by omega) (inv.set hr (by omega)) hB.2 hK
    have := hl (j + 1) (by simp; omega)
    rw [List.getElem?_cons_succ] at this
    rw [this]; congr 1; omega
theorem wp_region_tail {id : Nat} {Q : Exit → Act → World → Prop} {a : Act} {w : World} {l : List Oper} (C : World → Prop) (n : Nat) (hm : P.follows .mixedOrders = true) (hB : Region.lexTailB .any l.toArray n = true) (hC : C w.drew)
    (h : wpQuiet P l.toArray C (fun a' => ∀ w', C w' → wpList P l.toArray Q (l.drop n) a' w') (l.take n) a) : (Code.region id l.toArray true).wp P Q a w := by
  simp only [Region.lexTailB, Bool.and_eq_true, decide_eq_true_eq] at hB
  obtain ⟨⟨⟨⟨hsel, hn⟩, hs⟩, hc⟩, hlex⟩ := hB
  have hn' : n < l.length := by simpa using hn
  have htl : (l.take n).length = n := by rw [List.length_take]; omega
  have hdl : (l.drop n).length = l.toArray.size - n := by simp
  have inv0 : HeadInv .any l.toArray n (Array.replicate l.toArray.size false) := by
    refine ⟨by simp, fun j oj _ hl => ?_, fun t _ ht => getD_in (by simpa using ht) (getD_replicate_false _ _)⟩
    rw [getD_replicate_false] at hl; cases hl
  have H := headQ_lex (P := P) (C := C) (md := .any) (g := l.toArray.size - n) hsel hs hc hn (l.take n) 0 _ a (fun j hj => by
    rw [htl] at hj
    rw [List.getElem?_take_of_lt hj]; simp) (by omega) inv0 (by rw [htl]; exact hlex) h
  have H2 := any_of_headQ (R := Q) (g := l.toArray.size - n) (fun listed a' w' hw' hL => by
    have := wpAny_of_seq (md := .any) (Q' := Q) (l.drop n) n listed a' w' (fun j => by simp [List.getElem?_drop]) (by rw [hdl]; exact hL.1) (hL.2 w' hw')
    rwa [hdl] at this) _ _ _ _ hC H
  refine wp_region_any hm ?_
  rwa [htl, show n + (l.toArray.size - n) = l.toArray.size from by omega] at H2
end
end Go.Proofs.Ytecpcocnoengiaa
/- field.Product. -/
namespace Go.Proofs.Ytecpcocnoengiaa
open Go.RowKit
set_option linter.unusedSimpArgs false
set_option linter.unusedVariables false
/-- The first k terms of a row's product with a matrix. -/
def prodK (r : List UInt8) (B : List (List UInt8)) : Nat → List UInt8
  | 0 => zr
  | k + 1 => addR (prodK r B k) (B.getD k zr) (r.getD k 0)
def prodR (B : List (List UInt8)) (r : List UInt8) : List UInt8 := prodK r B B.length
def prodL (A B : List (List UInt8)) : List (List UInt8) := A.map (prodR B)
theorem getD_wide (B : List (List UInt8)) (hB : ∀ r ∈ B, r.length = 64) (k : Nat) : (B.getD k zr).length = 64 := by
  rw [List.getD]
  cases h : B[k]? with
  | none => exact zr_len
  | some x => exact hB x (List.mem_of_getElem? h)
theorem prodK_len (r : List UInt8) (B : List (List UInt8)) (hB : ∀ r ∈ B, r.length = 64) : ∀ k, (prodK r B k).length = 64
  | 0 => zr_len
  | k + 1 => addR_len _ _ _ (prodK_len r B hB k) (getD_wide B hB k)
/-- The first i rows done. -/
def prT (A B : List (List UInt8)) (i : Nat) : List (List UInt8) := (prodL A B).take i ++ List.replicate (A.length - i) zr
theorem prT_len (A B : List (List UInt8)) (i : Nat) (h : i ≤ A.length) : (prT A B i).length = A.length := by
  simp [prT, prodL]; omega
theorem prT_wide (A B : List (List UInt8)) (hB : ∀ r ∈ B, r.length = 64) (i : Nat) : ∀ r ∈ prT A B i, r.length = 64 := by
  intro r hr
  rcases List.mem_append.1 hr with h1 | h1
  · obtain ⟨x, _, rfl⟩ := List.mem_map.1 (List.mem_of_mem_take h1)
    exact prodK_len x B hB _
  · rw [(List.mem_replicate.1 h1).2]; exact zr_len
theorem prT_at (A B : List (List UInt8)) (i : Nat) (h : i < A.length) : (prT A B i)[i]? = some zr := by
  unfold prT
  rw [List.getElem?_append_right (by simp [prodL]; omega)]
  simp [prodL, List.getElem?_replicate, Nat.min_eq_left (Nat.le_of_lt h)]
  omega
theorem prT_next (A B : List (List UInt8)) (i : Nat) (r : List UInt8) (hr : A[i]? = some r) : (prT A B i).set i (prodR B r) = prT A B (i + 1) := by
  have hk := (List.getElem?_eq_some_iff.1 hr).1
  unfold prT
  rw [List.set_append_right _ _ (by simp [prodL]; omega)]
  have hl : ((prodL A B).take i).length = i := by simp [prodL]; omega
  rw [hl, Nat.sub_self, show A.length - i = (A.length - (i + 1)) + 1 from by omega, List.replicate_succ, List.set_cons_zero]
  rw [List.take_succ_eq_append_getElem (by simp [prodL]; omega), List.append_assoc]
  have : (prodL A B)[i]'(by simp [prodL]; omega) = prodR B r := by
    simp only [prodL, List.getElem_map]
    rw [(List.getElem?_eq_some_iff.1 hr).2]
  rw [this]; rfl
theorem prT_all (A B : List (List UInt8)) : prT A B A.length = prodL A B := by
  unfold prT
  rw [Nat.sub_self, List.replicate_zero, List.append_nil, List.take_of_length_le (by simp [prodL])]
theorem set_self (X : List (List UInt8)) (i : Nat) (r : List UInt8) (h : X[i]? = some r) : X.set i r = X := by
  apply List.ext_getElem?
  intro j
  rw [List.getElem?_set]
  by_cases e : i = j
  · subst e
    rw [if_pos rfl, if_pos (List.getElem?_eq_some_iff.1 h).1, h]
  · rw [if_neg e]
theorem set_set (X : List (List UInt8)) (i : Nat) (r s : List UInt8) : (X.set i r).set i s = X.set i s := by simp
/-- The worlds of the innermost region. -/
structure Pc (wi : World) (R ob : Nat) (X : List (List UInt8)) (o : List UInt8) (W : World) : Prop where
  x : Bk W R (rc X.flatten) 60
  o : Bk W ob (rc o) 60
  g : wi.grownBy W (some R)
theorem Pc.below {wi W W' : World} {R ob : Nat} {X : List (List UInt8)} {o : List UInt8} (h : Pc wi R ob X o W) (hb : Below W.heap.size W W') : Pc wi R ob X o W' :=
  ⟨h.x.grown (gr_of_below hb none) (by simp), h.o.grown (gr_of_below hb none) (by simp), h.g.trans (gr_of_below hb _)⟩
theorem Pc.drew {wi W : World} {R ob : Nat} {X : List (List UInt8)} {o : List UInt8} (h : Pc wi R ob X o W) : Pc wi R ob X o W.drew := h.below (Below.refl _ _).drew
theorem quiet_row {o : Oper} {a : Act} {C : World → Prop} {K : Act → Prop} (x : Operand) (ho : o.op = .load 60 x) (g f : Nat) (r : List UInt8) (hx : a.eval x = .pointer (some ⟨g, f, none⟩))
    (hr : r.length = 64) (hc : ∀ w, C w → ∀ j v, (rc r)[j]? = some v → w.cell? ⟨g, f + j, none⟩ = some v) (hn : K (a.put o.dst (.agg (rc r)))) : o.quiet Try.prog a C K :=
  quiet_val (.agg (rc r)) (fun w hw => by
    have h := run_loadAt_mid (P := Try.prog) w g f 60 (rc r).toList _ (fun j v hv => hc w hw j v (by rwa [Array.getElem?_toList] at hv)) Try.underlying60 rfl (by rw [size_row r hr]; simp)
    unfold execOp
    simp [ho, hx, h]) hn
theorem quiet_byte {o : Oper} {a : Act} {C : World → Prop} {K : Act → Prop} (x : Operand) (ho : o.op = .load 5 x) (g f : Nat) (v : UInt8) (hx : a.eval x = .pointer (some ⟨g, f, none⟩))
    (hc : ∀ w, C w → w.cell? ⟨g, f, none⟩ = some (c8 v)) (hn : K (a.put o.dst (c8 v))) : o.quiet Try.prog a C K :=
  quiet_val (c8 v) (fun w hw => by
    have h := hc w hw
    have ha : (isAgg 5).run Try.prog w = .ok false w := by kernel_rfl
    unfold execOp
    simp [ho, hx, Instr.loadAt, Instr.sureAddr, loadVar, ha, h]) hn
end Go.Proofs.Ytecpcocnoengiaa
