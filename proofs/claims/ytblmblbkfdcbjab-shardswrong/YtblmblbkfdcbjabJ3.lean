/- shards.mixed: of each row a shard. -/
import Derived.Test.YtblmblbkfdcbjabJ2
import Derived.Test.YtblmblbkfdcbjabF9
import Derived.Test.YtblmblbkfdcbjabK6
import Derived.Test.YtblmblbkfdcbjabM4
namespace Go.Proofs.Ytblmblbkfdcbjab
open Go.RowKit
set_option linter.unusedSimpArgs false
set_option linter.unusedVariables false
theorem TxL.cel {w : World} {g o : Nat} {xs : List ByteArray} (h : TxL w (some ⟨g, o, none⟩) xs) {i : Nat} {x : ByteArray} (hx : xs[i]? = some x) : w.cell? ⟨g, o + i, none⟩ = some (.string x) := by
  obtain ⟨g2, o2, e, _, hc⟩ := h i x hx
  obtain ⟨rfl, rfl⟩ : g = g2 ∧ o = o2 := by simpa using e
  exact hc
/-- The byte p of the text j of a list. -/
def dm (xs : List ByteArray) (j p : Nat) : UInt8 := bt (xs.getD j (mkT [])) p
theorem dm_at (xs : List ByteArray) (j p : Nat) (x : ByteArray) (h : xs[j]? = some x) : dm xs j p = bt x p := by rw [dm, List.getD, h]; rfl
/-- A sum of shards, each times its number; of each row one. -/
def mxF (r : ByteArray) (xs : List ByteArray) (k p : Nat) : UInt8 := Sx k (fun j => mul (bt r j) (dm xs j p))
def mixT (r : ByteArray) (xs : List ByteArray) (d : Nat) : ByteArray := mkT (fl d (mxF r xs xs.length))
def mixL (rs xs : List ByteArray) (d : Nat) : List ByteArray := rs.map fun r => mixT r xs d
theorem mixL_len (rs xs : List ByteArray) (d : Nat) : (mixL rs xs d).length = rs.length := by simp [mixL]
theorem mixT_size (r : ByteArray) (xs : List ByteArray) (d : Nat) : (mixT r xs d).size = d := by rw [mixT, mkT_size, fl_len]
/-- A list of which the first i are laid. -/
def prt (L : List ByteArray) (i : Nat) : List ByteArray := L.take i ++ List.replicate (L.length - i) (mkT [])
theorem prt_len (L : List ByteArray) (i : Nat) (h : i ≤ L.length) : (prt L i).length = L.length := by simp [prt]; omega
theorem prt_zero (L : List ByteArray) : prt L 0 = List.replicate L.length (mkT []) := by simp [prt]
theorem prt_all (L : List ByteArray) : prt L L.length = L := by simp [prt]
theorem prt_at (L : List ByteArray) (i : Nat) (h : i < L.length) : (prt L i)[i]? = some (mkT []) := by
  rw [prt, List.getElem?_append_right (by simp; omega)]
  simp only [List.length_take, Nat.min_eq_left (Nat.le_of_lt h), Nat.sub_self]
  rw [List.getElem?_replicate, if_pos (by omega)]
theorem prt_next (L : List ByteArray) (i : Nat) (x : ByteArray) (h : L[i]? = some x) : (prt L i).set i x = prt L (i + 1) := by
  have hi : i < L.length := (List.getElem?_eq_some_iff.1 h).1
  apply List.ext_getElem?
  intro j
  rw [List.getElem?_set, prt_len L i (by omega)]
  unfold prt
  by_cases e : i = j
  · subst e
    rw [if_pos rfl, if_pos hi, List.getElem?_append_left (by simp; omega), List.getElem?_take, if_pos (by omega), h]
  · rw [if_neg e]
    by_cases h1 : j < i
    · rw [List.getElem?_append_left (by simp; omega), List.getElem?_append_left (by simp; omega), List.getElem?_take, List.getElem?_take, if_pos h1, if_pos (by omega)]
    · rw [List.getElem?_append_right (by simp; omega), List.getElem?_append_right (by simp; omega), List.getElem?_replicate, List.getElem?_replicate]
      simp only [List.length_take]
      by_cases h2 : j < L.length
      · rw [if_pos (by omega), if_pos (by omega)]
      · rw [if_neg (by omega), if_neg (by omega)]
theorem info_u8 : (Try.prog.info? 5).map (fun i => (i.zero, i.size, i.bytes)) = some (some (.int .u8 0), 1, 1) := by kernel_rfl
theorem made_u8 (n : Nat) : madeCells #[Value.int .u8 0] n = rc (fl n fun _ => 0) := by
  apply Array.ext_getElem?
  intro i
  rw [rc_get]
  simp only [madeCells]
  by_cases hi : i < n
  · rw [fl_get n _ i hi]
    simp [hi, Nat.mod_one]
  · rw [List.getElem?_eq_none (by rw [fl_len]; omega), Array.getElem?_eq_none (by simp; omega)]; rfl
theorem make_u8 (n : Nat) (hn : n ≤ 281474976710656) (u : World) : (Instr.makeSlice 28 (.int .i64 n) (.int .i64 n)).run Try.prog u =
    .ok (.slice (some ⟨u.heap.size, 0, none⟩) n n) (u.alloc (.cells (rc (fl n fun _ => 0)) 5)) := by
  obtain ⟨i0, hi, hz0, hz1, hz2⟩ := info_parts info_u8
  have h := run_make (P := Try.prog) u 28 5 i0 (.int .u8 0) Try.underlying28 hi hz0 .i64 .i64 (n : Int) (n : Int) (by omega) (Int.le_refl _) (by rw [hz2]; omega) (by omega)
  rw [Int.toNat_natCast] at h
  rw [← made_u8]
  simpa [hz1, Value.cells] using h
theorem conv_all (l : List UInt8) (g n cap : Nat) (T : TypeId) (w : World) (hl : l.length = n) (hB : Bk w g (rc l) T) :
    (convert 28 9 (.slice (some ⟨g, 0, none⟩) n cap)).run Try.prog w = .ok (.string (mkT l)) w := by
  have h := conv_front l g n cap T w (by omega) hB
  rwa [List.take_of_length_le (by omega)] at h
set_option maxHeartbeats 2000000 in
set_option maxRecDepth 100000 in
theorem mixed_any (a b : Option Addr) (ca cb n k d : Nat) (rs xs : List ByteArray) (w : World) (hr : TxL w a rs) (hx : TxL w b xs) (nr : rs.length = n) (nx : xs.length = k) (hn : n ≤ 64) (hk1 : 1 ≤ k) (hk : k ≤ 64)
    (sr : ∀ r ∈ rs, r.size = k) (sx : ∀ x ∈ xs, x.size = d) (hd : d ≤ 281474976710656) :
    Calls Try.prog 12 #[.slice a n ca, .slice b k cb] w fun e w' => ∃ ao, e = .returned (.slice ao n n) ∧ Mad w ao (mixL rs xs d) w' ∧ Below w.heap.size w w' := by
  obtain ⟨x0, hx0⟩ : ∃ x0, xs[0]? = some x0 := ⟨_, List.getElem?_eq_getElem (by omega)⟩
  obtain ⟨gb, ob, rfl, hgb, _⟩ := hx 0 x0 hx0
  have hs0 : x0.size = d := sx x0 (List.mem_of_getElem? hx0)
  have HX : Hid (TxL w (some ⟨gb, ob, none⟩) xs) := hx
  have HR : Hid (TxL w a rs) := hr
  have NR : Hid (rs.length = n) := nr
  have NX : Hid (xs.length = k) := nx
  have SR : Hid (∀ r ∈ rs, r.size = k) := sr
  have SX : Hid (∀ x ∈ xs, x.size = d) := sx
  have HX0 : Hid (xs[0]? = some x0) := hx0
  have NL : Hid ((mixL rs xs d).length = n) := by show _ = n; rw [mixL_len, nr]
  have hmk := make_txts n hn
  have hmu := make_u8 d hd
  clear hx hr nr nx sr sx hx0
  go_enter Try.func12, Try.ntmps12
  go_wp2_with fail
  go_loopw [16] (fun v wr => ∃ i : Nat, i ≤ n ∧ v = .int .i64 i ∧ Hid (Bk wr w.heap.size (txc (prt (mixL rs xs d) i)) 9) ∧ Hid (Below w.heap.size w wr) ∧ w.heap.size < wr.heap.size) (fun v _ => n - (intOf v).toNat)
  case atStart =>
    refine ⟨0, by omega, rfl, ?_, (Below.refl _ _).alloc (Nat.le_refl _) _, by rw [al_size]; omega⟩
    show Bk _ _ _ _
    rw [prt_zero, NL.out]
    exact bk_new w _ _
  case round =>
    obtain ⟨i, hi, rfl, HT, HW, hsz⟩ := hrel
    obtain ⟨wo, rfl⟩ : ∃ wo, wo = wr := ⟨_, rfl⟩
    by_cases hlt : i < n
    · have hiz : (i : Int) < (n : Nat) := by omega
      obtain ⟨r, hr⟩ : ∃ r, rs[i]? = some r := ⟨_, List.getElem?_eq_getElem (by rw [NR.out]; exact hlt)⟩
      obtain ⟨ga, oa, rfl, hga, hca⟩ := HR.out i r hr
      have hc1 : wo.cell? ⟨ga, oa + i, none⟩ = some (.string r) := by rw [HW.out.cell (p := ⟨ga, oa + i, none⟩) hga]; exact hca
      have hc2 : wo.cell? ⟨gb, ob, none⟩ = some (.string x0) := by
        have := (HX.out.below HW.out).cel HX0.out
        rwa [Nat.add_zero] at this
      have hrs := SR.out r (List.mem_of_getElem? hr)
      have HM : Hid ((mixL rs xs d)[i]? = some (mixT r xs d)) := by show _ = _; rw [mixL, List.getElem?_map, hr]; rfl
      clear hca hr
      go_wp2_with fail
      go_loopw [28] (fun v w2 => ∃ j : Nat, j ≤ k ∧ v = .int .i64 j ∧ Hid (Bk w2 wo.heap.size (rc (fl d (mxF r xs j))) 5) ∧ Hid (Below wo.heap.size wo w2) ∧ wo.heap.size < w2.heap.size) (fun v _ => k - (intOf v).toNat)
      case atStart =>
        refine ⟨0, by omega, rfl, ?_, (Below.refl _ _).alloc (Nat.le_refl _) _, by rw [al_size]; omega⟩
        show Bk _ _ _ _
        have e : fl d (mxF r xs 0) = fl d (fun _ => 0) := rfl
        rw [e]
        exact bk_new wo _ _
      case round =>
        obtain ⟨j, hj, rfl, HS, HV, hsv⟩ := hrel
        by_cases hlj : j < k
        · have hjz : (j : Int) < (k : Nat) := by omega
          have hjr : j < r.size := by omega
          obtain ⟨x, hxj⟩ : ∃ x, xs[j]? = some x := ⟨_, List.getElem?_eq_getElem (by rw [NX.out]; exact hlj)⟩
          have hc3 : wr.cell? ⟨gb, ob + j, none⟩ = some (.string x) := ((HX.out.below HW.out).below HV.out).cel hxj
          have hxs := SX.out x (List.mem_of_getElem? hxj)
          have HE : Hid (∀ p, mxF r xs (j + 1) p = mxF r xs j p ^^^ mul r[j] (bt x p)) := fun p => by
            show Sx (j + 1) _ = _
            rw [Sx, dm_at xs j p x hxj, ← bt_at r j hjr]; rfl
          obtain ⟨c, hc⟩ : ∃ c, r[j] = c := ⟨_, rfl⟩
          rw [hc] at HE
          have hc8 := c.toNat_lt
          clear hxj
          by_cases h0 : c = 0
          · have hz0 : ((c.toNat : Int) == 0) = true := by rw [h0]; rfl
            have HS2 : Hid (Bk wr wo.heap.size (rc (fl d (mxF r xs (j + 1)))) 5) := by
              show Bk _ _ _ _
              rw [fl_congr d (mxF r xs (j + 1)) (mxF r xs j) (fun p _ => by rw [HE.out p, h0, zero_mul, UInt8.xor_zero])]
              exact HS.out
            clear h0
            go_wp2
            go_roundw
            case rel => exact ⟨j + 1, by omega, by go_num, HS2.out, HV.out, hsv⟩
            case measure => simp [intOf]; omega
          · have hz0 : ((c.toNat : Int) == 0) = false := by rw [beq_eq_false_iff_ne]; intro e; apply h0; apply UInt8.toNat_inj.1; show c.toNat = 0; omega
            clear h0
            go_wp2_with fail
            refine (add_any wo.heap.size d (mxF r xs j) x c _ HS.out hxs (by omega)).mono ?_
            rintro e w3 ⟨rfl, hB3, hg3⟩
            have HS2 : Hid (Bk w3 wo.heap.size (rc (fl d (mxF r xs (j + 1)))) 5) := by
              show Bk _ _ _ _
              rw [fl_congr d (mxF r xs (j + 1)) (fun p => mxF r xs j p ^^^ mul c (bt x p)) (fun p _ => HE.out p)]
              exact hB3
            have HV2 : Hid (Below wo.heap.size wo w3) := below_own HV.out (by omega) hg3 (Nat.le_refl _)
            have hsv2 : wo.heap.size < w3.heap.size := Nat.lt_of_lt_of_le hsv hg3.size
            clear hB3 hg3
            go_wp2
            go_roundw
            case rel => exact ⟨j + 1, by omega, by go_num, HS2.out, HV2.out, hsv2⟩
            case measure => simp [intOf]; omega
        · have hjz : ¬ (j : Int) < (k : Nat) := by omega
          have hjk : j = k := by omega
          have HS2 : Hid (Bk wr wo.heap.size (rc (fl d (mxF r xs xs.length))) 5) := by
            have := HS.out
            rw [hjk, ← NX.out] at this
            exact this
          have hcv := conv_all (fl d (mxF r xs xs.length)) wo.heap.size d d 5 wr (fl_len _ _) HS2.out
          have HT2 : Hid (Bk wr w.heap.size (txc (prt (mixL rs xs d) i)) 9) := HT.out.below HV.out hsz
          have hc4 : wr.cell? ⟨w.heap.size, i, none⟩ = some (.string (mkT [])) := by rw [HT2.out.cell, txc_get, prt_at _ i (by rw [NL.out]; exact hlt)]; rfl
          have hf4 := HT2.out.frozen i
          have HN : Hid (Bk (wr.setCell ⟨w.heap.size, i, none⟩ (.string (mkT (fl d (mxF r xs xs.length))))) w.heap.size (txc (prt (mixL rs xs d) (i + 1))) 9) := by
            show Bk _ _ _ _
            rw [← prt_next _ i _ HM.out, ← txc_set]
            exact HT2.out.set i _
          have HWn : Hid (Below w.heap.size w (wr.setCell ⟨w.heap.size, i, none⟩ (.string (mkT (fl d (mxF r xs xs.length)))))) := (HW.out.trans (HV.out.mono (by omega))).setCell (Nat.le_refl _) _
          have hszn : w.heap.size < (wr.setCell ⟨w.heap.size, i, none⟩ (.string (mkT (fl d (mxF r xs xs.length))))).heap.size := by simp [World.setCell]; omega
          clear hjk HS HS2 HT2
          go_wp2
          go_roundw
          case rel => exact ⟨i + 1, by omega, by go_num, HN.out, HWn.out, hszn⟩
          case measure => simp [intOf]; omega
    · have hiz : ¬ (i : Int) < (n : Nat) := by omega
      have hin : i = n := by omega
      have HF : Hid (Bk wo w.heap.size (txc (mixL rs xs d)) 9) := by
        have := HT.out
        rw [hin, ← NL.out, prt_all] at this
        exact this
      go_wp2
      go_ret
      exact ⟨_, rfl, .inr ⟨_, rfl, Nat.le_refl _, HF.out⟩, HW.out⟩
end Go.Proofs.Ytblmblbkfdcbjab
