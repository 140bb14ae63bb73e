/- shards.rebuildRows. -/
import Derived.Test.YtblmblbkfdcbjabJ13
import Derived.Test.YtblmblbkfdcbjabF35P
import Derived.Test.YtblmblbkfdcbjabF20
namespace Go.Proofs.Ytblmblbkfdcbjab
open Go.RowKit
set_option linter.unusedSimpArgs false
set_option linter.unusedVariables false
theorem Fo.kept {w wr w' : World} {l : List Bool} {e : Nat} (h : Fo w l e wr) (hb : Below wr.heap.size wr w') : Fo w l e w' :=
  ⟨h.t.grown (gr_of_below hb none) (by simp), h.c.grown (gr_of_below hb none) (by simp), h.b.trans (hb.mono h.b.size)⟩
/-- A list that was made, as a row of the call's own. -/
theorem Mad.own {w w' : World} {ao : Option Addr} {xs : List ByteArray} (h : Mad w ao xs w') (hl : xs.length ≤ 64) : w'.ownsRow w.heap.size 9 1 (.slice ao xs.length xs.length) xs.length (sv xs) := by
  refine ⟨by simp [sv], ?_⟩
  rcases h with ⟨rfl, h0⟩ | ⟨g, rfl, hg, hB⟩
  · exact .inl ⟨by rw [h0], h0⟩
  · exact .inr ⟨g, _, _, rfl, hg, hB, Nat.le_refl _, by unfold maxLen; omega, by rw [txc_size, Nat.mul_one], by
      rw [Nat.mul_one]
      show (txc xs).toList.take _ = _
      simp only [txc, sv]
      rw [List.take_of_length_le (by simp)]⟩
set_option maxHeartbeats 2000000 in
set_option maxRecDepth 100000 in
theorem rebuildRows_any (n k e : Nat) (l : List Bool) (w0 w : World) (h1 : 1 ≤ k) (h2 : k ≤ n) (h3 : n ≤ 64) (hl : l.length = 64) (hF : Fo w0 l e w) (he : e ≤ 64) (hc : cnt (nt l) e = k) (hn : k ≤ cnt (nt l) n) :
    Calls Try.prog 18 #[.int .i64 n, .int .i64 k, .func (.func 25) #[] #[.pointer (some ⟨w0.heap.size + 1, 0, none⟩), .pointer (some ⟨w0.heap.size, 0, none⟩)]] w fun e2 w' =>
      ∃ ao, e2 = .returned (.slice ao n n) ∧ Mad w ao (pdX (ofD n k) (ivX (usd n k (idxU (nt l) n k)))) w' ∧ Below w.heap.size w w' := by
  have HF : Hid (Fo w0 l e w) := hF
  have HL : Hid (l.length = 64) := hl
  have c1 := fun W => fu_any (k : Int) W
  have e1 : unX (k : Int) = txtL k (unL k) := by unfold unX; rw [if_pos (by omega), Int.toNat_natCast]
  have e2 : unE (k : Int) = 0 := by unfold unE; rw [if_pos (by omega)]
  have e3 : (txtL k (unL k)).length = k := by rw [txtL_len, unL_len]
  rw [e1, e2, e3] at c1
  have c2 := fun W => parity_any (n - k) k W (by omega) h1 (by omega)
  obtain ⟨U, hU⟩ : ∃ U, usd n k (idxU (nt l) n k) = U := ⟨_, rfl⟩
  have hpk := pkd_used (nt l) e n k h1 h2 h3 hc hn
  rw [hU] at hpk
  obtain ⟨hsq, hE⟩ := used_inv (nt l) n k h1 h2 h3 hn
  have hUsq := usd_sq n k (idxU (nt l) n k) h1 h2 h3 (idx_ris (nt l) n k) (idx_len (nt l) n k hn)
  rw [hU] at hsq hE hUsq ⊢
  obtain ⟨om, ow⟩ := ofD_isM n k h1 h2 h3
  obtain ⟨vm, vw⟩ := hsq.isM h1 (by omega)
  have c4 := fun a c W hW => invert_any a c U W hW (by rw [hUsq.1]; omega) (fun x hx => by rw [hUsq.2 x hx]; omega)
  rw [hE, hUsq.1] at c4
  obtain ⟨V, hV⟩ : ∃ V, ivX U = V := ⟨_, rfl⟩
  rw [hV] at c4 hsq vm vw ⊢
  rw [hsq.1] at c4
  have ol := ofD_len n k h1 h2 h3
  have c5 := fun a b ca cb W hW hY => fp_any a b ca cb (ofD n k) V W hW hY (by rw [ol]; omega) (fun x hx => by rw [ofD_size n k h1 h2 h3 x hx]; omega) (by rw [hsq.1]; omega) (fun x hx => by rw [hsq.2 x hx]; omega)
  have e5 : (pdX (ofD n k) V).length = n := by
    unfold pdX
    rw [if_pos ⟨om, vm, by rw [ow, hsq.1]⟩, txtL_len, prodL_len, arrL, List.length_map, ol]
  have e6 : pdE (ofD n k) V = 0 := by unfold pdE; rw [if_pos ⟨om, vm, by rw [ow, hsq.1]⟩]
  rw [ol, hsq.1, e5, e6] at c5
  have hnk : (n : Int) - (k : Int) = ((n - k : Nat) : Int) := by omega
  have hof : txtL k (unL k) ++ cyX (n - k) k = ofD n k := rfl
  have HOF : Hid (txtL k (unL k) ++ cyX (n - k) k = ofD n k) := hof
  have C1 : Hid _ := c1
  have C2 : Hid _ := c2
  have C4 : Hid _ := c4
  have C5 : Hid _ := c5
  have HPK : Hid (pkd (fun i => decide (i < e) && nt l i) (ofD n k) = U) := hpk
  have NU : Hid (U.length = k) := hUsq.1
  have NV : Hid (V.length = k) := hsq.1
  have NO : Hid ((ofD n k).length = n) := ol
  have N3 : Hid ((txtL k (unL k)).length = k) := e3
  have NC : Hid ((cyX (n - k) k).length = n - k) := cyX_len (n - k) k (by omega) h1 (by omega)
  clear c1 c2 c4 c5 hpk hUsq hsq ol e1 e2 e3 e5 e6 hE hU hV om ow vm vw hof hF hl
  obtain ⟨m, hm⟩ : ∃ m, n - k = m := ⟨_, rfl⟩
  rw [hm] at hnk C2 NC HOF
  have hmk : k + m = n := by omega
  clear hm
  go_enter Try.func18, Try.ntmps18
  go_wp2_with fail
  refine Calls.mono (C1.out _) ?_
  rintro e w1 ⟨au, rfl, hM, hb1⟩
  have MU1 : Hid (Mad w au (txtL k (unL k)) w1) := hM
  have B1 : Hid (Below w.heap.size w w1) := hb1
  clear hM hb1
  go_wp2_with fail
  refine Calls.mono (C2.out _) ?_
  rintro e w2 ⟨ac, rfl, hM, hb2⟩
  have MC2 : Hid (TxL w2 ac (cyX m k)) := hM.txl
  have B2 : Hid (Below w.heap.size w w2) := B1.out.trans (hb2.mono B1.out.size)
  have HO2 : Hid (w2.ownsRow w.heap.size 9 1 (.slice au k k) k (sv (txtL k (unL k)))) := by
    have h := (MU1.out.below hb2).own (by rw [N3.out]; omega)
    rw [N3.out] at h
    exact h
  have hz2 : w.heap.size ≤ w2.heap.size := B2.out.size
  clear hM hb2 MU1 B1
  go_wp2_with (at_builtin; refine wpList_append_txts _ rfl _ _ rfl w.heap.size _ (txtL k (unL k)) (cyX m k) k m m rfl N3.out NC.out HO2.out hz2 ac rfl MC2.out (by omega) ?_)
  intro v3 w3 ho3 hg3
  rw [HOF.out] at ho3
  obtain ⟨ao3, co3, hv3, ht3, _⟩ := own_txl (xs := ofD n k) (by rw [NO.out]; exact ho3)
  rw [NO.out] at hv3
  subst hv3
  have TO3 : Hid (TxL w3 ao3 (ofD n k)) := ht3
  have B3 : Hid (Below w.heap.size w w3) := B2.out.grown hg3 hz2 (fun g hg => (HO2.out.lt g hg).1)
  clear ho3 hg3 ht3 HO2 MC2 B2
  have hpc := picked2_any ao3 co3 n (ofD n k) (fun i => decide (i < e) && nt l i) (w0.heap.size + 1) w0.heap.size w3 TO3.out NO.out h3 (fun W hW i hi => by
    have hF3 := (HF.out.kept B3.out).kept hW
    exact used_any w0.heap.size (w0.heap.size + 1) i e l 41 W hF3.t HL.out (by omega) (by rw [hF3.c.cell]; rfl) he)
  rw [HPK.out] at hpc
  have HPC : Hid _ := hpc
  clear hpc
  go_wp2_with fail
  refine Calls.mono HPC.out ?_
  rintro e w4 ⟨v4, rfl, ho4, hb4⟩
  obtain ⟨ap, cp, rfl, ht4, _⟩ := own_txl ho4
  rw [NU.out]
  have TU4 : Hid (TxL w4 ap U) := ht4
  have B4 : Hid (Below w.heap.size w w4) := B3.out.trans (hb4.mono B3.out.size)
  have TO4 : Hid (TxL w4 ao3 (ofD n k)) := TO3.out.below hb4
  clear ho4 ht4 hb4 HPC TO3 B3
  go_wp2_with fail
  refine Calls.mono (C4.out _ _ _ TU4.out) ?_
  rintro e w5 ⟨av, rfl, hM, hb5⟩
  have TV5 : Hid (TxL w5 av V) := hM.txl
  have B5 : Hid (Below w.heap.size w w5) := B4.out.trans (hb5.mono B4.out.size)
  have TO5 : Hid (TxL w5 ao3 (ofD n k)) := TO4.out.below hb5
  clear hM hb5 TO4 B4
  go_wp2_with fail
  refine Calls.mono (C5.out _ _ _ _ _ TO5.out TV5.out) ?_
  rintro e w6 ⟨aq, rfl, hM, hb6⟩
  have MQ : Hid (Mad w aq (pdX (ofD n k) V) w6) := by
    rcases hM with h | ⟨g, h1, h2, h3⟩
    · exact .inl h
    · exact .inr ⟨g, h1, Nat.le_trans B5.out.size h2, h3⟩
  have B6 : Hid (Below w.heap.size w w6) := B5.out.trans (hb6.mono B5.out.size)
  clear hM hb6
  go_wp2
  go_ret
  exact ⟨aq, rfl, MQ.out, B6.out⟩
end Go.Proofs.Ytblmblbkfdcbjab
