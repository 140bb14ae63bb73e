import Derived.Test.YtplfjfhpdfbpeaaDoorY15
import Derived.Test.YtplfjfhpdfbpeaaDoorY16
/- The walk of BloomDecodes. -/
namespace Go.Proofs.YtplfjfhpdfbpeaaDoor
open Go.RowKit
set_option linter.unusedSimpArgs false
set_option linter.unusedVariables false
/-- Both Fit tell the same. -/
theorem fits14 (x : Int) : ∃ a b c : Int, (∀ W, Calls Tryd.prog 24 #[.int .i64 x] W fun e w' => e = .returned (.tuple #[.int .i64 a, .int .i64 b, .int .i64 c]) ∧ w' = W) ∧ ∀ W, Calls Tryd.prog 25 #[.int .i64 x] W fun e w' => e = .returned (.tuple #[.int .i64 a, .int .i64 b, .int .i64 c]) ∧ w' = W := by
  by_cases h : x < 0 ∨ 1048576 < x
  · exact ⟨_, _, _, fun W => rfit_no14 x h W, fun W => fit_no14 x h W⟩
  · obtain ⟨n, rfl⟩ : ∃ n : Nat, x = n := ⟨x.toNat, by omega⟩
    exact ⟨_, _, _, fun W => rfit_any14 n (by omega) W, fun W => fit_any14 n (by omega) W⟩
theorem str_eqQ (x : ByteArray) : (x.toList == x.toList) = true := by simp
set_option maxHeartbeats 4000000 in
set_option maxRecDepth 100000 in
theorem decodes14_walk (s nm : ByteArray) (x : Int) (w : World) (hs : s.size ≤ 140737488351232) (hn : nm.size ≤ 140737488351232) (hA : All w) (hm : MkS w) :
    Calls Tryd.prog 4 #[.string s, .string nm, .int .i64 x] w fun e w' => e = .returned (.bool true) ∧ Below w.heap.size w w' := by
  obtain ⟨fa, fb, fc, FR, FP⟩ := fits14 x
  have HFR : Hid _ := FR
  have HFP : Hid _ := FP
  obtain ⟨N, hN⟩ : ∃ N, bnm s = N := ⟨_, rfl⟩
  have HNP : Hid (∀ W, Below w.heap.size w W → Calls Tryd.prog 26 #[.string s] W fun e w' => e = .returned (.string N) ∧ Below W.heap.size W w') := fun W hW => by rw [← hN]; exact name_any s W hs (hA.below hW)
  have HNR : Hid (∀ W, Below w.heap.size w W → Calls Tryd.prog 27 #[.string s] W fun e w' => e = .returned (.string N) ∧ Below W.heap.size W w') := fun W hW => by rw [← hN]; exact rname_any s W hs
  have HCP : Hid (∀ W, Below w.heap.size w W → Calls Tryd.prog 28 #[.string nm, .string s] W fun e w' => ∃ er, e = .returned (.int .i64 er) ∧ Hid (CkR nm s er) ∧ Below W.heap.size W w') := fun W hW => check14 nm s W hn hs (hA.below hW) (hm.below hW)
  have HCR : Hid (∀ W er, CkR nm s er → Calls Tryd.prog 29 #[.string nm, .string s] W fun e w' => e = .returned (.int .i64 er) ∧ Below W.heap.size W w') := fun W er h => by
    refine (rcheck14 nm s W hn hs).mono ?_
    rintro e w' ⟨er', rfl, h1, h2⟩
    rw [h.one h1]
    exact ⟨rfl, h2⟩
  have HM : Hid (MkS w) := hm
  have hse := str_eqQ s
  have hNe := str_eqQ N
  clear FR FP hN hA
  by_cases hI : ∃ n k r, IsF s n k r
  · obtain ⟨n, k, r, hI⟩ := hI
    have HRD : Hid (∀ W, Calls Tryd.prog 23 #[.string s] W fun e w' => ∃ f g, NwR W e w' f g n k r) := fun W => by
      refine (rdec_any14 s W (by unfold maxLen; omega)).mono ?_
      rintro e w' (⟨n', k', r', f, g, h1, h2⟩ | ⟨h1, _⟩)
      · obtain ⟨rfl, rfl, rfl⟩ := h1.one hI
        exact ⟨f, g, h2⟩
      · exact absurd hI (h1 n k r)
    have HPD : Hid (∀ W, Below w.heap.size w W → Calls Tryd.prog 16 #[.string s] W fun e w' => ∃ f g, NwF W e w' f g n k r) := fun W hW => by
      refine (dec_any14 s W (hm.below hW) (by unfold maxLen; omega)).mono ?_
      rintro e w' (⟨n', k', r', f, g, h1, h2⟩ | ⟨h1, _⟩)
      · obtain ⟨rfl, rfl, rfl⟩ := h1.one hI
        exact ⟨f, g, h2⟩
      · exact absurd hI (h1 n k r)
    have HEP : Hid (∀ W f g, Below w.heap.size w W → FlS W f g n k r → Calls Tryd.prog 15 #[.pointer (some ⟨f, 0, none⟩)] W fun e w' => e = .returned (.tuple #[.string s, .int .i64 0]) ∧ Below W.heap.size W w') := fun W f g hW h => by rw [hI.eq]; exact enc_any14 f g n k r W h (hm.below hW)
    have HER : Hid (∀ W f g, RfS W f g n k r → Calls Tryd.prog 17 #[.pointer (some ⟨f, 0, none⟩)] W fun e w' => e = .returned (.string s) ∧ Below W.heap.size W w') := fun W f g h => by rw [hI.eq]; exact renc_any f g n k r W hI.2.1 h
    clear hI hm
    go_enter Tryd.func4, Tryd.ntmps4
    go_wp2_with fail
    refine (HRD.out _).mono ?_
    rintro e w1 ⟨o, q, h1⟩
    obtain rfl := h1.res
    have H1 : Hid (RfS w1 o q n k r ∧ Below w.heap.size w w1) := ⟨h1.fil, h1.bel⟩
    clear h1 HRD
    go_wp2_with fail
    refine (HPD.out _ H1.out.2).mono ?_
    rintro e w2 ⟨f, g, h2⟩
    obtain rfl := h2.res
    have H2 : Hid (RfS w2 o q n k r ∧ FlS w2 f g n k r ∧ Below w.heap.size w w2) := ⟨H1.out.1.below h2.bel, h2.fil, H1.out.2.trans (h2.bel.mono H1.out.2.size)⟩
    clear h2 H1 HPD
    go_wp2_with fail
    refine (HFR.out _).mono ?_
    rintro e w3 ⟨rfl, hw⟩
    obtain rfl : w2 = w3 := hw.symm
    go_wp2_with fail
    refine (HFP.out _).mono ?_
    rintro e w3 ⟨rfl, hw⟩
    obtain rfl : w2 = w3 := hw.symm
    go_wp2_with fail
    refine (HNP.out _ H2.out.2.2).mono ?_
    rintro e w3 ⟨rfl, b3⟩
    have H3 : Hid (RfS w3 o q n k r ∧ FlS w3 f g n k r ∧ Below w.heap.size w w3) := ⟨H2.out.1.below b3, H2.out.2.1.below b3, H2.out.2.2.trans (b3.mono H2.out.2.2.size)⟩
    clear b3 H2 HNP HFR HFP
    go_wp2_with fail
    refine (HNR.out _ H3.out.2.2).mono ?_
    rintro e w4 ⟨rfl, b4⟩
    have H4 : Hid (RfS w4 o q n k r ∧ FlS w4 f g n k r ∧ Below w.heap.size w w4) := ⟨H3.out.1.below b4, H3.out.2.1.below b4, H3.out.2.2.trans (b4.mono H3.out.2.2.size)⟩
    clear b4 H3 HNR
    go_wp2_with fail
    refine (HCP.out _ H4.out.2.2).mono ?_
    rintro e w5 ⟨er, rfl, hc5, b5⟩
    have H5 : Hid (RfS w5 o q n k r ∧ FlS w5 f g n k r ∧ Below w.heap.size w w5) := ⟨H4.out.1.below b5, H4.out.2.1.below b5, H4.out.2.2.trans (b5.mono H4.out.2.2.size)⟩
    clear b5 H4 HCP
    go_wp2_with fail
    refine (HCR.out _ er hc5.out).mono ?_
    rintro e w6 ⟨rfl, b6⟩
    have H6 : Hid (RfS w6 o q n k r ∧ FlS w6 f g n k r ∧ Below w.heap.size w w6) := ⟨H5.out.1.below b6, H5.out.2.1.below b6, H5.out.2.2.trans (b6.mono H5.out.2.2.size)⟩
    clear b6 H5 HCR hc5
    go_wp2_with fail
    refine (HEP.out _ _ _ H6.out.2.2 H6.out.2.1).mono ?_
    rintro e w7 ⟨rfl, b7⟩
    have H7 : Hid (RfS w7 o q n k r ∧ Below w.heap.size w w7) := ⟨H6.out.1.below b7, H6.out.2.2.trans (b7.mono H6.out.2.2.size)⟩
    clear b7 H6 HEP
    go_wp2_with fail
    refine (HER.out _ _ _ H7.out.1).mono ?_
    rintro e w8 ⟨rfl, b8⟩
    have H8 : Hid (Below w.heap.size w w8) := H7.out.2.trans (b8.mono H7.out.2.size)
    clear b8 H7 HER
    go_wp2
    go_ret
    exact ⟨rfl, H8.out⟩
  · have HNI : ∀ n k r, ¬ IsF s n k r := fun n k r h => hI ⟨n, k, r, h⟩
    have HRD : Hid (∀ W, Calls Tryd.prog 23 #[.string s] W fun e w' => e = .returned (.tuple #[.pointer none, .int .i64 4]) ∧ Below W.heap.size W w') := fun W => by
      refine (rdec_any14 s W (by unfold maxLen; omega)).mono ?_
      rintro e w' (⟨n', k', r', f, g, h1, h2⟩ | ⟨_, h1, h2⟩)
      · exact absurd h1 (HNI n' k' r')
      · exact ⟨h1, h2⟩
    have HPD : Hid (∀ W, Below w.heap.size w W → Calls Tryd.prog 16 #[.string s] W fun e w' => e = .returned (.tuple #[.pointer none, .int .i64 4]) ∧ Below W.heap.size W w') := fun W hW => by
      refine (dec_any14 s W (hm.below hW) (by unfold maxLen; omega)).mono ?_
      rintro e w' (⟨n', k', r', f, g, h1, h2⟩ | ⟨_, h1, h2⟩)
      · exact absurd h1 (HNI n' k' r')
      · exact ⟨h1, h2⟩
    clear hI HNI hm
    go_enter Tryd.func4, Tryd.ntmps4
    go_wp2_with fail
    refine (HRD.out _).mono ?_
    rintro e w1 ⟨rfl, b1⟩
    have H1 : Hid (Below w.heap.size w w1) := b1
    clear b1 HRD
    go_wp2_with fail
    refine (HPD.out _ H1.out).mono ?_
    rintro e w2 ⟨rfl, b2⟩
    have H2 : Hid (Below w.heap.size w w2) := H1.out.trans (b2.mono H1.out.size)
    clear b2 H1 HPD
    go_wp2_with fail
    refine (HFR.out _).mono ?_
    rintro e w3 ⟨rfl, hw⟩
    obtain rfl : w2 = w3 := hw.symm
    go_wp2_with fail
    refine (HFP.out _).mono ?_
    rintro e w3 ⟨rfl, hw⟩
    obtain rfl : w2 = w3 := hw.symm
    go_wp2_with fail
    refine (HNP.out _ H2.out).mono ?_
    rintro e w3 ⟨rfl, b3⟩
    have H3 : Hid (Below w.heap.size w w3) := H2.out.trans (b3.mono H2.out.size)
    clear b3 H2 HNP HFR HFP
    go_wp2_with fail
    refine (HNR.out _ H3.out).mono ?_
    rintro e w4 ⟨rfl, b4⟩
    have H4 : Hid (Below w.heap.size w w4) := H3.out.trans (b4.mono H3.out.size)
    clear b4 H3 HNR
    go_wp2_with fail
    refine (HCP.out _ H4.out).mono ?_
    rintro e w5 ⟨er, rfl, hc5, b5⟩
    have H5 : Hid (Below w.heap.size w w5) := H4.out.trans (b5.mono H4.out.size)
    clear b5 H4 HCP
    go_wp2_with fail
    refine (HCR.out _ er hc5.out).mono ?_
    rintro e w6 ⟨rfl, b6⟩
    have H6 : Hid (Below w.heap.size w w6) := H5.out.trans (b6.mono H5.out.size)
    clear b6 H5 HCR hc5
    go_wp2
    go_ret
    exact ⟨rfl, H6.out⟩
end Go.Proofs.YtplfjfhpdfbpeaaDoor
