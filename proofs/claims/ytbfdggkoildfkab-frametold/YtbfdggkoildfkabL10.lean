/- The walk of munimentlaw03.FrameTold. -/
import Derived.Test.YtbfdggkoildfkabE4
import Derived.Test.YtbfdggkoildfkabE6
namespace Go.Proofs.Ytbfdggkoildfkab
open Go.RowKit
set_option linter.unusedSimpArgs false
set_option linter.unusedVariables false
/-- By what a byte is turned. -/
def byN (b : Nat) : Nat := b % 255 + 1
theorem xor_ne (a : Fin 256) (b : Fin 256) : bits .xor .u8 (a.val : Int) ((b.val : Int) % 255 + 1) ≠ (a.val : Int) := by
  have e : ((b.val : Int) % 255 + 1) = ((b.val % 255 + 1 : Nat) : Int) := by omega
  rw [e, u8_xor_nat _ _ (by omega) (by omega)]
  intro h
  have h2 : a.val ^^^ (b.val % 255 + 1) = a.val := by exact_mod_cast h
  have h3 : (a.val ^^^ (b.val % 255 + 1)) ^^^ a.val = a.val ^^^ a.val := by rw [h2]
  rw [Nat.xor_self, Nat.xor_comm a.val, Nat.xor_assoc, Nat.xor_self, Nat.xor_zero] at h3
  omega
set_option maxRecDepth 100000 in
set_option maxHeartbeats 1000000 in
theorem told_walk (s t : ByteArray) (at_ by_ : Nat) (w : World) (hs : s.size ≤ 140737488351232) (ht : t.size ≤ 140737488351232) (ha : at_ < 65536) (hby : by_ < 256) :
    Calls Try.prog 3 #[.string s, .string t, .agg #[.int .u16 at_, .int .u8 by_]] w fun e w' => e = .returned (.bool true) ∧ Below w.heap.size w w' := by
  go_enter Try.func3, Try.ntmps3
  go_wp2_with fail
  all_goals first
    | (obtain ⟨p, hp⟩ : ∃ p, p = s.extract 0 2000 := ⟨_, rfl⟩
       rw [← hp]
       have hpz : p.size ≤ 2000 := by rw [hp]; simp; omega
       clear hp)
    | (obtain ⟨p, hp⟩ : ∃ p, p = s := ⟨_, rfl⟩
       rw [← hp]
       have hpz : p.size ≤ 2000 := by rw [hp]; omega
       clear hp)
  all_goals
    refine (frame_ok p _ (by omega)).mono ?_
    rintro e w1 ⟨rfl, h1⟩
    have H1 : Hid (Below w.heap.size w w1) := ((Below.refl _ _).alloc (Nat.le_refl _) _).trans (h1.mono (by simp))
    have z1 : w.heap.size ≤ w1.heap.size := H1.out.size
    clear h1
    obtain ⟨f, hf⟩ : ∃ f, f = frm p := ⟨_, rfl⟩
    rw [← hf]
    have hfz : f.size = 8 + p.size := by rw [hf, frm_size]
    have HF : Hid (f = frm p) := hf
    have HZ : Hid (f.size = 8 + p.size) := hfz
    have hf1 : 8 ≤ f.size := by omega
    have hf2 : f.size ≤ 2008 := by omega
    have hne : ((f.size : Int) != 8 + (p.size : Int)) = false := by rw [bne_eq_false_iff_eq]; omega
    clear hf hfz
    obtain ⟨cap, w2, C, hcv, hb2, hsz2, hC, hCz, hcap, hCg⟩ := conv_bytes (f ++ t) w1
    have HB2 : Hid (Below w.heap.size w w2) := H1.out.trans (hb2.mono z1)
    have HC : Hid (Cvb w2 w1.heap.size C) := hC
    have HG : Hid (∀ j (hj : j < (f ++ t).size), C[j]? = some (.int .u8 ((f ++ t)[j].toNat : Int))) := hCg
    have hst : (f ++ t).size = f.size + t.size := append_size f t
    have HST : Hid ((f ++ t).size = f.size + t.size) := hst
    clear hb2 hC hCg hst
    obtain ⟨j, hj⟩ : ∃ j, j = 4 + at_ % (f.size - 4) := ⟨_, rfl⟩
    have hjm : at_ % (f.size - 4) < f.size - 4 := Nat.mod_lt _ (by omega)
    have hj1 : 4 ≤ j := by omega
    have hj2 : j < f.size := by omega
    have hjs : j < (f ++ t).size := by rw [HST.out]; omega
    have hm0 : 0 ≤ (at_ : Int) % ((f.size : Int) - 4) := Int.emod_nonneg _ (by omega)
    have hm1 : (at_ : Int) % ((f.size : Int) - 4) < (f.size : Int) - 4 := Int.emod_lt_of_pos _ (by omega)
    have hjw : (4 + (at_ : Int) % ((f.size : Int) - 4)).toNat = j := by
      have e : (at_ : Int) % ((f.size : Int) - 4) = ((at_ % (f.size - 4) : Nat) : Int) := by
        rw [show ((f.size : Int) - 4) = ((f.size - 4 : Nat) : Int) from by omega]; exact (Int.natCast_emod _ _).symm
      rw [e, hj]
      omega
    have HJ : Hid (j = 4 + at_ % (f.size - 4)) := hj
    clear hj hjm
    obtain ⟨b, hb⟩ : ∃ b, b = (f ++ t)[j]'hjs := ⟨_, rfl⟩
    have hcell : w2.cell? ⟨w1.heap.size, j, none⟩ = some (.int .u8 (b.toNat : Int)) := by rw [HC.out.cell, HG.out j hjs, hb]
    have hfro : w2.frozen? ⟨w1.heap.size, j, none⟩ = false := HC.out.frozen j (by omega)
    have HBb : Hid (b = (f ++ t)[j]'hjs) := hb
    have hbl := b.toNat_lt
    have hback : ∀ X : Int, (convert 28 9 (.slice (some ⟨w1.heap.size, 0, none⟩) (f.size + t.size) cap)).run Try.prog (w2.setCell ⟨w1.heap.size, j, none⟩ (.int .u8 X)) = .ok (.string (trnS (f ++ t) j X)) (w2.setCell ⟨w1.heap.size, j, none⟩ (.int .u8 X)) := by
      intro X
      have := conv_set (f ++ t) w2 w1.heap.size cap j C HC.out hjs hCz HG.out X
      rwa [HST.out] at this
    rw [HST.out] at hcv hCz hcap
    have hm2 : 0 ≤ (at_ : Int) % (f.size : Int) := Int.emod_nonneg _ (by omega)
    have hm3 : (at_ : Int) % (f.size : Int) < (f.size : Int) := Int.emod_lt_of_pos _ (by omega)
    clear hb hCz hsz2
    go_wp2_with fail
    refine (unframe_any _ _ (by rw [trnS, strOfNums_size, setNums_length, HST.out]; unfold maxLen; omega)).mono ?_
    rintro e w3 ⟨rfl, h3⟩
    have k1 : ufB (trnS (f ++ t) j (bits .xor .u8 (b.toNat : Int) ((by_ : Int) % 255 + 1))) = false := by
      refine turned_uf p t _ j (UInt8.ofNat (bits .xor .u8 (b.toNat : Int) ((by_ : Int) % 255 + 1)).toNat) (by omega) hj1 (by rw [← HZ.out]; exact hj2) ?_ ?_
      · rw [bl_trn, bl_append, HF.out, bl_frm]
      · rw [← bl_frm, ← bl_append, ← HF.out]
        intro h
        rw [List.getElem?_eq_getElem (by rw [bl_length]; exact hjs)] at h
        simp only [Option.some.injEq] at h
        refine xor_ne ⟨b.toNat, hbl⟩ ⟨by_, hby⟩ ?_
        have hx : bits .xor .u8 (b.toNat : Int) ((by_ : Int) % 255 + 1) = ((b.toNat ^^^ (by_ % 255 + 1) : Nat) : Int) := by
          rw [show ((by_ : Int) % 255 + 1) = ((by_ % 255 + 1 : Nat) : Int) from by omega, u8_xor_nat _ _ hbl (by omega)]
        have hxl : b.toNat ^^^ (by_ % 255 + 1) < 256 := Nat.xor_lt_two_pow (n := 8) hbl (by omega)
        have h2 := congrArg UInt8.toNat h
        rw [hx, Int.toNat_natCast, toNat_ofNat8 _ hxl] at h2
        show bits .xor .u8 (b.toNat : Int) ((by_ : Int) % 255 + 1) = (b.toNat : Int)
        rw [hx, ← h2, HBb.out]
        rfl
    rw [(uf_no k1).1, (uf_no k1).2.1, (uf_no k1).2.2]
    have HB3 : Hid (Below w.heap.size w w3) := by
      have g : Below w.heap.size w (w2.setCell ⟨w1.heap.size, j, none⟩ (.int .u8 (bits .xor .u8 (b.toNat : Int) ((by_ : Int) % 255 + 1)))) := HB2.out.setCell z1 _
      exact g.trans (h3.mono g.size)
    have z3 : w.heap.size ≤ w3.heap.size := HB3.out.size
    clear h3 k1 hback hcell hfro hcv
    go_wp2_with fail
    have hk : at_ % f.size < f.size := Nat.mod_lt _ (by omega)
    refine (unframe_any _ _ (by unfold maxLen; simp; omega)).mono ?_
    rintro e w4 ⟨rfl, h4⟩
    have k2 : ufB (f.extract 0 (at_ % f.size)) = false := by
      refine cut_uf p _ (at_ % f.size) (by omega) (by rw [← HZ.out]; exact hk) ?_
      rw [extract_take f _ (by omega), HF.out, bl_frm]
    rw [(uf_no k2).1, (uf_no k2).2.1, (uf_no k2).2.2]
    have HB4 : Hid (Below w.heap.size w w4) := HB3.out.trans (h4.mono z3)
    have z4 : w.heap.size ≤ w4.heap.size := HB4.out.size
    clear h4 k2 hk
    go_wp2_with fail
    refine (awake_any w4).mono ?_
    rintro e w5 ⟨rfl, h5⟩
    have HB5 : Hid (Below w.heap.size w w5) := HB4.out.trans (h5.mono z4)
    clear h5
    go_wp2
    go_ret
    exact ⟨rfl, HB5.out⟩
end Go.Proofs.Ytbfdggkoildfkab
