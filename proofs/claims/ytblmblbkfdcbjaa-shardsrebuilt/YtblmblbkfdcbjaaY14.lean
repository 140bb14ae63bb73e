import Derived.Test.YtblmblbkfdcbjaaY13
import Derived.Test.YtblmblbkfdcbjaaY4
import Derived.Test.YtblmblbkfdcbjaaY12
/- The document's eliminate. -/
namespace Go.Proofs.Ytblmblbkfdcbjaa
open Go.RowKit
set_option linter.unusedSimpArgs false
set_option linter.unusedVariables false
/-- Where the call is. -/
structure Em (w0 : World) (B gm R L n : Nat) (A : Nat → Nat → UInt8) (c t : Nat) (W : World) : Prop where
  ex : ∃ hs pv M, Rws B gm R hs L M W ∧ El A R L n c t pv M
  b : Below B w0 W
  z : B ≤ W.heap.size
/-- The rows, and that nothing else changed. -/
structure Ew (w0 : World) (B gm R : Nat) (hs : Nat → Nat × Nat) (L : Nat) (M : Nat → Nat → UInt8) (W : World) : Prop where
  r : Rws B gm R hs L M W
  b : Below B w0 W
theorem Ew.below {w0 W W' : World} {B gm R L : Nat} {hs : Nat → Nat × Nat} {M : Nat → Nat → UInt8} (h : Ew w0 B gm R hs L M W) (hb : Below W.heap.size W W') : Ew w0 B gm R hs L M W' :=
  ⟨h.r.below hb, h.b.trans (hb.mono (by have := h.r.lo; omega))⟩
theorem Ew.drew {w0 W : World} {B gm R L : Nat} {hs : Nat → Nat × Nat} {M : Nat → Nat → UInt8} (h : Ew w0 B gm R hs L M W) : Ew w0 B gm R hs L M W.drew := h.below (Below.refl _ _).drew
theorem Ew.byte {w0 W : World} {B gm R L : Nat} {hs : Nat → Nat × Nat} {M : Nat → Nat → UInt8} (h : Ew w0 B gm R hs L M W) (i k : Nat) (hi : i < R) (hk : k < L) (v : UInt8) : Ew w0 B gm R hs L (upd M i k v) (W.setCell ⟨(hs i).1, k, none⟩ (c8 v)) :=
  ⟨h.r.byte i k hi hk v, h.b.setCell (h.r.lr i hi).1 _⟩
theorem Ew.swap {w0 W : World} {B gm R L : Nat} {hs : Nat → Nat × Nat} {M : Nat → Nat → UInt8} (h : Ew w0 B gm R hs L M W) (p t : Nat) (hp : p < R) (ht : t < R) :
    Ew w0 B gm R (swp hs p t) L (swp M p t) ((W.setCell ⟨gm, p, none⟩ (.slice (some ⟨(hs t).1, 0, none⟩) L (hs t).2)).setCell ⟨gm, t, none⟩ (.slice (some ⟨(hs p).1, 0, none⟩) L (hs p).2)) :=
  ⟨h.r.swap p t hp ht, (h.b.setCell h.r.lo.1 _).setCell h.r.lo.1 _⟩
theorem swap_cell {B gm R L : Nat} {hs : Nat → Nat × Nat} {M : Nat → Nat → UInt8} {W : World} (h : Rws B gm R hs L M W) (p t : Nat) (ht : t < R) : (W.setCell ⟨gm, p, none⟩ (.slice (some ⟨(hs t).1, 0, none⟩) L (hs t).2)).cell? ⟨gm, t, none⟩ = some (.slice (some ⟨(hs t).1, 0, none⟩) L (hs t).2) := by
  by_cases e : p = t
  · rw [e]; exact cel_same (h.tc t ht)
  · rw [cel_other (by intro e2; exact e (Addr.mk.inj e2).2.1)]; exact h.tc t ht
theorem quiet_slc {o : Oper} {a : Act} {C : World → Prop} {K : Act → Prop} (x : Operand) (ho : o.op = .load 44 x) (g f : Nat) (v : Value) (hx : a.eval x = .pointer (some ⟨g, f, none⟩))
    (hc : ∀ w, C w → w.cell? ⟨g, f, none⟩ = some v) (hn : K (a.put o.dst v)) : o.quiet Try.prog a C K :=
  quiet_val v (fun w hw => by
    have h := hc w hw
    have ha : (isAgg 44).run Try.prog w = .ok false w := by kernel_rfl
    unfold execOp
    simp [ho, hx, Instr.loadAt, Instr.sureAddr, loadVar, ha, h]) hn
/-- The first k bytes of row t times u. -/
def scK (M : Nat → Nat → UInt8) (t : Nat) (u : UInt8) (k i j : Nat) : UInt8 := if i = t ∧ j < k then mul (M i j) u else M i j
theorem scK_next (M : Nat → Nat → UInt8) (t : Nat) (u : UInt8) (k : Nat) : upd (scK M t u k) t k (mul (M t k) u) = scK M t u (k + 1) := by
  funext i j
  unfold upd scK
  by_cases e : i = t ∧ j = k
  · rw [if_pos e, if_pos ⟨e.1, by omega⟩, e.1, e.2]
  · rw [if_neg e]
    by_cases e2 : i = t ∧ j < k
    · rw [if_pos e2, if_pos ⟨e2.1, by omega⟩]
    · rw [if_neg e2, if_neg (by intro e3; exact e2 ⟨e3.1, by have := e3.2; have : ¬ j = k := fun h => e ⟨e3.1, h⟩; omega⟩)]
theorem scK_zero (M : Nat → Nat → UInt8) (t : Nat) (u : UInt8) : scK M t u 0 = M := by
  funext i j
  unfold scK
  rw [if_neg (by omega)]
/-- The rows below i made nothing in column c. -/
def elK (P : Nat → Nat → UInt8) (t c i a j : Nat) : UInt8 := if a ≠ t ∧ a < i then P a j ^^^ mul (P a c) (P t j) else P a j
theorem elK_zero (P : Nat → Nat → UInt8) (t c : Nat) : elK P t c 0 = P := by
  funext a j
  unfold elK
  rw [if_neg (by omega)]
theorem elK_self (P : Nat → Nat → UInt8) (t c i j : Nat) : elK P t c i i j = P i j := by
  unfold elK
  rw [if_neg (by omega)]
theorem elK_top (P : Nat → Nat → UInt8) (t c i j : Nat) : elK P t c i t j = P t j := by
  unfold elK
  rw [if_neg (by omega)]
theorem elK_skip (P : Nat → Nat → UInt8) (t c i : Nat) (h : i = t ∨ P i c = 0) : elK P t c (i + 1) = elK P t c i := by
  funext a j
  unfold elK
  by_cases e : a = i
  · subst e
    rw [if_neg (c := a ≠ t ∧ a < a) (by omega)]
    rcases h with h | h
    · rw [if_neg (by omega)]
    · rw [h, zero_mul, UInt8.xor_zero]
      split <;> rfl
  · have : (a ≠ t ∧ a < i + 1) = (a ≠ t ∧ a < i) := by apply propext; omega
    simp only [this]
/-- Row i on the way, its first k bytes. -/
def elJ (Q : Nat → Nat → UInt8) (i t : Nat) (f : UInt8) (k a j : Nat) : UInt8 := if a = i ∧ j < k then Q a j ^^^ mul f (Q t j) else Q a j
theorem elJ_zero (Q : Nat → Nat → UInt8) (i t : Nat) (f : UInt8) : elJ Q i t f 0 = Q := by
  funext a j
  unfold elJ
  rw [if_neg (by omega)]
theorem elJ_self (Q : Nat → Nat → UInt8) (i t : Nat) (f : UInt8) (k : Nat) : elJ Q i t f k i k = Q i k := by
  unfold elJ
  rw [if_neg (by omega)]
theorem elJ_top (Q : Nat → Nat → UInt8) (i t : Nat) (f : UInt8) (k j : Nat) (h : i ≠ t) : elJ Q i t f k t j = Q t j := by
  unfold elJ
  rw [if_neg (by omega)]
theorem elJ_next (Q : Nat → Nat → UInt8) (i t : Nat) (f : UInt8) (k : Nat) : upd (elJ Q i t f k) i k (Q i k ^^^ mul f (Q t k)) = elJ Q i t f (k + 1) := by
  funext a j
  unfold upd elJ
  by_cases e : a = i ∧ j = k
  · rw [if_pos e, if_pos ⟨e.1, by omega⟩, e.1, e.2]
  · rw [if_neg e]
    by_cases e2 : a = i ∧ j < k
    · rw [if_pos e2, if_pos ⟨e2.1, by omega⟩]
    · rw [if_neg e2, if_neg (by intro e3; exact e2 ⟨e3.1, by have := e3.2; have : ¬ j = k := fun h => e ⟨e3.1, h⟩; omega⟩)]
theorem elJ_all (P : Nat → Nat → UInt8) (t c i L : Nat) (h : i ≠ t) (a j : Nat) (hj : j < L) : elK P t c (i + 1) a j = elJ (elK P t c i) i t (P i c) L a j := by
  unfold elJ
  by_cases e : a = i
  · rw [if_pos ⟨e, hj⟩, e, elK_self, elK_top]
    unfold elK
    rw [if_pos ⟨h, by omega⟩]
  · rw [if_neg (by omega)]
    unfold elK
    have : (a ≠ t ∧ a < i + 1) = (a ≠ t ∧ a < i) := by apply propext; omega
    simp only [this]
theorem Ew.eqv {w0 W : World} {B gm R L : Nat} {hs : Nat → Nat × Nat} {M N : Nat → Nat → UInt8} (h : Ew w0 B gm R hs L M W) (e : ∀ i k, i < R → k < L → N i k = M i k) : Ew w0 B gm R hs L N W := ⟨h.r.eqv e, h.b⟩
set_option maxHeartbeats 8000000 in
set_option maxRecDepth 100000 in
theorem relim_any (w0 : World) (B gm R L n cm : Nat) (A : Nat → Nat → UInt8) (w : World) (hR : R ≤ 64) (hL : L ≤ 128) (hn : n ≤ L) (h : Em w0 B gm R L n A 0 0 w) :
    Calls Try.prog 40 #[.slice (some ⟨gm, 0, none⟩) R cm, .int .i64 n] w fun e w' => ∃ t c, e = .returned (.int .i64 (t : Nat)) ∧ Em w0 B gm R L n A c t w' ∧ (c = n ∨ t = R) := by
  have H0 : Hid (Em w0 B gm R L n A 0 0 w) := h
  clear h
  go_enter Try.func40, Try.ntmps40
  go_wp2_with fail
  go_loopw [5, 6] (fun x y wr => ∃ t c : Nat, x = .int .i64 t ∧ y = .int .i64 c ∧ c ≤ n ∧ t ≤ R ∧ Hid (Em w0 B gm R L n A c t wr)) (fun _ y _ => n - (intOf y).toNat)
  case atStart => exact ⟨0, 0, rfl, rfl, by omega, by omega, H0.out⟩
  case round =>
    obtain ⟨t, c, rfl, rfl, hcn, htR, HE⟩ := hrel
    by_cases hc : c < n
    · have hcz : (c : Int) < (n : Nat) := by omega
      by_cases ht : t < R
      · have htz : (t : Int) < (R : Nat) := by omega
        obtain ⟨⟨hs, pv, M, hR1, hE1⟩, hb1, hz1⟩ := HE.out
        have HR : Hid (Rws B gm R hs L M wr) := hR1
        have HL : Hid (El A R L n c t pv M) := hE1
        have HB : Hid (Below B w0 wr) := hb1
        clear hR1 hE1 hb1 HE
        obtain ⟨w1, hw1⟩ : ∃ w1, wr = w1 := ⟨_, rfl⟩
        rw [hw1] at HR HB hz1 ⊢
        clear hw1
        go_wp2_with fail
        go_loop [7] (fun x => ∃ p : Nat, x = .int .i64 p ∧ t ≤ p ∧ p ≤ R ∧ Hid (∀ i, t ≤ i → i < p → M i c = 0)) (fun x => R - (intOf x).toNat)
        case atStart => exact ⟨t, rfl, Nat.le_refl _, by omega, fun i h1 h2 => by omega⟩
        case round =>
          obtain ⟨p, rfl, htp, hpR, HZ⟩ := hrel
          by_cases hp : p < R
          · have hpz : (p : Int) < (R : Nat) := by omega
            have hcl : (c : Int) < (L : Nat) := by omega
            have e1 := HR.out.tc p hp
            have e2 := HR.out.rc p c hp (by omega)
            obtain ⟨gp, hgp⟩ : ∃ gp, (hs p).1 = gp := ⟨_, rfl⟩
            obtain ⟨cp, hcp⟩ : ∃ cp, (hs p).2 = cp := ⟨_, rfl⟩
            obtain ⟨v, hv⟩ : ∃ v, M p c = v := ⟨_, rfl⟩
            rw [hgp, hcp] at e1
            rw [hgp, hv] at e2
            by_cases h0 : v = 0
            · have HZ2 : Hid (∀ i, t ≤ i → i < p + 1 → M i c = 0) := fun i h1 h2 => by
                by_cases e : i = p
                · rw [e, hv, h0]
                · exact HZ.out i h1 (by omega)
              rw [h0] at e2
              clear hgp hcp hv h0
              go_wp2
              go_round
              case rel => exact ⟨p + 1, by go_num, by omega, by omega, HZ2.out⟩
              case measure => simp [intOf]; omega
            · have hne : ((v.toNat : Int) == 0) = false := by
                rw [beq_eq_false_iff_ne]; intro e; apply h0; apply UInt8.toNat_inj.1; show v.toNat = 0; omega
              have HV : Hid (M p c = v) := hv
              have HV0 : Hid (v ≠ 0) := h0
              have hpb : ((p : Int) == (R : Int)) = false := by rw [beq_eq_false_iff_ne]; omega
              have HGP : Hid ((hs p).1 = gp) := hgp
              have HCP : Hid ((hs p).2 = cp) := hcp
              clear hgp hcp hv h0
              have HE0 : Hid (Ew w0 B gm R hs L M w1) := ⟨HR.out, HB.out⟩
              clear HR HB
              go_wp2_with fail
              have f3 := HE0.out.r.tf p hp
              have e3 := HE0.out.r.tc t ht
              have e4 := swap_cell HE0.out.r p t ht
              have f4 : (w1.setCell ⟨gm, p, none⟩ (.slice (some ⟨(hs t).1, 0, none⟩) L (hs t).2)).frozen? ⟨gm, t, none⟩ = false := by rw [World.frozen?_setCell]; exact HE0.out.r.tf t ht
              have HS : Hid (Ew w0 B gm R (swp hs p t) L (swp M p t) ((w1.setCell ⟨gm, p, none⟩ (.slice (some ⟨(hs t).1, 0, none⟩) L (hs t).2)).setCell ⟨gm, t, none⟩ (.slice (some ⟨gp, 0, none⟩) L cp)).drew) := by
                show Ew _ _ _ _ _ _ _ _
                rw [← HGP.out, ← HCP.out]
                exact (HE0.out.swap p t hp ht).drew
              have HMt : Hid (swp M p t t c = v) := by show swp M p t t c = v; rw [swp, if_pos rfl]; exact HV.out
              go_big_region
              obtain ⟨N, hN⟩ : ∃ N, swp M p t = N := ⟨_, rfl⟩
              have HN : Hid (swp M p t = N) := hN
              rw [hN] at HS HMt
              obtain ⟨hs2, hh2⟩ : ∃ hs2, swp hs p t = hs2 := ⟨_, rfl⟩
              rw [hh2] at HS
              obtain ⟨w3, hw3⟩ : ∃ w3, ((w1.setCell ⟨gm, p, none⟩ (.slice (some ⟨(hs t).1, 0, none⟩) L (hs t).2)).setCell ⟨gm, t, none⟩ (.slice (some ⟨gp, 0, none⟩) L cp)).drew = w3 := ⟨_, rfl⟩
              rw [hw3] at HS ⊢
              clear hw3 e1 e2 e3 e4 f3 f4
              have g1 := HS.out.r.tc t ht
              have g2 := HS.out.r.rc t c ht (by omega)
              rw [HMt.out] at g2
              have hov := rover_any 1 v
              have e5 : ovV 1 v = inv v := by rw [ovV, if_neg HV0.out, one_mul]
              have e6 : ovE v = 0 := by rw [ovE, if_neg HV0.out]
              rw [e5, e6] at hov
              have HOV : Hid _ := hov
              clear hN hh2 hov e5 e6 HE0
              go_wp2_with fail
              refine Calls.mono (HOV.out w3) ?_
              rintro e w4 ⟨rfl, hw4⟩
              subst hw4
              have htR : t < R := ht
              clear g1 g2 HOV HZ
              obtain ⟨u, hu⟩ : ∃ u, inv v = u := ⟨_, rfl⟩
              have HU : Hid (inv v = u) := hu
              rw [hu]
              clear hu
              go_wp2_with fail
              go_loopw [10] (fun x W => ∃ k : Nat, x = .int .i64 k ∧ k ≤ L ∧ Hid (Ew w0 B gm R hs2 L (scK N t u k) W)) (fun x _ => L - (intOf x).toNat)
              case atStart => exact ⟨0, rfl, by omega, by show Ew _ _ _ _ _ _ _ _; rw [scK_zero]; exact HS.out⟩
              case round =>
                clear HS
                obtain ⟨k, rfl, hkL, HK⟩ := hrel
                by_cases hlk : k < L
                · have hkz : (k : Int) < (L : Nat) := by omega
                  have a1 := HK.out.r.tc t htR
                  obtain ⟨x, hx⟩ : ∃ x, N t k = x := ⟨_, rfl⟩
                  have HX : Hid (scK N t u k t k = x) := by show scK N t u k t k = x; rw [scK, if_neg (by omega), hx]
                  have HNX : Hid (upd (scK N t u k) t k (mul x u) = scK N t u (k + 1)) := by show _ = _; rw [← hx]; exact scK_next N t u k
                  clear hx
                  go_wp2_with fail
                  refine wp_region_tail (Ew w0 B gm R hs2 L (scK N t u k)) 14 (by kernel_rfl) (by kernel_rfl) HK.out.drew ?_
                  simp only [List.take_succ_cons, List.take_zero, List.drop_succ_cons, List.drop_zero]
                  iterate 2 (go_big_quiet_step (fail))
                  go_big_quiet_want
                  refine quiet_val (.pointer (some ⟨gm, t, none⟩)) ?_ ?_
                  · intro W hW; go_simp; done
                  go_big_quiet_on; simp only [Act.put, List.setIfInBounds_toArray, List.set_cons_zero, List.set_cons_succ]
                  go_big_quiet_want
                  refine quiet_slc (.tmp 82) rfl gm t (.slice (some ⟨(hs2 t).1, 0, none⟩) L (hs2 t).2) rfl (fun W hW => hW.r.tc t htR) ?_
                  go_big_quiet_on; simp only [Act.put, List.setIfInBounds_toArray, List.set_cons_zero, List.set_cons_succ]
                  go_big_quiet_step (fail)
                  iterate 2 (go_big_quiet_step (fail))
                  go_big_quiet_want
                  refine quiet_val (.pointer (some ⟨gm, t, none⟩)) ?_ ?_
                  · intro W hW; go_simp; done
                  go_big_quiet_on; simp only [Act.put, List.setIfInBounds_toArray, List.set_cons_zero, List.set_cons_succ]
                  go_big_quiet_want
                  refine quiet_slc (.tmp 87) rfl gm t (.slice (some ⟨(hs2 t).1, 0, none⟩) L (hs2 t).2) rfl (fun W hW => hW.r.tc t htR) ?_
                  go_big_quiet_on; simp only [Act.put, List.setIfInBounds_toArray, List.set_cons_zero, List.set_cons_succ]
                  go_big_quiet_step (fail)
                  go_big_quiet_want
                  refine quiet_val (.pointer (some ⟨(hs2 t).1, k, none⟩)) ?_ ?_
                  · intro W hW; go_simp; done
                  go_big_quiet_on; simp only [Act.put, List.setIfInBounds_toArray, List.set_cons_zero, List.set_cons_succ]
                  go_big_quiet_want
                  refine quiet_byte (.tmp 90) rfl (hs2 t).1 k x rfl (fun W hW => by rw [hW.r.rc t k htR hlk, HX.out]) ?_
                  go_big_quiet_on; simp only [Act.put, List.setIfInBounds_toArray, List.set_cons_zero, List.set_cons_succ]
                  go_big_quiet_step (fail)
                  go_big_quiet_want
                  refine quiet_call (c8 (mul x u)) 34 #[c8 x, c8 u] ?_ ?_ ?_
                  · intro W hW; go_simp; done
                  · intro W hW; exact (rtimes_any x u W).mono (fun _ _ h => ⟨h.1, by rw [h.2]; exact hW⟩)
                  go_big_quiet_on; simp only [Act.put, List.setIfInBounds_toArray, List.set_cons_zero, List.set_cons_succ]
                  refine wpQuiet_nil ?_
                  intro w9 hw9
                  have b1 := hw9.r.rc t k htR hlk
                  have b2 := hw9.r.rf t k htR hlk
                  have HKn : Hid (Ew w0 B gm R hs2 L (scK N t u (k + 1)) (w9.setCell ⟨(hs2 t).1, k, none⟩ (c8 (mul x u)))) := by
                    show Ew _ _ _ _ _ _ _ _
                    rw [← HNX.out]; exact hw9.byte t k htR hlk _
                  clear hw9 HK a1
                  go_wp2
                  go_roundw
                  case rel => exact ⟨k + 1, by go_num, by omega, HKn.out⟩
                  case measure => simp [intOf]; omega
                · have hkz : ¬ (k : Int) < (L : Nat) := by omega
                  obtain rfl : k = L := by omega
                  have a1 := HK.out.r.tc t htR
                  obtain ⟨P, hP⟩ : ∃ P, scK N t u k = P := ⟨_, rfl⟩
                  have HP : Hid (scK N t u k = P) := hP
                  rw [hP] at HK
                  clear hP
                  go_wp2_with fail
                  go_loopw [11] (fun x W => ∃ i : Nat, x = .int .i64 i ∧ i ≤ R ∧ Hid (Ew w0 B gm R hs2 k (elK P t c i) W)) (fun x _ => R - (intOf x).toNat)
                  case atStart => exact ⟨0, rfl, by omega, by show Ew _ _ _ _ _ _ _ _; rw [elK_zero]; exact HK.out⟩
                  case round =>
                    clear HK a1
                    obtain ⟨i, rfl, hiR', HI⟩ := hrel
                    by_cases hiR : i < R
                    · have hiz : (i : Int) < (R : Nat) := by omega
                      have hcL : (c : Int) < (k : Nat) := by omega
                      have a1 := HI.out.r.tc i hiR
                      have a2 := HI.out.r.rc i c hiR (by omega)
                      rw [elK_self] at a2
                      obtain ⟨f, hf⟩ : ∃ f, P i c = f := ⟨_, rfl⟩
                      have HF : Hid (P i c = f) := hf
                      rw [hf] at a2
                      clear hf
                      by_cases hit : i = t
                      · have hib : ((i : Int) == (t : Int)) = true := by rw [beq_iff_eq]; omega
                        have HIn : Hid (Ew w0 B gm R hs2 k (elK P t c (i + 1)) wr) := by show Ew _ _ _ _ _ _ _ _; rw [elK_skip P t c i (.inl hit)]; exact HI.out
                        clear hit HI
                        go_wp2
                        go_roundw
                        case rel => exact ⟨i + 1, by go_num, by omega, HIn.out⟩
                        case measure => simp [intOf]; omega
                      · have hib : ((i : Int) == (t : Int)) = false := by rw [beq_eq_false_iff_ne]; omega
                        by_cases hf0 : f = 0
                        · have HIn : Hid (Ew w0 B gm R hs2 k (elK P t c (i + 1)) wr) := by show Ew _ _ _ _ _ _ _ _; rw [elK_skip P t c i (.inr (by rw [HF.out, hf0]))]; exact HI.out
                          have hfb : ((f.toNat : Int) == 0) = true := by rw [hf0]; rfl
                          clear hf0 HI
                          go_wp2
                          go_roundw
                          case rel => exact ⟨i + 1, by go_num, by omega, HIn.out⟩
                          case measure => simp [intOf]; omega
                        · have hfb : ((f.toNat : Int) == 0) = false := by
                            rw [beq_eq_false_iff_ne]; intro e; apply hf0; apply UInt8.toNat_inj.1; show f.toNat = 0; omega
                          have HIT : Hid (i ≠ t) := hit
                          have HAll : Hid (∀ a j, j < k → elK P t c (i + 1) a j = elJ (elK P t c i) i t f k a j) := fun a j hj => by
                            rw [← HF.out]; exact elJ_all P t c i k HIT.out a j hj
                          obtain ⟨Q, hQ⟩ : ∃ Q, elK P t c i = Q := ⟨_, rfl⟩
                          rw [hQ] at HI HAll
                          clear hQ hf0 hit
                          go_wp2_with fail
                          go_loopw [13] (fun x W => ∃ l : Nat, x = .int .i64 l ∧ l ≤ k ∧ Hid (Ew w0 B gm R hs2 k (elJ Q i t f l) W)) (fun x _ => k - (intOf x).toNat)
                          case atStart => exact ⟨0, rfl, by omega, by show Ew _ _ _ _ _ _ _ _; rw [elJ_zero]; exact HI.out⟩
                          case round =>
                            clear HI a1 a2
                            obtain ⟨l, rfl, hlk', HJ⟩ := hrel
                            by_cases hll : l < k
                            · have hlz : (l : Int) < (k : Nat) := by omega
                              have a1 := HJ.out.r.tc i hiR
                              obtain ⟨x, hx⟩ : ∃ x, Q i l = x := ⟨_, rfl⟩
                              obtain ⟨y, hy⟩ : ∃ y, Q t l = y := ⟨_, rfl⟩
                              have HX : Hid (elJ Q i t f l i l = x) := by show _ = _; rw [elJ_self, hx]
                              have HY : Hid (elJ Q i t f l t l = y) := by show _ = _; rw [elJ_top Q i t f l l HIT.out, hy]
                              have HNX : Hid (upd (elJ Q i t f l) i l (x ^^^ mul f y) = elJ Q i t f (l + 1)) := by show _ = _; rw [← hx, ← hy]; exact elJ_next Q i t f l
                              have hx8 := xor8 x (mul f y)
                              clear hx hy
                              go_wp2_with fail
                              refine wp_region_tail (Ew w0 B gm R hs2 k (elJ Q i t f l)) 22 (by kernel_rfl) (by kernel_rfl) HJ.out.drew ?_
                              simp only [List.take_succ_cons, List.take_zero, List.drop_succ_cons, List.drop_zero]
                              iterate 2 (go_big_quiet_step (fail))
                              go_big_quiet_want
                              refine quiet_val (.pointer (some ⟨gm, i, none⟩)) ?_ ?_
                              · intro W hW; go_simp; done
                              go_big_quiet_on; simp only [Act.put, List.setIfInBounds_toArray, List.set_cons_zero, List.set_cons_succ]
                              go_big_quiet_want
                              refine quiet_slc (.tmp 126) rfl gm i (.slice (some ⟨(hs2 i).1, 0, none⟩) k (hs2 i).2) rfl (fun W hW => hW.r.tc i hiR) ?_
                              go_big_quiet_on; simp only [Act.put, List.setIfInBounds_toArray, List.set_cons_zero, List.set_cons_succ]
                              go_big_quiet_step (fail)
                              iterate 2 (go_big_quiet_step (fail))
                              go_big_quiet_want
                              refine quiet_val (.pointer (some ⟨gm, i, none⟩)) ?_ ?_
                              · intro W hW; go_simp; done
                              go_big_quiet_on; simp only [Act.put, List.setIfInBounds_toArray, List.set_cons_zero, List.set_cons_succ]
                              go_big_quiet_want
                              refine quiet_slc (.tmp 131) rfl gm i (.slice (some ⟨(hs2 i).1, 0, none⟩) k (hs2 i).2) rfl (fun W hW => hW.r.tc i hiR) ?_
                              go_big_quiet_on; simp only [Act.put, List.setIfInBounds_toArray, List.set_cons_zero, List.set_cons_succ]
                              go_big_quiet_step (fail)
                              go_big_quiet_want
                              refine quiet_val (.pointer (some ⟨(hs2 i).1, l, none⟩)) ?_ ?_
                              · intro W hW; go_simp; done
                              go_big_quiet_on; simp only [Act.put, List.setIfInBounds_toArray, List.set_cons_zero, List.set_cons_succ]
                              go_big_quiet_want
                              refine quiet_byte (.tmp 134) rfl (hs2 i).1 l x rfl (fun W hW => by rw [hW.r.rc i l hiR hll, HX.out]) ?_
                              go_big_quiet_on; simp only [Act.put, List.setIfInBounds_toArray, List.set_cons_zero, List.set_cons_succ]
                              go_big_quiet_step (fail)
                              iterate 2 (go_big_quiet_step (fail))
                              go_big_quiet_want
                              refine quiet_val (.pointer (some ⟨gm, t, none⟩)) ?_ ?_
                              · intro W hW; go_simp; done
                              go_big_quiet_on; simp only [Act.put, List.setIfInBounds_toArray, List.set_cons_zero, List.set_cons_succ]
                              go_big_quiet_want
                              refine quiet_slc (.tmp 139) rfl gm t (.slice (some ⟨(hs2 t).1, 0, none⟩) k (hs2 t).2) rfl (fun W hW => hW.r.tc t htR) ?_
                              go_big_quiet_on; simp only [Act.put, List.setIfInBounds_toArray, List.set_cons_zero, List.set_cons_succ]
                              go_big_quiet_step (fail)
                              go_big_quiet_want
                              refine quiet_val (.pointer (some ⟨(hs2 t).1, l, none⟩)) ?_ ?_
                              · intro W hW; go_simp; done
                              go_big_quiet_on; simp only [Act.put, List.setIfInBounds_toArray, List.set_cons_zero, List.set_cons_succ]
                              go_big_quiet_want
                              refine quiet_byte (.tmp 142) rfl (hs2 t).1 l y rfl (fun W hW => by rw [hW.r.rc t l htR hll, HY.out]) ?_
                              go_big_quiet_on; simp only [Act.put, List.setIfInBounds_toArray, List.set_cons_zero, List.set_cons_succ]
                              go_big_quiet_want
                              refine quiet_call (c8 (mul f y)) 34 #[c8 f, c8 y] ?_ ?_ ?_
                              · intro W hW; go_simp; done
                              · intro W hW; exact (rtimes_any f y W).mono (fun _ _ h => ⟨h.1, by rw [h.2]; exact hW⟩)
                              go_big_quiet_on; simp only [Act.put, List.setIfInBounds_toArray, List.set_cons_zero, List.set_cons_succ]
                              go_big_quiet_want
                              refine quiet_val (c8 (x ^^^ mul f y)) ?_ ?_
                              · intro W hW; go_simp; done
                              go_big_quiet_on; simp only [Act.put, List.setIfInBounds_toArray, List.set_cons_zero, List.set_cons_succ]
                              refine wpQuiet_nil ?_
                              intro w9 hw9
                              have b1 := hw9.r.rc i l hiR hll
                              have b2 := hw9.r.rf i l hiR hll
                              have HJn : Hid (Ew w0 B gm R hs2 k (elJ Q i t f (l + 1)) (w9.setCell ⟨(hs2 i).1, l, none⟩ (c8 (x ^^^ mul f y)))) := by
                                show Ew _ _ _ _ _ _ _ _
                                rw [← HNX.out]; exact hw9.byte i l hiR hll _
                              clear hw9 HJ a1
                              go_wp2
                              go_roundw
                              case rel => exact ⟨l + 1, by go_num, by omega, HJn.out⟩
                              case measure => simp [intOf]; omega
                            · have hlz : ¬ (l : Int) < (k : Nat) := by omega
                              have hlk2 : l = k := by omega
                              have a1 := HJ.out.r.tc i hiR
                              have HIn : Hid (Ew w0 B gm R hs2 k (elK P t c (i + 1)) wr) := by
                                have h := HJ.out
                                rw [hlk2] at h
                                exact h.eqv (fun a j _ hj => HAll.out a j hj)
                              clear hlk2 HJ
                              go_wp2
                              go_roundw
                              case rel => exact ⟨i + 1, by go_num, by omega, HIn.out⟩
                              case measure => simp [intOf]; omega
                    · have hiz : ¬ (i : Int) < (R : Nat) := by omega
                      have hiR2 : i = R := by omega
                      have HEn : Hid (Em w0 B gm R k n A (c + 1) (t + 1) wr) := by
                        have h := HI.out
                        rw [hiR2] at h
                        refine ⟨⟨hs2, _, _, h.r, HL.out.some hc htp hp (by rw [HV.out]; exact HV0.out) (fun a j ha hj => ?_)⟩, h.b, by have := h.r.lo; omega⟩
                        rw [HV.out, HU.out, ← HP.out, ← HN.out]
                        have hPt : ∀ j, j < k → scK (swp M p t) t u k t j = mul (M p j) u := fun j hj => by rw [scK, if_pos ⟨rfl, hj⟩, swp, if_pos rfl]
                        have hPn : ∀ a j, a ≠ t → scK (swp M p t) t u k a j = (if a = p then M t j else M a j) := fun a j hne' => by
                          rw [scK, if_neg (by intro e; exact hne' e.1), swp, if_neg hne']
                          by_cases e : a = p
                          · rw [if_pos e, if_pos e]
                          · rw [if_neg e, if_neg e]
                        by_cases e : a = t
                        · rw [if_pos e, e, elK_top, hPt j hj]
                        · rw [if_neg e, elK, if_pos ⟨e, ha⟩, hPn a j e, hPn a c e, hPt j hj]
                      clear hiR2 HI
                      go_wp2
                      go_roundw
                      case rel => exact ⟨t + 1, c + 1, by go_num, by go_num, by omega, by omega, HEn.out⟩
                      case measure => simp [intOf]; omega
          · have hpz : ¬ (p : Int) < (R : Nat) := by omega
            obtain rfl : p = R := by omega
            have HEn : Hid (Em w0 B gm p L n A (c + 1) t w1) := ⟨⟨hs, pv, M, HR.out, HL.out.none hc (fun i h1 h2 => HZ.out i h1 h2)⟩, HB.out, hz1⟩
            go_wp2
            go_roundw
            case rel => exact ⟨t, c + 1, rfl, by go_num, by omega, by omega, HEn.out⟩
            case measure => simp [intOf]; omega
      · have htz : ¬ (t : Int) < (R : Nat) := by omega
        have htR2 : t = R := by omega
        have HEe : Hid (Em w0 B gm R L n A c t wr ∧ (c = n ∨ t = R)) := ⟨HE.out, .inr htR2⟩
        clear HE htR2
        go_wp2
        go_ret
        exact ⟨t, rfl, c, HEe.out.1, HEe.out.2⟩
    · have hcz : ¬ (c : Int) < (n : Nat) := by omega
      have hcn2 : c = n := by omega
      have HEe : Hid (Em w0 B gm R L n A c t wr ∧ (c = n ∨ t = R)) := ⟨HE.out, .inl hcn2⟩
      clear HE hcn2
      go_wp2
      go_ret
      exact ⟨t, rfl, c, HEe.out.1, HEe.out.2⟩
end Go.Proofs.Ytblmblbkfdcbjaa
/- The document's rows. -/
namespace Go.Proofs.Ytblmblbkfdcbjaa
open Go.RowKit
set_option linter.unusedSimpArgs false
set_option linter.unusedVariables false
theorem inf_slc : (Try.prog.info? 44).map (fun i => (i.zero, i.size, i.bytes)) = some (some (.slice none 0 0), 1, 24) := by kernel_rfl
abbrev Cvr (w : World) (g : Nat) (C : Array Value) : Prop := w.heap[g]? = some (.cells C 5 (C.size, C.size + 1))
theorem Cvr.cell {w : World} {g : Nat} {C : Array Value} (h : Cvr w g C) (j : Nat) : w.cell? ⟨g, j, none⟩ = C[j]? := cell_of_row w g j C _ _ h
theorem Cvr.frozen {w : World} {g : Nat} {C : Array Value} (h : Cvr w g C) (j : Nat) (hj : j < C.size) : w.frozen? ⟨g, j, none⟩ = false := by
  have h' : w.heap[g]? = some (.cells C 5 (C.size, C.size + 1)) := h
  simp only [World.frozen?, h']
  simp; omega
theorem Cvr.set {w : World} {g : Nat} {C : Array Value} (h : Cvr w g C) (i : Nat) (v : Value) : Cvr (w.setCell ⟨g, i, none⟩ v) g (C.setIfInBounds i v) := by
  have := Joins.block_setCell (i := i) h v
  unfold Cvr
  rw [this]; simp
theorem conv_row (s : ByteArray) (u : World) : ∃ (cap : Nat) (W : World) (C : Array Value), (convert 9 44 (.string s)).run Try.prog u = .ok (.slice (some ⟨u.heap.size, 0, none⟩) s.size cap) W ∧
    Below u.heap.size u W ∧ W.heap.size = u.heap.size + 1 ∧ Cvr W u.heap.size C ∧ C.size = cap ∧ s.size ≤ cap ∧ ∀ j (hj : j < s.size), C[j]? = some (.int .u8 (s[j].toNat : Int)) := by
  refine ⟨grownCap u s.size 0 5, Lib.bytesWorld u 5 s, Lib.bytesCells u 5 s, Lib.run_convert_string_bytes u _ _ _ s Try.underlying9 Try.underlying44 Try.underlying5, ?_, Lib.bytesWorld_size _ _ _, Lib.bytesWorld_at_new _ _ _, ?_, ?_, ?_⟩
  · refine ⟨?_, ?_, ?_, by rw [Lib.bytesWorld_size]; omega, fun k hk => Lib.bytesWorld_at_old _ _ _ _ hk⟩
    all_goals simp [Lib.bytesWorld, World.freeze, World.alloc, World.drew, -World.alloc_eq, -World.drew_eq]
  · have hge := grownCap_ge u s.size 0 5
    have : s.data.size = s.size := rfl
    simp [Lib.bytesCells]; omega
  · exact grownCap_ge _ _ _ _
  · intro j hj
    have hj' : j < s.data.size := hj
    rw [Lib.bytesCells, Array.getElem?_append_left (by simpa using hj)]
    simp only [Array.getElem?_map, Array.getElem?_eq_getElem hj', Option.map_some]
    rfl
/-- The rows of a matrix, so many made. -/
structure Rb (B n : Nat) (A : Nat → Nat → UInt8) (h : Nat → Nat × Nat) (i : Nat) (W : World) : Prop where
  row : ∀ k, k < i → ∃ C, Cvr W (h k).1 C ∧ (C.size = (h k).2 ∧ n ≤ (h k).2) ∧ ∀ j, j < n → C[j]? = some (.int .u8 ((A k j).toNat : Int))
  lo : ∀ k, k < i → B ≤ (h k).1
  ap : ∀ k l, k < i → l < i → k ≠ l → (h k).1 ≠ (h l).1
def hv (n : Nat) (h : Nat → Nat × Nat) (i : Nat) : List Value := (List.range i).map fun k => .slice (some ⟨(h k).1, 0, none⟩) n (h k).2
theorem hv_next (n : Nat) (h : Nat → Nat × Nat) (i g c : Nat) : hv n (fun k => if k = i then (g, c) else h k) (i + 1) = hv n h i ++ [.slice (some ⟨g, 0, none⟩) n c] := by
  rw [hv, List.range_succ, List.map_append, List.map_singleton, if_pos rfl]
  congr 1
  apply List.map_congr_left
  intro k hk
  have : k < i := List.mem_range.1 hk
  rw [if_neg (by omega)]
theorem Cvr.lt {w : World} {g : Nat} {C : Array Value} (h : Cvr w g C) : g < w.heap.size := (Array.getElem?_eq_some_iff.1 h).1
theorem own_apart {W : World} {B n g : Nat} {v : Value} {xs : List Value} {C : Array Value} (h : W.ownsRow B 44 1 v n xs) (hc : Cvr W g C) : v.ownBlock ≠ some g := by
  rcases h.2 with ⟨rfl, h0⟩ | ⟨g2, cap, cur, rfl, hle, hg, hn, _, hc2, ht⟩
  · intro e; cases e
  · intro e
    obtain rfl : g2 = g := by simpa [Value.ownBlock] using e
    have hc' : W.heap[g2]? = some (.cells C 5 (C.size, C.size + 1)) := hc
    rw [hg] at hc'
    simp at hc'
theorem Rb.grown {B n i : Nat} {A : Nat → Nat → UInt8} {h : Nat → Nat × Nat} {W W' : World} {r : Option Nat} (hr : Rb B n A h i W) (hg : W.grownBy W' r) (hne : ∀ k, k < i → r ≠ some (h k).1) : Rb B n A h i W' := by
  refine ⟨fun k hk => ?_, hr.lo, hr.ap⟩
  obtain ⟨C, hc, h2⟩ := hr.row k hk
  have hlt := hc.lt
  exact ⟨C, by show W'.heap[(h k).1]? = _; rw [hg.block _ hlt (fun e => hne k hk e.symm)]; exact hc, h2⟩
theorem Rb.next {B n i cap : Nat} {A : Nat → Nat → UInt8} {h : Nat → Nat × Nat} {W W' : World} {C : Array Value} (hr : Rb B n A h i W) (hb : Below W.heap.size W W') (hc : Cvr W' W.heap.size C) (hn : C.size = cap ∧ n ≤ cap) (hC : ∀ j, j < n → C[j]? = some (.int .u8 ((A i j).toNat : Int))) (hB : B ≤ W.heap.size) :
    Rb B n A (fun k => if k = i then (W.heap.size, cap) else h k) (i + 1) W' := by
  have hr2 := hr.grown (gr_of_below hb none) (by simp)
  have hlt : ∀ k, k < i → (h k).1 < W.heap.size := fun k hk => by
    obtain ⟨C, hc, _⟩ := hr.row k hk
    exact hc.lt
  refine ⟨fun k hk => ?_, fun k hk => ?_, fun k l hk hl hkl => ?_⟩
  · by_cases e : k = i
    · subst e
      simp only [if_pos]
      exact ⟨C, hc, hn, hC⟩
    · simp only [if_neg e]; exact hr2.row k (by omega)
  · by_cases e : k = i
    · simp only [if_pos e]; exact hB
    · simp only [if_neg e]; exact hr.lo k (by omega)
  · by_cases e : k = i
    · simp only [if_pos e, if_neg (show ¬ l = i by omega)]
      have := hlt l (by omega); omega
    · simp only [if_neg e]
      by_cases e2 : l = i
      · simp only [if_pos e2]; have := hlt k (by omega); omega
      · simp only [if_neg e2]; exact hr.ap k l (by omega) (by omega) hkl
theorem Rb.done {B n R gm cm : Nat} {A : Nat → Nat → UInt8} {h : Nat → Nat × Nat} {W : World} (hr : Rb B n A h R W) (ho : W.ownsRow B 44 1 (.slice (some ⟨gm, 0, none⟩) R cm) R (hv n h R)) (h1 : 1 ≤ R) : Rws B gm R h n A W := by
  rcases ho.2 with ⟨e, h0⟩ | ⟨g, cap, cur, e, hle, hg, hn, _, hc, ht⟩
  · cases e
  · obtain ⟨rfl, rfl⟩ : gm = g ∧ cm = cap := by simpa using e
    have hB : Bk W gm cur 44 := hg
    have hcell : ∀ i, i < R → W.cell? ⟨gm, i, none⟩ = some (.slice (some ⟨(h i).1, 0, none⟩) n (h i).2) := by
      intro i hi
      rw [hB.cell]
      have e := congrArg (·[i]?) ht
      rw [Nat.mul_one] at e
      simp only [List.getElem?_take, if_pos hi, hv, List.getElem?_map, List.getElem?_range hi, Option.map_some] at e
      rw [← Array.getElem?_toList]; exact e
    refine ⟨hcell, fun i hi => hB.frozen i, fun i k hi hk => ?_, fun i k hi hk => ?_, hr.ap, fun i hi => ?_, ⟨hle, hB.lt⟩, fun i hi => ?_, fun i hi => ?_⟩
    · obtain ⟨C, h1, h2, h3⟩ := hr.row i hi
      rw [h1.cell, h3 k hk]
    · obtain ⟨C, h1, h2, h3⟩ := hr.row i hi
      exact h1.frozen k (by omega)
    · obtain ⟨C, h1, h2, h3⟩ := hr.row i hi
      intro e
      exact own_apart ho h1 (by show some gm = some (h i).1; rw [e])
    · obtain ⟨C, h1, h2, h3⟩ := hr.row i hi
      exact ⟨hr.lo i hi, h1.lt⟩
    · obtain ⟨C, h1, h2, h3⟩ := hr.row i hi
      exact h2.2
end Go.Proofs.Ytblmblbkfdcbjaa
/- The document's rows: the walk. -/
namespace Go.Proofs.Ytblmblbkfdcbjaa
open Go.RowKit
set_option linter.unusedSimpArgs false
set_option linter.unusedVariables false
theorem one_slc (a : Option Addr) (n c : Nat) : ∀ u ∈ [Value.slice a n c], u.oneCell' = true := by
  intro u hu
  simp at hu
  subst hu; rfl
theorem mat_byte (xs : List ByteArray) (i j : Nat) (x : ByteArray) (hx : xs[i]? = some x) (h : x.size ≤ 64) (hj : j < x.size) : x[j] = mat (arrL xs) i j := by
  have e := rowOf_get x h j hj
  have e2 : x.data.toList[j]? = some x[j] := by
    rw [Array.getElem?_toList, Array.getElem?_eq_getElem hj]; rfl
  rw [e2] at e
  unfold mat
  rw [show (arrL xs).getD i zr = rowOf x from by rw [arrL, List.getD, List.getElem?_map, hx]; rfl, List.getD, e]; rfl
set_option maxHeartbeats 2000000 in
set_option maxRecDepth 100000 in
theorem rrows_any (a : Option Addr) (ca n R : Nat) (xs : List ByteArray) (w : World) (hx : TxL w a xs) (hR : xs.length = R) (h1 : 1 ≤ R) (h2 : R ≤ 64) (hs : ∀ x ∈ xs, x.size = n) (hn : n ≤ 64) :
    Calls Try.prog 39 #[.slice a R ca] w fun e w' => ∃ gm cm h, e = .returned (.slice (some ⟨gm, 0, none⟩) R cm) ∧ (Rws w.heap.size gm R h n (mat (arrL xs)) w' ∧ Rb w.heap.size n (mat (arrL xs)) h R w') ∧ Below w.heap.size w w' := by
  have HX : Hid (TxL w a xs) := hx
  have HXN : Hid (xs.length = R) := hR
  have HS : Hid (∀ x ∈ xs, x.size = n) := hs
  obtain ⟨i0, hi, hz0, hz1, hz2⟩ := info_parts inf_slc
  clear hx hR hs
  go_enter Try.func39, Try.ntmps39
  go_wp2_with fail
  go_loopw [3, 4] (fun v t wr => ∃ i : Nat, i ≤ R ∧ t = .int .i64 i ∧ Hid (Below w.heap.size w wr) ∧ Hid (∃ h, wr.ownsRow w.heap.size 44 1 v i (hv n h i) ∧ Rb w.heap.size n (mat (arrL xs)) h i wr)) (fun _ t _ => R - (intOf t).toNat)
  case atStart => exact ⟨0, by omega, rfl, Below.refl _ _, ⟨fun _ => (0, 0), World.ownsRow_nil _ _ _ _, ⟨fun k hk => by omega, fun k hk => by omega, fun k l hk => by omega⟩⟩⟩
  case round =>
    obtain ⟨i, hiR, rfl, HB, HH⟩ := hrel
    have hzr : w.heap.size ≤ wr.heap.size := HB.out.size
    by_cases hlt : i < R
    · have hiz : (i : Int) < (R : Nat) := by omega
      obtain ⟨h, hown, hrb⟩ := HH.out
      obtain ⟨x, hx⟩ : ∃ x, xs[i]? = some x := ⟨_, List.getElem?_eq_getElem (by rw [HXN.out]; omega)⟩
      have hxs := HS.out x (List.mem_of_getElem? hx)
      obtain ⟨ga, oa, rfl, hga, hc⟩ := (HX.out.below HB.out) i x hx
      obtain ⟨cap, W1, C, hcv, hb1, hz1', hc1, hn0, hn1, hC⟩ := conv_row x wr
      rw [hxs] at hcv hn1
      have HO1 : Hid (W1.ownsRow w.heap.size 44 1 u3 i (hv n h i)) := own_kept hown hb1
      have HR1 : Hid (Rb w.heap.size n (mat (arrL xs)) (fun k => if k = i then (wr.heap.size, cap) else h k) (i + 1) W1) := hrb.next hb1 hc1 ⟨hn0, hn1⟩ (fun j hj => by
        rw [hC j (by omega), mat_byte xs i j x hx (by omega) (by omega)]) hzr
      have HB1 : Hid (Below w.heap.size w W1) := HB.out.trans (hb1.mono hzr)
      have hzW : w.heap.size ≤ W1.heap.size := HB1.out.size
      have HC1 : Hid (∀ (j : Nat) (u : Value), [Value.slice (some ⟨wr.heap.size, 0, none⟩) n cap][j]? = some u → (W1.alloc (.cells #[Value.slice (some ⟨wr.heap.size, 0, none⟩) n cap] 44)).cell? ((⟨W1.heap.size, 0, none⟩ : Addr).add j) = some u) := news_one _ _ _
      clear hown hrb hx hb1 hz1' hc1 hn0 hn1 hC HH
      go_wp2_with (at_builtin; refine wpList_append_own _ rfl _ _ 59 rfl w.heap.size 44 i0 (.slice none 0 0) 1 24 Try.underlying59 hi hz0 hz1 hz2 rfl (by decide) _ _ _ rfl (HO1.out.alloc _) ⟨W1.heap.size, 0, none⟩ 1 1 [.slice (some ⟨wr.heap.size, 0, none⟩) n cap] rfl rfl HC1.out (one_slc _ _ _) (by unfold maxLen; omega) (by omega) (by simp; omega) ?_)
      intro v' w7 hown1 hgrow _
      have HHn : Hid (∃ h, w7.ownsRow w.heap.size 44 1 v' (i + 1) (hv n h (i + 1)) ∧ Rb w.heap.size n (mat (arrL xs)) h (i + 1) w7) := by
        refine ⟨fun k => if k = i then (wr.heap.size, cap) else h k, by rw [hv_next]; exact hown1, ?_⟩
        refine (HR1.out.grown (World.grownBy_alloc W1 _ none) (by simp)).grown hgrow (fun k hk => ?_)
        obtain ⟨C2, hc2, _⟩ := HR1.out.row k hk
        exact own_apart HO1.out hc2
      have HB7 : Hid (Below w.heap.size w w7) := apn_bel HB1.out hzW HO1.out hgrow
      clear hown1 hgrow HC1 HO1 HR1 HB1 hcv
      go_wp2
      go_roundw
      case rel => exact ⟨i + 1, by omega, by go_num, HB7.out, HHn.out⟩
      case measure => simp [intOf]; omega
    · have hiz : ¬ (i : Int) < (R : Nat) := by omega
      have hiR2 : i = R := by omega
      obtain ⟨h, hown, hrb⟩ := HH.out
      rw [hiR2] at hown hrb
      obtain ⟨gm, cm, rfl⟩ : ∃ gm cm, u3 = .slice (some ⟨gm, 0, none⟩) R cm := by
        rcases hown.2 with ⟨e, h0⟩ | ⟨g, cap, cur, e, _⟩
        · omega
        · exact ⟨g, cap, e⟩
      have HD : Hid (Rws w.heap.size gm R h n (mat (arrL xs)) wr ∧ Rb w.heap.size n (mat (arrL xs)) h R wr) := ⟨hrb.done hown h1, hrb⟩
      clear hown hrb HH hiR2
      go_wp2
      go_ret
      exact ⟨gm, ⟨cm, rfl⟩, ⟨h, HD.out⟩, HB.out⟩
end Go.Proofs.Ytblmblbkfdcbjaa
