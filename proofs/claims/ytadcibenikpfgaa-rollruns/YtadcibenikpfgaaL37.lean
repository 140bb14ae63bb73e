/- The walk of RollRuns. -/
import Derived.Test.YtadcibenikpfgaaV3
import Derived.Test.YtadcibenikpfgaaO11
import Derived.Deep.RegionHeld3
import Derived.Test.YtadcibenikpfgaaE7
namespace Go.Proofs.Ytadcibenikpfgaa
open Go.RowKit
set_option linter.unusedSimpArgs false
set_option linter.unusedVariables false
/-- All that lies there: both rolls, their pointers, both texts. -/
structure RR (w : World) (g0 g1 gR gS : Nat) (l0 l1 : List UInt8) (s0 s1 : ByteArray) (W : World) : Prop where
  r0 : Rll W g0 l0
  r1 : Rll W g1 l1
  rr : Bk W gR #[.pointer (some ⟨g0, 0, none⟩), .pointer (some ⟨g1, 0, none⟩)] 29
  ss : Bk W gS #[.string s0, .string s1] 30
  bel : Below w.heap.size w W
/-- A text is the end of what was taken, or all of it. -/
def Suf (l s : List UInt8) : Prop := ∃ a, l = a ++ s ∧ (a = [] ∨ 64 ≤ s.length)
theorem Suf.app {l s : List UInt8} (h : Suf l s) (x : List UInt8) : Suf (l ++ x) (s ++ x) := by
  obtain ⟨a, rfl, h2⟩ := h
  exact ⟨a, by rw [List.append_assoc], h2.elim Or.inl (fun h => Or.inr (by rw [List.length_append]; omega))⟩
theorem Suf.cut {l s : List UInt8} (h : Suf l s) (n : Nat) (hn : n + 64 ≤ s.length) : Suf l (s.drop n) := by
  obtain ⟨a, rfl, h2⟩ := h
  exact ⟨a ++ s.take n, by rw [List.append_assoc, List.take_append_drop], Or.inr (by rw [List.length_drop]; omega)⟩
theorem Suf.dg {l s : List UInt8} (h : Suf l s) : dgR l = dgR s := by
  obtain ⟨a, rfl, h2⟩ := h
  rcases h2 with h | h
  · rw [h, List.nil_append]
  · exact dgR_back _ _ h
theorem tby_app (a b : ByteArray) : tby (a ++ b) = tby a ++ tby b := by
  show (a ++ b).data.toList = _
  rw [ByteArray.data_append, Array.toList_append]
theorem tby_back (S : ByteArray) (r : Nat) : tby (S.extract r S.size) = (tby S).drop r := by
  show (S.extract r S.size).data.toList = _
  rw [ByteArray.data_extract, Array.toList_extract, List.extract_eq_take_drop, List.take_of_length_le (by rw [List.length_drop]; exact Nat.le_of_eq (by rw [← tby_len]))]
section
variable {w : World} {g0 g1 gR gS : Nat} {l0 l1 : List UInt8} {s0 s1 : ByteArray} {W : World}
theorem RR.drewN (h : RR w g0 g1 gR gS l0 l1 s0 s1 W) (n : Nat) : RR w g0 g1 gR gS l0 l1 s0 s1 (W.drewN n) := ⟨h.r0.drewN n, h.r1.drewN n, h.rr.drewN n, h.ss.drewN n, below_drewN h.bel n⟩
theorem RR.drew (h : RR w g0 g1 gR gS l0 l1 s0 s1 W) : RR w g0 g1 gR gS l0 l1 s0 s1 W.drew := ⟨h.r0, h.r1, h.rr, h.ss, h.bel.drew⟩
theorem RR.alloc (h : RR w g0 g1 gR gS l0 l1 s0 s1 W) (o : Obj) : RR w g0 g1 gR gS l0 l1 s0 s1 (W.alloc o) := ⟨h.r0.alloc o, h.r1.alloc o, h.rr.alloc o, h.ss.alloc o, h.bel.alloc h.bel.size o⟩
theorem RR.own0 (h : RR w g0 g1 gR gS l0 l1 s0 s1 W) (z : w.heap.size ≤ g0 ∧ g0 < g1 ∧ g1 < gR ∧ gR < gS) {W' : World} {l : List UInt8} (hl : Rll W' g0 l) (hg : W.grownBy W' (some g0)) : RR w g0 g1 gR gS l l1 s0 s1 W' :=
  ⟨hl, h.r1.grown hg (by simp; omega), h.rr.grown hg (by simp; omega), h.ss.grown hg (by simp; omega), below_own h.bel h.bel.size hg z.1⟩
theorem RR.own1 (h : RR w g0 g1 gR gS l0 l1 s0 s1 W) (z : w.heap.size ≤ g0 ∧ g0 < g1 ∧ g1 < gR ∧ gR < gS) {W' : World} {l : List UInt8} (hl : Rll W' g1 l) (hg : W.grownBy W' (some g1)) : RR w g0 g1 gR gS l0 l s0 s1 W' :=
  ⟨h.r0.grown hg (by simp; omega), hl, h.rr.grown hg (by simp; omega), h.ss.grown hg (by simp; omega), below_own h.bel h.bel.size hg (by omega)⟩
theorem RR.set0 (h : RR w g0 g1 gR gS l0 l1 s0 s1 W) (z : w.heap.size ≤ g0 ∧ g0 < g1 ∧ g1 < gR ∧ gR < gS) (t : ByteArray) : RR w g0 g1 gR gS l0 l1 t s1 (W.setCell ⟨gS, 0, none⟩ (.string t)) := by
  have hg : W.grownBy (W.setCell ⟨gS, 0, none⟩ (.string t)) (some gS) := Lib.grownBy_setB (World.grownBy.refl _ _) 0 _
  exact ⟨h.r0.grown hg (by simp; omega), h.r1.grown hg (by simp; omega), h.rr.grown hg (by simp; omega), h.ss.set 0 _, below_own h.bel h.bel.size hg (by omega)⟩
theorem RR.set1 (h : RR w g0 g1 gR gS l0 l1 s0 s1 W) (z : w.heap.size ≤ g0 ∧ g0 < g1 ∧ g1 < gR ∧ gR < gS) (t : ByteArray) : RR w g0 g1 gR gS l0 l1 s0 t (W.setCell ⟨gS, 1, none⟩ (.string t)) := by
  have hg : W.grownBy (W.setCell ⟨gS, 1, none⟩ (.string t)) (some gS) := Lib.grownBy_setB (World.grownBy.refl _ _) 1 _
  exact ⟨h.r0.grown hg (by simp; omega), h.r1.grown hg (by simp; omega), h.rr.grown hg (by simp; omega), h.ss.set 1 _, below_own h.bel h.bel.size hg (by omega)⟩
theorem RR.c0 (h : RR w g0 g1 gR gS l0 l1 s0 s1 W) : W.cell? ⟨gR, 0, none⟩ = some (.pointer (some ⟨g0, 0, none⟩)) := by rw [h.rr.cell]; rfl
theorem RR.c1 (h : RR w g0 g1 gR gS l0 l1 s0 s1 W) : W.cell? ⟨gR, 1, none⟩ = some (.pointer (some ⟨g1, 0, none⟩)) := by rw [h.rr.cell]; rfl
theorem RR.t0 (h : RR w g0 g1 gR gS l0 l1 s0 s1 W) : W.cell? ⟨gS, 0, none⟩ = some (.string s0) := by rw [h.ss.cell]; rfl
theorem RR.t1 (h : RR w g0 g1 gR gS l0 l1 s0 s1 W) : W.cell? ⟨gS, 1, none⟩ = some (.string s1) := by rw [h.ss.cell]; rfl
theorem RR.dig0 (h : RR w g0 g1 gR gS l0 l1 s0 s1 W) : Calls Try.prog 16 #[.pointer (some ⟨g0, 0, none⟩)] W fun e w'' => e = .returned (.int .u32 (dgR l0 : Int)) ∧ RR w g0 g1 gR gS l0 l1 s0 s1 w'' :=
  (digestR_any l0 g0 W h.r0).mono (fun e w'' ⟨h1, n, h2⟩ => ⟨h1, by subst h2; exact h.drewN n⟩)
theorem RR.dig1 (h : RR w g0 g1 gR gS l0 l1 s0 s1 W) : Calls Try.prog 16 #[.pointer (some ⟨g1, 0, none⟩)] W fun e w'' => e = .returned (.int .u32 (dgR l1 : Int)) ∧ RR w g0 g1 gR gS l0 l1 s0 s1 w'' :=
  (digestR_any l1 g1 W h.r1).mono (fun e w'' ⟨h1, n, h2⟩ => ⟨h1, by subst h2; exact h.drewN n⟩)
theorem RR.rof (h : RR w g0 g1 gR gS l0 l1 s0 s1 W) (t : ByteArray) (ht : t.size ≤ maxLen) : Calls Try.prog 10 #[.string t] W fun e w'' => e = .returned (.int .u32 (dgR (tby t) : Int)) ∧ RR w g0 g1 gR gS l0 l1 s0 s1 w'' :=
  (rOf_any t W ht).mono (fun e w'' ⟨h1, h2⟩ => ⟨h1, by subst h2; exact h⟩)
end
theorem conv_one (x : UInt8) (u : World) : (convert 35 9 (.slice (some ⟨u.heap.size, 0, none⟩) 1 1)).run Try.prog (u.alloc (.cells #[.int .u8 (x.toNat : Int)] 5)).drew = .ok (.string ⟨#[x]⟩) (u.alloc (.cells #[.int .u8 (x.toNat : Int)] 5)).drew :=
  run_convert_bytes_back (P := Try.prog) (u.alloc (.cells #[.int .u8 (x.toNat : Int)] 5)).drew 35 9 5 ⟨u.heap.size, 0, none⟩ 1 [x] Try.underlying35 Try.underlying5 Try.underlying9 (fun j hj => by
    have h0 : j = 0 := by simp at hj; omega
    subst h0
    rw [WideShapes.add_plain, Nat.zero_add]
    exact (bk_new u #[.int .u8 (x.toNat : Int)] 5).cell 0)
theorem quiet_ptr {o : Oper} {a : Act} {C : World → Prop} {K : Act → Prop} (x : Operand) (ho : o.op = .load 27 x) (g f : Nat) (v : Option Addr) (hx : a.eval x = .pointer (some ⟨g, f, none⟩))
    (hc : ∀ w, C w → w.cell? ⟨g, f, none⟩ = some (.pointer v)) (hn : K (a.put o.dst (.pointer v))) : o.quiet Try.prog a C K :=
  quiet_val (.pointer v) (fun w hw => by
    have h := hc w hw
    have ha : (isAgg 27).run Try.prog w = .ok false w := by kernel_rfl
    unfold execOp
    simp [ho, hx, Instr.loadAt, Instr.sureAddr, loadVar, ha, h]) hn
set_option maxHeartbeats 20000000 in
set_option maxRecDepth 100000 in
theorem runs_walk (a0 : Option Addr) (n cap : Nat) (K Wh : Nat → Int) (X : Nat → UInt8) (T : Nat → ByteArray) (w : World) (hn : n ≤ maxLen) (hL : LieS w a0 n K Wh X T) (hT : ∀ i, i < n → (T i).size ≤ 140737488351232) :
    Calls Try.prog 4 #[.slice a0 n cap] w fun e w' => e = .returned (.bool true) ∧ Below w.heap.size w w' := by
  unfold maxLen at hn
  have HL : Hid (LieS w a0 n K Wh X T) := hL
  have HT : Hid (∀ i, i < n → (T i).size ≤ 140737488351232) := hT
  clear hL hT
  go_enter Try.func4, Try.ntmps4
  go_wp2_with fail
  refine (new_any _).mono ?_
  rintro e w1 ⟨rfl, h1, b1⟩
  have R1 : Hid (Rll w1 w.heap.size []) := h1
  have B1 : Hid (Below w.heap.size w w1) := b1
  have z1 := h1.lt
  clear h1 b1
  go_wp2_with fail
  refine (new_any _).mono ?_
  rintro e w2 ⟨rfl, h2, b2⟩
  have R2 : Hid (Rll w2 w.heap.size []) := R1.out.below b2 z1
  have Q2 : Hid (Rll w2 w1.heap.size []) := h2
  have B2 : Hid (Below w.heap.size w w2) := B1.out.trans (b2.mono B1.out.size)
  have z2 := h2.lt
  clear h2 b2 R1 B1
  go_wp2
  have S3 : Hid (RR w w.heap.size w1.heap.size w2.heap.size (w2.heap.size + 1) [] [] ⟨#[]⟩ ⟨#[]⟩ ((w2.alloc (Obj.cells #[Value.pointer (some ⟨w.heap.size, 0, none⟩), Value.pointer (some ⟨w1.heap.size, 0, none⟩)] 29)).alloc (Obj.cells #[Value.string ⟨#[]⟩, Value.string ⟨#[]⟩] 30))) := by
    refine ⟨(R2.out.alloc _).alloc _, (Q2.out.alloc _).alloc _, (bk_new _ _ _).alloc _, ?_, (B2.out.alloc B2.out.size _).alloc (by rw [al_size]; omega) _⟩
    have h := bk_new (w2.alloc (Obj.cells #[Value.pointer (some ⟨w.heap.size, 0, none⟩), Value.pointer (some ⟨w1.heap.size, 0, none⟩)] 29)) #[Value.string ⟨#[]⟩, Value.string ⟨#[]⟩] 30
    rw [al_size] at h
    exact h
  have z : w.heap.size ≤ w.heap.size ∧ w.heap.size < w1.heap.size ∧ w1.heap.size < w2.heap.size ∧ w2.heap.size < w2.heap.size + 1 := ⟨Nat.le_refl _, z1, z2, by omega⟩
  obtain ⟨g0, hg0⟩ : ∃ g, g = w.heap.size := ⟨_, rfl⟩
  obtain ⟨g1, hg1⟩ : ∃ g, g = w1.heap.size := ⟨_, rfl⟩
  obtain ⟨gR, hgR⟩ : ∃ g, g = w2.heap.size := ⟨_, rfl⟩
  obtain ⟨gS, hgS⟩ : ∃ g, g = gR + 1 := ⟨_, rfl⟩
  have S4 : Hid (RR w g0 g1 gR gS [] [] ⟨#[]⟩ ⟨#[]⟩ ((w2.alloc (Obj.cells #[Value.pointer (some ⟨g0, 0, none⟩), Value.pointer (some ⟨g1, 0, none⟩)] 29)).alloc (Obj.cells #[Value.string ⟨#[]⟩, Value.string ⟨#[]⟩] 30))) := by rw [hgS, hgR, hg1, hg0]; exact S3.out
  have z' : w.heap.size ≤ g0 ∧ g0 < g1 ∧ g1 < gR ∧ gR < gS := by omega
  rw [← hgR, ← hgS, ← hg1, ← hg0]
  generalize ((w2.alloc (Obj.cells #[Value.pointer (some ⟨g0, 0, none⟩), Value.pointer (some ⟨g1, 0, none⟩)] 29)).alloc (Obj.cells #[Value.string ⟨#[]⟩, Value.string ⟨#[]⟩] 30)) = W3 at S4 ⊢
  clear S3 z hg0 hg1 hgR hgS R2 Q2 B2 z1 z2
  have z := z'
  clear z'
  go_loopw [5] (fun v wr => ∃ (k : Nat) (l0 l1 : List UInt8) (s0 s1 : ByteArray), k ≤ n ∧ k ≤ 300 ∧ v = .int .i64 k ∧ s0.size ≤ 200 ∧ s1.size ≤ 200 ∧ Hid (Suf l0 (tby s0)) ∧ Hid (Suf l1 (tby s1)) ∧ Hid (RR w g0 g1 gR gS l0 l1 s0 s1 wr)) (fun v _ => n - (intOf v).toNat)
  case atStart => exact ⟨0, [], [], ⟨#[]⟩, ⟨#[]⟩, by omega, by omega, rfl, by decide, by decide, ⟨[], rfl, Or.inl rfl⟩, ⟨[], rfl, Or.inl rfl⟩, S4.out⟩
  case round =>
    clear S4
    obtain ⟨k, l0, l1, s0, s1, hk, hk3, rfl, hs0, hs1, HS0, HS1, HR⟩ := hrel
    by_cases hlt : k < n
    · by_cases h3 : k < 300
      · have h3z : (k : Int) < 300 := by omega
        obtain ⟨b, off, rfl, hb, d0, d1, d2, d3⟩ := HL.out k hlt
        have ht := HT.out k hlt
        obtain ⟨kk, hkk⟩ : ∃ x, K k = x := ⟨_, rfl⟩
        obtain ⟨wh, hwh⟩ : ∃ x, Wh k = x := ⟨_, rfl⟩
        obtain ⟨x, hx⟩ : ∃ x, X k = x := ⟨_, rfl⟩
        obtain ⟨t, htt⟩ : ∃ x, T k = x := ⟨_, rfl⟩
        rw [hkk] at d0
        rw [hwh] at d1
        rw [hx] at d2
        rw [htt] at d3 ht
        have c0 := (HR.out.bel.cell (p := ⟨b, off + k * 4, none⟩) hb).trans d0
        have c1 := (HR.out.bel.cell (p := ⟨b, off + k * 4 + 1, none⟩) hb).trans d1
        have c2 := (HR.out.bel.cell (p := ⟨b, off + k * 4 + 2, none⟩) hb).trans d2
        have c3 := (HR.out.bel.cell (p := ⟨b, off + k * 4 + 3, none⟩) hb).trans d3
        clear hkk hwh hx htt d0 d1
        have hxb := x.toNat_lt
        by_cases hw : wh = 0
        · have hw1 : (wh == 0) = true := by simp [hw]
          have hw2 : (wh != 0) = false := by simp [hw]
          clear hw
          by_cases hq : kk = 0
          · have hq0 : (kk == 0) = true := by simp [hq]
            clear hq
            obtain ⟨u, hu⟩ : ∃ u, s0 ++ t = u := ⟨_, rfl⟩
            have hus : u.size ≤ 140737488351432 := by rw [← hu, ByteArray.size_append]; omega
            have p1 := HR.out.c0
            go_wp2_with fail
            go_region_held3 (fun w' => w'.cell? ⟨gR, 0, none⟩ = some (.pointer (some ⟨g0, 0, none⟩)) ∧ w'.cell? ⟨b, off + k * 4 + 3, none⟩ = some (.string t)) (go_keep)
              ((go_at_call 14; refine (writeR_any l0 t g0 wr.drew HR.out.drew.r0 (by unfold maxLen; omega)).mono ?_; rintro e w5 ⟨rfl, h5, g5⟩; have q5 := HR.out.drew.own0 z h5 g5; have f1 := q5.c0; have f2 := (q5.bel.cell (p := ⟨b, off + k * 4 + 3, none⟩) hb).trans d3))
            have S5 : Hid (RR w g0 g1 gR gS (l0 ++ tby t) l1 s0 s1 w5) := q5
            have k1 := q5.t0
            have k2 := q5.ss.frozen 0
            have HU : Hid (Suf (l0 ++ tby t) (tby u)) := by show Suf _ _; rw [← hu, tby_app]; exact HS0.out.app _
            clear h5 g5 q5 p1 c0 c1 c2 c3
            go_wp2
            go_region
            have S6 : Hid (RR w g0 g1 gR gS (l0 ++ tby t) l1 u s1 (w5.setCell ⟨gS, 0, none⟩ (.string u)).drew) := (S5.out.set0 z u).drew
            generalize (w5.setCell ⟨gS, 0, none⟩ (.string u)).drew = W6 at S6 ⊢
            clear k1 k2 f1 f2 S5 hu HR
            by_cases hbig : 200 < u.size
            · have hbz : (200 : Int) < (u.size : Nat) := by omega
              obtain ⟨r, hr⟩ : ∃ r : Nat, (u.size : Int) - 200 = r := ⟨u.size - 200, by omega⟩
              obtain ⟨c, hc⟩ : ∃ c, u.extract r u.size = c := ⟨_, rfl⟩
              have hcs : c.size = 200 := by rw [← hc, ByteArray.size_extract]; omega
              have hcl : c.size ≤ 200 := by omega
              have HC : Hid (Suf (l0 ++ tby t) (tby c)) := by
                show Suf _ _
                rw [← hc, tby_back]
                exact HU.out.cut r (by rw [tby_len]; omega)
              have k1 := S6.out.t0
              have k2 := S6.out.ss.frozen 0
              have hrw : IntKind.i64.wrap (r : Int) = r := by rw [IntKind.wrap_i64]; omega
              have hrS : (r : Int) ≤ (u.size : Nat) := by omega
              have S7 : Hid (RR w g0 g1 gR gS (l0 ++ tby t) l1 c s1 (W6.setCell ⟨gS, 0, none⟩ (.string c))) := S6.out.set0 z c
              clear hcs HU S6
              go_wp2
              go_region
              go_wp2
              have HZ : Hid (RR w g0 g1 gR gS (l0 ++ tby t) l1 c s1 (W6.setCell ⟨gS, 0, none⟩ (.string c)).drew) := S7.out.drew
              generalize (W6.setCell ⟨gS, 0, none⟩ (.string c)).drew = W7 at HZ ⊢
              clear k1 k2 S7
              have e0 := HC.out.dg
              have e1 := HS1.out.dg
              have n0 : ∀ W, RR w g0 g1 gR gS (l0 ++ tby t) l1 c s1 W → Calls Try.prog 16 #[.pointer (some ⟨g0, 0, none⟩)] W fun e w'' => e = .returned (.int .u32 (dgR (l0 ++ tby t) : Int)) ∧ RR w g0 g1 gR gS (l0 ++ tby t) l1 c s1 w'' := fun W h => h.dig0
              have n1 : ∀ W, RR w g0 g1 gR gS (l0 ++ tby t) l1 c s1 W → Calls Try.prog 16 #[.pointer (some ⟨g1, 0, none⟩)] W fun e w'' => e = .returned (.int .u32 (dgR l1 : Int)) ∧ RR w g0 g1 gR gS (l0 ++ tby t) l1 c s1 w'' := fun W h => h.dig1
              have m0 : ∀ W, RR w g0 g1 gR gS (l0 ++ tby t) l1 c s1 W → Calls Try.prog 10 #[.string c] W fun e w'' => e = .returned (.int .u32 (dgR (l0 ++ tby t) : Int)) ∧ RR w g0 g1 gR gS (l0 ++ tby t) l1 c s1 w'' := fun W h => by rw [e0]; exact h.rof c (by unfold maxLen; omega)
              have m1 : ∀ W, RR w g0 g1 gR gS (l0 ++ tby t) l1 c s1 W → Calls Try.prog 10 #[.string s1] W fun e w'' => e = .returned (.int .u32 (dgR l1 : Int)) ∧ RR w g0 g1 gR gS (l0 ++ tby t) l1 c s1 w'' := fun W h => by rw [e1]; exact h.rof s1 (by unfold maxLen; omega)
              obtain ⟨D0, hD0⟩ : ∃ d, dgR (l0 ++ tby t) = d := ⟨_, rfl⟩
              obtain ⟨D1, hD1⟩ : ∃ d, dgR l1 = d := ⟨_, rfl⟩
              rw [hD0] at n0 m0
              rw [hD1] at n1 m1
              have N0 : Hid _ := n0
              have N1 : Hid _ := n1
              have M0 : Hid _ := m0
              have M1 : Hid _ := m1
              clear e0 e1 n0 n1 m0 m1 hD0 hD1
              refine wp_region_class (RR w g0 g1 gR gS (l0 ++ tby t) l1 c s1) (by kernel_rfl) (by kernel_rfl) HZ.out.drew ?_
              repeat (first
                | go_big_quiet_skip
                | (go_big_quiet_want
                   first
                     | (refine quiet_str _ rfl gS 0 c rfl (fun _ h => h.t0) ?_; go_big_quiet_on; simp only [Act.put, List.setIfInBounds_toArray, List.set_cons_zero, List.set_cons_succ])
                     | (refine quiet_str _ rfl gS 1 s1 rfl (fun _ h => h.t1) ?_; go_big_quiet_on; simp only [Act.put, List.setIfInBounds_toArray, List.set_cons_zero, List.set_cons_succ])
                     | (refine quiet_ptr _ rfl gR 0 (some ⟨g0, 0, none⟩) rfl (fun _ h => h.c0) ?_; go_big_quiet_on; simp only [Act.put, List.setIfInBounds_toArray, List.set_cons_zero, List.set_cons_succ])
                     | (refine quiet_ptr _ rfl gR 1 (some ⟨g1, 0, none⟩) rfl (fun _ h => h.c1) ?_; go_big_quiet_on; simp only [Act.put, List.setIfInBounds_toArray, List.set_cons_zero, List.set_cons_succ])
                     | (refine quiet_call (.int .u32 (D0 : Int)) 16 #[.pointer (some ⟨g0, 0, none⟩)] ?_ ?_ ?_; (focus (intro W hW; go_simp; done)); (focus (intro W hW; exact N0.out W hW)); go_big_quiet_on; simp only [Act.put, List.setIfInBounds_toArray, List.set_cons_zero, List.set_cons_succ])
                     | (refine quiet_call (.int .u32 (D1 : Int)) 16 #[.pointer (some ⟨g1, 0, none⟩)] ?_ ?_ ?_; (focus (intro W hW; go_simp; done)); (focus (intro W hW; exact N1.out W hW)); go_big_quiet_on; simp only [Act.put, List.setIfInBounds_toArray, List.set_cons_zero, List.set_cons_succ])
                     | (refine quiet_call (.int .u32 (D0 : Int)) 10 #[.string c] ?_ ?_ ?_; (focus (intro W hW; go_simp; done)); (focus (intro W hW; exact M0.out W hW)); go_big_quiet_on; simp only [Act.put, List.setIfInBounds_toArray, List.set_cons_zero, List.set_cons_succ])
                     | (refine quiet_call (.int .u32 (D1 : Int)) 10 #[.string s1] ?_ ?_ ?_; (focus (intro W hW; go_simp; done)); (focus (intro W hW; exact M1.out W hW)); go_big_quiet_on; simp only [Act.put, List.setIfInBounds_toArray, List.set_cons_zero, List.set_cons_succ])
                     | (refine quiet_val (.bool false) ?_ ?_; (focus (intro W hW; go_simp; done)); go_big_quiet_on; simp only [Act.put, List.setIfInBounds_toArray, List.set_cons_zero, List.set_cons_succ])
                     | (refine quiet_val (.pointer (some ⟨gR, 0, none⟩)) ?_ ?_; (focus (intro W hW; go_simp; done)); go_big_quiet_on; simp only [Act.put, List.setIfInBounds_toArray, List.set_cons_zero, List.set_cons_succ])
                     | (refine quiet_val (.pointer (some ⟨gR, 1, none⟩)) ?_ ?_; (focus (intro W hW; go_simp; done)); go_big_quiet_on; simp only [Act.put, List.setIfInBounds_toArray, List.set_cons_zero, List.set_cons_succ])
                     | (refine quiet_val (.pointer (some ⟨gS, 0, none⟩)) ?_ ?_; (focus (intro W hW; go_simp; done)); go_big_quiet_on; simp only [Act.put, List.setIfInBounds_toArray, List.set_cons_zero, List.set_cons_succ])
                     | (refine quiet_val (.pointer (some ⟨gS, 1, none⟩)) ?_ ?_; (focus (intro W hW; go_simp; done)); go_big_quiet_on; simp only [Act.put, List.setIfInBounds_toArray, List.set_cons_zero, List.set_cons_succ])
                     | (go_big_quiet_op; go_big_quiet_on)))
              refine wpQuiet_nil ?_
              intro w9 hw9
              have S9 : Hid (RR w g0 g1 gR gS (l0 ++ tby t) l1 c s1 w9) := hw9
              clear hw9 HZ N0 N1 M0 M1
              go_wp2
              go_roundw
              case rel => exact ⟨k + 1, (l0 ++ tby t), l1, c, s1, by omega, by omega, by go_num, by omega, by omega, HC, HS1, S9.out⟩
              case measure => simp [intOf]; omega
            · have hbz : ¬ (200 : Int) < (u.size : Nat) := by omega
              have k1 := S6.out.t0
              have HZ : Hid (RR w g0 g1 gR gS (l0 ++ tby t) l1 u s1 W6) := S6
              clear S6
              go_wp2
              have e0 := HU.out.dg
              have e1 := HS1.out.dg
              have n0 : ∀ W, RR w g0 g1 gR gS (l0 ++ tby t) l1 u s1 W → Calls Try.prog 16 #[.pointer (some ⟨g0, 0, none⟩)] W fun e w'' => e = .returned (.int .u32 (dgR (l0 ++ tby t) : Int)) ∧ RR w g0 g1 gR gS (l0 ++ tby t) l1 u s1 w'' := fun W h => h.dig0
              have n1 : ∀ W, RR w g0 g1 gR gS (l0 ++ tby t) l1 u s1 W → Calls Try.prog 16 #[.pointer (some ⟨g1, 0, none⟩)] W fun e w'' => e = .returned (.int .u32 (dgR l1 : Int)) ∧ RR w g0 g1 gR gS (l0 ++ tby t) l1 u s1 w'' := fun W h => h.dig1
              have m0 : ∀ W, RR w g0 g1 gR gS (l0 ++ tby t) l1 u s1 W → Calls Try.prog 10 #[.string u] W fun e w'' => e = .returned (.int .u32 (dgR (l0 ++ tby t) : Int)) ∧ RR w g0 g1 gR gS (l0 ++ tby t) l1 u s1 w'' := fun W h => by rw [e0]; exact h.rof u (by unfold maxLen; omega)
              have m1 : ∀ W, RR w g0 g1 gR gS (l0 ++ tby t) l1 u s1 W → Calls Try.prog 10 #[.string s1] W fun e w'' => e = .returned (.int .u32 (dgR l1 : Int)) ∧ RR w g0 g1 gR gS (l0 ++ tby t) l1 u s1 w'' := fun W h => by rw [e1]; exact h.rof s1 (by unfold maxLen; omega)
              obtain ⟨D0, hD0⟩ : ∃ d, dgR (l0 ++ tby t) = d := ⟨_, rfl⟩
              obtain ⟨D1, hD1⟩ : ∃ d, dgR l1 = d := ⟨_, rfl⟩
              rw [hD0] at n0 m0
              rw [hD1] at n1 m1
              have N0 : Hid _ := n0
              have N1 : Hid _ := n1
              have M0 : Hid _ := m0
              have M1 : Hid _ := m1
              clear e0 e1 n0 n1 m0 m1 hD0 hD1
              refine wp_region_class (RR w g0 g1 gR gS (l0 ++ tby t) l1 u s1) (by kernel_rfl) (by kernel_rfl) HZ.out.drew ?_
              repeat (first
                | go_big_quiet_skip
                | (go_big_quiet_want
                   first
                     | (refine quiet_str _ rfl gS 0 u rfl (fun _ h => h.t0) ?_; go_big_quiet_on; simp only [Act.put, List.setIfInBounds_toArray, List.set_cons_zero, List.set_cons_succ])
                     | (refine quiet_str _ rfl gS 1 s1 rfl (fun _ h => h.t1) ?_; go_big_quiet_on; simp only [Act.put, List.setIfInBounds_toArray, List.set_cons_zero, List.set_cons_succ])
                     | (refine quiet_ptr _ rfl gR 0 (some ⟨g0, 0, none⟩) rfl (fun _ h => h.c0) ?_; go_big_quiet_on; simp only [Act.put, List.setIfInBounds_toArray, List.set_cons_zero, List.set_cons_succ])
                     | (refine quiet_ptr _ rfl gR 1 (some ⟨g1, 0, none⟩) rfl (fun _ h => h.c1) ?_; go_big_quiet_on; simp only [Act.put, List.setIfInBounds_toArray, List.set_cons_zero, List.set_cons_succ])
                     | (refine quiet_call (.int .u32 (D0 : Int)) 16 #[.pointer (some ⟨g0, 0, none⟩)] ?_ ?_ ?_; (focus (intro W hW; go_simp; done)); (focus (intro W hW; exact N0.out W hW)); go_big_quiet_on; simp only [Act.put, List.setIfInBounds_toArray, List.set_cons_zero, List.set_cons_succ])
                     | (refine quiet_call (.int .u32 (D1 : Int)) 16 #[.pointer (some ⟨g1, 0, none⟩)] ?_ ?_ ?_; (focus (intro W hW; go_simp; done)); (focus (intro W hW; exact N1.out W hW)); go_big_quiet_on; simp only [Act.put, List.setIfInBounds_toArray, List.set_cons_zero, List.set_cons_succ])
                     | (refine quiet_call (.int .u32 (D0 : Int)) 10 #[.string u] ?_ ?_ ?_; (focus (intro W hW; go_simp; done)); (focus (intro W hW; exact M0.out W hW)); go_big_quiet_on; simp only [Act.put, List.setIfInBounds_toArray, List.set_cons_zero, List.set_cons_succ])
                     | (refine quiet_call (.int .u32 (D1 : Int)) 10 #[.string s1] ?_ ?_ ?_; (focus (intro W hW; go_simp; done)); (focus (intro W hW; exact M1.out W hW)); go_big_quiet_on; simp only [Act.put, List.setIfInBounds_toArray, List.set_cons_zero, List.set_cons_succ])
                     | (refine quiet_val (.bool false) ?_ ?_; (focus (intro W hW; go_simp; done)); go_big_quiet_on; simp only [Act.put, List.setIfInBounds_toArray, List.set_cons_zero, List.set_cons_succ])
                     | (refine quiet_val (.pointer (some ⟨gR, 0, none⟩)) ?_ ?_; (focus (intro W hW; go_simp; done)); go_big_quiet_on; simp only [Act.put, List.setIfInBounds_toArray, List.set_cons_zero, List.set_cons_succ])
                     | (refine quiet_val (.pointer (some ⟨gR, 1, none⟩)) ?_ ?_; (focus (intro W hW; go_simp; done)); go_big_quiet_on; simp only [Act.put, List.setIfInBounds_toArray, List.set_cons_zero, List.set_cons_succ])
                     | (refine quiet_val (.pointer (some ⟨gS, 0, none⟩)) ?_ ?_; (focus (intro W hW; go_simp; done)); go_big_quiet_on; simp only [Act.put, List.setIfInBounds_toArray, List.set_cons_zero, List.set_cons_succ])
                     | (refine quiet_val (.pointer (some ⟨gS, 1, none⟩)) ?_ ?_; (focus (intro W hW; go_simp; done)); go_big_quiet_on; simp only [Act.put, List.setIfInBounds_toArray, List.set_cons_zero, List.set_cons_succ])
                     | (go_big_quiet_op; go_big_quiet_on)))
              refine wpQuiet_nil ?_
              intro w9 hw9
              have S9 : Hid (RR w g0 g1 gR gS (l0 ++ tby t) l1 u s1 w9) := hw9
              clear hw9 HZ N0 N1 M0 M1
              go_wp2
              go_roundw
              case rel => exact ⟨k + 1, (l0 ++ tby t), l1, u, s1, by omega, by omega, by go_num, by omega, by omega, HU, HS1, S9.out⟩
              case measure => simp [intOf]; omega
          · by_cases hq' : kk = 1
            · have hq0 : (kk == 0) = false := by simp [hq]
              have hq1 : (kk == 1) = true := by simp [hq']
              clear hq hq'
              obtain ⟨xs, hxs⟩ : ∃ xs : ByteArray, (⟨#[x]⟩ : ByteArray) = xs := ⟨_, rfl⟩
              have hxl : xs.size = 1 := by rw [← hxs]; rfl
              have hxt : tby xs = [x] := by rw [← hxs]
              have hcv := conv_one x
              rw [hxs] at hcv
              obtain ⟨u, hu⟩ : ∃ u, s0 ++ xs = u := ⟨_, rfl⟩
              have hus : u.size ≤ 140737488351432 := by rw [← hu, ByteArray.size_append]; omega
              have HU : Hid (Suf (l0 ++ [x]) (tby u)) := by show Suf _ _; rw [← hu, tby_app, hxt]; exact HS0.out.app _
              have p1 := HR.out.c0
              clear hxt hxs
              go_wp2_with fail
              go_region_held3 (fun w' => w'.cell? ⟨gR, 0, none⟩ = some (.pointer (some ⟨g0, 0, none⟩)) ∧ w'.cell? ⟨b, off + k * 4 + 2, none⟩ = some (.int .u8 (x.toNat : Int))) (go_keep)
                ((go_at_call 15; refine (add_any l0 x g0 wr.drew HR.out.drew.r0).mono ?_; rintro e w5 ⟨rfl, h5, g5⟩; have q5 := HR.out.drew.own0 z h5 g5; have f1 := q5.c0; have f2 := (q5.bel.cell (p := ⟨b, off + k * 4 + 2, none⟩) hb).trans d2))
              have S5 : Hid (RR w g0 g1 gR gS (l0 ++ [x]) l1 s0 s1 w5) := q5
              have k1 := q5.t0
              have k2 := q5.ss.frozen 0
              have hgS := q5.ss.lt
              clear h5 g5 q5 p1 c0 c1 c2 c3
              go_wp2
              go_region
              have S6 : Hid (RR w g0 g1 gR gS (l0 ++ [x]) l1 u s1 ((w5.setCell ⟨gS, 0, none⟩ (.string u)).alloc (Obj.cells #[Value.int IntKind.u8 (x.toNat : Int)] 5)).drew) := ((S5.out.set0 z u).alloc _).drew
              generalize ((w5.setCell ⟨gS, 0, none⟩ (.string u)).alloc (Obj.cells #[Value.int IntKind.u8 (x.toNat : Int)] 5)).drew = W6 at S6 ⊢
              clear k1 k2 f1 f2 S5 hu HR hcv hgS
              by_cases hbig : 200 < u.size
              · have hbz : (200 : Int) < (u.size : Nat) := by omega
                obtain ⟨r, hr⟩ : ∃ r : Nat, (u.size : Int) - 200 = r := ⟨u.size - 200, by omega⟩
                obtain ⟨c, hc⟩ : ∃ c, u.extract r u.size = c := ⟨_, rfl⟩
                have hcs : c.size = 200 := by rw [← hc, ByteArray.size_extract]; omega
                have hcl : c.size ≤ 200 := by omega
                have HC : Hid (Suf (l0 ++ [x]) (tby c)) := by
                  show Suf _ _
                  rw [← hc, tby_back]
                  exact HU.out.cut r (by rw [tby_len]; omega)
                have k1 := S6.out.t0
                have k2 := S6.out.ss.frozen 0
                have hrw : IntKind.i64.wrap (r : Int) = r := by rw [IntKind.wrap_i64]; omega
                have hrS : (r : Int) ≤ (u.size : Nat) := by omega
                have S7 : Hid (RR w g0 g1 gR gS (l0 ++ [x]) l1 c s1 (W6.setCell ⟨gS, 0, none⟩ (.string c))) := S6.out.set0 z c
                clear hcs HU S6
                go_wp2
                go_region
                go_wp2
                have HZ : Hid (RR w g0 g1 gR gS (l0 ++ [x]) l1 c s1 (W6.setCell ⟨gS, 0, none⟩ (.string c)).drew) := S7.out.drew
                generalize (W6.setCell ⟨gS, 0, none⟩ (.string c)).drew = W7 at HZ ⊢
                clear k1 k2 S7
                have e0 := HC.out.dg
                have e1 := HS1.out.dg
                have n0 : ∀ W, RR w g0 g1 gR gS (l0 ++ [x]) l1 c s1 W → Calls Try.prog 16 #[.pointer (some ⟨g0, 0, none⟩)] W fun e w'' => e = .returned (.int .u32 (dgR (l0 ++ [x]) : Int)) ∧ RR w g0 g1 gR gS (l0 ++ [x]) l1 c s1 w'' := fun W h => h.dig0
                have n1 : ∀ W, RR w g0 g1 gR gS (l0 ++ [x]) l1 c s1 W → Calls Try.prog 16 #[.pointer (some ⟨g1, 0, none⟩)] W fun e w'' => e = .returned (.int .u32 (dgR l1 : Int)) ∧ RR w g0 g1 gR gS (l0 ++ [x]) l1 c s1 w'' := fun W h => h.dig1
                have m0 : ∀ W, RR w g0 g1 gR gS (l0 ++ [x]) l1 c s1 W → Calls Try.prog 10 #[.string c] W fun e w'' => e = .returned (.int .u32 (dgR (l0 ++ [x]) : Int)) ∧ RR w g0 g1 gR gS (l0 ++ [x]) l1 c s1 w'' := fun W h => by rw [e0]; exact h.rof c (by unfold maxLen; omega)
                have m1 : ∀ W, RR w g0 g1 gR gS (l0 ++ [x]) l1 c s1 W → Calls Try.prog 10 #[.string s1] W fun e w'' => e = .returned (.int .u32 (dgR l1 : Int)) ∧ RR w g0 g1 gR gS (l0 ++ [x]) l1 c s1 w'' := fun W h => by rw [e1]; exact h.rof s1 (by unfold maxLen; omega)
                obtain ⟨D0, hD0⟩ : ∃ d, dgR (l0 ++ [x]) = d := ⟨_, rfl⟩
                obtain ⟨D1, hD1⟩ : ∃ d, dgR l1 = d := ⟨_, rfl⟩
                rw [hD0] at n0 m0
                rw [hD1] at n1 m1
                have N0 : Hid _ := n0
                have N1 : Hid _ := n1
                have M0 : Hid _ := m0
                have M1 : Hid _ := m1
                clear e0 e1 n0 n1 m0 m1 hD0 hD1
                refine wp_region_class (RR w g0 g1 gR gS (l0 ++ [x]) l1 c s1) (by kernel_rfl) (by kernel_rfl) HZ.out.drew ?_
                repeat (first
                  | go_big_quiet_skip
                  | (go_big_quiet_want
                     first
                       | (refine quiet_str _ rfl gS 0 c rfl (fun _ h => h.t0) ?_; go_big_quiet_on; simp only [Act.put, List.setIfInBounds_toArray, List.set_cons_zero, List.set_cons_succ])
                       | (refine quiet_str _ rfl gS 1 s1 rfl (fun _ h => h.t1) ?_; go_big_quiet_on; simp only [Act.put, List.setIfInBounds_toArray, List.set_cons_zero, List.set_cons_succ])
                       | (refine quiet_ptr _ rfl gR 0 (some ⟨g0, 0, none⟩) rfl (fun _ h => h.c0) ?_; go_big_quiet_on; simp only [Act.put, List.setIfInBounds_toArray, List.set_cons_zero, List.set_cons_succ])
                       | (refine quiet_ptr _ rfl gR 1 (some ⟨g1, 0, none⟩) rfl (fun _ h => h.c1) ?_; go_big_quiet_on; simp only [Act.put, List.setIfInBounds_toArray, List.set_cons_zero, List.set_cons_succ])
                       | (refine quiet_call (.int .u32 (D0 : Int)) 16 #[.pointer (some ⟨g0, 0, none⟩)] ?_ ?_ ?_; (focus (intro W hW; go_simp; done)); (focus (intro W hW; exact N0.out W hW)); go_big_quiet_on; simp only [Act.put, List.setIfInBounds_toArray, List.set_cons_zero, List.set_cons_succ])
                       | (refine quiet_call (.int .u32 (D1 : Int)) 16 #[.pointer (some ⟨g1, 0, none⟩)] ?_ ?_ ?_; (focus (intro W hW; go_simp; done)); (focus (intro W hW; exact N1.out W hW)); go_big_quiet_on; simp only [Act.put, List.setIfInBounds_toArray, List.set_cons_zero, List.set_cons_succ])
                       | (refine quiet_call (.int .u32 (D0 : Int)) 10 #[.string c] ?_ ?_ ?_; (focus (intro W hW; go_simp; done)); (focus (intro W hW; exact M0.out W hW)); go_big_quiet_on; simp only [Act.put, List.setIfInBounds_toArray, List.set_cons_zero, List.set_cons_succ])
                       | (refine quiet_call (.int .u32 (D1 : Int)) 10 #[.string s1] ?_ ?_ ?_; (focus (intro W hW; go_simp; done)); (focus (intro W hW; exact M1.out W hW)); go_big_quiet_on; simp only [Act.put, List.setIfInBounds_toArray, List.set_cons_zero, List.set_cons_succ])
                       | (refine quiet_val (.bool false) ?_ ?_; (focus (intro W hW; go_simp; done)); go_big_quiet_on; simp only [Act.put, List.setIfInBounds_toArray, List.set_cons_zero, List.set_cons_succ])
                       | (refine quiet_val (.pointer (some ⟨gR, 0, none⟩)) ?_ ?_; (focus (intro W hW; go_simp; done)); go_big_quiet_on; simp only [Act.put, List.setIfInBounds_toArray, List.set_cons_zero, List.set_cons_succ])
                       | (refine quiet_val (.pointer (some ⟨gR, 1, none⟩)) ?_ ?_; (focus (intro W hW; go_simp; done)); go_big_quiet_on; simp only [Act.put, List.setIfInBounds_toArray, List.set_cons_zero, List.set_cons_succ])
                       | (refine quiet_val (.pointer (some ⟨gS, 0, none⟩)) ?_ ?_; (focus (intro W hW; go_simp; done)); go_big_quiet_on; simp only [Act.put, List.setIfInBounds_toArray, List.set_cons_zero, List.set_cons_succ])
                       | (refine quiet_val (.pointer (some ⟨gS, 1, none⟩)) ?_ ?_; (focus (intro W hW; go_simp; done)); go_big_quiet_on; simp only [Act.put, List.setIfInBounds_toArray, List.set_cons_zero, List.set_cons_succ])
                       | (go_big_quiet_op; go_big_quiet_on)))
                refine wpQuiet_nil ?_
                intro w9 hw9
                have S9 : Hid (RR w g0 g1 gR gS (l0 ++ [x]) l1 c s1 w9) := hw9
                clear hw9 HZ N0 N1 M0 M1
                go_wp2
                go_roundw
                case rel => exact ⟨k + 1, (l0 ++ [x]), l1, c, s1, by omega, by omega, by go_num, by omega, by omega, HC, HS1, S9.out⟩
                case measure => simp [intOf]; omega
              · have hbz : ¬ (200 : Int) < (u.size : Nat) := by omega
                have k1 := S6.out.t0
                have HZ : Hid (RR w g0 g1 gR gS (l0 ++ [x]) l1 u s1 W6) := S6
                clear S6
                go_wp2
                have e0 := HU.out.dg
                have e1 := HS1.out.dg
                have n0 : ∀ W, RR w g0 g1 gR gS (l0 ++ [x]) l1 u s1 W → Calls Try.prog 16 #[.pointer (some ⟨g0, 0, none⟩)] W fun e w'' => e = .returned (.int .u32 (dgR (l0 ++ [x]) : Int)) ∧ RR w g0 g1 gR gS (l0 ++ [x]) l1 u s1 w'' := fun W h => h.dig0
                have n1 : ∀ W, RR w g0 g1 gR gS (l0 ++ [x]) l1 u s1 W → Calls Try.prog 16 #[.pointer (some ⟨g1, 0, none⟩)] W fun e w'' => e = .returned (.int .u32 (dgR l1 : Int)) ∧ RR w g0 g1 gR gS (l0 ++ [x]) l1 u s1 w'' := fun W h => h.dig1
                have m0 : ∀ W, RR w g0 g1 gR gS (l0 ++ [x]) l1 u s1 W → Calls Try.prog 10 #[.string u] W fun e w'' => e = .returned (.int .u32 (dgR (l0 ++ [x]) : Int)) ∧ RR w g0 g1 gR gS (l0 ++ [x]) l1 u s1 w'' := fun W h => by rw [e0]; exact h.rof u (by unfold maxLen; omega)
                have m1 : ∀ W, RR w g0 g1 gR gS (l0 ++ [x]) l1 u s1 W → Calls Try.prog 10 #[.string s1] W fun e w'' => e = .returned (.int .u32 (dgR l1 : Int)) ∧ RR w g0 g1 gR gS (l0 ++ [x]) l1 u s1 w'' := fun W h => by rw [e1]; exact h.rof s1 (by unfold maxLen; omega)
                obtain ⟨D0, hD0⟩ : ∃ d, dgR (l0 ++ [x]) = d := ⟨_, rfl⟩
                obtain ⟨D1, hD1⟩ : ∃ d, dgR l1 = d := ⟨_, rfl⟩
                rw [hD0] at n0 m0
                rw [hD1] at n1 m1
                have N0 : Hid _ := n0
                have N1 : Hid _ := n1
                have M0 : Hid _ := m0
                have M1 : Hid _ := m1
                clear e0 e1 n0 n1 m0 m1 hD0 hD1
                refine wp_region_class (RR w g0 g1 gR gS (l0 ++ [x]) l1 u s1) (by kernel_rfl) (by kernel_rfl) HZ.out.drew ?_
                repeat (first
                  | go_big_quiet_skip
                  | (go_big_quiet_want
                     first
                       | (refine quiet_str _ rfl gS 0 u rfl (fun _ h => h.t0) ?_; go_big_quiet_on; simp only [Act.put, List.setIfInBounds_toArray, List.set_cons_zero, List.set_cons_succ])
                       | (refine quiet_str _ rfl gS 1 s1 rfl (fun _ h => h.t1) ?_; go_big_quiet_on; simp only [Act.put, List.setIfInBounds_toArray, List.set_cons_zero, List.set_cons_succ])
                       | (refine quiet_ptr _ rfl gR 0 (some ⟨g0, 0, none⟩) rfl (fun _ h => h.c0) ?_; go_big_quiet_on; simp only [Act.put, List.setIfInBounds_toArray, List.set_cons_zero, List.set_cons_succ])
                       | (refine quiet_ptr _ rfl gR 1 (some ⟨g1, 0, none⟩) rfl (fun _ h => h.c1) ?_; go_big_quiet_on; simp only [Act.put, List.setIfInBounds_toArray, List.set_cons_zero, List.set_cons_succ])
                       | (refine quiet_call (.int .u32 (D0 : Int)) 16 #[.pointer (some ⟨g0, 0, none⟩)] ?_ ?_ ?_; (focus (intro W hW; go_simp; done)); (focus (intro W hW; exact N0.out W hW)); go_big_quiet_on; simp only [Act.put, List.setIfInBounds_toArray, List.set_cons_zero, List.set_cons_succ])
                       | (refine quiet_call (.int .u32 (D1 : Int)) 16 #[.pointer (some ⟨g1, 0, none⟩)] ?_ ?_ ?_; (focus (intro W hW; go_simp; done)); (focus (intro W hW; exact N1.out W hW)); go_big_quiet_on; simp only [Act.put, List.setIfInBounds_toArray, List.set_cons_zero, List.set_cons_succ])
                       | (refine quiet_call (.int .u32 (D0 : Int)) 10 #[.string u] ?_ ?_ ?_; (focus (intro W hW; go_simp; done)); (focus (intro W hW; exact M0.out W hW)); go_big_quiet_on; simp only [Act.put, List.setIfInBounds_toArray, List.set_cons_zero, List.set_cons_succ])
                       | (refine quiet_call (.int .u32 (D1 : Int)) 10 #[.string s1] ?_ ?_ ?_; (focus (intro W hW; go_simp; done)); (focus (intro W hW; exact M1.out W hW)); go_big_quiet_on; simp only [Act.put, List.setIfInBounds_toArray, List.set_cons_zero, List.set_cons_succ])
                       | (refine quiet_val (.bool false) ?_ ?_; (focus (intro W hW; go_simp; done)); go_big_quiet_on; simp only [Act.put, List.setIfInBounds_toArray, List.set_cons_zero, List.set_cons_succ])
                       | (refine quiet_val (.pointer (some ⟨gR, 0, none⟩)) ?_ ?_; (focus (intro W hW; go_simp; done)); go_big_quiet_on; simp only [Act.put, List.setIfInBounds_toArray, List.set_cons_zero, List.set_cons_succ])
                       | (refine quiet_val (.pointer (some ⟨gR, 1, none⟩)) ?_ ?_; (focus (intro W hW; go_simp; done)); go_big_quiet_on; simp only [Act.put, List.setIfInBounds_toArray, List.set_cons_zero, List.set_cons_succ])
                       | (refine quiet_val (.pointer (some ⟨gS, 0, none⟩)) ?_ ?_; (focus (intro W hW; go_simp; done)); go_big_quiet_on; simp only [Act.put, List.setIfInBounds_toArray, List.set_cons_zero, List.set_cons_succ])
                       | (refine quiet_val (.pointer (some ⟨gS, 1, none⟩)) ?_ ?_; (focus (intro W hW; go_simp; done)); go_big_quiet_on; simp only [Act.put, List.setIfInBounds_toArray, List.set_cons_zero, List.set_cons_succ])
                       | (go_big_quiet_op; go_big_quiet_on)))
                refine wpQuiet_nil ?_
                intro w9 hw9
                have S9 : Hid (RR w g0 g1 gR gS (l0 ++ [x]) l1 u s1 w9) := hw9
                clear hw9 HZ N0 N1 M0 M1
                go_wp2
                go_roundw
                case rel => exact ⟨k + 1, (l0 ++ [x]), l1, u, s1, by omega, by omega, by go_num, by omega, by omega, HU, HS1, S9.out⟩
                case measure => simp [intOf]; omega
            · have hq0 : (kk == 0) = false := by simp [hq]
              have hq1 : (kk == 1) = false := by simp [hq']
              clear hq hq'
              have hbz : ¬ (200 : Int) < (s0.size : Nat) := by omega
              have k1 := HR.out.t0
              have HZ : Hid (RR w g0 g1 gR gS l0 l1 s0 s1 wr) := HR
              clear HR
              go_wp2

              have e0 := HS0.out.dg
              have e1 := HS1.out.dg
              have n0 : ∀ W, RR w g0 g1 gR gS l0 l1 s0 s1 W → Calls Try.prog 16 #[.pointer (some ⟨g0, 0, none⟩)] W fun e w'' => e = .returned (.int .u32 (dgR l0 : Int)) ∧ RR w g0 g1 gR gS l0 l1 s0 s1 w'' := fun W h => h.dig0
              have n1 : ∀ W, RR w g0 g1 gR gS l0 l1 s0 s1 W → Calls Try.prog 16 #[.pointer (some ⟨g1, 0, none⟩)] W fun e w'' => e = .returned (.int .u32 (dgR l1 : Int)) ∧ RR w g0 g1 gR gS l0 l1 s0 s1 w'' := fun W h => h.dig1
              have m0 : ∀ W, RR w g0 g1 gR gS l0 l1 s0 s1 W → Calls Try.prog 10 #[.string s0] W fun e w'' => e = .returned (.int .u32 (dgR l0 : Int)) ∧ RR w g0 g1 gR gS l0 l1 s0 s1 w'' := fun W h => by rw [e0]; exact h.rof s0 (by unfold maxLen; omega)
              have m1 : ∀ W, RR w g0 g1 gR gS l0 l1 s0 s1 W → Calls Try.prog 10 #[.string s1] W fun e w'' => e = .returned (.int .u32 (dgR l1 : Int)) ∧ RR w g0 g1 gR gS l0 l1 s0 s1 w'' := fun W h => by rw [e1]; exact h.rof s1 (by unfold maxLen; omega)
              obtain ⟨D0, hD0⟩ : ∃ d, dgR l0 = d := ⟨_, rfl⟩
              obtain ⟨D1, hD1⟩ : ∃ d, dgR l1 = d := ⟨_, rfl⟩
              rw [hD0] at n0 m0
              rw [hD1] at n1 m1
              have N0 : Hid _ := n0
              have N1 : Hid _ := n1
              have M0 : Hid _ := m0
              have M1 : Hid _ := m1
              clear e0 e1 n0 n1 m0 m1 hD0 hD1
              refine wp_region_class (RR w g0 g1 gR gS l0 l1 s0 s1) (by kernel_rfl) (by kernel_rfl) HZ.out.drew ?_
              repeat (first
                | go_big_quiet_skip
                | (go_big_quiet_want
                   first
                     | (refine quiet_str _ rfl gS 0 s0 rfl (fun _ h => h.t0) ?_; go_big_quiet_on; simp only [Act.put, List.setIfInBounds_toArray, List.set_cons_zero, List.set_cons_succ])
                     | (refine quiet_str _ rfl gS 1 s1 rfl (fun _ h => h.t1) ?_; go_big_quiet_on; simp only [Act.put, List.setIfInBounds_toArray, List.set_cons_zero, List.set_cons_succ])
                     | (refine quiet_ptr _ rfl gR 0 (some ⟨g0, 0, none⟩) rfl (fun _ h => h.c0) ?_; go_big_quiet_on; simp only [Act.put, List.setIfInBounds_toArray, List.set_cons_zero, List.set_cons_succ])
                     | (refine quiet_ptr _ rfl gR 1 (some ⟨g1, 0, none⟩) rfl (fun _ h => h.c1) ?_; go_big_quiet_on; simp only [Act.put, List.setIfInBounds_toArray, List.set_cons_zero, List.set_cons_succ])
                     | (refine quiet_call (.int .u32 (D0 : Int)) 16 #[.pointer (some ⟨g0, 0, none⟩)] ?_ ?_ ?_; (focus (intro W hW; go_simp; done)); (focus (intro W hW; exact N0.out W hW)); go_big_quiet_on; simp only [Act.put, List.setIfInBounds_toArray, List.set_cons_zero, List.set_cons_succ])
                     | (refine quiet_call (.int .u32 (D1 : Int)) 16 #[.pointer (some ⟨g1, 0, none⟩)] ?_ ?_ ?_; (focus (intro W hW; go_simp; done)); (focus (intro W hW; exact N1.out W hW)); go_big_quiet_on; simp only [Act.put, List.setIfInBounds_toArray, List.set_cons_zero, List.set_cons_succ])
                     | (refine quiet_call (.int .u32 (D0 : Int)) 10 #[.string s0] ?_ ?_ ?_; (focus (intro W hW; go_simp; done)); (focus (intro W hW; exact M0.out W hW)); go_big_quiet_on; simp only [Act.put, List.setIfInBounds_toArray, List.set_cons_zero, List.set_cons_succ])
                     | (refine quiet_call (.int .u32 (D1 : Int)) 10 #[.string s1] ?_ ?_ ?_; (focus (intro W hW; go_simp; done)); (focus (intro W hW; exact M1.out W hW)); go_big_quiet_on; simp only [Act.put, List.setIfInBounds_toArray, List.set_cons_zero, List.set_cons_succ])
                     | (refine quiet_val (.bool false) ?_ ?_; (focus (intro W hW; go_simp; done)); go_big_quiet_on; simp only [Act.put, List.setIfInBounds_toArray, List.set_cons_zero, List.set_cons_succ])
                     | (refine quiet_val (.pointer (some ⟨gR, 0, none⟩)) ?_ ?_; (focus (intro W hW; go_simp; done)); go_big_quiet_on; simp only [Act.put, List.setIfInBounds_toArray, List.set_cons_zero, List.set_cons_succ])
                     | (refine quiet_val (.pointer (some ⟨gR, 1, none⟩)) ?_ ?_; (focus (intro W hW; go_simp; done)); go_big_quiet_on; simp only [Act.put, List.setIfInBounds_toArray, List.set_cons_zero, List.set_cons_succ])
                     | (refine quiet_val (.pointer (some ⟨gS, 0, none⟩)) ?_ ?_; (focus (intro W hW; go_simp; done)); go_big_quiet_on; simp only [Act.put, List.setIfInBounds_toArray, List.set_cons_zero, List.set_cons_succ])
                     | (refine quiet_val (.pointer (some ⟨gS, 1, none⟩)) ?_ ?_; (focus (intro W hW; go_simp; done)); go_big_quiet_on; simp only [Act.put, List.setIfInBounds_toArray, List.set_cons_zero, List.set_cons_succ])
                     | (go_big_quiet_op; go_big_quiet_on)))
              refine wpQuiet_nil ?_
              intro w9 hw9
              have S9 : Hid (RR w g0 g1 gR gS l0 l1 s0 s1 w9) := hw9
              clear hw9 HZ N0 N1 M0 M1
              go_wp2
              go_roundw
              case rel => exact ⟨k + 1, l0, l1, s0, s1, by omega, by omega, by go_num, by omega, by omega, HS0, HS1, S9.out⟩
              case measure => simp [intOf]; omega
        · have hw1 : (wh == 0) = false := by simp [hw]
          have hw2 : (wh != 0) = true := by simp [hw]
          clear hw
          by_cases hq : kk = 0
          · have hq0 : (kk == 0) = true := by simp [hq]
            clear hq
            obtain ⟨u, hu⟩ : ∃ u, s1 ++ t = u := ⟨_, rfl⟩
            have hus : u.size ≤ 140737488351432 := by rw [← hu, ByteArray.size_append]; omega
            have p1 := HR.out.c1
            go_wp2_with fail
            go_region_held3 (fun w' => w'.cell? ⟨gR, 1, none⟩ = some (.pointer (some ⟨g1, 0, none⟩)) ∧ w'.cell? ⟨b, off + k * 4 + 3, none⟩ = some (.string t)) (go_keep)
              ((go_at_call 14; refine (writeR_any l1 t g1 wr.drew HR.out.drew.r1 (by unfold maxLen; omega)).mono ?_; rintro e w5 ⟨rfl, h5, g5⟩; have q5 := HR.out.drew.own1 z h5 g5; have f1 := q5.c1; have f2 := (q5.bel.cell (p := ⟨b, off + k * 4 + 3, none⟩) hb).trans d3))
            have S5 : Hid (RR w g0 g1 gR gS l0 (l1 ++ tby t) s0 s1 w5) := q5
            have k1 := q5.t1
            have k2 := q5.ss.frozen 1
            have HU : Hid (Suf (l1 ++ tby t) (tby u)) := by show Suf _ _; rw [← hu, tby_app]; exact HS1.out.app _
            clear h5 g5 q5 p1 c0 c1 c2 c3
            go_wp2
            go_region
            have S6 : Hid (RR w g0 g1 gR gS l0 (l1 ++ tby t) s0 u (w5.setCell ⟨gS, 1, none⟩ (.string u)).drew) := (S5.out.set1 z u).drew
            generalize (w5.setCell ⟨gS, 1, none⟩ (.string u)).drew = W6 at S6 ⊢
            clear k1 k2 f1 f2 S5 hu HR
            by_cases hbig : 200 < u.size
            · have hbz : (200 : Int) < (u.size : Nat) := by omega
              obtain ⟨r, hr⟩ : ∃ r : Nat, (u.size : Int) - 200 = r := ⟨u.size - 200, by omega⟩
              obtain ⟨c, hc⟩ : ∃ c, u.extract r u.size = c := ⟨_, rfl⟩
              have hcs : c.size = 200 := by rw [← hc, ByteArray.size_extract]; omega
              have hcl : c.size ≤ 200 := by omega
              have HC : Hid (Suf (l1 ++ tby t) (tby c)) := by
                show Suf _ _
                rw [← hc, tby_back]
                exact HU.out.cut r (by rw [tby_len]; omega)
              have k1 := S6.out.t1
              have k2 := S6.out.ss.frozen 1
              have hrw : IntKind.i64.wrap (r : Int) = r := by rw [IntKind.wrap_i64]; omega
              have hrS : (r : Int) ≤ (u.size : Nat) := by omega
              have S7 : Hid (RR w g0 g1 gR gS l0 (l1 ++ tby t) s0 c (W6.setCell ⟨gS, 1, none⟩ (.string c))) := S6.out.set1 z c
              clear hcs HU S6
              go_wp2
              go_region
              go_wp2
              have HZ : Hid (RR w g0 g1 gR gS l0 (l1 ++ tby t) s0 c (W6.setCell ⟨gS, 1, none⟩ (.string c)).drew) := S7.out.drew
              generalize (W6.setCell ⟨gS, 1, none⟩ (.string c)).drew = W7 at HZ ⊢
              clear k1 k2 S7
              have e0 := HS0.out.dg
              have e1 := HC.out.dg
              have n0 : ∀ W, RR w g0 g1 gR gS l0 (l1 ++ tby t) s0 c W → Calls Try.prog 16 #[.pointer (some ⟨g0, 0, none⟩)] W fun e w'' => e = .returned (.int .u32 (dgR l0 : Int)) ∧ RR w g0 g1 gR gS l0 (l1 ++ tby t) s0 c w'' := fun W h => h.dig0
              have n1 : ∀ W, RR w g0 g1 gR gS l0 (l1 ++ tby t) s0 c W → Calls Try.prog 16 #[.pointer (some ⟨g1, 0, none⟩)] W fun e w'' => e = .returned (.int .u32 (dgR (l1 ++ tby t) : Int)) ∧ RR w g0 g1 gR gS l0 (l1 ++ tby t) s0 c w'' := fun W h => h.dig1
              have m0 : ∀ W, RR w g0 g1 gR gS l0 (l1 ++ tby t) s0 c W → Calls Try.prog 10 #[.string s0] W fun e w'' => e = .returned (.int .u32 (dgR l0 : Int)) ∧ RR w g0 g1 gR gS l0 (l1 ++ tby t) s0 c w'' := fun W h => by rw [e0]; exact h.rof s0 (by unfold maxLen; omega)
              have m1 : ∀ W, RR w g0 g1 gR gS l0 (l1 ++ tby t) s0 c W → Calls Try.prog 10 #[.string c] W fun e w'' => e = .returned (.int .u32 (dgR (l1 ++ tby t) : Int)) ∧ RR w g0 g1 gR gS l0 (l1 ++ tby t) s0 c w'' := fun W h => by rw [e1]; exact h.rof c (by unfold maxLen; omega)
              obtain ⟨D0, hD0⟩ : ∃ d, dgR l0 = d := ⟨_, rfl⟩
              obtain ⟨D1, hD1⟩ : ∃ d, dgR (l1 ++ tby t) = d := ⟨_, rfl⟩
              rw [hD0] at n0 m0
              rw [hD1] at n1 m1
              have N0 : Hid _ := n0
              have N1 : Hid _ := n1
              have M0 : Hid _ := m0
              have M1 : Hid _ := m1
              clear e0 e1 n0 n1 m0 m1 hD0 hD1
              refine wp_region_class (RR w g0 g1 gR gS l0 (l1 ++ tby t) s0 c) (by kernel_rfl) (by kernel_rfl) HZ.out.drew ?_
              repeat (first
                | go_big_quiet_skip
                | (go_big_quiet_want
                   first
                     | (refine quiet_str _ rfl gS 0 s0 rfl (fun _ h => h.t0) ?_; go_big_quiet_on; simp only [Act.put, List.setIfInBounds_toArray, List.set_cons_zero, List.set_cons_succ])
                     | (refine quiet_str _ rfl gS 1 c rfl (fun _ h => h.t1) ?_; go_big_quiet_on; simp only [Act.put, List.setIfInBounds_toArray, List.set_cons_zero, List.set_cons_succ])
                     | (refine quiet_ptr _ rfl gR 0 (some ⟨g0, 0, none⟩) rfl (fun _ h => h.c0) ?_; go_big_quiet_on; simp only [Act.put, List.setIfInBounds_toArray, List.set_cons_zero, List.set_cons_succ])
                     | (refine quiet_ptr _ rfl gR 1 (some ⟨g1, 0, none⟩) rfl (fun _ h => h.c1) ?_; go_big_quiet_on; simp only [Act.put, List.setIfInBounds_toArray, List.set_cons_zero, List.set_cons_succ])
                     | (refine quiet_call (.int .u32 (D0 : Int)) 16 #[.pointer (some ⟨g0, 0, none⟩)] ?_ ?_ ?_; (focus (intro W hW; go_simp; done)); (focus (intro W hW; exact N0.out W hW)); go_big_quiet_on; simp only [Act.put, List.setIfInBounds_toArray, List.set_cons_zero, List.set_cons_succ])
                     | (refine quiet_call (.int .u32 (D1 : Int)) 16 #[.pointer (some ⟨g1, 0, none⟩)] ?_ ?_ ?_; (focus (intro W hW; go_simp; done)); (focus (intro W hW; exact N1.out W hW)); go_big_quiet_on; simp only [Act.put, List.setIfInBounds_toArray, List.set_cons_zero, List.set_cons_succ])
                     | (refine quiet_call (.int .u32 (D0 : Int)) 10 #[.string s0] ?_ ?_ ?_; (focus (intro W hW; go_simp; done)); (focus (intro W hW; exact M0.out W hW)); go_big_quiet_on; simp only [Act.put, List.setIfInBounds_toArray, List.set_cons_zero, List.set_cons_succ])
                     | (refine quiet_call (.int .u32 (D1 : Int)) 10 #[.string c] ?_ ?_ ?_; (focus (intro W hW; go_simp; done)); (focus (intro W hW; exact M1.out W hW)); go_big_quiet_on; simp only [Act.put, List.setIfInBounds_toArray, List.set_cons_zero, List.set_cons_succ])
                     | (refine quiet_val (.bool false) ?_ ?_; (focus (intro W hW; go_simp; done)); go_big_quiet_on; simp only [Act.put, List.setIfInBounds_toArray, List.set_cons_zero, List.set_cons_succ])
                     | (refine quiet_val (.pointer (some ⟨gR, 0, none⟩)) ?_ ?_; (focus (intro W hW; go_simp; done)); go_big_quiet_on; simp only [Act.put, List.setIfInBounds_toArray, List.set_cons_zero, List.set_cons_succ])
                     | (refine quiet_val (.pointer (some ⟨gR, 1, none⟩)) ?_ ?_; (focus (intro W hW; go_simp; done)); go_big_quiet_on; simp only [Act.put, List.setIfInBounds_toArray, List.set_cons_zero, List.set_cons_succ])
                     | (refine quiet_val (.pointer (some ⟨gS, 0, none⟩)) ?_ ?_; (focus (intro W hW; go_simp; done)); go_big_quiet_on; simp only [Act.put, List.setIfInBounds_toArray, List.set_cons_zero, List.set_cons_succ])
                     | (refine quiet_val (.pointer (some ⟨gS, 1, none⟩)) ?_ ?_; (focus (intro W hW; go_simp; done)); go_big_quiet_on; simp only [Act.put, List.setIfInBounds_toArray, List.set_cons_zero, List.set_cons_succ])
                     | (go_big_quiet_op; go_big_quiet_on)))
              refine wpQuiet_nil ?_
              intro w9 hw9
              have S9 : Hid (RR w g0 g1 gR gS l0 (l1 ++ tby t) s0 c w9) := hw9
              clear hw9 HZ N0 N1 M0 M1
              go_wp2
              go_roundw
              case rel => exact ⟨k + 1, l0, (l1 ++ tby t), s0, c, by omega, by omega, by go_num, by omega, by omega, HS0, HC, S9.out⟩
              case measure => simp [intOf]; omega
            · have hbz : ¬ (200 : Int) < (u.size : Nat) := by omega
              have k1 := S6.out.t1
              have HZ : Hid (RR w g0 g1 gR gS l0 (l1 ++ tby t) s0 u W6) := S6
              clear S6
              go_wp2
              have e0 := HS0.out.dg
              have e1 := HU.out.dg
              have n0 : ∀ W, RR w g0 g1 gR gS l0 (l1 ++ tby t) s0 u W → Calls Try.prog 16 #[.pointer (some ⟨g0, 0, none⟩)] W fun e w'' => e = .returned (.int .u32 (dgR l0 : Int)) ∧ RR w g0 g1 gR gS l0 (l1 ++ tby t) s0 u w'' := fun W h => h.dig0
              have n1 : ∀ W, RR w g0 g1 gR gS l0 (l1 ++ tby t) s0 u W → Calls Try.prog 16 #[.pointer (some ⟨g1, 0, none⟩)] W fun e w'' => e = .returned (.int .u32 (dgR (l1 ++ tby t) : Int)) ∧ RR w g0 g1 gR gS l0 (l1 ++ tby t) s0 u w'' := fun W h => h.dig1
              have m0 : ∀ W, RR w g0 g1 gR gS l0 (l1 ++ tby t) s0 u W → Calls Try.prog 10 #[.string s0] W fun e w'' => e = .returned (.int .u32 (dgR l0 : Int)) ∧ RR w g0 g1 gR gS l0 (l1 ++ tby t) s0 u w'' := fun W h => by rw [e0]; exact h.rof s0 (by unfold maxLen; omega)
              have m1 : ∀ W, RR w g0 g1 gR gS l0 (l1 ++ tby t) s0 u W → Calls Try.prog 10 #[.string u] W fun e w'' => e = .returned (.int .u32 (dgR (l1 ++ tby t) : Int)) ∧ RR w g0 g1 gR gS l0 (l1 ++ tby t) s0 u w'' := fun W h => by rw [e1]; exact h.rof u (by unfold maxLen; omega)
              obtain ⟨D0, hD0⟩ : ∃ d, dgR l0 = d := ⟨_, rfl⟩
              obtain ⟨D1, hD1⟩ : ∃ d, dgR (l1 ++ tby t) = d := ⟨_, rfl⟩
              rw [hD0] at n0 m0
              rw [hD1] at n1 m1
              have N0 : Hid _ := n0
              have N1 : Hid _ := n1
              have M0 : Hid _ := m0
              have M1 : Hid _ := m1
              clear e0 e1 n0 n1 m0 m1 hD0 hD1
              refine wp_region_class (RR w g0 g1 gR gS l0 (l1 ++ tby t) s0 u) (by kernel_rfl) (by kernel_rfl) HZ.out.drew ?_
              repeat (first
                | go_big_quiet_skip
                | (go_big_quiet_want
                   first
                     | (refine quiet_str _ rfl gS 0 s0 rfl (fun _ h => h.t0) ?_; go_big_quiet_on; simp only [Act.put, List.setIfInBounds_toArray, List.set_cons_zero, List.set_cons_succ])
                     | (refine quiet_str _ rfl gS 1 u rfl (fun _ h => h.t1) ?_; go_big_quiet_on; simp only [Act.put, List.setIfInBounds_toArray, List.set_cons_zero, List.set_cons_succ])
                     | (refine quiet_ptr _ rfl gR 0 (some ⟨g0, 0, none⟩) rfl (fun _ h => h.c0) ?_; go_big_quiet_on; simp only [Act.put, List.setIfInBounds_toArray, List.set_cons_zero, List.set_cons_succ])
                     | (refine quiet_ptr _ rfl gR 1 (some ⟨g1, 0, none⟩) rfl (fun _ h => h.c1) ?_; go_big_quiet_on; simp only [Act.put, List.setIfInBounds_toArray, List.set_cons_zero, List.set_cons_succ])
                     | (refine quiet_call (.int .u32 (D0 : Int)) 16 #[.pointer (some ⟨g0, 0, none⟩)] ?_ ?_ ?_; (focus (intro W hW; go_simp; done)); (focus (intro W hW; exact N0.out W hW)); go_big_quiet_on; simp only [Act.put, List.setIfInBounds_toArray, List.set_cons_zero, List.set_cons_succ])
                     | (refine quiet_call (.int .u32 (D1 : Int)) 16 #[.pointer (some ⟨g1, 0, none⟩)] ?_ ?_ ?_; (focus (intro W hW; go_simp; done)); (focus (intro W hW; exact N1.out W hW)); go_big_quiet_on; simp only [Act.put, List.setIfInBounds_toArray, List.set_cons_zero, List.set_cons_succ])
                     | (refine quiet_call (.int .u32 (D0 : Int)) 10 #[.string s0] ?_ ?_ ?_; (focus (intro W hW; go_simp; done)); (focus (intro W hW; exact M0.out W hW)); go_big_quiet_on; simp only [Act.put, List.setIfInBounds_toArray, List.set_cons_zero, List.set_cons_succ])
                     | (refine quiet_call (.int .u32 (D1 : Int)) 10 #[.string u] ?_ ?_ ?_; (focus (intro W hW; go_simp; done)); (focus (intro W hW; exact M1.out W hW)); go_big_quiet_on; simp only [Act.put, List.setIfInBounds_toArray, List.set_cons_zero, List.set_cons_succ])
                     | (refine quiet_val (.bool false) ?_ ?_; (focus (intro W hW; go_simp; done)); go_big_quiet_on; simp only [Act.put, List.setIfInBounds_toArray, List.set_cons_zero, List.set_cons_succ])
                     | (refine quiet_val (.pointer (some ⟨gR, 0, none⟩)) ?_ ?_; (focus (intro W hW; go_simp; done)); go_big_quiet_on; simp only [Act.put, List.setIfInBounds_toArray, List.set_cons_zero, List.set_cons_succ])
                     | (refine quiet_val (.pointer (some ⟨gR, 1, none⟩)) ?_ ?_; (focus (intro W hW; go_simp; done)); go_big_quiet_on; simp only [Act.put, List.setIfInBounds_toArray, List.set_cons_zero, List.set_cons_succ])
                     | (refine quiet_val (.pointer (some ⟨gS, 0, none⟩)) ?_ ?_; (focus (intro W hW; go_simp; done)); go_big_quiet_on; simp only [Act.put, List.setIfInBounds_toArray, List.set_cons_zero, List.set_cons_succ])
                     | (refine quiet_val (.pointer (some ⟨gS, 1, none⟩)) ?_ ?_; (focus (intro W hW; go_simp; done)); go_big_quiet_on; simp only [Act.put, List.setIfInBounds_toArray, List.set_cons_zero, List.set_cons_succ])
                     | (go_big_quiet_op; go_big_quiet_on)))
              refine wpQuiet_nil ?_
              intro w9 hw9
              have S9 : Hid (RR w g0 g1 gR gS l0 (l1 ++ tby t) s0 u w9) := hw9
              clear hw9 HZ N0 N1 M0 M1
              go_wp2
              go_roundw
              case rel => exact ⟨k + 1, l0, (l1 ++ tby t), s0, u, by omega, by omega, by go_num, by omega, by omega, HS0, HU, S9.out⟩
              case measure => simp [intOf]; omega
          · by_cases hq' : kk = 1
            · have hq0 : (kk == 0) = false := by simp [hq]
              have hq1 : (kk == 1) = true := by simp [hq']
              clear hq hq'
              obtain ⟨xs, hxs⟩ : ∃ xs : ByteArray, (⟨#[x]⟩ : ByteArray) = xs := ⟨_, rfl⟩
              have hxl : xs.size = 1 := by rw [← hxs]; rfl
              have hxt : tby xs = [x] := by rw [← hxs]
              have hcv := conv_one x
              rw [hxs] at hcv
              obtain ⟨u, hu⟩ : ∃ u, s1 ++ xs = u := ⟨_, rfl⟩
              have hus : u.size ≤ 140737488351432 := by rw [← hu, ByteArray.size_append]; omega
              have HU : Hid (Suf (l1 ++ [x]) (tby u)) := by show Suf _ _; rw [← hu, tby_app, hxt]; exact HS1.out.app _
              have p1 := HR.out.c1
              clear hxt hxs
              go_wp2_with fail
              go_region_held3 (fun w' => w'.cell? ⟨gR, 1, none⟩ = some (.pointer (some ⟨g1, 0, none⟩)) ∧ w'.cell? ⟨b, off + k * 4 + 2, none⟩ = some (.int .u8 (x.toNat : Int))) (go_keep)
                ((go_at_call 15; refine (add_any l1 x g1 wr.drew HR.out.drew.r1).mono ?_; rintro e w5 ⟨rfl, h5, g5⟩; have q5 := HR.out.drew.own1 z h5 g5; have f1 := q5.c1; have f2 := (q5.bel.cell (p := ⟨b, off + k * 4 + 2, none⟩) hb).trans d2))
              have S5 : Hid (RR w g0 g1 gR gS l0 (l1 ++ [x]) s0 s1 w5) := q5
              have k1 := q5.t1
              have k2 := q5.ss.frozen 1
              have hgS := q5.ss.lt
              clear h5 g5 q5 p1 c0 c1 c2 c3
              go_wp2
              go_region
              have S6 : Hid (RR w g0 g1 gR gS l0 (l1 ++ [x]) s0 u ((w5.setCell ⟨gS, 1, none⟩ (.string u)).alloc (Obj.cells #[Value.int IntKind.u8 (x.toNat : Int)] 5)).drew) := ((S5.out.set1 z u).alloc _).drew
              generalize ((w5.setCell ⟨gS, 1, none⟩ (.string u)).alloc (Obj.cells #[Value.int IntKind.u8 (x.toNat : Int)] 5)).drew = W6 at S6 ⊢
              clear k1 k2 f1 f2 S5 hu HR hcv hgS
              by_cases hbig : 200 < u.size
              · have hbz : (200 : Int) < (u.size : Nat) := by omega
                obtain ⟨r, hr⟩ : ∃ r : Nat, (u.size : Int) - 200 = r := ⟨u.size - 200, by omega⟩
                obtain ⟨c, hc⟩ : ∃ c, u.extract r u.size = c := ⟨_, rfl⟩
                have hcs : c.size = 200 := by rw [← hc, ByteArray.size_extract]; omega
                have hcl : c.size ≤ 200 := by omega
                have HC : Hid (Suf (l1 ++ [x]) (tby c)) := by
                  show Suf _ _
                  rw [← hc, tby_back]
                  exact HU.out.cut r (by rw [tby_len]; omega)
                have k1 := S6.out.t1
                have k2 := S6.out.ss.frozen 1
                have hrw : IntKind.i64.wrap (r : Int) = r := by rw [IntKind.wrap_i64]; omega
                have hrS : (r : Int) ≤ (u.size : Nat) := by omega
                have S7 : Hid (RR w g0 g1 gR gS l0 (l1 ++ [x]) s0 c (W6.setCell ⟨gS, 1, none⟩ (.string c))) := S6.out.set1 z c
                clear hcs HU S6
                go_wp2
                go_region
                go_wp2
                have HZ : Hid (RR w g0 g1 gR gS l0 (l1 ++ [x]) s0 c (W6.setCell ⟨gS, 1, none⟩ (.string c)).drew) := S7.out.drew
                generalize (W6.setCell ⟨gS, 1, none⟩ (.string c)).drew = W7 at HZ ⊢
                clear k1 k2 S7
                have e0 := HS0.out.dg
                have e1 := HC.out.dg
                have n0 : ∀ W, RR w g0 g1 gR gS l0 (l1 ++ [x]) s0 c W → Calls Try.prog 16 #[.pointer (some ⟨g0, 0, none⟩)] W fun e w'' => e = .returned (.int .u32 (dgR l0 : Int)) ∧ RR w g0 g1 gR gS l0 (l1 ++ [x]) s0 c w'' := fun W h => h.dig0
                have n1 : ∀ W, RR w g0 g1 gR gS l0 (l1 ++ [x]) s0 c W → Calls Try.prog 16 #[.pointer (some ⟨g1, 0, none⟩)] W fun e w'' => e = .returned (.int .u32 (dgR (l1 ++ [x]) : Int)) ∧ RR w g0 g1 gR gS l0 (l1 ++ [x]) s0 c w'' := fun W h => h.dig1
                have m0 : ∀ W, RR w g0 g1 gR gS l0 (l1 ++ [x]) s0 c W → Calls Try.prog 10 #[.string s0] W fun e w'' => e = .returned (.int .u32 (dgR l0 : Int)) ∧ RR w g0 g1 gR gS l0 (l1 ++ [x]) s0 c w'' := fun W h => by rw [e0]; exact h.rof s0 (by unfold maxLen; omega)
                have m1 : ∀ W, RR w g0 g1 gR gS l0 (l1 ++ [x]) s0 c W → Calls Try.prog 10 #[.string c] W fun e w'' => e = .returned (.int .u32 (dgR (l1 ++ [x]) : Int)) ∧ RR w g0 g1 gR gS l0 (l1 ++ [x]) s0 c w'' := fun W h => by rw [e1]; exact h.rof c (by unfold maxLen; omega)
                obtain ⟨D0, hD0⟩ : ∃ d, dgR l0 = d := ⟨_, rfl⟩
                obtain ⟨D1, hD1⟩ : ∃ d, dgR (l1 ++ [x]) = d := ⟨_, rfl⟩
                rw [hD0] at n0 m0
                rw [hD1] at n1 m1
                have N0 : Hid _ := n0
                have N1 : Hid _ := n1
                have M0 : Hid _ := m0
                have M1 : Hid _ := m1
                clear e0 e1 n0 n1 m0 m1 hD0 hD1
                refine wp_region_class (RR w g0 g1 gR gS l0 (l1 ++ [x]) s0 c) (by kernel_rfl) (by kernel_rfl) HZ.out.drew ?_
                repeat (first
                  | go_big_quiet_skip
                  | (go_big_quiet_want
                     first
                       | (refine quiet_str _ rfl gS 0 s0 rfl (fun _ h => h.t0) ?_; go_big_quiet_on; simp only [Act.put, List.setIfInBounds_toArray, List.set_cons_zero, List.set_cons_succ])
                       | (refine quiet_str _ rfl gS 1 c rfl (fun _ h => h.t1) ?_; go_big_quiet_on; simp only [Act.put, List.setIfInBounds_toArray, List.set_cons_zero, List.set_cons_succ])
                       | (refine quiet_ptr _ rfl gR 0 (some ⟨g0, 0, none⟩) rfl (fun _ h => h.c0) ?_; go_big_quiet_on; simp only [Act.put, List.setIfInBounds_toArray, List.set_cons_zero, List.set_cons_succ])
                       | (refine quiet_ptr _ rfl gR 1 (some ⟨g1, 0, none⟩) rfl (fun _ h => h.c1) ?_; go_big_quiet_on; simp only [Act.put, List.setIfInBounds_toArray, List.set_cons_zero, List.set_cons_succ])
                       | (refine quiet_call (.int .u32 (D0 : Int)) 16 #[.pointer (some ⟨g0, 0, none⟩)] ?_ ?_ ?_; (focus (intro W hW; go_simp; done)); (focus (intro W hW; exact N0.out W hW)); go_big_quiet_on; simp only [Act.put, List.setIfInBounds_toArray, List.set_cons_zero, List.set_cons_succ])
                       | (refine quiet_call (.int .u32 (D1 : Int)) 16 #[.pointer (some ⟨g1, 0, none⟩)] ?_ ?_ ?_; (focus (intro W hW; go_simp; done)); (focus (intro W hW; exact N1.out W hW)); go_big_quiet_on; simp only [Act.put, List.setIfInBounds_toArray, List.set_cons_zero, List.set_cons_succ])
                       | (refine quiet_call (.int .u32 (D0 : Int)) 10 #[.string s0] ?_ ?_ ?_; (focus (intro W hW; go_simp; done)); (focus (intro W hW; exact M0.out W hW)); go_big_quiet_on; simp only [Act.put, List.setIfInBounds_toArray, List.set_cons_zero, List.set_cons_succ])
                       | (refine quiet_call (.int .u32 (D1 : Int)) 10 #[.string c] ?_ ?_ ?_; (focus (intro W hW; go_simp; done)); (focus (intro W hW; exact M1.out W hW)); go_big_quiet_on; simp only [Act.put, List.setIfInBounds_toArray, List.set_cons_zero, List.set_cons_succ])
                       | (refine quiet_val (.bool false) ?_ ?_; (focus (intro W hW; go_simp; done)); go_big_quiet_on; simp only [Act.put, List.setIfInBounds_toArray, List.set_cons_zero, List.set_cons_succ])
                       | (refine quiet_val (.pointer (some ⟨gR, 0, none⟩)) ?_ ?_; (focus (intro W hW; go_simp; done)); go_big_quiet_on; simp only [Act.put, List.setIfInBounds_toArray, List.set_cons_zero, List.set_cons_succ])
                       | (refine quiet_val (.pointer (some ⟨gR, 1, none⟩)) ?_ ?_; (focus (intro W hW; go_simp; done)); go_big_quiet_on; simp only [Act.put, List.setIfInBounds_toArray, List.set_cons_zero, List.set_cons_succ])
                       | (refine quiet_val (.pointer (some ⟨gS, 0, none⟩)) ?_ ?_; (focus (intro W hW; go_simp; done)); go_big_quiet_on; simp only [Act.put, List.setIfInBounds_toArray, List.set_cons_zero, List.set_cons_succ])
                       | (refine quiet_val (.pointer (some ⟨gS, 1, none⟩)) ?_ ?_; (focus (intro W hW; go_simp; done)); go_big_quiet_on; simp only [Act.put, List.setIfInBounds_toArray, List.set_cons_zero, List.set_cons_succ])
                       | (go_big_quiet_op; go_big_quiet_on)))
                refine wpQuiet_nil ?_
                intro w9 hw9
                have S9 : Hid (RR w g0 g1 gR gS l0 (l1 ++ [x]) s0 c w9) := hw9
                clear hw9 HZ N0 N1 M0 M1
                go_wp2
                go_roundw
                case rel => exact ⟨k + 1, l0, (l1 ++ [x]), s0, c, by omega, by omega, by go_num, by omega, by omega, HS0, HC, S9.out⟩
                case measure => simp [intOf]; omega
              · have hbz : ¬ (200 : Int) < (u.size : Nat) := by omega
                have k1 := S6.out.t1
                have HZ : Hid (RR w g0 g1 gR gS l0 (l1 ++ [x]) s0 u W6) := S6
                clear S6
                go_wp2
                have e0 := HS0.out.dg
                have e1 := HU.out.dg
                have n0 : ∀ W, RR w g0 g1 gR gS l0 (l1 ++ [x]) s0 u W → Calls Try.prog 16 #[.pointer (some ⟨g0, 0, none⟩)] W fun e w'' => e = .returned (.int .u32 (dgR l0 : Int)) ∧ RR w g0 g1 gR gS l0 (l1 ++ [x]) s0 u w'' := fun W h => h.dig0
                have n1 : ∀ W, RR w g0 g1 gR gS l0 (l1 ++ [x]) s0 u W → Calls Try.prog 16 #[.pointer (some ⟨g1, 0, none⟩)] W fun e w'' => e = .returned (.int .u32 (dgR (l1 ++ [x]) : Int)) ∧ RR w g0 g1 gR gS l0 (l1 ++ [x]) s0 u w'' := fun W h => h.dig1
                have m0 : ∀ W, RR w g0 g1 gR gS l0 (l1 ++ [x]) s0 u W → Calls Try.prog 10 #[.string s0] W fun e w'' => e = .returned (.int .u32 (dgR l0 : Int)) ∧ RR w g0 g1 gR gS l0 (l1 ++ [x]) s0 u w'' := fun W h => by rw [e0]; exact h.rof s0 (by unfold maxLen; omega)
                have m1 : ∀ W, RR w g0 g1 gR gS l0 (l1 ++ [x]) s0 u W → Calls Try.prog 10 #[.string u] W fun e w'' => e = .returned (.int .u32 (dgR (l1 ++ [x]) : Int)) ∧ RR w g0 g1 gR gS l0 (l1 ++ [x]) s0 u w'' := fun W h => by rw [e1]; exact h.rof u (by unfold maxLen; omega)
                obtain ⟨D0, hD0⟩ : ∃ d, dgR l0 = d := ⟨_, rfl⟩
                obtain ⟨D1, hD1⟩ : ∃ d, dgR (l1 ++ [x]) = d := ⟨_, rfl⟩
                rw [hD0] at n0 m0
                rw [hD1] at n1 m1
                have N0 : Hid _ := n0
                have N1 : Hid _ := n1
                have M0 : Hid _ := m0
                have M1 : Hid _ := m1
                clear e0 e1 n0 n1 m0 m1 hD0 hD1
                refine wp_region_class (RR w g0 g1 gR gS l0 (l1 ++ [x]) s0 u) (by kernel_rfl) (by kernel_rfl) HZ.out.drew ?_
                repeat (first
                  | go_big_quiet_skip
                  | (go_big_quiet_want
                     first
                       | (refine quiet_str _ rfl gS 0 s0 rfl (fun _ h => h.t0) ?_; go_big_quiet_on; simp only [Act.put, List.setIfInBounds_toArray, List.set_cons_zero, List.set_cons_succ])
                       | (refine quiet_str _ rfl gS 1 u rfl (fun _ h => h.t1) ?_; go_big_quiet_on; simp only [Act.put, List.setIfInBounds_toArray, List.set_cons_zero, List.set_cons_succ])
                       | (refine quiet_ptr _ rfl gR 0 (some ⟨g0, 0, none⟩) rfl (fun _ h => h.c0) ?_; go_big_quiet_on; simp only [Act.put, List.setIfInBounds_toArray, List.set_cons_zero, List.set_cons_succ])
                       | (refine quiet_ptr _ rfl gR 1 (some ⟨g1, 0, none⟩) rfl (fun _ h => h.c1) ?_; go_big_quiet_on; simp only [Act.put, List.setIfInBounds_toArray, List.set_cons_zero, List.set_cons_succ])
                       | (refine quiet_call (.int .u32 (D0 : Int)) 16 #[.pointer (some ⟨g0, 0, none⟩)] ?_ ?_ ?_; (focus (intro W hW; go_simp; done)); (focus (intro W hW; exact N0.out W hW)); go_big_quiet_on; simp only [Act.put, List.setIfInBounds_toArray, List.set_cons_zero, List.set_cons_succ])
                       | (refine quiet_call (.int .u32 (D1 : Int)) 16 #[.pointer (some ⟨g1, 0, none⟩)] ?_ ?_ ?_; (focus (intro W hW; go_simp; done)); (focus (intro W hW; exact N1.out W hW)); go_big_quiet_on; simp only [Act.put, List.setIfInBounds_toArray, List.set_cons_zero, List.set_cons_succ])
                       | (refine quiet_call (.int .u32 (D0 : Int)) 10 #[.string s0] ?_ ?_ ?_; (focus (intro W hW; go_simp; done)); (focus (intro W hW; exact M0.out W hW)); go_big_quiet_on; simp only [Act.put, List.setIfInBounds_toArray, List.set_cons_zero, List.set_cons_succ])
                       | (refine quiet_call (.int .u32 (D1 : Int)) 10 #[.string u] ?_ ?_ ?_; (focus (intro W hW; go_simp; done)); (focus (intro W hW; exact M1.out W hW)); go_big_quiet_on; simp only [Act.put, List.setIfInBounds_toArray, List.set_cons_zero, List.set_cons_succ])
                       | (refine quiet_val (.bool false) ?_ ?_; (focus (intro W hW; go_simp; done)); go_big_quiet_on; simp only [Act.put, List.setIfInBounds_toArray, List.set_cons_zero, List.set_cons_succ])
                       | (refine quiet_val (.pointer (some ⟨gR, 0, none⟩)) ?_ ?_; (focus (intro W hW; go_simp; done)); go_big_quiet_on; simp only [Act.put, List.setIfInBounds_toArray, List.set_cons_zero, List.set_cons_succ])
                       | (refine quiet_val (.pointer (some ⟨gR, 1, none⟩)) ?_ ?_; (focus (intro W hW; go_simp; done)); go_big_quiet_on; simp only [Act.put, List.setIfInBounds_toArray, List.set_cons_zero, List.set_cons_succ])
                       | (refine quiet_val (.pointer (some ⟨gS, 0, none⟩)) ?_ ?_; (focus (intro W hW; go_simp; done)); go_big_quiet_on; simp only [Act.put, List.setIfInBounds_toArray, List.set_cons_zero, List.set_cons_succ])
                       | (refine quiet_val (.pointer (some ⟨gS, 1, none⟩)) ?_ ?_; (focus (intro W hW; go_simp; done)); go_big_quiet_on; simp only [Act.put, List.setIfInBounds_toArray, List.set_cons_zero, List.set_cons_succ])
                       | (go_big_quiet_op; go_big_quiet_on)))
                refine wpQuiet_nil ?_
                intro w9 hw9
                have S9 : Hid (RR w g0 g1 gR gS l0 (l1 ++ [x]) s0 u w9) := hw9
                clear hw9 HZ N0 N1 M0 M1
                go_wp2
                go_roundw
                case rel => exact ⟨k + 1, l0, (l1 ++ [x]), s0, u, by omega, by omega, by go_num, by omega, by omega, HS0, HU, S9.out⟩
                case measure => simp [intOf]; omega
            · have hq0 : (kk == 0) = false := by simp [hq]
              have hq1 : (kk == 1) = false := by simp [hq']
              clear hq hq'
              have hbz : ¬ (200 : Int) < (s1.size : Nat) := by omega
              have k1 := HR.out.t1
              have HZ : Hid (RR w g0 g1 gR gS l0 l1 s0 s1 wr) := HR
              clear HR
              go_wp2

              have e0 := HS0.out.dg
              have e1 := HS1.out.dg
              have n0 : ∀ W, RR w g0 g1 gR gS l0 l1 s0 s1 W → Calls Try.prog 16 #[.pointer (some ⟨g0, 0, none⟩)] W fun e w'' => e = .returned (.int .u32 (dgR l0 : Int)) ∧ RR w g0 g1 gR gS l0 l1 s0 s1 w'' := fun W h => h.dig0
              have n1 : ∀ W, RR w g0 g1 gR gS l0 l1 s0 s1 W → Calls Try.prog 16 #[.pointer (some ⟨g1, 0, none⟩)] W fun e w'' => e = .returned (.int .u32 (dgR l1 : Int)) ∧ RR w g0 g1 gR gS l0 l1 s0 s1 w'' := fun W h => h.dig1
              have m0 : ∀ W, RR w g0 g1 gR gS l0 l1 s0 s1 W → Calls Try.prog 10 #[.string s0] W fun e w'' => e = .returned (.int .u32 (dgR l0 : Int)) ∧ RR w g0 g1 gR gS l0 l1 s0 s1 w'' := fun W h => by rw [e0]; exact h.rof s0 (by unfold maxLen; omega)
              have m1 : ∀ W, RR w g0 g1 gR gS l0 l1 s0 s1 W → Calls Try.prog 10 #[.string s1] W fun e w'' => e = .returned (.int .u32 (dgR l1 : Int)) ∧ RR w g0 g1 gR gS l0 l1 s0 s1 w'' := fun W h => by rw [e1]; exact h.rof s1 (by unfold maxLen; omega)
              obtain ⟨D0, hD0⟩ : ∃ d, dgR l0 = d := ⟨_, rfl⟩
              obtain ⟨D1, hD1⟩ : ∃ d, dgR l1 = d := ⟨_, rfl⟩
              rw [hD0] at n0 m0
              rw [hD1] at n1 m1
              have N0 : Hid _ := n0
              have N1 : Hid _ := n1
              have M0 : Hid _ := m0
              have M1 : Hid _ := m1
              clear e0 e1 n0 n1 m0 m1 hD0 hD1
              refine wp_region_class (RR w g0 g1 gR gS l0 l1 s0 s1) (by kernel_rfl) (by kernel_rfl) HZ.out.drew ?_
              repeat (first
                | go_big_quiet_skip
                | (go_big_quiet_want
                   first
                     | (refine quiet_str _ rfl gS 0 s0 rfl (fun _ h => h.t0) ?_; go_big_quiet_on; simp only [Act.put, List.setIfInBounds_toArray, List.set_cons_zero, List.set_cons_succ])
                     | (refine quiet_str _ rfl gS 1 s1 rfl (fun _ h => h.t1) ?_; go_big_quiet_on; simp only [Act.put, List.setIfInBounds_toArray, List.set_cons_zero, List.set_cons_succ])
                     | (refine quiet_ptr _ rfl gR 0 (some ⟨g0, 0, none⟩) rfl (fun _ h => h.c0) ?_; go_big_quiet_on; simp only [Act.put, List.setIfInBounds_toArray, List.set_cons_zero, List.set_cons_succ])
                     | (refine quiet_ptr _ rfl gR 1 (some ⟨g1, 0, none⟩) rfl (fun _ h => h.c1) ?_; go_big_quiet_on; simp only [Act.put, List.setIfInBounds_toArray, List.set_cons_zero, List.set_cons_succ])
                     | (refine quiet_call (.int .u32 (D0 : Int)) 16 #[.pointer (some ⟨g0, 0, none⟩)] ?_ ?_ ?_; (focus (intro W hW; go_simp; done)); (focus (intro W hW; exact N0.out W hW)); go_big_quiet_on; simp only [Act.put, List.setIfInBounds_toArray, List.set_cons_zero, List.set_cons_succ])
                     | (refine quiet_call (.int .u32 (D1 : Int)) 16 #[.pointer (some ⟨g1, 0, none⟩)] ?_ ?_ ?_; (focus (intro W hW; go_simp; done)); (focus (intro W hW; exact N1.out W hW)); go_big_quiet_on; simp only [Act.put, List.setIfInBounds_toArray, List.set_cons_zero, List.set_cons_succ])
                     | (refine quiet_call (.int .u32 (D0 : Int)) 10 #[.string s0] ?_ ?_ ?_; (focus (intro W hW; go_simp; done)); (focus (intro W hW; exact M0.out W hW)); go_big_quiet_on; simp only [Act.put, List.setIfInBounds_toArray, List.set_cons_zero, List.set_cons_succ])
                     | (refine quiet_call (.int .u32 (D1 : Int)) 10 #[.string s1] ?_ ?_ ?_; (focus (intro W hW; go_simp; done)); (focus (intro W hW; exact M1.out W hW)); go_big_quiet_on; simp only [Act.put, List.setIfInBounds_toArray, List.set_cons_zero, List.set_cons_succ])
                     | (refine quiet_val (.bool false) ?_ ?_; (focus (intro W hW; go_simp; done)); go_big_quiet_on; simp only [Act.put, List.setIfInBounds_toArray, List.set_cons_zero, List.set_cons_succ])
                     | (refine quiet_val (.pointer (some ⟨gR, 0, none⟩)) ?_ ?_; (focus (intro W hW; go_simp; done)); go_big_quiet_on; simp only [Act.put, List.setIfInBounds_toArray, List.set_cons_zero, List.set_cons_succ])
                     | (refine quiet_val (.pointer (some ⟨gR, 1, none⟩)) ?_ ?_; (focus (intro W hW; go_simp; done)); go_big_quiet_on; simp only [Act.put, List.setIfInBounds_toArray, List.set_cons_zero, List.set_cons_succ])
                     | (refine quiet_val (.pointer (some ⟨gS, 0, none⟩)) ?_ ?_; (focus (intro W hW; go_simp; done)); go_big_quiet_on; simp only [Act.put, List.setIfInBounds_toArray, List.set_cons_zero, List.set_cons_succ])
                     | (refine quiet_val (.pointer (some ⟨gS, 1, none⟩)) ?_ ?_; (focus (intro W hW; go_simp; done)); go_big_quiet_on; simp only [Act.put, List.setIfInBounds_toArray, List.set_cons_zero, List.set_cons_succ])
                     | (go_big_quiet_op; go_big_quiet_on)))
              refine wpQuiet_nil ?_
              intro w9 hw9
              have S9 : Hid (RR w g0 g1 gR gS l0 l1 s0 s1 w9) := hw9
              clear hw9 HZ N0 N1 M0 M1
              go_wp2
              go_roundw
              case rel => exact ⟨k + 1, l0, l1, s0, s1, by omega, by omega, by go_num, by omega, by omega, HS0, HS1, S9.out⟩
              case measure => simp [intOf]; omega
      · have h3z : ¬ (k : Int) < 300 := by omega
        go_wp2
        go_ret
        exact ⟨rfl, HR.out.bel⟩
    · go_wp2
      go_ret
      exact ⟨rfl, HR.out.bel⟩
end Go.Proofs.Ytadcibenikpfgaa
