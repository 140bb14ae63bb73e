import Derived.Test.YtcfniaknbbgheaaDoorY10
/- attrs.Modes at any mode. -/
namespace Go.Proofs.YtcfniaknbbgheaaDoor
open Go.RowKit
set_option linter.unusedSimpArgs false
set_option linter.unusedVariables false
/-- A mode's bit. -/
def mbit (m k : Nat) : Nat := m / 2 ^ k % 2
theorem mbit_lt (m k : Nat) : mbit m k < 2 := Nat.mod_lt _ (by decide)
theorem and_one (n : Nat) (h : n < 4096) : bits .and .u32 (n : Int) 1 = ((n % 2 : Nat) : Int) := by
  have : ∀ a b : Fin 64, bits .and .u32 ((a.val * 64 + b.val : Nat) : Int) 1 = (((a.val * 64 + b.val) % 2 : Nat) : Int) := by decide +kernel
  have h2 := this ⟨n / 64, by omega⟩ ⟨n % 64, by omega⟩
  simp only at h2
  rwa [show n / 64 * 64 + n % 64 = n from by omega] at h2
set_option maxHeartbeats 4000000 in
theorem bit_any (k m b : Nat) (w : World) (hk : k < 12) (hm : m < 4096) (hc : w.cell? ⟨b, 0, none⟩ = some (.int .u32 (m : Int))) : Calls Tryd.prog 35 #[.int .i64 (k : Int), .pointer (some ⟨b, 0, none⟩)] w fun e w' => e = .returned (.int .u32 (mbit m k : Int)) ∧ w' = w := by
  have h0 : (0 : Int) ≤ k := by omega
  have h0' : ¬ (k : Int) < 0 := by omega
  have hq : bits .and .u32 ((m : Int) / 2 ^ k) 1 = ((mbit m k : Nat) : Int) := by
    have e : ((m : Int) / 2 ^ k) = ((m / 2 ^ k : Nat) : Int) := by push_cast; rfl
    rw [e, and_one _ (Nat.lt_of_le_of_lt (Nat.div_le_self _ _) hm)]
    rfl
  go_enter Tryd.func35, Tryd.ntmps35
  go_wp2_with fail
  go_ret
  exact ⟨rfl, rfl⟩
theorem wpQF_ix {P : Program} {ops : Array Oper} {K : Option Value → World → Prop} {Q : Act → Prop} {o : Oper} {rest : List Oper} {a : Act} (hgd : o.guard = none) (t : TypeId) (x y : Operand) (ho : o.op = .index t x y) (vx vy v : Value) (hx : a.eval x = vx) (hy : a.eval y = vy)
    (hr : ∀ w, (Instr.index t vx vy).run P w = .ok v w) (hn : wpQF P ops K Q rest (a.put o.dst v)) : wpQF P ops K Q (o :: rest) a :=
  wpQF_val hgd v (fun ov w hw => by
    unfold execOp
    simp only [ho, Sem.run_bind, Sem.run_pure, Result.andThen_ok, hx, hy, hr]) hn
def lt1 (c : UInt8) (b : Nat) : UInt8 := if b = 0 then 45 else c
theorem ix_r (b : Nat) (h : b < 2) (w : World) : (Instr.index 9 (.string ⟨#[45, 114]⟩) (.int .u32 (b : Int))).run Tryd.prog w = .ok (.int .u8 ((lt1 114 b).toNat : Int)) w := by
  have : b = 0 ∨ b = 1 := by omega
  rcases this with rfl | rfl <;> (show _ = _; kernel_rfl)
theorem ix_w (b : Nat) (h : b < 2) (w : World) : (Instr.index 9 (.string ⟨#[45, 119]⟩) (.int .u32 (b : Int))).run Tryd.prog w = .ok (.int .u8 ((lt1 119 b).toNat : Int)) w := by
  have : b = 0 ∨ b = 1 := by omega
  rcases this with rfl | rfl <;> (show _ = _; kernel_rfl)
def lt4 (l : List UInt8) (s x : Nat) : UInt8 := l.getD (2 * s + x) 0
theorem ix_s (s x : Nat) (h : s < 2) (h' : x < 2) (w : World) : (Instr.index 9 (.string ⟨#[45, 120, 83, 115]⟩) (.int .u32 ((2 * s + x : Nat) : Int))).run Tryd.prog w = .ok (.int .u8 ((lt4 [45, 120, 83, 115] s x).toNat : Int)) w := by
  have a : s = 0 ∨ s = 1 := by omega
  have b : x = 0 ∨ x = 1 := by omega
  rcases a with rfl | rfl <;> rcases b with rfl | rfl <;> (show _ = _; kernel_rfl)
theorem ix_t (s x : Nat) (h : s < 2) (h' : x < 2) (w : World) : (Instr.index 9 (.string ⟨#[45, 120, 84, 116]⟩) (.int .u32 ((2 * s + x : Nat) : Int))).run Tryd.prog w = .ok (.int .u8 ((lt4 [45, 120, 84, 116] s x).toNat : Int)) w := by
  have a : s = 0 ∨ s = 1 := by omega
  have b : x = 0 ∨ x = 1 := by omega
  rcases a with rfl | rfl <;> rcases b with rfl | rfl <;> (show _ = _; kernel_rfl)
theorem wr_two (b : Nat) (h : b < 2) : IntKind.u32.wrap ((b : Int) * 2) = 2 * (b : Int) := by
  have q : b = 0 ∨ b = 1 := by omega
  rcases q with q | q <;> (rw [q]; decide)
theorem or_sx (s x : Nat) (h : s < 2) (h' : x < 2) : bits .or .u32 ((2 * s : Nat) : Int) (x : Int) = ((2 * s + x : Nat) : Int) := by
  have a : s = 0 ∨ s = 1 := by omega
  have b : x = 0 ∨ x = 1 := by omega
  rcases a with rfl | rfl <;> rcases b with rfl | rfl <;> (show _ = _; kernel_rfl)
theorem mappM (m : Nat) (w W : World) (g cp n gs : Nat) (l : List UInt8) (c1 c2 c3 : UInt8) (z1 z2 z3 : Int) (y1 : (c1.toNat : Int) = z1) (y2 : (c2.toNat : Int) = z2) (y3 : (c3.toNat : Int) = z3) (hb : Below w.heap.size w W) (hc : W.cell? ⟨w.heap.size, 0, none⟩ = some (.int .u32 (m : Int))) (ho : W.ownsRow (w.heap.size + 1) 5 1 (.slice (some ⟨g, 0, none⟩) n cp) n (u8c l)) (hz : w.heap.size + 1 ≤ W.heap.size) (hn : n ≤ 100) (hg : Bk W gs #[.int .u8 z1, .int .u8 z2, .int .u8 z3] 5) :
    ∃ g' cp' w7, (Builtin.append_ #[58, 58] 58 #[.slice (some ⟨g, 0, none⟩) n cp, .slice (some ⟨gs, 0, none⟩) 3 3]).run Tryd.prog W = .ok (.slice (some ⟨g', 0, none⟩) (n + 3) cp') w7 ∧
      w7.ownsRow (w.heap.size + 1) 5 1 (.slice (some ⟨g', 0, none⟩) (n + 3) cp') (n + 3) (u8c (l ++ [c1, c2, c3])) ∧ w7.cell? ⟨w.heap.size, 0, none⟩ = some (.int .u32 (m : Int)) ∧ Below w.heap.size w w7 ∧ w.heap.size + 1 ≤ w7.heap.size := by
  subst y1 y2 y3
  obtain ⟨i0, hi, hz0, hz1, hz2⟩ := info_parts inf_u8_10
  obtain ⟨v', w7, hrun, hown, hgrow, _, hat⟩ := run_append_own_at (P := Tryd.prog) (w := W) (w.heap.size + 1) 58 58 5 i0 (.int .u8 0) 1 1 Tryd.underlying58 hi hz0 hz1 hz2 rfl (by decide) (.slice (some ⟨g, 0, none⟩) n cp) n (u8c l) ho ⟨gs, 0, none⟩ 3 3 [.int .u8 (c1.toNat : Int), .int .u8 (c2.toNat : Int), .int .u8 (c3.toNat : Int)] rfl (fun j u hu => by
    rw [WideShapes.add_plain, Nat.zero_add, hg.cell]
    rw [← Array.getElem?_toList]
    exact hu) (by
    intro u hu
    simp at hu
    rcases hu with rfl | rfl | rfl <;> rfl) (by unfold maxLen; omega) (by omega) (by omega)
  obtain ⟨g', cp', hv⟩ : ∃ g7 c7, v' = .slice (some ⟨g7, 0, none⟩) (n + 3) c7 := by
    rcases hown.2 with ⟨_, h0⟩ | ⟨g7, c7, cur, h1, _⟩
    · omega
    · exact ⟨g7, c7, h1⟩
  subst hv
  have hblk : ∀ b, (Value.slice (some ⟨g, 0, none⟩) n cp).ownBlock = some b → w.heap.size + 1 ≤ b := fun b hb => (rows_blk ho hb).1
  refine ⟨g', cp', w7, hrun, ?_, ?_, rows_bel hb (by omega) ho (by omega) hgrow, by have := hgrow.size; omega⟩
  · have e : u8c (l ++ [c1, c2, c3]) = u8c l ++ [.int .u8 (c1.toNat : Int), .int .u8 (c2.toNat : Int), .int .u8 (c3.toNat : Int)] := by simp [u8c]
    rw [e]; exact hown
  · have q := cell_blk (j := 0) (hgrow.block w.heap.size (by omega) (fun e => by have := hblk _ e.symm; omega))
    rw [q.1]
    exact hc
/-- What Modes tells of a third of a mode. -/
def tri (m r w x s : Nat) (l : List UInt8) : List UInt8 := [lt1 114 (mbit m r), lt1 119 (mbit m w), lt4 l (mbit m s) (mbit m x)]
/-- The ten letters, up to a third. -/
def mlL (c : UInt8) (m : Nat) : Nat → List UInt8
  | 0 => [c]
  | 1 => [c] ++ tri m 8 7 6 11 [45, 120, 83, 115]
  | 2 => [c] ++ tri m 8 7 6 11 [45, 120, 83, 115] ++ tri m 5 4 3 10 [45, 120, 83, 115]
  | _ => [c] ++ tri m 8 7 6 11 [45, 120, 83, 115] ++ tri m 5 4 3 10 [45, 120, 83, 115] ++ tri m 2 1 0 9 [45, 120, 84, 116]
def ndC (nd : Nat) : UInt8 := [45, 100, 108].getD (nd - 1) 0
/-- How Modes' loop stands. -/
structure MJ (w : World) (nd m i n g cp : Nat) (wr : World) : Prop where
  bel : Below w.heap.size w wr
  md : wr.cell? ⟨w.heap.size, 0, none⟩ = some (.int .u32 (m : Int))
  ow : wr.ownsRow (w.heap.size + 1) 5 1 (.slice (some ⟨g, 0, none⟩) n cp) n (u8c (mlL (ndC nd) m i))
  sz : w.heap.size + 1 ≤ wr.heap.size
theorem MJ.below {w wr W : World} {nd m i n g cp : Nat} (h : MJ w nd m i n g cp wr) (hb : Below wr.heap.size wr W) : MJ w nd m i n g cp W :=
  ⟨h.bel.trans (hb.mono h.bel.size), by rw [hb.cell (p := ⟨w.heap.size, 0, none⟩) (by show w.heap.size < _; have := h.sz; omega)]; exact h.md, rows_keepB10 h.ow hb, Nat.le_trans h.sz hb.size⟩
set_option maxHeartbeats 16000000 in
set_option maxRecDepth 100000 in
theorem modes_any (nd m : Nat) (w : World) (hn : ndB nd = true) (hm : mdB m = true) (h1 : 1 ≤ nd) (h3 : nd ≤ 3) (hmz : m < 4096) (hT : Th w) : Calls Tryd.prog 10 #[.int .u8 (nd : Int), .int .u32 (m : Int)] w fun e w' => e = .returned (.tuple #[.string ⟨(mlL (ndC nd) m 3).toArray⟩, .int .i64 0]) ∧ Below w.heap.size w w' := by
  have h := isNode_any nd
  rw [hn] at h
  have h' := isMode_any m
  rw [hm] at h'
  have HTH : Hid (Th w) := hT
  have HMZ : Hid (m < 4096) := hmz
  clear hT hn hm hmz
  have hnd : nd = 1 ∨ nd = 2 ∨ nd = 3 := by omega
  obtain ⟨cz, hcz⟩ : ∃ c : Int, c = ((ndC nd).toNat : Int) := ⟨_, rfl⟩
  have hix : ∀ W, (Instr.index 9 (.string ⟨#[45, 100, 108]⟩) (.int .u8 ((nd : Int) - 1))).run Tryd.prog W = .ok (.int .u8 cz) W := fun W => by rw [hcz]; rcases hnd with rfl | rfl | rfl <;> kernel_rfl
  have hsub : IntKind.u8.wrap ((nd : Int) - 1) = (nd : Int) - 1 := by rcases hnd with rfl | rfl | rfl <;> rfl
  have HCZ : Hid (cz = ((ndC nd).toNat : Int)) := hcz
  clear hcz
  go_enter Tryd.func10, Tryd.ntmps10
  go_wp2_with fail
  refine (h _).mono ?_
  rintro e w1 ⟨rfl, rfl⟩
  go_wp2_with fail
  refine (h' _).mono ?_
  rintro e w1 ⟨rfl, rfl⟩
  clear h h'
  go_wp2_with (refine wpList_load_mid rfl 90 (.global 0) rfl 0 0 rfl thc _ (fun j u hj => by
    rw [Nat.zero_add]
    exact (HTH.out.below (((Below.refl _ _).alloc (Nat.le_refl _) _).alloc (by rw [al_size]; omega) _)).2 j u hj) Tryd.underlying90 rfl inf_th ?_)
  simp only [thc]
  go_loopw [7, 24] (fun x v wr => ∃ (i n g cp : Nat), x = .slice (some ⟨g, 0, none⟩) n cp ∧ v = .int .i64 i ∧ i ≤ 3 ∧ Hid (n = 1 + 3 * i) ∧ Hid (MJ w nd m i n g cp wr)) (fun x v _ => 3 - (intOf v).toNat)
  case atStart => exact ⟨0, 1, _, _, rfl, rfl, by omega, rfl, ((Below.refl _ _).alloc (Nat.le_refl _) _).alloc (by rw [al_size]; omega) _, by
    rw [World.cell?_alloc_past _ _ _ (by show w.heap.size < _; rw [al_size]; omega), (bk_new _ _ _).cell]; rfl, ⟨rfl, .inr ⟨_, _, #[.int .u8 cz], rfl, Nat.le_refl _, (by have q := bk_new (w.alloc (.cells #[.int .u32 (m : Int)] 22)) #[.int .u8 cz] 5; rw [al_size] at q; exact q), by decide, by decide, rfl, by rw [HCZ.out]; rfl⟩⟩, by rw [al_size, al_size]; omega⟩
  case round =>
    obtain ⟨i, n, g, cp, rfl, rfl, hi, HN, HR⟩ := hrel
    have hi4 : i = 0 ∨ i = 1 ∨ i = 2 ∨ i = 3 := by omega
    clear hix hsub
    rcases hi4 with rfl | rfl | rfl | rfl
    · have tx := tix0
      go_wp2_with fail
      obtain ⟨w2, hw2⟩ : ∃ w2, w2 = wr.alloc (.cells #[.int .i64 8, .int .i64 7, .int .i64 6, .int .i64 11, .string ⟨#[45, 120, 83, 115]⟩] 89) := ⟨_, rfl⟩
      obtain ⟨go, hgo⟩ : ∃ go, go = wr.heap.size := ⟨_, rfl⟩
      have HBK : Hid (Bk w2 go #[.int .i64 8, .int .i64 7, .int .i64 6, .int .i64 11, .string ⟨#[45, 120, 83, 115]⟩] 89) := by rw [hw2, hgo]; exact bk_new _ _ _
      have HM2 : Hid (MJ w nd m 0 n g cp w2) := by rw [hw2]; exact HR.out.below ((Below.refl _ _).alloc (Nat.le_refl _) _)
      rw [← hw2, ← hgo]
      clear hw2 hgo tx
      obtain ⟨b0, hb0⟩ : ∃ x, x = mbit m 8 := ⟨_, rfl⟩
      have lb0 : b0 < 2 := by rw [hb0]; exact mbit_lt _ _
      have Hb0 : Hid (b0 = mbit m 8) := hb0
      clear hb0
      obtain ⟨b1, hb1⟩ : ∃ x, x = mbit m 7 := ⟨_, rfl⟩
      have lb1 : b1 < 2 := by rw [hb1]; exact mbit_lt _ _
      have Hb1 : Hid (b1 = mbit m 7) := hb1
      clear hb1
      obtain ⟨b2, hb2⟩ : ∃ x, x = mbit m 6 := ⟨_, rfl⟩
      have lb2 : b2 < 2 := by rw [hb2]; exact mbit_lt _ _
      have Hb2 : Hid (b2 = mbit m 6) := hb2
      clear hb2
      obtain ⟨b3, hb3⟩ : ∃ x, x = mbit m 11 := ⟨_, rfl⟩
      have lb3 : b3 < 2 := by rw [hb3]; exact mbit_lt _ _
      have Hb3 : Hid (b3 = mbit m 11) := hb3
      clear hb3
      obtain ⟨z1, hz1⟩ : ∃ z : Int, z = ((lt1 114 b0).toNat : Int) := ⟨_, rfl⟩
      have Hz1 : Hid (z1 = ((lt1 114 b0).toNat : Int)) := hz1
      clear hz1
      obtain ⟨z2, hz2⟩ : ∃ z : Int, z = ((lt1 119 b1).toNat : Int) := ⟨_, rfl⟩
      have Hz2 : Hid (z2 = ((lt1 119 b1).toNat : Int)) := hz2
      clear hz2
      obtain ⟨z3, hz3⟩ : ∃ z : Int, z = ((lt4 [45, 120, 83, 115] b3 b2).toNat : Int) := ⟨_, rfl⟩
      have Hz3 : Hid (z3 = ((lt4 [45, 120, 83, 115] b3 b2).toNat : Int)) := hz3
      clear hz3
      have HC0 : Hid (∀ (ov : Option Value) W, K3 w2 #[.int .u8 z1, .int .u8 z2, .int .u8 z3] 5 ov W → W.cell? ⟨go, 0, none⟩ = some (.int .i64 8)) := fun ov W hW => by rw [(HBK.out.below hW.bel HBK.out.lt).cell]; rfl
      have HC1 : Hid (∀ (ov : Option Value) W, K3 w2 #[.int .u8 z1, .int .u8 z2, .int .u8 z3] 5 ov W → W.cell? ⟨go, 1, none⟩ = some (.int .i64 7)) := fun ov W hW => by rw [(HBK.out.below hW.bel HBK.out.lt).cell]; rfl
      have HC2 : Hid (∀ (ov : Option Value) W, K3 w2 #[.int .u8 z1, .int .u8 z2, .int .u8 z3] 5 ov W → W.cell? ⟨go, 2, none⟩ = some (.int .i64 6)) := fun ov W hW => by rw [(HBK.out.below hW.bel HBK.out.lt).cell]; rfl
      have HC3 : Hid (∀ (ov : Option Value) W, K3 w2 #[.int .u8 z1, .int .u8 z2, .int .u8 z3] 5 ov W → W.cell? ⟨go, 3, none⟩ = some (.int .i64 11)) := fun ov W hW => by rw [(HBK.out.below hW.bel HBK.out.lt).cell]; rfl
      have HC4 : Hid (∀ (ov : Option Value) W, K3 w2 #[.int .u8 z1, .int .u8 z2, .int .u8 z3] 5 ov W → W.cell? ⟨go, 4, none⟩ = some (.string ⟨#[45, 120, 83, 115]⟩)) := fun ov W hW => by rw [(HBK.out.below hW.bel HBK.out.lt).cell]; rfl
      have HB0 : Hid (∀ ov W, K3 w2 #[.int .u8 z1, .int .u8 z2, .int .u8 z3] 5 ov W → Calls Tryd.prog 35 #[.int .i64 8, .pointer (some ⟨w.heap.size, 0, none⟩)] W (fun e w'' => e = .returned (.int .u32 (b0 : Int)) ∧ K3 w2 #[.int .u8 z1, .int .u8 z2, .int .u8 z3] 5 ov w'')) := fun ov W hW => (bit_any 8 m w.heap.size W (by decide) HMZ.out (HM2.out.below hW.bel).md).mono fun e w' h => ⟨by rw [h.1, Hb0.out], by rw [h.2]; exact hW⟩
      have HB1 : Hid (∀ ov W, K3 w2 #[.int .u8 z1, .int .u8 z2, .int .u8 z3] 5 ov W → Calls Tryd.prog 35 #[.int .i64 7, .pointer (some ⟨w.heap.size, 0, none⟩)] W (fun e w'' => e = .returned (.int .u32 (b1 : Int)) ∧ K3 w2 #[.int .u8 z1, .int .u8 z2, .int .u8 z3] 5 ov w'')) := fun ov W hW => (bit_any 7 m w.heap.size W (by decide) HMZ.out (HM2.out.below hW.bel).md).mono fun e w' h => ⟨by rw [h.1, Hb1.out], by rw [h.2]; exact hW⟩
      have HB2 : Hid (∀ ov W, K3 w2 #[.int .u8 z1, .int .u8 z2, .int .u8 z3] 5 ov W → Calls Tryd.prog 35 #[.int .i64 6, .pointer (some ⟨w.heap.size, 0, none⟩)] W (fun e w'' => e = .returned (.int .u32 (b2 : Int)) ∧ K3 w2 #[.int .u8 z1, .int .u8 z2, .int .u8 z3] 5 ov w'')) := fun ov W hW => (bit_any 6 m w.heap.size W (by decide) HMZ.out (HM2.out.below hW.bel).md).mono fun e w' h => ⟨by rw [h.1, Hb2.out], by rw [h.2]; exact hW⟩
      have HB3 : Hid (∀ ov W, K3 w2 #[.int .u8 z1, .int .u8 z2, .int .u8 z3] 5 ov W → Calls Tryd.prog 35 #[.int .i64 11, .pointer (some ⟨w.heap.size, 0, none⟩)] W (fun e w'' => e = .returned (.int .u32 (b3 : Int)) ∧ K3 w2 #[.int .u8 z1, .int .u8 z2, .int .u8 z3] 5 ov w'')) := fun ov W hW => (bit_any 11 m w.heap.size W (by decide) HMZ.out (HM2.out.below hW.bel).md).mono fun e w' h => ⟨by rw [h.1, Hb3.out], by rw [h.2]; exact hW⟩
      have HSX : Hid (bits .or .u32 ((2 * b3 : Nat) : Int) (b2 : Int) = ((2 * b3 + b2 : Nat) : Int)) := or_sx _ _ lb3 lb2
      have HSH : Hid (IntKind.u32.wrap ((b3 : Int) * 2) = 2 * (b3 : Int)) := wr_two b3 lb3
      have HDR : Hid (K3 w2 #[.int .u8 z1, .int .u8 z2, .int .u8 z3] 5 none w2.drew) := (Below.refl _ _).drew
      refine wp_region_mk (K3 w2 #[.int .u8 z1, .int .u8 z2, .int .u8 z3] 5) 25 24 _ (by kernel_rfl) (by kernel_rfl) rfl rfl HDR.out ?_
      simp only [List.take_succ_cons, List.take_zero, List.drop_succ_cons, List.drop_zero, skipL, Nat.reduceAdd, Nat.reduceBEq, Bool.false_eq_true, if_false, if_true]
      (refine wpQF_val rfl (.slice (some ⟨g, 0, none⟩) n cp) (fun ov W hW => by go_simp) ?_; simp only [Act.put, List.setIfInBounds_toArray, List.set_cons_zero, List.set_cons_succ])
      (refine wpQF_val rfl (.func (.func 35) #[] #[.pointer (some ⟨w.heap.size, 0, none⟩)]) (fun ov W hW => by go_simp) ?_; simp only [Act.put, List.setIfInBounds_toArray, List.set_cons_zero, List.set_cons_succ])
      (refine wpQF_val rfl (.pointer (some ⟨go, 0, none⟩)) (fun ov W hW => by go_simp) ?_; simp only [Act.put, List.setIfInBounds_toArray, List.set_cons_zero, List.set_cons_succ])
      (refine wpQF_one rfl 3 (.tmp 29) rfl go 0 (.int .i64 8) rfl isagg_i64 HC0.out ?_; simp only [Act.put, List.setIfInBounds_toArray, List.set_cons_zero, List.set_cons_succ])
      (refine wpQF_call rfl (.int .u32 (b0 : Int)) 35 #[.int .i64 8, .pointer (some ⟨w.heap.size, 0, none⟩)] (fun ov W hW => by go_simp) HB0.out ?_; simp only [Act.put, List.setIfInBounds_toArray, List.set_cons_zero, List.set_cons_succ])
      (refine wpQF_ix rfl 9 (.const (.string ⟨#[45, 114]⟩)) (.tmp 31) rfl (.string ⟨#[45, 114]⟩) (.int .u32 (b0 : Int)) (.int .u8 z1) rfl rfl (fun W => by rw [Hz1.out]; exact ix_r b0 lb0 W) ?_; simp only [Act.put, List.setIfInBounds_toArray, List.set_cons_zero, List.set_cons_succ])
      (refine wpQF_val rfl (.func (.func 35) #[] #[.pointer (some ⟨w.heap.size, 0, none⟩)]) (fun ov W hW => by go_simp) ?_; simp only [Act.put, List.setIfInBounds_toArray, List.set_cons_zero, List.set_cons_succ])
      (refine wpQF_val rfl (.pointer (some ⟨go, 1, none⟩)) (fun ov W hW => by go_simp) ?_; simp only [Act.put, List.setIfInBounds_toArray, List.set_cons_zero, List.set_cons_succ])
      (refine wpQF_one rfl 3 (.tmp 34) rfl go 1 (.int .i64 7) rfl isagg_i64 HC1.out ?_; simp only [Act.put, List.setIfInBounds_toArray, List.set_cons_zero, List.set_cons_succ])
      (refine wpQF_call rfl (.int .u32 (b1 : Int)) 35 #[.int .i64 7, .pointer (some ⟨w.heap.size, 0, none⟩)] (fun ov W hW => by go_simp) HB1.out ?_; simp only [Act.put, List.setIfInBounds_toArray, List.set_cons_zero, List.set_cons_succ])
      (refine wpQF_ix rfl 9 (.const (.string ⟨#[45, 119]⟩)) (.tmp 36) rfl (.string ⟨#[45, 119]⟩) (.int .u32 (b1 : Int)) (.int .u8 z2) rfl rfl (fun W => by rw [Hz2.out]; exact ix_w b1 lb1 W) ?_; simp only [Act.put, List.setIfInBounds_toArray, List.set_cons_zero, List.set_cons_succ])
      (refine wpQF_val rfl (.pointer (some ⟨go, 4, none⟩)) (fun ov W hW => by go_simp) ?_; simp only [Act.put, List.setIfInBounds_toArray, List.set_cons_zero, List.set_cons_succ])
      (refine wpQF_one rfl 9 (.tmp 38) rfl go 4 (.string ⟨#[45, 120, 83, 115]⟩) rfl isagg_str10 HC4.out ?_; simp only [Act.put, List.setIfInBounds_toArray, List.set_cons_zero, List.set_cons_succ])
      (refine wpQF_val rfl (.func (.func 35) #[] #[.pointer (some ⟨w.heap.size, 0, none⟩)]) (fun ov W hW => by go_simp) ?_; simp only [Act.put, List.setIfInBounds_toArray, List.set_cons_zero, List.set_cons_succ])
      (refine wpQF_val rfl (.pointer (some ⟨go, 3, none⟩)) (fun ov W hW => by go_simp) ?_; simp only [Act.put, List.setIfInBounds_toArray, List.set_cons_zero, List.set_cons_succ])
      (refine wpQF_one rfl 3 (.tmp 41) rfl go 3 (.int .i64 11) rfl isagg_i64 HC3.out ?_; simp only [Act.put, List.setIfInBounds_toArray, List.set_cons_zero, List.set_cons_succ])
      (refine wpQF_call rfl (.int .u32 (b3 : Int)) 35 #[.int .i64 11, .pointer (some ⟨w.heap.size, 0, none⟩)] (fun ov W hW => by go_simp) HB3.out ?_; simp only [Act.put, List.setIfInBounds_toArray, List.set_cons_zero, List.set_cons_succ])
      (refine wpQF_val rfl (.int .u32 ((2 * b3 : Nat) : Int)) (fun ov W hW => by go_simp; (first | done | exact HSH.out)) ?_; simp only [Act.put, List.setIfInBounds_toArray, List.set_cons_zero, List.set_cons_succ])
      (refine wpQF_val rfl (.func (.func 35) #[] #[.pointer (some ⟨w.heap.size, 0, none⟩)]) (fun ov W hW => by go_simp) ?_; simp only [Act.put, List.setIfInBounds_toArray, List.set_cons_zero, List.set_cons_succ])
      (refine wpQF_val rfl (.pointer (some ⟨go, 2, none⟩)) (fun ov W hW => by go_simp) ?_; simp only [Act.put, List.setIfInBounds_toArray, List.set_cons_zero, List.set_cons_succ])
      (refine wpQF_one rfl 3 (.tmp 46) rfl go 2 (.int .i64 6) rfl isagg_i64 HC2.out ?_; simp only [Act.put, List.setIfInBounds_toArray, List.set_cons_zero, List.set_cons_succ])
      (refine wpQF_call rfl (.int .u32 (b2 : Int)) 35 #[.int .i64 6, .pointer (some ⟨w.heap.size, 0, none⟩)] (fun ov W hW => by go_simp) HB2.out ?_; simp only [Act.put, List.setIfInBounds_toArray, List.set_cons_zero, List.set_cons_succ])
      (refine wpQF_val rfl (.int .u32 ((2 * b3 + b2 : Nat) : Int)) (fun ov W hW => by go_simp; (first | done | exact HSX.out | (push_cast at HSX; exact HSX.out))) ?_; simp only [Act.put, List.setIfInBounds_toArray, List.set_cons_zero, List.set_cons_succ])
      (refine wpQF_ix rfl 9 (.tmp 39) (.tmp 49) rfl (.string ⟨#[45, 120, 83, 115]⟩) (.int .u32 ((2 * b3 + b2 : Nat) : Int)) (.int .u8 z3) rfl rfl (fun W => by rw [Hz3.out]; exact ix_s b3 b2 lb3 lb2 W) ?_; simp only [Act.put, List.setIfInBounds_toArray, List.set_cons_zero, List.set_cons_succ])
      refine wpQF_nil ⟨mkF_bs3 58 (.tmp 32) (.tmp 37) (.tmp 50) rfl (.int .u8 z1) (.int .u8 z2) (.int .u8 z3) rfl rfl rfl (fun W hW => ⟨_, _, slice3 _ _ _ W, K3.made hW⟩), ?_⟩
      intro v w8 h8
      obtain ⟨g8, rfl, hbk8, hb8⟩ := h8
      have HM8 := HM2.out.below hb8
      obtain ⟨g7, cp7, w7, hrun, ho7, hc7, hb7, hz7⟩ := mappM m w w8 g cp n g8 (mlL (ndC nd) m 0) (lt1 114 b0) (lt1 119 b1) (lt4 [45, 120, 83, 115] b3 b2) z1 z2 z3 Hz1.out.symm Hz2.out.symm Hz3.out.symm HM8.bel HM8.md HM8.ow HM8.sz (by have := HN.out; omega) hbk8
      have HM7 : Hid (MJ w nd m 1 (n + 3) g7 cp7 w7) := ⟨hb7, hc7, (by rw [Hb0.out, Hb1.out, Hb2.out, Hb3.out] at ho7; exact ho7), hz7⟩
      clear ho7 hc7 hb7 hz7 HM8 hb8 hbk8 HC0 HC1 HC2 HC3 HC4 HB0 HB1 HB2 HB3 HM2 HBK HDR HR HSX
      simp only [Act.put, List.setIfInBounds_toArray, List.set_cons_zero, List.set_cons_succ]
      refine wpList_appR10 rfl (.tmp 27) (.tmp 51) 58 58 rfl (.slice (some ⟨g, 0, none⟩) n cp) (.slice (some ⟨g8, 0, none⟩) 3 3) (.slice (some ⟨g7, 0, none⟩) (n + 3) cp7) w7 rfl rfl hrun ?_
      simp only [Act.put, List.setIfInBounds_toArray, List.set_cons_zero, List.set_cons_succ]
      clear hrun
      go_wp2
      go_roundw
      case rel => exact ⟨1, n + 3, g7, cp7, rfl, rfl, by omega, by have := HN.out; show n + 3 = _; omega, HM7.out⟩
      case measure => simp [intOf]
    · have tx := tix1
      go_wp2_with fail
      obtain ⟨w2, hw2⟩ : ∃ w2, w2 = wr.alloc (.cells #[.int .i64 5, .int .i64 4, .int .i64 3, .int .i64 10, .string ⟨#[45, 120, 83, 115]⟩] 89) := ⟨_, rfl⟩
      obtain ⟨go, hgo⟩ : ∃ go, go = wr.heap.size := ⟨_, rfl⟩
      have HBK : Hid (Bk w2 go #[.int .i64 5, .int .i64 4, .int .i64 3, .int .i64 10, .string ⟨#[45, 120, 83, 115]⟩] 89) := by rw [hw2, hgo]; exact bk_new _ _ _
      have HM2 : Hid (MJ w nd m 1 n g cp w2) := by rw [hw2]; exact HR.out.below ((Below.refl _ _).alloc (Nat.le_refl _) _)
      rw [← hw2, ← hgo]
      clear hw2 hgo tx
      obtain ⟨b0, hb0⟩ : ∃ x, x = mbit m 5 := ⟨_, rfl⟩
      have lb0 : b0 < 2 := by rw [hb0]; exact mbit_lt _ _
      have Hb0 : Hid (b0 = mbit m 5) := hb0
      clear hb0
      obtain ⟨b1, hb1⟩ : ∃ x, x = mbit m 4 := ⟨_, rfl⟩
      have lb1 : b1 < 2 := by rw [hb1]; exact mbit_lt _ _
      have Hb1 : Hid (b1 = mbit m 4) := hb1
      clear hb1
      obtain ⟨b2, hb2⟩ : ∃ x, x = mbit m 3 := ⟨_, rfl⟩
      have lb2 : b2 < 2 := by rw [hb2]; exact mbit_lt _ _
      have Hb2 : Hid (b2 = mbit m 3) := hb2
      clear hb2
      obtain ⟨b3, hb3⟩ : ∃ x, x = mbit m 10 := ⟨_, rfl⟩
      have lb3 : b3 < 2 := by rw [hb3]; exact mbit_lt _ _
      have Hb3 : Hid (b3 = mbit m 10) := hb3
      clear hb3
      obtain ⟨z1, hz1⟩ : ∃ z : Int, z = ((lt1 114 b0).toNat : Int) := ⟨_, rfl⟩
      have Hz1 : Hid (z1 = ((lt1 114 b0).toNat : Int)) := hz1
      clear hz1
      obtain ⟨z2, hz2⟩ : ∃ z : Int, z = ((lt1 119 b1).toNat : Int) := ⟨_, rfl⟩
      have Hz2 : Hid (z2 = ((lt1 119 b1).toNat : Int)) := hz2
      clear hz2
      obtain ⟨z3, hz3⟩ : ∃ z : Int, z = ((lt4 [45, 120, 83, 115] b3 b2).toNat : Int) := ⟨_, rfl⟩
      have Hz3 : Hid (z3 = ((lt4 [45, 120, 83, 115] b3 b2).toNat : Int)) := hz3
      clear hz3
      have HC0 : Hid (∀ (ov : Option Value) W, K3 w2 #[.int .u8 z1, .int .u8 z2, .int .u8 z3] 5 ov W → W.cell? ⟨go, 0, none⟩ = some (.int .i64 5)) := fun ov W hW => by rw [(HBK.out.below hW.bel HBK.out.lt).cell]; rfl
      have HC1 : Hid (∀ (ov : Option Value) W, K3 w2 #[.int .u8 z1, .int .u8 z2, .int .u8 z3] 5 ov W → W.cell? ⟨go, 1, none⟩ = some (.int .i64 4)) := fun ov W hW => by rw [(HBK.out.below hW.bel HBK.out.lt).cell]; rfl
      have HC2 : Hid (∀ (ov : Option Value) W, K3 w2 #[.int .u8 z1, .int .u8 z2, .int .u8 z3] 5 ov W → W.cell? ⟨go, 2, none⟩ = some (.int .i64 3)) := fun ov W hW => by rw [(HBK.out.below hW.bel HBK.out.lt).cell]; rfl
      have HC3 : Hid (∀ (ov : Option Value) W, K3 w2 #[.int .u8 z1, .int .u8 z2, .int .u8 z3] 5 ov W → W.cell? ⟨go, 3, none⟩ = some (.int .i64 10)) := fun ov W hW => by rw [(HBK.out.below hW.bel HBK.out.lt).cell]; rfl
      have HC4 : Hid (∀ (ov : Option Value) W, K3 w2 #[.int .u8 z1, .int .u8 z2, .int .u8 z3] 5 ov W → W.cell? ⟨go, 4, none⟩ = some (.string ⟨#[45, 120, 83, 115]⟩)) := fun ov W hW => by rw [(HBK.out.below hW.bel HBK.out.lt).cell]; rfl
      have HB0 : Hid (∀ ov W, K3 w2 #[.int .u8 z1, .int .u8 z2, .int .u8 z3] 5 ov W → Calls Tryd.prog 35 #[.int .i64 5, .pointer (some ⟨w.heap.size, 0, none⟩)] W (fun e w'' => e = .returned (.int .u32 (b0 : Int)) ∧ K3 w2 #[.int .u8 z1, .int .u8 z2, .int .u8 z3] 5 ov w'')) := fun ov W hW => (bit_any 5 m w.heap.size W (by decide) HMZ.out (HM2.out.below hW.bel).md).mono fun e w' h => ⟨by rw [h.1, Hb0.out], by rw [h.2]; exact hW⟩
      have HB1 : Hid (∀ ov W, K3 w2 #[.int .u8 z1, .int .u8 z2, .int .u8 z3] 5 ov W → Calls Tryd.prog 35 #[.int .i64 4, .pointer (some ⟨w.heap.size, 0, none⟩)] W (fun e w'' => e = .returned (.int .u32 (b1 : Int)) ∧ K3 w2 #[.int .u8 z1, .int .u8 z2, .int .u8 z3] 5 ov w'')) := fun ov W hW => (bit_any 4 m w.heap.size W (by decide) HMZ.out (HM2.out.below hW.bel).md).mono fun e w' h => ⟨by rw [h.1, Hb1.out], by rw [h.2]; exact hW⟩
      have HB2 : Hid (∀ ov W, K3 w2 #[.int .u8 z1, .int .u8 z2, .int .u8 z3] 5 ov W → Calls Tryd.prog 35 #[.int .i64 3, .pointer (some ⟨w.heap.size, 0, none⟩)] W (fun e w'' => e = .returned (.int .u32 (b2 : Int)) ∧ K3 w2 #[.int .u8 z1, .int .u8 z2, .int .u8 z3] 5 ov w'')) := fun ov W hW => (bit_any 3 m w.heap.size W (by decide) HMZ.out (HM2.out.below hW.bel).md).mono fun e w' h => ⟨by rw [h.1, Hb2.out], by rw [h.2]; exact hW⟩
      have HB3 : Hid (∀ ov W, K3 w2 #[.int .u8 z1, .int .u8 z2, .int .u8 z3] 5 ov W → Calls Tryd.prog 35 #[.int .i64 10, .pointer (some ⟨w.heap.size, 0, none⟩)] W (fun e w'' => e = .returned (.int .u32 (b3 : Int)) ∧ K3 w2 #[.int .u8 z1, .int .u8 z2, .int .u8 z3] 5 ov w'')) := fun ov W hW => (bit_any 10 m w.heap.size W (by decide) HMZ.out (HM2.out.below hW.bel).md).mono fun e w' h => ⟨by rw [h.1, Hb3.out], by rw [h.2]; exact hW⟩
      have HSX : Hid (bits .or .u32 ((2 * b3 : Nat) : Int) (b2 : Int) = ((2 * b3 + b2 : Nat) : Int)) := or_sx _ _ lb3 lb2
      have HSH : Hid (IntKind.u32.wrap ((b3 : Int) * 2) = 2 * (b3 : Int)) := wr_two b3 lb3
      have HDR : Hid (K3 w2 #[.int .u8 z1, .int .u8 z2, .int .u8 z3] 5 none w2.drew) := (Below.refl _ _).drew
      refine wp_region_mk (K3 w2 #[.int .u8 z1, .int .u8 z2, .int .u8 z3] 5) 25 24 _ (by kernel_rfl) (by kernel_rfl) rfl rfl HDR.out ?_
      simp only [List.take_succ_cons, List.take_zero, List.drop_succ_cons, List.drop_zero, skipL, Nat.reduceAdd, Nat.reduceBEq, Bool.false_eq_true, if_false, if_true]
      (refine wpQF_val rfl (.slice (some ⟨g, 0, none⟩) n cp) (fun ov W hW => by go_simp) ?_; simp only [Act.put, List.setIfInBounds_toArray, List.set_cons_zero, List.set_cons_succ])
      (refine wpQF_val rfl (.func (.func 35) #[] #[.pointer (some ⟨w.heap.size, 0, none⟩)]) (fun ov W hW => by go_simp) ?_; simp only [Act.put, List.setIfInBounds_toArray, List.set_cons_zero, List.set_cons_succ])
      (refine wpQF_val rfl (.pointer (some ⟨go, 0, none⟩)) (fun ov W hW => by go_simp) ?_; simp only [Act.put, List.setIfInBounds_toArray, List.set_cons_zero, List.set_cons_succ])
      (refine wpQF_one rfl 3 (.tmp 29) rfl go 0 (.int .i64 5) rfl isagg_i64 HC0.out ?_; simp only [Act.put, List.setIfInBounds_toArray, List.set_cons_zero, List.set_cons_succ])
      (refine wpQF_call rfl (.int .u32 (b0 : Int)) 35 #[.int .i64 5, .pointer (some ⟨w.heap.size, 0, none⟩)] (fun ov W hW => by go_simp) HB0.out ?_; simp only [Act.put, List.setIfInBounds_toArray, List.set_cons_zero, List.set_cons_succ])
      (refine wpQF_ix rfl 9 (.const (.string ⟨#[45, 114]⟩)) (.tmp 31) rfl (.string ⟨#[45, 114]⟩) (.int .u32 (b0 : Int)) (.int .u8 z1) rfl rfl (fun W => by rw [Hz1.out]; exact ix_r b0 lb0 W) ?_; simp only [Act.put, List.setIfInBounds_toArray, List.set_cons_zero, List.set_cons_succ])
      (refine wpQF_val rfl (.func (.func 35) #[] #[.pointer (some ⟨w.heap.size, 0, none⟩)]) (fun ov W hW => by go_simp) ?_; simp only [Act.put, List.setIfInBounds_toArray, List.set_cons_zero, List.set_cons_succ])
      (refine wpQF_val rfl (.pointer (some ⟨go, 1, none⟩)) (fun ov W hW => by go_simp) ?_; simp only [Act.put, List.setIfInBounds_toArray, List.set_cons_zero, List.set_cons_succ])
      (refine wpQF_one rfl 3 (.tmp 34) rfl go 1 (.int .i64 4) rfl isagg_i64 HC1.out ?_; simp only [Act.put, List.setIfInBounds_toArray, List.set_cons_zero, List.set_cons_succ])
      (refine wpQF_call rfl (.int .u32 (b1 : Int)) 35 #[.int .i64 4, .pointer (some ⟨w.heap.size, 0, none⟩)] (fun ov W hW => by go_simp) HB1.out ?_; simp only [Act.put, List.setIfInBounds_toArray, List.set_cons_zero, List.set_cons_succ])
      (refine wpQF_ix rfl 9 (.const (.string ⟨#[45, 119]⟩)) (.tmp 36) rfl (.string ⟨#[45, 119]⟩) (.int .u32 (b1 : Int)) (.int .u8 z2) rfl rfl (fun W => by rw [Hz2.out]; exact ix_w b1 lb1 W) ?_; simp only [Act.put, List.setIfInBounds_toArray, List.set_cons_zero, List.set_cons_succ])
      (refine wpQF_val rfl (.pointer (some ⟨go, 4, none⟩)) (fun ov W hW => by go_simp) ?_; simp only [Act.put, List.setIfInBounds_toArray, List.set_cons_zero, List.set_cons_succ])
      (refine wpQF_one rfl 9 (.tmp 38) rfl go 4 (.string ⟨#[45, 120, 83, 115]⟩) rfl isagg_str10 HC4.out ?_; simp only [Act.put, List.setIfInBounds_toArray, List.set_cons_zero, List.set_cons_succ])
      (refine wpQF_val rfl (.func (.func 35) #[] #[.pointer (some ⟨w.heap.size, 0, none⟩)]) (fun ov W hW => by go_simp) ?_; simp only [Act.put, List.setIfInBounds_toArray, List.set_cons_zero, List.set_cons_succ])
      (refine wpQF_val rfl (.pointer (some ⟨go, 3, none⟩)) (fun ov W hW => by go_simp) ?_; simp only [Act.put, List.setIfInBounds_toArray, List.set_cons_zero, List.set_cons_succ])
      (refine wpQF_one rfl 3 (.tmp 41) rfl go 3 (.int .i64 10) rfl isagg_i64 HC3.out ?_; simp only [Act.put, List.setIfInBounds_toArray, List.set_cons_zero, List.set_cons_succ])
      (refine wpQF_call rfl (.int .u32 (b3 : Int)) 35 #[.int .i64 10, .pointer (some ⟨w.heap.size, 0, none⟩)] (fun ov W hW => by go_simp) HB3.out ?_; simp only [Act.put, List.setIfInBounds_toArray, List.set_cons_zero, List.set_cons_succ])
      (refine wpQF_val rfl (.int .u32 ((2 * b3 : Nat) : Int)) (fun ov W hW => by go_simp; (first | done | exact HSH.out)) ?_; simp only [Act.put, List.setIfInBounds_toArray, List.set_cons_zero, List.set_cons_succ])
      (refine wpQF_val rfl (.func (.func 35) #[] #[.pointer (some ⟨w.heap.size, 0, none⟩)]) (fun ov W hW => by go_simp) ?_; simp only [Act.put, List.setIfInBounds_toArray, List.set_cons_zero, List.set_cons_succ])
      (refine wpQF_val rfl (.pointer (some ⟨go, 2, none⟩)) (fun ov W hW => by go_simp) ?_; simp only [Act.put, List.setIfInBounds_toArray, List.set_cons_zero, List.set_cons_succ])
      (refine wpQF_one rfl 3 (.tmp 46) rfl go 2 (.int .i64 3) rfl isagg_i64 HC2.out ?_; simp only [Act.put, List.setIfInBounds_toArray, List.set_cons_zero, List.set_cons_succ])
      (refine wpQF_call rfl (.int .u32 (b2 : Int)) 35 #[.int .i64 3, .pointer (some ⟨w.heap.size, 0, none⟩)] (fun ov W hW => by go_simp) HB2.out ?_; simp only [Act.put, List.setIfInBounds_toArray, List.set_cons_zero, List.set_cons_succ])
      (refine wpQF_val rfl (.int .u32 ((2 * b3 + b2 : Nat) : Int)) (fun ov W hW => by go_simp; (first | done | exact HSX.out | (push_cast at HSX; exact HSX.out))) ?_; simp only [Act.put, List.setIfInBounds_toArray, List.set_cons_zero, List.set_cons_succ])
      (refine wpQF_ix rfl 9 (.tmp 39) (.tmp 49) rfl (.string ⟨#[45, 120, 83, 115]⟩) (.int .u32 ((2 * b3 + b2 : Nat) : Int)) (.int .u8 z3) rfl rfl (fun W => by rw [Hz3.out]; exact ix_s b3 b2 lb3 lb2 W) ?_; simp only [Act.put, List.setIfInBounds_toArray, List.set_cons_zero, List.set_cons_succ])
      refine wpQF_nil ⟨mkF_bs3 58 (.tmp 32) (.tmp 37) (.tmp 50) rfl (.int .u8 z1) (.int .u8 z2) (.int .u8 z3) rfl rfl rfl (fun W hW => ⟨_, _, slice3 _ _ _ W, K3.made hW⟩), ?_⟩
      intro v w8 h8
      obtain ⟨g8, rfl, hbk8, hb8⟩ := h8
      have HM8 := HM2.out.below hb8
      obtain ⟨g7, cp7, w7, hrun, ho7, hc7, hb7, hz7⟩ := mappM m w w8 g cp n g8 (mlL (ndC nd) m 1) (lt1 114 b0) (lt1 119 b1) (lt4 [45, 120, 83, 115] b3 b2) z1 z2 z3 Hz1.out.symm Hz2.out.symm Hz3.out.symm HM8.bel HM8.md HM8.ow HM8.sz (by have := HN.out; omega) hbk8
      have HM7 : Hid (MJ w nd m 2 (n + 3) g7 cp7 w7) := ⟨hb7, hc7, (by rw [Hb0.out, Hb1.out, Hb2.out, Hb3.out] at ho7; exact ho7), hz7⟩
      clear ho7 hc7 hb7 hz7 HM8 hb8 hbk8 HC0 HC1 HC2 HC3 HC4 HB0 HB1 HB2 HB3 HM2 HBK HDR HR HSX
      simp only [Act.put, List.setIfInBounds_toArray, List.set_cons_zero, List.set_cons_succ]
      refine wpList_appR10 rfl (.tmp 27) (.tmp 51) 58 58 rfl (.slice (some ⟨g, 0, none⟩) n cp) (.slice (some ⟨g8, 0, none⟩) 3 3) (.slice (some ⟨g7, 0, none⟩) (n + 3) cp7) w7 rfl rfl hrun ?_
      simp only [Act.put, List.setIfInBounds_toArray, List.set_cons_zero, List.set_cons_succ]
      clear hrun
      go_wp2
      go_roundw
      case rel => exact ⟨2, n + 3, g7, cp7, rfl, rfl, by omega, by have := HN.out; show n + 3 = _; omega, HM7.out⟩
      case measure => simp [intOf]
    · have tx := tix2
      go_wp2_with fail
      obtain ⟨w2, hw2⟩ : ∃ w2, w2 = wr.alloc (.cells #[.int .i64 2, .int .i64 1, .int .i64 0, .int .i64 9, .string ⟨#[45, 120, 84, 116]⟩] 89) := ⟨_, rfl⟩
      obtain ⟨go, hgo⟩ : ∃ go, go = wr.heap.size := ⟨_, rfl⟩
      have HBK : Hid (Bk w2 go #[.int .i64 2, .int .i64 1, .int .i64 0, .int .i64 9, .string ⟨#[45, 120, 84, 116]⟩] 89) := by rw [hw2, hgo]; exact bk_new _ _ _
      have HM2 : Hid (MJ w nd m 2 n g cp w2) := by rw [hw2]; exact HR.out.below ((Below.refl _ _).alloc (Nat.le_refl _) _)
      rw [← hw2, ← hgo]
      clear hw2 hgo tx
      obtain ⟨b0, hb0⟩ : ∃ x, x = mbit m 2 := ⟨_, rfl⟩
      have lb0 : b0 < 2 := by rw [hb0]; exact mbit_lt _ _
      have Hb0 : Hid (b0 = mbit m 2) := hb0
      clear hb0
      obtain ⟨b1, hb1⟩ : ∃ x, x = mbit m 1 := ⟨_, rfl⟩
      have lb1 : b1 < 2 := by rw [hb1]; exact mbit_lt _ _
      have Hb1 : Hid (b1 = mbit m 1) := hb1
      clear hb1
      obtain ⟨b2, hb2⟩ : ∃ x, x = mbit m 0 := ⟨_, rfl⟩
      have lb2 : b2 < 2 := by rw [hb2]; exact mbit_lt _ _
      have Hb2 : Hid (b2 = mbit m 0) := hb2
      clear hb2
      obtain ⟨b3, hb3⟩ : ∃ x, x = mbit m 9 := ⟨_, rfl⟩
      have lb3 : b3 < 2 := by rw [hb3]; exact mbit_lt _ _
      have Hb3 : Hid (b3 = mbit m 9) := hb3
      clear hb3
      obtain ⟨z1, hz1⟩ : ∃ z : Int, z = ((lt1 114 b0).toNat : Int) := ⟨_, rfl⟩
      have Hz1 : Hid (z1 = ((lt1 114 b0).toNat : Int)) := hz1
      clear hz1
      obtain ⟨z2, hz2⟩ : ∃ z : Int, z = ((lt1 119 b1).toNat : Int) := ⟨_, rfl⟩
      have Hz2 : Hid (z2 = ((lt1 119 b1).toNat : Int)) := hz2
      clear hz2
      obtain ⟨z3, hz3⟩ : ∃ z : Int, z = ((lt4 [45, 120, 84, 116] b3 b2).toNat : Int) := ⟨_, rfl⟩
      have Hz3 : Hid (z3 = ((lt4 [45, 120, 84, 116] b3 b2).toNat : Int)) := hz3
      clear hz3
      have HC0 : Hid (∀ (ov : Option Value) W, K3 w2 #[.int .u8 z1, .int .u8 z2, .int .u8 z3] 5 ov W → W.cell? ⟨go, 0, none⟩ = some (.int .i64 2)) := fun ov W hW => by rw [(HBK.out.below hW.bel HBK.out.lt).cell]; rfl
      have HC1 : Hid (∀ (ov : Option Value) W, K3 w2 #[.int .u8 z1, .int .u8 z2, .int .u8 z3] 5 ov W → W.cell? ⟨go, 1, none⟩ = some (.int .i64 1)) := fun ov W hW => by rw [(HBK.out.below hW.bel HBK.out.lt).cell]; rfl
      have HC2 : Hid (∀ (ov : Option Value) W, K3 w2 #[.int .u8 z1, .int .u8 z2, .int .u8 z3] 5 ov W → W.cell? ⟨go, 2, none⟩ = some (.int .i64 0)) := fun ov W hW => by rw [(HBK.out.below hW.bel HBK.out.lt).cell]; rfl
      have HC3 : Hid (∀ (ov : Option Value) W, K3 w2 #[.int .u8 z1, .int .u8 z2, .int .u8 z3] 5 ov W → W.cell? ⟨go, 3, none⟩ = some (.int .i64 9)) := fun ov W hW => by rw [(HBK.out.below hW.bel HBK.out.lt).cell]; rfl
      have HC4 : Hid (∀ (ov : Option Value) W, K3 w2 #[.int .u8 z1, .int .u8 z2, .int .u8 z3] 5 ov W → W.cell? ⟨go, 4, none⟩ = some (.string ⟨#[45, 120, 84, 116]⟩)) := fun ov W hW => by rw [(HBK.out.below hW.bel HBK.out.lt).cell]; rfl
      have HB0 : Hid (∀ ov W, K3 w2 #[.int .u8 z1, .int .u8 z2, .int .u8 z3] 5 ov W → Calls Tryd.prog 35 #[.int .i64 2, .pointer (some ⟨w.heap.size, 0, none⟩)] W (fun e w'' => e = .returned (.int .u32 (b0 : Int)) ∧ K3 w2 #[.int .u8 z1, .int .u8 z2, .int .u8 z3] 5 ov w'')) := fun ov W hW => (bit_any 2 m w.heap.size W (by decide) HMZ.out (HM2.out.below hW.bel).md).mono fun e w' h => ⟨by rw [h.1, Hb0.out], by rw [h.2]; exact hW⟩
      have HB1 : Hid (∀ ov W, K3 w2 #[.int .u8 z1, .int .u8 z2, .int .u8 z3] 5 ov W → Calls Tryd.prog 35 #[.int .i64 1, .pointer (some ⟨w.heap.size, 0, none⟩)] W (fun e w'' => e = .returned (.int .u32 (b1 : Int)) ∧ K3 w2 #[.int .u8 z1, .int .u8 z2, .int .u8 z3] 5 ov w'')) := fun ov W hW => (bit_any 1 m w.heap.size W (by decide) HMZ.out (HM2.out.below hW.bel).md).mono fun e w' h => ⟨by rw [h.1, Hb1.out], by rw [h.2]; exact hW⟩
      have HB2 : Hid (∀ ov W, K3 w2 #[.int .u8 z1, .int .u8 z2, .int .u8 z3] 5 ov W → Calls Tryd.prog 35 #[.int .i64 0, .pointer (some ⟨w.heap.size, 0, none⟩)] W (fun e w'' => e = .returned (.int .u32 (b2 : Int)) ∧ K3 w2 #[.int .u8 z1, .int .u8 z2, .int .u8 z3] 5 ov w'')) := fun ov W hW => (bit_any 0 m w.heap.size W (by decide) HMZ.out (HM2.out.below hW.bel).md).mono fun e w' h => ⟨by rw [h.1, Hb2.out], by rw [h.2]; exact hW⟩
      have HB3 : Hid (∀ ov W, K3 w2 #[.int .u8 z1, .int .u8 z2, .int .u8 z3] 5 ov W → Calls Tryd.prog 35 #[.int .i64 9, .pointer (some ⟨w.heap.size, 0, none⟩)] W (fun e w'' => e = .returned (.int .u32 (b3 : Int)) ∧ K3 w2 #[.int .u8 z1, .int .u8 z2, .int .u8 z3] 5 ov w'')) := fun ov W hW => (bit_any 9 m w.heap.size W (by decide) HMZ.out (HM2.out.below hW.bel).md).mono fun e w' h => ⟨by rw [h.1, Hb3.out], by rw [h.2]; exact hW⟩
      have HSX : Hid (bits .or .u32 ((2 * b3 : Nat) : Int) (b2 : Int) = ((2 * b3 + b2 : Nat) : Int)) := or_sx _ _ lb3 lb2
      have HSH : Hid (IntKind.u32.wrap ((b3 : Int) * 2) = 2 * (b3 : Int)) := wr_two b3 lb3
      have HDR : Hid (K3 w2 #[.int .u8 z1, .int .u8 z2, .int .u8 z3] 5 none w2.drew) := (Below.refl _ _).drew
      refine wp_region_mk (K3 w2 #[.int .u8 z1, .int .u8 z2, .int .u8 z3] 5) 25 24 _ (by kernel_rfl) (by kernel_rfl) rfl rfl HDR.out ?_
      simp only [List.take_succ_cons, List.take_zero, List.drop_succ_cons, List.drop_zero, skipL, Nat.reduceAdd, Nat.reduceBEq, Bool.false_eq_true, if_false, if_true]
      (refine wpQF_val rfl (.slice (some ⟨g, 0, none⟩) n cp) (fun ov W hW => by go_simp) ?_; simp only [Act.put, List.setIfInBounds_toArray, List.set_cons_zero, List.set_cons_succ])
      (refine wpQF_val rfl (.func (.func 35) #[] #[.pointer (some ⟨w.heap.size, 0, none⟩)]) (fun ov W hW => by go_simp) ?_; simp only [Act.put, List.setIfInBounds_toArray, List.set_cons_zero, List.set_cons_succ])
      (refine wpQF_val rfl (.pointer (some ⟨go, 0, none⟩)) (fun ov W hW => by go_simp) ?_; simp only [Act.put, List.setIfInBounds_toArray, List.set_cons_zero, List.set_cons_succ])
      (refine wpQF_one rfl 3 (.tmp 29) rfl go 0 (.int .i64 2) rfl isagg_i64 HC0.out ?_; simp only [Act.put, List.setIfInBounds_toArray, List.set_cons_zero, List.set_cons_succ])
      (refine wpQF_call rfl (.int .u32 (b0 : Int)) 35 #[.int .i64 2, .pointer (some ⟨w.heap.size, 0, none⟩)] (fun ov W hW => by go_simp) HB0.out ?_; simp only [Act.put, List.setIfInBounds_toArray, List.set_cons_zero, List.set_cons_succ])
      (refine wpQF_ix rfl 9 (.const (.string ⟨#[45, 114]⟩)) (.tmp 31) rfl (.string ⟨#[45, 114]⟩) (.int .u32 (b0 : Int)) (.int .u8 z1) rfl rfl (fun W => by rw [Hz1.out]; exact ix_r b0 lb0 W) ?_; simp only [Act.put, List.setIfInBounds_toArray, List.set_cons_zero, List.set_cons_succ])
      (refine wpQF_val rfl (.func (.func 35) #[] #[.pointer (some ⟨w.heap.size, 0, none⟩)]) (fun ov W hW => by go_simp) ?_; simp only [Act.put, List.setIfInBounds_toArray, List.set_cons_zero, List.set_cons_succ])
      (refine wpQF_val rfl (.pointer (some ⟨go, 1, none⟩)) (fun ov W hW => by go_simp) ?_; simp only [Act.put, List.setIfInBounds_toArray, List.set_cons_zero, List.set_cons_succ])
      (refine wpQF_one rfl 3 (.tmp 34) rfl go 1 (.int .i64 1) rfl isagg_i64 HC1.out ?_; simp only [Act.put, List.setIfInBounds_toArray, List.set_cons_zero, List.set_cons_succ])
      (refine wpQF_call rfl (.int .u32 (b1 : Int)) 35 #[.int .i64 1, .pointer (some ⟨w.heap.size, 0, none⟩)] (fun ov W hW => by go_simp) HB1.out ?_; simp only [Act.put, List.setIfInBounds_toArray, List.set_cons_zero, List.set_cons_succ])
      (refine wpQF_ix rfl 9 (.const (.string ⟨#[45, 119]⟩)) (.tmp 36) rfl (.string ⟨#[45, 119]⟩) (.int .u32 (b1 : Int)) (.int .u8 z2) rfl rfl (fun W => by rw [Hz2.out]; exact ix_w b1 lb1 W) ?_; simp only [Act.put, List.setIfInBounds_toArray, List.set_cons_zero, List.set_cons_succ])
      (refine wpQF_val rfl (.pointer (some ⟨go, 4, none⟩)) (fun ov W hW => by go_simp) ?_; simp only [Act.put, List.setIfInBounds_toArray, List.set_cons_zero, List.set_cons_succ])
      (refine wpQF_one rfl 9 (.tmp 38) rfl go 4 (.string ⟨#[45, 120, 84, 116]⟩) rfl isagg_str10 HC4.out ?_; simp only [Act.put, List.setIfInBounds_toArray, List.set_cons_zero, List.set_cons_succ])
      (refine wpQF_val rfl (.func (.func 35) #[] #[.pointer (some ⟨w.heap.size, 0, none⟩)]) (fun ov W hW => by go_simp) ?_; simp only [Act.put, List.setIfInBounds_toArray, List.set_cons_zero, List.set_cons_succ])
      (refine wpQF_val rfl (.pointer (some ⟨go, 3, none⟩)) (fun ov W hW => by go_simp) ?_; simp only [Act.put, List.setIfInBounds_toArray, List.set_cons_zero, List.set_cons_succ])
      (refine wpQF_one rfl 3 (.tmp 41) rfl go 3 (.int .i64 9) rfl isagg_i64 HC3.out ?_; simp only [Act.put, List.setIfInBounds_toArray, List.set_cons_zero, List.set_cons_succ])
      (refine wpQF_call rfl (.int .u32 (b3 : Int)) 35 #[.int .i64 9, .pointer (some ⟨w.heap.size, 0, none⟩)] (fun ov W hW => by go_simp) HB3.out ?_; simp only [Act.put, List.setIfInBounds_toArray, List.set_cons_zero, List.set_cons_succ])
      (refine wpQF_val rfl (.int .u32 ((2 * b3 : Nat) : Int)) (fun ov W hW => by go_simp; (first | done | exact HSH.out)) ?_; simp only [Act.put, List.setIfInBounds_toArray, List.set_cons_zero, List.set_cons_succ])
      (refine wpQF_val rfl (.func (.func 35) #[] #[.pointer (some ⟨w.heap.size, 0, none⟩)]) (fun ov W hW => by go_simp) ?_; simp only [Act.put, List.setIfInBounds_toArray, List.set_cons_zero, List.set_cons_succ])
      (refine wpQF_val rfl (.pointer (some ⟨go, 2, none⟩)) (fun ov W hW => by go_simp) ?_; simp only [Act.put, List.setIfInBounds_toArray, List.set_cons_zero, List.set_cons_succ])
      (refine wpQF_one rfl 3 (.tmp 46) rfl go 2 (.int .i64 0) rfl isagg_i64 HC2.out ?_; simp only [Act.put, List.setIfInBounds_toArray, List.set_cons_zero, List.set_cons_succ])
      (refine wpQF_call rfl (.int .u32 (b2 : Int)) 35 #[.int .i64 0, .pointer (some ⟨w.heap.size, 0, none⟩)] (fun ov W hW => by go_simp) HB2.out ?_; simp only [Act.put, List.setIfInBounds_toArray, List.set_cons_zero, List.set_cons_succ])
      (refine wpQF_val rfl (.int .u32 ((2 * b3 + b2 : Nat) : Int)) (fun ov W hW => by go_simp; (first | done | exact HSX.out | (push_cast at HSX; exact HSX.out))) ?_; simp only [Act.put, List.setIfInBounds_toArray, List.set_cons_zero, List.set_cons_succ])
      (refine wpQF_ix rfl 9 (.tmp 39) (.tmp 49) rfl (.string ⟨#[45, 120, 84, 116]⟩) (.int .u32 ((2 * b3 + b2 : Nat) : Int)) (.int .u8 z3) rfl rfl (fun W => by rw [Hz3.out]; exact ix_t b3 b2 lb3 lb2 W) ?_; simp only [Act.put, List.setIfInBounds_toArray, List.set_cons_zero, List.set_cons_succ])
      refine wpQF_nil ⟨mkF_bs3 58 (.tmp 32) (.tmp 37) (.tmp 50) rfl (.int .u8 z1) (.int .u8 z2) (.int .u8 z3) rfl rfl rfl (fun W hW => ⟨_, _, slice3 _ _ _ W, K3.made hW⟩), ?_⟩
      intro v w8 h8
      obtain ⟨g8, rfl, hbk8, hb8⟩ := h8
      have HM8 := HM2.out.below hb8
      obtain ⟨g7, cp7, w7, hrun, ho7, hc7, hb7, hz7⟩ := mappM m w w8 g cp n g8 (mlL (ndC nd) m 2) (lt1 114 b0) (lt1 119 b1) (lt4 [45, 120, 84, 116] b3 b2) z1 z2 z3 Hz1.out.symm Hz2.out.symm Hz3.out.symm HM8.bel HM8.md HM8.ow HM8.sz (by have := HN.out; omega) hbk8
      have HM7 : Hid (MJ w nd m 3 (n + 3) g7 cp7 w7) := ⟨hb7, hc7, (by rw [Hb0.out, Hb1.out, Hb2.out, Hb3.out] at ho7; exact ho7), hz7⟩
      clear ho7 hc7 hb7 hz7 HM8 hb8 hbk8 HC0 HC1 HC2 HC3 HC4 HB0 HB1 HB2 HB3 HM2 HBK HDR HR HSX
      simp only [Act.put, List.setIfInBounds_toArray, List.set_cons_zero, List.set_cons_succ]
      refine wpList_appR10 rfl (.tmp 27) (.tmp 51) 58 58 rfl (.slice (some ⟨g, 0, none⟩) n cp) (.slice (some ⟨g8, 0, none⟩) 3 3) (.slice (some ⟨g7, 0, none⟩) (n + 3) cp7) w7 rfl rfl hrun ?_
      simp only [Act.put, List.setIfInBounds_toArray, List.set_cons_zero, List.set_cons_succ]
      clear hrun
      go_wp2
      go_roundw
      case rel => exact ⟨3, n + 3, g7, cp7, rfl, rfl, by omega, by have := HN.out; show n + 3 = _; omega, HM7.out⟩
      case measure => simp [intOf]
    · have hcv := conv10 HR.out.ow
      go_wp2
      go_ret2
      exact ⟨rfl, HR.out.bel⟩
end Go.Proofs.YtcfniaknbbgheaaDoor
