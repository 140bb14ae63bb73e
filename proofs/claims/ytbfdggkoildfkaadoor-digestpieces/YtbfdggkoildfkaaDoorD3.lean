/- digest.State.spread: a block's numbers. -/
import Derived.Test.YtbfdggkoildfkaaDoorD2
import Derived.BigRegion
import Derived.Laws.CopyOwn
import Derived.Maps.AppendAt
import Derived.Maps.Range
namespace Go.Proofs.YtbfdggkoildfkaaDoor
open Go.RowKit
set_option linter.unusedSimpArgs false
set_option linter.unusedVariables false
/-- What lies in memory while the numbers are made: k of them are there. -/
structure Sp (w : World) (m : List Nat) (k : Nat) (C : Array Value) (wr : World) : Prop where
  blk : Blk wr (w.heap.size + 1) C 58
  res : ∃ Z : Array Value, Blk wr w.heap.size Z 58 ∧ Z.size = 64
  size : wr.heap.size = w.heap.size + 2
  grown : w.grownBy wr none
  csz : C.size = 64
  got : ∀ j, j < k → C[j]? = some (c32 ((sch m 64).getD j 0))
  all : ∀ j, j < 64 → ∃ x : BitVec 32, C[j]? = some (c32 x)
theorem sizeOf_u8' (w : World) : (sizeOf 5).run Tryd.prog w = .ok 1 w := by
  have h : (Tryd.prog.info? 5).map (·.size) = some 1 := by kernel_rfl
  cases hq : Tryd.prog.info? 5 with
  | none => simp [hq] at h
  | some i => simp [hq] at h; simp [sizeOf, typeInfo, hq, h]
theorem slice64 (b o k : Nat) (hk : k < 16) (w : World) :
    (Instr.sliceAt 50 (.pointer (some ⟨b, o, none⟩)) (some (.int .i64 (4 * (k : Int)))) (some (.int .i64 (4 * (k : Int) + 4))) none).run Tryd.prog w = .ok (.slice (some ⟨b, o + 4 * k, none⟩) 4 (64 - 4 * k)) w := by
  have e1 : Tryd.prog.elem 50 = 5 := by kernel_rfl
  have e2 : Tryd.prog.arrayLen 50 = 64 := by kernel_rfl
  have e0 : Tryd.prog.underlying 50 = some (.array (Tryd.prog.arrayLen 50) (Tryd.prog.elem 50)) := by kernel_rfl
  rw [run_sliceAt_array_lh (P := Tryd.prog) w 50 ⟨b, o, none⟩ e0 .i64 .i64 (4 * (k : Int)) (4 * (k : Int) + 4) (by omega) (by omega) (by rw [e2]; omega)]
  rw [e1, e2, sizeOf_u8']
  simp only [slicedAt, Result.andThen, Addr.add_mid]
  rw [show (4 * (k : Int) + 4).toNat = 4 * k + 4 from by omega, show (4 * (k : Int)).toNat = 4 * k from by omega]
  have e3 : ¬ 64 = 4 * k := by omega
  simp only [Nat.mul_one, Nat.add_sub_cancel_left, e3, if_false]
theorem sh_raw (a c k : Nat) (hc : c = 2 ^ k) : (a : Int) % 4294967296 * (c : Int) % 4294967296 = ((BitVec.ofNat 32 a <<< k).toNat : Int) := by
  rw [BitVec.toNat_shiftLeft, BitVec.toNat_ofNat, Nat.shiftLeft_eq, ← hc]
  show _ = ((a % 4294967296 * c % 4294967296 : Nat) : Int)
  simp only [Int.natCast_emod, Int.natCast_mul]
  rfl
theorem lo_raw (a : Nat) : (a : Int) % 4294967296 = ((BitVec.ofNat 32 a).toNat : Int) := by
  rw [BitVec.toNat_ofNat]; simp
theorem be4_raw (a b c d : Nat) : bits .or .u32 (bits .or .u32 (bits .or .u32 ((a : Int) % 4294967296 * 16777216 % 4294967296) ((b : Int) % 4294967296 * 65536 % 4294967296)) ((c : Int) % 4294967296 * 256 % 4294967296)) ((d : Int) % 4294967296) = ((be4 a b c d).toNat : Int) := by
  have h1 := sh_raw a 16777216 24 (by decide)
  have h2 := sh_raw b 65536 16 (by decide)
  have h3 := sh_raw c 256 8 (by decide)
  rw [show ((16777216 : Nat) : Int) = 16777216 from rfl] at h1
  rw [show ((65536 : Nat) : Int) = 65536 from rfl] at h2
  rw [show ((256 : Nat) : Int) = 256 from rfl] at h3
  rw [h1, h2, h3, lo_raw, or32, or32, or32, be4]
theorem Sp.drew {w : World} {m : List Nat} {k : Nat} {C : Array Value} {wr : World} (h : Sp w m k C wr) : Sp w m k C wr.drew :=
  ⟨h.blk, h.res, h.size, Lib.Hx.grownBy_drew h.grown, h.csz, h.got, h.all⟩
theorem Sp.drewN {w : World} {m : List Nat} {k : Nat} {C : Array Value} {wr : World} (h : Sp w m k C wr) (n : Nat) : Sp w m k C (wr.drewN n) := by
  induction n with
  | zero => exact h
  | succ n ih => exact ih.drew
/-- One number more is laid. -/
theorem Sp.put {w : World} {m : List Nat} {k : Nat} {C : Array Value} {wr : World} (h : Sp w m k C wr) (hk : k < 64) (x : BitVec 32) (hx : (sch m 64).getD k 0 = x) :
    Sp w m (k + 1) (C.setIfInBounds k (c32 x)) (wr.setCell ⟨w.heap.size + 1, k, none⟩ (c32 x)) where
  blk := h.blk.set k _
  res := by
    obtain ⟨Z, h1, h2⟩ := h.res
    exact ⟨Z, by unfold Blk; rw [heap_setCell_other _ _ _ _ (by simp)]; exact h1, h2⟩
  size := by rw [World.size_setCell]; exact h.size
  grown := by
    refine h.grown.andThen (row' := some (w.heap.size + 1)) (Lib.grownBy_setCell _ _ _ _) ?_
    intro j hj; left; simp at hj; omega
  csz := by rw [Array.size_setIfInBounds]; exact h.csz
  got := fun j hj => by
    rw [Array.getElem?_setIfInBounds]
    split
    · rename_i e; subst e; rw [if_pos (by rw [h.csz]; exact hk), hx]
    · exact h.got j (by omega)
  all := fun j hj => by
    rw [Array.getElem?_setIfInBounds]
    split
    · exact ⟨x, by rw [if_pos (by rw [h.csz]; omega)]⟩
    · exact h.all j hj
theorem Sp.word {w : World} {m : List Nat} {k : Nat} {C : Array Value} {wr : World} (h : Sp w m k C wr) (j : Nat) (hj : j < k) :
    ∃ y : BitVec 32, wr.cell? ⟨w.heap.size + 1, j, none⟩ = some (c32 y) ∧ Hid (y = (sch m 64).getD j 0) := ⟨_, by rw [h.blk.cell, h.got j hj], rfl⟩
theorem Sp.one {w : World} {m : List Nat} {k : Nat} {C : Array Value} {wr : World} (h : Sp w m k C wr) : C.all (·.oneCell') = true := by
  rw [Array.all_eq_true]
  intro i hi
  obtain ⟨x, hx⟩ := h.all i (by have := h.csz; omega)
  rw [Array.getElem?_eq_getElem hi] at hx
  rw [Option.some.inj hx]; rfl
theorem Sp.whole {w : World} {m : List Nat} {C : Array Value} {wr : World} (h : Sp w m 64 C wr) : C = ((sch m 64).map c32).toArray := by
  apply Array.ext_getElem?
  intro i
  by_cases hi : i < 64
  · rw [h.got i hi]
    simp only [List.getElem?_toArray, List.getElem?_map, List.getD]
    rw [List.getElem?_eq_getElem (by rw [sch_length]; exact hi)]
    rfl
  · rw [Array.getElem?_eq_none (by rw [h.csz]; omega), Array.getElem?_eq_none (by simp [sch_length]; omega)]
theorem sH_raw (y : BitVec 32) : bits .xor .u32 (bits .xor .u32 ((rr 17 y).toNat : Int) ((rr 19 y).toNat : Int)) ((y.toNat : Int) / 1024) = ((sgH y).toNat : Int) := by
  have h := shr_raw y 10
  rw [show ((2 : Int) ^ 10) = 1024 from by decide] at h
  rw [h, xor32, xor32, sgH]
theorem sL_raw (y : BitVec 32) : bits .xor .u32 (bits .xor .u32 ((rr 7 y).toNat : Int) ((rr 18 y).toNat : Int)) ((y.toNat : Int) / 8) = ((sgL y).toNat : Int) := by
  have h := shr_raw y 3
  rw [show ((2 : Int) ^ 3) = 8 from by decide] at h
  rw [h, xor32, xor32, sgL]
theorem wn_raw (y1 y2 y0 y3 : BitVec 32) : (bits .xor .u32 (bits .xor .u32 ((rr 17 y1).toNat : Int) ((rr 19 y1).toNat : Int)) ((y1.toNat : Int) / 1024) + (y2.toNat : Int) + bits .xor .u32 (bits .xor .u32 ((rr 7 y0).toNat : Int) ((rr 18 y0).toNat : Int)) ((y0.toNat : Int) / 8) + (y3.toNat : Int)) % 4294967296 = ((sgH y1 + y2 + sgL y0 + y3).toNat : Int) := by
  rw [sH_raw, sL_raw]
  simp only [BitVec.toNat_add]
  omega
theorem info_64 (C : Array Value) (h : C.size = 64) : (Tryd.prog.info? 58).map (·.size) = some C.size := by
  have : (Tryd.prog.info? 58).map (·.size) = some 64 := by kernel_rfl
  rw [this, h]
theorem blk_old (w : World) (o : Obj) (i : Nat) (h : i < w.heap.size) : (w.alloc o).heap[i]? = w.heap[i]? := by
  show (w.heap.push o)[i]? = w.heap[i]?
  rw [Array.getElem?_push, if_neg (by omega)]
theorem Sp.start (w : World) (m : List Nat) (Z : Array Value) (hZ : Z = Array.replicate 64 (c32 0)) : Sp w m 0 Z ((w.alloc (.cells Z 58)).alloc (.cells Z 58)) where
  blk := by
    have := blk_new (w.alloc (.cells Z 58)) (.cells Z 58)
    rwa [alloc_size] at this
  res := ⟨Z, by unfold Blk; rw [blk_old _ _ _ (by rw [alloc_size]; omega)]; exact blk_new _ _, by rw [hZ]; simp⟩
  size := by rw [alloc_size, alloc_size]
  grown := (World.grownBy_alloc w _ none).trans (World.grownBy_alloc _ _ none)
  csz := by rw [hZ]; simp
  got := fun j hj => by omega
  all := fun j hj => ⟨0, by rw [hZ]; simp [hj]⟩
theorem Sp.old {w : World} {m : List Nat} {k : Nat} {C : Array Value} {wr : World} (h : Sp w m k C wr) {a : Addr} {v : Value} (hc : w.cell? a = some v) : wr.cell? a = some v := h.grown.cell hc (by simp)
set_option maxHeartbeats 1000000 in
set_option maxRecDepth 100000 in
theorem spread_any (m : List Nat) (b : Nat) (w : World) (hm : m.length = 64) (hl : ∀ x ∈ m, x < 256)
    (hb : ∀ j, j < 64 → w.cell? ⟨b, 8 + j, none⟩ = some (.int .u8 (m.getD j 0 : Nat))) (hbz : b < w.heap.size) :
    Calls Tryd.prog 47 #[.pointer (some ⟨b, 0, none⟩)] w fun e w' =>
      e = .returned (.agg ((sch m 64).map c32).toArray) ∧ Below w.heap.size w w' := by
  have HB : Hid (∀ j, j < 64 → w.cell? ⟨b, 8 + j, none⟩ = some (.int .u8 (m.getD j 0 : Nat))) := hb
  clear hb
  go_enter Tryd.func47, Tryd.ntmps47
  go_wp2
  go_loopw [11] (fun i wr => ∃ (k : Nat) (C : Array Value), k ≤ 16 ∧ i = .int .i64 k ∧ Hid (Sp w m k C wr)) (fun i _ => 20 - (intOf i).toNat)
  case atStart => exact ⟨0, _, by omega, rfl, Sp.start w m _ rfl⟩
  case round =>
    obtain ⟨k, C, hk, rfl, HR⟩ := hrel
    by_cases hlt : k < 16
    · have hs := slice64 b 8 k hlt
      have h0 := HR.out.old (HB.out (4 * k) (by omega))
      have h1 := HR.out.old (HB.out (4 * k + 1) (by omega))
      have h2 := HR.out.old (HB.out (4 * k + 2) (by omega))
      have h3 := HR.out.old (HB.out (4 * k + 3) (by omega))
      simp only [← Nat.add_assoc] at h0 h1 h2 h3
      obtain ⟨x0, hx0⟩ := HR.out.all k (by omega)
      have h4 : wr.cell? ⟨w.heap.size + 1, k, none⟩ = some (c32 x0) := by rw [HR.out.blk.cell, hx0]
      have h5 := HR.out.blk.frozen k
      clear hx0
      obtain ⟨m0, hm0⟩ : ∃ x, x = m.getD (4 * k) 0 := ⟨_, rfl⟩
      obtain ⟨m1, hm1⟩ : ∃ x, x = m.getD (4 * k + 1) 0 := ⟨_, rfl⟩
      obtain ⟨m2, hm2⟩ : ∃ x, x = m.getD (4 * k + 2) 0 := ⟨_, rfl⟩
      obtain ⟨m3, hm3⟩ : ∃ x, x = m.getD (4 * k + 3) 0 := ⟨_, rfl⟩
      rw [← hm0] at h0
      rw [← hm1] at h1
      rw [← hm2] at h2
      rw [← hm3] at h3
      have HM : Hid ((m0 = m.getD (4 * k) 0 ∧ m1 = m.getD (4 * k + 1) 0) ∧ m2 = m.getD (4 * k + 2) 0 ∧ m3 = m.getD (4 * k + 3) 0) := ⟨⟨hm0, hm1⟩, hm2, hm3⟩
      clear hm0 hm1 hm2 hm3
      go_wp2
      go_region
      go_wp2
      go_roundw
      case rel =>
        refine ⟨k + 1, C.setIfInBounds k (c32 (be4 m0 m1 m2 m3)), by omega, by go_num, ?_⟩
        rw [be4_raw]
        refine (HR.out.put (by omega) _ ?_).drew
        rw [sch_get m k 64 (by omega), if_pos hlt, HM.out.1.1, HM.out.1.2, HM.out.2.1, HM.out.2.2, w16]
      case measure => simp [intOf]; omega
    · have hke : k = 16 := by omega
      subst hke
      clear hlt hk
      go_wp2
      go_loopw [6] (fun i wr => ∃ (k : Nat) (C : Array Value), 16 ≤ k ∧ k ≤ 64 ∧ i = .int .i64 k ∧ Hid (Sp w m k C wr)) (fun i _ => 70 - (intOf i).toNat)
      case atStart => exact ⟨16, _, by omega, by omega, rfl, HR⟩
      case round =>
        clear HR C
        obtain ⟨k, C, hk0, hk, rfl, HR⟩ := hrel
        by_cases hlt : k < 64
        · obtain ⟨x0, hx0⟩ := HR.out.all k (by omega)
          have h4 : wr.cell? ⟨w.heap.size + 1, k, none⟩ = some (c32 x0) := by rw [HR.out.blk.cell, hx0]
          have h5 := HR.out.blk.frozen k
          obtain ⟨y0, h0, Y0⟩ := HR.out.word (k - 15) (by omega)
          obtain ⟨y1, h1, Y1⟩ := HR.out.word (k - 2) (by omega)
          obtain ⟨y2, h2, Y2⟩ := HR.out.word (k - 7) (by omega)
          obtain ⟨y3, h3, Y3⟩ := HR.out.word (k - 16) (by omega)
          clear hx0
          have e0 : ((k : Int) - 15).toNat = k - 15 := by omega
          have e1 : ((k : Int) - 2).toNat = k - 2 := by omega
          have e2 : ((k : Int) - 7).toNat = k - 7 := by omega
          have e3 : ((k : Int) - 16).toNat = k - 16 := by omega
          go_wp2
          go_quiet (fail)
          go_wp2_with (go_at_call 52; refine (rot_int _ _ _ (by omega) (by omega)).mono ?_; rintro e w' ⟨rfl, rfl⟩)
          go_region
          go_wp2
          refine ⟨?_, ?measure⟩
          (repeat apply Exists.intro)
          refine ⟨?rel, rfl⟩
          case rel =>
            refine ⟨k + 1, C.setIfInBounds k (c32 (sgH y1 + y2 + sgL y0 + y3)), by omega, by omega, by go_num, ?_⟩
            rw [wn_raw]
            refine (HR.out.drewN _).put hlt _ ?_
            rw [sch_get m k 64 hlt, if_neg (by omega), wnext, Y0.out, Y1.out, Y2.out, Y3.out]
            simp only [sch_get m (k - 2) 64 (by omega), sch_get m (k - 7) 64 (by omega), sch_get m (k - 15) 64 (by omega), sch_get m (k - 16) 64 (by omega), sch_get m (k - 2) k (by omega), sch_get m (k - 7) k (by omega), sch_get m (k - 15) k (by omega), sch_get m (k - 16) k (by omega)]
          case measure => simp [intOf]; omega
        · have hke : k = 64 := by omega
          subst hke
          clear hlt hk hk0
          obtain ⟨Z, hZ, hZs⟩ := HR.out.res
          have HZ : Hid (Blk wr w.heap.size Z 58) := hZ
          clear hZ
          have HI : Hid ((Tryd.prog.info? 58).map (·.size) = some C.size) := info_64 C HR.out.csz
          go_wp2_with (first | (refine wpList_load_row rfl 58 (.tmp 3) rfl (w.heap.size + 1) rfl 58 C (0, 0) _ HR.out.blk Tryd.underlying58 rfl HI.out ?_) | (refine wpList_store_row rfl 58 (.tmp 2) (.tmp 91) rfl w.heap.size C rfl rfl 58 Z HZ.out HI.out (by rw [hZs, HR.out.csz]) HR.out.one ?_))
          refine bodyPost_ret (results_cell_row rfl _ _ w.heap.size 58 C (0, 0) _ rfl (setRow_heap _ _ _ _ _ _ HZ.out) Tryd.underlying58 rfl HI.out) rfl ⟨by rw [HR.out.whole], ?_⟩
          exact below_setRow (below_of_grown HR.out.grown) (Nat.le_refl _) _
end Go.Proofs.YtbfdggkoildfkaaDoor
