import Derived.Test.YtfmfdaoipfpijaaGreatDoorY1
import Derived.BigRegion
import Derived.Laws.CopyOwn
import Derived.Maps.AppendAt
import Derived.Maps.Range
import Derived.Deep.WholeRow
import Derived.Test.YtfmfdaoipfpijaaGreatDoorRows
import Derived.WalkKit
import Derived.WalkSpells
import Derived.WalkLawsBesides
import Derived.Handy
/- digest.State.spread: a block's numbers. -/
namespace Go.Proofs.YtfmfdaoipfpijaaGreatDoor
open Go.RowKit
set_option linter.unusedSimpArgs false
set_option linter.unusedVariables false
/-- What lies in memory while the numbers are made: k of them are there. -/
structure Sp (w : World) (m : List Nat) (k : Nat) (C : Array Value) (wr : World) : Prop where
  blk : Blk wr (w.heap.size + 1) C 160
  res : ∃ Z : Array Value, Blk wr w.heap.size Z 160 ∧ Z.size = 64
  size : wr.heap.size = w.heap.size + 2
  grown : w.grownBy wr none
  csz : C.size = 64
  got : ∀ j, j < k → C[j]? = some (c32 ((sch m 64).getD j 0))
  all : ∀ j, j < 64 → ∃ x : BitVec 32, C[j]? = some (c32 x)
theorem slice64 (b o k : Nat) (hk : k < 16) (w : World) :
    (Instr.sliceAt 118 (.pointer (some ⟨b, o, none⟩)) (some (.int .i64 (4 * (k : Int)))) (some (.int .i64 (4 * (k : Int) + 4))) none).run Tryz.prog w = .ok (.slice (some ⟨b, o + 4 * k, none⟩) 4 (64 - 4 * k)) w := by
  have e1 : Tryz.prog.elem 118 = 5 := by kernel_rfl
  have e2 : Tryz.prog.arrayLen 118 = 64 := by kernel_rfl
  have e0 : Tryz.prog.underlying 118 = some (.array (Tryz.prog.arrayLen 118) (Tryz.prog.elem 118)) := by kernel_rfl
  rw [run_sliceAt_array_lh (P := Tryz.prog) w 118 ⟨b, o, none⟩ e0 .i64 .i64 (4 * (k : Int)) (4 * (k : Int) + 4) (by omega) (by omega) (by rw [e2]; omega)]
  rw [e1, e2, sizeOf_u8']
  simp only [slicedAt, Result.andThen, Addr.add_mid]
  rw [show (4 * (k : Int) + 4).toNat = 4 * k + 4 from by omega, show (4 * (k : Int)).toNat = 4 * k from by omega]
  have e3 : ¬ 64 = 4 * k := by omega
  simp only [Nat.mul_one, Nat.add_sub_cancel_left, e3, if_false]
theorem sh_raw (a c k : Nat) (hc : c = 2 ^ k) : (a : Int) % 4294967296 * (c : Int) % 4294967296 = ((BitVec.ofNat 32 a <<< k).toNat : Int) := by
  rw [BitVec.toNat_shiftLeft, BitVec.toNat_ofNat, Nat.shiftLeft_eq, ← hc]
  show _ = ((a % 4294967296 * c % 4294967296 : Nat) : Int)
  simp only [Int.natCast_emod, Int.natCast_mul]
  rfl
theorem lo_raw (a : Nat) : (a : Int) % 4294967296 = ((BitVec.ofNat 32 a).toNat : Int) := by
  rw [BitVec.toNat_ofNat]; simp
theorem be4_raw (a b c d : Nat) : bits .or .u32 (bits .or .u32 (bits .or .u32 ((a : Int) % 4294967296 * 16777216 % 4294967296) ((b : Int) % 4294967296 * 65536 % 4294967296)) ((c : Int) % 4294967296 * 256 % 4294967296)) ((d : Int) % 4294967296) = ((be4 a b c d).toNat : Int) := by
  have h1 := sh_raw a 16777216 24 (by decide)
  have h2 := sh_raw b 65536 16 (by decide)
  have h3 := sh_raw c 256 8 (by decide)
  rw [show ((16777216 : Nat) : Int) = 16777216 from rfl] at h1
  rw [show ((65536 : Nat) : Int) = 65536 from rfl] at h2
  rw [show ((256 : Nat) : Int) = 256 from rfl] at h3
  rw [h1, h2, h3, lo_raw, or32, or32, or32, be4]
theorem Sp.drew {w : World} {m : List Nat} {k : Nat} {C : Array Value} {wr : World} (h : Sp w m k C wr) : Sp w m k C wr.drew :=
  ⟨h.blk, h.res, h.size, Lib.Hx.grownBy_drew h.grown, h.csz, h.got, h.all⟩
theorem Sp.drewN {w : World} {m : List Nat} {k : Nat} {C : Array Value} {wr : World} (h : Sp w m k C wr) (n : Nat) : Sp w m k C (wr.drewN n) := by
  induction n with
  | zero => exact h
  | succ n ih => exact ih.drew
/-- One number more is laid. -/
theorem Sp.put {w : World} {m : List Nat} {k : Nat} {C : Array Value} {wr : World} (h : Sp w m k C wr) (hk : k < 64) (x : BitVec 32) (hx : (sch m 64).getD k 0 = x) :
    Sp w m (k + 1) (C.setIfInBounds k (c32 x)) (wr.setCell ⟨w.heap.size + 1, k, none⟩ (c32 x)) where
  blk := h.blk.set k _
  res := by
    obtain ⟨Z, h1, h2⟩ := h.res
    exact ⟨Z, by unfold Blk; rw [heap_setCell_other _ _ _ _ (by simp)]; exact h1, h2⟩
  size := by rw [World.size_setCell]; exact h.size
  grown := by
    refine h.grown.andThen (row' := some (w.heap.size + 1)) (Lib.grownBy_setCell _ _ _ _) ?_
    intro j hj; left; simp at hj; omega
  csz := by rw [Array.size_setIfInBounds]; exact h.csz
  got := fun j hj => by
    rw [Array.getElem?_setIfInBounds]
    split
    · rename_i e; subst e; rw [if_pos (by rw [h.csz]; exact hk), hx]
    · exact h.got j (by omega)
  all := fun j hj => by
    rw [Array.getElem?_setIfInBounds]
    split
    · exact ⟨x, by rw [if_pos (by rw [h.csz]; omega)]⟩
    · exact h.all j hj
theorem Sp.word {w : World} {m : List Nat} {k : Nat} {C : Array Value} {wr : World} (h : Sp w m k C wr) (j : Nat) (hj : j < k) :
    ∃ y : BitVec 32, wr.cell? ⟨w.heap.size + 1, j, none⟩ = some (c32 y) ∧ Hid (y = (sch m 64).getD j 0) := ⟨_, by rw [h.blk.cell, h.got j hj], rfl⟩
theorem Sp.one {w : World} {m : List Nat} {k : Nat} {C : Array Value} {wr : World} (h : Sp w m k C wr) : C.all (·.oneCell') = true := by
  rw [Array.all_eq_true]
  intro i hi
  obtain ⟨x, hx⟩ := h.all i (by have := h.csz; omega)
  rw [Array.getElem?_eq_getElem hi] at hx
  rw [Option.some.inj hx]; rfl
theorem Sp.whole {w : World} {m : List Nat} {C : Array Value} {wr : World} (h : Sp w m 64 C wr) : C = ((sch m 64).map c32).toArray := by
  apply Array.ext_getElem?
  intro i
  by_cases hi : i < 64
  · rw [h.got i hi]
    simp only [List.getElem?_toArray, List.getElem?_map, List.getD]
    rw [List.getElem?_eq_getElem (by rw [sch_length]; exact hi)]
    rfl
  · rw [Array.getElem?_eq_none (by rw [h.csz]; omega), Array.getElem?_eq_none (by simp [sch_length]; omega)]
theorem sH_raw (y : BitVec 32) : bits .xor .u32 (bits .xor .u32 ((rr 17 y).toNat : Int) ((rr 19 y).toNat : Int)) ((y.toNat : Int) / 1024) = ((sgH y).toNat : Int) := by
  have h := shr_raw y 10
  rw [show ((2 : Int) ^ 10) = 1024 from by decide] at h
  rw [h, xor32, xor32, sgH]
theorem sL_raw (y : BitVec 32) : bits .xor .u32 (bits .xor .u32 ((rr 7 y).toNat : Int) ((rr 18 y).toNat : Int)) ((y.toNat : Int) / 8) = ((sgL y).toNat : Int) := by
  have h := shr_raw y 3
  rw [show ((2 : Int) ^ 3) = 8 from by decide] at h
  rw [h, xor32, xor32, sgL]
theorem wn_raw (y1 y2 y0 y3 : BitVec 32) : (bits .xor .u32 (bits .xor .u32 ((rr 17 y1).toNat : Int) ((rr 19 y1).toNat : Int)) ((y1.toNat : Int) / 1024) + (y2.toNat : Int) + bits .xor .u32 (bits .xor .u32 ((rr 7 y0).toNat : Int) ((rr 18 y0).toNat : Int)) ((y0.toNat : Int) / 8) + (y3.toNat : Int)) % 4294967296 = ((sgH y1 + y2 + sgL y0 + y3).toNat : Int) := by
  rw [sH_raw, sL_raw]
  simp only [BitVec.toNat_add]
  omega
theorem info_64 (C : Array Value) (h : C.size = 64) : (Tryz.prog.info? 160).map (·.size) = some C.size := by
  have : (Tryz.prog.info? 160).map (·.size) = some 64 := by kernel_rfl
  rw [this, h]
theorem blk_old (w : World) (o : Obj) (i : Nat) (h : i < w.heap.size) : (w.alloc o).heap[i]? = w.heap[i]? := by
  show (w.heap.push o)[i]? = w.heap[i]?
  rw [Array.getElem?_push, if_neg (by omega)]
theorem Sp.start (w : World) (m : List Nat) (Z : Array Value) (hZ : Z = Array.replicate 64 (c32 0)) : Sp w m 0 Z ((w.alloc (.cells Z 160)).alloc (.cells Z 160)) where
  blk := by
    have := blk_new (w.alloc (.cells Z 160)) (.cells Z 160)
    rwa [alloc_size] at this
  res := ⟨Z, by unfold Blk; rw [blk_old _ _ _ (by rw [alloc_size]; omega)]; exact blk_new _ _, by rw [hZ]; simp⟩
  size := by rw [alloc_size, alloc_size]
  grown := (World.grownBy_alloc w _ none).trans (World.grownBy_alloc _ _ none)
  csz := by rw [hZ]; simp
  got := fun j hj => by omega
  all := fun j hj => ⟨0, by rw [hZ]; simp [hj]⟩
theorem Sp.old {w : World} {m : List Nat} {k : Nat} {C : Array Value} {wr : World} (h : Sp w m k C wr) {a : Addr} {v : Value} (hc : w.cell? a = some v) : wr.cell? a = some v := h.grown.cell hc (by simp)
set_option maxHeartbeats 1000000 in
set_option maxRecDepth 100000 in
theorem spread_any (m : List Nat) (b : Nat) (w : World) (hm : m.length = 64) (hl : ∀ x ∈ m, x < 256)
    (hb : ∀ j, j < 64 → w.cell? ⟨b, 8 + j, none⟩ = some (.int .u8 (m.getD j 0 : Nat))) (hbz : b < w.heap.size) :
    Calls Tryz.prog 99 #[.pointer (some ⟨b, 0, none⟩)] w fun e w' =>
      e = .returned (.agg ((sch m 64).map c32).toArray) ∧ Below w.heap.size w w' := by
  have HB : Hid (∀ j, j < 64 → w.cell? ⟨b, 8 + j, none⟩ = some (.int .u8 (m.getD j 0 : Nat))) := hb
  clear hb
  go_enter Tryz.func99, Tryz.ntmps99
  go_wp2
  go_loopw [11] (fun i wr => ∃ (k : Nat) (C : Array Value), k ≤ 16 ∧ i = .int .i64 k ∧ Hid (Sp w m k C wr)) (fun i _ => 20 - (intOf i).toNat)
  case atStart => exact ⟨0, _, by omega, rfl, Sp.start w m _ rfl⟩
  case round =>
    obtain ⟨k, C, hk, rfl, HR⟩ := hrel
    by_cases hlt : k < 16
    · have hs := slice64 b 8 k hlt
      have h0 := HR.out.old (HB.out (4 * k) (by omega))
      have h1 := HR.out.old (HB.out (4 * k + 1) (by omega))
      have h2 := HR.out.old (HB.out (4 * k + 2) (by omega))
      have h3 := HR.out.old (HB.out (4 * k + 3) (by omega))
      simp only [← Nat.add_assoc] at h0 h1 h2 h3
      obtain ⟨x0, hx0⟩ := HR.out.all k (by omega)
      have h4 : wr.cell? ⟨w.heap.size + 1, k, none⟩ = some (c32 x0) := by rw [HR.out.blk.cell, hx0]
      have h5 := HR.out.blk.frozen k
      clear hx0
      obtain ⟨m0, hm0⟩ : ∃ x, x = m.getD (4 * k) 0 := ⟨_, rfl⟩
      obtain ⟨m1, hm1⟩ : ∃ x, x = m.getD (4 * k + 1) 0 := ⟨_, rfl⟩
      obtain ⟨m2, hm2⟩ : ∃ x, x = m.getD (4 * k + 2) 0 := ⟨_, rfl⟩
      obtain ⟨m3, hm3⟩ : ∃ x, x = m.getD (4 * k + 3) 0 := ⟨_, rfl⟩
      rw [← hm0] at h0
      rw [← hm1] at h1
      rw [← hm2] at h2
      rw [← hm3] at h3
      have HM : Hid ((m0 = m.getD (4 * k) 0 ∧ m1 = m.getD (4 * k + 1) 0) ∧ m2 = m.getD (4 * k + 2) 0 ∧ m3 = m.getD (4 * k + 3) 0) := ⟨⟨hm0, hm1⟩, hm2, hm3⟩
      clear hm0 hm1 hm2 hm3
      go_wp2
      go_region
      go_wp2
      go_roundw
      case rel =>
        refine ⟨k + 1, C.setIfInBounds k (c32 (be4 m0 m1 m2 m3)), by omega, by go_num, ?_⟩
        rw [be4_raw]
        refine (HR.out.put (by omega) _ ?_).drew
        rw [sch_get m k 64 (by omega), if_pos hlt, HM.out.1.1, HM.out.1.2, HM.out.2.1, HM.out.2.2, w16]
      case measure => simp [intOf]; omega
    · have hke : k = 16 := by omega
      subst hke
      clear hlt hk
      go_wp2
      go_loopw [6] (fun i wr => ∃ (k : Nat) (C : Array Value), 16 ≤ k ∧ k ≤ 64 ∧ i = .int .i64 k ∧ Hid (Sp w m k C wr)) (fun i _ => 70 - (intOf i).toNat)
      case atStart => exact ⟨16, _, by omega, by omega, rfl, HR⟩
      case round =>
        clear HR C
        obtain ⟨k, C, hk0, hk, rfl, HR⟩ := hrel
        by_cases hlt : k < 64
        · obtain ⟨x0, hx0⟩ := HR.out.all k (by omega)
          have h4 : wr.cell? ⟨w.heap.size + 1, k, none⟩ = some (c32 x0) := by rw [HR.out.blk.cell, hx0]
          have h5 := HR.out.blk.frozen k
          obtain ⟨y0, h0, Y0⟩ := HR.out.word (k - 15) (by omega)
          obtain ⟨y1, h1, Y1⟩ := HR.out.word (k - 2) (by omega)
          obtain ⟨y2, h2, Y2⟩ := HR.out.word (k - 7) (by omega)
          obtain ⟨y3, h3, Y3⟩ := HR.out.word (k - 16) (by omega)
          clear hx0
          have e0 : ((k : Int) - 15).toNat = k - 15 := by omega
          have e1 : ((k : Int) - 2).toNat = k - 2 := by omega
          have e2 : ((k : Int) - 7).toNat = k - 7 := by omega
          have e3 : ((k : Int) - 16).toNat = k - 16 := by omega
          go_wp2
          go_quiet (fail)
          go_wp2_with (go_at_call 119; refine (rot_int _ _ _ (by omega) (by omega)).mono ?_; rintro e w' ⟨rfl, rfl⟩)
          go_region
          go_wp2
          refine ⟨?_, ?measure⟩
          (repeat apply Exists.intro)
          refine ⟨?rel, rfl⟩
          case rel =>
            refine ⟨k + 1, C.setIfInBounds k (c32 (sgH y1 + y2 + sgL y0 + y3)), by omega, by omega, by go_num, ?_⟩
            rw [wn_raw]
            refine (HR.out.drewN _).put hlt _ ?_
            rw [sch_get m k 64 hlt, if_neg (by omega), wnext, Y0.out, Y1.out, Y2.out, Y3.out]
            simp only [sch_get m (k - 2) 64 (by omega), sch_get m (k - 7) 64 (by omega), sch_get m (k - 15) 64 (by omega), sch_get m (k - 16) 64 (by omega), sch_get m (k - 2) k (by omega), sch_get m (k - 7) k (by omega), sch_get m (k - 15) k (by omega), sch_get m (k - 16) k (by omega)]
          case measure => simp [intOf]; omega
        · have hke : k = 64 := by omega
          subst hke
          clear hlt hk hk0
          obtain ⟨Z, hZ, hZs⟩ := HR.out.res
          have HZ : Hid (Blk wr w.heap.size Z 160) := hZ
          clear hZ
          have HI : Hid ((Tryz.prog.info? 160).map (·.size) = some C.size) := info_64 C HR.out.csz
          go_wp2_with (first | (refine wpList_load_row rfl 160 (.tmp 3) rfl (w.heap.size + 1) rfl 160 C (0, 0) _ HR.out.blk Tryz.underlying160 rfl HI.out ?_) | (refine wpList_store_row rfl 160 (.tmp 2) (.tmp 91) rfl w.heap.size C rfl rfl 160 Z HZ.out HI.out (by rw [hZs, HR.out.csz]) HR.out.one ?_))
          refine bodyPost_ret (results_cell_row rfl _ _ w.heap.size 160 C (0, 0) _ rfl (setRow_heap _ _ _ _ _ _ HZ.out) Tryz.underlying160 rfl HI.out) rfl ⟨by rw [HR.out.whole], ?_⟩
          exact below_setRow (below_of_grown HR.out.grown) (Nat.le_refl _) _
end Go.Proofs.YtfmfdaoipfpijaaGreatDoor
/- digest.State.mix: a full block is taken into the eight numbers. -/
namespace Go.Proofs.YtfmfdaoipfpijaaGreatDoor
open Go.RowKit
set_option linter.unusedSimpArgs false
set_option linter.unusedVariables false
/-- A state's cells: eight numbers, a block, how many bytes. -/
def stc (h : V8) (m : List Nat) (n : Nat) : Array Value := (v8c h ++ (bvc m).toArray).push (.int .u64 (n : Int))
theorem v8c_size (h : V8) : (v8c h).size = 8 := rfl
theorem stc_size (h : V8) (m : List Nat) (n : Nat) (hm : m.length = 64) : (stc h m n).size = 73 := by simp [stc, v8c_size, bvc, hm]
theorem v8c_get (h : V8) (j : Nat) (hj : j < 8) : (v8c h)[j]? = some (c32 (h.list.getD j 0)) := by
  have : j = 0 ∨ j = 1 ∨ j = 2 ∨ j = 3 ∨ j = 4 ∨ j = 5 ∨ j = 6 ∨ j = 7 := by omega
  rcases this with rfl | rfl | rfl | rfl | rfl | rfl | rfl | rfl <;> rfl
theorem stc_num (h : V8) (m : List Nat) (n j : Nat) (hj : j < 8) : (stc h m n)[j]? = some (c32 (h.list.getD j 0)) := by
  rw [stc, Array.getElem?_push, if_neg (by simp [v8c_size]; omega), Array.getElem?_append_left (by rw [v8c_size]; omega), v8c_get h j hj]
theorem stc_byte (h : V8) (m : List Nat) (n j : Nat) (hj : j < m.length) : (stc h m n)[8 + j]? = some (.int .u8 (m.getD j 0 : Nat)) := by
  rw [stc, Array.getElem?_push, if_neg (by simp [v8c_size, bvc]; omega), Array.getElem?_append_right (by rw [v8c_size]; omega), v8c_size]
  simp [bvc, List.getD, hj]
theorem stc_wrote (h : V8) (m : List Nat) (n : Nat) (hm : m.length = 64) : (stc h m n)[72]? = some (.int .u64 (n : Int)) := by
  rw [stc, Array.getElem?_push, if_pos (by simp [v8c_size, bvc, hm])]
/-- The listed constants. -/
def KIs (w : World) : Prop := ∀ t, t < 64 → w.cell? ⟨3, t, none⟩ = some (c32 (KT t))
theorem KIs.grown {w w' : World} {r : Option Nat} (h : KIs w) (hg : w.grownBy w' r) (hr : r ≠ some 3) : KIs w' := fun t ht => hg.cell (h t ht) (fun e => hr e.symm)
def w64c (m : List Nat) : Array Value := ((sch m 64).map c32).toArray
theorem w64c_size (m : List Nat) : (w64c m).size = 64 := by simp [w64c, sch_length]
theorem w64c_one (m : List Nat) : (w64c m).all (·.oneCell') = true := by
  simp [w64c, List.all_eq_true, Value.oneCell']
theorem w64c_get (m : List Nat) (t : Nat) (ht : t < 64) : (w64c m)[t]? = some (c32 (wt m t)) := by
  simp only [w64c, List.getElem?_toArray, List.getElem?_map, wt, List.getD]
  rw [List.getElem?_eq_getElem (by rw [sch_length]; exact ht)]
  rfl
theorem spread_blk (h : V8) (m : List Nat) (n b : Nat) (T : TypeId) (w : World) (hm : m.length = 64) (hl : ∀ x ∈ m, x < 256) (hB : Blk w b (stc h m n) T) :
    Calls Tryz.prog 99 #[.pointer (some ⟨b, 0, none⟩)] w fun e w' => e = .returned (.agg (w64c m)) ∧ Below w.heap.size w w' :=
  spread_any m b w hm hl (fun j hj => by rw [hB.cell, stc_byte h m n j (by omega)]) hB.lt
theorem v8c_one (v : V8) : (v8c v).all (·.oneCell') = true := by simp [v8c, Value.oneCell']
theorem info_8 {v : V8} : (Tryz.prog.info? 117).map (·.size) = some (v8c v).size := by
  have : (Tryz.prog.info? 117).map (·.size) = some 8 := by kernel_rfl
  rw [this, v8c_size]
theorem wpList_load_v8 {ops : Array Oper} {rest : List Oper} {o : Oper} {a : Act} {w : World} {Q : Exit → Act → World → Prop} (hgd : o.guard = none) (x : Operand) (ho : o.op = .load 117 x)
    (b f : Nat) (hx : a.eval x = .pointer (some ⟨b, f, none⟩)) (v : V8) (hc : ∀ j, j < 8 → w.cell? ⟨b, f + j, none⟩ = some (c32 (v.list.getD j 0)))
    (h : wpList Tryz.prog ops Q rest (a.put o.dst (.agg (v8c v))) w) : wpList Tryz.prog ops Q (o :: rest) a w := by
  refine wpList_load_mid hgd 117 x ho b f hx (v8c v).toList _ (fun j u hj => ?_) Tryz.underlying117 rfl info_8 h
  have hj8 : j < 8 := by
    by_cases e : j < 8
    · exact e
    · rw [List.getElem?_eq_none (by show (8 : Nat) ≤ j; omega)] at hj; cases hj
  rw [hc j hj8, ← hj, Array.getElem?_toList, v8c_get v j hj8]
theorem num_old {w w1 : World} {b : Nat} {h : V8} {m : List Nat} {n : Nat} {T : TypeId} (hB : Blk w b (stc h m n) T) (hb1 : Below w.heap.size w w1) (o : Obj) :
    ∀ j, j < 8 → (w1.alloc o).cell? ⟨b, 0 + j, none⟩ = some (c32 (h.list.getD j 0)) := fun j hj => by
  have h1 := (hB.grown (grown_of_below hb1 none) (by simp)).grown (World.grownBy_alloc w1 o none) (by simp)
  rw [h1.cell, Nat.zero_add, stc_num _ _ _ _ hj]
def V8.setk (h : V8) (k : Nat) (x : BitVec 32) : V8 :=
  ⟨if k = 0 then x else h.a, if k = 1 then x else h.b, if k = 2 then x else h.c, if k = 3 then x else h.d, if k = 4 then x else h.e, if k = 5 then x else h.f, if k = 6 then x else h.g, if k = 7 then x else h.h⟩
theorem setk_get (h : V8) (k : Nat) (x : BitVec 32) (j : Nat) (hj : j < 8) : (h.setk k x).list.getD j 0 = if k = j then x else h.list.getD j 0 := by
  have : j = 0 ∨ j = 1 ∨ j = 2 ∨ j = 3 ∨ j = 4 ∨ j = 5 ∨ j = 6 ∨ j = 7 := by omega
  rcases this with rfl | rfl | rfl | rfl | rfl | rfl | rfl | rfl <;> rfl
theorem stc_far (h g : V8) (m : List Nat) (n i : Nat) (hi : ¬ i < 8) : (stc h m n)[i]? = (stc g m n)[i]? := by
  rw [stc, stc, Array.getElem?_push, Array.getElem?_push, Array.getElem?_append_right (by rw [v8c_size]; omega), Array.getElem?_append_right (by rw [v8c_size]; omega)]
  simp only [Array.size_append, v8c_size]
theorem stc_set (h : V8) (m : List Nat) (n k : Nat) (x : BitVec 32) (hk : k < 8) (hm : m.length = 64) : (stc h m n).setIfInBounds k (c32 x) = stc (h.setk k x) m n := by
  apply Array.ext_getElem?
  intro i
  rw [Array.getElem?_setIfInBounds, stc_size _ _ _ hm]
  by_cases hi : i < 8
  · rw [stc_num _ _ _ _ hi, stc_num _ _ _ _ hi, setk_get _ _ _ _ hi]
    split
    · rw [if_pos (by omega)]
    · rfl
  · rw [if_neg (by omega)]
    exact stc_far _ _ _ _ _ hi
theorem v8_ext (u v : V8) (h : ∀ j, j < 8 → u.list.getD j 0 = v.list.getD j 0) : u = v := by
  have h0 := h 0 (by omega)
  have h1 := h 1 (by omega)
  have h2 := h 2 (by omega)
  have h3 := h 3 (by omega)
  have h4 := h 4 (by omega)
  have h5 := h 5 (by omega)
  have h6 := h 6 (by omega)
  have h7 := h 7 (by omega)
  simp [V8.list] at h0 h1 h2 h3 h4 h5 h6 h7
  cases u; cases v
  simp_all
theorem add_get (h v : V8) (j : Nat) (hj : j < 8) : (h.add v).list.getD j 0 = h.list.getD j 0 + v.list.getD j 0 := by
  have : j = 0 ∨ j = 1 ∨ j = 2 ∨ j = 3 ∨ j = 4 ∨ j = 5 ∨ j = 6 ∨ j = 7 := by omega
  rcases this with rfl | rfl | rfl | rfl | rfl | rfl | rfl | rfl <;> rfl
theorem index_v8 (v : V8) (k : Nat) (hk : k < 8) (w : World) : (Instr.index 117 (.agg (v8c v)) (.int .i64 (k : Int))).run Tryz.prog w = .ok (c32 (v.list.getD k 0)) w := by
  have hs : (sizeOf 116).run Tryz.prog w = .ok 1 w := by kernel_rfl
  have ha : (isAgg 116).run Tryz.prog w = .ok false w := by kernel_rfl
  have h1 : (0 : Int) ≤ (k : Int) ∧ (k : Int) < 8 := by omega
  simp [Instr.index, run_underlying Tryz.underlying117, asIntOf, h1, hs, ha, part, v8c_get v k hk, go_sem]
  omega
/-- What lies in memory while the numbers are added: k of them are. -/
structure Ad (w : World) (b : Nat) (T : TypeId) (h v : V8) (m : List Nat) (n k : Nat) (g : V8) (wr : World) : Prop where
  st : Blk wr b (stc g m n) T
  grown : w.grownBy wr (some b)
  done : ∀ j, j < 8 → g.list.getD j 0 = if j < k then h.list.getD j 0 + v.list.getD j 0 else h.list.getD j 0
theorem Ad.drew {w : World} {b : Nat} {T : TypeId} {h v : V8} {m : List Nat} {n k : Nat} {g : V8} {wr : World} (H : Ad w b T h v m n k g wr) : Ad w b T h v m n k g wr.drew := ⟨H.st, Lib.Hx.grownBy_drew H.grown, H.done⟩
theorem Ad.put {w : World} {b : Nat} {T : TypeId} {h v : V8} {m : List Nat} {n k : Nat} {g : V8} {wr : World} (H : Ad w b T h v m n k g wr) (hk : k < 8) (hm : m.length = 64) :
    Ad w b T h v m n (k + 1) (g.setk k (g.list.getD k 0 + v.list.getD k 0)) (wr.setCell ⟨b, k, none⟩ (c32 (g.list.getD k 0 + v.list.getD k 0))) where
  st := by rw [← stc_set _ _ _ _ _ hk hm]; exact H.st.set k _
  grown := Lib.grownBy_setB H.grown k _
  done := fun j hj => by
    rw [setk_get _ _ _ _ hj]
    split
    · rename_i e; subst e; rw [if_pos (by omega), H.done k hk, if_neg (by omega)]
    · rw [H.done j hj]
      by_cases e : j < k
      · rw [if_pos e, if_pos (by omega)]
      · rw [if_neg e, if_neg (by omega)]
/-- What lies in memory while the rounds go on: v the numbers so far. -/
structure Mx (w : World) (b : Nat) (T : TypeId) (X : Nat) (h : V8) (m : List Nat) (n : Nat) (v : V8) (wr : World) : Prop where
  x : Blk wr X (w64c m) 160
  v : Blk wr (X + 1) (v8c v) 117
  st : Blk wr b (stc h m n) T
  k : KIs wr
  grown : w.grownBy wr none
theorem KIs.lt {w : World} (h : KIs w) : 3 < w.heap.size := World.block_lt_of_cell? w _ (h 0 (by omega))
theorem Mx.start {w w1 : World} {b n : Nat} {T : TypeId} {h : V8} {m : List Nat} (hB : Blk w b (stc h m n) T) (hK : KIs w) (hb1 : Below w.heap.size w w1) :
    Mx w b T w1.heap.size h m n h ((w1.alloc (.cells (w64c m) 160)).alloc (.cells (v8c h) 117)) := by
  have g1 := grown_of_below hb1 none
  have g2 := World.grownBy_alloc w1 (.cells (w64c m) 160) none
  have g3 := World.grownBy_alloc (w1.alloc (.cells (w64c m) 160)) (.cells (v8c h) 117) none
  refine ⟨Blk.grown (blk_new _ _) g3 (by simp), ?_, ((hB.grown g1 (by simp)).grown g2 (by simp)).grown g3 (by simp), ((hK.grown g1 (by simp)).grown g2 (by simp)).grown g3 (by simp), (g1.trans g2).trans g3⟩
  have e := blk_new (w1.alloc (.cells (w64c m) 160)) (.cells (v8c h) 117)
  rwa [alloc_size] at e
theorem Mx.next {w wr w2 : World} {b n X : Nat} {T : TypeId} {h v v' : V8} {m : List Nat} (H : Mx w b T X h m n v wr) (hX : w.heap.size ≤ X) (hbz : b < w.heap.size) (hk : 3 < w.heap.size)
    (hv : Blk w2 (X + 1) (v8c v') 117) (hg : wr.grownBy w2 (some (X + 1))) : Mx w b T X h m n v' w2 :=
  ⟨H.x.grown hg (by simp), hv, H.st.grown hg (by simp; omega), H.k.grown hg (by simp; omega), H.grown.andThen hg (fun j hj => by left; simp at hj; omega)⟩
set_option maxHeartbeats 300000 in
set_option maxRecDepth 100000 in
theorem mix_any (h : V8) (m : List Nat) (n b : Nat) (T : TypeId) (w : World) (hm : m.length = 64) (hl : ∀ x ∈ m, x < 256) (hB : Blk w b (stc h m n) T) (hK : KIs w) (hb2 : b ≠ 3) :
    Calls Tryz.prog 83 #[.pointer (some ⟨b, 0, none⟩)] w fun e w' =>
      e = .returned (.tuple #[]) ∧ Blk w' b (stc (comp m h) m n) T ∧ w.grownBy w' (some b) := by
  have HB : Hid (Blk w b (stc h m n) T) := hB
  have HK : Hid (KIs w) := hK
  have hbz := hB.lt
  have HI : Hid ((Tryz.prog.info? 160).map (·.size) = some (w64c m).size) := info_64 _ (w64c_size m)
  clear hB hK
  go_enter Tryz.func83, Tryz.ntmps83
  go_wp2_with (first
    | (go_at_call 99; refine (spread_blk h m n b T _ hm hl HB.out).mono ?_; rintro e w1 ⟨rfl, hb1⟩; obtain ⟨hc, hf⟩ := bcellD hb1; have hz := hb1.size)
    | (refine wpList_store_new rfl 160 (.tmp 2) (.tmp 9) rfl (w64c m) _ 160 w1.heap.size rfl rfl rfl HI.out (by rw [w64c_size]; rfl) (w64c_one m) ?_)
    | (refine wpList_load_v8 rfl (.tmp 12) rfl b 0 rfl h (num_old HB.out hb1 _) ?_)
    | (refine wpList_store_new rfl 117 (.tmp 3) (.tmp 13) rfl (v8c h) _ 117 (w1.heap.size + 1) (alloc_size _ _) rfl rfl info_8 rfl (v8c_one h) ?_))
  have hkz := HK.out.lt
  have HS : Hid (Mx w b T w1.heap.size h m n h ((w1.alloc (.cells (w64c m) 160)).alloc (.cells (v8c h) 117))) := Mx.start HB.out HK.out hb1
  go_loopw [15] (fun i wr => ∃ k : Nat, k ≤ 64 ∧ i = .int .i64 k ∧ Hid (Mx w b T w1.heap.size h m n (rds m h k) wr)) (fun i _ => 70 - (intOf i).toNat)
  case atStart => exact ⟨0, by omega, rfl, HS⟩
  case round =>
    obtain ⟨k, hk, rfl, HR⟩ := hrel
    by_cases hlt : k < 64
    · have hxc : wr.cell? ⟨w1.heap.size, k, none⟩ = some (c32 (wt m k)) := by rw [HR.out.x.cell, w64c_get m k hlt]
      have hkc := HR.out.k k hlt
      go_wp2_with (go_at_call 100; refine (round_any (rds m h k) (KT k) (wt m k) k (w1.heap.size + 1) w1.heap.size 117 _ hlt HR.out.v hxc hkc).mono ?_; rintro e w2 ⟨rfl, hv2, hg2⟩)
      go_roundw
      case rel => exact ⟨k + 1, by omega, by go_num, HR.out.next hz hbz hkz hv2 hg2⟩
      case measure => simp [intOf]; omega
    · have hke : k = 64 := by omega
      subst hke
      clear HS hlt hk
      go_wp2_with (refine wpList_load_v8 rfl (.tmp 3) rfl (w1.heap.size + 1) 0 rfl (rds m h 64) (fun j hj => by rw [HR.out.v.cell, Nat.zero_add, v8c_get _ _ hj]) ?_)
      have HA : Hid (Ad w b T h (rds m h 64) m n 0 h wr) := ⟨HR.out.st, ⟨HR.out.grown.os, HR.out.grown.tape, HR.out.grown.output, HR.out.grown.size, fun i hi _ => HR.out.grown.block i hi (by simp)⟩, fun j hj => by rw [if_neg (by omega)]⟩
      clear HR
      go_loopw [23] (fun i wr => ∃ (k : Nat) (g : V8), k ≤ 8 ∧ i = .int .i64 k ∧ Hid (Ad w b T h (rds m h 64) m n k g wr)) (fun i _ => 20 - (intOf i).toNat)
      case atStart => exact ⟨0, h, by omega, rfl, HA⟩
      case round =>
        clear HA
        obtain ⟨k, g, hk, rfl, HR⟩ := hrel
        by_cases hlt : k < 8
        · obtain ⟨x, hx⟩ : ∃ x, x = g.list.getD k 0 := ⟨_, rfl⟩
          obtain ⟨y, hy⟩ : ∃ y, y = (rds m h 64).list.getD k 0 := ⟨_, rfl⟩
          have h1 := HR.out.st.cell k
          rw [stc_num _ _ _ _ hlt, ← hx] at h1
          have h2 := HR.out.st.frozen k
          have h3 := v8c_get (rds m h 64) k hlt
          rw [← hy] at h3
          have h4 := index_v8 (rds m h 64) k hlt
          rw [← hy] at h4
          have HX : Hid (x = g.list.getD k 0 ∧ y = (rds m h 64).list.getD k 0) := ⟨hx, hy⟩
          clear hx hy
          go_wp2
          go_region
          go_wp2
          refine ⟨?_, ?measure⟩
          · refine ⟨k + 1, g.setk k (x + y), by omega, by go_num, ?_⟩
            rw [add32, HX.out.1, HX.out.2]
            exact (HR.out.put hlt hm).drew
          case measure => simp [intOf]; omega
        · have hke : k = 8 := by omega
          subst hke
          have he : g = comp m h := v8_ext _ _ (fun j hj => by rw [HR.out.done j hj, if_pos hj, comp, add_get _ _ _ hj])
          go_wp2
          go_end0
          exact ⟨rfl, by rw [← he]; exact HR.out.st, HR.out.grown⟩
end Go.Proofs.YtfmfdaoipfpijaaGreatDoor
/- digest.State.take: bytes go into a sum. -/
namespace Go.Proofs.YtfmfdaoipfpijaaGreatDoor
open Go.RowKit
set_option linter.unusedSimpArgs false
set_option linter.unusedVariables false
theorem putA_stc (h : V8) (m : List Nat) (n r : Nat) (xs : List Nat) (hm : m.length = 64) (hr : r + xs.length ≤ 64) : putA (stc h m n) (8 + r) (bvc xs) = stc h (putL m r xs) n := by
  have hp := putL_length m r xs (by omega)
  apply Array.ext_getElem?
  intro i
  rw [putA_get _ _ _ _ (by rw [stc_size _ _ _ hm]; simp [bvc]; omega)]
  by_cases h8 : i < 8
  · rw [if_neg (by omega), stc_num _ _ _ _ h8, stc_num _ _ _ _ h8]
  · by_cases h72 : i < 72
    · obtain ⟨j, rfl⟩ : ∃ j, i = 8 + j := ⟨i - 8, by omega⟩
      rw [stc_byte h m n j (by omega), stc_byte h (putL m r xs) n j (by omega), putL_getD _ _ _ (by omega)]
      by_cases e : r ≤ j ∧ j < r + xs.length
      · rw [if_pos (by simp [bvc]; omega), if_neg (by omega), if_pos e.2, show 8 + j - (8 + r) = j - r from by omega]
        simp only [bvc, List.getElem?_map, List.getD]
        rw [List.getElem?_eq_getElem (by omega)]
        rfl
      · rw [if_neg (by simp [bvc]; omega)]
        by_cases e1 : j < r
        · rw [if_pos e1]
        · rw [if_neg e1, if_neg (by omega)]
    · rw [if_neg (by simp [bvc]; omega)]
      by_cases e : i = 72
      · subst e; rw [stc_wrote _ _ _ hm, stc_wrote _ _ _ (by omega)]
      · rw [Array.getElem?_eq_none (by rw [stc_size _ _ _ hm]; omega), Array.getElem?_eq_none (by rw [stc_size _ _ _ (by omega)]; omega)]
theorem stc_setw (h : V8) (m : List Nat) (n n' : Nat) (hm : m.length = 64) : (stc h m n).setIfInBounds 72 (.int .u64 (n' : Int)) = stc h m n' := by
  have e : (v8c h ++ (bvc m).toArray).size = 72 := by simp [v8c_size, bvc, hm]
  apply Array.ext_getElem?
  intro i
  rw [Array.getElem?_setIfInBounds, stc, stc, Array.getElem?_push, Array.getElem?_push, Array.size_push, e]
  by_cases h1 : 72 = i
  · subst h1; simp
  · rw [if_neg h1, if_neg (by omega), if_neg (by omega)]
/-- A sum under way, as it lies in memory. -/
structure Stt (w : World) (b : Nat) (T : TypeId) (msg : List Nat) (m : List Nat) : Prop where
  blk : Blk w b (stc (hs msg (msg.length / 64)) m msg.length) T
  sta : Sta msg (hs msg (msg.length / 64)) m
theorem slice64l (b o n : Nat) (w : World) :
    (Instr.sliceAt 118 (.pointer (some ⟨b, o, none⟩)) (some (.int .u64 ((n : Int) % 64))) none none).run Tryz.prog w = .ok (.slice (some ⟨b, o + n % 64, none⟩) (64 - n % 64) (64 - n % 64)) w := by
  have e1 : Tryz.prog.elem 118 = 5 := by kernel_rfl
  have e2 : Tryz.prog.arrayLen 118 = 64 := by kernel_rfl
  have e0 : Tryz.prog.underlying 118 = some (.array (Tryz.prog.arrayLen 118) (Tryz.prog.elem 118)) := by kernel_rfl
  rw [run_sliceAt_array_l (P := Tryz.prog) w 118 ⟨b, o, none⟩ e0 .u64 ((n : Int) % 64) (by omega) (by rw [e2]; omega)]
  rw [e1, e2, sizeOf_u8']
  simp only [slicedAt, Result.andThen, Addr.add_mid]
  rw [show ((n : Int) % 64).toNat = n % 64 from by omega]
  have e3 : ¬ 64 = n % 64 := by omega
  simp only [Nat.mul_one, e3, if_false]
theorem Stt.of_more {M xs m : List Nat} {h : V8} {n c b : Nat} {T : TypeId} {W : World} (S : Sta M h m) (hn : n = M.length) (hxb : ∀ x ∈ xs, x < 256) (hxl : xs.length = c) (hc : c < 64 - M.length % 64)
    (hB : Blk W b (stc h (putL m (n % 64) xs) (n + c)) T) : Stt W b T (M ++ xs) (putL m (n % 64) xs) := by
  subst hn
  have S' := S.more xs hxb (by omega)
  exact ⟨by rw [← S'.num, List.length_append, hxl]; exact hB, by rw [← S'.num]; exact S'⟩
theorem Stt.of_full {M xs m : List Nat} {h : V8} {n c b : Nat} {T : TypeId} {W : World} (S : Sta M h m) (hn : n = M.length) (hxb : ∀ x ∈ xs, x < 256) (hxl : xs.length = c) (hc : c = 64 - M.length % 64)
    (hB : Blk W b (stc (comp (putL m (n % 64) xs) h) (putL m (n % 64) xs) (n + c)) T) : Stt W b T (M ++ xs) (putL m (n % 64) xs) := by
  subst hn
  have S' := S.full xs hxb (by omega)
  exact ⟨by rw [← S'.num, List.length_append, hxl]; exact hB, by rw [← S'.num]; exact S'⟩
theorem copy_at {w : World} {b : Nat} {T : TypeId} {h : V8} {m : List Nat} {k : Nat} (hB : Blk w b (stc h m k) T) (hm : m.length = 64) (s : ByteArray) (n : Nat) (ty : TypeId) :
    (Builtin.copy_ #[65, 9] ty #[.slice (some ⟨b, 8 + n % 64, none⟩) (64 - n % 64) (64 - n % 64), .string s]).run Tryz.prog w = .ok (goInt (Nat.min s.size (64 - n % 64))) (w.setCells b (8 + n % 64) (bvc ((byl s).take (Nat.min s.size (64 - n % 64))))) := by
  have hi : (Tryz.prog.info? 5).map (·.size) = some 1 := by kernel_rfl
  refine copy_str w 65 9 ty 5 b (8 + n % 64) _ _ s Tryz.underlying65 hi (fun j hj => ?_) (fun j hj => ?_)
  · rw [hB.cell]
    have hj2 := Nat.lt_of_lt_of_le hj (Nat.min_le_right _ _)
    rw [show 8 + n % 64 + j = 8 + (n % 64 + j) from by omega, stc_byte _ _ _ _ (by omega)]; rfl
  · exact hB.frozen _
set_option maxHeartbeats 400000 in
set_option maxRecDepth 100000 in
theorem take_any (msg m : List Nat) (s : ByteArray) (b : Nat) (T : TypeId) (w : World) (hS : Stt w b T msg m) (hK : KIs w) (hb2 : b ≠ 3) (hlen : msg.length + s.size < 4611686018427387904) :
    Calls Tryz.prog 59 #[.pointer (some ⟨b, 0, none⟩), .string s] w fun e w' =>
      e = .returned (.tuple #[]) ∧ (∃ m', Stt w' b T (msg ++ byl s) m') ∧ w.grownBy w' (some b) := by
  have HS : Hid (Stt w b T msg m) := hS
  have HK : Hid (KIs w) := hK
  clear hS hK
  go_enter Tryz.func59, Tryz.ntmps59
  go_wp2
  go_loopw [1] (fun v wr => ∃ (rest : ByteArray) (past m : List Nat), v = .string rest ∧ Hid (byl s = past ++ byl rest) ∧ Hid (Stt wr b T (msg ++ past) m) ∧ Hid (KIs wr) ∧ Hid (w.grownBy wr (some b))) (fun v _ => match v with | .string r => r.size | _ => 0)
  case atStart => exact ⟨s, [], m, rfl, rfl, by rw [List.append_nil]; exact HS, HK, World.grownBy.refl _ _⟩
  case round =>
    obtain ⟨rest, past, m, rfl, HP, HR, HK2, HG⟩ := hrel
    have hsz : past.length + rest.size = s.size := by have := congrArg List.length HP.out; simp only [List.length_append, byl_length] at this; omega
    obtain ⟨n, hn⟩ : ∃ n, n = (msg ++ past).length := ⟨_, rfl⟩
    have hn2 : n + rest.size < 4611686018427387904 := by rw [hn, List.length_append]; omega
    by_cases hlt : 0 < rest.size
    · have h1 := HR.out.blk.cell 72
      rw [stc_wrote _ _ _ HR.out.sta.len, ← hn] at h1
      have h2 := fun j => HR.out.blk.frozen j
      have h3 := slice64l b 8 n
      obtain ⟨c, hc⟩ : ∃ c, c = Nat.min rest.size (64 - n % 64) := ⟨_, rfl⟩
      obtain ⟨cs, hcs⟩ : ∃ cs, cs = bvc ((byl rest).take c) := ⟨_, rfl⟩
      have h5 := copy_at (w := wr.drew) (T := T) HR.out.blk HR.out.sta.len rest n 3
      rw [← hc, ← hcs] at h5
      have hc1 : 0 < c := by rw [hc]; exact Nat.lt_min.2 ⟨hlt, by omega⟩
      have hc2 : c ≤ rest.size := by rw [hc]; exact Nat.min_le_left _ _
      have hc3 : c ≤ 64 - n % 64 := by rw [hc]; exact Nat.min_le_right _ _
      have HC : Hid ((c = Nat.min rest.size (64 - n % 64) ∧ cs = bvc ((byl rest).take c)) ∧ n = (msg ++ past).length) := ⟨⟨hc, hcs⟩, hn⟩
      clear hn hc hcs
      go_wp2
      go_region
      obtain ⟨xs, hxs⟩ : ∃ xs, xs = (byl rest).take c := ⟨_, rfl⟩
      have hxl : xs.length = c := by rw [hxs, List.length_take, byl_length]; omega
      have hxb : ∀ x ∈ xs, x < 256 := fun x hx => byl_lt rest x (List.mem_of_mem_take (hxs ▸ hx))
      have hw3 : Blk (wr.drew.setCells b (8 + n % 64) cs) b (stc (hs (msg ++ past) ((msg ++ past).length / 64)) (putL m (n % 64) xs) n) T := by
        rw [← putA_stc _ _ _ _ _ HR.out.sta.len (by omega), hxs, ← HC.out.1.2]
        have := HR.out.blk
        rw [← HC.out.2] at this ⊢
        exact Blk.puts cs (8 + n % 64) _ wr.drew this
      have hg3 : wr.grownBy (wr.drew.setCells b (8 + n % 64) cs) (some b) := grown_puts b cs _ (Lib.Hx.grownBy_drew (World.grownBy.refl wr _))
      generalize wr.drew.setCells b (8 + n % 64) cs = w3 at hw3 hg3 ⊢
      have hpl : (putL m (n % 64) xs).length = 64 := by rw [putL_length _ _ _ (by rw [HR.out.sta.len]; omega), HR.out.sta.len]
      have q1 := hw3.cell 72
      rw [stc_wrote _ _ _ hpl] at q1
      have q2 := hw3.frozen 72
      have hw4 := hw3.set 72 (.int .u64 ((n + c : Nat) : Int))
      rw [stc_setw _ _ _ _ hpl] at hw4
      have HW : Hid (Blk (w3.setCell ⟨b, 72, none⟩ (.int .u64 ((n + c : Nat) : Int))) b (stc (hs (msg ++ past) ((msg ++ past).length / 64)) (putL m (n % 64) xs) (n + c)) T) := hw4
      have HX : Hid (xs = (byl rest).take c) := hxs
      clear h1 h2 h3 h5 hw3 hw4 hxs
      have hcast : ((n : Int) + (c : Int)) = ((n + c : Nat) : Int) := by omega
      have hsplit : byl s = (past ++ xs) ++ byl (rest.extract c rest.size) := by rw [byl_drop, HX.out, List.append_assoc, List.take_append_drop]; exact HP.out
      have HSp : Hid (byl s = (past ++ xs) ++ byl (rest.extract c rest.size)) := hsplit
      have hex : (rest.extract c rest.size).size = rest.size - c := by rw [← byl_length, byl_drop, List.length_drop, byl_length]
      have HE : Hid ((rest.extract c rest.size).size = rest.size - c) := hex
      have HCa : Hid (((n : Int) + (c : Int)) = ((n + c : Nat) : Int)) := hcast
      clear hsplit hex hcast
      by_cases hm0 : (n + c) % 64 = 0
      · have hm1 : ((n : Int) + (c : Int)) % 64 = 0 := by omega
        have hkk : KIs (w3.setCell ⟨b, 72, none⟩ (.int .u64 ((n : Int) + (c : Int)))) := (HK2.out.grown hg3 (by simpa using hb2)).grown (Lib.grownBy_setCell w3 b 72 _) (by simpa using hb2)
        have HKK : Hid (KIs (w3.setCell ⟨b, 72, none⟩ (.int .u64 ((n : Int) + (c : Int))))) := hkk
        clear hkk
        go_wp2_with (go_at_call 83; refine (mix_any (hs (msg ++ past) ((msg ++ past).length / 64)) (putL m (n % 64) xs) (n + c) b T _ hpl (putL_lt _ _ _ HR.out.sta.lt hxb) (by rw [HCa.out]; exact HW.out) HKK.out hb2).mono ?_; rintro e w5 ⟨rfl, hb5, hg5⟩)
        refine ⟨⟨rest.extract c rest.size, past ++ xs, putL m (n % 64) xs, rfl, HSp, ?_, ?_, ?_⟩, ?_⟩
        · show Stt _ _ _ _ _
          rw [← List.append_assoc]
          exact Stt.of_full HR.out.sta HC.out.2 hxb hxl (by rw [← HC.out.2]; omega) hb5
        · exact HKK.out.grown hg5 (by simpa using hb2)
        · exact ((HG.out.trans hg3).trans (Lib.grownBy_setCell w3 b 72 _)).trans hg5
        · show (rest.extract c rest.size).size < rest.size
          rw [HE.out]; omega
      · have hm1 : ¬ ((n : Int) + (c : Int)) % 64 = 0 := by omega
        go_wp2
        refine ⟨⟨rest.extract c rest.size, past ++ xs, putL m (n % 64) xs, rfl, HSp, ?_, ?_, ?_⟩, ?_⟩
        · show Stt _ _ _ _ _
          rw [← List.append_assoc]
          exact Stt.of_more HR.out.sta HC.out.2 hxb hxl (by rw [← HC.out.2]; omega) (by rw [HCa.out]; exact HW.out)
        · exact (HK2.out.grown hg3 (by simpa using hb2)).grown (Lib.grownBy_setCell w3 b 72 _) (by simpa using hb2)
        · exact (HG.out.trans hg3).trans (Lib.grownBy_setCell w3 b 72 _)
        · show (rest.extract c rest.size).size < rest.size
          rw [HE.out]; omega
    · have hr0 : rest.size = 0 := by omega
      go_wp2
      go_end0
      refine ⟨rfl, ⟨m, ?_⟩, HG.out⟩
      have : byl rest = [] := List.eq_nil_of_length_eq_zero (by rw [byl_length, hr0])
      have e := HP.out
      rw [this, List.append_nil] at e
      rw [e]
      exact HR.out
end Go.Proofs.YtfmfdaoipfpijaaGreatDoor
/- The leaf walks of package wire: isWidth, bits.Len64, Len: what each call returns, the world as it was. -/
namespace Go.Proofs.YtfmfdaoipfpijaaGreatDoor
open Go.RowKit
set_option linter.unusedSimpArgs false
set_option linter.unusedVariables false
theorem ret_int {k : IntKind} {a b : Int} (h : a = b) : Ending.returned (.int k a) = .returned (.int k b) := by rw [h]
theorem len8_get (i : Nat) (h : i < Lib.len8tab.size) : ((Lib.len8tab[i]'h).toNat : Int) = (Lib.bitLen i : Int) := by
  have hz := Lib.len8tab_size
  have e := Lib.len8_eq ⟨i, by omega⟩
  simp only [Lib.len8, Int.toNat_natCast] at e
  rw [← e]
  simp [h]
theorem bitLen_le8n (i : Nat) (h : i < 256) : Lib.bitLen i ≤ 8 := Lib.bitLen_le8 ⟨i, h⟩
theorem len64_fin (x i : Nat) (k : Nat) (b : Int) (hi : i = x / 2 ^ k) (hk : k ≤ 56) (hx : x < 2 ^ 64) (h8 : i < 256) (hb : b = (Lib.bitLen i : Int)) (hsh : k = 0 ∨ 2 ^ k ≤ x) :
    wrap64 ((k : Int) + wrap64 b) = (Lib.bitLen x : Int) := by
  have l := bitLen_le8n i h8
  have e : Lib.bitLen x = k + Lib.bitLen i := by
    rcases hsh with h | h
    · subst h; simp at hi; subst hi; simp
    · rw [hi]; exact Lib.bitLen_shift k x h hx
  subst hb
  unfold wrap64
  omega
theorem len64_fin0 (x : Nat) (b : Int) (h8 : x < 256) (hb : b = (Lib.bitLen x : Int)) : wrap64 (wrap64 b) = (Lib.bitLen x : Int) := by
  have l := bitLen_le8n x h8
  subst hb
  unfold wrap64
  omega
set_option maxHeartbeats 400000 in
set_option maxRecDepth 100000 in
theorem len64_any (x : Int) (w : World) (h0 : 0 ≤ x) (h1 : x ≤ 18446744073709551615) :
    Calls Tryz.prog 77 #[.int .u64 x] w fun e w' => e = .returned (.int .i64 (Lib.bitLen x.toNat)) ∧ w' = w := by
  have hz := Lib.len8tab_size
  go_enter Tryz.func77, Tryz.ntmps77
  go_wp2
  all_goals first | (exfalso; omega) | skip
  all_goals go_ret
  all_goals refine ⟨ret_int ?_, rfl⟩
  · exact len64_fin x.toNat (x / 4294967296 / 65536 / 256).toNat 56 _ (by omega) (by omega) (by omega) (by omega) (len8_get _ _) (by omega)
  · exact len64_fin x.toNat (x / 4294967296 / 65536).toNat 48 _ (by omega) (by omega) (by omega) (by omega) (len8_get _ _) (by omega)
  · exact len64_fin x.toNat (x / 4294967296 / 256).toNat 40 _ (by omega) (by omega) (by omega) (by omega) (len8_get _ _) (by omega)
  · exact len64_fin x.toNat (x / 4294967296).toNat 32 _ (by omega) (by omega) (by omega) (by omega) (len8_get _ _) (by omega)
  · exact len64_fin x.toNat (x / 65536 / 256).toNat 24 _ (by omega) (by omega) (by omega) (by omega) (len8_get _ _) (by omega)
  · exact len64_fin x.toNat (x / 65536).toNat 16 _ (by omega) (by omega) (by omega) (by omega) (len8_get _ _) (by omega)
  · exact len64_fin x.toNat (x / 256).toNat 8 _ (by omega) (by omega) (by omega) (by omega) (len8_get _ _) (by omega)
  · exact len64_fin0 x.toNat _ (by omega) (len8_get _ _)
/-- Whether a number is a width. -/
def isW (n : Int) : Bool := decide (1 ≤ n ∧ n ≤ 8)
theorem isW_yes {n : Int} (h1 : 1 ≤ n) (h2 : n ≤ 8) : isW n = true := decide_eq_true ⟨h1, h2⟩
theorem isW_no {n : Int} (h : n < 1 ∨ 8 < n) : isW n = false := decide_eq_false (by omega)
theorem isW_iff {n : Int} : isW n = true ↔ 1 ≤ n ∧ n ≤ 8 := by unfold isW; simp
theorem ret_bool {a b : Bool} (h : a = b) : Ending.returned (.bool a) = .returned (.bool b) := by rw [h]
set_option maxHeartbeats 400000 in
theorem isWidth_any (n : Int) (w : World) :
    Calls Tryz.prog 76 #[.int .i64 n] w fun e w' => e = .returned (.bool (isW n)) ∧ w' = w := by
  by_cases h1 : 1 ≤ n
  · by_cases h2 : n ≤ 8
    · go_enter Tryz.func76, Tryz.ntmps76
      go_wp2
      go_ret
      exact ⟨ret_bool (isW_yes h1 h2).symm, rfl⟩
    · go_enter Tryz.func76, Tryz.ntmps76
      go_wp2
      go_ret
      exact ⟨ret_bool (isW_no (by omega)).symm, rfl⟩
  · go_enter Tryz.func76, Tryz.ntmps76
    go_wp2
    go_ret
    exact ⟨ret_bool (isW_no (by omega)).symm, rfl⟩
theorem sizeOf_u8 (w : World) : (sizeOf 5).run Tryz.prog w = .ok 1 w := by kernel_rfl
theorem ret_str {a b : ByteArray} (h : a = b) : Ending.returned (.string a) = .returned (.string b) := by rw [h]
theorem append_size (a b : ByteArray) : (a ++ b).size = a.size + b.size := by simp
end Go.Proofs.YtfmfdaoipfpijaaGreatDoor
