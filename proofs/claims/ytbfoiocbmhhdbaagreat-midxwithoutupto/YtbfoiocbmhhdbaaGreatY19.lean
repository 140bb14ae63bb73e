import Derived.Test.YtbfoiocbmhhdbaaGreatY18
import Derived.Test.YtbfoiocbmhhdbaaGreatY11
import Derived.Test.YtbfoiocbmhhdbaaGreatY2
import Derived.Test.YtbfoiocbmhhdbaaGreatY14
import Derived.Test.YtbfoiocbmhhdbaaGreatY7
import Derived.Test.YtbfoiocbmhhdbaaGreatY8
import Derived.Test.YtbfoiocbmhhdbaaGreatY1
/- midx.Index.bytes: the map of packs' numbers; what is under way. -/
namespace Go.Proofs.YtbfoiocbmhhdbaaGreat
open Go.RowKit Go.Maps
set_option linter.unusedSimpArgs false
set_option linter.unusedVariables false
theorem slice32m (g o : Nat) (w : World) : (Instr.sliceAt 48 (.pointer (some ⟨g, o, none⟩)) none none none).run Tryz.prog w = .ok (.slice (some ⟨g, o, none⟩) 32 32) w := by
  have e1 : Tryz.prog.elem 48 = 5 := by kernel_rfl
  have e2 : Tryz.prog.arrayLen 48 = 32 := by kernel_rfl
  have e0 : Tryz.prog.underlying 48 = some (.array (Tryz.prog.arrayLen 48) (Tryz.prog.elem 48)) := by kernel_rfl
  rw [run_sliceAt_array_all (P := Tryz.prog) w 48 ⟨g, o, none⟩ e0]
  rw [e1, e2, sizeOf_u8']
  simp only [slicedAt, Result.andThen, Addr.add_mid]
  simp
/-- Block m is the map from these packs to their numbers. -/
def NbM (w : World) (m : Nat) (d : List ByteArray) : Prop :=
  ∃ D, Mp w 48 m D ∧ Maps.size D ≤ d.length ∧ ∀ (x : ByteArray) (i : Nat), d[i]? = some x → x.size = 32 ∧ hAt D (kI x) = some (.int .i64 (i : Int))
theorem NbM.lt {w : World} {m : Nat} {d : List ByteArray} (h : NbM w m d) : m < w.heap.size := by
  obtain ⟨D, h1, _⟩ := h; exact h1.lt
theorem NbM.keep {w w' : World} {m : Nat} {d : List ByteArray} (h : NbM w m d) (hb : w'.heap[m]? = w.heap[m]?) : NbM w' m d := by
  obtain ⟨D, ⟨es, c, h1, h2, h3, h4⟩, h5⟩ := h
  exact ⟨D, ⟨es, c, hb.trans h1, h2, h3, h4⟩, h5⟩
theorem NbM.isMap {w : World} {m : Nat} {d : List ByteArray} (h : NbM w m d) : ∃ es c, w.heap[m]? = some (.map es c) := by
  obtain ⟨D, ⟨es, c, h1, _⟩, _⟩ := h
  exact ⟨es, c, h1⟩
theorem NbM.made (w : World) : NbM (w.alloc (.map #[] 0)) w.heap.size [] := ⟨.map [], Mp.made w _, Nat.le_refl _, fun x i h => by simp at h⟩
theorem zero_int15 : ∀ w, (zeroValue 3).run Tryz.prog w = .ok (.int .i64 0) w := Tryz.zeroValue3
theorem NbM.look {w : World} {m : Nat} {d : List ByteArray} (h : NbM w m d) (x : ByteArray) (i : Nat) (hx : d[i]? = some x) :
    (Instr.lookup 46 (.map (some m)) (.agg (idc x)) false).run Tryz.prog w = .ok (.int .i64 (i : Int)) w := by
  obtain ⟨D, h1, _, h3⟩ := h
  obtain ⟨a, b⟩ := h3 x i hx
  have := (h1.at_held idKey Tryz.underlying46 (zero_int15 _) (kI_key x a)).2
  rw [this, b]; rfl
theorem NbM.put {w : World} {m : Nat} {d : List ByteArray} (h : NbM w m d) (hn : d.length < 1048576) (x : ByteArray) (hx : x.size = 32) (hnew : x ∉ d) :
    ∃ w', (Instr.mapUpdate 46 (.map (some m)) (.agg (idc x)) (.int .i64 (d.length : Int))).run Tryz.prog w = .ok () w' ∧ NbM w' m (d ++ [x]) ∧ w.grownBy w' (some m) := by
  obtain ⟨D, h1, h2, h3⟩ := h
  obtain ⟨w', g1, g2, g3⟩ := h1.put idKey Tryz.underlying46 (by unfold maxLen; omega) (kI_key x hx) (.int .i64 (d.length : Int))
  have hk := idKey.key (kI_key x hx)
  have hD : IsMap D := World.ownsMap.isMap h1
  have htd : Tidy D := World.ownsMap.tidy h1 idKey
  refine ⟨w', g1, ⟨_, g2, ?_, ?_⟩, g3⟩
  · rw [Maps.size_put htd, List.length_append, List.length_singleton]
    split <;> omega
  · intro y i hy
    by_cases hi : i < d.length
    · rw [List.getElem?_append_left hi] at hy
      obtain ⟨a, b⟩ := h3 y i hy
      refine ⟨a, ?_⟩
      have ne : kI y ≠ kI x := fun h => hnew (by rw [← kI_inj a hx h]; exact List.mem_of_getElem? hy)
      rw [hAt_put_other ne]; exact b
    · have hlt := (List.getElem?_eq_some_iff.1 hy).1
      rw [List.length_append, List.length_singleton] at hlt
      obtain rfl : i = d.length := by omega
      rw [List.getElem?_append_right (Nat.le_refl _), Nat.sub_self] at hy
      simp at hy
      subst hy
      exact ⟨hx, hAt_put_same hD hk _⟩
/-- The bytes under way: the builder, the map. -/
structure MyS (w0 : World) (m : Nat) (l : List UInt8) (d : List ByteArray) (w : World) : Prop where
  bld : Bld w0.heap.size w0.heap.size l w
  nb : NbM w m d
  mb : w0.heap.size < m
  bel : Below w0.heap.size w0 w
theorem MyS.keep {w0 w w' : World} {m : Nat} {l : List UInt8} {d : List ByteArray} (h : MyS w0 m l d w) (hb : Below w.heap.size w w') : MyS w0 m l d w' :=
  ⟨bld_keep11 h.bld hb, h.nb.keep (hb.block m h.nb.lt), h.mb, h.bel.trans (hb.mono h.bel.size)⟩
theorem MyS.wr {w0 w w' : World} {m : Nat} {l l' l2 : List UInt8} {d : List ByteArray} (h : MyS w0 m l d w) (hq : Bld w0.heap.size w0.heap.size l' w' ∧ Below w0.heap.size w w' ∧ Oth w0.heap.size w w') (e : l' = l2) : MyS w0 m l2 d w' := by
  subst e
  obtain ⟨es, c, hm⟩ := h.nb.isMap
  exact ⟨hq.1, h.nb.keep ((hq.2.2 m _ hm (by have := h.mb; simp; omega) (by simp)).trans hm.symm), h.mb, h.bel.trans hq.2.1⟩
/-- A pack's number is noted. -/
theorem MyS.put {w0 w : World} {m : Nat} {l : List UInt8} {d : List ByteArray} (h : MyS w0 m l d w) (hn : d.length < 1048576) (x : ByteArray) (hx : x.size = 32) (hnew : x ∉ d) :
    ∃ w', (Instr.mapUpdate 46 (.map (some m)) (.agg (idc x)) (.int .i64 (d.length : Int))).run Tryz.prog w = .ok () w' ∧ MyS w0 m l (d ++ [x]) w' := by
  obtain ⟨w', h1, h2, h3⟩ := h.nb.put hn x hx hnew
  obtain ⟨es, c, hm⟩ := h.nb.isMap
  refine ⟨w', h1, bld_apart h.bld h3 (fun C T F hc => ?_), h2, h.mb, below_own h.bel h.bel.size h3 (Nat.le_of_lt h.mb)⟩
  rw [hm] at hc; cases hc
end Go.Proofs.YtbfoiocbmhhdbaaGreat
/- midx.Index.bytes. -/
namespace Go.Proofs.YtbfoiocbmhhdbaaGreat
open Go.RowKit Go.Maps
set_option linter.unusedSimpArgs false
set_option linter.unusedVariables false
theorem growM (b n : Nat) (W : World) (hb : Bk W b #[.pointer none, .slice none 0 0] 146) (hn : n ≤ 281474976710656) :
    Calls Tryz.prog 65 #[.pointer (some ⟨b, 0, none⟩), .int .i64 n] W fun e w' => e = .returned (.tuple #[]) ∧ Bld b b [] w' ∧ Below b W w' := by
  refine (Any.Builder_Grow_fresh lays165 extra165 b b n W (Nat.le_refl _) hb (Nat.le_of_lt hb.lt) hn).mono ?_
  rintro e w' ⟨he, h1, h2⟩
  exact ⟨he, .inr (Lib.BuilderAtF.of h1), h2⟩
theorem psB_take {ps : List ByteArray} {k : Nat} {p : ByteArray} (h : ps[k]? = some p) : psB (ps.take (k + 1)) = psB (ps.take k) ++ bl p := by
  rw [List.take_add_one, h]; exact psB_snoc _ _
theorem rwsB_take {ps : List ByteArray} {l : List Mr} {k : Nat} {r : Mr} (h : l[k]? = some r) : rwsB ps (l.take (k + 1)) = rwsB ps (l.take k) ++ rwB ps r := by
  rw [List.take_add_one, h]; exact rwsB_snoc _ _ _
theorem RiN.notmem {ps : List ByteArray} (h : RiN ps) {k : Nat} {p : ByteArray} (hp : ps[k]? = some p) : p ∉ ps.take k := fun hm => by
  obtain ⟨i, hi⟩ := List.getElem?_of_mem hm
  have hlt := (List.getElem?_eq_some_iff.1 hi).1
  rw [List.length_take] at hlt
  rw [List.getElem?_take_of_lt (by omega)] at hi
  have := h.one hi hp
  omega
def stA (ps : List ByteArray) (k : Nat) : List UInt8 := [109, 109, 120, 49] ++ (f4 ps.length ++ psB (ps.take k))
def stB (ps : List ByteArray) (l : List Mr) (f : Nat) : List UInt8 := stA ps ps.length ++ (f4 l.length ++ fanT (l.map Mr.e) f)
def stC (ps : List ByteArray) (l : List Mr) (k : Nat) : List UInt8 := mhB ps ++ (mfB l ++ rwsB ps (l.take k))
theorem stA_zero (ps : List ByteArray) : [109, 109, 120, 49] ++ f4 ps.length = stA ps 0 := by simp [stA, psB]
theorem stA_succ {ps : List ByteArray} {k : Nat} {p : ByteArray} (h : ps[k]? = some p) : stA ps k ++ bl p = stA ps (k + 1) := by rw [stA, stA, psB_take h]; simp
theorem stB_zero (ps : List ByteArray) (l : List Mr) : stA ps ps.length ++ f4 l.length = stB ps l 0 := by simp [stB, fanT]
theorem stB_succ (ps : List ByteArray) (l : List Mr) (f : Nat) : stB ps l f ++ f4 (fanL (l.map Mr.e) f) = stB ps l (f + 1) := by rw [stB, stB, fanT_succ]; simp
theorem stC_zero (ps : List ByteArray) (l : List Mr) : stB ps l 256 = stC ps l 0 := by simp [stB, stC, stA, mhB, mfB, rwsB]
theorem stC_succ {ps : List ByteArray} {l : List Mr} {k : Nat} {r : Mr} (h : l[k]? = some r) : stC ps l k ++ rwB ps r = stC ps l (k + 1) := by rw [stC, stC, rwsB_take h]; simp
theorem stC_end {ps : List ByteArray} {l : List Mr} {k : Nat} (h : l.length = k) : stC ps l k = mxB ps l := by rw [stC, mxB, List.take_of_length_le (by omega)]
theorem stA_len {ps : List ByteArray} (h : ∀ p ∈ ps, p.size = 32) (k : Nat) (hn : ps.length ≤ 4096) : (stA ps k).length ≤ 131080 := by
  have := psB_len (ps := ps.take k) (fun p hp => h p (List.mem_of_mem_take hp))
  rw [stA, List.length_append, List.length_append, f4_len, this, List.length_take]
  show 4 + _ ≤ _
  omega
theorem stB_len {ps : List ByteArray} (h : ∀ p ∈ ps, p.size = 32) (hn : ps.length ≤ 4096) (l : List Mr) (f : Nat) (hf : f ≤ 256) : (stB ps l f).length ≤ 132108 := by
  have := stA_len h ps.length hn
  rw [stB, List.length_append, List.length_append, f4_len, fanT_len]
  omega
theorem stC_len {ps : List ByteArray} {l : List Mr} (h : OkM ps l) (k : Nat) : (stC ps l k).length ≤ 48000000 := by
  have h1 := h.pln
  have h2 := h.len
  rw [stC, List.length_append, List.length_append, mhB_len h.psz, mfB_len, rwsB_len (fun r hr => h.id r (List.mem_of_mem_take hr)), List.length_take]
  omega
set_option maxHeartbeats 8000000 in
set_option maxRecDepth 100000 in
theorem mbytes_any (g : Nat) (ps : List ByteArray) (l : List Mr) (w : World) (h : MxW w g ps l) (hok : OkM ps l) :
    Calls Tryz.prog 31 #[.pointer (some ⟨g, 0, none⟩)] w fun e w' => e = .returned (.string ⟨(mxB ps l).toArray⟩) ∧ Below w.heap.size w w' := by
  have hbx := bk_new w #[.pointer (some ⟨g, 0, none⟩)] 28
  have hal : Below w.heap.size w (w.alloc (.cells #[.pointer (some ⟨g, 0, none⟩)] 28)) := (Below.refl _ _).alloc (Nat.le_refl _) _
  obtain ⟨B0, hB0⟩ : ∃ b, w.heap.size = b := ⟨_, rfl⟩
  obtain ⟨w0, hw0⟩ : ∃ w0, w.alloc (.cells #[.pointer (some ⟨g, 0, none⟩)] 28) = w0 := ⟨_, rfl⟩
  have hz0 : w0.heap.size = B0 + 1 := by rw [← hw0, ← hB0]; simp
  rw [hw0] at hbx hal
  rw [hB0] at hbx
  obtain ⟨ap, ar, cp, cr, h1, h2, h3⟩ := h.row
  have hpl := h.pl
  have hll := h.ll
  obtain ⟨n, hn⟩ : ∃ n, ps.length = n := ⟨_, rfl⟩
  obtain ⟨m, hm⟩ : ∃ m, l.length = m := ⟨_, rfl⟩
  have HX : Hid (∀ W, Below w0.heap.size w0 W → W.cell? ⟨B0, 0, none⟩ = some (.pointer (some ⟨g, 0, none⟩)) ∧ MxW W g ps l) := fun W hW => ⟨by rw [(hbx.below hW hbx.lt).cell]; rfl, (h.below hal).below hW⟩
  have HCC : Hid (∀ W, Below w0.heap.size w0 W → W.cell? ⟨B0, 0, none⟩ = some (.pointer (some ⟨g, 0, none⟩)) ∧ W.cell? ⟨g, 0, none⟩ = some (.slice ap n cp) ∧ W.cell? ⟨g, 1, none⟩ = some (.slice ar m cr)) := fun W hW => by
    have hb := (h1.below hal h1.lt).below hW (h1.below hal h1.lt).lt
    refine ⟨(HX.out W hW).1, ?_, ?_⟩
    · rw [hb.cell, ← hn]; rfl
    · rw [hb.cell, ← hm]; rfl
  have HNM : Hid (∀ W, Below w0.heap.size w0 W → NmL W ap ps) := fun W hW => (h2.below hal).below hW
  have HRM : Hid (∀ W, Below w0.heap.size w0 W → MrL W ar l) := fun W hW => (h3.below hal).below hW
  have HLN : Hid (ps.length = n ∧ l.length = m) := ⟨hn, hm⟩
  have HOK : Hid (OkM ps l) := hok
  have HBL : Hid (Below w.heap.size w w0 ∧ w.alloc (.cells #[.pointer (some ⟨g, 0, none⟩)] 28) = w0) := ⟨hal, hw0⟩
  rw [hn] at hpl
  rw [hm] at hll
  obtain ⟨R, hR⟩ : ∃ R : ByteArray, (⟨(mxB ps l).toArray⟩ : ByteArray) = R := ⟨_, rfl⟩
  have HR : Hid ((⟨(mxB ps l).toArray⟩ : ByteArray) = R) := hR
  rw [hR]
  obtain ⟨N, hN⟩ : ∃ N : Nat, 1036 + n * 32 + m * 45 = N := ⟨_, rfl⟩
  have hNl : N ≤ 281474976710656 := by omega
  have q1 : IntKind.i64.wrap ((n : Int) * 32) = (n : Int) * 32 := by rw [IntKind.wrap_i64]; omega
  have q2 : IntKind.i64.wrap (8 + (n : Int) * 32) = 8 + (n : Int) * 32 := by rw [IntKind.wrap_i64]; omega
  have q3 : IntKind.i64.wrap (8 + (n : Int) * 32 + 4) = 8 + (n : Int) * 32 + 4 := by rw [IntKind.wrap_i64]; omega
  have q4 : IntKind.i64.wrap (8 + (n : Int) * 32 + 4 + 1024) = 8 + (n : Int) * 32 + 4 + 1024 := by rw [IntKind.wrap_i64]; omega
  have q5 : IntKind.i64.wrap ((m : Int) * 45) = (m : Int) * 45 := by rw [IntKind.wrap_i64]; omega
  have q6 : IntKind.i64.wrap (8 + (n : Int) * 32 + 4 + 1024 + (m : Int) * 45) = (N : Int) := by rw [IntKind.wrap_i64]; omega
  have HBU : Hid (Bk (w0.alloc (.cells #[.pointer none, .slice none 0 0] 146)) w0.heap.size #[.pointer none, .slice none 0 0] 146 ∧ Below w0.heap.size w0 (w0.alloc (.cells #[.pointer none, .slice none 0 0] 146))) := ⟨bk_new _ _ _, (Below.refl _ _).alloc (Nat.le_refl _) _⟩
  clear h hok hbx hal h1 h2 h3 hn hm hR hN hw0
  go_enter Tryz.func31, Tryz.ntmps31
  rw [hB0]
  go_upto_region 2 with fail
  rw [show w.alloc (.cells #[.pointer (some ⟨g, 0, none⟩)] 28) = w0 from HBL.out.2]
  obtain ⟨w1, hw1⟩ : ∃ w1, w0.alloc (.cells #[.pointer none, .slice none 0 0] 146) = w1 := ⟨_, rfl⟩
  rw [hw1] at HBU ⊢
  clear hw1
  obtain ⟨b, hb⟩ : ∃ b, w0.heap.size = b := ⟨_, rfl⟩
  have HW1 : Hid (∀ W, Below w1.heap.size w1 W → Below w0.heap.size w0 W ∧ Bk W b #[.pointer none, .slice none 0 0] 146) := fun W hW => ⟨HBU.out.2.trans (hW.mono HBU.out.2.size), by rw [← hb]; exact HBU.out.1.below hW HBU.out.1.lt⟩
  rw [← hz0, hb]
  have HBB : Hid (w0.heap.size = b) := hb
  clear HBU hz0 hb
  refine wp_region_tail (Below w1.heap.size w1) 16 (by kernel_rfl) (by kernel_rfl) ((Below.refl _ _).drew) ?_
  simp only [List.take_succ_cons, List.take_zero, List.drop_succ_cons, List.drop_zero]
  try simp only [Act.put, List.setIfInBounds_toArray, List.set_cons_zero, List.set_cons_succ]
  repeat (first
    | go_big_quiet_skip
    | (go_big_quiet_want
       first
         | (refine quiet_one 28 _ rfl B0 0 (.pointer (some ⟨g, 0, none⟩)) rfl (fun _ => by kernel_rfl) (fun W hW => (HCC.out W (HW1.out W hW).1).1) ?_; go_big_quiet_on; simp only [Act.put, List.setIfInBounds_toArray, List.set_cons_zero, List.set_cons_succ])
         | (refine quiet_one 42 _ rfl g 0 (.slice ap n cp) rfl (fun _ => by kernel_rfl) (fun W hW => (HCC.out W (HW1.out W hW).1).2.1) ?_; go_big_quiet_on; simp only [Act.put, List.setIfInBounds_toArray, List.set_cons_zero, List.set_cons_succ])
         | (refine quiet_one 58 _ rfl g 1 (.slice ar m cr) rfl (fun _ => by kernel_rfl) (fun W hW => (HCC.out W (HW1.out W hW).1).2.2) ?_; go_big_quiet_on; simp only [Act.put, List.setIfInBounds_toArray, List.set_cons_zero, List.set_cons_succ])
         | (refine quiet_val10 (.pointer (some ⟨g, 0, none⟩)) ?_ ?_; (focus (intro W hW; go_simp; done)); go_big_quiet_on; simp only [Act.put, List.setIfInBounds_toArray, List.set_cons_zero, List.set_cons_succ])
         | (refine quiet_val10 (.pointer (some ⟨g, 1, none⟩)) ?_ ?_; (focus (intro W hW; go_simp; done)); go_big_quiet_on; simp only [Act.put, List.setIfInBounds_toArray, List.set_cons_zero, List.set_cons_succ])
         | (refine quiet_val10 (.int .i64 (n : Int)) ?_ ?_; (focus (intro W hW; go_simp; done)); go_big_quiet_on; simp only [Act.put, List.setIfInBounds_toArray, List.set_cons_zero, List.set_cons_succ])
         | (refine quiet_val10 (.int .i64 (m : Int)) ?_ ?_; (focus (intro W hW; go_simp; done)); go_big_quiet_on; simp only [Act.put, List.setIfInBounds_toArray, List.set_cons_zero, List.set_cons_succ])
         | (refine quiet_val10 (.int .i64 ((n : Int) * 32)) ?_ ?_; (focus (intro W hW; go_simp; done)); go_big_quiet_on; simp only [Act.put, List.setIfInBounds_toArray, List.set_cons_zero, List.set_cons_succ])
         | (refine quiet_val10 (.int .i64 (8 + (n : Int) * 32)) ?_ ?_; (focus (intro W hW; go_simp; done)); go_big_quiet_on; simp only [Act.put, List.setIfInBounds_toArray, List.set_cons_zero, List.set_cons_succ])
         | (refine quiet_val10 (.int .i64 (8 + (n : Int) * 32 + 4)) ?_ ?_; (focus (intro W hW; go_simp; done)); go_big_quiet_on; simp only [Act.put, List.setIfInBounds_toArray, List.set_cons_zero, List.set_cons_succ])
         | (refine quiet_val10 (.int .i64 (8 + (n : Int) * 32 + 4 + 1024)) ?_ ?_; (focus (intro W hW; go_simp; done)); go_big_quiet_on; simp only [Act.put, List.setIfInBounds_toArray, List.set_cons_zero, List.set_cons_succ])
         | (refine quiet_val10 (.int .i64 ((m : Int) * 45)) ?_ ?_; (focus (intro W hW; go_simp; done)); go_big_quiet_on; simp only [Act.put, List.setIfInBounds_toArray, List.set_cons_zero, List.set_cons_succ])
         | (refine quiet_val10 (.int .i64 (N : Int)) ?_ ?_; (focus (intro W hW; go_simp; done)); go_big_quiet_on; simp only [Act.put, List.setIfInBounds_toArray, List.set_cons_zero, List.set_cons_succ])
         | (go_big_quiet_op; go_big_quiet_on)))
  refine wpQuiet_nil ?_
  intro w2 hw2
  have H2 : Hid (Below w1.heap.size w1 w2) := hw2
  clear hw2 q1 q2 q3 q4 q5 q6
  go_wp2_with fail
  refine (growM b N w2 (HW1.out w2 H2.out).2 hNl).mono ?_
  rintro e w3 ⟨rfl, h3, hb3⟩
  have hbw : b = w0.heap.size := HBB.out.symm
  clear HBB
  subst hbw
  have K3 : Hid (BS w0 [] w3) := ⟨h3, (HW1.out w2 H2.out).1.trans hb3⟩
  clear h3 hb3 H2 HW1 hNl
  have H32 : Hid (∀ p ∈ ps, p.size = 32) := HOK.out.psz
  go_wp2_with fail
  refine (writeS w0.heap.size w0.heap.size [] ⟨#[109, 109, 120, 49]⟩ w3 K3.out.bld (by show 0 + 4 ≤ _; omega) K3.out.bel.size).mono ?_
  rintro e w4 ⟨rfl, h4, hb4, _⟩
  have K4 : Hid (BS w0 [109, 109, 120, 49] w4) := ⟨h4, K3.out.bel.trans hb4⟩
  obtain ⟨c1, c2, c3⟩ := HCC.out w4 K4.out.bel
  clear h4 hb4 K3 c3
  go_wp2_with fail
  refine (putNm w0.heap.size w0.heap.size n [109, 109, 120, 49] w4 (by omega) K4.out.bld (by show 4 ≤ _; omega) K4.out.bel.size).mono ?_
  rintro e w5 ⟨rfl, h5, hb5, _⟩
  have K5 : Hid (BS w0 (stA ps 0) w5) := BS.mk' ⟨h5, K4.out.bel.trans hb5⟩ (by rw [← stA_zero, HLN.out.1])
  have HM : Hid (MyS w0 w5.heap.size (stA ps 0) (ps.take 0) (w5.alloc (.map #[] 0))) := ⟨bld_keep11 K5.out.bld ((Below.refl _ _).alloc (Nat.le_refl _) _), by rw [List.take_zero]; exact NbM.made _, (bld_lt K5.out.bld).2, K5.out.bel.alloc K5.out.bel.size _⟩
  obtain ⟨mB, hmB⟩ : ∃ q, w5.heap.size = q := ⟨_, rfl⟩
  obtain ⟨c4, c5, c6⟩ := HCC.out _ HM.out.bel
  rw [hmB] at HM
  have hmm := @run_makeMap Tryz.prog
  have HMB : Hid (w5.heap.size = mB) := hmB
  clear h5 hb5 K4 K5 c1 c2 c6 hmB
  go_wp2_with fail
  rw [HMB.out]
  go_loopw [44] (fun v wr => ∃ k : Nat, v = .int .i64 k ∧ k ≤ n ∧ Hid (MyS w0 mB (stA ps k) (ps.take k) wr)) (fun v _ => n - (intOf v).toNat)
  case atStart => exact ⟨0, rfl, Nat.zero_le _, HM.out⟩
  case round =>
    obtain ⟨k, rfl, hk, K6⟩ := hrel
    clear HM c4 c5 hmm
    by_cases hlt : k < n
    · have hkz : (k : Int) < (n : Nat) := by omega
      obtain ⟨p, hp⟩ : ∃ p, ps[k]? = some p := ⟨ps[k]'(by rw [HLN.out.1]; exact hlt), List.getElem?_eq_getElem _⟩
      obtain ⟨hp32, gp, oo, rfl, k2, hcells⟩ := HNM.out wr K6.out.bel k p hp
      have HP : Hid (p.size = 32 ∧ p ∉ ps.take k ∧ stA ps k ++ bl p = stA ps (k + 1) ∧ ps.take k ++ [p] = ps.take (k + 1) ∧ (ps.take k).length = k) := ⟨hp32, HOK.out.pri.notmem hp, stA_succ hp, by rw [List.take_add_one, hp]; rfl, by rw [List.length_take, HLN.out.1]; omega⟩
      have HBI : Hid (∀ j u, (Lib.byteCells (bl p))[j]? = some u → (idc p)[0 + j]? = some u) := fun j u hu => by rwa [Nat.zero_add, ← Array.getElem?_toList, ← bc_idc]
      have hIP : (Tryz.prog.info? 48).map (·.size) = some (idc p).size ∧ (Tryz.prog.info? 48).map (·.size) = some (idc p).toList.length ∧ z32c.size = (idc p).size ∧ (idc p).all (·.oneCell') = true := ⟨info_32 (by rw [idc_size, hp32]), by rw [Array.length_toList]; exact info_32 (by rw [idc_size, hp32]), by rw [idc_size, hp32]; exact z32c_size, idc_allX p⟩
      have HPUT : Hid (∀ W, MyS w0 mB (stA ps (k + 1)) (ps.take k) W → ∃ w', (Instr.mapUpdate 46 (.map (some mB)) (.agg (idc p)) (.int .i64 (k : Int))).run Tryz.prog W = .ok () w' ∧ MyS w0 mB (stA ps (k + 1)) (ps.take (k + 1)) w') := fun W hW => by
        have := hW.put (by rw [HP.out.2.2.2.2]; omega) p HP.out.1 HP.out.2.1
        rwa [HP.out.2.2.2.2, HP.out.2.2.2.1] at this
      obtain ⟨P, hPe⟩ : ∃ P, idc p = P := ⟨_, rfl⟩
      rw [hPe] at hcells hIP HBI HPUT
      have HCE : Hid (∀ j v, P[j]? = some v → wr.cell? ⟨gp, oo + k * 32 + j, none⟩ = some v) := hcells
      have HIP : Hid ((Tryz.prog.info? 48).map (·.size) = some P.size ∧ (Tryz.prog.info? 48).map (·.size) = some P.toList.length ∧ z32c.size = P.size ∧ P.all (·.oneCell') = true) := hIP
      have HBK : Hid (Bk (wr.alloc (.cells P 48)) wr.heap.size P 48 ∧ MyS w0 mB (stA ps k) (ps.take k) (wr.alloc (.cells P 48))) := ⟨bk_new _ _ _, K6.out.keep ((Below.refl _ _).alloc (Nat.le_refl _) _)⟩
      have hbz2 : wr.heap.size ≠ w0.heap.size := by have := (bld_lt K6.out.bld).2; omega
      have hsl := slice32m wr.heap.size 0
      have hz := zero_id
      have hln : (stA ps k).length ≤ 131080 := stA_len H32.out k (by rw [HLN.out.1]; exact hpl)
      clear hcells hp hp32 k2 hPe hIP
      go_wp2_with (first
        | (refine wpList_load_mid rfl 48 (.tmp 47) rfl gp (oo + k * 32) rfl P.toList _ (fun j v hv => HCE.out j v (by rwa [Array.getElem?_toList] at hv)) Tryz.underlying48 rfl HIP.out.2.1 ?_)
        | (refine wpList_store_new rfl 48 (.tmp 7) (.tmp 48) rfl P _ 48 wr.heap.size rfl rfl rfl HIP.out.1 HIP.out.2.2.1 HIP.out.2.2.2 ?_)
        | fail)
      refine (writeV w0.heap.size w0.heap.size (stA ps k) (bl p) wr.heap.size 0 32 32 P 48 _ HBK.out.2.bld HBK.out.1 (by decide) hbz2 (by rw [bl_length]; exact HP.out.1) HBI.out (by omega) HBK.out.2.bel.size).mono ?_
      rintro e w7 ⟨rfl, h7, hb7, ho7⟩
      have K7 : Hid (MyS w0 mB (stA ps (k + 1)) (ps.take k) w7) := HBK.out.2.wr ⟨h7, hb7, ho7⟩ HP.out.2.2.1
      have B7 : Hid (Bk w7 wr.heap.size P 48) := oth_bk11 ho7 HBK.out.1 hbz2 (by decide)
      obtain ⟨w8, hput, hK8⟩ := HPUT.out w7 K7.out
      have K8 : Hid (MyS w0 mB (stA ps (k + 1)) (ps.take (k + 1)) w8) := hK8
      clear h7 hb7 ho7 hK8 HPUT HBK K6 hsl HCE HBI hz
      go_wp2_with (first
        | (refine wpList_get rfl 48 (.tmp 7) rfl wr.heap.size 0 P P 48 _ rfl B7.out (fun j v hv => by rw [Nat.zero_add]; exact hv) Tryz.underlying48 rfl HIP.out.1 ?_)
        | fail)
      go_roundw
      case rel => exact ⟨k + 1, by go_num, by omega, K8.out⟩
      case measure => simp [intOf]; omega
    · have hkz : ¬ (k : Int) < (n : Nat) := by omega
      obtain rfl : k = n := by omega
      have K7 : Hid (MyS w0 mB (stA ps ps.length) ps wr) := by
        have := K6.out
        rwa [← HLN.out.1, List.take_of_length_le (Nat.le_refl _)] at this
      obtain ⟨c1, c2, c3⟩ := HCC.out wr K7.out.bel
      have hln : (stA ps ps.length).length ≤ 131080 := stA_len H32.out _ (by rw [HLN.out.1]; exact hpl)
      clear K6 hkz c2
      go_wp2_with fail
      refine (putNm w0.heap.size w0.heap.size m (stA ps ps.length) wr (by omega) K7.out.bld (by omega) K7.out.bel.size).mono ?_
      rintro e w8 ⟨rfl, h8, hb8, ho8⟩
      have K8 : Hid (MyS w0 mB (stB ps l 0) ps w8) := K7.out.wr ⟨h8, hb8, ho8⟩ (by rw [← stB_zero, HLN.out.2])
      clear h8 hb8 ho8 K7 c1 c3 hln
      go_wp2
      go_loopw [62] (fun v wr => ∃ f : Nat, v = .int .i64 f ∧ f ≤ 256 ∧ Hid (MyS w0 mB (stB ps l f) ps wr)) (fun v _ => 256 - (intOf v).toNat)
      case atStart => exact ⟨0, rfl, by omega, K8.out⟩
      case round =>
        obtain ⟨f, rfl, hf, K9⟩ := hrel
        clear K8
        by_cases hlt : f < 256
        · have hfz : (f : Int) < 256 := by omega
          have K10 : Hid (MyS w0 mB (stB ps l f) ps (wr.alloc (.cells #[.int .i64 (f : Int)] 3))) := K9.out.keep ((Below.refl _ _).alloc (Nat.le_refl _) _)
          have c8 : (wr.alloc (.cells #[.int .i64 (f : Int)] 3)).cell? ⟨wr.heap.size, 0, none⟩ = some (.int .i64 (f : Int)) := by rw [(bk_new wr #[.int .i64 (f : Int)] 3).cell]; rfl
          obtain ⟨c1, c2, c3⟩ := HCC.out _ K10.out.bel
          obtain ⟨q, hq⟩ : ∃ q, fanL (l.map Mr.e) f = q := ⟨_, rfl⟩
          have hql : q ≤ 1048576 := by rw [← hq]; have := fanL_le (l.map Mr.e) f; rw [List.length_map, HLN.out.2] at this; omega
          have HNX : Hid (stB ps l f ++ f4 q = stB ps l (f + 1)) := by rw [← hq]; exact stB_succ ps l f
          have HSE : Hid (Calls Tryz.prog 44 #[.int .i64 (m : Int), .func (.func 70) #[] #[.pointer (some ⟨B0, 0, none⟩), .pointer (some ⟨wr.heap.size, 0, none⟩)]] (wr.alloc (.cells #[.int .i64 (f : Int)] 3)) fun e w' => e = .returned (.int .i64 (q : Int)) ∧ Below (wr.alloc (.cells #[.int .i64 (f : Int)] 3)).heap.size (wr.alloc (.cells #[.int .i64 (f : Int)] 3)) w') := by
            have hc := c8
            have := search_above B0 wr.heap.size g f ps l _ (HX.out _ K10.out.bel).1 hc (HX.out _ K10.out.bel).2 HOK.out.ri
            rw [HLN.out.2, hq] at this
            exact this.mono fun e w' h => ⟨h.1, h.2.below⟩
          have hln : (stB ps l f).length ≤ 132108 := stB_len H32.out (by rw [HLN.out.1]; exact hpl) l f hf
          clear hq c2
          go_wp2_with fail
          refine HSE.out.mono ?_
          rintro e w11 ⟨rfl, hb11⟩
          have K11 : Hid (MyS w0 mB (stB ps l f) ps w11) := K10.out.keep hb11
          clear hb11 HSE K10 K9 c1 c3 c8
          go_wp2_with fail
          refine (putNm w0.heap.size w0.heap.size q (stB ps l f) w11 (by omega) K11.out.bld (by omega) K11.out.bel.size).mono ?_
          rintro e w12 ⟨rfl, h12, hb12, ho12⟩
          have K12 : Hid (MyS w0 mB (stB ps l (f + 1)) ps w12) := K11.out.wr ⟨h12, hb12, ho12⟩ HNX.out
          clear h12 hb12 ho12 K11 HNX
          go_wp2
          go_roundw
          case rel => exact ⟨f + 1, by go_num, by omega, K12.out⟩
          case measure => simp [intOf]; omega
        · have hfz : ¬ (f : Int) < 256 := by omega
          obtain rfl : f = 256 := by omega
          rw [show ((256 : Nat) : Int) = (256 : Int) from rfl]
          have K10 : Hid (MyS w0 mB (stC ps l 0) ps wr) := by rw [← stC_zero]; exact K9.out
          obtain ⟨c1, c2, c3⟩ := HCC.out _ K10.out.bel
          clear K9 c2 hfz
          go_wp2
          go_loopw [81] (fun v wr => ∃ k : Nat, v = .int .i64 k ∧ k ≤ m ∧ Hid (MyS w0 mB (stC ps l k) ps wr)) (fun v _ => m - (intOf v).toNat)
          case atStart => exact ⟨0, rfl, Nat.zero_le _, K10.out⟩
          case round =>
            obtain ⟨k, rfl, hk, K11⟩ := hrel
            clear K10 c1 c3
            by_cases hlt2 : k < m
            · have hkz : (k : Int) < (m : Nat) := by omega
              obtain ⟨r, hr⟩ : ∃ r, l[k]? = some r := ⟨l[k]'(by rw [HLN.out.2]; exact hlt2), List.getElem?_eq_getElem _⟩
              obtain ⟨⟨hp32, h32⟩, gr, ro, rfl, k2, hcells⟩ := HRM.out wr K11.out.bel k r hr
              have hoke := (okX_iff r.e).1 (HOK.out.ok r (List.mem_of_getElem? hr))
              have hpm : r.p ∈ ps := HOK.out.mem r (List.mem_of_getElem? hr)
              obtain ⟨po, hpo⟩ : ∃ po, posN ps r.p = po := ⟨_, rfl⟩
              have hpol : po < 4096 := by
                have h1 := posN_lt hpm
                have h2 := HLN.out.1
                omega
              have HPG : Hid (ps[po]? = some r.p) := by rw [← hpo]; exact posN_get hpm
              have HLK : Hid (∀ W, MyS w0 mB (stC ps l k ++ bl r.e.id) ps W → (Instr.lookup 46 (.map (some mB)) (.agg (idc r.p)) false).run Tryz.prog W = .ok (.int .i64 (po : Int)) W) := fun W hW => hW.nb.look r.p po HPG.out
              have HT : Hid (stC ps l k ++ rwB ps r = stC ps l (k + 1)) := stC_succ hr
              have hln : (stC ps l k).length ≤ 48000000 := stC_len HOK.out k
              have HRW : Hid (rwB ps r = bl r.e.id ++ (f4 po ++ ([r.e.k] ++ (f4 r.e.off.toNat ++ f4 r.e.sz.toNat)))) := by show _ = _; rw [rwB, hpo]
              obtain ⟨hk1, hk2, hk3⟩ := xeC_at r.e h32
              have y1 := mrC_e r hp32 32 _ hk1
              have y2 := mrC_e r hp32 33 _ hk2
              have y3 := mrC_e r hp32 34 _ hk3
              have HXI : Hid (∀ j u, (Lib.byteCells (bl r.e.id))[j]? = some u → (mrC r)[32 + j]? = some u) := fun j u hu => mrC_id r hp32 h32 j u (by rwa [← Array.getElem?_toList, ← bc_idc])
              have HXP : Hid (∀ j u, (idc r.p)[j]? = some u → (mrC r)[0 + j]? = some u) := fun j u hu => mrC_p r hp32 j u hu
              have hIX : (Tryz.prog.info? 52).map (·.size) = some (mrC r).toList.length ∧ (mrC r).all (·.oneCell') = true ∧ (mrC r).size = 67 := ⟨by rw [inf_mr67, Array.length_toList, mrC_size r hp32 h32], mrC_all r, mrC_size r hp32 h32⟩
              have hIP : (Tryz.prog.info? 48).map (·.size) = some (idc r.p).size := info_32 (by rw [idc_size, hp32])
              obtain ⟨X, hXe⟩ : ∃ X, mrC r = X := ⟨_, rfl⟩
              obtain ⟨P, hPe⟩ : ∃ P, idc r.p = P := ⟨_, rfl⟩
              rw [hXe] at hcells y1 y2 y3 HXI HXP hIX
              rw [hPe] at HXP HLK hIP
              have HCE : Hid (∀ j v, X[j]? = some v → wr.cell? ⟨gr, ro + k * 67 + j, none⟩ = some v) := hcells
              have HIX : Hid ((Tryz.prog.info? 52).map (·.size) = some X.toList.length ∧ X.all (·.oneCell') = true ∧ X.size = 67 ∧ (Tryz.prog.info? 48).map (·.size) = some P.size) := ⟨hIX.1, hIX.2.1, hIX.2.2, hIP⟩
              have H32e : Hid (r.e.id.size = 32) := h32
              obtain ⟨pp, id, ek, eo, ez⟩ := r
              simp only at hoke y1 y2 y3 HXI HLK HRW H32e
              obtain ⟨no, rfl⟩ : ∃ no : Nat, eo = (no : Int) := ⟨eo.toNat, by omega⟩
              obtain ⟨nz, rfl⟩ : ∃ nz : Nat, ez = (nz : Int) := ⟨ez.toNat, by omega⟩
              have hno : no ≤ 67108864 := by omega
              have hnz : nz ≤ 2097152 := by omega
              rw [Int.toNat_natCast, Int.toNat_natCast] at HRW
              obtain ⟨m0, hm0⟩ : ∃ m0, stC ps l k = m0 := ⟨_, rfl⟩
              have HEQ : Hid (m0 ++ bl id ++ f4 po ++ [ek] ++ f4 no ++ f4 nz = stC ps l (k + 1)) := by show _ = _; rw [← HT.out, HRW.out, hm0]; simp
              rw [hm0] at K11 hln HLK
              have B1 : Hid (Bk (wr.alloc (.cells X 52)) wr.heap.size X 52 ∧ MyS w0 mB m0 ps (wr.alloc (.cells X 52))) := ⟨bk_new _ _ _, K11.out.keep ((Below.refl _ _).alloc (Nat.le_refl _) _)⟩
              have hbz2 : wr.heap.size ≠ w0.heap.size := by have := (bld_lt K11.out.bld).2; omega
              have hsl := slice32m wr.heap.size 32
              clear hcells hp32 h32 k2 hr hpm hpo hXe hPe hIX hIP hm0 hoke hk1 hk2 hk3 HT HRW HPG
              go_wp2_with (first
                | (refine wpList_load_mid rfl 52 (.tmp 83) rfl gr (ro + k * 67) rfl X.toList _ (fun j v hv => HCE.out j v (by rwa [Array.getElem?_toList] at hv)) Tryz.underlying52 rfl HIX.out.1 ?_)
                | (refine wpList_store_new rfl 52 (.tmp 11) (.tmp 84) rfl X _ 52 wr.heap.size rfl rfl rfl (info_mr HIX.out.2.2.1) (by rw [HIX.out.2.2.1]; rfl) HIX.out.2.1 ?_)
                | fail)
              refine (writeV w0.heap.size w0.heap.size m0 (bl id) wr.heap.size 32 32 32 X 52 _ B1.out.2.bld B1.out.1 (by decide) hbz2 (by rw [bl_length]; exact H32e.out) HXI.out (by omega) B1.out.2.bel.size).mono ?_
              rintro e w13 ⟨rfl, h13, hb13, ho13⟩
              have K13 : Hid (MyS w0 mB (m0 ++ bl id) ps w13) := B1.out.2.wr ⟨h13, hb13, ho13⟩ rfl
              have B13 : Hid (Bk w13 wr.heap.size X 52) := oth_bk11 ho13 B1.out.1 hbz2 (by decide)
              have hl13 : (m0 ++ bl id).length ≤ 48000032 := by rw [List.length_append, bl_length, H32e.out]; omega
              have hlk := HLK.out w13 K13.out
              clear h13 hb13 ho13 B1 K11 hsl HCE HXI HLK
              go_wp2_with (first
                | (refine wpList_get rfl 48 (.tmp 91) rfl wr.heap.size 0 X P 52 _ rfl B13.out HXP.out Tryz.underlying48 rfl HIX.out.2.2.2 ?_)
                | fail)
              refine (putNm w0.heap.size w0.heap.size po (m0 ++ bl id) w13 (by omega) K13.out.bld (by omega) K13.out.bel.size).mono ?_
              rintro e w14 ⟨rfl, h14, hb14, ho14⟩
              have K14 : Hid (MyS w0 mB (m0 ++ bl id ++ f4 po) ps w14) := K13.out.wr ⟨h14, hb14, ho14⟩ rfl
              have B14 : Hid (Bk w14 wr.heap.size X 52) := oth_bk11 ho14 B13.out hbz2 (by decide)
              have hl14 : (m0 ++ bl id ++ f4 po).length ≤ 48000036 := by rw [List.length_append, f4_len]; omega
              have z14 : w14.cell? ⟨wr.heap.size, 64, none⟩ = some (.int .u8 (ek.toNat : Int)) := by rw [B14.out.cell]; exact y1
              clear h14 hb14 ho14 K13 B13 hlk HXP
              go_wp2_with fail
              refine (writeB w0.heap.size w0.heap.size (m0 ++ bl id ++ f4 po) ek w14 K14.out.bld (by omega) K14.out.bel.size).mono ?_
              rintro e w15 ⟨rfl, h15, hb15, ho15⟩
              have K15 : Hid (MyS w0 mB (m0 ++ bl id ++ f4 po ++ [ek]) ps w15) := K14.out.wr ⟨h15, hb15, ho15⟩ rfl
              have B15 : Hid (Bk w15 wr.heap.size X 52) := oth_bk11 ho15 B14.out hbz2 (by decide)
              have hl15 : (m0 ++ bl id ++ f4 po ++ [ek]).length ≤ 48000037 := by rw [List.length_append, List.length_singleton]; omega
              have z15 : w15.cell? ⟨wr.heap.size, 65, none⟩ = some (.int .i64 (no : Int)) := by rw [B15.out.cell]; exact y2
              clear h15 hb15 ho15 K14 B14 z14
              go_wp2_with fail
              refine (putNm w0.heap.size w0.heap.size no (m0 ++ bl id ++ f4 po ++ [ek]) w15 (by omega) K15.out.bld (by omega) K15.out.bel.size).mono ?_
              rintro e w16 ⟨rfl, h16, hb16, ho16⟩
              have K16 : Hid (MyS w0 mB (m0 ++ bl id ++ f4 po ++ [ek] ++ f4 no) ps w16) := K15.out.wr ⟨h16, hb16, ho16⟩ rfl
              have B16 : Hid (Bk w16 wr.heap.size X 52) := oth_bk11 ho16 B15.out hbz2 (by decide)
              have hl16 : (m0 ++ bl id ++ f4 po ++ [ek] ++ f4 no).length ≤ 48000041 := by rw [List.length_append, f4_len]; omega
              have z16 : w16.cell? ⟨wr.heap.size, 66, none⟩ = some (.int .i64 (nz : Int)) := by rw [B16.out.cell]; exact y3
              clear h16 hb16 ho16 K15 B15 z15
              go_wp2_with fail
              refine (putNm w0.heap.size w0.heap.size nz (m0 ++ bl id ++ f4 po ++ [ek] ++ f4 no) w16 (by omega) K16.out.bld (by omega) K16.out.bel.size).mono ?_
              rintro e w17 ⟨rfl, h17, hb17, ho17⟩
              have K17 : Hid (MyS w0 mB (stC ps l (k + 1)) ps w17) := K16.out.wr ⟨h17, hb17, ho17⟩ HEQ.out
              clear h17 hb17 ho17 K16 B16 z16 y1 y2 y3
              go_wp2
              go_roundw
              case rel => exact ⟨k + 1, by go_num, by omega, K17.out⟩
              case measure => simp [intOf]; omega
            · have hkz : ¬ (k : Int) < (m : Nat) := by omega
              obtain rfl : k = m := by omega
              have HBS : Hid (Calls Tryz.prog 72 #[.pointer (some ⟨w0.heap.size, 0, none⟩)] wr fun e w' => e = .returned (.string R) ∧ Below w.heap.size w w') := by
                have hB := K11.out.bld
                rw [stC_end HLN.out.2] at hB
                exact (buildS w0.heap.size w0.heap.size (mxB ps l) wr hB K11.out.bel.size).mono fun e w' q => ⟨by rw [← HR.out]; exact q.1, HBL.out.1.trans ((K11.out.bel.trans q.2.2.1).mono HBL.out.1.size)⟩
              clear K11
              go_wp2_with fail
              refine HBS.out.mono ?_
              rintro e w18 ⟨rfl, hb18⟩
              go_wp2
              go_ret
              exact ⟨rfl, by rw [← hB0]; exact hb18⟩
end Go.Proofs.YtbfoiocbmhhdbaaGreat
/- Texts of a slice, as they lie in memory. No program is named here. -/
namespace Go.Proofs.YtbfoiocbmhhdbaaGreat
open Go.RowKit
set_option linter.unusedSimpArgs false
set_option linter.unusedVariables false
/-- The texts of a slice. -/
def TxL (w : World) (a : Option Addr) (xs : List ByteArray) : Prop :=
  ∀ i x, xs[i]? = some x → ∃ g o, a = some ⟨g, o, none⟩ ∧ g < w.heap.size ∧ w.cell? ⟨g, o + i, none⟩ = some (.string x)
theorem TxL.below {w w' : World} {a : Option Addr} {xs : List ByteArray} (h : TxL w a xs) (hb : Below w.heap.size w w') : TxL w' a xs := by
  intro i x hx
  obtain ⟨g, o, e, hg, hc⟩ := h i x hx
  exact ⟨g, o, e, Nat.lt_of_lt_of_le hg hb.size, by rw [hb.cell (p := ⟨g, o + i, none⟩) hg]; exact hc⟩
theorem TxL.drewN {w : World} {a : Option Addr} {xs : List ByteArray} (h : TxL w a xs) (n : Nat) : TxL (w.drewN n) a xs := h.below (below_drewN (Below.refl _ _) n)
theorem TxL.alloc {w : World} {a : Option Addr} {xs : List ByteArray} (h : TxL w a xs) (o : Obj) : TxL (w.alloc o) a xs := h.below ((Below.refl _ _).alloc (Nat.le_refl _) _)
/-- Texts as cells. -/
def txc (xs : List ByteArray) : Array Value := (xs.map fun x => Value.string x).toArray
theorem txc_size (xs : List ByteArray) : (txc xs).size = xs.length := by simp [txc]
theorem txc_get (xs : List ByteArray) (i : Nat) : (txc xs)[i]? = (xs[i]?).map fun x => Value.string x := by simp [txc]
theorem txc_set (xs : List ByteArray) (i : Nat) (x : ByteArray) : (txc xs).setIfInBounds i (.string x) = txc (xs.set i x) := by
  simp only [txc, List.setIfInBounds_toArray, List.map_set]
theorem Bk.txl {w : World} {b : Nat} {T : TypeId} {xs : List ByteArray} (h : Bk w b (txc xs) T) : TxL w (some ⟨b, 0, none⟩) xs := by
  intro i x hx
  exact ⟨b, 0, rfl, h.lt, by rw [Nat.zero_add, h.cell, txc_get, hx]; rfl⟩
theorem str_ne (x y : ByteArray) : (x.toList != y.toList) = !decide (x = y) := by
  rw [Lib.toList_data, Lib.toList_data]
  by_cases h : x = y
  · subst h; simp
  · have : x.data.toList ≠ y.data.toList := fun e => h (by cases x; cases y; simp at e; simp [e])
    simp [h, this]
end Go.Proofs.YtbfoiocbmhhdbaaGreat
