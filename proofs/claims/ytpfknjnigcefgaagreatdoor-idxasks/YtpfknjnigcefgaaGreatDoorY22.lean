import Derived.Test.YtpfknjnigcefgaaGreatDoorY18
import Derived.Test.YtpfknjnigcefgaaGreatDoorY21
/- The document's Open, where the length fits. -/
namespace Go.Proofs.YtpfknjnigcefgaaGreatDoor
open Go.RowKit
set_option linter.unusedSimpArgs false
set_option linter.unusedVariables false
/-- An index of nothing. -/
def z33R : Array Value := #[.int .u8 0, .int .u8 0, .int .u8 0, .int .u8 0, .int .u8 0, .int .u8 0, .int .u8 0, .int .u8 0, .int .u8 0, .int .u8 0, .int .u8 0, .int .u8 0, .int .u8 0, .int .u8 0, .int .u8 0, .int .u8 0, .int .u8 0, .int .u8 0, .int .u8 0, .int .u8 0, .int .u8 0, .int .u8 0, .int .u8 0, .int .u8 0, .int .u8 0, .int .u8 0, .int .u8 0, .int .u8 0, .int .u8 0, .int .u8 0, .int .u8 0, .int .u8 0, .slice none 0 0]
theorem z33_size : z33R.size = 33 := rfl
theorem build_rix0 (w : World) : (Instr.build 81 #[]).run Tryz.prog w = .ok (.agg z33R) w := by kernel_rfl
theorem put_rix (x : ByteArray) (hx : x.size = 32) : putA z33R 0 (bvc (byl x)) = rixC x (.slice none 0 0) := by
  have hle : 0 + (bvc (byl x)).length ≤ z33R.size := by simp [bvc, byl_length, hx, z33_size]
  apply Array.ext_getElem?
  intro j
  rw [putA_get _ _ _ _ hle]
  by_cases hj : j < 32
  · rw [if_pos (by simp [bvc, byl_length, hx]; omega)]
    have hi : j < (idc x).size := by rw [idc_size, hx]; exact hj
    have := rixC_id x (.slice none 0 0) hx j _ (Array.getElem?_eq_getElem hi)
    rw [Nat.zero_add] at this
    rw [this, Nat.sub_zero, ← Array.getElem?_eq_getElem hi, idc, List.getElem?_toArray]
  · rw [if_neg (by simp [bvc, byl_length, hx]; omega)]
    by_cases h2 : j = 32
    · subst h2
      rw [rixC_at x _ hx]; rfl
    · rw [Array.getElem?_eq_none (by rw [z33_size]; omega), Array.getElem?_eq_none (by rw [rixC_size x _ hx]; omega)]
theorem copy_rix (W : World) (g : Nat) (x : ByteArray) (hx : x.size = 32) (hW : Bk W g z33R 81) (ty : TypeId) :
    (Builtin.copy_ #[82, 9] ty #[.slice (some ⟨g, 0, none⟩) 32 32, .string x]).run Tryz.prog W = .ok (goInt 32) (W.setCells g 0 (bvc (byl x))) := by
  have hi : (Tryz.prog.info? 5).map (·.size) = some 1 := by kernel_rfl
  have hm : Nat.min x.size 32 = 32 := by rw [hx]; rfl
  have q := copy_str W 82 9 ty 5 g 0 32 32 x Tryz.underlying82 hi (fun j hj => by
    rw [hm] at hj
    rw [hW.cell, Nat.zero_add, Array.getElem?_eq_getElem (by rw [z33_size]; omega)]; rfl) (fun j _ => hW.frozen _)
  rw [hm, show (byl x).take 32 = byl x from List.take_of_length_le (by rw [byl_length, hx]; omega)] at q
  exact q
/-- While the entries are read. -/
structure RxS (w : World) (s : ByteArray) (l : List Xe) (v : Value) (wr : World) : Prop where
  bx : Bk wr w.heap.size (rixC s v) 81
  ow : wr.ownsRow (w.heap.size + 1) 56 35 v l.length (xvs l)
  bel : Below w.heap.size w wr
/-- A row is kept by what turns one block alone. -/
theorem row_kept {W W' : World} {B r : Nat} {v : Value} {T : TypeId} {z n : Nat} {xs : List Value} (h : W.ownsRow B T z v n xs) (hg : W.grownBy W' (some r)) (hr : ∀ k, v.ownBlock = some k → k ≠ r) : W'.ownsRow B T z v n xs := by
  refine h.kept hg ?_
  cases e : v.ownBlock with
  | none => exact .inl rfl
  | some k => exact .inr (fun q => by injection q with q; exact hr k e q)
theorem row_below {W W' : World} {B : Nat} {v : Value} {T : TypeId} {z n : Nat} {xs : List Value} (h : W.ownsRow B T z v n xs) (hb : Below W.heap.size W W') : W'.ownsRow B T z v n xs := by
  refine h.kept (gr_of_below hb none) ?_
  cases e : v.ownBlock with
  | none => exact .inl rfl
  | some k => exact .inr (by simp)
/-- The index, and the entry that is being read. -/
structure ExS (w : World) (B : Nat) (s : ByteArray) (l : List Xe) (v : Value) (C : Array Value) (W : World) : Prop where
  rx : RxS w s l v W
  lo : w.heap.size < B
  ob : ∀ k, v.ownBlock = some k → k < B
  eb : Bk W B C 56
theorem ExS.grow {w W W' : World} {B r : Nat} {s : ByteArray} {l : List Xe} {v : Value} {C : Array Value} (h : ExS w B s l v C W) (hg : W.grownBy W' (some r)) (hr : B < r) : ExS w B s l v C W' := by
  have h1 := h.lo
  refine ⟨⟨h.rx.bx.grown hg (fun e => by injection e with e; omega), row_kept h.rx.ow hg (fun k hk e => by have := h.ob k hk; omega), below_own h.rx.bel h.rx.bel.size hg (by omega)⟩, h.lo, h.ob, h.eb.grown hg (fun e => by injection e with e; omega)⟩
theorem ExS.put {w W W' : World} {B : Nat} {s : ByteArray} {l : List Xe} {v : Value} {C C' : Array Value} (h : ExS w B s l v C W) (hg : W.grownBy W' (some B)) (hC : Bk W' B C' 56) : ExS w B s l v C' W' := by
  have h1 := h.lo
  refine ⟨⟨h.rx.bx.grown hg (fun e => by injection e with e; omega), row_kept h.rx.ow hg (fun k hk e => by have := h.ob k hk; omega), below_own h.rx.bel h.rx.bel.size hg (by omega)⟩, h.lo, h.ob, hC⟩
theorem ExS.below {w W W' : World} {B : Nat} {s : ByteArray} {l : List Xe} {v : Value} {C : Array Value} (h : ExS w B s l v C W) (hb : Below W.heap.size W W') : ExS w B s l v C W' :=
  ⟨⟨h.rx.bx.below hb h.rx.bx.lt, row_below h.rx.ow hb, h.rx.bel.trans (hb.mono h.rx.bel.size)⟩, h.lo, h.ob, h.eb.below hb h.eb.lt⟩
theorem Step.grownB {b : Nat} {w w' : World} {s : ByteArray} (h : Step b w w' s) : w.grownBy w' (some b) := ⟨h.os, h.tape, h.output, h.size, fun k hk hne => h.block k hk (fun e => hne (by rw [e]))⟩
theorem set_grown (W : World) (B i : Nat) (v : Value) : W.grownBy (W.setCell ⟨B, i, none⟩ v) (some B) := by
  have := grown_puts B [v] i (World.grownBy.refl W (some B))
  simpa [World.setCells] using this
theorem copy_xr (W : World) (g : Nat) (x : ByteArray) (hx : x.size = 32) (hW : Bk W g z35X 56) (ty : TypeId) :
    (Builtin.copy_ #[82, 9] ty #[.slice (some ⟨g, 0, none⟩) 32 32, .string x]).run Tryz.prog W = .ok (goInt 32) (W.setCells g 0 (bvc (byl x))) := by
  have hi : (Tryz.prog.info? 5).map (·.size) = some 1 := by kernel_rfl
  have hm : Nat.min x.size 32 = 32 := by rw [hx]; rfl
  have q := copy_str W 82 9 ty 5 g 0 32 32 x Tryz.underlying82 hi (fun j hj => by
    rw [hm] at hj
    rw [hW.cell, Nat.zero_add, Array.getElem?_eq_getElem (by rw [z35_size]; omega)]; rfl) (fun j _ => hW.frozen _)
  rw [hm, show (byl x).take 32 = byl x from List.take_of_length_le (by rw [byl_length, hx]; omega)] at q
  exact q
/-- The entry's cells, once all are stored. -/
theorem ent_done {e : Xe} {x : ByteArray} (hid : e.id = x) (hx : x.size = 32) :
    (((putA z35X 0 (bvc (byl x))).setIfInBounds 32 (.int .u8 (e.k.toNat : Int))).setIfInBounds 33 (.int .i64 e.off)).setIfInBounds 34 (.int .i64 e.sz) = xeC e := by
  have hps : (putA z35X 0 (bvc (byl x))).size = 35 := by rw [putA_size, z35_size]
  refine xe_eq _ _ (by rw [hid, hx]) (by simp [hps]) (fun j hj => ?_) ?_ ?_ ?_
  · rw [Array.getElem?_setIfInBounds_ne (by omega), Array.getElem?_setIfInBounds_ne (by omega), Array.getElem?_setIfInBounds_ne (by omega), putA_get _ _ _ _ (by simp [bvc, byl_length, hx, z35_size]), if_pos (by simp [bvc, byl_length, hx]; omega), hid, idc, List.getElem?_toArray, Nat.sub_zero]
  · rw [Array.getElem?_setIfInBounds_ne (by omega), Array.getElem?_setIfInBounds_ne (by omega), Array.getElem?_setIfInBounds_self_of_lt (by rw [hps]; omega)]
  · rw [Array.getElem?_setIfInBounds_ne (by omega), Array.getElem?_setIfInBounds_self_of_lt (by simp [hps])]
  · rw [Array.getElem?_setIfInBounds_self_of_lt (by simp [hps])]
/-- The entry's slice is made, or not yet. -/
def KE (w : World) (B : Nat) (s : ByteArray) (l : List Xe) (v : Value) (X : Array Value) : Option Value → World → Prop
  | none, W => ExS w B s l v X W
  | some r, W => ∃ g, r = .slice (some ⟨g, 0, none⟩) 1 1 ∧ Bk W g X 56 ∧ ExS w B s l v X W
theorem KE.ex {w W : World} {B : Nat} {s : ByteArray} {l : List Xe} {v : Value} {X : Array Value} {ov : Option Value} (h : KE w B s l v X ov W) : ExS w B s l v X W := by
  cases ov with
  | none => exact h
  | some r => obtain ⟨g, _, _, h⟩ := h; exact h
theorem KE.made {w W : World} {B : Nat} {s : ByteArray} {l : List Xe} {v : Value} {X : Array Value} (h : KE w B s l v X none W) : KE w B s l v X (some (.slice (some ⟨W.heap.size, 0, none⟩) 1 1)) (W.alloc (.cells X 56)) :=
  ⟨W.heap.size, rfl, bk_new _ _ _, ExS.below h ((Below.refl _ _).alloc (Nat.le_refl _) _)⟩
/-- One entry more. -/
theorem RxS.app {w W : World} {s : ByteArray} {l : List Xe} {v : Value} (h : RxS w s l v W) (hl : ∀ e ∈ l, e.id.size = 32) (e : Xe) (he : e.id.size = 32) (g : Nat) (hg : Bk W g (xeC e) 56) (hn : l.length ≤ 1000000) :
    ∃ a cp w7, (Builtin.append_ #[24, 24] 24 #[v, .slice (some ⟨g, 0, none⟩) 1 1]).run Tryz.prog W = .ok (.slice a (l.length + 1) cp) w7 ∧
      Bk w7 w.heap.size (rixC s v) 81 ∧ w7.ownsRow (w.heap.size + 1) 56 35 (.slice a (l.length + 1) cp) (l.length + 1) (xvs (l ++ [e])) ∧ Below w.heap.size w w7 := by
  have hx : XeL W (some ⟨g, 0, none⟩) [e] := fun i x hi => by
    have hi0 : i = 0 := by have := (List.getElem?_eq_some_iff.1 hi).1; simpa using this
    subst hi0
    injection hi with hi
    subst hi
    exact ⟨he, g, 0, rfl, hg.lt, fun j v hv => by rw [hg.cell]; simpa using hv⟩
  have hsz := h.bx.lt
  obtain ⟨a, cp, w7, r1, r2, r3, _, _⟩ := rapp h.ow (by omega) hl ⟨g, 0, none⟩ 1 hx (by simp only [List.length_singleton]; omega)
  refine ⟨a, cp, w7, r1, h.bx.grown r3 (fun e => ?_), r2, h.bel.grown r3 h.bel.size (fun k hk => ?_)⟩
  · have := (h.ow.lt _ e).1; omega
  · have := (h.ow.lt _ hk).1; omega
theorem rix_put (s : ByteArray) (v v' : Value) (h : s.size = 32) : (rixC s v).setIfInBounds 32 v' = rixC s v' := by
  have hl : (idc s).toList.length = 32 := by rw [Array.length_toList, idc_size, h]
  apply Array.ext_getElem?
  intro j
  by_cases hj : j = 32
  · subst hj
    rw [Array.getElem?_setIfInBounds_self_of_lt (by rw [rixC_size s v h]; omega), rixC_at s v' h]
  · rw [Array.getElem?_setIfInBounds_ne (fun e => hj e.symm)]
    by_cases h2 : j < 32
    · rw [rixC, rixC, List.getElem?_toArray, List.getElem?_toArray, List.getElem?_append_left (by omega), List.getElem?_append_left (by omega)]
    · rw [Array.getElem?_eq_none (by rw [rixC_size s v h]; omega), Array.getElem?_eq_none (by rw [rixC_size s v' h]; omega)]
theorem RxS.put {w W : World} {s : ByteArray} {l : List Xe} {v v' : Value} (hs : s.size = 32) (h1 : Bk W w.heap.size (rixC s v) 81) (h2 : W.ownsRow (w.heap.size + 1) 56 35 v' l.length (xvs l)) (h3 : Below w.heap.size w W) :
    RxS w s l v' (W.setCell ⟨w.heap.size, 32, none⟩ v') := by
  refine ⟨by rw [← rix_put s v v' hs]; exact h1.set 32 v', row_kept h2 (set_grown _ _ _ _) (fun k hk => by have := (h2.lt k hk).1; omega), below_own h3 h3.size (set_grown _ _ _ _) (Nat.le_refl _)⟩
/-- What stands at an entry's place. -/
theorem ent_at (S : ByteArray) (n k : Nat) (hs : S.size = 1064 + 41 * n) (hk : k < n) : ∃ e, (rdA (bl S))[k]? = some e ∧ e.id = S.extract (1064 + 41 * k) (1064 + 41 * k + 32) ∧ (∀ h : 1064 + 41 * k + 32 < S.size, e.k = S[1064 + 41 * k + 32]'h) ∧
    e.off = (fixV ((bl (S.extract (1064 + 41 * k + 33) (1064 + 41 * k + 41))).take 4) : Int) ∧ e.sz = (fixV (((bl (S.extract (1064 + 41 * k + 33) (1064 + 41 * k + 41))).drop 4).take 4) : Int) := by
  obtain ⟨A, hA⟩ : ∃ A, 1064 + 41 * k = A := ⟨_, rfl⟩
  rw [hA]
  have hl : (bl S).length = S.size := bl_length S
  refine ⟨rdXe ((bl S).drop A), ?_, ?_, ?_, ?_, ?_⟩
  · rw [rdA, hl, show (S.size - 1064) / 41 = n from by omega, rdL_get _ _ _ hk, List.drop_drop, hA]
  · apply bl_inj
    rw [bl_extract]
    show ((bl S).drop A).take 32 = _
    rw [List.take_drop]
  · intro h
    show (((bl S).drop A).drop 32).headD 0 = _
    rw [List.drop_drop, List.headD_eq_head?_getD, List.head?_drop, List.getElem?_eq_getElem (by rw [hl]; exact h)]
    rfl
  · show ((fixV ((((bl S).drop A).drop 33).take 4) : Nat) : Int) = _
    rw [bl_extract, List.drop_drop, List.take_drop, List.take_drop, List.take_take, Nat.min_eq_left (by omega)]
  · show ((fixV ((((bl S).drop A).drop 37).take 4) : Nat) : Int) = _
    rw [bl_extract, List.drop_drop, List.drop_drop, List.take_drop, List.take_drop, List.take_take, Nat.min_eq_left (by omega)]
set_option maxHeartbeats 4000000 in
set_option maxRecDepth 100000 in
theorem ropen_yes (S : ByteArray) (w : World) (n : Nat) (hs : S.size = 1064 + 41 * n) (hm : S.extract 0 4 = xM) (hn : n ≤ 65536) :
    Calls Tryz.prog 13 #[.string S] w fun e w' => OpR S e w' ∧ Below w.heap.size w w' := by
  have hz : ¬ (S.size : Int) < 1064 := by omega
  have hz4 : (4 : Int) ≤ (S.size : Int) := by omega
  have hz36 : (36 : Int) ≤ (S.size : Int) := by omega
  have hq := str_eq13 hm
  obtain ⟨M, hM⟩ : ∃ M, S.extract 0 4 = M := ⟨_, rfl⟩
  rw [hM] at hq
  obtain ⟨T, hT⟩ : ∃ T, 41 * n = T := ⟨_, rfl⟩
  have hT2 : (S.size : Int) - 1064 = (T : Int) := by omega
  have r1 : ((T : Int) % 41 != 0) = false := by rw [bne_eq_false_iff_eq]; omega
  have r2 : (T : Int) / 41 = (n : Int) := by omega
  have r3 : decide ((65536 : Int) < (n : Int)) = false := decide_eq_false (by omega)
  have hTb : T ≤ 2687000 := by omega
  have hSb : S.size ≤ 2690000 := by omega
  have hbz := build_rix0
  obtain ⟨x, hx⟩ : ∃ x, S.extract 4 36 = x := ⟨_, rfl⟩
  have hxs : x.size = 32 := by rw [← hx, ByteArray.size_extract]; omega
  have hxb : rdS (bl S) = x := by
    rw [← hx]; apply bl_inj
    rw [bl_extract, rdS]
    show ((bl S).drop 4).take 32 = _
    rw [List.take_drop]
  have hsl := slice32o w.heap.size 0 
  have c1 := copy_rix (w.alloc (.cells z33R 81)).drew w.heap.size x hxs (bk_new _ _ _)
  unfold z33R at c1
  have HS : Hid (S.size = 1064 + 41 * n ∧ n ≤ 65536) := ⟨hs, hn⟩
  have HX : Hid (rdS (bl S) = x ∧ x.size = 32) := ⟨hxb, hxs⟩
  have HIDS : Hid (∀ e ∈ rdA (bl S), e.id.size = 32) := fun e he => by
    obtain ⟨i, hi⟩ := List.getElem?_of_mem he
    have hil : i < n := by
      have h1 := (List.getElem?_eq_some_iff.1 hi).1
      rw [rdA, rdL_len, bl_length] at h1
      omega
    obtain ⟨e', h1, h2, _⟩ := ent_at S n i hs hil
    rw [hi] at h1
    injection h1 with h1
    rw [h1, h2, ByteArray.size_extract]
    omega
  clear hm hT hs hn hxb
  go_enter Tryz.func13, Tryz.ntmps13
  go_wp2
  go_region
  have B0 : Bk ((w.alloc (.cells z33R 81)).drew.setCells w.heap.size 0 (bvc (byl x))) w.heap.size (rixC x (.slice none 0 0)) 81 := by
    rw [← put_rix x HX.out.2]
    exact Blk.puts _ _ _ _ (bk_new _ _ _)
  have L0 : Below w.heap.size w ((w.alloc (.cells z33R 81)).drew.setCells w.heap.size 0 (bvc (byl x))) := below_own (((Below.refl _ _).alloc (Nat.le_refl _) _).drew) (by show w.heap.size ≤ (w.alloc _).heap.size; rw [al_size]; omega) (grown_puts _ _ _ (World.grownBy.refl _ _)) (Nat.le_refl _)
  obtain ⟨W1, hW1⟩ : ∃ W1, (w.alloc (.cells z33R 81)).drew.setCells w.heap.size 0 (bvc (byl x)) = W1 := ⟨_, rfl⟩
  rw [hW1] at B0 L0
  unfold z33R at hW1
  rw [hW1]
  have R0 : Hid (RxS w x ((rdA (bl S)).take 0) (.slice none 0 0) W1) := ⟨B0, rows_none, L0⟩
  clear B0 L0 hW1 c1 hbz hsl hx hxs hq hM r1 r2 r3 hT2 hTb hz36 hz4 hz
  go_wp2
  go_loopw [5] (fun v wr => ∃ (k A : Nat) (u : Value), v = .int .i64 (A : Int) ∧ k ≤ n ∧ Hid (A = 1064 + 41 * k) ∧ Hid (RxS w x ((rdA (bl S)).take k) u wr ∧ okR none ((rdA (bl S)).take k) = true)) (fun v _ => S.size - (intOf v).toNat)
  case atStart => exact ⟨0, 1064, _, rfl, Nat.zero_le _, rfl, R0.out, rfl⟩
  case round =>
    obtain ⟨k, A, u, rfl, hk, HA, HR⟩ := hrel
    clear R0
    by_cases hlt : k < n
    · have hn6 : n ≤ 70000 := by have := HS.out.2; omega
      have ha1 : A + 41 ≤ S.size := by have := HA.out; have := HS.out.1; omega
      have hz1 : (A : Int) < (S.size : Int) := by omega
      have hz2 : (A : Int) + 32 ≤ (S.size : Int) := by omega
      have hz3 : (A : Int) + 32 < (S.size : Int) := by omega
      have hz4 : (A : Int) + 41 ≤ (S.size : Int) := by omega
      have hz5 : (A : Int) + 33 ≤ (A : Int) + 41 := by omega
      have hz6 : (A : Int) ≤ (A : Int) + 32 := by omega
      have hw1 : IntKind.i64.wrap ((A : Int) + 32) = (A : Int) + 32 := by rw [IntKind.wrap_i64]; omega
      have hw2 : IntKind.i64.wrap ((A : Int) + 33) = (A : Int) + 33 := by rw [IntKind.wrap_i64]; omega
      have hsl := slice32o wr.heap.size 0
      obtain ⟨e, he, e1, e2, e3, e4⟩ := ent_at S n k HS.out.1 hlt
      rw [← HA.out] at e1 e2 e3 e4
      obtain ⟨y, hy⟩ : ∃ y, S.extract A (A + 32) = y := ⟨_, rfl⟩
      obtain ⟨t, ht⟩ : ∃ t, S.extract (A + 33) (A + 41) = t := ⟨_, rfl⟩
      have hys : y.size = 32 := by rw [← hy, ByteArray.size_extract]; omega
      have hts : t.size = 8 := by rw [← ht, ByteArray.size_extract]; omega
      rw [hy] at e1
      rw [ht] at e3 e4
      have hb32 : A + 32 < S.size := by omega
      obtain ⟨kz, hkz⟩ : ∃ kz : Nat, (S[A + 32]'hb32).toNat = kz := ⟨_, rfl⟩
      obtain ⟨t2, ht2⟩ : ∃ t2, t.extract 4 t.size = t2 := ⟨_, rfl⟩
      have hts2 : t2.size = 4 := by rw [← ht2, ByteArray.size_extract]; omega
      have ht2b : bl t2 = (bl t).drop 4 := by rw [← ht2]; exact bl_ex t 4
      rw [← ht2b] at e4
      have HE : Hid (e.id = y ∧ (e.k.toNat : Int) = (kz : Int) ∧ e.off = (fixV ((bl t).take 4) : Int) ∧ e.sz = (fixV ((bl t2).take 4) : Int)) := ⟨e1, by rw [e2 hb32, hkz], e3, e4⟩
      have HEK : Hid ((rdA (bl S))[k]? = some e) := he
      have HT1 : Hid ((rdA (bl S)).take (k + 1) = (rdA (bl S)).take k ++ [e]) := by show _ = _; rw [List.take_add_one, he]; rfl
      have c2 := copy_xr (wr.alloc (.cells z35X 56)).drew wr.heap.size y hys (bk_new _ _ _)
      unfold z35X at c2
      clear he e1 e2 e3 e4
      go_wp2
      go_region
      have X0 : ExS w wr.heap.size x ((rdA (bl S)).take k) u (putA z35X 0 (bvc (byl y))) ((wr.alloc (.cells z35X 56)).drew.setCells wr.heap.size 0 (bvc (byl y))) := by
        have q := HR.out.1
        have hlt := q.bx.lt
        have k0 : ExS w wr.heap.size x ((rdA (bl S)).take k) u z35X (wr.alloc (.cells z35X 56)).drew := by
          have hb : Below wr.heap.size wr (wr.alloc (.cells z35X 56)).drew := ((Below.refl _ _).alloc (Nat.le_refl _) _).drew
          exact ⟨⟨q.bx.below hb hlt, row_below q.ow hb, q.bel.trans (hb.mono q.bel.size)⟩, hlt, fun k hk => (q.ow.lt k hk).2, bk_new _ _ _⟩
        exact k0.put (grown_puts _ _ _ (World.grownBy.refl _ _)) (Blk.puts _ _ _ _ k0.eb)
      obtain ⟨W2, hW2⟩ : ∃ W2, (wr.alloc (.cells z35X 56)).drew.setCells wr.heap.size 0 (bvc (byl y)) = W2 := ⟨_, rfl⟩
      rw [hW2] at X0
      unfold z35X at hW2
      rw [hW2]
      obtain ⟨B, hB⟩ : ∃ B, wr.heap.size = B := ⟨_, rfl⟩
      rw [hB] at X0 ⊢
      have hps : (putA z35X 0 (bvc (byl y))).size = 35 := by rw [putA_size, z35_size]
      have X1 : Hid (ExS w B x ((rdA (bl S)).take k) u (putA z35X 0 (bvc (byl y))) W2) := X0
      have hf2 := X0.eb.frozen 32
      have hc2 : W2.cell? ⟨B, 32, none⟩ = some (.int .u8 0) := by
        rw [X0.eb.cell, putA_get _ _ _ _ (by simp [bvc, byl_length, hys, z35_size]), if_neg (by simp [bvc, byl_length, hys])]; rfl
      clear X0 hW2 c2 hsl hB
      go_wp2_with fail
      obtain ⟨W3, hW3⟩ : ∃ W3, W2.setCell ⟨B, 32, none⟩ (.int .u8 (kz : Int)) = W3 := ⟨_, rfl⟩
      have X3 : Hid (ExS w B x ((rdA (bl S)).take k) u ((putA z35X 0 (bvc (byl y))).setIfInBounds 32 (.int .u8 (kz : Int))) W3) := by
        rw [← hW3]; exact X1.out.put (set_grown _ _ _ _) (X1.out.eb.set 32 _)
      have hsz3 : W3.heap.size = W2.heap.size := by rw [← hW3]; simp [World.setCell]
      obtain ⟨R, hR⟩ : ∃ R, W2.heap.size = R := ⟨_, rfl⟩
      rw [hW3, hR]
      rw [hR] at hsz3
      have hBR : B < R := by have := X1.out.eb.lt; omega
      clear hW3 hR X1 hc2 hf2
      have bR := bk_new W3 #[.string t] 85
      rw [hsz3] at bR
      have X4 : Hid (ExS w B x ((rdA (bl S)).take k) u ((putA z35X 0 (bvc (byl y))).setIfInBounds 32 (.int .u8 (kz : Int))) (W3.alloc (.cells #[.string t] 85))) := X3.out.below ((Below.refl _ _).alloc (Nat.le_refl _) _)
      refine (rfixed_ok t R _ (by unfold maxLen; omega) (by rw [bR.cell]; rfl) (bR.frozen _) bR.lt 4 (by omega) (by omega) (by omega)).mono ?_
      rintro r W5 ⟨rfl, hst5⟩
      have X5 : Hid (ExS w B x ((rdA (bl S)).take k) u ((putA z35X 0 (bvc (byl y))).setIfInBounds 32 (.int .u8 (kz : Int))) W5) := X4.out.grow hst5.grownB hBR
      have hR5 : R < W5.heap.size := Nat.lt_of_lt_of_le bR.lt hst5.size
      have hc5 := hst5.cell
      have hf5 := hst5.frozen
      rw [ht2] at hc5
      obtain ⟨oz, hoz⟩ : ∃ oz, fixV ((bl t).take 4) = oz := ⟨_, rfl⟩
      have lo : oz < 4294967296 := by rw [← hoz]; have := fix_lt t 4 (by omega); omega
      rw [hoz]
      clear hst5 X3 X4 bR hsz3
      go_wp2_with fail
      refine (rfixed_ok t2 R _ (by unfold maxLen; omega) hc5 hf5 hR5 4 (by omega) (by omega) (by omega)).mono ?_
      rintro r W6 ⟨rfl, hst6⟩
      have X6 := X5.out.grow hst6.grownB hBR
      obtain ⟨zz, hzz⟩ : ∃ zz, fixV ((bl t2).take 4) = zz := ⟨_, rfl⟩
      have lz : zz < 4294967296 := by rw [← hzz]; have := fix_lt t2 4 (by omega); omega
      rw [hzz]
      have H6 : Hid (ExS w B x ((rdA (bl S)).take k) u ((putA z35X 0 (bvc (byl y))).setIfInBounds 32 (.int .u8 (kz : Int))) W6) := X6
      have hf63 := X6.eb.frozen 33
      have hf64 := X6.eb.frozen 34
      have hps : (putA z35X 0 (bvc (byl y))).size = 35 := by rw [putA_size, z35_size]
      have hle : 0 + (bvc (byl y)).length ≤ z35X.size := by simp [bvc, byl_length, hys, z35_size]
      have hc63 : W6.cell? ⟨B, 33, none⟩ = some (.int .i64 0) := by
        rw [X6.eb.cell, Array.getElem?_setIfInBounds_ne (by omega), putA_get _ _ _ _ hle, if_neg (by simp [bvc, byl_length, hys])]; rfl
      have hc64 : W6.cell? ⟨B, 34, none⟩ = some (.int .i64 0) := by
        rw [X6.eb.cell, Array.getElem?_setIfInBounds_ne (by omega), putA_get _ _ _ _ hle, if_neg (by simp [bvc, byl_length, hys])]; rfl
      have hck : W6.cell? ⟨w.heap.size, 32, none⟩ = some u := by rw [X6.rx.bx.cell]; exact rixC_at x u HX.out.2
      have hBw : ¬ w.heap.size = B := by have := X6.lo; omega
      have htl : ((rdA (bl S)).take k).length = k := by
        have : (rdA (bl S)).length = n := by rw [rdA, rdL_len, bl_length]; have := HS.out.1; omega
        rw [List.length_take, this]; omega
      have hids : ∀ e ∈ (rdA (bl S)).take k, e.id.size = 32 := fun e he => HIDS.out e (List.mem_of_mem_take he)
      obtain ⟨au, cu, hu, hxu, hku, hau⟩ : ∃ au cu, u = .slice au k cu ∧ (∀ W X, ExS w B x ((rdA (bl S)).take k) u X W → XeL W au ((rdA (bl S)).take k)) ∧ k ≤ cu ∧ ((au = none ∧ k = 0) ∨ ∃ g, au = some ⟨g, 0, none⟩) := by
        obtain ⟨a', c', hv, _, hle, hor⟩ := own_xel X6.rx.ow rfl hids
        rw [htl] at hv hle hor
        refine ⟨a', c', hv, fun W X hW => ?_, hle, ?_⟩
        · obtain ⟨a2, c2, hv2, hx2, _, _⟩ := own_xel hW.rx.ow rfl hids
          rw [hv] at hv2
          injection hv2 with q _ _
          rw [q]; exact hx2
        · rcases hor with q | ⟨g, q, _⟩
          · exact .inl q
          · exact .inr ⟨g, q⟩
      subst hu
      have HXU : Hid (∀ W X, ExS w B x ((rdA (bl S)).take k) (.slice au k cu) X W → XeL W au ((rdA (bl S)).take k)) := hxu
      have HAU : Hid ((au = none ∧ k = 0) ∨ ∃ g, au = some ⟨g, 0, none⟩) := hau
      have HTL : Hid (((rdA (bl S)).take k).length = k) := htl
      have HIDT : Hid (∀ e ∈ (rdA (bl S)).take k, e.id.size = 32) := hids
      have hid32 : e.id.size = 32 := by rw [HE.out.1]; exact hys
      have HEI : Hid (e.id.size = 32) := hid32
      obtain ⟨X, hX⟩ : ∃ X, xeC e = X := ⟨_, rfl⟩
      have H7 : Hid (ExS w B x ((rdA (bl S)).take k) (.slice au k cu) X ((W6.setCell ⟨B, 33, none⟩ (.int .i64 (oz : Int))).setCell ⟨B, 34, none⟩ (.int .i64 (zz : Int)))) := by
        have q := (H6.out.put (set_grown _ _ _ _) (H6.out.eb.set 33 (.int .i64 (oz : Int)))).put (set_grown _ _ _ _) ((H6.out.eb.set 33 (.int .i64 (oz : Int))).set 34 (.int .i64 (zz : Int)))
        have hd := ent_done HE.out.1 hys
        rw [HE.out.2.1, HE.out.2.2.1, HE.out.2.2.2, hoz, hzz, hX] at hd
        rw [hd] at q
        exact q
      have HXI : Hid ((Tryz.prog.info? 56).map (·.size) = some X.size) := by show _ = _; rw [← hX, xeC_size e hid32]; kernel_rfl
      have HMY0 : Hid (∀ W, ExS w B x ((rdA (bl S)).take k) (.slice au k cu) X W → Calls Tryz.prog 30 #[.agg X] W fun r w' => r = .returned (.bool (okX e)) ∧ ExS w B x ((rdA (bl S)).take k) (.slice au k cu) X w') := fun W hW => by
        rw [← hX]
        refine (rmay_any e W hid32).mono ?_
        rintro r w' ⟨h1, h2⟩
        rw [hX, h2]
        exact ⟨h1, hW.below ((Below.refl _ _).alloc (Nat.le_refl _) _)⟩
      have HCS0 : Hid (∀ W, ExS w B x ((rdA (bl S)).take k) (.slice au k cu) X W → W.cell? ⟨w.heap.size, 32, none⟩ = some (.slice au k cu)) := fun W hW => by rw [hW.rx.bx.cell]; exact rixC_at x _ HX.out.2
      have HXE : Hid (xeC e = X) := hX
      have HRO : Hid (okR none ((rdA (bl S)).take k) = true) := HR.out.2
      clear hst6 X5 X6 hc5 hf5 hR5 hxu hau hids hid32 hX htl hps hle HR hoz hzz hkz hy ht ht2 ht2b
      go_wp2_with fail
      obtain ⟨W7, hW7⟩ : ∃ W7, (W6.setCell ⟨B, 33, none⟩ (.int .i64 (oz : Int))).setCell ⟨B, 34, none⟩ (.int .i64 (zz : Int)) = W7 := ⟨_, rfl⟩
      rw [hW7] at H7 ⊢
      clear hW7 H6 hf63 hf64 hc63 hc64 hck
      have HNO : Hid ((okX e = false ∨ ∃ p, ((rdA (bl S)).take k).getLast? = some p ∧ ltN p.id e.id = false) → ∀ s l, ¬ IsIx S s l) := fun hq s l h => by
        have hl := h.take.2
        have hel : l[k]? = some e := by rw [← hl]; exact HEK.out
        rcases hq with q | ⟨p, q1, q2⟩
        · have := h.2.1.ok e (List.mem_of_getElem? hel)
          rw [q] at this; cases this
        · rw [hl, List.getLast?_eq_getElem?] at q1
          have hkl : k < l.length := (List.getElem?_eq_some_iff.1 hel).1
          rw [List.length_take, Nat.min_eq_left (by omega)] at q1
          rcases Nat.eq_zero_or_pos k with h0 | h0
          · subst h0; simp at q1
          rw [List.getElem?_take_of_lt (by omega)] at q1
          obtain ⟨hi2, rfl⟩ := List.getElem?_eq_some_iff.1 hel
          obtain ⟨hj2, rfl⟩ := List.getElem?_eq_some_iff.1 q1
          have := List.pairwise_iff_getElem.1 h.2.1.ri (k - 1) k hj2 hi2 (by omega)
          rw [q2] at this; cases this
      have HST : Hid (okX e = true → (∀ p, ((rdA (bl S)).take k).getLast? = some p → ltN p.id e.id = true) → okR none ((rdA (bl S)).take (k + 1)) = true) := fun h1 h2 => by
        show okR _ _ = true
        rw [HT1.out]
        have h0 := (okR_iff _).1 HRO.out
        refine (okR_iff _).2 ⟨fun y hy => ?_, List.pairwise_append.2 ⟨h0.2, List.pairwise_singleton _ _, fun a ha b hb => ?_⟩⟩
        · rcases List.mem_append.1 hy with q | q
          · exact h0.1 y q
          · rw [List.mem_singleton.1 q]; exact h1
        · rw [List.mem_singleton.1 hb]
          obtain ⟨i, hi⟩ := List.getElem?_of_mem ha
          have hil := (List.getElem?_eq_some_iff.1 hi).1
          have hlast : ((rdA (bl S)).take k).getLast? = some (((rdA (bl S)).take k)[((rdA (bl S)).take k).length - 1]'(by omega)) := by rw [List.getLast?_eq_getElem?]; exact List.getElem?_eq_getElem _
          have h3 := h2 _ hlast
          by_cases hl : i = ((rdA (bl S)).take k).length - 1
          · obtain ⟨hj, rfl⟩ := List.getElem?_eq_some_iff.1 hi
            subst hl; exact h3
          · obtain ⟨hj, rfl⟩ := List.getElem?_eq_some_iff.1 hi
            exact ltN_trans (List.pairwise_iff_getElem.1 h0.2 i (((rdA (bl S)).take k).length - 1) hj (by omega) (by omega)) h3
      cases hok : okX e with
      | false =>
        have HN : Hid (∀ s l, ¬ IsIx S s l) := HNO.out (.inl hok)
        have HMY := HMY0
        rw [hok] at HMY
        clear hok
        refine region_class10 (ExS w B x ((rdA (bl S)).take k) (.slice au k cu) X) (by kernel_rfl) (by kernel_rfl) (H7.out.below (Below.refl _ _).drew) ?_
        try simp only [Act.put, List.setIfInBounds_toArray, List.set_cons_zero, List.set_cons_succ]
        repeat (first
          | go_big_quiet_skip
          | (go_big_quiet_want
             first
               | (refine quiet_row 56 _ rfl B 0 X X 56 _ rfl (fun _ h => h.eb) (fun j v hv => by rw [Nat.zero_add]; exact hv) Tryz.underlying56 rfl HXI.out ?_; go_big_quiet_on; simp only [Act.put, List.setIfInBounds_toArray, List.set_cons_zero, List.set_cons_succ])
               | (refine quiet_call10 (.bool false) 30 #[.agg X] ?_ ?_ ?_; (focus (intro W hW; go_simp; done)); (focus (intro W hW; exact HMY.out W hW)); go_big_quiet_on; simp only [Act.put, List.setIfInBounds_toArray, List.set_cons_zero, List.set_cons_succ])
               | (refine quiet_val10 (.bool true) ?_ ?_; (focus (intro W hW; go_simp; done)); go_big_quiet_on; simp only [Act.put, List.setIfInBounds_toArray, List.set_cons_zero, List.set_cons_succ])
               | (refine quiet_val10 (.bool false) ?_ ?_; (focus (intro W hW; go_simp; done)); go_big_quiet_on; simp only [Act.put, List.setIfInBounds_toArray, List.set_cons_zero, List.set_cons_succ])
               | (go_big_quiet_op; go_big_quiet_on)))
        refine wpQuiet_nil ?_
        intro w9 hw9
        have H9 : Hid (Below w.heap.size w w9) := hw9.rx.bel
        clear hw9
        go_wp2
        go_ret2
        exact ⟨.inl ⟨rfl, HN.out⟩, H9.out⟩
      | true =>
        have HMY := HMY0
        rw [hok] at HMY
        rcases Nat.eq_zero_or_pos k with h0 | hpos
        · subst h0
          have HOK : Hid (okR none ((rdA (bl S)).take (0 + 1)) = true) := HST.out hok (fun p hp => by simp at hp)
          clear hok HNO HST
          refine region_class10 (ExS w B x ((rdA (bl S)).take 0) (.slice au 0 cu) X) (by kernel_rfl) (by kernel_rfl) (H7.out.below (Below.refl _ _).drew) ?_
          try simp only [Act.put, List.setIfInBounds_toArray, List.set_cons_zero, List.set_cons_succ]
          repeat (first
            | go_big_quiet_skip
            | (go_big_quiet_want
               first
                 | (refine quiet_row 56 _ rfl B 0 X X 56 _ rfl (fun _ h => h.eb) (fun j v hv => by rw [Nat.zero_add]; exact hv) Tryz.underlying56 rfl HXI.out ?_; go_big_quiet_on; simp only [Act.put, List.setIfInBounds_toArray, List.set_cons_zero, List.set_cons_succ])
                 | (refine quiet_call10 (.bool true) 30 #[.agg X] ?_ ?_ ?_; (focus (intro W hW; go_simp; done)); (focus (intro W hW; exact HMY.out W hW)); go_big_quiet_on; simp only [Act.put, List.setIfInBounds_toArray, List.set_cons_zero, List.set_cons_succ])
                 | (refine quiet_val10 (.bool true) ?_ ?_; (focus (intro W hW; go_simp; done)); go_big_quiet_on; simp only [Act.put, List.setIfInBounds_toArray, List.set_cons_zero, List.set_cons_succ])
                 | (refine quiet_val10 (.bool false) ?_ ?_; (focus (intro W hW; go_simp; done)); go_big_quiet_on; simp only [Act.put, List.setIfInBounds_toArray, List.set_cons_zero, List.set_cons_succ])
                 | (go_big_quiet_op; go_big_quiet_on)))
          refine wpQuiet_nil ?_
          intro w9 hw9
          have H9 : Hid (ExS w B x ((rdA (bl S)).take (0)) (.slice au 0 cu) X w9) := hw9
          have hlen9 : (0) ≤ 1000000 := by omega
          have HAP : Hid (∀ W g8, ExS w B x ((rdA (bl S)).take (0)) (.slice au 0 cu) X W → Bk W g8 X 56 → ∃ a cp w7, (Builtin.append_ #[24, 24] 24 #[.slice au 0 cu, .slice (some ⟨g8, 0, none⟩) 1 1]).run Tryz.prog W = .ok (.slice a (0 + 1) cp) w7 ∧ Bk w7 w.heap.size (rixC x (.slice au 0 cu)) 81 ∧ RxS w x ((rdA (bl S)).take (0 + 1)) (.slice a (0 + 1) cp) (w7.setCell ⟨w.heap.size, 32, none⟩ (.slice a (0 + 1) cp))) := fun W g8 hW hg => by
            obtain ⟨a, cp, w7, r1, r2, r3, r4⟩ := hW.rx.app HIDT.out e HEI.out g8 (by rw [HXE.out]; exact hg) (by rw [HTL.out]; exact hlen9)
            rw [HTL.out] at r1 r3
            refine ⟨a, cp, w7, r1, r2, RxS.put HX.out.2 r2 ?_ r4⟩
            rw [HT1.out, List.length_append, HTL.out]; exact r3
          have HSE : Hid (∀ W, (Instr.buildSlice 24 1 #[(0, .agg X)]).run Tryz.prog W = .ok (.slice (some ⟨W.heap.size, 0, none⟩) 1 1) (W.alloc (.cells X 56))) := fun W => by rw [← HXE.out]; exact slice_xr e HEI.out W
          clear hw9 H7 HMY HMY0
          go_wp2
          have HDR : Hid (KE w B x ((rdA (bl S)).take (0)) (.slice au 0 cu) X none w9.drew) := H9.out.below (Below.refl _ _).drew
          refine wp_region_latm (KE w B x ((rdA (bl S)).take (0)) (.slice au 0 cu) X) 7 6 0 7 _ (by kernel_rfl) (by kernel_rfl) (by kernel_rfl) (by kernel_rfl) (by omega) (by omega) rfl rfl HDR.out ?_
          simp only [List.take_succ_cons, List.take_zero, List.drop_succ_cons, List.drop_zero, skipL, Nat.reduceAdd, Nat.reduceBEq, Bool.false_eq_true, if_false, if_true]
          (refine wpQF_val rfl (.pointer (some ⟨w.heap.size, 0, none⟩)) (fun ov W hW => by go_simp) ?_; simp only [Act.put, List.setIfInBounds_toArray, List.set_cons_zero, List.set_cons_succ])
          (refine wpQF_val rfl (.pointer (some ⟨w.heap.size, 0, none⟩)) (fun ov W hW => by go_simp) ?_; simp only [Act.put, List.setIfInBounds_toArray, List.set_cons_zero, List.set_cons_succ])
          (refine wpQF_val rfl (.pointer (some ⟨w.heap.size, 0, none⟩)) (fun ov W hW => by go_simp) ?_; simp only [Act.put, List.setIfInBounds_toArray, List.set_cons_zero, List.set_cons_succ])
          (refine wpQF_val rfl (.pointer (some ⟨w.heap.size, 32, none⟩)) (fun ov W hW => by go_simp) ?_; simp only [Act.put, List.setIfInBounds_toArray, List.set_cons_zero, List.set_cons_succ])
          (refine wpQF_one rfl 24 (.tmp 117) rfl w.heap.size 32 (.slice au 0 cu) rfl (fun _ => by kernel_rfl) (fun ov W hW => HCS0.out W hW.ex) ?_; simp only [Act.put, List.setIfInBounds_toArray, List.set_cons_zero, List.set_cons_succ])
          (refine wpQF_row rfl 56 (.tmp 6) rfl B 0 X X 56 _ rfl (fun ov W hW => hW.ex.eb) (fun j v hv => by rw [Nat.zero_add]; exact hv) Tryz.underlying56 rfl HXI.out ?_; simp only [Act.put, List.setIfInBounds_toArray, List.set_cons_zero, List.set_cons_succ])
          refine wpQF_nil ⟨mkF_bs 24 (.tmp 119) rfl (.agg X) rfl (fun W hW => ⟨_, _, HSE.out W, KE.made hW⟩), ?_⟩
          intro v w8 h8
          obtain ⟨g8, rfl, hbk8, hx8⟩ := h8
          obtain ⟨a7, c7, w7, hrun, hbk7, hR7⟩ := HAP.out w8 g8 hx8 hbk8
          have R7 : Hid (RxS w x ((rdA (bl S)).take (0 + 1)) (.slice a7 (0 + 1) c7) (w7.setCell ⟨w.heap.size, 32, none⟩ (.slice a7 (0 + 1) c7))) := hR7
          have hcc : w7.cell? ⟨w.heap.size, 32, none⟩ = some (.slice au 0 cu) := by rw [hbk7.cell]; exact rixC_at x _ HX.out.2
          have hff := hbk7.frozen 32
          clear hbk8 hx8 hR7 hbk7 HAP HSE H9 HDR
          simp only [Act.put, List.setIfInBounds_toArray, List.set_cons_zero, List.set_cons_succ]
          refine wpList_appX rfl (.tmp 118) (.tmp 120) 24 24 rfl (.slice au 0 cu) (.slice (some ⟨g8, 0, none⟩) 1 1) (.slice a7 (0 + 1) c7) w7 rfl rfl hrun ?_
          simp only [Act.put, List.setIfInBounds_toArray, List.set_cons_zero, List.set_cons_succ]
          clear hrun
          go_wp2
          refine ⟨rfl, ?_⟩
          go_wp2
          go_roundw
          case rel => exact ⟨0 + 1, A + 41, _, by go_num, by omega, (by have := HA.out; show A + 41 = _; omega), ⟨R7.out, HOK.out⟩⟩
          case measure => simp [intOf]; omega
        · obtain ⟨k0, rfl⟩ : ∃ q, k = q + 1 := ⟨k - 1, by omega⟩
          obtain ⟨g, rfl⟩ : ∃ g, au = some ⟨g, 0, none⟩ := by
            rcases HAU.out with ⟨_, q⟩ | q
            · omega
            · exact q
          obtain ⟨p, hp⟩ : ∃ p, ((rdA (bl S)).take (k0 + 1))[k0]? = some p := ⟨_, List.getElem?_eq_getElem (by rw [HTL.out]; omega)⟩
          have hp32 : p.id.size = 32 := HIDT.out p (List.mem_of_getElem? hp)
          have hlast : ((rdA (bl S)).take (k0 + 1)).getLast? = some p := by rw [List.getLast?_eq_getElem?, HTL.out]; exact hp
          obtain ⟨J, hJ⟩ : ∃ J, idc p.id = J := ⟨_, rfl⟩
          obtain ⟨I, hI⟩ : ∃ I, idc e.id = I := ⟨_, rfl⟩
          have HCJ : Hid (∀ W, ExS w B x ((rdA (bl S)).take (k0 + 1)) (.slice (some ⟨g, 0, none⟩) (k0 + 1) cu) X W → ∀ j v, J[j]? = some v → W.cell? ⟨g, k0 * 35 + j, none⟩ = some v) := fun W hW j v hv => by
            obtain ⟨_, g', o', ea, _, hc⟩ := HXU.out W X hW k0 p hp
            injection ea with ea
            injection ea with e1 e2
            subst e1
            subst e2
            have := hc j v (by have := xeC_id p hp32 j v (by rw [hJ]; exact hv); rwa [Nat.zero_add] at this)
            rwa [Nat.zero_add] at this
          have HIJ : Hid ((Tryz.prog.info? 23).map (·.size) = some J.size) := by show _ = _; rw [← hJ]; exact info_32 (by rw [idc_size, hp32])
          have HII : Hid ((Tryz.prog.info? 23).map (·.size) = some I.size) := by show _ = _; rw [← hI]; exact info_32 (by rw [idc_size, HEI.out])
          have HXD : Hid (∀ j v, I[j]? = some v → X[0 + j]? = some v) := fun j v hv => by rw [← HXE.out]; exact xeC_id e HEI.out j v (by rw [hI]; exact hv)
          have HLS : Hid (∀ W, ExS w B x ((rdA (bl S)).take (k0 + 1)) (.slice (some ⟨g, 0, none⟩) (k0 + 1) cu) X W → Calls Tryz.prog 40 #[.agg J, .agg I] W fun r w' => r = .returned (.bool (ltN p.id e.id)) ∧ ExS w B x ((rdA (bl S)).take (k0 + 1)) (.slice (some ⟨g, 0, none⟩) (k0 + 1) cu) X w') := fun W hW => by
            rw [← hJ, ← hI]
            exact (rless13 p.id e.id W hp32 HEI.out).mono fun r w' q => ⟨q.1, hW.below q.2⟩
          have hk1 : IntKind.i64.wrap (((k0 + 1 : Nat) : Int) - 1) = (k0 : Int) := by rw [IntKind.wrap_i64]; omega
          have hk2 : IntKind.i64.wrap ((k0 : Int) + 1 - 1) = (k0 : Int) := by rw [IntKind.wrap_i64]; omega
          have hk6 : IntKind.i64.wrap (k0 : Int) = (k0 : Int) := by rw [IntKind.wrap_i64]; omega
          have hk3 : decide ((0 : Int) < (k0 : Int) + 1) = true := decide_eq_true (by omega)
          have hk4 : (0 : Int) < (k0 : Int) + 1 := by omega
          have hk5 : (k0 : Int) < (k0 : Int) + 1 := by omega
          clear hJ hI hp32 hp
          cases hlt2 : ltN p.id e.id with
          | false =>
            have HN : Hid (∀ s l, ¬ IsIx S s l) := HNO.out (.inr ⟨p, hlast, hlt2⟩)
            rw [hlt2] at HLS
            clear hok HNO HST hlast hlt2
            refine region_class10 (ExS w B x ((rdA (bl S)).take (k0 + 1)) (.slice (some ⟨g, 0, none⟩) (k0 + 1) cu) X) (by kernel_rfl) (by kernel_rfl) (H7.out.below (Below.refl _ _).drew) ?_
            try simp only [Act.put, List.setIfInBounds_toArray, List.set_cons_zero, List.set_cons_succ]
            repeat (first
              | go_big_quiet_skip
              | (go_big_quiet_want
                 first
                   | (refine quiet_row 56 _ rfl B 0 X X 56 _ rfl (fun _ h => h.eb) (fun j v hv => by rw [Nat.zero_add]; exact hv) Tryz.underlying56 rfl HXI.out ?_; go_big_quiet_on; simp only [Act.put, List.setIfInBounds_toArray, List.set_cons_zero, List.set_cons_succ])
                   | (refine quiet_call10 (.bool true) 30 #[.agg X] ?_ ?_ ?_; (focus (intro W hW; go_simp; done)); (focus (intro W hW; exact HMY.out W hW)); go_big_quiet_on; simp only [Act.put, List.setIfInBounds_toArray, List.set_cons_zero, List.set_cons_succ])
                   | (refine quiet_row 23 _ rfl B 0 X I 56 _ rfl (fun _ h => h.eb) HXD.out Tryz.underlying23 rfl HII.out ?_; go_big_quiet_on; simp only [Act.put, List.setIfInBounds_toArray, List.set_cons_zero, List.set_cons_succ])
                   | (refine quiet_rowc 23 _ rfl g (k0 * 35) J _ rfl HCJ.out Tryz.underlying23 rfl HIJ.out ?_; go_big_quiet_on; simp only [Act.put, List.setIfInBounds_toArray, List.set_cons_zero, List.set_cons_succ])
                   | (refine quiet_call10 (.bool false) 40 #[.agg J, .agg I] ?_ ?_ ?_; (focus (intro W hW; go_simp; done)); (focus (intro W hW; exact HLS.out W hW)); go_big_quiet_on; simp only [Act.put, List.setIfInBounds_toArray, List.set_cons_zero, List.set_cons_succ])
                   | (refine quiet_one 24 _ rfl w.heap.size 32 (.slice (some ⟨g, 0, none⟩) (k0 + 1) cu) rfl (fun _ => by kernel_rfl) (fun W hW => HCS0.out W hW) ?_; go_big_quiet_on; simp only [Act.put, List.setIfInBounds_toArray, List.set_cons_zero, List.set_cons_succ])
                   | (refine quiet_val10 (.pointer (some ⟨g, k0 * 35, none⟩)) ?_ ?_; (focus (intro W hW; go_simp; done)); go_big_quiet_on; simp only [Act.put, List.setIfInBounds_toArray, List.set_cons_zero, List.set_cons_succ])
                   | (refine quiet_val10 (.pointer (some ⟨w.heap.size, 0, none⟩)) ?_ ?_; (focus (intro W hW; go_simp; done)); go_big_quiet_on; simp only [Act.put, List.setIfInBounds_toArray, List.set_cons_zero, List.set_cons_succ])
                   | (refine quiet_val10 (.pointer (some ⟨w.heap.size, 32, none⟩)) ?_ ?_; (focus (intro W hW; go_simp; done)); go_big_quiet_on; simp only [Act.put, List.setIfInBounds_toArray, List.set_cons_zero, List.set_cons_succ])
                   | (refine quiet_val10 (.int .i64 (k0 : Int)) ?_ ?_; (focus (intro W hW; go_simp; done)); go_big_quiet_on; simp only [Act.put, List.setIfInBounds_toArray, List.set_cons_zero, List.set_cons_succ])
                   | (refine quiet_val10 (.pointer (some ⟨B, 0, none⟩)) ?_ ?_; (focus (intro W hW; go_simp; done)); go_big_quiet_on; simp only [Act.put, List.setIfInBounds_toArray, List.set_cons_zero, List.set_cons_succ])
                   | (refine quiet_val10 (.bool true) ?_ ?_; (focus (intro W hW; go_simp; done)); go_big_quiet_on; simp only [Act.put, List.setIfInBounds_toArray, List.set_cons_zero, List.set_cons_succ])
                   | (refine quiet_val10 (.bool false) ?_ ?_; (focus (intro W hW; go_simp; done)); go_big_quiet_on; simp only [Act.put, List.setIfInBounds_toArray, List.set_cons_zero, List.set_cons_succ])
                   | (go_big_quiet_op; go_big_quiet_on)))
            refine wpQuiet_nil ?_
            intro w9 hw9
            have H9 : Hid (Below w.heap.size w w9) := hw9.rx.bel
            clear hw9
            go_wp2
            go_ret2
            exact ⟨.inl ⟨rfl, HN.out⟩, H9.out⟩
          | true =>
            have HOK : Hid (okR none ((rdA (bl S)).take (k0 + 1 + 1)) = true) := HST.out hok (fun q hq => by rw [hlast] at hq; injection hq with hq; rw [← hq]; exact hlt2)
            rw [hlt2] at HLS
            clear hok HNO HST hlast hlt2
            refine region_class10 (ExS w B x ((rdA (bl S)).take (k0 + 1)) (.slice (some ⟨g, 0, none⟩) (k0 + 1) cu) X) (by kernel_rfl) (by kernel_rfl) (H7.out.below (Below.refl _ _).drew) ?_
            try simp only [Act.put, List.setIfInBounds_toArray, List.set_cons_zero, List.set_cons_succ]
            repeat (first
              | go_big_quiet_skip
              | (go_big_quiet_want
                 first
                   | (refine quiet_row 56 _ rfl B 0 X X 56 _ rfl (fun _ h => h.eb) (fun j v hv => by rw [Nat.zero_add]; exact hv) Tryz.underlying56 rfl HXI.out ?_; go_big_quiet_on; simp only [Act.put, List.setIfInBounds_toArray, List.set_cons_zero, List.set_cons_succ])
                   | (refine quiet_call10 (.bool true) 30 #[.agg X] ?_ ?_ ?_; (focus (intro W hW; go_simp; done)); (focus (intro W hW; exact HMY.out W hW)); go_big_quiet_on; simp only [Act.put, List.setIfInBounds_toArray, List.set_cons_zero, List.set_cons_succ])
                   | (refine quiet_row 23 _ rfl B 0 X I 56 _ rfl (fun _ h => h.eb) HXD.out Tryz.underlying23 rfl HII.out ?_; go_big_quiet_on; simp only [Act.put, List.setIfInBounds_toArray, List.set_cons_zero, List.set_cons_succ])
                   | (refine quiet_rowc 23 _ rfl g (k0 * 35) J _ rfl HCJ.out Tryz.underlying23 rfl HIJ.out ?_; go_big_quiet_on; simp only [Act.put, List.setIfInBounds_toArray, List.set_cons_zero, List.set_cons_succ])
                   | (refine quiet_call10 (.bool true) 40 #[.agg J, .agg I] ?_ ?_ ?_; (focus (intro W hW; go_simp; done)); (focus (intro W hW; exact HLS.out W hW)); go_big_quiet_on; simp only [Act.put, List.setIfInBounds_toArray, List.set_cons_zero, List.set_cons_succ])
                   | (refine quiet_one 24 _ rfl w.heap.size 32 (.slice (some ⟨g, 0, none⟩) (k0 + 1) cu) rfl (fun _ => by kernel_rfl) (fun W hW => HCS0.out W hW) ?_; go_big_quiet_on; simp only [Act.put, List.setIfInBounds_toArray, List.set_cons_zero, List.set_cons_succ])
                   | (refine quiet_val10 (.pointer (some ⟨g, k0 * 35, none⟩)) ?_ ?_; (focus (intro W hW; go_simp; done)); go_big_quiet_on; simp only [Act.put, List.setIfInBounds_toArray, List.set_cons_zero, List.set_cons_succ])
                   | (refine quiet_val10 (.pointer (some ⟨w.heap.size, 0, none⟩)) ?_ ?_; (focus (intro W hW; go_simp; done)); go_big_quiet_on; simp only [Act.put, List.setIfInBounds_toArray, List.set_cons_zero, List.set_cons_succ])
                   | (refine quiet_val10 (.pointer (some ⟨w.heap.size, 32, none⟩)) ?_ ?_; (focus (intro W hW; go_simp; done)); go_big_quiet_on; simp only [Act.put, List.setIfInBounds_toArray, List.set_cons_zero, List.set_cons_succ])
                   | (refine quiet_val10 (.int .i64 (k0 : Int)) ?_ ?_; (focus (intro W hW; go_simp; done)); go_big_quiet_on; simp only [Act.put, List.setIfInBounds_toArray, List.set_cons_zero, List.set_cons_succ])
                   | (refine quiet_val10 (.pointer (some ⟨B, 0, none⟩)) ?_ ?_; (focus (intro W hW; go_simp; done)); go_big_quiet_on; simp only [Act.put, List.setIfInBounds_toArray, List.set_cons_zero, List.set_cons_succ])
                   | (refine quiet_val10 (.bool true) ?_ ?_; (focus (intro W hW; go_simp; done)); go_big_quiet_on; simp only [Act.put, List.setIfInBounds_toArray, List.set_cons_zero, List.set_cons_succ])
                   | (refine quiet_val10 (.bool false) ?_ ?_; (focus (intro W hW; go_simp; done)); go_big_quiet_on; simp only [Act.put, List.setIfInBounds_toArray, List.set_cons_zero, List.set_cons_succ])
                   | (go_big_quiet_op; go_big_quiet_on)))
            refine wpQuiet_nil ?_
            intro w9 hw9
            have H9 : Hid (ExS w B x ((rdA (bl S)).take (k0 + 1)) (.slice (some ⟨g, 0, none⟩) (k0 + 1) cu) X w9) := hw9
            have hlen9 : (k0 + 1) ≤ 1000000 := by omega
            have HAP : Hid (∀ W g8, ExS w B x ((rdA (bl S)).take (k0 + 1)) (.slice (some ⟨g, 0, none⟩) (k0 + 1) cu) X W → Bk W g8 X 56 → ∃ a cp w7, (Builtin.append_ #[24, 24] 24 #[.slice (some ⟨g, 0, none⟩) (k0 + 1) cu, .slice (some ⟨g8, 0, none⟩) 1 1]).run Tryz.prog W = .ok (.slice a (k0 + 1 + 1) cp) w7 ∧ Bk w7 w.heap.size (rixC x (.slice (some ⟨g, 0, none⟩) (k0 + 1) cu)) 81 ∧ RxS w x ((rdA (bl S)).take (k0 + 1 + 1)) (.slice a (k0 + 1 + 1) cp) (w7.setCell ⟨w.heap.size, 32, none⟩ (.slice a (k0 + 1 + 1) cp))) := fun W g8 hW hg => by
              obtain ⟨a, cp, w7, r1, r2, r3, r4⟩ := hW.rx.app HIDT.out e HEI.out g8 (by rw [HXE.out]; exact hg) (by rw [HTL.out]; exact hlen9)
              rw [HTL.out] at r1 r3
              refine ⟨a, cp, w7, r1, r2, RxS.put HX.out.2 r2 ?_ r4⟩
              rw [HT1.out, List.length_append, HTL.out]; exact r3
            have HSE : Hid (∀ W, (Instr.buildSlice 24 1 #[(0, .agg X)]).run Tryz.prog W = .ok (.slice (some ⟨W.heap.size, 0, none⟩) 1 1) (W.alloc (.cells X 56))) := fun W => by rw [← HXE.out]; exact slice_xr e HEI.out W
            clear hw9 H7 HMY HMY0
            go_wp2
            have HDR : Hid (KE w B x ((rdA (bl S)).take (k0 + 1)) (.slice (some ⟨g, 0, none⟩) (k0 + 1) cu) X none w9.drew) := H9.out.below (Below.refl _ _).drew
            refine wp_region_latm (KE w B x ((rdA (bl S)).take (k0 + 1)) (.slice (some ⟨g, 0, none⟩) (k0 + 1) cu) X) 7 6 0 7 _ (by kernel_rfl) (by kernel_rfl) (by kernel_rfl) (by kernel_rfl) (by omega) (by omega) rfl rfl HDR.out ?_
            simp only [List.take_succ_cons, List.take_zero, List.drop_succ_cons, List.drop_zero, skipL, Nat.reduceAdd, Nat.reduceBEq, Bool.false_eq_true, if_false, if_true]
            (refine wpQF_val rfl (.pointer (some ⟨w.heap.size, 0, none⟩)) (fun ov W hW => by go_simp) ?_; simp only [Act.put, List.setIfInBounds_toArray, List.set_cons_zero, List.set_cons_succ])
            (refine wpQF_val rfl (.pointer (some ⟨w.heap.size, 0, none⟩)) (fun ov W hW => by go_simp) ?_; simp only [Act.put, List.setIfInBounds_toArray, List.set_cons_zero, List.set_cons_succ])
            (refine wpQF_val rfl (.pointer (some ⟨w.heap.size, 0, none⟩)) (fun ov W hW => by go_simp) ?_; simp only [Act.put, List.setIfInBounds_toArray, List.set_cons_zero, List.set_cons_succ])
            (refine wpQF_val rfl (.pointer (some ⟨w.heap.size, 32, none⟩)) (fun ov W hW => by go_simp) ?_; simp only [Act.put, List.setIfInBounds_toArray, List.set_cons_zero, List.set_cons_succ])
            (refine wpQF_one rfl 24 (.tmp 117) rfl w.heap.size 32 (.slice (some ⟨g, 0, none⟩) (k0 + 1) cu) rfl (fun _ => by kernel_rfl) (fun ov W hW => HCS0.out W hW.ex) ?_; simp only [Act.put, List.setIfInBounds_toArray, List.set_cons_zero, List.set_cons_succ])
            (refine wpQF_row rfl 56 (.tmp 6) rfl B 0 X X 56 _ rfl (fun ov W hW => hW.ex.eb) (fun j v hv => by rw [Nat.zero_add]; exact hv) Tryz.underlying56 rfl HXI.out ?_; simp only [Act.put, List.setIfInBounds_toArray, List.set_cons_zero, List.set_cons_succ])
            refine wpQF_nil ⟨mkF_bs 24 (.tmp 119) rfl (.agg X) rfl (fun W hW => ⟨_, _, HSE.out W, KE.made hW⟩), ?_⟩
            intro v w8 h8
            obtain ⟨g8, rfl, hbk8, hx8⟩ := h8
            obtain ⟨a7, c7, w7, hrun, hbk7, hR7⟩ := HAP.out w8 g8 hx8 hbk8
            have R7 : Hid (RxS w x ((rdA (bl S)).take (k0 + 1 + 1)) (.slice a7 (k0 + 1 + 1) c7) (w7.setCell ⟨w.heap.size, 32, none⟩ (.slice a7 (k0 + 1 + 1) c7))) := hR7
            have hcc : w7.cell? ⟨w.heap.size, 32, none⟩ = some (.slice (some ⟨g, 0, none⟩) (k0 + 1) cu) := by rw [hbk7.cell]; exact rixC_at x _ HX.out.2
            have hff := hbk7.frozen 32
            clear hbk8 hx8 hR7 hbk7 HAP HSE H9 HDR
            simp only [Act.put, List.setIfInBounds_toArray, List.set_cons_zero, List.set_cons_succ]
            refine wpList_appX rfl (.tmp 118) (.tmp 120) 24 24 rfl (.slice (some ⟨g, 0, none⟩) (k0 + 1) cu) (.slice (some ⟨g8, 0, none⟩) 1 1) (.slice a7 (k0 + 1 + 1) c7) w7 rfl rfl hrun ?_
            simp only [Act.put, List.setIfInBounds_toArray, List.set_cons_zero, List.set_cons_succ]
            clear hrun
            go_wp2
            refine ⟨rfl, ?_⟩
            go_wp2
            go_roundw
            case rel => exact ⟨k0 + 1 + 1, A + 41, _, by go_num, by omega, (by have := HA.out; show A + 41 = _; omega), ⟨R7.out, HOK.out⟩⟩
            case measure => simp [intOf]; omega
    · obtain rfl : k = n := by omega
      have hA : A = S.size := by have := HA.out; have := HS.out.1; omega
      have hz1 : ¬ (A : Int) < (S.size : Int) := by omega
      have hall : (rdA (bl S)).take k = rdA (bl S) := List.take_of_length_le (by rw [rdA, rdL_len, bl_length]; have := HS.out.1; omega)
      have HRX : Hid (RxS w x (rdA (bl S)) u wr) := by have := HR.out.1; rwa [hall] at this
      have HOK : Hid (okR none (rdA (bl S)) = true) := by have := HR.out.2; rwa [hall] at this
      have hL : (rdA (bl S)).length = k := by rw [rdA, rdL_len, bl_length]; have := HS.out.1; omega
      obtain ⟨L, hLe⟩ : ∃ L, rdA (bl S) = L := ⟨_, rfl⟩
      rw [hLe] at HRX HOK HIDS hL
      have HLE : Hid (rdA (bl S) = L) := hLe
      have HKL : Hid (OkL L) := by
        have h0 := (okR_iff _).1 HOK.out
        exact ⟨h0.1, HIDS.out, h0.2, by rw [hL]; exact HS.out.2⟩
      obtain ⟨au, cu, hu, hxu, hku, hau⟩ := own_xel HRX.out.ow rfl HIDS.out
      rw [hL] at hu hku hau
      subst hu
      have hadr : (au = none ∧ cu = 0) ∨ ∃ g o, au = some ⟨g, o, none⟩ := by
        rcases HRX.out.ow.2 with ⟨q, h0⟩ | ⟨g, cap, cur, q, _⟩
        · injection q with q1 _ q3
          exact .inl ⟨q1, q3⟩
        · injection q with q1 _ _
          exact .inr ⟨g, 0, q1⟩
      have HIX : Hid (∀ W, Below wr.heap.size wr W → RIx W w.heap.size x L) := fun W hW => RIx.below ⟨⟨au, k, cu, HRX.out.bx, hxu, hL, hku, hadr⟩, HX.out.2⟩ hW
      obtain ⟨D, hD⟩ : ∃ D, idc x = D := ⟨_, rfl⟩
      have HI32 : Hid ((Tryz.prog.info? 23).map (·.size) = some D.size) := by show _ = _; rw [← hD]; exact info_32 (by rw [idc_size, HX.out.2])
      have HCB : Hid (∀ W, Below wr.heap.size wr W → Bk W w.heap.size (rixC x (.slice au k cu)) 81) := fun W hW => HRX.out.bx.below hW HRX.out.bx.lt
      have HCD : Hid (∀ j v, D[j]? = some v → (rixC x (.slice au k cu))[0 + j]? = some v) := fun j v hv => rixC_id x _ HX.out.2 j v (by rw [hD]; exact hv)
      have HCS : Hid (∀ W, Below wr.heap.size wr W → W.cell? ⟨w.heap.size, 32, none⟩ = some (.slice au k cu)) := fun W hW => by rw [(HCB.out W hW).cell]; exact rixC_at x _ HX.out.2
      have HLA : Hid (∀ W, Below wr.heap.size wr W → Calls Tryz.prog 31 #[.agg D, .slice au k cu] W fun r w' => r = .returned (.string ⟨(ixB x L).toArray⟩) ∧ Below wr.heap.size wr w') := fun W hW => by
        rw [← hD]
        exact (rlaid_any x L au k cu W HX.out.2 (hxu.below hW) hL HS.out.2 (fun e he => by have := (okX_iff e).1 (HKL.out.ok e he); omega)).mono fun r w' q => ⟨q.1, hW.trans (q.2.mono hW.size)⟩
      have HBL : Hid (Below w.heap.size w wr) := HRX.out.bel
      clear HRX HOK hL hLe hxu hau hadr hD HR hall
      have HLR : Hid (∀ W, Below wr.heap.size wr W → Calls Tryz.prog 31 #[.agg D, .slice au k cu] W fun r w' => r = .returned (.string ⟨(ixB x L).toArray⟩) ∧ Below wr.heap.size wr w') := HLA.out
      obtain ⟨Y, hY⟩ : ∃ Y : ByteArray, (⟨(ixB x L).toArray⟩ : ByteArray) = Y := ⟨_, rfl⟩
      have HYB : Hid (bl Y = ixB x L) := by show _ = _; rw [← hY]; rfl
      rw [hY] at HLR
      clear HLA hY
      by_cases hyes : Y = S
      · have HIS : Hid (IsIx S x L) := ⟨HX.out.2, HKL.out, by rw [← HYB.out, hyes]⟩
        subst hyes
        clear HYB
        go_wp2
        refine region_class10 (fun W => Below wr.heap.size wr W) (by kernel_rfl) (by kernel_rfl) ((Below.refl _ _).drew) ?_
        try simp only [Act.put, List.setIfInBounds_toArray, List.set_cons_zero, List.set_cons_succ]
        repeat (first
          | go_big_quiet_skip
          | (go_big_quiet_want
             first
               | (refine quiet_row 23 _ rfl w.heap.size 0 (rixC x (.slice au k cu)) D 81 _ rfl HCB.out HCD.out Tryz.underlying23 rfl HI32.out ?_; go_big_quiet_on; simp only [Act.put, List.setIfInBounds_toArray, List.set_cons_zero, List.set_cons_succ])
               | (refine quiet_one 24 _ rfl w.heap.size 32 (.slice au k cu) rfl (fun _ => by kernel_rfl) (fun W hW => HCS.out W hW) ?_; go_big_quiet_on; simp only [Act.put, List.setIfInBounds_toArray, List.set_cons_zero, List.set_cons_succ])
               | (refine quiet_call10 (.string Y) 31 #[.agg D, .slice au k cu] ?_ ?_ ?_; (focus (intro W hW; go_simp; done)); (focus (intro W hW; exact HLR.out W hW)); go_big_quiet_on; simp only [Act.put, List.setIfInBounds_toArray, List.set_cons_zero, List.set_cons_succ])
               | (refine quiet_val10 (.pointer (some ⟨w.heap.size, 0, none⟩)) ?_ ?_; (focus (intro W hW; go_simp; done)); go_big_quiet_on; simp only [Act.put, List.setIfInBounds_toArray, List.set_cons_zero, List.set_cons_succ])
               | (refine quiet_val10 (.pointer (some ⟨w.heap.size, 32, none⟩)) ?_ ?_; (focus (intro W hW; go_simp; done)); go_big_quiet_on; simp only [Act.put, List.setIfInBounds_toArray, List.set_cons_zero, List.set_cons_succ])
               | (refine quiet_val10 (.bool false) ?_ ?_; (focus (intro W hW; go_simp; done)); go_big_quiet_on; simp only [Act.put, List.setIfInBounds_toArray, List.set_cons_zero, List.set_cons_succ])
               | (go_big_quiet_op; go_big_quiet_on)))
        refine wpQuiet_nil ?_
        intro w9 hw9
        have H9 : Hid (Below wr.heap.size wr w9) := hw9
        clear hw9
        go_wp2
        go_ret2
        exact ⟨.inr ⟨w.heap.size, x, L, rfl, HIS.out, HIX.out _ H9.out⟩, HBL.out.trans (H9.out.mono HBL.out.size)⟩
      · have HN : Hid (∀ s l, ¬ IsIx S s l) := fun s l h => hyes (by
          obtain ⟨q1, q2⟩ := h.take
          rw [HX.out.1] at q1
          rw [HLE.out] at q2
          subst q1
          subst q2
          exact bl_inj (by rw [HYB.out, h.2.2]))
        have hne : (Y.toList == S.toList) = false := by
          rw [beq_eq_false_iff_ne, Lib.toList_data, Lib.toList_data]
          intro e
          exact hyes (bl_inj e)
        clear HYB
        go_wp2
        refine region_class10 (fun W => Below wr.heap.size wr W) (by kernel_rfl) (by kernel_rfl) ((Below.refl _ _).drew) ?_
        try simp only [Act.put, List.setIfInBounds_toArray, List.set_cons_zero, List.set_cons_succ]
        repeat (first
          | go_big_quiet_skip
          | (go_big_quiet_want
             first
               | (refine quiet_row 23 _ rfl w.heap.size 0 (rixC x (.slice au k cu)) D 81 _ rfl HCB.out HCD.out Tryz.underlying23 rfl HI32.out ?_; go_big_quiet_on; simp only [Act.put, List.setIfInBounds_toArray, List.set_cons_zero, List.set_cons_succ])
               | (refine quiet_one 24 _ rfl w.heap.size 32 (.slice au k cu) rfl (fun _ => by kernel_rfl) (fun W hW => HCS.out W hW) ?_; go_big_quiet_on; simp only [Act.put, List.setIfInBounds_toArray, List.set_cons_zero, List.set_cons_succ])
               | (refine quiet_call10 (.string Y) 31 #[.agg D, .slice au k cu] ?_ ?_ ?_; (focus (intro W hW; go_simp; done)); (focus (intro W hW; exact HLR.out W hW)); go_big_quiet_on; simp only [Act.put, List.setIfInBounds_toArray, List.set_cons_zero, List.set_cons_succ])
               | (refine quiet_val10 (.pointer (some ⟨w.heap.size, 0, none⟩)) ?_ ?_; (focus (intro W hW; go_simp; done)); go_big_quiet_on; simp only [Act.put, List.setIfInBounds_toArray, List.set_cons_zero, List.set_cons_succ])
               | (refine quiet_val10 (.pointer (some ⟨w.heap.size, 32, none⟩)) ?_ ?_; (focus (intro W hW; go_simp; done)); go_big_quiet_on; simp only [Act.put, List.setIfInBounds_toArray, List.set_cons_zero, List.set_cons_succ])
               | (refine quiet_val10 (.bool true) ?_ ?_; (focus (intro W hW; go_simp; done)); go_big_quiet_on; simp only [Act.put, List.setIfInBounds_toArray, List.set_cons_zero, List.set_cons_succ])
               | (go_big_quiet_op; go_big_quiet_on)))
        refine wpQuiet_nil ?_
        intro w9 hw9
        have H9 : Hid (Below wr.heap.size wr w9) := hw9
        clear hw9
        go_wp2
        go_ret2
        exact ⟨.inl ⟨rfl, HN.out⟩, HBL.out.trans (H9.out.mono HBL.out.size)⟩
/-- Of any bytes. -/
theorem ropen_any (S : ByteArray) (w : World) (hS : S.size ≤ 140737488355328) : Calls Tryz.prog 13 #[.string S] w fun e w' => OpR S e w' ∧ Below w.heap.size w w' := by
  by_cases h : S.size < 1064 ∨ S.extract 0 4 ≠ xM ∨ (S.size - 1064) % 41 ≠ 0 ∨ 65536 < (S.size - 1064) / 41
  · exact ropen_no S w hS h
  · have h1 : ¬ S.size < 1064 := fun q => h (.inl q)
    have h2 : S.extract 0 4 = xM := Classical.byContradiction fun q => h (.inr (.inl q))
    have h3 : (S.size - 1064) % 41 = 0 := Classical.byContradiction fun q => h (.inr (.inr (.inl q)))
    have h4 : ¬ 65536 < (S.size - 1064) / 41 := fun q => h (.inr (.inr (.inr q)))
    exact ropen_yes S w ((S.size - 1064) / 41) (by omega) h2 (by omega)
end Go.Proofs.YtpfknjnigcefgaaGreatDoor
