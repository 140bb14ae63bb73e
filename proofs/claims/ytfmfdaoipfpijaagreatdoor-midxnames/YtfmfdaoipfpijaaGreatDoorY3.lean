import Derived.Test.YtfmfdaoipfpijaaGreatDoorY2
import Derived.Test.YtfmfdaoipfpijaaGreatDoorY1
import Derived.Laws.ResultCell
/- The walk of wire.PutFixed. -/
namespace Go.Proofs.YtfmfdaoipfpijaaGreatDoor
open Go.RowKit
set_option linter.unusedSimpArgs false
set_option linter.unusedVariables false
theorem ret_se {a b : ByteArray} {k : IntKind} {c : Int} (h : a = b) : Ending.returned (.tuple #[.string a, .int k c]) = .returned (.tuple #[.string b, .int k c]) := by rw [h]
theorem slice8 (a : Addr) (h : Int) (h0 : 0 ≤ h) (h2 : h ≤ 8) (w : World) :
    (Instr.sliceAt 137 (.pointer (some a)) none (some (.int .i64 h)) none).run Tryz.prog w = .ok (.slice (some a) h.toNat 8) w := by
  have e1 : Tryz.prog.elem 137 = 5 := by kernel_rfl
  have e2 : Tryz.prog.arrayLen 137 = 8 := by kernel_rfl
  have e0 : Tryz.prog.underlying 137 = some (.array (Tryz.prog.arrayLen 137) (Tryz.prog.elem 137)) := by kernel_rfl
  rw [run_sliceAt_array_h (P := Tryz.prog) w 137 a e0 .i64 h h0 (by rw [e2]; exact h2)]
  rw [e1, e2, sizeOf_u8]
  simp [slicedAt, Result.andThen, Addr.add]
theorem fix_next (n k d : Nat) (arr : Array Value) (b : Int) (hk : k < d) (hd : d ≤ 8) (hsz : arr.size = 8) (hall : ∀ j, j < 8 → ∃ z, arr[j]? = some (.int .u8 z))
    (harr : ∀ j, j < k → arr[d - 1 - j]? = some (.int .u8 (n / 256 ^ j % 256 : Nat))) (hb : b = (n / 256 ^ k % 256 : Nat)) :
    (arr.setIfInBounds (d - 1 - k) (.int .u8 b)).size = 8 ∧ (∀ j, j < 8 → ∃ z, (arr.setIfInBounds (d - 1 - k) (.int .u8 b))[j]? = some (.int .u8 z)) ∧
      ∀ j, j < k + 1 → (arr.setIfInBounds (d - 1 - k) (.int .u8 b))[d - 1 - j]? = some (.int .u8 (n / 256 ^ j % 256 : Nat)) := by
  refine ⟨by simp [hsz], fun j hj => ?_, fun j hj => ?_⟩
  · rw [Array.getElem?_setIfInBounds]
    split
    · exact ⟨b, by simp [hsz]; omega⟩
    · exact hall j hj
  · rw [Array.getElem?_setIfInBounds]
    split
    · rename_i e; have e : k = j := by omega
      subst e; rw [if_pos (by omega), hb]
    · exact harr j (by omega)
theorem fix_conv (n d : Nat) (arr : Array Value) (w : World) (T : TypeId) (hd : d ≤ 8) (hsz : arr.size = 8)
    (harr : ∀ j, j < d → arr[d - 1 - j]? = some (.int .u8 (n / 256 ^ j % 256 : Nat))) :
    (convert 65 9 (.slice (some ⟨w.heap.size, 0, none⟩) d 8)).run Tryz.prog (w.alloc (.cells arr T)) = .ok (.string (sb (fixN d n))) (w.alloc (.cells arr T)) := by
  rw [← sb_nums]
  refine run_convert_bytes_arg _ 65 5 Tryz.underlying65 Tryz.underlying5 _ 0 d 8 _ (by simp [fixN_length]) (fun i hi => ?_) 9 Tryz.underlying9
  rw [Nat.zero_add, World.cell?_alloc_new, List.getD, List.getElem?_map]
  have e1 := harr (d - 1 - i) (by omega)
  have e2 := fixN_get d n (d - 1 - i) (by omega)
  rw [show d - 1 - (d - 1 - i) = i from by omega] at e1 e2
  rw [e1, e2]
  rfl
set_option maxHeartbeats 400000 in
theorem putFixed_ok (s : ByteArray) (x : Int) (d : Nat) (w : World) (h0 : 0 ≤ x) (h1 : x ≤ 18446744073709551615) (hd1 : 1 ≤ d) (hd2 : d ≤ 8) (hfit : x.toNat < 256 ^ d) (hs : s.size ≤ 4611686018427387904) :
    Calls Tryz.prog 37 #[.string s, .int .u64 x, .int .i64 d] w fun e w' => e = .returned (.tuple #[.string (s ++ sb (fixN d x.toNat)), .int .i64 0]) ∧ Below w.heap.size w w' := by
  have hbl : (Lib.bitLen x.toNat : Int) ≤ 8 * (d : Int) := by have := (bitLen_fits x.toNat d (by omega)).2 hfit; omega
  have hiw : isW (d : Int) = true := isW_yes (by omega) (by omega)
  obtain ⟨n, hn⟩ : ∃ n, n = x.toNat := ⟨_, rfl⟩
  have HN : Hid (n = x.toNat) := hn
  clear hn hfit
  go_enter Tryz.func37, Tryz.ntmps37
  go_wp2_with (first | (go_at_call 76; refine (isWidth_any _ _).mono ?_; rintro e w' ⟨rfl, rfl⟩; rw [hiw]) | (go_at_call 77; refine (len64_any x _ h0 h1).mono ?_; rintro e w' ⟨rfl, rfl⟩))
  go_loopw [1, 21] (fun v i wr => ∃ (k y : Nat) (arr : Array Value), k ≤ d ∧ i = .int .i64 k ∧ v = .int .u64 y ∧ y < 2 ^ 64 ∧ wr = w'.alloc (.cells arr 137) ∧ Hid (y = n / 256 ^ k ∧ arr.size = 8 ∧ (∀ j, j < 8 → ∃ z, arr[j]? = some (.int .u8 z)) ∧ ∀ j, j < k → arr[d - 1 - j]? = some (.int .u8 (n / 256 ^ j % 256 : Nat)))) (fun _ i _ => 10 - (intOf i).toNat)
  case atStart =>
    refine ⟨0, x.toNat, _, Nat.zero_le _, rfl, by go_num, by omega, rfl, ⟨by simp [HN.out], by simp, fun j hj => ?_, fun j hj => by omega⟩⟩
    refine ⟨0, ?_⟩
    rw [show (#[Value.int .u8 0, Value.int .u8 0, Value.int .u8 0, Value.int .u8 0, Value.int .u8 0, Value.int .u8 0, Value.int .u8 0, Value.int .u8 0] : Array Value) = Array.replicate 8 (Value.int .u8 0) from rfl]
    simp [hj]
  case round =>
    obtain ⟨k, y, arr, hk, rfl, rfl, hy, rfl, HR⟩ := hrel
    by_cases hlt : k < d
    · obtain ⟨z, hz⟩ := HR.out.2.2.1 (d - 1 - k) (by omega)
      have hz' : arr[((d : Int) - 1 - k).toNat]? = some (.int .u8 z) := by rw [show ((d : Int) - 1 - k).toNat = d - 1 - k from by omega]; exact hz
      go_wp2
      go_roundw
      case rel => 
        obtain ⟨hy, a1, a2, a3⟩ := HR.out
        refine ⟨k + 1, y / 256, _, by omega, by go_num, by go_num, by omega, rfl, ⟨?_, ?_⟩⟩
        · rw [hy, Nat.div_div_eq_div_mul, Nat.pow_succ]
        · exact fix_next n k d arr _ (by omega) (by omega) a1 a2 a3 (by rw [← hy]; omega)
      case measure => simp [intOf]; omega
    · obtain ⟨z, hz⟩ := HR.out.2.2.1 (d - 1) (by omega)
      have hke : k = d := by omega
      subst hke
      have hc := fix_conv n k arr w' 137 (by omega) HR.out.2.1 HR.out.2.2.2
      have hsl := slice8 ⟨w'.heap.size, 0, none⟩ (k : Int) (by omega) (by omega)
      have hsb : (sb (fixN k n)).size ≤ 10 := by rw [sb_size, fixN_length]; omega
      go_wp2
      go_ret2
      exact ⟨ret_se (by rw [HN.out]), by go_grown⟩
set_option maxHeartbeats 400000 in
theorem putFixed_no (s : ByteArray) (x d : Int) (w : World) (h0 : 0 ≤ x) (h1 : x ≤ 18446744073709551615) (hno : isW d = true → 256 ^ d.toNat ≤ x.toNat) :
    Calls Tryz.prog 37 #[.string s, .int .u64 x, .int .i64 d] w fun e w' => e = .returned (.tuple #[.string ⟨#[]⟩, .int .i64 1]) ∧ w' = w := by
  have H : Hid (isW d = true → 256 ^ d.toNat ≤ x.toNat) := hno
  clear hno
  cases hiw : isW d
  · clear H
    go_enter Tryz.func37, Tryz.ntmps37
    go_wp2_with (go_at_call 76; refine (isWidth_any _ _).mono ?_; rintro e w' ⟨rfl, rfl⟩; rw [hiw])
    go_ret2
    exact ⟨rfl, rfl⟩
  · have hd := isW_iff.1 hiw
    have hb : 8 * d < (Lib.bitLen x.toNat : Int) := by
      have := bitLen_fits x.toNat d.toNat (by omega)
      have := H.out hiw
      omega
    clear H
    go_enter Tryz.func37, Tryz.ntmps37
    go_wp2_with (first | (go_at_call 76; refine (isWidth_any _ _).mono ?_; rintro e w' ⟨rfl, rfl⟩; rw [hiw]) | (go_at_call 77; refine (len64_any x _ h0 h1).mono ?_; rintro e w' ⟨rfl, rfl⟩))
    go_ret2
    exact ⟨rfl, rfl⟩
end Go.Proofs.YtfmfdaoipfpijaaGreatDoor
/- digest.begin, digest.State.end. -/
namespace Go.Proofs.YtfmfdaoipfpijaaGreatDoor
open Go.RowKit
set_option linter.unusedSimpArgs false
set_option linter.unusedVariables false
/-- The listed first numbers. -/
def HIs (w : World) : Prop := ∀ t, t < 8 → w.cell? ⟨0, t, none⟩ = some (c32 (H0.list.getD t 0))
theorem HIs.grown {w w' : World} {r : Option Nat} (h : HIs w) (hg : w.grownBy w' r) (hr : r ≠ some 0) : HIs w' := fun t ht => hg.cell (h t ht) (fun e => hr e.symm)
/-- 64 noughts. -/
def z64 : List Nat := List.replicate 64 0
def V0 : V8 := ⟨0, 0, 0, 0, 0, 0, 0, 0⟩
/-- A state of noughts. -/
def zst : Array Value := stc V0 z64 0
theorem zero_state : (Tryz.prog.info? 120).map (fun i => (i.zero, i.size)) = some (some (.agg zst), 73) := by kernel_rfl
theorem zst_size : zst.size = 73 := stc_size _ _ _ rfl
theorem info_st (h : V8) (m : List Nat) (n : Nat) (hm : m.length = 64) : (Tryz.prog.info? 120).map (·.size) = some (stc h m n).size := by
  rw [(zero_of_info zero_state).2, stc_size _ _ _ hm]
theorem stc_one (h : V8) (m : List Nat) (n : Nat) : (stc h m n).all (·.oneCell') = true := by
  rw [Array.all_eq_true_iff_forall_mem]
  intro x hx
  simp only [stc, Array.mem_push, Array.mem_append, List.mem_toArray, v8c, bvc, List.mem_map] at hx
  rcases hx with (hx | ⟨y, _, rfl⟩) | rfl
  · simp at hx
    rcases hx with rfl | rfl | rfl | rfl | rfl | rfl | rfl | rfl <;> rfl
  · rfl
  · rfl
theorem bld0 : Array.foldl (fun (cs : Array Value) (x : Value × Nat) => cs.setIfInBounds x.snd x.fst) zst (v8c H0).zipIdx 0 (v8c H0).size = stc H0 z64 0 := by kernel_rfl
set_option maxHeartbeats 400000 in
set_option maxRecDepth 100000 in
theorem begin_any (w : World) (hH : HIs w) :
    Calls Tryz.prog 58 #[] w fun e w' => e = .returned (.agg (stc H0 z64 0)) ∧ Below w.heap.size w w' := by
  have HH : Hid (HIs w) := hH
  clear hH
  have hz := (zero_of_info zero_state).1
  go_enter Tryz.func58, Tryz.ntmps58
  have hb0 := bld0
  have hs0 := zst_size
  have hs1 := v8c_size H0
  have hs2 := stc_size H0 z64 0 rfl
  go_wp2_with (first
    | (refine wpList_load_v8 rfl (.global 0) rfl 0 0 rfl H0 (fun j hj => by rw [Nat.zero_add]; exact (HH.out.grown (World.grownBy_alloc w _ none) (by simp)) j hj) ?_)
    | (refine wpList_store_new rfl 120 (.tmp 0) (.tmp 2) rfl (stc H0 z64 0) zst 120 w.heap.size rfl rfl rfl (info_st _ _ _ rfl) (by rw [hs0, hs2]) (stc_one _ _ _) ?_))
  refine bodyPost_ret (results_cell_row rfl _ _ w.heap.size 120 (stc H0 z64 0) (0, 0) _ rfl (blk_new _ _) Tryz.underlying120 rfl (info_st _ _ _ rfl)) rfl ⟨rfl, ?_⟩
  exact (Below.refl _ _).alloc (Nat.le_refl _) _
end Go.Proofs.YtfmfdaoipfpijaaGreatDoor
/- digest.State.end: the sum of what was written. -/
namespace Go.Proofs.YtfmfdaoipfpijaaGreatDoor
open Go.RowKit
set_option linter.unusedSimpArgs false
set_option linter.unusedVariables false
theorem Stt.grown {w w' : World} {b : Nat} {T : TypeId} {msg m : List Nat} {r : Option Nat} (h : Stt w b T msg m) (hg : w.grownBy w' r) (hr : r ≠ some b) : Stt w' b T msg m := ⟨h.blk.grown hg hr, h.sta⟩
/-- What lies in memory while the noughts are written: k of them are. -/
structure En (w : World) (msg : List Nat) (k : Nat) (wr : World) : Prop where
  st : ∃ m, Stt wr w.heap.size 120 (msg ++ [128] ++ List.replicate k 0) m
  k : KIs wr
  res : Blk wr (w.heap.size + 1) z32c 24
  grown : w.grownBy wr none
theorem byl_80 : byl ⟨#[128]⟩ = [128] := by decide
theorem byl_00 : byl ⟨#[0]⟩ = [0] := by decide
theorem Stt.wrote {w : World} {b : Nat} {T : TypeId} {msg m : List Nat} (h : Stt w b T msg m) : w.cell? ⟨b, 72, none⟩ = some (.int .u64 (msg.length : Int)) := by
  rw [h.blk.cell, stc_wrote _ _ _ h.sta.len]
/-- The world behind the two new variables. -/
abbrev endW (w : World) (C : Array Value) : World := (w.alloc (.cells C 120)).alloc (.cells z32c 24)
theorem endW_grown (w : World) (C : Array Value) : w.grownBy (endW w C) none := (World.grownBy_alloc w _ none).trans (World.grownBy_alloc _ _ none)
theorem endW_st (w : World) (C : Array Value) : Blk (endW w C) w.heap.size C 120 := Blk.grown (blk_new w _) (World.grownBy_alloc _ _ none) (by simp)
theorem endW_res (w : World) (C : Array Value) : Blk (endW w C) (w.heap.size + 1) z32c 24 := by
  have e := blk_new (w.alloc (.cells C 120)) (.cells z32c 24)
  rwa [alloc_size] at e
theorem first_stt {w w1 : World} {msg m : List Nat} {n : Nat} {h : V8} (hN : n = msg.length ∧ h = hs msg (msg.length / 64)) (hS : Sta msg (hs msg (msg.length / 64)) m) (hb1 : Below (endW w (stc h m n)).heap.size (endW w (stc h m n)) w1) :
    Stt w1 w.heap.size 120 msg m := by
  obtain ⟨rfl, rfl⟩ := hN
  exact ⟨(endW_st w _).grown (grown_of_below hb1 none) (by simp), hS⟩
theorem first_k {w w1 : World} {C : Array Value} (hK : KIs w) (hb1 : Below (endW w C).heap.size (endW w C) w1) : KIs w1 := (hK.grown (endW_grown w C) (by simp)).grown (grown_of_below hb1 none) (by simp)
theorem En.start {w w1 w2 : World} {msg : List Nat} {C : Array Value} (hb1 : Below (endW w C).heap.size (endW w C) w1)
    (hK : KIs w) (hS : ∃ m', Stt w2 w.heap.size 120 (msg ++ byl ⟨#[128]⟩) m') (hg : w1.grownBy w2 (some w.heap.size)) : En w msg 0 w2 := by
  have g2 := grown_of_below hb1 none
  have g3 := (endW_grown w C).trans g2
  obtain ⟨m', hS⟩ := hS
  rw [byl_80] at hS
  have hkz := hK.lt
  refine ⟨⟨m', by rw [List.replicate_zero, List.append_nil]; exact hS⟩, (first_k hK hb1).grown hg (by simp; omega), ?_, g3.andThen hg (fun j hj => by left; simp at hj; omega)⟩
  exact ((endW_res w C).grown g2 (by simp)).grown hg (by simp)
theorem En.next {w wr w2 : World} {msg : List Nat} {k : Nat} (H : En w msg k wr) (hkz : 3 < w.heap.size) {M : List Nat} (hM : M = msg ++ [128] ++ List.replicate k 0)
    (hS : ∃ m', Stt w2 w.heap.size 120 (M ++ byl ⟨#[0]⟩) m') (hg : wr.grownBy w2 (some w.heap.size)) : En w msg (k + 1) w2 := by
  obtain ⟨m', hS⟩ := hS
  rw [byl_00, hM, List.append_assoc, ← List.replicate_succ'] at hS
  exact ⟨⟨m', hS⟩, H.k.grown hg (by simp; omega), H.res.grown hg (by simp), H.grown.andThen hg (fun j hj => by left; simp at hj; omega)⟩
theorem lenstr (x : Nat) : ((⟨#[]⟩ : ByteArray) ++ sb (fixN 8 x)).size = 8 := by
  rw [ByteArray.size_append, sb_size, fixN_length]; rfl
theorem fixN_lt : ∀ k n, ∀ x ∈ fixN k n, x < 256
  | 0, _, x, h => by simp [fixN] at h
  | k + 1, n, x, h => by
    simp only [fixN, List.mem_append, List.mem_singleton] at h
    rcases h with h | rfl
    · exact fixN_lt k _ x h
    · exact Nat.mod_lt _ (by omega)
theorem byl_len (x : Nat) : byl ((⟨#[]⟩ : ByteArray) ++ sb (fixN 8 x)) = fixN 8 x := by
  rw [show ((⟨#[]⟩ : ByteArray) ++ sb (fixN 8 x)) = sb (fixN 8 x) from ByteArray.empty_append]
  exact byl_sb _ (fixN_lt 8 x)
theorem num_end {w3 : World} {b n k : Nat} {T : TypeId} {msg : List Nat} (hk : k = pads n) (hn : n = msg.length) (hS : ∃ m', Stt w3 b T (msg ++ [128] ++ List.replicate k 0 ++ byl ((⟨#[]⟩ : ByteArray) ++ sb (fixN 8 (8 * n)))) m') (o : Obj) :
    ∀ j, j < 8 → (w3.alloc o).cell? ⟨b, 0 + j, none⟩ = some (c32 ((shaV msg).list.getD j 0)) := fun j hj => by
  obtain ⟨m', hS⟩ := hS
  subst hk
  subst hn
  have e : msg ++ [128] ++ List.replicate (pads msg.length) 0 ++ byl ((⟨#[]⟩ : ByteArray) ++ sb (fixN 8 (8 * msg.length))) = padded msg := by rw [byl_len, padded]
  rw [e] at hS
  have h1 := hS.blk.grown (World.grownBy_alloc w3 o none) (by simp)
  rw [h1.cell, Nat.zero_add, stc_num _ _ _ _ hj, shaV]
theorem z32c_get (j : Nat) (hj : j < 32) : z32c[j]? = some (.int .u8 0) := by
  rw [z32c, bvc, List.map_replicate, List.getElem?_toArray, List.getElem?_replicate, if_pos hj]; rfl
theorem outB_get (v : V8) (k i : Nat) (hk : k < 8) (hi : i < 4) : (outB v).getD (4 * k + i) 0 = (by4 (v.list.getD k 0)).getD i 0 := by
  have h1 : k = 0 ∨ k = 1 ∨ k = 2 ∨ k = 3 ∨ k = 4 ∨ k = 5 ∨ k = 6 ∨ k = 7 := by omega
  have h2 : i = 0 ∨ i = 1 ∨ i = 2 ∨ i = 3 := by omega
  rcases h1 with rfl | rfl | rfl | rfl | rfl | rfl | rfl | rfl <;> rcases h2 with rfl | rfl | rfl | rfl <;> rfl
/-- What lies in memory while the sum's bytes are laid: those of k numbers are. -/
structure Ou (w : World) (v : V8) (k : Nat) (C : Array Value) (wr : World) : Prop where
  blk : Blk wr w.heap.size C 24
  csz : C.size = 32
  got : ∀ j, j < 4 * k → C[j]? = some (.int .u8 ((outB v).getD j 0 : Nat))
  all : ∀ j, j < 32 → ∃ z : Int, C[j]? = some (.int .u8 z)
  grown : w.grownBy wr none
theorem Ou.start (w : World) (v : V8) : Ou w v 0 z32c (w.alloc (.cells z32c 24)) :=
  ⟨blk_new _ _, z32c_size, fun j hj => by omega, fun j hj => ⟨0, z32c_get j hj⟩, World.grownBy_alloc _ _ none⟩
theorem Ou.there {w : World} {v : V8} {k : Nat} {C : Array Value} {wr : World} (H : Ou w v k C wr) (j : Nat) (hj : j < 32) : ∃ z : Int, wr.cell? ⟨w.heap.size, j, none⟩ = some (.int .u8 z) := by
  obtain ⟨z, hz⟩ := H.all j hj
  exact ⟨z, by rw [H.blk.cell, hz]⟩
theorem Ou.put {w : World} {v : V8} {k : Nat} {C : Array Value} {wr : World} (H : Ou w v k C wr) (hk : k < 8) (x : BitVec 32) (hx : x = v.list.getD k 0) :
    Ou w v (k + 1) ((((C.setIfInBounds (4 * k) (.int .u8 ((x.toNat : Int) / 16777216))).setIfInBounds (4 * k + 1) (.int .u8 ((x.toNat : Int) / 65536 % 256))).setIfInBounds (4 * k + 2) (.int .u8 ((x.toNat : Int) / 256 % 256))).setIfInBounds (4 * k + 3) (.int .u8 ((x.toNat : Int) % 256)))
      ((((wr.setCell ⟨w.heap.size, 4 * k, none⟩ (.int .u8 ((x.toNat : Int) / 16777216))).setCell ⟨w.heap.size, 4 * k + 1, none⟩ (.int .u8 ((x.toNat : Int) / 65536 % 256))).setCell ⟨w.heap.size, 4 * k + 2, none⟩ (.int .u8 ((x.toNat : Int) / 256 % 256))).setCell ⟨w.heap.size, 4 * k + 3, none⟩ (.int .u8 ((x.toNat : Int) % 256))) where
  blk := (((H.blk.set _ _).set _ _).set _ _).set _ _
  csz := by simp only [Array.size_setIfInBounds]; exact H.csz
  got := fun j hj => by
    simp only [Array.getElem?_setIfInBounds, Array.size_setIfInBounds, H.csz]
    by_cases e : j < 4 * k
    · rw [if_neg (by omega), if_neg (by omega), if_neg (by omega), if_neg (by omega), H.got j e]
    · obtain ⟨i, rfl⟩ : ∃ i, j = 4 * k + i := ⟨j - 4 * k, by omega⟩
      rw [outB_get v k i hk (by omega), ← hx]
      have h2 : i = 0 ∨ i = 1 ∨ i = 2 ∨ i = 3 := by omega
      rcases h2 with rfl | rfl | rfl | rfl
      · rw [if_neg (by omega), if_neg (by omega), if_neg (by omega), if_pos (by omega), if_pos (by omega)]; rfl
      · rw [if_neg (by omega), if_neg (by omega), if_pos (by omega), if_pos (by omega)]; rfl
      · rw [if_neg (by omega), if_pos (by omega), if_pos (by omega)]; rfl
      · rw [if_pos (by omega), if_pos (by omega)]; rfl
  all := fun j hj => by
    simp only [Array.getElem?_setIfInBounds, Array.size_setIfInBounds, H.csz]
    split
    · exact ⟨_, by rw [if_pos (by omega)]⟩
    · split
      · exact ⟨_, by rw [if_pos (by omega)]⟩
      · split
        · exact ⟨_, by rw [if_pos (by omega)]⟩
        · split
          · exact ⟨_, by rw [if_pos (by omega)]⟩
          · exact H.all j hj
  grown := by
    have hs : ∀ {W : World} (i : Nat) (u : Value), w.grownBy W none → w.grownBy (W.setCell ⟨w.heap.size, i, none⟩ u) none := fun i u h => h.andThen (Lib.grownBy_setCell _ _ _ _) (fun j hj => by left; simp at hj; omega)
    exact hs _ _ (hs _ _ (hs _ _ (hs _ _ H.grown)))
theorem Ou.whole {w : World} {v : V8} {C : Array Value} {wr : World} (H : Ou w v 8 C wr) : C = (bvc (outB v)).toArray := by
  apply Array.ext_getElem?
  intro i
  by_cases hi : i < 32
  · rw [H.got i (by omega)]
    simp only [List.getElem?_toArray, bvc, List.getElem?_map, List.getD]
    rw [List.getElem?_eq_getElem (by rw [outB_length]; exact hi)]
    rfl
  · rw [Array.getElem?_eq_none (by rw [H.csz]; omega), Array.getElem?_eq_none (by simp [bvc, outB_length]; omega)]
theorem Ou.one {w : World} {v : V8} {k : Nat} {C : Array Value} {wr : World} (H : Ou w v k C wr) : C.all (·.oneCell') = true := by
  rw [Array.all_eq_true]
  intro i hi
  obtain ⟨x, hx⟩ := H.all i (by have := H.csz; omega)
  rw [Array.getElem?_eq_getElem hi] at hx
  rw [Option.some.inj hx]; rfl
set_option maxHeartbeats 400000 in
set_option maxRecDepth 100000 in
theorem dend_any (msg m : List Nat) (w : World) (hS : Sta msg (hs msg (msg.length / 64)) m) (hK : KIs w) (hlen : msg.length < 288230376151711744) :
    Calls Tryz.prog 60 #[.agg (stc (hs msg (msg.length / 64)) m msg.length)] w fun e w' =>
      e = .returned (.agg (bvc (sha msg)).toArray) ∧ Below w.heap.size w w' := by
  obtain ⟨n, hn⟩ : ∃ n, n = msg.length := ⟨_, rfl⟩
  obtain ⟨h, hh⟩ : ∃ h, h = hs msg (msg.length / 64) := ⟨_, rfl⟩
  have h1 := stc_wrote h m n hS.len
  have HS : Hid (Sta msg (hs msg (msg.length / 64)) m) := hS
  have HK : Hid (KIs w) := hK
  have HN : Hid (n = msg.length ∧ h = hs msg (msg.length / 64)) := ⟨hn, hh⟩
  rw [← hh, ← hn]
  rw [← hn] at hlen
  clear hS hK hn hh
  go_enter Tryz.func60, Tryz.ntmps60
  have hkz := HK.out.lt
  go_wp2_with (first
    | (go_at_call 37; refine (putFixed_ok ⟨#[]⟩ _ 8 _ (by omega) (by omega) (by omega) (by omega) (by omega) (by decide)).mono ?_; rintro e w1 ⟨rfl, hb1⟩; have HB1 : Hid (Below (endW w (stc h m n)).heap.size (endW w (stc h m n)) w1) := hb1; clear hb1)
    | (go_at_call 59; refine (take_any msg m ⟨#[128]⟩ w.heap.size 120 _ (first_stt HN.out HS.out HB1.out) (first_k HK.out HB1.out) (by omega) (by rw [← HN.out.1]; show n + 1 < _; omega)).mono ?_; rintro e w2 ⟨rfl, hs2, hg2⟩))
  have HE : Hid (En w msg 0 w2) := En.start HB1.out HK.out hs2 hg2
  clear hs2 hg2 HB1
  have hp := pads_le n
  have hpa := pads_at n
  obtain ⟨pn, hpn⟩ : ∃ pn, pn = pads n := ⟨_, rfl⟩
  rw [← hpn] at hp hpa
  have HPN : Hid (pn = pads n) := hpn
  clear hpn
  go_loopw [] (fun wr => ∃ k : Nat, k ≤ pn ∧ Hid (En w msg k wr) ∧ wr.cell? ⟨w.heap.size, 72, none⟩ = some (.int .u64 ((n + 1 + k : Nat) : Int))) (fun wr => match wr.cell? ⟨w.heap.size, 72, none⟩ with | some (.int _ x) => (n + 100 - x.toNat) | _ => 0)
  case atStart =>
    refine ⟨0, by omega, HE, ?_⟩
    obtain ⟨m', hm'⟩ := HE.out.st
    rw [hm'.wrote]
    simp [HN.out.1]
  case round =>
    clear HE
    obtain ⟨k, hk, HR, hc⟩ := hrel
    obtain ⟨q, hq⟩ : ∃ q, q = n + 1 + k := ⟨_, rfl⟩
    rw [← hq] at hc
    by_cases hlt : k < pn
    · have hne : ¬ (q : Int) % 64 = 56 := by have := pads_first n k (by rw [← HPN.out]; exact hlt); rw [← hq] at this; omega
      obtain ⟨m', hm'⟩ := HR.out.st
      have HM : Hid (Stt wr w.heap.size 120 (msg ++ [128] ++ List.replicate k 0) m') := hm'
      clear hm'
      go_wp2_with (go_at_call 59; refine (take_any _ m' ⟨#[0]⟩ w.heap.size 120 _ HM.out HR.out.k (by omega) (by simp only [List.length_append, List.length_replicate, ← HN.out.1]; show n + 1 + k + 1 < _; omega)).mono ?_; rintro e w3 ⟨rfl, hs3, hg3⟩)
      have HE2 : Hid (En w msg (k + 1) w3) := HR.out.next hkz rfl hs3 hg3
      have hc3 : w3.cell? ⟨w.heap.size, 72, none⟩ = some (.int .u64 ((n + 1 + (k + 1) : Nat) : Int)) := by
        obtain ⟨m3, hm3⟩ := HE2.out.st
        rw [hm3.wrote]
        simp only [List.length_append, List.length_replicate, ← HN.out.1]
        congr 3
      go_roundw
      case rel => exact ⟨k + 1, by omega, HE2, hc3⟩
      case measure =>
        show (match w3.cell? _ with | some (.int _ x) => (n + 100 - x.toNat) | _ => 0) < (match wr.cell? _ with | some (.int _ x) => (n + 100 - x.toNat) | _ => 0)
        rw [hc3, hc]
        simp only
        omega
    · have hke : k = pn := by omega
      subst hke
      have heq : (q : Int) % 64 = 56 := by omega
      obtain ⟨m', hm'⟩ := HR.out.st
      have HM : Hid (Stt wr w.heap.size 120 (msg ++ [128] ++ List.replicate k 0) m') := hm'
      clear hm'
      go_wp2_with (first
        | (go_at_call 59; refine (take_any _ m' _ w.heap.size 120 _ HM.out HR.out.k (by omega) (by rw [lenstr]; simp only [List.length_append, List.length_replicate, ← HN.out.1]; show n + 1 + k + 8 < _; omega)).mono ?_; rintro e w3 ⟨rfl, hs3, hg3⟩)
        | (refine wpList_load_v8 rfl (.tmp 23) rfl w.heap.size 0 rfl (shaV msg) (num_end HPN.out HN.out.1 hs3 _) ?_))
      have HO : Hid (Ou w3 (shaV msg) 0 z32c (w3.alloc (.cells z32c 24))) := Ou.start w3 (shaV msg)
      have hw3 : Hid (Blk w3 (w.heap.size + 1) z32c 24 ∧ w.grownBy w3 none) := ⟨HR.out.res.grown hg3 (by simp), HR.out.grown.andThen hg3 (fun j hj => by left; simp at hj; omega)⟩
      clear hs3 hg3 HM HR hc
      go_loopw [25] (fun i wr => ∃ (k : Nat) (C : Array Value), k ≤ 8 ∧ i = .int .i64 k ∧ Hid (Ou w3 (shaV msg) k C wr)) (fun i _ => 20 - (intOf i).toNat)
      case atStart => exact ⟨0, z32c, by omega, rfl, HO⟩
      case round =>
        clear HO hlt hk
        obtain ⟨k, C, hk, rfl, HR⟩ := hrel
        by_cases hlt : k < 8
        · obtain ⟨x, hx⟩ : ∃ x, x = (shaV msg).list.getD k 0 := ⟨_, rfl⟩
          have hix := index_v8 (shaV msg) k hlt
          rw [← hx] at hix
          have HX : Hid (x = (shaV msg).list.getD k 0) := hx
          clear hx
          obtain ⟨z0, h0⟩ := HR.out.there (4 * k) (by omega)
          obtain ⟨z1, h1⟩ := HR.out.there (4 * k + 1) (by omega)
          obtain ⟨z2, h2⟩ := HR.out.there (4 * k + 2) (by omega)
          obtain ⟨z3, h3⟩ := HR.out.there (4 * k + 3) (by omega)
          have hf := fun j => HR.out.blk.frozen j
          go_wp2
          refine ⟨?_, ?measure⟩
          · exact ⟨k + 1, _, by omega, by go_num, HR.out.put hlt x HX.out⟩
          case measure => simp [intOf]; omega
        · have hke : k = 8 := by omega
          subst hke
          clear hlt hk
          have HI : Hid ((Tryz.prog.info? 24).map (·.size) = some C.size) := by rw [HR.out.csz]; exact info_id
          have HZ : Hid (Blk wr (w.heap.size + 1) z32c 24) := hw3.out.1.grown HR.out.grown (by simp)
          go_wp2_with (first
            | (refine wpList_load_row rfl 24 (.tmp 5) rfl w3.heap.size rfl 24 C (0, 0) _ HR.out.blk Tryz.underlying24 rfl HI.out ?_)
            | (refine wpList_store_row rfl 24 (.tmp 2) (.tmp 56) rfl (w.heap.size + 1) C rfl rfl 24 z32c HZ.out HI.out (by rw [z32c_size, HR.out.csz]) HR.out.one ?_))
          refine bodyPost_ret (results_cell_row rfl _ _ (w.heap.size + 1) 24 C (0, 0) _ rfl (setRow_heap _ _ _ _ _ _ HZ.out) Tryz.underlying24 rfl HI.out) rfl ⟨by rw [HR.out.whole, sha], ?_⟩
          exact below_setRow (below_of_grown (hw3.out.2.trans HR.out.grown)) (by omega) _
end Go.Proofs.YtfmfdaoipfpijaaGreatDoor
/- digest.Sum. -/
namespace Go.Proofs.YtfmfdaoipfpijaaGreatDoor
open Go.RowKit
set_option linter.unusedSimpArgs false
set_option linter.unusedVariables false
/-- The listed numbers of package digest. -/
structure Lst (w : World) : Prop where
  k : KIs w
  h : HIs w
theorem HIs.lt {w : World} (h : HIs w) : 0 < w.heap.size := World.block_lt_of_cell? w _ (h 0 (by omega))
theorem Lst.grown {w w' : World} {r : Option Nat} (H : Lst w) (hg : w.grownBy w' r) (hr : ∀ j, r = some j → 3 < j) : Lst w' :=
  ⟨H.k.grown hg (fun e => by have := hr _ e; omega), H.h.grown hg (fun e => by have := hr _ e; omega)⟩
theorem Lst.below {w w' : World} (H : Lst w) (hb : Below w.heap.size w w') : Lst w' := H.grown (grown_of_below hb none) (by simp)
theorem Lst.alloc {w : World} (H : Lst w) (o : Obj) : Lst (w.alloc o) := H.grown (World.grownBy_alloc w o none) (by simp)
theorem Lst.lt {w : World} (H : Lst w) : 3 < w.heap.size := H.k.lt
theorem wpList_store_abs {P : Program} {ops : Array Oper} {rest : List Oper} {o : Oper} {a : Act} {w : World} {Q : Exit → Act → World → Prop} (hgd : o.guard = none) (ty : TypeId) (x y : Operand) (ho : o.op = .store ty x y)
    (cells old : Array Value) (t : TypeId) (H : Nat) (hH : w.heap.size = H) (hx : a.eval x = .pointer (some ⟨H, 0, none⟩)) (hy : a.eval y = .agg cells)
    (hi : (P.info? ty).map (·.size) = some cells.size) (hold : old.size = cells.size) (h1 : cells.all (·.oneCell') = true)
    (h : ∀ w', Hid (Blk w' H cells t) → Hid (w.grownBy w' none) → w'.heap.size = H + 1 → wpList P ops Q rest (a.put o.dst undef) w') : wpList P ops Q (o :: rest) a (w.alloc (.cells old t)) :=
  wpList_store_new hgd ty x y ho cells old t H hH hx hy hi hold h1 (h _ (by rw [← hH]; exact blk_new _ _) (World.grownBy_alloc _ _ none) (by rw [alloc_size, hH]))
theorem zst_st : zst.size = (stc H0 z64 0).size := by rw [zst_size, stc_size _ _ _ rfl]
theorem new_stt {w1 : World} {b : Nat} (h : Blk w1 b (stc H0 z64 0) 120) : Stt w1 b 120 [] z64 := ⟨h, Sta.zero z64 rfl (by intro x hx; have := List.eq_of_mem_replicate hx; omega)⟩
/-- A sum's 32 bytes as a value's cells. -/
def shc (m : List Nat) : Array Value := (bvc (sha m)).toArray
theorem shc_size (m : List Nat) : (shc m).size = 32 := by simp [shc, bvc, sha_length]
theorem shc_one (m : List Nat) : (shc m).all (·.oneCell') = true := by
  rw [Array.all_eq_true_iff_forall_mem]
  intro x hx
  simp only [shc, bvc, List.mem_toArray, List.mem_map] at hx
  obtain ⟨y, _, rfl⟩ := hx
  rfl
theorem info_sh (m : List Nat) : (Tryz.prog.info? 24).map (·.size) = some (shc m).size := by rw [shc_size]; exact info_id
theorem end_sh {msg m : List Nat} {w w' : World} {b : Nat} (hS : Stt w' b 120 msg m) (hK : KIs w) (hlen : msg.length < 288230376151711744) :
    Calls Tryz.prog 60 #[.agg (stc (hs msg (msg.length / 64)) m msg.length)] w fun e w' => e = .returned (.agg (shc msg)) ∧ Below w.heap.size w w' := dend_any msg m w hS.sta hK hlen
set_option maxHeartbeats 200000 in
set_option maxRecDepth 100000 in
theorem sum_any (s : ByteArray) (w : World) (hL : Lst w) (hlen : s.size < 288230376151711744) :
    Calls Tryz.prog 23 #[.string s] w fun e w' => e = .returned (.agg (shc (byl s))) ∧ Below w.heap.size w w' := by
  have HL : Hid (Lst w) := hL
  have hlt := hL.lt
  have hz := (zero_of_info zero_state).1
  have hbl : (byl s).length < 288230376151711744 := by rw [byl_length]; exact hlen
  clear hL
  go_enter Tryz.func23, Tryz.ntmps23
  go_wp2_with (first
    | (go_at_call 58; refine (begin_any _ (HL.out.alloc _).h).mono ?_; rintro e w1 ⟨rfl, hb1⟩; have HB1 : Hid (Below (w.alloc (.cells z32c 24)).heap.size (w.alloc (.cells z32c 24)) w1) := hb1; clear hb1; have hz1 : w.heap.size + 1 ≤ w1.heap.size := by { have := HB1.out.size; rw [alloc_size] at this; exact this })
    | (refine wpList_store_abs rfl 120 (.tmp 3) (.tmp 4) rfl (stc H0 z64 0) _ 120 w1.heap.size rfl rfl rfl (info_st _ _ _ rfl) (by exact zst_st) (stc_one _ _ _) ?_; intro w1' HBk HG1 hsz1)
    | (go_at_call 59; refine (take_any [] z64 s w1.heap.size 120 _ (new_stt HBk.out) (((HL.out.alloc _).below HB1.out).grown HG1.out (by simp)).k (by omega) (by simp; omega)).mono ?_; rintro e w2 ⟨rfl, ⟨m2, hs2⟩, hg2⟩; rw [List.nil_append] at hs2; have HS2 : Hid (Stt w2 w1.heap.size 120 (byl s) m2) := hs2; have HG2 : Hid (w1'.grownBy w2 (some w1.heap.size)) := hg2; clear hs2 hg2)
    | (refine wpList_load_row rfl 120 (.tmp 3) rfl w1.heap.size rfl 120 _ (0, 0) _ HS2.out.blk Tryz.underlying120 rfl (info_st _ _ _ HS2.out.sta.len) ?_)
    | (go_at_call 60; refine (end_sh HS2.out ((((HL.out.alloc _).below HB1.out).grown HG1.out (by simp)).grown HG2.out (by intro j hj; simp at hj; omega)).k hbl).mono ?_; rintro e w3 ⟨rfl, hb3⟩; have HZ : Hid (Blk w3 w.heap.size z32c 24) := Blk.grown (Blk.grown (Blk.grown (Blk.grown (blk_new w (.cells z32c 24)) (grown_of_below HB1.out none) (by simp)) HG1.out (by simp)) HG2.out (by simp; omega)) (grown_of_below hb3 none) (by simp); have HB3 : Hid (Below w2.heap.size w2 w3) := hb3; clear hb3)
    | (refine wpList_store_row rfl 24 (.tmp 2) (.tmp 8) rfl w.heap.size (shc (byl s)) rfl rfl 24 z32c HZ.out (info_sh _) (by rw [z32c_size, shc_size]) (shc_one _) ?_))
  refine bodyPost_ret (results_cell_row rfl _ _ w.heap.size 24 (shc (byl s)) (0, 0) _ rfl (setRow_heap _ _ _ _ _ _ HZ.out) Tryz.underlying24 rfl (info_sh _)) rfl ⟨rfl, ?_⟩
  refine below_setRow (below_of_grown ?_) (Nat.le_refl _) _
  exact ((((World.grownBy_alloc w _ none).trans (grown_of_below HB1.out none)).trans HG1.out).andThen HG2.out (fun j hj => by left; simp at hj; omega)).trans (grown_of_below HB3.out none)
end Go.Proofs.YtfmfdaoipfpijaaGreatDoor
/- A result of a row and a number. -/
namespace Go.Proofs.YtfmfdaoipfpijaaGreatDoor
open Go.RowKit
set_option linter.unusedSimpArgs false
set_option linter.unusedVariables false
end Go.Proofs.YtfmfdaoipfpijaaGreatDoor
/- Plain facts on reading a short number from the front of bytes. -/
namespace Go.Proofs.YtfmfdaoipfpijaaGreatDoor
set_option linter.unusedSimpArgs false
set_option linter.unusedVariables false
open Go
/-- The short number at the front of bytes, and how many bytes it has; i bytes have been read, they say acc. -/
def dec : Nat → Nat → List UInt8 → Option (Nat × Nat)
  | _, _, [] => none
  | i, acc, b :: r => if 10 ≤ i then none else if 128 ≤ b.toNat then dec (i + 1) (acc + b.toNat % 128 * 128 ^ i) r
      else if (b.toNat = 0 ∧ 0 < i) ∨ (1 < b.toNat ∧ i = 9) then none else some (acc + b.toNat * 128 ^ i, i + 1)
def decS (l : List UInt8) : Option (Nat × Nat) := dec 0 0 l
def bl (s : ByteArray) : List UInt8 := s.data.toList
theorem bl_length (s : ByteArray) : (bl s).length = s.size := Array.length_toList
theorem dec_ten (i acc : Nat) (l : List UInt8) (h : 10 ≤ i) : dec i acc l = none := by
  cases l with
  | nil => rfl
  | cons b r => rw [dec, if_pos h]
theorem drop_at (s : ByteArray) (k : Nat) (h : k < s.size) : (bl s).drop k = s[k] :: (bl s).drop (k + 1) := by
  rw [List.drop_eq_getElem_cons (by rw [bl_length]; exact h)]; rfl
theorem or_add (acc v k : Nat) (h : acc < 2 ^ k) : acc ||| v * 2 ^ k = acc + v * 2 ^ k := by
  rw [Nat.or_comm, Nat.mul_comm, ← Nat.two_pow_add_eq_or_of_lt h, Nat.add_comm]
theorem u8_and_127 (b : Nat) (hb : b < 256) : bits .and .u8 (b : Int) 127 = ((b % 128 : Nat) : Int) := by
  have h : ∀ a : Fin 256, bits .and .u8 (a.val : Int) 127 = ((a.val % 128 : Nat) : Int) := by decide +kernel
  exact h ⟨b, hb⟩
/-- What the program makes of one more byte. -/
theorem accStep (acc b k : Nat) (hb : b < 256) (hacc : acc < 128 ^ k) (hk : k ≤ 8 ∨ (k = 9 ∧ b % 128 ≤ 1)) :
    bits .or .u64 (acc : Int) (IntKind.u64.wrap (IntKind.u64.wrap (bits .and .u8 (b : Int) 127) * 2 ^ (7 * k))) = ((acc + b % 128 * 128 ^ k : Nat) : Int) ∧ acc + b % 128 * 128 ^ k < 2 ^ 64 := by
  have hb2 : b % 128 < 128 := Nat.mod_lt _ (by omega)
  have hp : b % 128 * 2 ^ (7 * k) + 2 ^ (7 * k) ≤ 2 ^ 64 := by
    rcases hk with h | ⟨h, h2⟩
    · have e1 : 2 ^ (7 * k) ≤ 2 ^ 56 := Nat.pow_le_pow_right (by omega) (by omega)
      have e2 : b % 128 * 2 ^ (7 * k) ≤ 127 * 2 ^ (7 * k) := Nat.mul_le_mul_right _ (by omega)
      omega
    · have e0 : 7 * k = 63 := by omega
      rw [e0]
      omega
  rw [pow128] at hacc ⊢
  rw [u8_and_127 b hb, IntKind.wrap_u64, IntKind.wrap_u64]
  have e1 : ((b % 128 : Nat) : Int) % 18446744073709551616 = ((b % 128 : Nat) : Int) := by omega
  rw [e1]
  have e2 : ((b % 128 : Nat) : Int) * 2 ^ (7 * k) = ((b % 128 * 2 ^ (7 * k) : Nat) : Int) := by rw [Int.natCast_mul, Int.natCast_pow]; rfl
  rw [e2]
  have e3 : ((b % 128 * 2 ^ (7 * k) : Nat) : Int) % 18446744073709551616 = ((b % 128 * 2 ^ (7 * k) : Nat) : Int) := by
    have : 0 < 2 ^ (7 * k) := Nat.two_pow_pos _
    omega
  rw [e3, u64_or_nat _ _ (by omega) (by have : 0 < 2 ^ (7 * k) := Nat.two_pow_pos _; omega), or_add _ _ _ hacc]
  exact ⟨rfl, by omega⟩
theorem accNext (acc b k : Nat) (hacc : acc < 128 ^ k) : acc + b % 128 * 128 ^ k < 128 ^ (k + 1) := by
  have : b % 128 * 128 ^ k ≤ 127 * 128 ^ k := Nat.mul_le_mul_right _ (by omega)
  rw [Nat.pow_succ]; omega
theorem bits_or_lt (x y : Int) : ∃ m : Nat, bits .or .u64 x y = (m : Int) ∧ m < 2 ^ 64 := by
  have h : 0 ≤ bits .or .u64 x y ∧ bits .or .u64 x y < 18446744073709551616 := by
    unfold bits
    simp only [IntKind.wrap_u64]
    omega
  exact ⟨(bits .or .u64 x y).toNat, by omega, by omega⟩
theorem dec_more (s : ByteArray) (k acc : Nat) (h : k < s.size) (hk : k < 10) (hb : 128 ≤ s[k].toNat) :
    dec k acc ((bl s).drop k) = dec (k + 1) (acc + s[k].toNat % 128 * 128 ^ k) ((bl s).drop (k + 1)) := by
  rw [drop_at s k h, dec, if_neg (by omega), if_pos hb]
theorem dec_bad (s : ByteArray) (k acc : Nat) (h : k < s.size) (hk : k < 10) (hb : s[k].toNat < 128) (hc : (s[k].toNat = 0 ∧ 0 < k) ∨ (1 < s[k].toNat ∧ k = 9)) :
    dec k acc ((bl s).drop k) = none := by
  rw [drop_at s k h, dec, if_neg (by omega), if_neg (by omega), if_pos hc]
theorem dec_good (s : ByteArray) (k acc : Nat) (h : k < s.size) (hk : k < 10) (hb : s[k].toNat < 128) (hc : ¬ ((s[k].toNat = 0 ∧ 0 < k) ∨ (1 < s[k].toNat ∧ k = 9))) :
    dec k acc ((bl s).drop k) = some (acc + s[k].toNat * 128 ^ k, k + 1) := by
  rw [drop_at s k h, dec, if_neg (by omega), if_neg (by omega), if_neg hc]
def shN (s : ByteArray) : Nat := ((decS (bl s)).getD (0, 0)).1
def shK (s : ByteArray) : Nat := ((decS (bl s)).getD (0, 0)).2
end Go.Proofs.YtfmfdaoipfpijaaGreatDoor
/- Plain facts: what was put is read, what is read was put. -/
namespace Go.Proofs.YtfmfdaoipfpijaaGreatDoor
set_option linter.unusedSimpArgs false
set_option linter.unusedVariables false
open Go
theorem dec_bounds : ∀ (l : List UInt8) (i acc n k : Nat), dec i acc l = some (n, k) → acc < 128 ^ i → i + 1 ≤ k ∧ k ≤ i + l.length ∧ k ≤ 10 ∧ n < 2 ^ 64
  | [], i, acc, n, k, h, _ => by simp [dec] at h
  | b :: r, i, acc, n, k, h, ha => by
    rw [dec] at h
    split at h
    · simp at h
    · rename_i hi
      split at h
      · have := dec_bounds r (i + 1) _ n k h (accNext _ _ _ ha)
        simp only [List.length_cons]
        omega
      · rename_i hb
        split at h
        · simp at h
        · rename_i hc
          simp only [Option.some.injEq, Prod.mk.injEq] at h
          obtain ⟨rfl, rfl⟩ := h
          refine ⟨by omega, by simp only [List.length_cons]; omega, by omega, ?_⟩
          have e := (accStep acc b.toNat i (by omega) ha (by omega)).2
          rwa [Nat.mod_eq_of_lt (by omega)] at e
theorem shK_le (s : ByteArray) : shK s ≤ s.size := by
  unfold shK
  cases h : decS (bl s) with
  | none => simp
  | some p =>
    have := dec_bounds (bl s) 0 0 p.1 p.2 h (by omega)
    rw [bl_length] at this
    simp only [Option.getD_some]
    omega
theorem shN_lt (s : ByteArray) : shN s < 18446744073709551616 := by
  unfold shN
  cases h : decS (bl s) with
  | none => simp
  | some p =>
    have := dec_bounds (bl s) 0 0 p.1 p.2 h (by omega)
    simp only [Option.getD_some]
    omega
theorem extract_take (s : ByteArray) (d : Nat) (h : d ≤ s.size) : bl (s.extract 0 d) = (bl s).take d := by
  simp [bl, ByteArray.data_extract]
/-- What bytes say as a number, the highest first. -/
def fixV (l : List UInt8) : Nat := l.foldl (fun a c => a * 256 + c.toNat) 0
theorem fixV_snoc (l : List UInt8) (c : UInt8) : fixV (l ++ [c]) = fixV l * 256 + c.toNat := by simp [fixV]
theorem fixV_lt (l : List UInt8) : fixV l < 256 ^ l.length := by
  obtain ⟨n, hn⟩ : ∃ n, n = l.length := ⟨_, rfl⟩
  rw [← hn]
  induction n generalizing l with
  | zero => have : l = [] := by cases l with | nil => rfl | cons a b => simp at hn
            subst this; simp [fixV]
  | succ n ih =>
    obtain ⟨l', c, rfl⟩ : ∃ l' c, l = l' ++ [c] := ⟨l.dropLast, l.getLast (by intro e; subst e; simp at hn), (List.dropLast_concat_getLast _).symm⟩
    have := ih l' (by simp at hn; omega)
    have hc := c.toNat_lt
    rw [fixV_snoc, Nat.pow_succ]
    omega
theorem take_snoc (s : ByteArray) (k : Nat) (h : k < s.size) : (bl s).take (k + 1) = (bl s).take k ++ [s[k]] := by
  rw [List.take_succ_eq_append_getElem (by rw [bl_length]; exact h)]; rfl
theorem fixStep (acc c k : Nat) (hc : c < 256) (hk : k ≤ 7) (ha : acc < 256 ^ k) :
    bits .or .u64 (IntKind.u64.wrap ((acc : Int) * 256)) (c : Int) = ((acc * 256 + c : Nat) : Int) ∧ acc * 256 + c < 2 ^ 64 := by
  have h7 : 256 ^ k ≤ 256 ^ 7 := Nat.pow_le_pow_right (by omega) hk
  have e1 : IntKind.u64.wrap ((acc : Int) * 256) = ((acc * 256 : Nat) : Int) := by rw [IntKind.wrap_u64]; omega
  rw [e1, u64_or_nat _ _ (by omega) (by omega), Nat.or_comm]
  have := or_add c acc 8 (by omega)
  rw [show (2 : Nat) ^ 8 = 256 from rfl] at this
  rw [this]
  exact ⟨by rw [Nat.add_comm], by omega⟩
end Go.Proofs.YtfmfdaoipfpijaaGreatDoor
/- Plain facts: what was put is read back; what was read, put again, is what was read. -/
namespace Go.Proofs.YtfmfdaoipfpijaaGreatDoor
set_option linter.unusedSimpArgs false
set_option linter.unusedVariables false
open Go
/-- Numbers below 256 as bytes. -/
def by8 (l : List Nat) : List UInt8 := l.map UInt8.ofNat
theorem bl_sb (l : List Nat) : bl (sb l) = by8 l := rfl
theorem bl_append (a b : ByteArray) : bl (a ++ b) = bl a ++ bl b := by simp [bl]
theorem bl_inj {a b : ByteArray} (h : bl a = bl b) : a = b := by
  cases a; cases b; simp only [bl] at h; congr; exact Array.toList_inj.1 h
theorem bl_extract (s : ByteArray) (i j : Nat) : bl (s.extract i j) = ((bl s).take j).drop i := by
  simp [bl, ByteArray.data_extract, List.drop_take]
theorem toNat_ofNat8 (n : Nat) (h : n < 256) : (UInt8.ofNat n).toNat = n := by simp [Nat.mod_eq_of_lt h]
theorem dec_enc : ∀ (k n i acc : Nat) (r : List UInt8), i + k ≤ 9 → n < 128 ^ (k + 1) → (0 < k → 128 ^ k ≤ n) → (i + k = 9 → n / 128 ^ k ≤ 1) → (0 < i → 0 < n) →
    dec i acc (by8 (encN k n) ++ r) = some (acc + n * 128 ^ i, i + k + 1)
  | 0, n, i, acc, r, hi, hn, _, h9, h0 => by
    have hn' : n < 128 := by simpa using hn
    show dec i acc (UInt8.ofNat n :: r) = _
    rw [dec, toNat_ofNat8 n (by omega), if_neg (by omega), if_neg (by omega), if_neg]
    have h9' : i = 9 → n ≤ 1 := by intro e; have := h9 (by omega); simpa using this
    omega
  | k + 1, n, i, acc, r, hi, hn, hlo, h9, h0 => by
    have hlo' := hlo (by omega)
    have hp : 0 < 128 ^ k := Nat.pow_pos (by omega)
    have hq : 128 ^ k ≤ n / 128 := by rw [Nat.le_div_iff_mul_le (by omega)]; rw [Nat.pow_succ] at hlo'; exact hlo'
    show dec i acc (UInt8.ofNat (n % 128 + 128) :: (by8 (encN k (n / 128)) ++ r)) = _
    rw [dec, toNat_ofNat8 _ (by omega), if_neg (by omega), if_pos (by omega),
      dec_enc k (n / 128) (i + 1) _ r (by omega) (by rw [Nat.div_lt_iff_lt_mul (by omega)]; rw [Nat.pow_succ] at hn; exact hn) (fun _ => hq)
        (fun e => by rw [Nat.div_div_eq_div_mul, Nat.mul_comm, ← Nat.pow_succ]; exact h9 (by omega)) (fun _ => by omega)]
    have e1 : (n % 128 + 128) % 128 = n % 128 := by omega
    rw [e1, Nat.pow_succ]
    have e2 : n / 128 * (128 ^ i * 128) = (n / 128 * 128) * 128 ^ i := by rw [Nat.mul_comm (128 ^ i) 128, Nat.mul_assoc]
    rw [e2, Nat.add_assoc, ← Nat.add_mul, show n % 128 + n / 128 * 128 = n from by omega]
    rw [show i + 1 + k + 1 = i + (k + 1) + 1 from by omega]
theorem decS_enc (n : Nat) (r : List UInt8) (h : n < 2 ^ 64) : decS (by8 (encS n) ++ r) = some (n, slen n) := by
  have h1 := slen_pos n
  have h2 := slen_le n h
  have h3 := slen_hi n h
  have e := dec_enc (slen n - 1) n 0 0 r (by omega) (by rw [show slen n - 1 + 1 = slen n from by omega]; exact h3) (fun hk => slen_lo n h (by omega))
    (fun e => by rw [show slen n - 1 = 9 from by omega]; omega) (fun h => by omega)
  unfold decS encS
  rw [e]
  simp; omega
theorem sh_enc (n : Nat) (s r : ByteArray) (h : n < 2 ^ 64) (hs : s = sb (encS n) ++ r) : shN s = n ∧ shK s = slen n := by
  subst hs
  unfold shN shK
  rw [bl_append, bl_sb, decS_enc n _ h]
  exact ⟨rfl, rfl⟩
theorem fixV_fixN : ∀ (d n : Nat), n < 256 ^ d → fixV (by8 (fixN d n)) = n
  | 0, n, h => by simp at h; subst h; rfl
  | d + 1, n, h => by
    have e : by8 (fixN (d + 1) n) = by8 (fixN d (n / 256)) ++ [UInt8.ofNat (n % 256)] := by simp [by8, fixN]
    rw [e, fixV_snoc, fixV_fixN d (n / 256) (by rw [Nat.div_lt_iff_lt_mul (by omega)]; rw [Nat.pow_succ] at h; exact h), toNat_ofNat8 _ (by omega)]
    omega
theorem by8_length (l : List Nat) : (by8 l).length = l.length := by simp [by8]
theorem drop_front (s a r : ByteArray) (k : Nat) (hs : s = a ++ r) (hk : k = a.size) : s.extract k s.size = r := by
  apply bl_inj
  subst hs
  rw [bl_extract, bl_append, List.take_of_length_le (by rw [List.length_append, bl_length, bl_length]; simp), hk, List.drop_append_of_le_length (by rw [bl_length]; exact Nat.le_refl _), List.drop_of_length_le (by rw [bl_length]; exact Nat.le_refl _)]
  rfl
end Go.Proofs.YtfmfdaoipfpijaaGreatDoor
