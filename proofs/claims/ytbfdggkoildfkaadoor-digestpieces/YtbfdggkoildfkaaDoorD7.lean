/- digest.State.end: the sum of what was written. -/
import Derived.Test.YtbfdggkoildfkaaDoorD6
namespace Go.Proofs.YtbfdggkoildfkaaDoor
open Go.RowKit
set_option linter.unusedSimpArgs false
set_option linter.unusedVariables false
theorem Stt.grown {w w' : World} {b : Nat} {T : TypeId} {msg m : List Nat} {r : Option Nat} (h : Stt w b T msg m) (hg : w.grownBy w' r) (hr : r ≠ some b) : Stt w' b T msg m := ⟨h.blk.grown hg hr, h.sta⟩
/-- 32 noughts, as cells. -/
def z32c : Array Value := (bvc (List.replicate 32 0)).toArray
theorem z32c_size : z32c.size = 32 := by simp [z32c, bvc]
/-- What lies in memory while the noughts are written: k of them are. -/
structure En (w : World) (msg : List Nat) (k : Nat) (wr : World) : Prop where
  st : ∃ m, Stt wr w.heap.size 52 (msg ++ [128] ++ List.replicate k 0) m
  k : KIs wr
  res : Blk wr (w.heap.size + 1) z32c 23
  grown : w.grownBy wr none
theorem byl_80 : byl ⟨#[128]⟩ = [128] := by decide
theorem byl_00 : byl ⟨#[0]⟩ = [0] := by decide
theorem Stt.wrote {w : World} {b : Nat} {T : TypeId} {msg m : List Nat} (h : Stt w b T msg m) : w.cell? ⟨b, 72, none⟩ = some (.int .u64 (msg.length : Int)) := by
  rw [h.blk.cell, stc_wrote _ _ _ h.sta.len]
/-- The world behind the two new variables. -/
abbrev endW (w : World) (C : Array Value) : World := (w.alloc (.cells C 52)).alloc (.cells z32c 23)
theorem endW_grown (w : World) (C : Array Value) : w.grownBy (endW w C) none := (World.grownBy_alloc w _ none).trans (World.grownBy_alloc _ _ none)
theorem endW_st (w : World) (C : Array Value) : Blk (endW w C) w.heap.size C 52 := Blk.grown (blk_new w _) (World.grownBy_alloc _ _ none) (by simp)
theorem endW_res (w : World) (C : Array Value) : Blk (endW w C) (w.heap.size + 1) z32c 23 := by
  have e := blk_new (w.alloc (.cells C 52)) (.cells z32c 23)
  rwa [alloc_size] at e
theorem first_stt {w w1 : World} {msg m : List Nat} {n : Nat} {h : V8} (hN : n = msg.length ∧ h = hs msg (msg.length / 64)) (hS : Sta msg (hs msg (msg.length / 64)) m) (hb1 : Below (endW w (stc h m n)).heap.size (endW w (stc h m n)) w1) :
    Stt w1 w.heap.size 52 msg m := by
  obtain ⟨rfl, rfl⟩ := hN
  exact ⟨(endW_st w _).grown (grown_of_below hb1 none) (by simp), hS⟩
theorem first_k {w w1 : World} {C : Array Value} (hK : KIs w) (hb1 : Below (endW w C).heap.size (endW w C) w1) : KIs w1 := (hK.grown (endW_grown w C) (by simp)).grown (grown_of_below hb1 none) (by simp)
theorem En.start {w w1 w2 : World} {msg : List Nat} {C : Array Value} (hb1 : Below (endW w C).heap.size (endW w C) w1)
    (hK : KIs w) (hS : ∃ m', Stt w2 w.heap.size 52 (msg ++ byl ⟨#[128]⟩) m') (hg : w1.grownBy w2 (some w.heap.size)) : En w msg 0 w2 := by
  have g2 := grown_of_below hb1 none
  have g3 := (endW_grown w C).trans g2
  obtain ⟨m', hS⟩ := hS
  rw [byl_80] at hS
  have hkz := hK.lt
  refine ⟨⟨m', by rw [List.replicate_zero, List.append_nil]; exact hS⟩, (first_k hK hb1).grown hg (by simp; omega), ?_, g3.andThen hg (fun j hj => by left; simp at hj; omega)⟩
  exact ((endW_res w C).grown g2 (by simp)).grown hg (by simp)
theorem En.next {w wr w2 : World} {msg : List Nat} {k : Nat} (H : En w msg k wr) (hkz : 2 < w.heap.size) {M : List Nat} (hM : M = msg ++ [128] ++ List.replicate k 0)
    (hS : ∃ m', Stt w2 w.heap.size 52 (M ++ byl ⟨#[0]⟩) m') (hg : wr.grownBy w2 (some w.heap.size)) : En w msg (k + 1) w2 := by
  obtain ⟨m', hS⟩ := hS
  rw [byl_00, hM, List.append_assoc, ← List.replicate_succ'] at hS
  exact ⟨⟨m', hS⟩, H.k.grown hg (by simp; omega), H.res.grown hg (by simp), H.grown.andThen hg (fun j hj => by left; simp at hj; omega)⟩
theorem lenstr (x : Nat) : ((⟨#[]⟩ : ByteArray) ++ sb (fixN 8 x)).size = 8 := by
  rw [ByteArray.size_append, sb_size, fixN_length]; rfl
theorem fixN_lt : ∀ k n, ∀ x ∈ fixN k n, x < 256
  | 0, _, x, h => by simp [fixN] at h
  | k + 1, n, x, h => by
    simp only [fixN, List.mem_append, List.mem_singleton] at h
    rcases h with h | rfl
    · exact fixN_lt k _ x h
    · exact Nat.mod_lt _ (by omega)
theorem byl_len (x : Nat) : byl ((⟨#[]⟩ : ByteArray) ++ sb (fixN 8 x)) = fixN 8 x := by
  rw [show ((⟨#[]⟩ : ByteArray) ++ sb (fixN 8 x)) = sb (fixN 8 x) from ByteArray.empty_append]
  exact byl_sb _ (fixN_lt 8 x)
theorem num_end {w3 : World} {b n k : Nat} {T : TypeId} {msg : List Nat} (hk : k = pads n) (hn : n = msg.length) (hS : ∃ m', Stt w3 b T (msg ++ [128] ++ List.replicate k 0 ++ byl ((⟨#[]⟩ : ByteArray) ++ sb (fixN 8 (8 * n)))) m') (o : Obj) :
    ∀ j, j < 8 → (w3.alloc o).cell? ⟨b, 0 + j, none⟩ = some (c32 ((shaV msg).list.getD j 0)) := fun j hj => by
  obtain ⟨m', hS⟩ := hS
  subst hk
  subst hn
  have e : msg ++ [128] ++ List.replicate (pads msg.length) 0 ++ byl ((⟨#[]⟩ : ByteArray) ++ sb (fixN 8 (8 * msg.length))) = padded msg := by rw [byl_len, padded]
  rw [e] at hS
  have h1 := hS.blk.grown (World.grownBy_alloc w3 o none) (by simp)
  rw [h1.cell, Nat.zero_add, stc_num _ _ _ _ hj, shaV]
theorem z32c_get (j : Nat) (hj : j < 32) : z32c[j]? = some (.int .u8 0) := by
  rw [z32c, bvc, List.map_replicate, List.getElem?_toArray, List.getElem?_replicate, if_pos hj]; rfl
theorem outB_get (v : V8) (k i : Nat) (hk : k < 8) (hi : i < 4) : (outB v).getD (4 * k + i) 0 = (by4 (v.list.getD k 0)).getD i 0 := by
  have h1 : k = 0 ∨ k = 1 ∨ k = 2 ∨ k = 3 ∨ k = 4 ∨ k = 5 ∨ k = 6 ∨ k = 7 := by omega
  have h2 : i = 0 ∨ i = 1 ∨ i = 2 ∨ i = 3 := by omega
  rcases h1 with rfl | rfl | rfl | rfl | rfl | rfl | rfl | rfl <;> rcases h2 with rfl | rfl | rfl | rfl <;> rfl
theorem info_id : (Tryd.prog.info? 23).map (·.size) = some 32 := by kernel_rfl
/-- What lies in memory while the sum's bytes are laid: those of k numbers are. -/
structure Ou (w : World) (v : V8) (k : Nat) (C : Array Value) (wr : World) : Prop where
  blk : Blk wr w.heap.size C 23
  csz : C.size = 32
  got : ∀ j, j < 4 * k → C[j]? = some (.int .u8 ((outB v).getD j 0 : Nat))
  all : ∀ j, j < 32 → ∃ z : Int, C[j]? = some (.int .u8 z)
  grown : w.grownBy wr none
theorem Ou.start (w : World) (v : V8) : Ou w v 0 z32c (w.alloc (.cells z32c 23)) :=
  ⟨blk_new _ _, z32c_size, fun j hj => by omega, fun j hj => ⟨0, z32c_get j hj⟩, World.grownBy_alloc _ _ none⟩
theorem Ou.there {w : World} {v : V8} {k : Nat} {C : Array Value} {wr : World} (H : Ou w v k C wr) (j : Nat) (hj : j < 32) : ∃ z : Int, wr.cell? ⟨w.heap.size, j, none⟩ = some (.int .u8 z) := by
  obtain ⟨z, hz⟩ := H.all j hj
  exact ⟨z, by rw [H.blk.cell, hz]⟩
theorem Ou.put {w : World} {v : V8} {k : Nat} {C : Array Value} {wr : World} (H : Ou w v k C wr) (hk : k < 8) (x : BitVec 32) (hx : x = v.list.getD k 0) :
    Ou w v (k + 1) ((((C.setIfInBounds (4 * k) (.int .u8 ((x.toNat : Int) / 16777216))).setIfInBounds (4 * k + 1) (.int .u8 ((x.toNat : Int) / 65536 % 256))).setIfInBounds (4 * k + 2) (.int .u8 ((x.toNat : Int) / 256 % 256))).setIfInBounds (4 * k + 3) (.int .u8 ((x.toNat : Int) % 256)))
      ((((wr.setCell ⟨w.heap.size, 4 * k, none⟩ (.int .u8 ((x.toNat : Int) / 16777216))).setCell ⟨w.heap.size, 4 * k + 1, none⟩ (.int .u8 ((x.toNat : Int) / 65536 % 256))).setCell ⟨w.heap.size, 4 * k + 2, none⟩ (.int .u8 ((x.toNat : Int) / 256 % 256))).setCell ⟨w.heap.size, 4 * k + 3, none⟩ (.int .u8 ((x.toNat : Int) % 256))) where
  blk := (((H.blk.set _ _).set _ _).set _ _).set _ _
  csz := by simp only [Array.size_setIfInBounds]; exact H.csz
  got := fun j hj => by
    simp only [Array.getElem?_setIfInBounds, Array.size_setIfInBounds, H.csz]
    by_cases e : j < 4 * k
    · rw [if_neg (by omega), if_neg (by omega), if_neg (by omega), if_neg (by omega), H.got j e]
    · obtain ⟨i, rfl⟩ : ∃ i, j = 4 * k + i := ⟨j - 4 * k, by omega⟩
      rw [outB_get v k i hk (by omega), ← hx]
      have h2 : i = 0 ∨ i = 1 ∨ i = 2 ∨ i = 3 := by omega
      rcases h2 with rfl | rfl | rfl | rfl
      · rw [if_neg (by omega), if_neg (by omega), if_neg (by omega), if_pos (by omega), if_pos (by omega)]; rfl
      · rw [if_neg (by omega), if_neg (by omega), if_pos (by omega), if_pos (by omega)]; rfl
      · rw [if_neg (by omega), if_pos (by omega), if_pos (by omega)]; rfl
      · rw [if_pos (by omega), if_pos (by omega)]; rfl
  all := fun j hj => by
    simp only [Array.getElem?_setIfInBounds, Array.size_setIfInBounds, H.csz]
    split
    · exact ⟨_, by rw [if_pos (by omega)]⟩
    · split
      · exact ⟨_, by rw [if_pos (by omega)]⟩
      · split
        · exact ⟨_, by rw [if_pos (by omega)]⟩
        · split
          · exact ⟨_, by rw [if_pos (by omega)]⟩
          · exact H.all j hj
  grown := by
    have hs : ∀ {W : World} (i : Nat) (u : Value), w.grownBy W none → w.grownBy (W.setCell ⟨w.heap.size, i, none⟩ u) none := fun i u h => h.andThen (Lib.grownBy_setCell _ _ _ _) (fun j hj => by left; simp at hj; omega)
    exact hs _ _ (hs _ _ (hs _ _ (hs _ _ H.grown)))
theorem Ou.whole {w : World} {v : V8} {C : Array Value} {wr : World} (H : Ou w v 8 C wr) : C = (bvc (outB v)).toArray := by
  apply Array.ext_getElem?
  intro i
  by_cases hi : i < 32
  · rw [H.got i (by omega)]
    simp only [List.getElem?_toArray, bvc, List.getElem?_map, List.getD]
    rw [List.getElem?_eq_getElem (by rw [outB_length]; exact hi)]
    rfl
  · rw [Array.getElem?_eq_none (by rw [H.csz]; omega), Array.getElem?_eq_none (by simp [bvc, outB_length]; omega)]
theorem Ou.one {w : World} {v : V8} {k : Nat} {C : Array Value} {wr : World} (H : Ou w v k C wr) : C.all (·.oneCell') = true := by
  rw [Array.all_eq_true]
  intro i hi
  obtain ⟨x, hx⟩ := H.all i (by have := H.csz; omega)
  rw [Array.getElem?_eq_getElem hi] at hx
  rw [Option.some.inj hx]; rfl
set_option maxHeartbeats 400000 in
set_option maxRecDepth 100000 in
theorem end_any (msg m : List Nat) (w : World) (hS : Sta msg (hs msg (msg.length / 64)) m) (hK : KIs w) (hlen : msg.length < 288230376151711744) :
    Calls Tryd.prog 28 #[.agg (stc (hs msg (msg.length / 64)) m msg.length)] w fun e w' =>
      e = .returned (.agg (bvc (sha msg)).toArray) ∧ Below w.heap.size w w' := by
  obtain ⟨n, hn⟩ : ∃ n, n = msg.length := ⟨_, rfl⟩
  obtain ⟨h, hh⟩ : ∃ h, h = hs msg (msg.length / 64) := ⟨_, rfl⟩
  have h1 := stc_wrote h m n hS.len
  have HS : Hid (Sta msg (hs msg (msg.length / 64)) m) := hS
  have HK : Hid (KIs w) := hK
  have HN : Hid (n = msg.length ∧ h = hs msg (msg.length / 64)) := ⟨hn, hh⟩
  rw [← hh, ← hn]
  rw [← hn] at hlen
  clear hS hK hn hh
  go_enter Tryd.func28, Tryd.ntmps28
  have hkz := HK.out.lt
  go_wp2_with (first
    | (go_at_call 33; refine (putFixed_ok ⟨#[]⟩ _ 8 _ (by omega) (by omega) (by omega) (by omega) (by omega) (by decide)).mono ?_; rintro e w1 ⟨rfl, hb1⟩; have HB1 : Hid (Below (endW w (stc h m n)).heap.size (endW w (stc h m n)) w1) := hb1; clear hb1)
    | (go_at_call 27; refine (take_any msg m ⟨#[128]⟩ w.heap.size 52 _ (first_stt HN.out HS.out HB1.out) (first_k HK.out HB1.out) (by omega) (by rw [← HN.out.1]; show n + 1 < _; omega)).mono ?_; rintro e w2 ⟨rfl, hs2, hg2⟩))
  have HE : Hid (En w msg 0 w2) := En.start HB1.out HK.out hs2 hg2
  clear hs2 hg2 HB1
  have hp := pads_le n
  have hpa := pads_at n
  obtain ⟨pn, hpn⟩ : ∃ pn, pn = pads n := ⟨_, rfl⟩
  rw [← hpn] at hp hpa
  have HPN : Hid (pn = pads n) := hpn
  clear hpn
  go_loopw [] (fun wr => ∃ k : Nat, k ≤ pn ∧ Hid (En w msg k wr) ∧ wr.cell? ⟨w.heap.size, 72, none⟩ = some (.int .u64 ((n + 1 + k : Nat) : Int))) (fun wr => match wr.cell? ⟨w.heap.size, 72, none⟩ with | some (.int _ x) => (n + 100 - x.toNat) | _ => 0)
  case atStart =>
    refine ⟨0, by omega, HE, ?_⟩
    obtain ⟨m', hm'⟩ := HE.out.st
    rw [hm'.wrote]
    simp [HN.out.1]
  case round =>
    clear HE
    obtain ⟨k, hk, HR, hc⟩ := hrel
    obtain ⟨q, hq⟩ : ∃ q, q = n + 1 + k := ⟨_, rfl⟩
    rw [← hq] at hc
    by_cases hlt : k < pn
    · have hne : ¬ (q : Int) % 64 = 56 := by have := pads_first n k (by rw [← HPN.out]; exact hlt); rw [← hq] at this; omega
      obtain ⟨m', hm'⟩ := HR.out.st
      have HM : Hid (Stt wr w.heap.size 52 (msg ++ [128] ++ List.replicate k 0) m') := hm'
      clear hm'
      go_wp2_with (go_at_call 27; refine (take_any _ m' ⟨#[0]⟩ w.heap.size 52 _ HM.out HR.out.k (by omega) (by simp only [List.length_append, List.length_replicate, ← HN.out.1]; show n + 1 + k + 1 < _; omega)).mono ?_; rintro e w3 ⟨rfl, hs3, hg3⟩)
      have HE2 : Hid (En w msg (k + 1) w3) := HR.out.next hkz rfl hs3 hg3
      have hc3 : w3.cell? ⟨w.heap.size, 72, none⟩ = some (.int .u64 ((n + 1 + (k + 1) : Nat) : Int)) := by
        obtain ⟨m3, hm3⟩ := HE2.out.st
        rw [hm3.wrote]
        simp only [List.length_append, List.length_replicate, ← HN.out.1]
        congr 3
      go_roundw
      case rel => exact ⟨k + 1, by omega, HE2, hc3⟩
      case measure =>
        show (match w3.cell? _ with | some (.int _ x) => (n + 100 - x.toNat) | _ => 0) < (match wr.cell? _ with | some (.int _ x) => (n + 100 - x.toNat) | _ => 0)
        rw [hc3, hc]
        simp only
        omega
    · have hke : k = pn := by omega
      subst hke
      have heq : (q : Int) % 64 = 56 := by omega
      obtain ⟨m', hm'⟩ := HR.out.st
      have HM : Hid (Stt wr w.heap.size 52 (msg ++ [128] ++ List.replicate k 0) m') := hm'
      clear hm'
      go_wp2_with (first
        | (go_at_call 27; refine (take_any _ m' _ w.heap.size 52 _ HM.out HR.out.k (by omega) (by rw [lenstr]; simp only [List.length_append, List.length_replicate, ← HN.out.1]; show n + 1 + k + 8 < _; omega)).mono ?_; rintro e w3 ⟨rfl, hs3, hg3⟩)
        | (refine wpList_load_v8 rfl (.tmp 23) rfl w.heap.size 0 rfl (shaV msg) (num_end HPN.out HN.out.1 hs3 _) ?_))
      have HO : Hid (Ou w3 (shaV msg) 0 z32c (w3.alloc (.cells z32c 23))) := Ou.start w3 (shaV msg)
      have hw3 : Hid (Blk w3 (w.heap.size + 1) z32c 23 ∧ w.grownBy w3 none) := ⟨HR.out.res.grown hg3 (by simp), HR.out.grown.andThen hg3 (fun j hj => by left; simp at hj; omega)⟩
      clear hs3 hg3 HM HR hc
      go_loopw [25] (fun i wr => ∃ (k : Nat) (C : Array Value), k ≤ 8 ∧ i = .int .i64 k ∧ Hid (Ou w3 (shaV msg) k C wr)) (fun i _ => 20 - (intOf i).toNat)
      case atStart => exact ⟨0, z32c, by omega, rfl, HO⟩
      case round =>
        clear HO hlt hk
        obtain ⟨k, C, hk, rfl, HR⟩ := hrel
        by_cases hlt : k < 8
        · obtain ⟨x, hx⟩ : ∃ x, x = (shaV msg).list.getD k 0 := ⟨_, rfl⟩
          have hix := index_v8 (shaV msg) k hlt
          rw [← hx] at hix
          have HX : Hid (x = (shaV msg).list.getD k 0) := hx
          clear hx
          obtain ⟨z0, h0⟩ := HR.out.there (4 * k) (by omega)
          obtain ⟨z1, h1⟩ := HR.out.there (4 * k + 1) (by omega)
          obtain ⟨z2, h2⟩ := HR.out.there (4 * k + 2) (by omega)
          obtain ⟨z3, h3⟩ := HR.out.there (4 * k + 3) (by omega)
          have hf := fun j => HR.out.blk.frozen j
          go_wp2
          refine ⟨?_, ?measure⟩
          · exact ⟨k + 1, _, by omega, by go_num, HR.out.put hlt x HX.out⟩
          case measure => simp [intOf]; omega
        · have hke : k = 8 := by omega
          subst hke
          clear hlt hk
          have HI : Hid ((Tryd.prog.info? 23).map (·.size) = some C.size) := by rw [HR.out.csz]; exact info_id
          have HZ : Hid (Blk wr (w.heap.size + 1) z32c 23) := hw3.out.1.grown HR.out.grown (by simp)
          go_wp2_with (first
            | (refine wpList_load_row rfl 23 (.tmp 5) rfl w3.heap.size rfl 23 C (0, 0) _ HR.out.blk Tryd.underlying23 rfl HI.out ?_)
            | (refine wpList_store_row rfl 23 (.tmp 2) (.tmp 56) rfl (w.heap.size + 1) C rfl rfl 23 z32c HZ.out HI.out (by rw [z32c_size, HR.out.csz]) HR.out.one ?_))
          refine bodyPost_ret (results_cell_row rfl _ _ (w.heap.size + 1) 23 C (0, 0) _ rfl (setRow_heap _ _ _ _ _ _ HZ.out) Tryd.underlying23 rfl HI.out) rfl ⟨by rw [HR.out.whole, sha], ?_⟩
          exact below_setRow (below_of_grown (hw3.out.2.trans HR.out.grown)) (by omega) _
end Go.Proofs.YtbfdggkoildfkaaDoor
