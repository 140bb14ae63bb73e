import Derived.Test.YtpfknjnigcefgaaGreatDoorY9
import Derived.Test.YtpfknjnigcefgaaGreatDoorY11
import Derived.Test.YtpfknjnigcefgaaGreatDoorY17
import Derived.Test.YtpfknjnigcefgaaGreatDoorY13
import Derived.Test.YtpfknjnigcefgaaGreatDoorY15
/- The document's may: may an entry be indexed? -/
namespace Go.Proofs.YtpfknjnigcefgaaGreatDoor
open Go.RowKit
set_option linter.unusedSimpArgs false
set_option linter.unusedVariables false
set_option maxHeartbeats 4000000 in
set_option maxRecDepth 100000 in
theorem rmay_any (e : Xe) (w : World) (h : e.id.size = 32) : Calls Tryz.prog 30 #[.agg (xeC e)] w fun r w' => r = .returned (.bool (okX e)) ∧ w' = w.alloc (.cells (xeC e) 56) := by
  obtain ⟨c1, c2, c3⟩ := xeC_at e h
  have hb := bk_new w (xeC e) 56
  have k1 : (w.alloc (.cells (xeC e) 56)).cell? ⟨w.heap.size, 32, none⟩ = some (.int .u8 (e.k.toNat : Int)) := by rw [hb.cell]; exact c1
  have k2 : (w.alloc (.cells (xeC e) 56)).cell? ⟨w.heap.size, 33, none⟩ = some (.int .i64 e.off) := by rw [hb.cell]; exact c2
  have k3 : (w.alloc (.cells (xeC e) 56)).cell? ⟨w.heap.size, 34, none⟩ = some (.int .i64 e.sz) := by rw [hb.cell]; exact c3
  clear hb c1 c2 c3
  have HE := okX_eq e
  obtain ⟨r, hr⟩ : ∃ r, okX e = r := ⟨_, rfl⟩
  rw [hr] at HE ⊢
  obtain ⟨C, hC⟩ : ∃ C, xeC e = C := ⟨_, rfl⟩
  rw [hC] at k1 k2 k3 ⊢
  obtain ⟨ei, ek, eo, ez⟩ := e
  simp only at k1 k2 k3 HE
  obtain ⟨K, hK⟩ : ∃ K : Int, (ek.toNat : Int) = K := ⟨_, rfl⟩
  rw [hK] at k1 HE
  have HH : Hid (∀ (q : Bool), (q = true ↔ 1 ≤ K ∧ K ≤ 5 ∧ 4 ≤ eo ∧ eo ≤ 67108864 ∧ 0 ≤ ez ∧ ez ≤ 2097152) → q = r) := HE
  clear HE hr hC h hK
  by_cases g1 : 1 ≤ K
  · by_cases g2 : K ≤ 5
    · by_cases g3 : 4 ≤ eo
      · by_cases g4 : eo ≤ 67108864
        · by_cases g5 : 0 ≤ ez
          · go_enter Tryz.func30, Tryz.ntmps30
            go_wp2
            go_ret
            exact ⟨retBX (HH.out _ (by simp [g1, g2, g3, g4, g5] <;> omega)), rfl⟩
          · go_enter Tryz.func30, Tryz.ntmps30
            go_wp2
            go_ret
            exact ⟨retBX (HH.out _ (by simp [g1, g2, g3, g4, g5] <;> omega)), rfl⟩
        · go_enter Tryz.func30, Tryz.ntmps30
          go_wp2
          go_ret
          exact ⟨retBX (HH.out _ (by simp [g1, g2, g3, g4] <;> omega)), rfl⟩
      · go_enter Tryz.func30, Tryz.ntmps30
        go_wp2
        go_ret
        exact ⟨retBX (HH.out _ (by simp [g1, g2, g3] <;> omega)), rfl⟩
    · go_enter Tryz.func30, Tryz.ntmps30
      go_wp2
      go_ret
      exact ⟨retBX (HH.out _ (by simp [g1, g2] <;> omega)), rfl⟩
  · go_enter Tryz.func30, Tryz.ntmps30
    go_wp2
    go_ret
    exact ⟨retBX (HH.out _ (by simp [g1] <;> omega)), rfl⟩
end Go.Proofs.YtpfknjnigcefgaaGreatDoor
/- The walks of the document's own reader (munimentref01): Fixed. -/
namespace Go.Proofs.YtpfknjnigcefgaaGreatDoor
open Go.RowKit
set_option linter.unusedSimpArgs false
set_option linter.unusedVariables false
theorem set_step {w : World} {b : Nat} {s s' : ByteArray} (hb : b < w.heap.size) (hc : w.cell? ⟨b, 0, none⟩ = some (.string s)) (hf : w.frozen? ⟨b, 0, none⟩ = false) :
    Step b w (w.setCell ⟨b, 0, none⟩ (.string s')) s' := Step.of_set (Below.refl _ _) hb hc hf
set_option maxHeartbeats 400000 in
theorem rfixed_arg (s : ByteArray) (b : Nat) (w : World) (hs : s.size ≤ maxLen) (hc : w.cell? ⟨b, 0, none⟩ = some (.string s)) (hf : w.frozen? ⟨b, 0, none⟩ = false) (hb : b < w.heap.size) (m : Int) (hm : isW m = false) :
    Calls Tryz.prog 39 #[.pointer (some ⟨b, 0, none⟩), .int .i64 m] w fun e w' => e = .returned (.tuple #[.int .u64 0, .int .i64 1]) ∧ Step b w w' s := by
  have HS := still hb hc hf
  have hm' : m < 1 ∨ ¬ m < 1 ∧ 8 < m := by
    rcases Int.lt_or_le m 1 with h | h
    · exact Or.inl h
    · rcases Int.lt_or_le 8 m with g | g
      · exact Or.inr ⟨by omega, g⟩
      · rw [isW_yes h g] at hm; cases hm
  clear hm
  rcases hm' with h | ⟨h, g⟩
  · go_enter Tryz.func39, Tryz.ntmps39
    go_wp2
    go_ret2
    exact ⟨rfl, HS⟩
  · go_enter Tryz.func39, Tryz.ntmps39
    go_wp2
    go_ret2
    exact ⟨rfl, HS⟩
set_option maxHeartbeats 400000 in
theorem rfixed_no (s : ByteArray) (b : Nat) (w : World) (hs : s.size ≤ maxLen) (hc : w.cell? ⟨b, 0, none⟩ = some (.string s)) (hf : w.frozen? ⟨b, 0, none⟩ = false) (hb : b < w.heap.size) (d : Nat) (hd1 : 1 ≤ d) (hd2 : d ≤ 8) (hl : s.size < d) :
    Calls Tryz.prog 39 #[.pointer (some ⟨b, 0, none⟩), .int .i64 d] w fun e w' => e = .returned (.tuple #[.int .u64 0, .int .i64 4]) ∧ Step b w w' s := by
  have HS := still hb hc hf
  go_enter Tryz.func39, Tryz.ntmps39
  go_wp2
  go_ret2
  exact ⟨rfl, HS⟩
theorem rfixStep (acc c k : Nat) (hc : c < 256) (hk : k ≤ 7) (ha : acc < 256 ^ k) :
    IntKind.u64.wrap (IntKind.u64.wrap ((acc : Int) * 256) + IntKind.u64.wrap (c : Int)) = ((acc * 256 + c : Nat) : Int) := by
  have h7 : 256 ^ k ≤ 256 ^ 7 := Nat.pow_le_pow_right (by omega) hk
  rw [IntKind.wrap_u64, IntKind.wrap_u64, IntKind.wrap_u64]
  omega
set_option maxHeartbeats 400000 in
set_option maxRecDepth 100000 in
theorem rfixed_ok (s : ByteArray) (b : Nat) (w : World) (hs : s.size ≤ maxLen) (hc : w.cell? ⟨b, 0, none⟩ = some (.string s)) (hf : w.frozen? ⟨b, 0, none⟩ = false) (hb : b < w.heap.size) (d : Nat) (hd1 : 1 ≤ d) (hd2 : d ≤ 8) (hl : d ≤ s.size) :
    Calls Tryz.prog 39 #[.pointer (some ⟨b, 0, none⟩), .int .i64 d] w fun e w' => e = .returned (.tuple #[.int .u64 (fixV ((bl s).take d)), .int .i64 0]) ∧ Step b w w' (s.extract d s.size) := by
  have hs' := hs
  unfold maxLen at hs'
  have HS : Hid (Step b w (w.setCell ⟨b, 0, none⟩ (.string (s.extract d s.size))) (s.extract d s.size)) := set_step hb hc hf
  go_enter Tryz.func39, Tryz.ntmps39
  go_wp2
  go_loop [6, 7] (fun v i => ∃ (k acc : Nat), k ≤ d ∧ acc < 2 ^ 64 ∧ i = .int .i64 k ∧ v = .int .u64 acc ∧ Hid (acc = fixV ((bl s).take k))) (fun _ i => 10 - (intOf i).toNat)
  case atStart => exact ⟨0, 0, by omega, by omega, rfl, rfl, rfl⟩
  case round =>
    obtain ⟨k, acc, hk1, hacc, rfl, rfl, HR⟩ := hrel
    by_cases hlt : k < d
    · have hkt : k < s.size := by omega
      go_wp2
      go_round
      case rel =>
        have hlt256 := s[k].toNat_lt
        have hl : acc < 256 ^ k := by
          have := fixV_lt ((bl s).take k)
          rw [← HR.out, List.length_take, bl_length, Nat.min_eq_left (by omega)] at this
          exact this
        have e1 := rfixStep acc s[k].toNat k hlt256 (by omega) hl
        have e2 := (fixStep acc s[k].toNat k hlt256 (by omega) hl).2
        refine ⟨k + 1, _, by omega, e2, by go_num, ?_, ?_⟩
        · rw [← e1]
        · rw [take_snoc s k hkt, fixV_snoc, ← HR.out]; rfl
      case measure => simp [intOf]; omega
    · go_wp2
      go_ret2
      refine ⟨ret_ue ?_, HS.out⟩
      have e : k = d := by omega
      rw [HR.out, e]
end Go.Proofs.YtpfknjnigcefgaaGreatDoor
/- The document's Open: what it refuses at once; the index in memory. -/
namespace Go.Proofs.YtpfknjnigcefgaaGreatDoor
open Go.RowKit
set_option linter.unusedSimpArgs false
set_option linter.unusedVariables false
/-- The document's index in memory. -/
def rixC (s : ByteArray) (v : Value) : Array Value := ((idc s).toList ++ [v]).toArray
theorem rixC_size (s : ByteArray) (v : Value) (h : s.size = 32) : (rixC s v).size = 33 := by simp [rixC, idc_size, h]
theorem rixC_at (s : ByteArray) (v : Value) (h : s.size = 32) : (rixC s v)[32]? = some v := by
  have hl : (idc s).toList.length = 32 := by rw [Array.length_toList, idc_size, h]
  rw [rixC, List.getElem?_toArray, List.getElem?_append_right (by omega), hl]; rfl
theorem rixC_id (s : ByteArray) (v : Value) (h : s.size = 32) (j : Nat) (u : Value) (hu : (idc s)[j]? = some u) : (rixC s v)[0 + j]? = some u := by
  have hj : j < 32 := by
    have := (Array.getElem?_eq_some_iff.1 hu).1
    rwa [idc_size, h] at this
  rw [Nat.zero_add, rixC, List.getElem?_toArray, List.getElem?_append_left (by rw [Array.length_toList, idc_size]; omega), Array.getElem?_toList]
  exact hu
structure RIx (w : World) (g : Nat) (s : ByteArray) (l : List Xe) : Prop where
  row : ∃ a n c, Bk w g (rixC s (.slice a n c)) 81 ∧ XeL w a l ∧ l.length = n ∧ n ≤ c ∧ ((a = none ∧ c = 0) ∨ ∃ g o, a = some ⟨g, o, none⟩)
  id : s.size = 32
theorem RIx.below {w w' : World} {g : Nat} {s : ByteArray} {l : List Xe} (h : RIx w g s l) (hb : Below w.heap.size w w') : RIx w' g s l := by
  obtain ⟨a, n, c, h1, h2, h3, h4, h5⟩ := h.row
  exact ⟨⟨a, n, c, h1.below hb h1.lt, h2.below hb, h3, h4, h5⟩, h.id⟩
/-- What the document's Open tells. -/
def OpR (S : ByteArray) (e : Ending) (w' : World) : Prop :=
  (e = .returned (.tuple #[.pointer none, .int .i64 4]) ∧ ∀ s l, ¬ IsIx S s l) ∨ ∃ g s l, e = .returned (.tuple #[.pointer (some ⟨g, 0, none⟩), .int .i64 0]) ∧ IsIx S s l ∧ RIx w' g s l
theorem isIx_len {S s : ByteArray} {l : List Xe} (h : IsIx S s l) : S.size = 1064 + 41 * l.length ∧ l.length ≤ 65536 := by
  have := congrArg List.length h.2.2
  rw [bl_length, ixB_len h.1 h.2.1.id] at this
  exact ⟨this, h.2.1.len⟩
def xM : ByteArray := ⟨#[109, 105, 120, 49]⟩
theorem isIx_mark {S s : ByteArray} {l : List Xe} (h : IsIx S s l) : S.extract 0 4 = xM := by
  have h4 : 4 ≤ S.size := by have := (isIx_len h).1; omega
  apply bl_inj
  rw [bl_extract, List.drop_zero, h.2.2]; rfl
theorem str_ne13 {x : ByteArray} (h : x ≠ xM) : (x.toList == [109, 105, 120, 49]) = false := by
  rw [beq_eq_false_iff_ne, Lib.toList_data]
  intro e
  exact h (bl_inj e)
theorem str_eq13 {x : ByteArray} (h : x = xM) : (x.toList == [109, 105, 120, 49]) = true := by
  rw [h, Lib.toList_data]; rfl
set_option maxHeartbeats 1000000 in
set_option maxRecDepth 100000 in
theorem ropen_no (S : ByteArray) (w : World) (hS : S.size ≤ 140737488355328) (h : S.size < 1064 ∨ S.extract 0 4 ≠ xM ∨ (S.size - 1064) % 41 ≠ 0 ∨ 65536 < (S.size - 1064) / 41) :
    Calls Tryz.prog 13 #[.string S] w fun e w' => OpR S e w' ∧ Below w.heap.size w w' := by
  by_cases h1 : S.size < 1064
  · have HN : Hid (∀ s l, ¬ IsIx S s l) := fun s l h => by have := (isIx_len h).1; omega
    have hz : (S.size : Int) < 1064 := by omega
    clear h
    go_enter Tryz.func13, Tryz.ntmps13
    go_wp2
    go_ret2
    exact ⟨.inl ⟨rfl, HN.out⟩, Below.refl _ _⟩
  · have hz : ¬ (S.size : Int) < 1064 := by omega
    have hz4 : (4 : Int) ≤ (S.size : Int) := by omega
    by_cases hm : S.extract 0 4 = xM
    · have HQ : Hid (S.extract 0 4 = xM) := hm
      have hq := str_eq13 hm
      obtain ⟨M, hM⟩ : ∃ M, S.extract 0 4 = M := ⟨_, rfl⟩
      rw [hM] at hq
      obtain ⟨T, hT⟩ : ∃ T, S.size - 1064 = T := ⟨_, rfl⟩
      have hT2 : (S.size : Int) - 1064 = (T : Int) := by omega
      by_cases h3 : T % 41 = 0
      · have h4 : 65536 < T / 41 := by
          rcases h with q | q | q | q
          · omega
          · exact absurd HQ.out q
          · rw [hT] at q; omega
          · rw [hT] at q; exact q
        have HN : Hid (∀ s l, ¬ IsIx S s l) := fun s l h => by have := isIx_len h; omega
        have r1 : ((T : Int) % 41 != 0) = false := by rw [bne_eq_false_iff_eq]; omega
        obtain ⟨Q, hQ⟩ : ∃ Q : Nat, T / 41 = Q := ⟨_, rfl⟩
        have r2 : (T : Int) / 41 = (Q : Int) := by omega
        have r3 : decide ((65536 : Int) < (Q : Int)) = true := decide_eq_true (by omega)
        clear h hm hT h3 h4 hQ
        go_enter Tryz.func13, Tryz.ntmps13
        go_wp2
        go_ret2
        exact ⟨.inl ⟨rfl, HN.out⟩, Below.refl _ _⟩
      · have HN : Hid (∀ s l, ¬ IsIx S s l) := fun s l h => by have := isIx_len h; omega
        have r1 : ((T : Int) % 41 != 0) = true := by rw [bne_iff_ne]; omega
        clear h hm hT h3
        go_enter Tryz.func13, Tryz.ntmps13
        go_wp2
        go_ret2
        exact ⟨.inl ⟨rfl, HN.out⟩, Below.refl _ _⟩
    · have HN : Hid (∀ s l, ¬ IsIx S s l) := fun s l h => hm (isIx_mark h)
      have hq := str_ne13 hm
      obtain ⟨M, hM⟩ : ∃ M, S.extract 0 4 = M := ⟨_, rfl⟩
      rw [hM] at hq
      clear h hm
      go_enter Tryz.func13, Tryz.ntmps13
      go_wp2
      go_ret2
      exact ⟨.inl ⟨rfl, HN.out⟩, Below.refl _ _⟩
end Go.Proofs.YtpfknjnigcefgaaGreatDoor
