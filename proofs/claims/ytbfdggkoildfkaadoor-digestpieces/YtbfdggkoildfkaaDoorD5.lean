/- digest.State.take: bytes go into a sum. -/
import Derived.Test.YtbfdggkoildfkaaDoorD4
import Derived.Test.YtbfdggkoildfkaaDoorP9
namespace Go.Proofs.YtbfdggkoildfkaaDoor
open Go.RowKit
set_option linter.unusedSimpArgs false
set_option linter.unusedVariables false
/-- Cells laid over others from a place on. -/
def putA (C : Array Value) (o : Nat) : List Value → Array Value
  | [] => C
  | v :: r => putA (C.setIfInBounds o v) (o + 1) r
theorem Blk.puts {b : Nat} {T : TypeId} : ∀ (vs : List Value) (o : Nat) (C : Array Value) (w : World), Blk w b C T → Blk (w.setCells b o vs) b (putA C o vs) T
  | [], _, _, _, h => h
  | v :: r, o, C, w, h => by
    rw [World.setCells, putA]
    exact Blk.puts r (o + 1) _ _ (h.set o v)
theorem putA_get : ∀ (vs : List Value) (o : Nat) (C : Array Value) (i : Nat), o + vs.length ≤ C.size → (putA C o vs)[i]? = if o ≤ i ∧ i < o + vs.length then vs[i - o]? else C[i]?
  | [], o, C, i, _ => by rw [putA, if_neg (by simp)]
  | v :: r, o, C, i, h => by
    simp only [List.length_cons] at h
    rw [putA, putA_get r (o + 1) _ i (by rw [Array.size_setIfInBounds]; omega), Array.getElem?_setIfInBounds]
    by_cases e : o = i
    · subst e
      rw [if_neg (by omega), if_pos rfl, if_pos (by omega), if_pos (by simp), Nat.sub_self]; rfl
    · by_cases e2 : o + 1 ≤ i ∧ i < o + 1 + r.length
      · rw [if_pos e2, if_pos (by simp; omega)]
        rw [show i - o = (i - (o + 1)) + 1 from by omega, List.getElem?_cons_succ]
      · rw [if_neg e2, if_neg e, if_neg (by simp; omega)]
theorem putA_stc (h : V8) (m : List Nat) (n r : Nat) (xs : List Nat) (hm : m.length = 64) (hr : r + xs.length ≤ 64) : putA (stc h m n) (8 + r) (bvc xs) = stc h (putL m r xs) n := by
  have hp := putL_length m r xs (by omega)
  apply Array.ext_getElem?
  intro i
  rw [putA_get _ _ _ _ (by rw [stc_size _ _ _ hm]; simp [bvc]; omega)]
  by_cases h8 : i < 8
  · rw [if_neg (by omega), stc_num _ _ _ _ h8, stc_num _ _ _ _ h8]
  · by_cases h72 : i < 72
    · obtain ⟨j, rfl⟩ : ∃ j, i = 8 + j := ⟨i - 8, by omega⟩
      rw [stc_byte h m n j (by omega), stc_byte h (putL m r xs) n j (by omega), putL_getD _ _ _ (by omega)]
      by_cases e : r ≤ j ∧ j < r + xs.length
      · rw [if_pos (by simp [bvc]; omega), if_neg (by omega), if_pos e.2, show 8 + j - (8 + r) = j - r from by omega]
        simp only [bvc, List.getElem?_map, List.getD]
        rw [List.getElem?_eq_getElem (by omega)]
        rfl
      · rw [if_neg (by simp [bvc]; omega)]
        by_cases e1 : j < r
        · rw [if_pos e1]
        · rw [if_neg e1, if_neg (by omega)]
    · rw [if_neg (by simp [bvc]; omega)]
      by_cases e : i = 72
      · subst e; rw [stc_wrote _ _ _ hm, stc_wrote _ _ _ (by omega)]
      · rw [Array.getElem?_eq_none (by rw [stc_size _ _ _ hm]; omega), Array.getElem?_eq_none (by rw [stc_size _ _ _ (by omega)]; omega)]
theorem stc_setw (h : V8) (m : List Nat) (n n' : Nat) (hm : m.length = 64) : (stc h m n).setIfInBounds 72 (.int .u64 (n' : Int)) = stc h m n' := by
  have e : (v8c h ++ (bvc m).toArray).size = 72 := by simp [v8c_size, bvc, hm]
  apply Array.ext_getElem?
  intro i
  rw [Array.getElem?_setIfInBounds, stc, stc, Array.getElem?_push, Array.getElem?_push, Array.size_push, e]
  by_cases h1 : 72 = i
  · subst h1; simp
  · rw [if_neg h1, if_neg (by omega), if_neg (by omega)]
theorem copy_str (w : World) (dT sT ty elem : TypeId) (b o dLen dCap : Nat) (s : ByteArray) {P : Program}
    (hu : P.underlying dT = some (.slice elem)) (hs : (P.info? elem).map (·.size) = some 1)
    (hc : ∀ j, j < Nat.min s.size dLen → (w.cell? ⟨b, o + j, none⟩).isSome = true) (hf : ∀ j, j < Nat.min s.size dLen → w.frozen? ⟨b, o + j, none⟩ = false) :
    (Builtin.copy_ #[dT, sT] ty #[.slice (some ⟨b, o, none⟩) dLen dCap, .string s]).run P w = .ok (goInt (Nat.min s.size dLen)) (w.setCells b o (bvc ((byl s).take (Nat.min s.size dLen)))) := by
  have e : ((s.extract 0 (Nat.min s.size dLen)).data.map fun b => Value.int .u8 (b.toNat : Int)).toList = bvc ((byl s).take (Nat.min s.size dLen)) := by
    rw [ByteArray.data_extract, Array.toList_map, Array.toList_extract, List.extract_eq_take_drop, List.drop_zero, Nat.sub_zero, bvc, byl, ← List.map_take, List.map_map]
    rfl
  have hl : (bvc ((byl s).take (Nat.min s.size dLen))).length = Nat.min s.size dLen := by
    simp only [bvc, List.length_map, List.length_take, byl_length]
    exact Nat.min_eq_left (Nat.min_le_left _ _)
  have hst := run_storeCells_cells (P := P) b o (bvc ((byl s).take (Nat.min s.size dLen))) 0 w (by rw [hl]; simpa using hc) (by rw [hl]; simpa using hf) (by intro v hv; simp only [bvc, List.mem_map] at hv; obtain ⟨x, _, rfl⟩ := hv; rfl)
  cases hq : P.info? elem with
  | none => simp [hq] at hs
  | some i =>
    have hi : i.size = 1 := by simpa [hq] using hs
    simp only [Nat.add_zero] at hst
    simp [Builtin.copy_, run_underlying hu, Builtin.lenOf, Builtin.firstCells, sizeOf, typeInfo, hq, hi]
    have e2 : List.take (s.size.min dLen) (List.map (fun b => Value.int IntKind.u8 (b.toNat : Int)) s.data.toList) = bvc ((byl s).take (Nat.min s.size dLen)) := by
      rw [bvc, byl, ← List.map_take, ← List.map_take, List.map_map]; rfl
    rw [e2, hst]
    rfl
/-- A sum under way, as it lies in memory. -/
structure Stt (w : World) (b : Nat) (T : TypeId) (msg : List Nat) (m : List Nat) : Prop where
  blk : Blk w b (stc (hs msg (msg.length / 64)) m msg.length) T
  sta : Sta msg (hs msg (msg.length / 64)) m
theorem slice64l (b o n : Nat) (w : World) :
    (Instr.sliceAt 50 (.pointer (some ⟨b, o, none⟩)) (some (.int .u64 ((n : Int) % 64))) none none).run Tryd.prog w = .ok (.slice (some ⟨b, o + n % 64, none⟩) (64 - n % 64) (64 - n % 64)) w := by
  have e1 : Tryd.prog.elem 50 = 5 := by kernel_rfl
  have e2 : Tryd.prog.arrayLen 50 = 64 := by kernel_rfl
  have e0 : Tryd.prog.underlying 50 = some (.array (Tryd.prog.arrayLen 50) (Tryd.prog.elem 50)) := by kernel_rfl
  rw [run_sliceAt_array_l (P := Tryd.prog) w 50 ⟨b, o, none⟩ e0 .u64 ((n : Int) % 64) (by omega) (by rw [e2]; omega)]
  rw [e1, e2, sizeOf_u8']
  simp only [slicedAt, Result.andThen, Addr.add_mid]
  rw [show ((n : Int) % 64).toNat = n % 64 from by omega]
  have e3 : ¬ 64 = n % 64 := by omega
  simp only [Nat.mul_one, e3, if_false]
theorem Stt.of_more {M xs m : List Nat} {h : V8} {n c b : Nat} {T : TypeId} {W : World} (S : Sta M h m) (hn : n = M.length) (hxb : ∀ x ∈ xs, x < 256) (hxl : xs.length = c) (hc : c < 64 - M.length % 64)
    (hB : Blk W b (stc h (putL m (n % 64) xs) (n + c)) T) : Stt W b T (M ++ xs) (putL m (n % 64) xs) := by
  subst hn
  have S' := S.more xs hxb (by omega)
  exact ⟨by rw [← S'.num, List.length_append, hxl]; exact hB, by rw [← S'.num]; exact S'⟩
theorem Stt.of_full {M xs m : List Nat} {h : V8} {n c b : Nat} {T : TypeId} {W : World} (S : Sta M h m) (hn : n = M.length) (hxb : ∀ x ∈ xs, x < 256) (hxl : xs.length = c) (hc : c = 64 - M.length % 64)
    (hB : Blk W b (stc (comp (putL m (n % 64) xs) h) (putL m (n % 64) xs) (n + c)) T) : Stt W b T (M ++ xs) (putL m (n % 64) xs) := by
  subst hn
  have S' := S.full xs hxb (by omega)
  exact ⟨by rw [← S'.num, List.length_append, hxl]; exact hB, by rw [← S'.num]; exact S'⟩
theorem grown_puts (b : Nat) : ∀ (vs : List Value) (o : Nat) {a w : World}, a.grownBy w (some b) → a.grownBy (w.setCells b o vs) (some b)
  | [], _, _, _, h => h
  | v :: r, o, a, w, h => by rw [World.setCells]; exact grown_puts b r (o + 1) (Lib.grownBy_setB h o v)
theorem copy_at {w : World} {b : Nat} {T : TypeId} {h : V8} {m : List Nat} {k : Nat} (hB : Blk w b (stc h m k) T) (hm : m.length = 64) (s : ByteArray) (n : Nat) (ty : TypeId) :
    (Builtin.copy_ #[47, 9] ty #[.slice (some ⟨b, 8 + n % 64, none⟩) (64 - n % 64) (64 - n % 64), .string s]).run Tryd.prog w = .ok (goInt (Nat.min s.size (64 - n % 64))) (w.setCells b (8 + n % 64) (bvc ((byl s).take (Nat.min s.size (64 - n % 64))))) := by
  have hi : (Tryd.prog.info? 5).map (·.size) = some 1 := by kernel_rfl
  refine copy_str w 47 9 ty 5 b (8 + n % 64) _ _ s Tryd.underlying47 hi (fun j hj => ?_) (fun j hj => ?_)
  · rw [hB.cell]
    have hj2 := Nat.lt_of_lt_of_le hj (Nat.min_le_right _ _)
    rw [show 8 + n % 64 + j = 8 + (n % 64 + j) from by omega, stc_byte _ _ _ _ (by omega)]; rfl
  · exact hB.frozen _
set_option maxHeartbeats 400000 in
set_option maxRecDepth 100000 in
theorem take_any (msg m : List Nat) (s : ByteArray) (b : Nat) (T : TypeId) (w : World) (hS : Stt w b T msg m) (hK : KIs w) (hb2 : b ≠ 2) (hlen : msg.length + s.size < 4611686018427387904) :
    Calls Tryd.prog 27 #[.pointer (some ⟨b, 0, none⟩), .string s] w fun e w' =>
      e = .returned (.tuple #[]) ∧ (∃ m', Stt w' b T (msg ++ byl s) m') ∧ w.grownBy w' (some b) := by
  have HS : Hid (Stt w b T msg m) := hS
  have HK : Hid (KIs w) := hK
  clear hS hK
  go_enter Tryd.func27, Tryd.ntmps27
  go_wp2
  go_loopw [1] (fun v wr => ∃ (rest : ByteArray) (past m : List Nat), v = .string rest ∧ Hid (byl s = past ++ byl rest) ∧ Hid (Stt wr b T (msg ++ past) m) ∧ Hid (KIs wr) ∧ Hid (w.grownBy wr (some b))) (fun v _ => match v with | .string r => r.size | _ => 0)
  case atStart => exact ⟨s, [], m, rfl, rfl, by rw [List.append_nil]; exact HS, HK, World.grownBy.refl _ _⟩
  case round =>
    obtain ⟨rest, past, m, rfl, HP, HR, HK2, HG⟩ := hrel
    have hsz : past.length + rest.size = s.size := by have := congrArg List.length HP.out; simp only [List.length_append, byl_length] at this; omega
    obtain ⟨n, hn⟩ : ∃ n, n = (msg ++ past).length := ⟨_, rfl⟩
    have hn2 : n + rest.size < 4611686018427387904 := by rw [hn, List.length_append]; omega
    by_cases hlt : 0 < rest.size
    · have h1 := HR.out.blk.cell 72
      rw [stc_wrote _ _ _ HR.out.sta.len, ← hn] at h1
      have h2 := fun j => HR.out.blk.frozen j
      have h3 := slice64l b 8 n
      obtain ⟨c, hc⟩ : ∃ c, c = Nat.min rest.size (64 - n % 64) := ⟨_, rfl⟩
      obtain ⟨cs, hcs⟩ : ∃ cs, cs = bvc ((byl rest).take c) := ⟨_, rfl⟩
      have h5 := copy_at (w := wr.drew) (T := T) HR.out.blk HR.out.sta.len rest n 3
      rw [← hc, ← hcs] at h5
      have hc1 : 0 < c := by rw [hc]; exact Nat.lt_min.2 ⟨hlt, by omega⟩
      have hc2 : c ≤ rest.size := by rw [hc]; exact Nat.min_le_left _ _
      have hc3 : c ≤ 64 - n % 64 := by rw [hc]; exact Nat.min_le_right _ _
      have HC : Hid ((c = Nat.min rest.size (64 - n % 64) ∧ cs = bvc ((byl rest).take c)) ∧ n = (msg ++ past).length) := ⟨⟨hc, hcs⟩, hn⟩
      clear hn hc hcs
      go_wp2
      go_region
      obtain ⟨xs, hxs⟩ : ∃ xs, xs = (byl rest).take c := ⟨_, rfl⟩
      have hxl : xs.length = c := by rw [hxs, List.length_take, byl_length]; omega
      have hxb : ∀ x ∈ xs, x < 256 := fun x hx => byl_lt rest x (List.mem_of_mem_take (hxs ▸ hx))
      have hw3 : Blk (wr.drew.setCells b (8 + n % 64) cs) b (stc (hs (msg ++ past) ((msg ++ past).length / 64)) (putL m (n % 64) xs) n) T := by
        rw [← putA_stc _ _ _ _ _ HR.out.sta.len (by omega), hxs, ← HC.out.1.2]
        have := HR.out.blk
        rw [← HC.out.2] at this ⊢
        exact Blk.puts cs (8 + n % 64) _ wr.drew this
      have hg3 : wr.grownBy (wr.drew.setCells b (8 + n % 64) cs) (some b) := grown_puts b cs _ (Lib.Hx.grownBy_drew (World.grownBy.refl wr _))
      generalize wr.drew.setCells b (8 + n % 64) cs = w3 at hw3 hg3 ⊢
      have hpl : (putL m (n % 64) xs).length = 64 := by rw [putL_length _ _ _ (by rw [HR.out.sta.len]; omega), HR.out.sta.len]
      have q1 := hw3.cell 72
      rw [stc_wrote _ _ _ hpl] at q1
      have q2 := hw3.frozen 72
      have hw4 := hw3.set 72 (.int .u64 ((n + c : Nat) : Int))
      rw [stc_setw _ _ _ _ hpl] at hw4
      have HW : Hid (Blk (w3.setCell ⟨b, 72, none⟩ (.int .u64 ((n + c : Nat) : Int))) b (stc (hs (msg ++ past) ((msg ++ past).length / 64)) (putL m (n % 64) xs) (n + c)) T) := hw4
      have HX : Hid (xs = (byl rest).take c) := hxs
      clear h1 h2 h3 h5 hw3 hw4 hxs
      have hcast : ((n : Int) + (c : Int)) = ((n + c : Nat) : Int) := by omega
      have hsplit : byl s = (past ++ xs) ++ byl (rest.extract c rest.size) := by rw [byl_drop, HX.out, List.append_assoc, List.take_append_drop]; exact HP.out
      have HSp : Hid (byl s = (past ++ xs) ++ byl (rest.extract c rest.size)) := hsplit
      have hex : (rest.extract c rest.size).size = rest.size - c := by rw [← byl_length, byl_drop, List.length_drop, byl_length]
      have HE : Hid ((rest.extract c rest.size).size = rest.size - c) := hex
      have HCa : Hid (((n : Int) + (c : Int)) = ((n + c : Nat) : Int)) := hcast
      clear hsplit hex hcast
      by_cases hm0 : (n + c) % 64 = 0
      · have hm1 : ((n : Int) + (c : Int)) % 64 = 0 := by omega
        have hkk : KIs (w3.setCell ⟨b, 72, none⟩ (.int .u64 ((n : Int) + (c : Int)))) := (HK2.out.grown hg3 (by simpa using hb2)).grown (Lib.grownBy_setCell w3 b 72 _) (by simpa using hb2)
        have HKK : Hid (KIs (w3.setCell ⟨b, 72, none⟩ (.int .u64 ((n : Int) + (c : Int))))) := hkk
        clear hkk
        go_wp2_with (go_at_call 40; refine (mix_any (hs (msg ++ past) ((msg ++ past).length / 64)) (putL m (n % 64) xs) (n + c) b T _ hpl (putL_lt _ _ _ HR.out.sta.lt hxb) (by rw [HCa.out]; exact HW.out) HKK.out hb2).mono ?_; rintro e w5 ⟨rfl, hb5, hg5⟩)
        refine ⟨⟨rest.extract c rest.size, past ++ xs, putL m (n % 64) xs, rfl, HSp, ?_, ?_, ?_⟩, ?_⟩
        · show Stt _ _ _ _ _
          rw [← List.append_assoc]
          exact Stt.of_full HR.out.sta HC.out.2 hxb hxl (by rw [← HC.out.2]; omega) hb5
        · exact HKK.out.grown hg5 (by simpa using hb2)
        · exact ((HG.out.trans hg3).trans (Lib.grownBy_setCell w3 b 72 _)).trans hg5
        · show (rest.extract c rest.size).size < rest.size
          rw [HE.out]; omega
      · have hm1 : ¬ ((n : Int) + (c : Int)) % 64 = 0 := by omega
        go_wp2
        refine ⟨⟨rest.extract c rest.size, past ++ xs, putL m (n % 64) xs, rfl, HSp, ?_, ?_, ?_⟩, ?_⟩
        · show Stt _ _ _ _ _
          rw [← List.append_assoc]
          exact Stt.of_more HR.out.sta HC.out.2 hxb hxl (by rw [← HC.out.2]; omega) (by rw [HCa.out]; exact HW.out)
        · exact (HK2.out.grown hg3 (by simpa using hb2)).grown (Lib.grownBy_setCell w3 b 72 _) (by simpa using hb2)
        · exact (HG.out.trans hg3).trans (Lib.grownBy_setCell w3 b 72 _)
        · show (rest.extract c rest.size).size < rest.size
          rw [HE.out]; omega
    · have hr0 : rest.size = 0 := by omega
      go_wp2
      go_end0
      refine ⟨rfl, ⟨m, ?_⟩, HG.out⟩
      have : byl rest = [] := List.eq_nil_of_length_eq_zero (by rw [byl_length, hr0])
      have e := HP.out
      rw [this, List.append_nil] at e
      rw [e]
      exact HR.out
end Go.Proofs.YtbfdggkoildfkaaDoor
