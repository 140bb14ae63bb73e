import Derived.Test.YteccnnpialaalaaDoorY1
import Derived.Test.YteccnnpialaalaaDoorY2
import Derived.Test.YteccnnpialaalaaDoorY11
import Derived.Lib.ConvBytes
import Derived.Great.FillDense
import Derived.Deep.MidRow
import Derived.Test.YteccnnpialaalaaDoorY4
import Derived.Test.YteccnnpialaalaaDoorY9
import Derived.Laws.ResultCell
import Derived.OrdersHeld
import Derived.RegionTactic
/- The walk of wire.short. -/
namespace Go.Proofs.YteccnnpialaalaaDoor
open Go.RowKit
set_option linter.unusedSimpArgs false
set_option linter.unusedVariables false
theorem ret_sh (s : ByteArray) (a b : Int) (h : (a = shN s) ∧ b = shK s) : Ending.returned (.tuple #[.int .u64 a, .int .i64 b]) = .returned (.tuple #[.int .u64 (shN s), .int .i64 (shK s)]) := by rw [h.1, h.2]
theorem sh_none (s : ByteArray) (h : decS (bl s) = none) : (0 : Int) = shN s ∧ (0 : Int) = shK s := by simp [shN, shK, h]
theorem sh_some (s : ByteArray) (n k : Nat) (a b : Int) (h : decS (bl s) = some (n, k)) (ha : a = n) (hb : b = k) : a = shN s ∧ b = shK s := by simp [shN, shK, h, ha, hb]
theorem sh_good (s : ByteArray) (k acc : Nat) (H : decS (bl s) = dec k acc ((bl s).drop k) ∧ (k ≤ 9 → acc < 128 ^ k)) (h : k < s.size) (hk : k < 10) (hb : s[k].toNat < 128)
    (hc : ¬ ((s[k].toNat = 0 ∧ 0 < k) ∨ (1 < s[k].toNat ∧ k = 9))) :
    bits .or .u64 (acc : Int) (IntKind.u64.wrap (IntKind.u64.wrap (bits .and .u8 (s[k].toNat : Int) 127) * 2 ^ (7 * k))) = shN s ∧ (k : Int) + 1 = shK s := by
  obtain ⟨H1, H2⟩ := H
  rw [dec_good s k acc h hk hb hc] at H1
  have e := (accStep acc s[k].toNat k (by omega) (H2 (by omega)) (by omega)).1
  refine sh_some s _ _ _ _ H1 ?_ (by omega)
  rw [e, Nat.mod_eq_of_lt hb]
theorem sh_zero (s : ByteArray) (k acc : Nat) (H : decS (bl s) = dec k acc ((bl s).drop k) ∧ (k ≤ 9 → acc < 128 ^ k)) (h : k < s.size) (hk : k = 0) (hb : s[k].toNat = 0) :
    bits .or .u64 (acc : Int) (IntKind.u64.wrap (IntKind.u64.wrap (bits .and .u8 0 127))) = shN s ∧ (1 : Int) = shK s := by
  subst hk
  have e := sh_good s 0 acc H h (by omega) (by omega) (by omega)
  rw [hb] at e
  simpa using e
set_option maxHeartbeats 800000 in
theorem short_any (s : ByteArray) (w : World) (hs : s.size ≤ maxLen) :
    Calls Tryd.prog 76 #[.string s] w fun e w' => e = .returned (.tuple #[.int .u64 (shN s), .int .i64 (shK s)]) ∧ w' = w := by
  unfold maxLen at hs
  go_enter Tryd.func76, Tryd.ntmps76
  go_wp2
  all_goals
    go_loop [2, 9] (fun v i => ∃ (k acc : Nat), k ≤ s.size ∧ k ≤ 10 ∧ acc < 2 ^ 64 ∧ i = .int .i64 k ∧ v = .int .u64 acc ∧ Hid (decS (bl s) = dec k acc ((bl s).drop k) ∧ (k ≤ 9 → acc < 128 ^ k))) (fun _ i => 10 - (intOf i).toNat)
    case atStart => exact ⟨0, 0, by omega, by omega, by omega, rfl, rfl, ⟨rfl, fun _ => by omega⟩⟩
    case round =>
      obtain ⟨k, acc, hk1, hk2, hacc, rfl, rfl, HR⟩ := hrel
      by_cases hlt : k < s.size ∧ k < 10
      · obtain ⟨g1, g2⟩ := hlt
        by_cases hb : (128 : Int) ≤ s[k].toNat
        · go_wp2
          go_round
          case rel =>
            obtain ⟨R1, R2⟩ := HR.out
            have hlt256 := s[k].toNat_lt
            rw [dec_more s k acc g1 g2 (by omega)] at R1
            by_cases h9 : k = 9
            · obtain ⟨m, hm, hm2⟩ := bits_or_lt (acc : Int) (IntKind.u64.wrap (IntKind.u64.wrap (bits .and .u8 (s[k].toNat : Int) 127) * 2 ^ (7 * k)))
              refine ⟨k + 1, m, by omega, by omega, hm2, by go_num, by rw [hm], ⟨?_, fun h => by omega⟩⟩
              rw [R1, dec_ten _ _ _ (by omega), dec_ten _ _ _ (by omega)]
            · obtain ⟨e1, e2⟩ := accStep acc s[k].toNat k hlt256 (R2 (by omega)) (by omega)
              exact ⟨k + 1, _, by omega, by omega, e2, by go_num, by rw [e1], ⟨R1, fun _ => accNext _ _ _ (R2 (by omega))⟩⟩
          case measure => simp [intOf]; omega
        · go_wp2
          all_goals go_ret2
          all_goals refine ⟨ret_sh s _ _ ?_, rfl⟩
          all_goals first
            | exact sh_good s k acc HR.out g1 g2 (by omega) (by simp_all; omega)
            | exact sh_none s (by rw [HR.out.1]; exact dec_bad s k acc g1 g2 (by omega) (by simp_all; omega))
            | exact sh_zero s k acc HR.out g1 (by assumption) (by assumption)
      · go_wp2
        go_ret2
        refine ⟨ret_sh s _ _ (sh_none s ?_), rfl⟩
        rw [HR.out.1]
        by_cases e : k = 10
        · exact dec_ten _ _ _ (by omega)
        · rw [List.drop_of_length_le (by rw [bl_length]; omega)]; rfl
end Go.Proofs.YteccnnpialaalaaDoor
/- The walks of a reader's Uint and Text. -/
namespace Go.Proofs.YteccnnpialaalaaDoor
open Go.RowKit
set_option linter.unusedSimpArgs false
set_option linter.unusedVariables false
set_option maxHeartbeats 400000 in
theorem uint_nil (w : World) :
    Calls Tryd.prog 65 #[.pointer none] w fun e w' => e = .returned (.tuple #[.int .u64 0, .int .i64 2]) ∧ w' = w := by
  go_enter Tryd.func65, Tryd.ntmps65
  go_wp2
  go_ret2
  exact ⟨rfl, rfl⟩
set_option maxHeartbeats 400000 in
theorem uint_no (s : ByteArray) (b : Nat) (w : World) (hs : s.size ≤ maxLen) (hc : w.cell? ⟨b, 0, none⟩ = some (.string s)) (hf : w.frozen? ⟨b, 0, none⟩ = false) (hb : b < w.heap.size) (hk : shK s = 0) :
    Calls Tryd.prog 65 #[.pointer (some ⟨b, 0, none⟩)] w fun e w' => e = .returned (.tuple #[.int .u64 0, .int .i64 4]) ∧ Step b w w' s := by
  have HS := still hb hc hf
  have hk' : ((shK s : Int) == 0) = true := by simp [hk]
  clear hk
  go_enter Tryd.func65, Tryd.ntmps65
  go_wp2_with (go_at_call 76; refine (short_any s _ hs).mono ?_; rintro e w' ⟨rfl, rfl⟩)
  go_ret2
  exact ⟨rfl, HS⟩
set_option maxHeartbeats 400000 in
theorem uint_ok (s : ByteArray) (b : Nat) (w : World) (hs : s.size ≤ maxLen) (hc : w.cell? ⟨b, 0, none⟩ = some (.string s)) (hf : w.frozen? ⟨b, 0, none⟩ = false) (hb : b < w.heap.size) (hk : shK s ≠ 0) :
    Calls Tryd.prog 65 #[.pointer (some ⟨b, 0, none⟩)] w fun e w' => e = .returned (.tuple #[.int .u64 (shN s), .int .i64 0]) ∧ Step b w w' (s.extract (shK s) s.size) := by
  have hs' := hs
  unfold maxLen at hs'
  have hk2 := shK_le s
  have hk' : ((shK s : Int) == 0) = false := by simp [hk]
  clear hk
  go_enter Tryd.func65, Tryd.ntmps65
  go_wp2_with (go_at_call 76; refine (short_any s _ hs).mono ?_; rintro e w' ⟨rfl, rfl⟩)
  refine (taker_any _ _).mono ?_
  rintro e w1 ⟨rfl, rfl⟩
  go_wp2_with fail
  refine (take1_ok s b w'.heap.size (shK s) 0 _ hs (al_ptr _ _ _) (al_cell _ hb hc) (al_frozen _ hb hf) (by omega)).mono ?_
  rintro e w1 ⟨rfl, rfl⟩
  go_wp2
  go_ret2
  exact ⟨rfl, taken _ hb hc hf⟩
end Go.Proofs.YteccnnpialaalaaDoor
/- parity: names as a row of their own, put one behind the other. -/
namespace Go.Proofs.YteccnnpialaalaaDoor
open Go.RowKit
set_option linter.unusedSimpArgs false
set_option linter.unusedVariables false
theorem infoP17 {T : TypeId} {z : Value} {n b : Nat} (h : (Tryd.prog.info? T).map (fun i => (i.zero, i.size, i.bytes)) = some (some z, n, b)) : ∃ i, Tryd.prog.info? T = some i ∧ i.zero = some z ∧ i.size = n ∧ i.bytes = b := by
  cases hi : Tryd.prog.info? T with
  | none => rw [hi] at h; cases h
  | some i => rw [hi] at h; simp only [Option.map_some, Option.some.injEq, Prod.mk.injEq] at h; exact ⟨i, rfl, h.1, h.2.1, h.2.2⟩
theorem inf_id17 : (Tryd.prog.info? 27).map (fun i => (i.zero, i.size, i.bytes)) = some (some (.agg z32c), 32, 32) := by kernel_rfl
def ivs (l : List ByteArray) : List Value := l.flatMap (fun s => (idc s).toList)
theorem ivs_snoc (l : List ByteArray) (x : ByteArray) : ivs (l ++ [x]) = ivs l ++ (idc x).toList := by simp [ivs]
theorem ivs_len : ∀ {l : List ByteArray}, (∀ x ∈ l, x.size = 32) → (ivs l).length = l.length * 32
  | [], _ => by simp [ivs]
  | x :: l, h => by
    have ih := ivs_len (l := l) (fun y hy => h y (List.mem_cons_of_mem _ hy))
    have e : ivs (x :: l) = (idc x).toList ++ ivs l := rfl
    rw [e, List.length_append, ih, Array.length_toList, idc_size, h x (List.mem_cons_self ..), List.length_cons]; omega
theorem ivs_get : ∀ {l : List ByteArray}, (∀ x ∈ l, x.size = 32) → ∀ {i : Nat} {x : ByteArray}, l[i]? = some x → ∀ j, j < 32 → (ivs l)[i * 32 + j]? = (idc x)[j]?
  | [], _, i, x, h, _, _ => by simp at h
  | y :: l, hs, 0, x, h, j, hj => by
    simp only [List.getElem?_cons_zero, Option.some.injEq] at h
    subst h
    have e : ivs (y :: l) = (idc y).toList ++ ivs l := rfl
    rw [e, Nat.zero_mul, Nat.zero_add, List.getElem?_append_left (by rw [Array.length_toList, idc_size, hs y (List.mem_cons_self ..)]; exact hj), Array.getElem?_toList]
  | y :: l, hs, i + 1, x, h, j, hj => by
    rw [List.getElem?_cons_succ] at h
    have hx := hs y (List.mem_cons_self ..)
    have e : ivs (y :: l) = (idc y).toList ++ ivs l := rfl
    rw [e, List.getElem?_append_right (by rw [Array.length_toList, idc_size, hx]; omega), Array.length_toList, idc_size, hx, ← ivs_get (l := l) (fun z hz => hs z (List.mem_cons_of_mem _ hz)) h j hj]
    congr 1
    omega
theorem idc_oneI (s : ByteArray) : ∀ v ∈ (idc s).toList, v.oneCell' = true := fun v hv => bvc_one _ v (by simpa [idc] using hv)
/-- Where such a row lies. -/
theorem own_ids {w : World} {B n : Nat} {v : Value} {l : List ByteArray} (h : w.ownsRow B 27 32 v n (ivs l)) (hn : l.length = n) (hs : ∀ x ∈ l, x.size = 32) :
    ∃ a c, v = .slice a n c ∧ NmL w a l ∧ n ≤ c ∧ (a = none ∧ n = 0 ∨ ∃ g, a = some ⟨g, 0, none⟩ ∧ B ≤ g) := by
  rcases h.2 with ⟨h1, h0⟩ | ⟨g, cap, cur, h1, hle, hg, hnc, hsz, hone, ht⟩
  · subst h1
    refine ⟨none, 0, by rw [h0], fun i e he => ?_, by omega, .inl ⟨rfl, h0⟩⟩
    have : l = [] := List.length_eq_zero_iff.1 (by omega)
    rw [this] at he
    cases he
  · refine ⟨some ⟨g, 0, none⟩, cap, h1, fun i e he => ?_, hnc, .inr ⟨g, rfl, hle⟩⟩
    have hb : Bk w g cur 27 := hg
    have hi : i < l.length := (List.getElem?_eq_some_iff.1 he).1
    have h32 := hs e (List.mem_of_getElem? he)
    refine ⟨h32, g, 0, rfl, hb.lt, fun j u hu => ?_⟩
    have hj : j < 32 := by
      have := (Array.getElem?_eq_some_iff.1 hu).1
      rw [idc_size, h32] at this
      exact this
    have := ivs_get hs he j hj
    rw [hu, ← ht, List.getElem?_take, if_pos (by omega), Array.getElem?_toList] at this
    rw [hb.cell, Nat.zero_add]
    exact this
/-- One more behind it. -/
theorem ids_app {B k o : Nat} {w : World} {l : List ByteArray} {v : Value} {x : ByteArray} (h : w.ownsRow B 27 32 v l.length (ivs l)) (hB : B ≤ w.heap.size) (hx : x.size = 32) (hk : ∀ j u, (idc x)[j]? = some u → w.cell? ⟨k, o + j, none⟩ = some u) (hn : (l.length + 1) * 32 ≤ 140737488355328) :
    ∃ g cp w7, (Builtin.append_ #[23, 23] 23 #[v, .slice (some ⟨k, o, none⟩) 1 1]).run Tryd.prog w = .ok (.slice (some ⟨g, 0, none⟩) (l.length + 1) cp) w7 ∧
      w7.ownsRow B 27 32 (.slice (some ⟨g, 0, none⟩) (l.length + 1) cp) (l.length + 1) (ivs (l ++ [x])) ∧ l.length + 1 ≤ cp ∧ w.grownBy w7 v.ownBlock := by
  obtain ⟨i0, hi, hz0, hz1, hz2⟩ := infoP17 inf_id17
  obtain ⟨v', w7, hrun, hown, hgrow, _, hat⟩ := run_append_own_at (P := Tryd.prog) (w := w) B 23 23 27 i0 (.agg z32c) 32 32 Tryd.underlying23 hi hz0 hz1 hz2 rfl (by decide) v l.length (ivs l) h ⟨k, o, none⟩ 1 1 (idc x).toList (by rw [Array.length_toList, idc_size, hx])
    (fun j u hu => by
      rw [WideShapes.add_plain]
      rw [Array.getElem?_toList] at hu
      exact hk j u hu) (idc_oneI x) (by unfold maxLen; omega) (by omega) hB
  have ho : w7.ownsRow B 27 32 v' (l.length + 1) (ivs (l ++ [x])) := by rw [ivs_snoc]; exact hown
  obtain ⟨g, cp, hv, hcp⟩ : ∃ g cp, v' = .slice (some ⟨g, 0, none⟩) (l.length + 1) cp ∧ l.length + 1 ≤ cp := by
    rcases ho.2 with ⟨_, h0⟩ | ⟨g7, c7, cur, h1, _, _, h2, _⟩
    · omega
    · exact ⟨g7, c7, h1, h2⟩
  subst hv
  exact ⟨g, cp, w7, hrun, ho, hcp, hgrow⟩
theorem ids_nil (w : World) (B : Nat) : w.ownsRow B 27 32 (.slice none 0 0) ([] : List ByteArray).length (ivs []) := ⟨rfl, .inl ⟨rfl, rfl⟩⟩
/-- A conversion's bytes, as a name's. -/
theorem conv_new17 (s : ByteArray) (hs : s.size = 32) (u : World) : ∃ (cap : Nat) (W : World), (convert 9 48 (.string s)).run Tryd.prog u = .ok (.slice (some ⟨u.heap.size, 0, none⟩) 32 cap) W ∧
    Below u.heap.size u W ∧ W.heap.size = u.heap.size + 1 ∧ (∀ j v, (idc s)[j]? = some v → W.cell? ⟨u.heap.size, j, none⟩ = some v) := by
  refine ⟨grownCap u s.size 0 5, Lib.bytesWorld u 5 s, ?_, ?_, Lib.bytesWorld_size _ _ _, ?_⟩
  · rw [Lib.run_convert_string_bytes u _ _ _ s Tryd.underlying9 Tryd.underlying48 Tryd.underlying5, hs]
  · refine ⟨?_, ?_, ?_, by rw [Lib.bytesWorld_size]; omega, fun k hk => Lib.bytesWorld_at_old _ _ _ _ hk⟩
    all_goals simp [Lib.bytesWorld, World.freeze, World.alloc, World.drew, -World.alloc_eq, -World.drew_eq]
  · intro j v hv
    have hj : j < 32 := by
      have := (Array.getElem?_eq_some_iff.1 hv).1
      rwa [idc_size, hs] at this
    have hj' : j < s.size := by omega
    rw [Lib.bytesWorld_cell u 5 s j hj', ← hv, idc_get s j hj']
    have hd : j < s.data.toList.length := by rw [Array.length_toList]; exact hj'
    rw [List.getD, List.getElem?_eq_getElem hd]
    rfl
theorem build1_17 (cells : Array Value) (hc : cells.size = 32) (w : World) : (Instr.buildSlice 23 1 #[(0, .agg cells)]).run Tryd.prog w = .ok (.slice (some ⟨w.heap.size, 0, none⟩) 1 1) (w.alloc (.cells cells 27)) := by
  obtain ⟨i0, hi, hz0, hz1, hz2⟩ := infoP17 inf_id17
  refine run_buildSlice w _ 27 1 _ _ i0 (.agg z32c) Tryd.underlying23 hi hz0 (by rw [hz1]; decide) (by rw [hz1]; decide) ?_
  rw [hz1]
  have := Go.Great.fill_whole (by decide : 0 < 32) [.agg cells] ((Array.range (1 * 32)).map ((Value.agg z32c).cells[· % (Value.agg z32c).cells.size]!)) (fun v hv => by rw [List.mem_singleton.1 hv]; exact hc) (by simp)
  simp only [List.zipIdx_cons, List.zipIdx_nil, List.map_cons, List.map_nil, List.flatMap_cons, List.flatMap_nil, List.append_nil] at this
  rw [this]
  rfl
theorem arr17 (a : Option Addr) (c : Nat) (w : World) : (Instr.arrayAt 27 (.slice a 32 c)).run Tryd.prog w = .ok (.pointer a) w := run_arrayAt Tryd.underlying27 a 32 c (by decide) w
end Go.Proofs.YteccnnpialaalaaDoor
/- idx.takeEntry. -/
namespace Go.Proofs.YteccnnpialaalaaDoor
open Go.RowKit
set_option linter.unusedSimpArgs false
set_option linter.unusedVariables false
theorem Step.then {b : Nat} {w w1 w2 : World} {s1 s2 : ByteArray} (h1 : Step b w w1 s1) (h2 : Step b w1 w2 s2) : Step b w w2 s2 :=
  ⟨h2.os.trans h1.os, h2.tape.trans h1.tape, h2.output.trans h1.output, Nat.le_trans h1.size h2.size, h2.cell, h2.frozen, fun k hk hne => (h2.block k (Nat.lt_of_lt_of_le hk h1.size) hne).trans (h1.block k hk hne)⟩
theorem cell_blkX {w w' : World} {r j : Nat} (h : w'.heap[r]? = w.heap[r]?) : w'.cell? ⟨r, j, none⟩ = w.cell? ⟨r, j, none⟩ ∧ w'.frozen? ⟨r, j, none⟩ = w.frozen? ⟨r, j, none⟩ := by simp [World.cell?, World.frozen?, h]
theorem z35_size : z35X.size = 35 := rfl
theorem xe_eq (C : Array Value) (e : Xe) (h : e.id.size = 32) (hC : C.size = 35) (h1 : ∀ j, j < 32 → C[j]? = (idc e.id)[j]?) (h2 : C[32]? = some (.int .u8 (e.k.toNat : Int))) (h3 : C[33]? = some (.int .i64 e.off)) (h4 : C[34]? = some (.int .i64 e.sz)) : C = xeC e := by
  obtain ⟨k1, k2, k3⟩ := xeC_at e h
  apply Array.ext_getElem?
  intro i
  by_cases q : i < 32
  · have hi : i < (idc e.id).size := by rw [idc_size, h]; exact q
    have := xeC_id e h i _ (Array.getElem?_eq_getElem hi)
    rw [Nat.zero_add] at this
    rw [h1 i q, this, Array.getElem?_eq_getElem hi]
  · by_cases q2 : i < 35
    · have : i = 32 ∨ i = 33 ∨ i = 34 := by omega
      rcases this with rfl | rfl | rfl
      · rw [h2, k1]
      · rw [h3, k2]
      · rw [h4, k3]
    · rw [Array.getElem?_eq_none (by omega), Array.getElem?_eq_none (by rw [xeC_size e h]; omega)]
theorem bl_ex (t : ByteArray) (k : Nat) : bl (t.extract k t.size) = (bl t).drop k := by
  rw [bl_extract, List.take_of_length_le (by rw [bl_length]; exact Nat.le_refl _)]
theorem ex_size (t : ByteArray) (k : Nat) : (t.extract k t.size).size = t.size - k := by
  rw [← bl_length, bl_ex, List.length_drop, bl_length]
end Go.Proofs.YteccnnpialaalaaDoor
/- parity: what a table's reader takes; while it is taken. -/
namespace Go.Proofs.YteccnnpialaalaaDoor
open Go.RowKit
set_option linter.unusedSimpArgs false
set_option linter.unusedVariables false
def unN17 (t : ByteArray) : Nat := if shK t = 0 then 0 else shN t
def unE17 (t : ByteArray) : Int := if shK t = 0 then 4 else 0
def unR17 (t : ByteArray) : ByteArray := if shK t = 0 then t else t.extract (shK t) t.size
theorem unN17_lt (t : ByteArray) : unN17 t < 18446744073709551616 := by
  unfold unN17
  split
  · omega
  · exact shN_lt t
theorem unR17_size (t : ByteArray) : (unR17 t).size ≤ t.size := by
  unfold unR17
  split
  · exact Nat.le_refl _
  · rw [ByteArray.size_extract]; omega
theorem unE17_or (t : ByteArray) : unE17 t = 0 ∨ unE17 t = 4 := by unfold unE17; split <;> simp
theorem uint17 (b : Nat) (t : ByteArray) (W : World) (hc : W.cell? ⟨b, 0, none⟩ = some (.string t)) (hf : W.frozen? ⟨b, 0, none⟩ = false) (hb : b < W.heap.size) (ht : t.size ≤ maxLen) : Calls Tryd.prog 65 #[.pointer (some ⟨b, 0, none⟩)] W fun e w' => e = .returned (.tuple #[.int .u64 ((unN17 t : Nat) : Int), .int .i64 (unE17 t)]) ∧ Step b W w' (unR17 t) := by
  by_cases hk : shK t = 0
  · refine (uint_no t b W ht hc hf hb hk).mono ?_
    rintro e w' ⟨rfl, hs⟩
    exact ⟨by rw [unN17, unE17, if_pos hk, if_pos hk]; rfl, by rw [unR17, if_pos hk]; exact hs⟩
  · refine (uint_ok t b W ht hc hf hb hk).mono ?_
    rintro e w' ⟨rfl, hs⟩
    exact ⟨by rw [unN17, unE17, if_neg hk, if_neg hk], by rw [unR17, if_neg hk]; exact hs⟩
/-- What is left behind i numbers; the number i. -/
def rd17 (p : ByteArray) : Nat → ByteArray
  | 0 => p
  | i + 1 => unR17 (rd17 p i)
def nm17 (p : ByteArray) (i : Nat) : Nat := unN17 (rd17 p i)
def okN17 (p : ByteArray) (i : Nat) : Prop := unE17 (rd17 p i) = 0 ∧ nm17 p i ≤ 67108864
instance (p : ByteArray) (i : Nat) : Decidable (okN17 p i) := by unfold okN17; infer_instance
theorem rd17_size (p : ByteArray) : ∀ i, (rd17 p i).size ≤ p.size
  | 0 => Nat.le_refl _
  | i + 1 => Nat.le_trans (unR17_size _) (rd17_size p i)
/-- The four, as far as they are taken. -/
def c417 (p : ByteArray) (i : Nat) : Array Value := #[.int .i64 (if 0 < i then (nm17 p 0 : Int) else 0), .int .i64 (if 1 < i then (nm17 p 1 : Int) else 0), .int .i64 (if 2 < i then (nm17 p 2 : Int) else 0), .int .i64 (if 3 < i then (nm17 p 3 : Int) else 0)]
theorem c417_zero (p : ByteArray) : c417 p 0 = #[.int .i64 0, .int .i64 0, .int .i64 0, .int .i64 0] := rfl
theorem c417_four (p : ByteArray) : c417 p 4 = #[.int .i64 (nm17 p 0 : Int), .int .i64 (nm17 p 1 : Int), .int .i64 (nm17 p 2 : Int), .int .i64 (nm17 p 3 : Int)] := rfl
theorem c417_next (p : ByteArray) (i : Nat) (h : i < 4) : (c417 p i).setIfInBounds i (.int .i64 (nm17 p i : Int)) = c417 p (i + 1) := by
  have h4 : i = 0 ∨ i = 1 ∨ i = 2 ∨ i = 3 := by omega
  rcases h4 with rfl | rfl | rfl | rfl <;> rfl
theorem c417_get (p : ByteArray) (i : Nat) (h : i < 4) : ∃ x : Int, (c417 p i)[i]? = some (.int .i64 x) := by
  have h4 : i = 0 ∨ i = 1 ∨ i = 2 ∨ i = 3 := by omega
  rcases h4 with rfl | rfl | rfl | rfl <;> exact ⟨_, rfl⟩
/-- The name i of a text; the first n. -/
def row17 (T : ByteArray) (i : Nat) : ByteArray := T.extract (32 * i) (32 * i + 32)
def rows17 (T : ByteArray) (n : Nat) : List ByteArray := (List.range n).map (row17 T)
theorem rows17_len (T : ByteArray) (n : Nat) : (rows17 T n).length = n := by simp [rows17]
theorem rows17_next (T : ByteArray) (n : Nat) : rows17 T (n + 1) = rows17 T n ++ [row17 T n] := by simp [rows17, List.range_succ]
theorem row17_size (T : ByteArray) (i : Nat) (h : 32 * i + 32 ≤ T.size) : (row17 T i).size = 32 := by rw [row17, ByteArray.size_extract]; omega
theorem rows17_size (T : ByteArray) (n : Nat) (h : 32 * n ≤ T.size) : ∀ x ∈ rows17 T n, x.size = 32 := by
  intro x hx
  obtain ⟨i, hi, rfl⟩ := List.mem_map.1 hx
  rw [List.mem_range] at hi
  exact row17_size T i (by omega)
theorem rows17_get (T : ByteArray) (n i : Nat) (h : i < n) : (rows17 T n)[i]? = some (row17 T i) := by simp [rows17, h]
/-- A payload that is a table's. -/
structure Tk17 (p : ByteArray) : Prop where
  num : ∀ i, i < 4 → okN17 p i
  one : nm17 p 0 = 1
  len : 32 * ((rd17 p 4).size / 32) = (rd17 p 4).size
  may : okT (nm17 p 1) (nm17 p 2) (nm17 p 3) ((rd17 p 4).size / 32) = true
def zT17 : Array Value := #[.int .i64 0, .int .i64 0, .int .i64 0, .slice none 0 0]
/-- A table's cells that were taken, its names in a row of its own above B. -/
def TbR (p : ByteArray) (B : Nat) (C : Array Value) (W : World) : Prop :=
  ∃ v, C = #[.int .i64 (nm17 p 1 : Int), .int .i64 (nm17 p 2 : Int), .int .i64 (nm17 p 3 : Int), v] ∧ W.ownsRow B 27 32 v ((rd17 p 4).size / 32) (ivs (rows17 (rd17 p 4) ((rd17 p 4).size / 32)))
/-- The answer: a table, or the refusal. -/
def TkA (p : ByteArray) (B : Nat) (C : Array Value) (E : Int) (W : World) : Prop := (Tk17 p ∧ TbR p B C W ∧ E = 0) ∨ (¬ Tk17 p ∧ C = zT17 ∧ E = 4)
theorem TbR.below {p : ByteArray} {B : Nat} {C : Array Value} {W W' : World} (h : TbR p B C W) (hb : Below W.heap.size W W') : TbR p B C W' := by
  obtain ⟨v, h1, h2⟩ := h
  exact ⟨v, h1, rows_keep h2 (fun g _ hg => hb.block g hg)⟩
theorem TkA.below {p : ByteArray} {B : Nat} {C : Array Value} {E : Int} {W W' : World} (h : TkA p B C E W) (hb : Below W.heap.size W W') : TkA p B C E W' := by
  rcases h with ⟨a, b, c⟩ | h
  · exact .inl ⟨a, b.below hb, c⟩
  · exact .inr h
/-- While numbers are taken. -/
structure TkW (w : World) (b : Nat) (t : ByteArray) (C4 : Array Value) (W : World) : Prop where
  rd : Step b w W t
  b2 : Bk W w.heap.size zT17 29
  b4 : Bk W (w.heap.size + 1) C4 53
  bl : b < w.heap.size
theorem TkW.new (w : World) (b : Nat) (t : ByteArray) (hc : w.cell? ⟨b, 0, none⟩ = some (.string t)) (hf : w.frozen? ⟨b, 0, none⟩ = false) (hb : b < w.heap.size) : TkW w b t (c417 t 0) ((w.alloc (.cells zT17 29)).alloc (.cells #[.int .i64 0, .int .i64 0, .int .i64 0, .int .i64 0] 53)) := by
  have h := bk_new (w.alloc (.cells zT17 29)) #[.int .i64 0, .int .i64 0, .int .i64 0, .int .i64 0] 53
  rw [al_size] at h
  exact ⟨Step.of_below (((Below.refl _ _).alloc (Nat.le_refl _) _).alloc (by rw [al_size]; omega) _) hb hc hf, (bk_new _ _ _).alloc _, h, hb⟩
theorem TkW.step {w W W' : World} {b : Nat} {t t' : ByteArray} {C : Array Value} (h : TkW w b t C W) (hs : Step b W W' t') : TkW w b t' C W' := by
  have hb := h.bl
  refine ⟨h.rd.then hs, ?_, ?_, hb⟩
  · unfold Bk; rw [hs.block _ h.b2.lt (by omega)]; exact h.b2
  · unfold Bk; rw [hs.block _ h.b4.lt (by omega)]; exact h.b4
theorem TkW.lt {w W : World} {b : Nat} {t : ByteArray} {C : Array Value} (h : TkW w b t C W) : b < W.heap.size := Nat.lt_of_lt_of_le h.bl h.rd.size
theorem TkW.next {w W W' : World} {b : Nat} {t : ByteArray} {C : Array Value} (h : TkW w b t C W) (hb : Below W.heap.size W W') : TkW w b t C W' :=
  h.step (Step.of_below hb h.lt h.rd.cell h.rd.frozen)
/-- A block that is neither the reader's nor an elder one turns. -/
theorem Step.turn17 {w W W' : World} {b g : Nat} {t : ByteArray} (h : Step b w W t) (hb : b < w.heap.size) (hg : W.grownBy W' (some g)) (hle : w.heap.size ≤ g) : Step b w W' t := by
  have hne : ∀ k, k < w.heap.size → some k ≠ some g := fun k hk e => by injection e with e; omega
  have hlt : b < W.heap.size := Nat.lt_of_lt_of_le hb h.size
  have q := cell_blkX (j := 0) (hg.block b hlt (hne b hb))
  exact ⟨hg.os.trans h.os, hg.tape.trans h.tape, hg.output.trans h.output, Nat.le_trans h.size hg.size, by rw [q.1]; exact h.cell, by rw [q.2]; exact h.frozen, fun k hk hk2 => (hg.block k (Nat.lt_of_lt_of_le hk h.size) (hne k hk)).trans (h.block k hk hk2)⟩
theorem TkW.put4 {w W W' : World} {b : Nat} {t : ByteArray} {C C' : Array Value} (h : TkW w b t C W) (hg : W.grownBy W' (some (w.heap.size + 1))) (hn : Bk W' (w.heap.size + 1) C' 53) : TkW w b t C' W' :=
  ⟨h.rd.turn17 h.bl hg (by omega), h.b2.grown hg (fun e => by injection e with e; omega), hn, h.bl⟩
theorem TkW.set {w W : World} {b : Nat} {t : ByteArray} {C : Array Value} (h : TkW w b t C W) (i : Nat) (v : Value) : TkW w b t (C.setIfInBounds i v) (W.setCell ⟨w.heap.size + 1, i, none⟩ v) :=
  h.put4 (Lib.grownBy_setB (World.grownBy.refl W _) i _) (h.b4.set i _)
theorem TkW.up {w W W' : World} {b B : Nat} {t : ByteArray} {C : Array Value} (h : TkW w b t C W) (hb : Below B W W') (hB : w.heap.size + 1 < B) (hB2 : B ≤ W.heap.size) : TkW w b t C W' := by
  have hbl := h.bl
  have q := cell_blkX (j := 0) (hb.block b (by omega))
  have hr := h.rd
  exact ⟨⟨hb.os.trans hr.os, hb.tape.trans hr.tape, hb.output.trans hr.output, Nat.le_trans hr.size hb.size, by rw [q.1]; exact hr.cell, by rw [q.2]; exact hr.frozen, fun k hk hk2 => (hb.block k (by omega)).trans (hr.block k hk hk2)⟩, h.b2.below hb (by omega), h.b4.below hb (by omega), hbl⟩
/-- While names are taken. -/
structure TkV (w : World) (b : Nat) (t : ByteArray) (C4 : Array Value) (g8 : Nat) (d p z : Int) (v : Value) (l : List ByteArray) (W : World) : Prop where
  tw : TkW w b t C4 W
  b8 : Bk W g8 #[.int .i64 d, .int .i64 p, .int .i64 z, v] 29
  ow : W.ownsRow (g8 + 1) 27 32 v l.length (ivs l)
  g8 : w.heap.size + 1 < g8
theorem TkV.step {w W W' : World} {b g8 : Nat} {t t' : ByteArray} {C : Array Value} {d p z : Int} {v : Value} {l : List ByteArray} (h : TkV w b t C g8 d p z v l W) (hs : Step b W W' t') : TkV w b t' C g8 d p z v l W' := by
  have hb := h.tw.bl
  have h8 := h.g8
  refine ⟨h.tw.step hs, ?_, rows_keep h.ow (fun g hle hg => hs.block g hg (by omega)), h8⟩
  unfold Bk; rw [hs.block _ h.b8.lt (by omega)]; exact h.b8
theorem TkV.next {w W W' : World} {b g8 : Nat} {t : ByteArray} {C : Array Value} {d p z : Int} {v : Value} {l : List ByteArray} (h : TkV w b t C g8 d p z v l W) (hb : Below W.heap.size W W') : TkV w b t C g8 d p z v l W' :=
  h.step (Step.of_below hb h.tw.lt h.tw.rd.cell h.tw.rd.frozen)
/-- The names' row grows. -/
structure TkU (w : World) (b : Nat) (t : ByteArray) (C4 : Array Value) (g8 : Nat) (d p z : Int) (v0 v : Value) (l : List ByteArray) (W : World) : Prop where
  tw : TkW w b t C4 W
  b8 : Bk W g8 #[.int .i64 d, .int .i64 p, .int .i64 z, v0] 29
  ow : W.ownsRow (g8 + 1) 27 32 v l.length (ivs l)
  g8 : w.heap.size + 1 < g8
theorem TkV.app {w W : World} {b g8 k o : Nat} {t : ByteArray} {C : Array Value} {d p z : Int} {v : Value} {l : List ByteArray} {x : ByteArray} (h : TkV w b t C g8 d p z v l W) (hx : x.size = 32) (hk : ∀ j u, (idc x)[j]? = some u → W.cell? ⟨k, o + j, none⟩ = some u) (hn : (l.length + 1) * 32 ≤ 140737488355328) :
    ∃ g cp W7, (Builtin.append_ #[23, 23] 23 #[v, .slice (some ⟨k, o, none⟩) 1 1]).run Tryd.prog W = .ok (.slice (some ⟨g, 0, none⟩) (l.length + 1) cp) W7 ∧
      TkU w b t C g8 d p z v (.slice (some ⟨g, 0, none⟩) (l.length + 1) cp) (l ++ [x]) W7 := by
  have h8 := h.g8
  have hlt := h.b8.lt
  obtain ⟨g, cp, w7, hr, ho, hc, hg⟩ := ids_app h.ow (by omega) hx hk hn
  refine ⟨g, cp, w7, hr, ?_⟩
  have hb : Below (g8 + 1) W w7 := rows_bel (Below.refl _ _) (by omega) h.ow (Nat.le_refl _) hg
  refine ⟨h.tw.up hb (by omega) (by omega), h.b8.below hb (by omega), ?_, h8⟩
  rw [List.length_append]
  exact ho
/-- The row is put into the table. -/
theorem TkU.put {w W : World} {b g8 : Nat} {t : ByteArray} {C : Array Value} {d p z : Int} {v0 v : Value} {l : List ByteArray} (h : TkU w b t C g8 d p z v0 v l W) : TkV w b t C g8 d p z v l (W.setCell ⟨g8, 3, none⟩ v) := by
  have hg : W.grownBy (W.setCell ⟨g8, 3, none⟩ v) (some g8) := Lib.grownBy_setB (World.grownBy.refl W _) 3 _
  have h8 := h.g8
  have hs := h.b8.set 3 v
  refine ⟨⟨h.tw.rd.turn17 h.tw.bl hg (by omega), h.tw.b2.grown hg (fun e => by injection e with e; omega), h.tw.b4.grown hg (fun e => by injection e with e; omega), h.tw.bl⟩, hs, rows_keep h.ow (fun g hle hlt => hg.block g hlt (fun e => by injection e with e; omega)), h8⟩
theorem TkV.cells {w W : World} {b g8 : Nat} {t : ByteArray} {C : Array Value} {d p z : Int} {v : Value} {l : List ByteArray} (h : TkV w b t C g8 d p z v l W) : W.cell? ⟨g8, 0, none⟩ = some (.int .i64 d) ∧ W.cell? ⟨g8, 1, none⟩ = some (.int .i64 p) ∧ W.cell? ⟨g8, 2, none⟩ = some (.int .i64 z) ∧ W.cell? ⟨g8, 3, none⟩ = some v ∧ W.frozen? ⟨g8, 3, none⟩ = false := by
  refine ⟨?_, ?_, ?_, ?_, h.b8.frozen 3⟩ <;> rw [h.b8.cell] <;> rfl
end Go.Proofs.YteccnnpialaalaaDoor
/- A region that draws its order, where what is held of the world need not be held behind its last store: a load that the store waits for may be taken first. No program is named here. -/
namespace Go.Proofs.YteccnnpialaalaaDoor
open Go.RowKit
set_option linter.unusedSimpArgs false
set_option linter.unusedVariables false
/-- S is asked behind every operation but q. -/
def wpBut (P : Program) (ops : Array Oper) (Q : Exit → Act → World → Prop) (S : World → Prop) (q : Nat) : Nat → Array Bool → Act → World → Prop
  | 0, listed, a, w => Region.ready .any ops listed = [] ∧ Q .normal a w
  | f + 1, listed, a, w => (Region.ready .any ops listed = [] → Q .normal a w) ∧ ∀ i ∈ Region.ready .any ops listed, wpOp P ops Q i (fun a' w' => (i = q ∨ S w') ∧ wpBut P ops Q S q f (listed.setIfInBounds i true) a' w') a w
section
variable {P : Program} {ops : Array Oper} {Q : Exit → Act → World → Prop} {S : World → Prop} {q : Nat}
theorem wpBut.any : ∀ (f : Nat) (listed : Array Bool) (a : Act) (w : World), wpBut P ops Q S q f listed a w → wpAny P .any ops Q f listed a w
  | 0, _, _, _, h => h
  | f + 1, _, _, _, h => ⟨h.1, fun i hi => wpOp_mono (fun a' w' k => wpBut.any f _ a' w' k.2) (h.2 i hi)⟩
theorem unlisted_ne {listed : Array Bool} {i : Nat} {o : Oper} {j : Nat} (hj : j ∈ Region.ready .any ops listed) (ho : ops[j]? = some o) (hi : i ∈ Region.ready .any ops listed) : ∀ e ∈ o.after, Region.binds .any e = true → e.on ≠ i := fun e he hb heq => by
  obtain ⟨_, o', ho', hall⟩ := mem_ready.1 hj
  rw [ho] at ho'
  injection ho' with ho'
  subst ho'
  have h1 := hall e he hb
  have h0 := (mem_ready.1 hi).1
  rw [heq] at h1
  cases hx : listed[i]? with
  | none => simp [hx] at h1
  | some b => simp [hx] at h0 h1; rw [h0] at h1; cases h1
/-- i may be taken first, if q waits for it. -/
theorem wpBut.first {i : Nat} {oi oq : Oper} {v : Value} (hi : ops[i]? = some oi) (hq : ops[q]? = some oq) (hqi : ∃ e ∈ oq.after, Region.binds .any e = true ∧ e.on = i) (hne : i ≠ q)
    (hsel : ∀ (j : Nat) (o : Oper) cs b, ops[j]? = some o → o.op ≠ .select cs b) (hQ : ∀ c a w, Q (.panic c) (a.put oi.dst v) w → Q (.panic c) a w) :
    ∀ (f : Nat) (listed : Array Bool) (a : Act) (w : World), (∀ j oj, ops[j]? = some oj → j ≠ i → listed.getD j true = false → (∀ e ∈ oj.after, Region.binds .any e = true → e.on ≠ i) → oi.apart ops oj = true) →
      i ∈ Region.ready .any ops listed → YieldsIf P ops S oi v a → S w → wpBut P ops Q S q f (listed.setIfInBounds i true) (a.put oi.dst v) w → wpBut P ops Q S q (f + 1) listed a w := by
  intro f
  induction f with
  | zero =>
    intro listed a w _ hr hy hS H
    refine ⟨fun h => (by rw [h] at hr; cases hr), fun j hj => ?_⟩
    by_cases hji : j = i
    · subst hji; exact hy.wpOp hi hS ⟨.inr hS, H⟩
    · have := ready_mono hj hji
      rw [H.1] at this
      cases this
  | succ f ih =>
    intro listed a w hfree hr hy hS H
    refine ⟨fun h => (by rw [h] at hr; cases hr), fun j hj => ?_⟩
    by_cases hji : j = i
    · subst hji; exact hy.wpOp hi hS ⟨.inr hS, H⟩
    · have h1 := H.2 j (ready_mono hj hji)
      obtain ⟨hjun, oj, hoj, _⟩ := mem_ready.1 hj
      have hnot := unlisted_ne hj hoj hr
      have hjq : j ≠ q := fun e => by
        subst e
        rw [hq] at hoj
        injection hoj with hoj
        subst hoj
        obtain ⟨e, he, hb, hon⟩ := hqi
        exact hnot e he hb hon
      have h2 := wpOp_putIf hoj (hfree j oj hoj hji hjun hnot) (fun cs b => hsel i oi cs b hi) (fun cs b => hsel j oj cs b hoj) hQ hy h1
      refine wpOp_mono (fun a' w' h3 => ?_) h2
      have hS' : S w' := by
        rcases h3.2.1 with e | e
        · exact absurd e hjq
        · exact e
      refine ⟨.inr hS', ih (listed.setIfInBounds j true) a' w' (fun k ok hk hki hun hno => ?_) (ready_mono hr (Ne.symm hji)) h3.1 hS' ?_⟩
      · refine hfree k ok hk hki ?_ hno
        by_cases hjk : j = k
        · subst hjk; exact hjun
        · rwa [getD_set_ne true hjk] at hun
      · rw [Array.setIfInBounds_comm _ _ hji]
        exact h3.2.2
theorem wpBut.take {i : Nat} {oi oq : Oper} {v : Value} {f : Nat} {listed : Array Bool} {a : Act} {w : World} (hi : ops[i]? = some oi) (hq : ops[q]? = some oq) (hqi : (oq.after.any fun e => Region.binds .any e && decide (e.on = i)) = true) (hne : (i == q) = false)
    (hs : Region.noSelect ops = true) (hf : Region.free .any ops listed i = true) (hr : (Region.ready .any ops listed).contains i = true)
    (hQ : ∀ c a w, Q (.panic c) (a.put oi.dst v) w → Q (.panic c) a w) (hy : YieldsIf P ops S oi v a) (hS : S w)
    (h : wpBut P ops Q S q f (listed.setIfInBounds i true) (a.put oi.dst v) w) : wpBut P ops Q S q (f + 1) listed a w := by
  refine wpBut.first hi hq ?_ (by simpa using hne) (Region.noSelect_spec hs) hQ f listed a w (Region.free_spec hi hf) (by simpa using hr) hy hS h
  obtain ⟨k, hk, h⟩ := Array.any_eq_true.1 hqi
  simp only [Bool.and_eq_true, decide_eq_true_eq] at h
  exact ⟨_, Array.getElem_mem hk, h.1, h.2⟩
/-- An operation's step; a structure, so that nobody runs it to see what it says. -/
structure At1 (P : Program) (ops : Array Oper) (Q : Exit → Act → World → Prop) (o : Oper) (a : Act) (w : World) (K : Act → World → Prop) : Prop where
  out : if Region.wanted o (yielded ops a.tmps) = true then Oper.wp P o a w K Q else K (a.put o.dst undef) w
/-- The one that may come up now. -/
theorem wpBut.one {i : Nat} {o : Oper} {f : Nat} {listed : Array Bool} {a : Act} {w : World} (hr : Region.ready .any ops listed = [i]) (hi : ops[i]? = some o)
    (h : ∀ K : Act → World → Prop, (∀ a' w', (i = q ∨ S w') → wpBut P ops Q S q f (listed.setIfInBounds i true) a' w' → K a' w') → At1 P ops Q o a w K) : wpBut P ops Q S q (f + 1) listed a w := by
  refine ⟨fun e => (by rw [hr] at e; cases e), fun j hj => ?_⟩
  rw [hr, List.mem_singleton] at hj
  subst hj
  exact wpOp_step hi fun K hK => (h K fun a' w' h1 h2 => hK a' w' ⟨h1, h2⟩).out
theorem wpBut.done {listed : Array Bool} {a : Act} {w : World} (hr : Region.ready .any ops listed = []) (h : Q .normal a w) : ∀ f, wpBut P ops Q S q f listed a w
  | 0 => ⟨hr, h⟩
  | _ + 1 => ⟨fun _ => h, by rw [hr]; simp⟩
theorem wpBut.region {id : Nat} {a : Act} {w : World} (S : World → Prop) (q : Nat) (hm : P.follows .mixedOrders = true) (h : wpBut P ops Q S q ops.size (Array.replicate ops.size false) a w.drew) : (Code.region id ops true).wp P Q a w :=
  wp_region_any hm (wpBut.any _ _ _ _ h)
/-- What yields without the world. -/
theorem yld_if {o : Oper} {a : Act} {v : Value} (hgd : o.guard = none) (hv : ∀ w, S w → (execOp a.eval o).run P w = .ok (.value v) w) : YieldsIf P ops S o v a := .inl ⟨by simp [Region.wanted, hgd], hv⟩
end
theorem step_stX {P : Program} {ops : Array Oper} {o : Oper} {a : Act} {w w' : World} {K : Act → World → Prop} {Q : Exit → Act → World → Prop} {E : Prop} (hgd : o.guard = none) (t : TypeId) (x y : Operand)
    (ho : o.op = .store t x y) (p : Addr) (v : Value) (hx : a.eval x = .pointer (some p)) (hy : a.eval y = v) (hr : (storeVar t p v).run P w = .ok () w')
    (h : K (a.put o.dst undef) w') : if Region.wanted o (yielded ops a.tmps) = true then Oper.wp P o a w K Q else E := by
  have hw : Region.wanted o (yielded ops a.tmps) = true := by simp [Region.wanted, hgd]
  rw [if_pos hw]
  unfold Oper.wp execOp
  simp only [ho, Sem.run_bind, Sem.run_pure, Result.andThen_ok, hx, hy, Instr.storeAt, Instr.sureAddr, hr]
  exact h
theorem at_cv {P : Program} {ops : Array Oper} {o : Oper} {a : Act} {w : World} {K : Act → World → Prop} {Q : Exit → Act → World → Prop} (hgd : o.guard = none) {w' : World} (t u : TypeId) (x : Operand) (ho : o.op = .convert t u x) (v r : Value) (hx : a.eval x = v) (hr : (convert t u v).run P w = .ok r w') (h : K (a.put o.dst r) w') : At1 P ops Q o a w K := ⟨step_cvX hgd t u x ho v r w' hx hr h⟩
theorem at_ar {P : Program} {ops : Array Oper} {o : Oper} {a : Act} {w : World} {K : Act → World → Prop} {Q : Exit → Act → World → Prop} (hgd : o.guard = none) (t : TypeId) (x : Operand) (ho : o.op = .sliceToArrayPointer t x) (v r : Value) (hx : a.eval x = v) (hr : (Instr.arrayAt t v).run P w = .ok r w) (h : K (a.put o.dst r) w) : At1 P ops Q o a w K := ⟨step_arX hgd t x ho v r hx hr h⟩
theorem at_ld {P : Program} {ops : Array Oper} {o : Oper} {a : Act} {w : World} {K : Act → World → Prop} {Q : Exit → Act → World → Prop} (hgd : o.guard = none) (t : TypeId) (x : Operand) (ho : o.op = .load t x) (p : Addr) (r : Value) (hx : a.eval x = .pointer (some p)) (hr : (loadVar t p).run P w = .ok r w) (h : K (a.put o.dst r) w) : At1 P ops Q o a w K := ⟨step_ldX hgd t x ho p r hx hr h⟩
theorem at_bs {P : Program} {ops : Array Oper} {o : Oper} {a : Act} {w : World} {K : Act → World → Prop} {Q : Exit → Act → World → Prop} (hgd : o.guard = none) {w' : World} (t : TypeId) (x : Operand) (ho : o.op = .buildSlice t 1 #[(0, x)]) (v r : Value) (hx : a.eval x = v) (hr : (Instr.buildSlice t 1 #[(0, v)]).run P w = .ok r w') (h : K (a.put o.dst r) w') : At1 P ops Q o a w K := ⟨step_bsX hgd t x ho v r w' hx hr h⟩
theorem at_app {P : Program} {ops : Array Oper} {o : Oper} {a : Act} {w : World} {K : Act → World → Prop} {Q : Exit → Act → World → Prop} (hgd : o.guard = none) {w' : World} (sl x : Operand) (t u : TypeId) (ho : o.op = .call { callee := .builtin .append, args := #[sl, x], argTypes := #[t, u] }) (v y v' : Value) (hs : a.eval sl = v) (hx : a.eval x = y) (hr : (Builtin.append_ #[t, u] o.type #[v, y]).run P w = .ok v' w') (h : K (a.put o.dst v') w') : At1 P ops Q o a w K := ⟨step_appX hgd sl x t u ho v y v' w' hs hx hr h⟩
theorem at_st {P : Program} {ops : Array Oper} {o : Oper} {a : Act} {w : World} {K : Act → World → Prop} {Q : Exit → Act → World → Prop} (hgd : o.guard = none) {w' : World} (t : TypeId) (x y : Operand) (ho : o.op = .store t x y) (p : Addr) (v : Value) (hx : a.eval x = .pointer (some p)) (hy : a.eval y = v) (hr : (storeVar t p v).run P w = .ok () w') (h : K (a.put o.dst undef) w') : At1 P ops Q o a w K := ⟨step_stX hgd t x y ho p v hx hy hr h⟩
end Go.Proofs.YteccnnpialaalaaDoor
