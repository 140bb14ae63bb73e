import Derived.Test.YtpfknjnigcefgaaGreatDoorY11
import Derived.RegionTactic
import Derived.BigRegion
import Derived.Laws.MakeOwn
import Derived.Test.YtpfknjnigcefgaaGreatDoorY44
import Derived.Test.YtpfknjnigcefgaaGreatDoorY13
import Derived.Test.YtpfknjnigcefgaaGreatDoorY23
import Derived.Test.YtpfknjnigcefgaaGreatDoorY12
/- idx.take. -/
namespace Go.Proofs.YtpfknjnigcefgaaGreatDoor
open Go.RowKit
set_option linter.unusedSimpArgs false
set_option linter.unusedVariables false
/-- A row that is being filled. -/
structure TkR (w : World) (s : ByteArray) (b g m : Nat) (t : ByteArray) (l : List Xe) (wr : World) : Prop where
  rc : wr.cell? ⟨b, 0, none⟩ = some (.string t)
  rf : wr.frozen? ⟨b, 0, none⟩ = false
  rl : b < wr.heap.size
  row : ∃ C, Bk wr g C 34 ∧ C.size = m * 35 ∧ ∀ i e, l[i]? = some e → ∀ j, j < 35 → C[i * 35 + j]? = (xeC e)[j]?
  bel : Below w.heap.size w wr
  hb : w.heap.size < b
  hg : b < g
  zb : Bk wr w.heap.size (idc s) 23
theorem TkR.step {w wr w' : World} {s t t' : ByteArray} {b g m : Nat} {l : List Xe} (h : TkR w s b g m t l wr) (hs : Step b wr w' t') : TkR w s b g m t' l w' := by
  have h1 := h.hb
  have h2 := h.hg
  obtain ⟨C, c1, c2⟩ := h.row
  refine ⟨hs.cell, hs.frozen, Nat.lt_of_lt_of_le h.rl hs.size, ⟨C, ?_, c2⟩, h.bel.trans (hs.below (by omega) h.bel.size), h.hb, h.hg, ?_⟩
  · unfold Bk; rw [hs.block _ c1.lt (by omega)]; exact c1
  · unfold Bk; rw [hs.block _ h.zb.lt (by omega)]; exact h.zb
theorem TkR.put {w wr w' : World} {s t : ByteArray} {b g m : Nat} {l : List Xe} {C' : Array Value} {e : Xe} (h : TkR w s b g m t l wr) (hg : wr.grownBy w' (some g)) (hC : Bk w' g C' 34) (hz : C'.size = m * 35) (hn : ∀ i e', (l ++ [e])[i]? = some e' → ∀ j, j < 35 → C'[i * 35 + j]? = (xeC e')[j]?) : TkR w s b g m t (l ++ [e]) w' := by
  have h1 := h.hb
  have h2 := h.hg
  have q := cell_blkX (j := 0) (hg.block b h.rl (fun e => by injection e with e; omega))
  refine ⟨by rw [q.1]; exact h.rc, by rw [q.2]; exact h.rf, Nat.lt_of_lt_of_le h.rl hg.size, ⟨C', hC, hz, hn⟩, below_own h.bel h.bel.size hg (by omega), h.hb, h.hg, ?_⟩
  unfold Bk; rw [hg.block _ h.zb.lt (fun e => by injection e with e; omega)]; exact h.zb
theorem take_snocXt {l : List Xe} {k : Nat} {e : Xe} (h : l[k]? = some e) : l.take (k + 1) = l.take k ++ [e] := by
  rw [List.take_add_one, h]; rfl
theorem inf_xe3 : (Tryz.prog.info? 34).map (fun i => (i.zero, i.size, i.bytes)) = some (some (.agg z35X), 35, 56) := inf_xe
theorem make_xe (n : Nat) (hn : n ≤ 65536) (u : World) : (Instr.makeSlice 25 (.int .i64 (n : Int)) (.int .i64 (n : Int))).run Tryz.prog u = .ok (.slice (some ⟨u.heap.size, 0, none⟩) n n) (u.alloc (.cells (madeCells (Value.agg z35X).cells (n * 35)) 34)) := by
  obtain ⟨i0, hi, hz0, hz1, hz2⟩ := info_parts inf_xe
  have h := run_makeSlice u 25 34 i0 (.agg z35X) Tryz.underlying25 hi hz0 .i64 .i64 (n : Int) (n : Int) (by omega) (Int.le_refl _) (by rw [hz1]; omega) (by rw [hz2]; omega) (by omega)
  rw [hz1, Int.toNat_natCast] at h
  exact h
set_option maxHeartbeats 4000000 in
set_option maxRecDepth 100000 in
theorem itake_any (S : ByteArray) (w : World) (h1 : 1064 ≤ S.size) (h2 : S.size ≤ 2688040) :
    Calls Tryz.prog 37 #[.string S] w fun e w' => ∃ g n, e = .returned (.tuple #[.agg (idc (rdS (bl S))), .slice (some ⟨g, 0, none⟩) n n]) ∧ n = (S.size - 1064) / 41 ∧ XeL w' (some ⟨g, 0, none⟩) (rdA (bl S)) ∧ Below w.heap.size w w' := by
  obtain ⟨s, hs⟩ : ∃ s, rdS (bl S) = s := ⟨_, rfl⟩
  have hss : s.size = 32 := by
    rw [← hs, ← bl_length]
    show (((bl S).drop 4).take 32).length = 32
    rw [List.length_take, List.length_drop, bl_length]; omega
  obtain ⟨x, hx⟩ : ∃ x, S.extract 4 S.size = x := ⟨_, rfl⟩
  have hxs : x.size = S.size - 4 := by rw [← hx]; exact ex_size S 4
  have hxb : (byl x).take 32 = byl s := by
    rw [← hs, ← hx]
    show List.take 32 ((bl (S.extract 4 S.size)).map UInt8.toNat) = ((((bl S).drop 4).take 32).map UInt8.toNat)
    rw [bl_ex, List.map_take]
  have hsl := slice32 w.heap.size
  have hcp : ∀ W, Bk W w.heap.size z32c 23 → ∀ ty, (Builtin.copy_ #[82, 9] ty #[.slice (some ⟨w.heap.size, 0, none⟩) 32 32, .string x]).run Tryz.prog W = .ok (goInt 32) (W.setCells w.heap.size 0 (bvc (byl s))) := fun W hW ty => by
    have hi : (Tryz.prog.info? 5).map (·.size) = some 1 := by kernel_rfl
    have hm : Nat.min x.size 32 = 32 := by rw [hxs]; exact Nat.min_eq_right (by omega)
    have q := copy_str W 82 9 ty 5 w.heap.size 0 32 32 x Tryz.underlying82 hi (fun j hj => by
      rw [hm] at hj
      rw [hW.cell, Nat.zero_add, Array.getElem?_eq_getElem (by rw [z32c_size]; omega)]; rfl) (fun j _ => hW.frozen _)
    rw [hm, hxb] at q
    exact q
  have hz := zero_id
  have c1 := hcp (w.alloc (.cells z32c 23)) (bk_new _ _ _)
  have c2 := hcp (w.alloc (.cells z32c 23)).drew (bk_new _ _ _)
  have h4 : (4 : Int) ≤ S.size := by omega
  clear hcp hxb
  obtain ⟨T, hT⟩ : ∃ T, S.extract 1064 S.size = T := ⟨_, rfl⟩
  have hTs : T.size = S.size - 1064 := by rw [← hT]; exact ex_size S 1064
  have hTb : bl T = (bl S).drop 1064 := by rw [← hT]; exact bl_ex S 1064
  obtain ⟨n, hn⟩ : ∃ n, (S.size - 1064) / 41 = n := ⟨_, rfl⟩
  have hn6 : n ≤ 65536 := by omega
  have HN : Hid (41 * n ≤ T.size) := by show 41 * n ≤ T.size; omega
  have hmk := make_xe n hn6
  have hdv : (T.size : Int) / 41 = (n : Int) := by omega
  have h5 : (1064 : Int) ≤ S.size := by omega
  have hTm : T.size ≤ maxLen := by unfold maxLen; omega
  have hTq : T.size ≤ 2688040 := by omega
  obtain ⟨L, hL⟩ : ∃ L, rdA (bl S) = L := ⟨_, rfl⟩
  have hLl : L.length = n := by rw [← hL, rdA, rdL_len, bl_length, hn]
  have HLg : Hid (∀ k, k < n → L[k]? = some (rdXe ((bl T).drop (41 * k)))) := fun k hk => by
    rw [← hL, rdA, bl_length, hn, rdL_get _ _ _ hk, hTb]
  have HI : Hid ((Tryz.prog.info? 23).map (·.size) = some (idc s).size ∧ (idc s).all (·.oneCell') = true ∧ (idc s).size = 32 ∧ L.length = n) := ⟨info_32 (by rw [idc_size, hss]), idc_allX s, by rw [idc_size, hss], hLl⟩
  rw [hs, hL, hn]
  clear hTb hn hL hLl hs hTs
  go_enter Tryz.func37, Tryz.ntmps37
  go_wp2_with fail
  go_region
  have hput : putA z32c 0 (bvc (byl s)) = idc s := by
    have hle : 0 + (bvc (byl s)).length ≤ z32c.size := by rw [z32c_size]; simp [bvc, byl_length, hss]
    apply Array.ext_getElem?
    intro j
    rw [putA_get _ _ _ _ hle]
    by_cases hj : j < 32
    · rw [if_pos (by simp [bvc, byl_length, hss]; omega), idc, List.getElem?_toArray, Nat.sub_zero]
    · rw [if_neg (by simp [bvc, byl_length, hss]; omega), Array.getElem?_eq_none (by rw [z32c_size]; omega), Array.getElem?_eq_none (by rw [idc_size, hss]; omega)]
  have hB0 : Bk ((w.alloc (.cells z32c 23)).drew.setCells w.heap.size 0 (bvc (byl s))) w.heap.size (idc s) 23 := by
    rw [← hput]
    exact Blk.puts _ _ _ _ (bk_new _ _ _)
  have hbel : Below w.heap.size w ((w.alloc (.cells z32c 23)).drew.setCells w.heap.size 0 (bvc (byl s))) := below_own (((Below.refl _ _).alloc (Nat.le_refl _) _).drew) (by show w.heap.size ≤ (w.alloc _).heap.size; rw [al_size]; omega) (grown_puts _ _ _ (World.grownBy.refl _ _)) (Nat.le_refl _)
  obtain ⟨W1, hW1⟩ : ∃ W1, (w.alloc (.cells z32c 23)).drew.setCells w.heap.size 0 (bvc (byl s)) = W1 := ⟨_, rfl⟩
  rw [hW1] at hB0 hbel ⊢
  have H1 : Hid (Bk W1 w.heap.size (idc s) 23 ∧ Below w.heap.size w W1) := ⟨hB0, hbel⟩
  clear c1 c2 hz hsl hW1 hB0 hbel hput hx hxs hss h4
  go_wp2_with fail
  refine (new_any T W1).mono ?_
  rintro e w2 ⟨rfl, rfl⟩
  have H2 : Hid (Bk (W1.alloc (.cells #[.string T] 167)) W1.heap.size #[.string T] 167) := bk_new _ _ _
  have hcell : (W1.alloc (.cells #[.string T] 167)).cell? ⟨W1.heap.size, 0, none⟩ = some (.string T) := by rw [H2.out.cell]; rfl
  go_wp2_with fail
  refine (left_any T W1.heap.size _ hTm hcell).mono ?_
  rintro e w3 ⟨rfl, hw3⟩
  obtain rfl := hw3.symm
  have hsz : w.heap.size < W1.heap.size := H1.out.1.lt
  have T0 : Hid (TkR w s W1.heap.size (W1.heap.size + 1) n T (L.take 0) ((W1.alloc (.cells #[.string T] 167)).alloc (.cells (madeCells (Value.agg z35X).cells (n * 35)) 34))) := by
    have q := bk_new (W1.alloc (.cells #[.string T] 167)) (madeCells (Value.agg z35X).cells (n * 35)) 34
    rw [al_size] at q
    refine ⟨?_, (H2.out.alloc _).frozen _, (H2.out.alloc _).lt, ⟨_, q, by simp [madeCells], fun i e he => by simp at he⟩, (H1.out.2.alloc H1.out.2.size _).alloc (by rw [al_size]; have := H1.out.2.size; omega) _, hsz, by omega, (H1.out.1.alloc _).alloc _⟩
    rw [(H2.out.alloc _).cell]; rfl
  clear hcell H2 H1 hT h5
  obtain ⟨b, hb⟩ : ∃ b, W1.heap.size = b := ⟨_, rfl⟩
  go_wp2_with fail
  clear hdv hmk
  go_loopw [19] (fun v wr => ∃ (k : Nat) (t : ByteArray), v = .int .i64 k ∧ k ≤ n ∧ Hid (TkR w s b (b + 1) n t (L.take k) wr) ∧ Hid (bl t = (bl T).drop (41 * k))) (fun v _ => n - (intOf v).toNat)
  case atStart =>
    rw [hb] at T0
    exact ⟨0, T, rfl, Nat.zero_le _, T0.out, rfl⟩
  case round =>
    obtain ⟨k, t, rfl, hk, HR, HT⟩ := hrel
    clear T0
    by_cases hlt : k < n
    · have hkz : (k : Int) < (n : Nat) := by omega
      have ht : t.size = T.size - 41 * k := by
        have := congrArg List.length HT.out
        rw [List.length_drop, bl_length, bl_length] at this
        exact this
      have h41 := HN.out
      have HE : Hid (L[k]? = some (rdXe (bl t))) := by rw [HT.out]; exact HLg.out k hlt
      have hid : (rdXe (bl t)).id.size = 32 := by
        show (⟨((bl t).take 32).toArray⟩ : ByteArray).size = 32
        rw [← bl_length]
        show ((bl t).take 32).length = 32
        rw [List.length_take, bl_length]; omega
      have HCA : Hid (Calls Tryz.prog 82 #[.pointer (some ⟨b, 0, none⟩)] wr fun e w' => e = .returned (.agg (xeC (rdXe (bl t)))) ∧ Step b wr w' (t.extract 41 t.size)) := takeEntry_any t b wr HR.out.rc HR.out.rf HR.out.rl (by omega) (by omega)
      obtain ⟨E, hE⟩ : ∃ E, rdXe (bl t) = E := ⟨_, rfl⟩
      rw [hE] at HE hid HCA
      obtain ⟨X, hX⟩ : ∃ X, xeC E = X := ⟨_, rfl⟩
      rw [hX] at HCA
      have HIX : Hid ((Tryz.prog.info? 34).map (·.size) = some X.size ∧ X.all (·.oneCell') = true ∧ X.size = 35) := by rw [← hX]; exact ⟨info_xe (xeC_size _ hid), xeC_all _, xeC_size _ hid⟩
      have HXE : Hid (xeC E = X) := hX
      have HT2 : Hid (bl (t.extract 41 t.size) = (bl T).drop (41 * (k + 1))) := by
        show _ = _
        rw [bl_ex, HT.out, List.drop_drop]; congr 1
      clear hE hX hid ht h41
      go_wp2_with fail
      refine HCA.out.mono ?_
      rintro e w4 ⟨rfl, hst⟩
      have HR2 : Hid (TkR w s b (b + 1) n (t.extract 41 t.size) (L.take k) w4) := HR.out.step hst
      obtain ⟨C, hC1, hC2, hC3⟩ := HR2.out.row
      have HC : Hid (Bk w4 (b + 1) C 34 ∧ C.size = n * 35 ∧ ∀ i e, (L.take k)[i]? = some e → ∀ j, j < 35 → C[i * 35 + j]? = (xeC e)[j]?) := ⟨hC1, hC2, hC3⟩
      have hle : k * 35 + X.size ≤ C.size := by rw [HIX.out.2.2, hC2]; omega
      clear HR hst HCA hC1 hC2 hC3
      go_wp2_with (first
        | (refine wpList_put rfl 34 (.tmp 26) (.tmp 25) rfl (b + 1) (k * 35) C X 34 rfl rfl HC.out.1 HIX.out.1 hle HIX.out.2.1 ?_; intro w5 HB5 HG5 hz5)
        | fail)
      have hk35 : k * 35 + X.toList.length ≤ C.size := by rw [Array.length_toList]; exact hle
      have HR5 : Hid (TkR w s b (b + 1) n (t.extract 41 t.size) (L.take (k + 1)) w5) := by
        have e1 : L.take (k + 1) = L.take k ++ [E] := take_snocXt HE.out
        rw [e1]
        refine HR2.out.put HG5.out HB5.out (by rw [putC_size]; exact HC.out.2.1) (fun i e' he' j hj => ?_)
        rw [putC_get _ _ _ _ hk35, Array.length_toList, HIX.out.2.2]
        have hlk : (L.take k).length = k := by rw [List.length_take, HI.out.2.2.2]; omega
        by_cases hi : i < k
        · rw [List.getElem?_append_left (by rw [hlk]; exact hi)] at he'
          rw [if_neg (by omega)]
          exact HC.out.2.2 i e' he' j hj
        · have hi2 : i = k := by
            have := (List.getElem?_eq_some_iff.1 he').1
            rw [List.length_append, hlk, List.length_singleton] at this
            omega
          subst hi2
          rw [List.getElem?_append_right (by omega), hlk, Nat.sub_self, List.getElem?_cons_zero] at he'
          injection he' with he'
          subst he'
          rw [if_pos ⟨by omega, by omega⟩, Array.getElem?_toList, HXE.out, show i * 35 + j - i * 35 = j by omega]
      clear HR2 HB5 HG5 hz5 HC hk35 hle
      go_wp2
      go_roundw
      case rel => exact ⟨k + 1, _, by go_num, by omega, HR5.out, HT2.out⟩
      case measure => simp [intOf]; omega
    · have hkz : ¬ (k : Int) < (n : Nat) := by omega
      obtain rfl : k = n := by omega
      have HR9 : Hid (TkR w s b (b + 1) k t L wr) := by
        have := HR.out
        rw [List.take_of_length_le (by rw [HI.out.2.2.2]; omega)] at this
        exact this
      clear HR
      have HZ : Hid (Bk wr w.heap.size (idc s) 23) := HR9.out.zb
      have HI2 : Hid (L.length = k ∧ ∀ e ∈ L, e.id.size = 32) := ⟨HI.out.2.2.2, fun e he => by
        obtain ⟨i, hi⟩ := List.mem_iff_getElem?.1 he
        have hik : i < k := by rw [← HI.out.2.2.2]; exact (List.getElem?_eq_some_iff.1 hi).1
        rw [HLg.out i hik] at hi
        injection hi with hi
        rw [← hi]
        show (⟨(((bl T).drop (41 * i)).take 32).toArray⟩ : ByteArray).size = 32
        rw [← bl_length]
        show (((bl T).drop (41 * i)).take 32).length = 32
        have := HN.out
        rw [List.length_take, List.length_drop, bl_length]; omega⟩
      go_wp2_with (first
        | (refine wpList_get rfl 23 (.tmp 2) rfl w.heap.size 0 (idc s) (idc s) 23 _ rfl HZ.out (fun j v hv => by rw [Nat.zero_add]; exact hv) Tryz.underlying23 rfl HI.out.1 ?_)
        | (refine wpList_stoX rfl 23 (.tmp 2) (.tmp 28) rfl w.heap.size (idc s) (idc s) 23 rfl rfl HZ.out HI.out.1 rfl HI.out.2.1 ?_; intro w7 HB7 HG7)
        | fail)
      refine bodyPost_ret (results_cell_tmp_row rfl _ _ w.heap.size 23 (idc s) (0, 0) _ rfl HB7.out Tryz.underlying23 rfl HI.out.1) rfl ⟨b + 1, k, rfl, rfl, ?_, ?_⟩
      · intro i e he
        have h6 := HR9.out
        obtain ⟨C, c1, c2, c3⟩ := h6.row
        have hgg := h6.hg
        have hbb := h6.hb
        have hc7 : Bk w7 (b + 1) C 34 := by
          unfold Bk
          rw [HG7.out.block (b + 1) c1.lt (fun e => by injection e with e; omega)]
          exact c1
        have hid : e.id.size = 32 := HI2.out.2 e (List.mem_of_getElem? he)
        refine ⟨hid, b + 1, 0, rfl, hc7.lt, fun j v hv => ?_⟩
        have hj : j < 35 := by
          have := (Array.getElem?_eq_some_iff.1 hv).1
          rw [xeC_size e hid] at this; exact this
        rw [hc7.cell, Nat.zero_add, c3 i e he j hj, hv]
      · exact below_own HR9.out.bel HR9.out.bel.size HG7.out (Nat.le_refl _)
end Go.Proofs.YtpfknjnigcefgaaGreatDoor
/- idx.Open. -/
namespace Go.Proofs.YtpfknjnigcefgaaGreatDoor
open Go.RowKit
set_option linter.unusedSimpArgs false
set_option linter.unusedVariables false
theorem str_neX {x y : ByteArray} (h : x ≠ y) : (x.toList == y.toList) = false := by
  rw [beq_eq_false_iff_ne, Lib.toList_data, Lib.toList_data]
  intro e
  exact h (bl_inj e)
theorem isIx_size {S s : ByteArray} {l : List Xe} (h : IsIx S s l) : 1064 ≤ S.size ∧ S.size ≤ 2688040 := by
  have := congrArg List.length h.2.2
  rw [bl_length, ixB_len h.1 h.2.1.id] at this
  have := h.2.1.len
  omega
/-- What Open tells. -/
def OpS (S : ByteArray) (e : Ending) (w' : World) : Prop :=
  (e = .returned (.tuple #[.pointer none, .int .i64 4]) ∧ ∀ s l, ¬ IsIx S s l) ∨ ∃ g s l, e = .returned (.tuple #[.pointer (some ⟨g, 0, none⟩), .int .i64 0]) ∧ IsIx S s l ∧ IxS w' g s l
set_option maxHeartbeats 4000000 in
set_option maxRecDepth 100000 in
theorem open_any (S : ByteArray) (w : World) (hS : S.size ≤ 4611686018427387904) :
    Calls Tryz.prog 12 #[.string S] w fun e w' => OpS S e w' ∧ Below w.heap.size w w' := by
  by_cases h1 : S.size < 1064
  · have HN : Hid (∀ s l, ¬ IsIx S s l) := fun s l h => by have := isIx_size h; omega
    have h1z : (S.size : Int) < 1064 := by omega
    go_enter Tryz.func12, Tryz.ntmps12
    go_wp2
    go_ret2
    exact ⟨.inl ⟨rfl, HN.out⟩, Below.refl _ _⟩
  by_cases h2 : 2688040 < S.size
  · have HN : Hid (∀ s l, ¬ IsIx S s l) := fun s l h => by have := isIx_size h; omega
    have h1z : ¬ (S.size : Int) < 1064 := by omega
    have h2z : (2688040 : Int) < S.size := by omega
    go_enter Tryz.func12, Tryz.ntmps12
    go_wp2
    go_ret2
    exact ⟨.inl ⟨rfl, HN.out⟩, Below.refl _ _⟩
  have h1z : ¬ (S.size : Int) < 1064 := by omega
  have h2z : ¬ (2688040 : Int) < S.size := by omega
  obtain ⟨s, hs⟩ : ∃ s, rdS (bl S) = s := ⟨_, rfl⟩
  obtain ⟨l, hl⟩ : ∃ l, rdA (bl S) = l := ⟨_, rfl⟩
  have hss : s.size = 32 := by
    rw [← hs, ← bl_length]
    show (((bl S).drop 4).take 32).length = 32
    rw [List.length_take, List.length_drop, bl_length]; omega
  have hll : l.length = (S.size - 1064) / 41 := by rw [← hl, rdA, rdL_len, bl_length]
  have HT := itake_any S w (by omega) (by omega)
  rw [hs, hl] at HT
  have HQ : Hid (∀ s' l', IsIx S s' l' → s' = s ∧ l' = l) := fun s' l' h => by
    have := h.take
    rw [hs, hl] at this
    exact ⟨this.1.symm, this.2.symm⟩
  have HI : Hid ((Tryz.prog.info? 23).map (·.size) = some (idc s).size ∧ (idc s).all (·.oneCell') = true ∧ (idc s).size = 32) := ⟨info_32 (by rw [idc_size, hss]), idc_allX s, by rw [idc_size, hss]⟩
  have HSS : Hid (s.size = 32 ∧ l.length ≤ 65536) := ⟨hss, by rw [hll]; omega⟩
  obtain ⟨n, hn⟩ : ∃ n, (S.size - 1064) / 41 = n := ⟨_, rfl⟩
  rw [hn] at hll
  have HLL : Hid (l.length = n) := hll
  have hn6 : n ≤ 65536 := by omega
  have HTK2 : Hid (Calls Tryz.prog 37 #[.string S] w fun e w' => ∃ g, e = .returned (.tuple #[.agg (idc s), .slice (some ⟨g, 0, none⟩) n n]) ∧ XeL w' (some ⟨g, 0, none⟩) l ∧ Below w.heap.size w w')   := HT.mono fun e w' ⟨g, m, q1, q2, q3, q4⟩ => ⟨g, by rw [q1, q2, hn], q3, q4⟩
  clear HT hs hl hss hll hn
  go_enter Tryz.func12, Tryz.ntmps12
  go_wp2_with fail
  refine HTK2.out.mono ?_
  rintro e w1 ⟨g, rfl, hX1, hb1⟩
  have HX : Hid (XeL w1 (some ⟨g, 0, none⟩) l ∧ Below w.heap.size w w1) := ⟨hX1, hb1⟩
  obtain ⟨D, hD⟩ : ∃ D, idc s = D := ⟨_, rfl⟩
  have HDD : Hid (idc s = D) := hD
  rw [hD] at HI ⊢
  have H2 : Hid (Bk (w1.alloc (.cells D 23)) w1.heap.size D 23 ∧ Below w1.heap.size w1 (w1.alloc (.cells D 23))) := ⟨bk_new _ _ _, (Below.refl _ _).alloc (Nat.le_refl _) _⟩
  clear hX1 hb1 HTK2 hD
  go_wp2_with (first
    | (refine wpList_store_new rfl 23 (.tmp 4) (.tmp 18) rfl D _ 23 w1.heap.size rfl rfl rfl HI.out.1 (by rw [HI.out.2.2]; rfl) HI.out.2.1 ?_)
    | fail)
  obtain ⟨w2, hw2⟩ : ∃ w2, w1.alloc (.cells D 23) = w2 := ⟨_, rfl⟩
  rw [hw2] at H2 ⊢
  refine (mayBe_any l (some ⟨g, 0, none⟩) n n w2 (HX.out.1.below H2.out.2) HLL.out (by omega)).mono ?_
  rintro e w3 ⟨rfl, hb3⟩
  have H3 : Hid (Bk w3 w1.heap.size D 23 ∧ XeL w3 (some ⟨g, 0, none⟩) l ∧ Below w.heap.size w w3) := ⟨H2.out.1.below hb3 H2.out.1.lt, (HX.out.1.below H2.out.2).below hb3, (HX.out.2.trans (H2.out.2.mono HX.out.2.size)).trans (hb3.mono (Nat.le_trans HX.out.2.size H2.out.2.size))⟩
  clear hb3 H2 HX hw2
  cases hok : okR none l with
  | false =>
    have HN : Hid (∀ s' l', ¬ IsIx S s' l') := fun s' l' h => by
      obtain ⟨rfl, rfl⟩ := HQ.out s' l' h
      rw [(okR_iff l').2 ⟨h.2.1.ok, h.2.1.ri⟩] at hok
      cases hok
    clear hok
    go_wp2
    go_ret2
    exact ⟨.inl ⟨rfl, HN.out⟩, H3.out.2.2⟩
  | true =>
    have HOK : Hid (OkL l) := by
      obtain ⟨q1, q2⟩ := (okR_iff l).1 hok
      exact ⟨q1, H3.out.2.1.ids, q2, HSS.out.2⟩
    clear hok
    have HIO : Hid (Calls Tryz.prog 28 #[.agg D, .slice (some ⟨g, 0, none⟩) n n] w3 fun e w' => ∃ gI, e = .returned (.pointer (some ⟨gI, 0, none⟩)) ∧ IxS w' gI s l ∧ Below w.heap.size w w') := by
      rw [← HDD.out]
      exact (indexOf_any s l _ n n w3 HSS.out.1 H3.out.2.1 HLL.out (Nat.le_refl _) (.inr ⟨g, 0, rfl⟩) (by omega)).mono fun e w' ⟨gI, h1, h2, h3, h4⟩ => ⟨gI, h1, h3, H3.out.2.2.trans (h4.mono H3.out.2.2.size)⟩
    obtain ⟨R, hR⟩ : ∃ R : ByteArray, (⟨(ixB s l).toArray⟩ : ByteArray) = R := ⟨_, rfl⟩
    have HR : Hid ((⟨(ixB s l).toArray⟩ : ByteArray) = R) := hR
    clear hR
    by_cases hEq : R = S
    · have HIS : Hid (IsIx S s l) := ⟨HSS.out.1, HOK.out, by
        rw [← hEq, ← HR.out]; rfl⟩
      have hbq : (R.toList == S.toList) = true := by rw [hEq]; simp
      clear hEq
      go_wp2_with (first
        | (go_at_call 28; refine HIO.out.mono ?_; rintro e w4 ⟨gI, rfl, hI, hb4⟩; have H4 : Hid (IxS w4 gI s l ∧ Below w.heap.size w w4) := ⟨hI, hb4⟩; clear hI hb4)
        | (go_at_call 29; refine (bytes_any gI s l _ H4.out.1 HOK.out.ok HOK.out.len).mono ?_; rw [HR.out]; rintro e w5 ⟨rfl, hb5⟩; have H5 : Hid (Below w4.heap.size w4 w5) := hb5; clear hb5)
        | (refine wpList_get rfl 23 (.tmp 4) rfl w1.heap.size 0 D D 23 _ rfl H3.out.1 (fun j v hv => by rw [Nat.zero_add]; exact hv) Tryz.underlying23 rfl HI.out.1 ?_)
        | fail)
      go_ret2
      exact ⟨.inr ⟨gI, s, l, rfl, HIS.out, H4.out.1.below H5.out⟩, H4.out.2.trans (H5.out.mono H4.out.2.size)⟩
    · have HN : Hid (∀ s' l', ¬ IsIx S s' l') := fun s' l' h => by
        obtain ⟨rfl, rfl⟩ := HQ.out s' l' h
        apply hEq
        rw [← HR.out]
        apply bl_inj
        rw [h.2.2]; rfl
      have hbq := str_neX hEq
      clear hEq
      go_wp2_with (first
        | (go_at_call 28; refine HIO.out.mono ?_; rintro e w4 ⟨gI, rfl, hI, hb4⟩; have H4 : Hid (IxS w4 gI s l ∧ Below w.heap.size w w4) := ⟨hI, hb4⟩; clear hI hb4)
        | (go_at_call 29; refine (bytes_any gI s l _ H4.out.1 HOK.out.ok HOK.out.len).mono ?_; rw [HR.out]; rintro e w5 ⟨rfl, hb5⟩; have H5 : Hid (Below w4.heap.size w4 w5) := hb5; clear hb5)
        | (refine wpList_get rfl 23 (.tmp 4) rfl w1.heap.size 0 D D 23 _ rfl H3.out.1 (fun j v hv => by rw [Nat.zero_add]; exact hv) Tryz.underlying23 rfl HI.out.1 ?_)
        | fail)
      go_ret2
      exact ⟨.inl ⟨rfl, HN.out⟩, H4.out.2.trans (H5.out.mono H4.out.2.size)⟩
end Go.Proofs.YtpfknjnigcefgaaGreatDoor
/- The law's own: awake. -/
namespace Go.Proofs.YtpfknjnigcefgaaGreatDoor
open Go.RowKit
set_option linter.unusedSimpArgs false
set_option linter.unusedVariables false
/-- A name of one byte and noughts. -/
def tid (t : UInt8) : ByteArray := ⟨(t :: List.replicate 31 (0 : UInt8)).toArray⟩
theorem tid_size (t : UInt8) : (tid t).size = 32 := rfl
theorem idc_tid (t : UInt8) : idc (tid t) = #[.int .u8 (t.toNat : Int), .int .u8 0, .int .u8 0, .int .u8 0, .int .u8 0, .int .u8 0, .int .u8 0, .int .u8 0, .int .u8 0, .int .u8 0, .int .u8 0, .int .u8 0, .int .u8 0, .int .u8 0, .int .u8 0, .int .u8 0, .int .u8 0, .int .u8 0, .int .u8 0, .int .u8 0, .int .u8 0, .int .u8 0, .int .u8 0, .int .u8 0, .int .u8 0, .int .u8 0, .int .u8 0, .int .u8 0, .int .u8 0, .int .u8 0, .int .u8 0, .int .u8 0] := rfl
theorem built_tid (n : Int) : Tryz.prog.built 23 [(0, .int .u8 n)] = some #[.int .u8 n, .int .u8 0, .int .u8 0, .int .u8 0, .int .u8 0, .int .u8 0, .int .u8 0, .int .u8 0, .int .u8 0, .int .u8 0, .int .u8 0, .int .u8 0, .int .u8 0, .int .u8 0, .int .u8 0, .int .u8 0, .int .u8 0, .int .u8 0, .int .u8 0, .int .u8 0, .int .u8 0, .int .u8 0, .int .u8 0, .int .u8 0, .int .u8 0, .int .u8 0, .int .u8 0, .int .u8 0, .int .u8 0, .int .u8 0, .int .u8 0, .int .u8 0] := by kernel_rfl
theorem build_tid (t : UInt8) (w : World) : (Instr.build 23 #[(0, .int .u8 (t.toNat : Int))]).run Tryz.prog w = .ok (.agg (idc (tid t))) w := by
  rw [idc_tid]
  exact run_build w _ _ _ (built_tid _)
/-- Built, and opened. -/
theorem BdX.ix {s : ByteArray} {l : List Xe} {R : ByteArray} (h : BdX s l R) (hs : s.size = 32) (h0 : bE l = 0) : ∃ L, L.Perm l ∧ IsIx R s L := by
  obtain ⟨L, h1, h2, h3⟩ := h.2 h0
  exact ⟨L, h1, hs, h2, by rw [h3]; rfl⟩
theorem IsIx.one {R s s' : ByteArray} {l l' : List Xe} (h : IsIx R s l) (h' : IsIx R s' l') : s = s' ∧ l = l' := by
  have h1 := h.take
  have h2 := h'.take
  exact ⟨h1.1.symm.trans h2.1, h1.2.symm.trans h2.2⟩
theorem OpS.yes {S s : ByteArray} {l : List Xe} {e : Ending} {w : World} (h : OpS S e w) (hi : IsIx S s l) : ∃ g, e = .returned (.tuple #[.pointer (some ⟨g, 0, none⟩), .int .i64 0]) ∧ IxS w g s l := by
  rcases h with ⟨_, h2⟩ | ⟨g, s', l', h1, h2, h3⟩
  · exact absurd hi (h2 s l)
  · obtain ⟨rfl, rfl⟩ := hi.one h2
    exact ⟨g, h1, h3⟩
/-- Awake's entry. -/
def awX : Xe := ⟨tid 7, 1, 4, 2⟩
theorem awX_gd : GdX [awX] := ⟨fun e he => by rw [List.mem_singleton.1 he]; decide, by simp [Aprt], by simp⟩
theorem awX_list {L : List Xe} (h : L.Perm [awX]) : L = [awX] := List.perm_singleton.1 h
theorem build_awX (w : World) : (Instr.build 34 #[(0, .agg (idc (tid 7))), (1, .int .u8 1), (2, .int .i64 4), (3, .int .i64 2)]).run Tryz.prog w = .ok (.agg (xeC awX)) w := build_xe awX rfl w
theorem isIx_le {S s : ByteArray} {l : List Xe} (h : IsIx S s l) : S.size ≤ 4611686018427387904 := by have := isIx_size h; omega
set_option maxHeartbeats 4000000 in
set_option maxRecDepth 100000 in
theorem awake13 (w : World) : Calls Tryz.prog 11 #[] w fun e w' => e = .returned (.bool true) ∧ Below w.heap.size w w' := by
  obtain ⟨D7, hD7⟩ : ∃ D, idc (tid 7) = D := ⟨_, rfl⟩
  obtain ⟨D1, hD1⟩ : ∃ D, idc (tid 1) = D := ⟨_, rfl⟩
  obtain ⟨X, hX⟩ : ∃ X, xeC awX = X := ⟨_, rfl⟩
  have e1 : ∀ w, (Instr.build 23 #[(0, .int .u8 7)]).run Tryz.prog w = .ok (.agg D7) w := fun w => by rw [← hD7]; exact build_tid 7 w
  have e2 : ∀ w, (Instr.build 23 #[(0, .int .u8 1)]).run Tryz.prog w = .ok (.agg D1) w := fun w => by rw [← hD1]; exact build_tid 1 w
  have e3 : ∀ w, (Instr.build 34 #[(0, .agg D7), (1, .int .u8 1), (2, .int .i64 4), (3, .int .i64 2)]).run Tryz.prog w = .ok (.agg X) w := fun w => by rw [← hD7, ← hX]; exact build_awX w
  have HSL : Hid (∀ w, (Instr.buildSlice 25 1 #[(0, .agg X)]).run Tryz.prog w = .ok (.slice (some ⟨w.heap.size, 0, none⟩) 1 1) (w.alloc (.cells X 34))) := by rw [← hX]; exact slice_xe awX rfl
  have HI : Hid ((Tryz.prog.info? 23).map (·.size) = some D7.size ∧ D7.all (·.oneCell') = true ∧ D7.size = 32) := by rw [← hD7]; exact ⟨info_32 (by rw [idc_size, tid_size]), idc_allX _, by rw [idc_size, tid_size]⟩
  have HIX : Hid ((Tryz.prog.info? 34).map (·.size) = some X.size ∧ X.all (·.oneCell') = true ∧ X.size = 35) := by rw [← hX]; exact ⟨info_xe (xeC_size awX rfl), xeC_all _, xeC_size awX rfl⟩
  have HBD : Hid (∀ W : World, Calls Tryz.prog 6 #[.agg D1, .slice (some ⟨W.heap.size, 0, none⟩) 1 1] (W.alloc (.cells X 34)) fun e w' => ∃ R, e = .returned (.tuple #[.string R, .int .i64 0]) ∧ IsIx R (tid 1) [awX] ∧ Below W.heap.size W w') := fun W => by
    rw [← hD1, ← hX]
    have hxl : XeL (W.alloc (.cells (xeC awX) 34)) (some ⟨W.heap.size, 0, none⟩) [awX] := fun i e he => by
      have hb := bk_new W (xeC awX) 34
      have hi : i = 0 := by have := (List.getElem?_eq_some_iff.1 he).1; simp at this; exact this
      subst hi
      simp at he
      subst he
      exact ⟨rfl, W.heap.size, 0, rfl, hb.lt, fun j v hv => by rw [hb.cell]; simpa using hv⟩
    refine (ibuild_any sort_none (tid 1) [awX] _ 1 1 _ (tid_size 1) hxl rfl (.inr ⟨_, _, rfl⟩) (by omega)).mono ?_
    rintro e w' ⟨R, h1, h2, h3⟩
    obtain ⟨L, h4, h5⟩ := h2.ix (tid_size 1) awX_gd.bE
    rw [awX_list h4] at h5
    refine ⟨R, by rw [h1, awX_gd.bE], h5, ((Below.refl _ _).alloc (Nat.le_refl _) _).trans (h3.mono (by rw [al_size]; omega))⟩
  have HFD : Hid (∀ (g : Nat) (W : World), IxS W g (tid 1) [awX] → Calls Tryz.prog 36 #[.pointer (some ⟨g, 0, none⟩), .agg D7] W fun r w' => r = .returned (.tuple #[.agg X, .int .i64 0]) ∧ Below W.heap.size W w') := fun g W hW => by
    have hf : fnd [awX] (tid 7) = some awX := fnd_mem (l := [awX]) (e := awX) (by simp [Aprt]) List.mem_cons_self
    have := find_any g (tid 1) (tid 7) [awX] W hW (by simp [Rise]) rfl (by simp)
    rw [hf, hD7] at this
    rw [← hX]
    exact this
  have HX33 : Hid (X[33]? = some (.int .i64 4)) := by rw [← hX]; exact (xeC_at awX rfl).2.1
  have hz := zero_id
  have B0 : Hid (Bk (w.alloc (.cells D7 23)) w.heap.size D7 23 ∧ Below w.heap.size w (w.alloc (.cells D7 23))) := ⟨bk_new _ _ _, (Below.refl _ _).alloc (Nat.le_refl _) _⟩
  clear hD7 hD1 hX
  go_enter Tryz.func11, Tryz.ntmps11
  go_wp2_with (first
    | (refine wpList_bdX1 rfl 23 0 (.const (.int .u8 7)) rfl (.int .u8 7) (.agg D7) rfl (e1 _) ?_)
    | (refine wpList_bdX1 rfl 23 0 (.const (.int .u8 1)) rfl (.int .u8 1) (.agg D1) rfl (e2 _) ?_)
    | (refine wpList_store_new rfl 23 (.tmp 1) (.tmp 8) rfl D7 _ 23 w.heap.size rfl rfl rfl HI.out.1 (by rw [HI.out.2.2]; rfl) HI.out.2.1 ?_)
    | (refine wpList_get rfl 23 (.tmp 1) rfl w.heap.size 0 D7 D7 23 _ rfl B0.out.1 (fun j v hv => by rw [Nat.zero_add]; exact hv) Tryz.underlying23 rfl HI.out.1 ?_)
    | (refine wpList_bdX4 rfl 34 (.tmp 11) (.const (.int .u8 1)) (.const (.int .i64 4)) (.const (.int .i64 2)) rfl (.agg D7) (.int .u8 1) (.int .i64 4) (.int .i64 2) (.agg X) rfl rfl rfl rfl (e3 _) ?_)
    | (refine wpList_bsX rfl 25 (.tmp 12) rfl (.agg X) (.slice (some ⟨(w.alloc (.cells D7 23)).heap.size, 0, none⟩) 1 1) ((w.alloc (.cells D7 23)).alloc (.cells X 34)) rfl (HSL.out _) ?_)
    | fail)
  have HB2 := HBD.out (w.alloc (.cells D7 23))
  rw [al_size] at HB2
  refine HB2.mono ?_
  rintro e w2 ⟨R, rfl, hI, hb2⟩
  have hb2' : Below (w.alloc (.cells D7 23)).heap.size (w.alloc (.cells D7 23)) w2 := by rw [al_size]; exact hb2
  have H2 : Hid (Bk w2 w.heap.size D7 23 ∧ Below w.heap.size w w2 ∧ IsIx R (tid 1) [awX]) := ⟨B0.out.1.below hb2' B0.out.1.lt, B0.out.2.trans (hb2'.mono B0.out.2.size), hI⟩
  clear HB2 hI hb2 hb2' HBD B0
  go_wp2_with fail
  refine (open_any R w2 (isIx_le H2.out.2.2)).mono ?_
  rintro e w3 ⟨hO, hb3⟩
  obtain ⟨g, rfl, hI3⟩ := hO.yes H2.out.2.2
  have H3 : Hid (Bk w3 w.heap.size D7 23 ∧ Below w.heap.size w w3 ∧ IxS w3 g (tid 1) [awX]) := ⟨H2.out.1.below hb3 H2.out.1.lt, H2.out.2.1.trans (hb3.mono H2.out.2.1.size), hI3⟩
  clear hO hb3 hI3 H2
  go_wp2_with (first
    | (refine wpList_get rfl 23 (.tmp 1) rfl w.heap.size 0 D7 D7 23 _ rfl H3.out.1 (fun j v hv => by rw [Nat.zero_add]; exact hv) Tryz.underlying23 rfl HI.out.1 ?_)
    | fail)
  refine (HFD.out g w3 H3.out.2.2).mono ?_
  rintro e w4 ⟨rfl, hb4⟩
  have H4 : Hid (Below w.heap.size w (w4.alloc (.cells X 34)) ∧ IxS (w4.alloc (.cells X 34)) g (tid 1) [awX]) := by
    have q := (Below.refl w4.heap.size w4).alloc (Nat.le_refl _) (.cells X 34)
    have q2 := H3.out.2.1.trans (hb4.mono H3.out.2.1.size)
    exact ⟨q2.trans (q.mono q2.size), (H3.out.2.2.below hb4).below q⟩
  have hc : (w4.alloc (.cells X 34)).cell? ⟨w4.heap.size, 33, none⟩ = some (.int .i64 4) := by rw [(bk_new w4 X 34).cell]; exact HX33.out
  clear hb4 H3 HX33
  go_wp2_with (first
    | (refine wpList_store_new rfl 34 (.tmp 6) (.tmp 26) rfl X _ 34 w4.heap.size rfl rfl rfl HIX.out.1 (by rw [HIX.out.2.2]; rfl) HIX.out.2.1 ?_)
    | (go_at_call 21; refine (ilen_any g (tid 1) [awX] _ H4.out.2).mono ?_; rintro e w5 ⟨rfl, hw5⟩; obtain rfl := hw5.symm)
    | fail)
  go_ret
  exact ⟨rfl, H4.out.1⟩
end Go.Proofs.YtpfknjnigcefgaaGreatDoor
