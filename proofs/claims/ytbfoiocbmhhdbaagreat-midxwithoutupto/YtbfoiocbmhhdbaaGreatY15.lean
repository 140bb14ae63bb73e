import Derived.Test.YtbfoiocbmhhdbaaGreatY6
import Derived.RegionTactic
import Derived.BigRegion
import Derived.Laws.MakeOwn
import Derived.Test.YtbfoiocbmhhdbaaGreatY14
import Derived.Test.YtbfoiocbmhhdbaaGreatY8
import Derived.Test.YtbfoiocbmhhdbaaGreatY7
import Derived.Test.YtbfoiocbmhhdbaaGreatY2
import Derived.Test.YtbfoiocbmhhdbaaGreatY13
import Derived.Test.YtbfoiocbmhhdbaaGreatY10
/- idx.take. -/
namespace Go.Proofs.YtbfoiocbmhhdbaaGreat
open Go.RowKit
set_option linter.unusedSimpArgs false
set_option linter.unusedVariables false
/-- A row that is being filled. -/
structure TkR (w : World) (s : ByteArray) (b g m : Nat) (t : ByteArray) (l : List Xe) (wr : World) : Prop where
  rc : wr.cell? ⟨b, 0, none⟩ = some (.string t)
  rf : wr.frozen? ⟨b, 0, none⟩ = false
  rl : b < wr.heap.size
  row : ∃ C, Bk wr g C 50 ∧ C.size = m * 35 ∧ ∀ i e, l[i]? = some e → ∀ j, j < 35 → C[i * 35 + j]? = (xeC e)[j]?
  bel : Below w.heap.size w wr
  hb : w.heap.size < b
  hg : b < g
  zb : Bk wr w.heap.size (idc s) 48
theorem TkR.step {w wr w' : World} {s t t' : ByteArray} {b g m : Nat} {l : List Xe} (h : TkR w s b g m t l wr) (hs : Step b wr w' t') : TkR w s b g m t' l w' := by
  have h1 := h.hb
  have h2 := h.hg
  obtain ⟨C, c1, c2⟩ := h.row
  refine ⟨hs.cell, hs.frozen, Nat.lt_of_lt_of_le h.rl hs.size, ⟨C, ?_, c2⟩, h.bel.trans (hs.below (by omega) h.bel.size), h.hb, h.hg, ?_⟩
  · unfold Bk; rw [hs.block _ c1.lt (by omega)]; exact c1
  · unfold Bk; rw [hs.block _ h.zb.lt (by omega)]; exact h.zb
theorem TkR.put {w wr w' : World} {s t : ByteArray} {b g m : Nat} {l : List Xe} {C' : Array Value} {e : Xe} (h : TkR w s b g m t l wr) (hg : wr.grownBy w' (some g)) (hC : Bk w' g C' 50) (hz : C'.size = m * 35) (hn : ∀ i e', (l ++ [e])[i]? = some e' → ∀ j, j < 35 → C'[i * 35 + j]? = (xeC e')[j]?) : TkR w s b g m t (l ++ [e]) w' := by
  have h1 := h.hb
  have h2 := h.hg
  have q := cell_blkX (j := 0) (hg.block b h.rl (fun e => by injection e with e; omega))
  refine ⟨by rw [q.1]; exact h.rc, by rw [q.2]; exact h.rf, Nat.lt_of_lt_of_le h.rl hg.size, ⟨C', hC, hz, hn⟩, below_own h.bel h.bel.size hg (by omega), h.hb, h.hg, ?_⟩
  unfold Bk; rw [hg.block _ h.zb.lt (fun e => by injection e with e; omega)]; exact h.zb
theorem take_snocXt {l : List Xe} {k : Nat} {e : Xe} (h : l[k]? = some e) : l.take (k + 1) = l.take k ++ [e] := by
  rw [List.take_add_one, h]; rfl
theorem inf_xe3 : (Tryz.prog.info? 50).map (fun i => (i.zero, i.size, i.bytes)) = some (some (.agg z35X), 35, 56) := inf_xe
theorem make_xe (n : Nat) (hn : n ≤ 65536) (u : World) : (Instr.makeSlice 66 (.int .i64 (n : Int)) (.int .i64 (n : Int))).run Tryz.prog u = .ok (.slice (some ⟨u.heap.size, 0, none⟩) n n) (u.alloc (.cells (madeCells (Value.agg z35X).cells (n * 35)) 50)) := by
  obtain ⟨i0, hi, hz0, hz1, hz2⟩ := info_parts inf_xe
  have h := run_makeSlice u 66 50 i0 (.agg z35X) Tryz.underlying66 hi hz0 .i64 .i64 (n : Int) (n : Int) (by omega) (Int.le_refl _) (by rw [hz1]; omega) (by rw [hz2]; omega) (by omega)
  rw [hz1, Int.toNat_natCast] at h
  exact h
set_option maxHeartbeats 4000000 in
set_option maxRecDepth 100000 in
theorem itake_any (S : ByteArray) (w : World) (h1 : 1064 ≤ S.size) (h2 : S.size ≤ 2688040) :
    Calls Tryz.prog 46 #[.string S] w fun e w' => ∃ g n, e = .returned (.tuple #[.agg (idc (rdS (bl S))), .slice (some ⟨g, 0, none⟩) n n]) ∧ n = (S.size - 1064) / 41 ∧ XeL w' (some ⟨g, 0, none⟩) (rdA (bl S)) ∧ Below w.heap.size w w' := by
  obtain ⟨s, hs⟩ : ∃ s, rdS (bl S) = s := ⟨_, rfl⟩
  have hss : s.size = 32 := by
    rw [← hs, ← bl_length]
    show (((bl S).drop 4).take 32).length = 32
    rw [List.length_take, List.length_drop, bl_length]; omega
  obtain ⟨x, hx⟩ : ∃ x, S.extract 4 S.size = x := ⟨_, rfl⟩
  have hxs : x.size = S.size - 4 := by rw [← hx]; exact ex_size S 4
  have hxb : (byl x).take 32 = byl s := by
    rw [← hs, ← hx]
    show List.take 32 ((bl (S.extract 4 S.size)).map UInt8.toNat) = ((((bl S).drop 4).take 32).map UInt8.toNat)
    rw [bl_ex, List.map_take]
  have hsl := slice32 w.heap.size
  have hcp : ∀ W, Bk W w.heap.size z32c 48 → ∀ ty, (Builtin.copy_ #[131, 9] ty #[.slice (some ⟨w.heap.size, 0, none⟩) 32 32, .string x]).run Tryz.prog W = .ok (goInt 32) (W.setCells w.heap.size 0 (bvc (byl s))) := fun W hW ty => by
    have hi : (Tryz.prog.info? 5).map (·.size) = some 1 := by kernel_rfl
    have hm : Nat.min x.size 32 = 32 := by rw [hxs]; exact Nat.min_eq_right (by omega)
    have q := copy_str W 131 9 ty 5 w.heap.size 0 32 32 x Tryz.underlying131 hi (fun j hj => by
      rw [hm] at hj
      rw [hW.cell, Nat.zero_add, Array.getElem?_eq_getElem (by rw [z32c_size]; omega)]; rfl) (fun j _ => hW.frozen _)
    rw [hm, hxb] at q
    exact q
  have hz := zero_id
  have c1 := hcp (w.alloc (.cells z32c 48)) (bk_new _ _ _)
  have c2 := hcp (w.alloc (.cells z32c 48)).drew (bk_new _ _ _)
  have h4 : (4 : Int) ≤ S.size := by omega
  clear hcp hxb
  obtain ⟨T, hT⟩ : ∃ T, S.extract 1064 S.size = T := ⟨_, rfl⟩
  have hTs : T.size = S.size - 1064 := by rw [← hT]; exact ex_size S 1064
  have hTb : bl T = (bl S).drop 1064 := by rw [← hT]; exact bl_ex S 1064
  obtain ⟨n, hn⟩ : ∃ n, (S.size - 1064) / 41 = n := ⟨_, rfl⟩
  have hn6 : n ≤ 65536 := by omega
  have HN : Hid (41 * n ≤ T.size) := by show 41 * n ≤ T.size; omega
  have hmk := make_xe n hn6
  have hdv : (T.size : Int) / 41 = (n : Int) := by omega
  have h5 : (1064 : Int) ≤ S.size := by omega
  have hTm : T.size ≤ maxLen := by unfold maxLen; omega
  have hTq : T.size ≤ 2688040 := by omega
  obtain ⟨L, hL⟩ : ∃ L, rdA (bl S) = L := ⟨_, rfl⟩
  have hLl : L.length = n := by rw [← hL, rdA, rdL_len, bl_length, hn]
  have HLg : Hid (∀ k, k < n → L[k]? = some (rdXe ((bl T).drop (41 * k)))) := fun k hk => by
    rw [← hL, rdA, bl_length, hn, rdL_get _ _ _ hk, hTb]
  have HI : Hid ((Tryz.prog.info? 48).map (·.size) = some (idc s).size ∧ (idc s).all (·.oneCell') = true ∧ (idc s).size = 32 ∧ L.length = n) := ⟨info_32 (by rw [idc_size, hss]), idc_allX s, by rw [idc_size, hss], hLl⟩
  rw [hs, hL, hn]
  clear hTb hn hL hLl hs hTs
  go_enter Tryz.func46, Tryz.ntmps46
  go_wp2_with fail
  go_region
  have hput : putA z32c 0 (bvc (byl s)) = idc s := by
    have hle : 0 + (bvc (byl s)).length ≤ z32c.size := by rw [z32c_size]; simp [bvc, byl_length, hss]
    apply Array.ext_getElem?
    intro j
    rw [putA_get _ _ _ _ hle]
    by_cases hj : j < 32
    · rw [if_pos (by simp [bvc, byl_length, hss]; omega), idc, List.getElem?_toArray, Nat.sub_zero]
    · rw [if_neg (by simp [bvc, byl_length, hss]; omega), Array.getElem?_eq_none (by rw [z32c_size]; omega), Array.getElem?_eq_none (by rw [idc_size, hss]; omega)]
  have hB0 : Bk ((w.alloc (.cells z32c 48)).drew.setCells w.heap.size 0 (bvc (byl s))) w.heap.size (idc s) 48 := by
    rw [← hput]
    exact Blk.puts _ _ _ _ (bk_new _ _ _)
  have hbel : Below w.heap.size w ((w.alloc (.cells z32c 48)).drew.setCells w.heap.size 0 (bvc (byl s))) := below_own (((Below.refl _ _).alloc (Nat.le_refl _) _).drew) (by show w.heap.size ≤ (w.alloc _).heap.size; rw [al_size]; omega) (grown_puts _ _ _ (World.grownBy.refl _ _)) (Nat.le_refl _)
  obtain ⟨W1, hW1⟩ : ∃ W1, (w.alloc (.cells z32c 48)).drew.setCells w.heap.size 0 (bvc (byl s)) = W1 := ⟨_, rfl⟩
  rw [hW1] at hB0 hbel ⊢
  have H1 : Hid (Bk W1 w.heap.size (idc s) 48 ∧ Below w.heap.size w W1) := ⟨hB0, hbel⟩
  clear c1 c2 hz hsl hW1 hB0 hbel hput hx hxs hss h4
  go_wp2_with fail
  refine (new_any T W1).mono ?_
  rintro e w2 ⟨rfl, rfl⟩
  have H2 : Hid (Bk (W1.alloc (.cells #[.string T] 182)) W1.heap.size #[.string T] 182) := bk_new _ _ _
  have hcell : (W1.alloc (.cells #[.string T] 182)).cell? ⟨W1.heap.size, 0, none⟩ = some (.string T) := by rw [H2.out.cell]; rfl
  go_wp2_with fail
  refine (left_any T W1.heap.size _ hTm hcell).mono ?_
  rintro e w3 ⟨rfl, hw3⟩
  obtain rfl := hw3.symm
  have hsz : w.heap.size < W1.heap.size := H1.out.1.lt
  have T0 : Hid (TkR w s W1.heap.size (W1.heap.size + 1) n T (L.take 0) ((W1.alloc (.cells #[.string T] 182)).alloc (.cells (madeCells (Value.agg z35X).cells (n * 35)) 50))) := by
    have q := bk_new (W1.alloc (.cells #[.string T] 182)) (madeCells (Value.agg z35X).cells (n * 35)) 50
    rw [al_size] at q
    refine ⟨?_, (H2.out.alloc _).frozen _, (H2.out.alloc _).lt, ⟨_, q, by simp [madeCells], fun i e he => by simp at he⟩, (H1.out.2.alloc H1.out.2.size _).alloc (by rw [al_size]; have := H1.out.2.size; omega) _, hsz, by omega, (H1.out.1.alloc _).alloc _⟩
    rw [(H2.out.alloc _).cell]; rfl
  clear hcell H2 H1 hT h5
  obtain ⟨b, hb⟩ : ∃ b, W1.heap.size = b := ⟨_, rfl⟩
  go_wp2_with fail
  clear hdv hmk
  go_loopw [19] (fun v wr => ∃ (k : Nat) (t : ByteArray), v = .int .i64 k ∧ k ≤ n ∧ Hid (TkR w s b (b + 1) n t (L.take k) wr) ∧ Hid (bl t = (bl T).drop (41 * k))) (fun v _ => n - (intOf v).toNat)
  case atStart =>
    rw [hb] at T0
    exact ⟨0, T, rfl, Nat.zero_le _, T0.out, rfl⟩
  case round =>
    obtain ⟨k, t, rfl, hk, HR, HT⟩ := hrel
    clear T0
    by_cases hlt : k < n
    · have hkz : (k : Int) < (n : Nat) := by omega
      have ht : t.size = T.size - 41 * k := by
        have := congrArg List.length HT.out
        rw [List.length_drop, bl_length, bl_length] at this
        exact this
      have h41 := HN.out
      have HE : Hid (L[k]? = some (rdXe (bl t))) := by rw [HT.out]; exact HLg.out k hlt
      have hid : (rdXe (bl t)).id.size = 32 := by
        show (⟨((bl t).take 32).toArray⟩ : ByteArray).size = 32
        rw [← bl_length]
        show ((bl t).take 32).length = 32
        rw [List.length_take, bl_length]; omega
      have HCA : Hid (Calls Tryz.prog 90 #[.pointer (some ⟨b, 0, none⟩)] wr fun e w' => e = .returned (.agg (xeC (rdXe (bl t)))) ∧ Step b wr w' (t.extract 41 t.size)) := takeEntry_any t b wr HR.out.rc HR.out.rf HR.out.rl (by omega) (by omega)
      obtain ⟨E, hE⟩ : ∃ E, rdXe (bl t) = E := ⟨_, rfl⟩
      rw [hE] at HE hid HCA
      obtain ⟨X, hX⟩ : ∃ X, xeC E = X := ⟨_, rfl⟩
      rw [hX] at HCA
      have HIX : Hid ((Tryz.prog.info? 50).map (·.size) = some X.size ∧ X.all (·.oneCell') = true ∧ X.size = 35) := by rw [← hX]; exact ⟨info_xe (xeC_size _ hid), xeC_all _, xeC_size _ hid⟩
      have HXE : Hid (xeC E = X) := hX
      have HT2 : Hid (bl (t.extract 41 t.size) = (bl T).drop (41 * (k + 1))) := by
        show _ = _
        rw [bl_ex, HT.out, List.drop_drop]; congr 1
      clear hE hX hid ht h41
      go_wp2_with fail
      refine HCA.out.mono ?_
      rintro e w4 ⟨rfl, hst⟩
      have HR2 : Hid (TkR w s b (b + 1) n (t.extract 41 t.size) (L.take k) w4) := HR.out.step hst
      obtain ⟨C, hC1, hC2, hC3⟩ := HR2.out.row
      have HC : Hid (Bk w4 (b + 1) C 50 ∧ C.size = n * 35 ∧ ∀ i e, (L.take k)[i]? = some e → ∀ j, j < 35 → C[i * 35 + j]? = (xeC e)[j]?) := ⟨hC1, hC2, hC3⟩
      have hle : k * 35 + X.size ≤ C.size := by rw [HIX.out.2.2, hC2]; omega
      clear HR hst HCA hC1 hC2 hC3
      go_wp2_with (first
        | (refine wpList_put rfl 50 (.tmp 26) (.tmp 25) rfl (b + 1) (k * 35) C X 50 rfl rfl HC.out.1 HIX.out.1 hle HIX.out.2.1 ?_; intro w5 HB5 HG5 hz5)
        | fail)
      have hk35 : k * 35 + X.toList.length ≤ C.size := by rw [Array.length_toList]; exact hle
      have HR5 : Hid (TkR w s b (b + 1) n (t.extract 41 t.size) (L.take (k + 1)) w5) := by
        have e1 : L.take (k + 1) = L.take k ++ [E] := take_snocXt HE.out
        rw [e1]
        refine HR2.out.put HG5.out HB5.out (by rw [putC_size]; exact HC.out.2.1) (fun i e' he' j hj => ?_)
        rw [putC_get _ _ _ _ hk35, Array.length_toList, HIX.out.2.2]
        have hlk : (L.take k).length = k := by rw [List.length_take, HI.out.2.2.2]; omega
        by_cases hi : i < k
        · rw [List.getElem?_append_left (by rw [hlk]; exact hi)] at he'
          rw [if_neg (by omega)]
          exact HC.out.2.2 i e' he' j hj
        · have hi2 : i = k := by
            have := (List.getElem?_eq_some_iff.1 he').1
            rw [List.length_append, hlk, List.length_singleton] at this
            omega
          subst hi2
          rw [List.getElem?_append_right (by omega), hlk, Nat.sub_self, List.getElem?_cons_zero] at he'
          injection he' with he'
          subst he'
          rw [if_pos ⟨by omega, by omega⟩, Array.getElem?_toList, HXE.out, show i * 35 + j - i * 35 = j by omega]
      clear HR2 HB5 HG5 hz5 HC hk35 hle
      go_wp2
      go_roundw
      case rel => exact ⟨k + 1, _, by go_num, by omega, HR5.out, HT2.out⟩
      case measure => simp [intOf]; omega
    · have hkz : ¬ (k : Int) < (n : Nat) := by omega
      obtain rfl : k = n := by omega
      have HR9 : Hid (TkR w s b (b + 1) k t L wr) := by
        have := HR.out
        rw [List.take_of_length_le (by rw [HI.out.2.2.2]; omega)] at this
        exact this
      clear HR
      have HZ : Hid (Bk wr w.heap.size (idc s) 48) := HR9.out.zb
      have HI2 : Hid (L.length = k ∧ ∀ e ∈ L, e.id.size = 32) := ⟨HI.out.2.2.2, fun e he => by
        obtain ⟨i, hi⟩ := List.mem_iff_getElem?.1 he
        have hik : i < k := by rw [← HI.out.2.2.2]; exact (List.getElem?_eq_some_iff.1 hi).1
        rw [HLg.out i hik] at hi
        injection hi with hi
        rw [← hi]
        show (⟨(((bl T).drop (41 * i)).take 32).toArray⟩ : ByteArray).size = 32
        rw [← bl_length]
        show (((bl T).drop (41 * i)).take 32).length = 32
        have := HN.out
        rw [List.length_take, List.length_drop, bl_length]; omega⟩
      go_wp2_with (first
        | (refine wpList_get rfl 48 (.tmp 2) rfl w.heap.size 0 (idc s) (idc s) 48 _ rfl HZ.out (fun j v hv => by rw [Nat.zero_add]; exact hv) Tryz.underlying48 rfl HI.out.1 ?_)
        | (refine wpList_stoX rfl 48 (.tmp 2) (.tmp 28) rfl w.heap.size (idc s) (idc s) 48 rfl rfl HZ.out HI.out.1 rfl HI.out.2.1 ?_; intro w7 HB7 HG7)
        | fail)
      refine bodyPost_ret (results_cell_tmp_row rfl _ _ w.heap.size 48 (idc s) (0, 0) _ rfl HB7.out Tryz.underlying48 rfl HI.out.1) rfl ⟨b + 1, k, rfl, rfl, ?_, ?_⟩
      · intro i e he
        have h6 := HR9.out
        obtain ⟨C, c1, c2, c3⟩ := h6.row
        have hgg := h6.hg
        have hbb := h6.hb
        have hc7 : Bk w7 (b + 1) C 50 := by
          unfold Bk
          rw [HG7.out.block (b + 1) c1.lt (fun e => by injection e with e; omega)]
          exact c1
        have hid : e.id.size = 32 := HI2.out.2 e (List.mem_of_getElem? he)
        refine ⟨hid, b + 1, 0, rfl, hc7.lt, fun j v hv => ?_⟩
        have hj : j < 35 := by
          have := (Array.getElem?_eq_some_iff.1 hv).1
          rw [xeC_size e hid] at this; exact this
        rw [hc7.cell, Nat.zero_add, c3 i e he j hj, hv]
      · exact below_own HR9.out.bel HR9.out.bel.size HG7.out (Nat.le_refl _)
end Go.Proofs.YtbfoiocbmhhdbaaGreat
/- idx.Open. -/
namespace Go.Proofs.YtbfoiocbmhhdbaaGreat
open Go.RowKit
set_option linter.unusedSimpArgs false
set_option linter.unusedVariables false
theorem str_neX {x y : ByteArray} (h : x ≠ y) : (x.toList == y.toList) = false := by
  rw [beq_eq_false_iff_ne, Lib.toList_data, Lib.toList_data]
  intro e
  exact h (bl_inj e)
theorem isIx_size {S s : ByteArray} {l : List Xe} (h : IsIx S s l) : 1064 ≤ S.size ∧ S.size ≤ 2688040 := by
  have := congrArg List.length h.2.2
  rw [bl_length, ixB_len h.1 h.2.1.id] at this
  have := h.2.1.len
  omega
/-- What Open tells. -/
def OpS (S : ByteArray) (e : Ending) (w' : World) : Prop :=
  (e = .returned (.tuple #[.pointer none, .int .i64 4]) ∧ ∀ s l, ¬ IsIx S s l) ∨ ∃ g s l, e = .returned (.tuple #[.pointer (some ⟨g, 0, none⟩), .int .i64 0]) ∧ IsIx S s l ∧ IxS w' g s l
set_option maxHeartbeats 4000000 in
set_option maxRecDepth 100000 in
theorem open_any (S : ByteArray) (w : World) (hS : S.size ≤ 4611686018427387904) :
    Calls Tryz.prog 23 #[.string S] w fun e w' => OpS S e w' ∧ Below w.heap.size w w' := by
  by_cases h1 : S.size < 1064
  · have HN : Hid (∀ s l, ¬ IsIx S s l) := fun s l h => by have := isIx_size h; omega
    have h1z : (S.size : Int) < 1064 := by omega
    go_enter Tryz.func23, Tryz.ntmps23
    go_wp2
    go_ret2
    exact ⟨.inl ⟨rfl, HN.out⟩, Below.refl _ _⟩
  by_cases h2 : 2688040 < S.size
  · have HN : Hid (∀ s l, ¬ IsIx S s l) := fun s l h => by have := isIx_size h; omega
    have h1z : ¬ (S.size : Int) < 1064 := by omega
    have h2z : (2688040 : Int) < S.size := by omega
    go_enter Tryz.func23, Tryz.ntmps23
    go_wp2
    go_ret2
    exact ⟨.inl ⟨rfl, HN.out⟩, Below.refl _ _⟩
  have h1z : ¬ (S.size : Int) < 1064 := by omega
  have h2z : ¬ (2688040 : Int) < S.size := by omega
  obtain ⟨s, hs⟩ : ∃ s, rdS (bl S) = s := ⟨_, rfl⟩
  obtain ⟨l, hl⟩ : ∃ l, rdA (bl S) = l := ⟨_, rfl⟩
  have hss : s.size = 32 := by
    rw [← hs, ← bl_length]
    show (((bl S).drop 4).take 32).length = 32
    rw [List.length_take, List.length_drop, bl_length]; omega
  have hll : l.length = (S.size - 1064) / 41 := by rw [← hl, rdA, rdL_len, bl_length]
  have HT := itake_any S w (by omega) (by omega)
  rw [hs, hl] at HT
  have HQ : Hid (∀ s' l', IsIx S s' l' → s' = s ∧ l' = l) := fun s' l' h => by
    have := h.take
    rw [hs, hl] at this
    exact ⟨this.1.symm, this.2.symm⟩
  have HI : Hid ((Tryz.prog.info? 48).map (·.size) = some (idc s).size ∧ (idc s).all (·.oneCell') = true ∧ (idc s).size = 32) := ⟨info_32 (by rw [idc_size, hss]), idc_allX s, by rw [idc_size, hss]⟩
  have HSS : Hid (s.size = 32 ∧ l.length ≤ 65536) := ⟨hss, by rw [hll]; omega⟩
  obtain ⟨n, hn⟩ : ∃ n, (S.size - 1064) / 41 = n := ⟨_, rfl⟩
  rw [hn] at hll
  have HLL : Hid (l.length = n) := hll
  have hn6 : n ≤ 65536 := by omega
  have HTK2 : Hid (Calls Tryz.prog 46 #[.string S] w fun e w' => ∃ g, e = .returned (.tuple #[.agg (idc s), .slice (some ⟨g, 0, none⟩) n n]) ∧ XeL w' (some ⟨g, 0, none⟩) l ∧ Below w.heap.size w w')   := HT.mono fun e w' ⟨g, m, q1, q2, q3, q4⟩ => ⟨g, by rw [q1, q2, hn], q3, q4⟩
  clear HT hs hl hss hll hn
  go_enter Tryz.func23, Tryz.ntmps23
  go_wp2_with fail
  refine HTK2.out.mono ?_
  rintro e w1 ⟨g, rfl, hX1, hb1⟩
  have HX : Hid (XeL w1 (some ⟨g, 0, none⟩) l ∧ Below w.heap.size w w1) := ⟨hX1, hb1⟩
  obtain ⟨D, hD⟩ : ∃ D, idc s = D := ⟨_, rfl⟩
  have HDD : Hid (idc s = D) := hD
  rw [hD] at HI ⊢
  have H2 : Hid (Bk (w1.alloc (.cells D 48)) w1.heap.size D 48 ∧ Below w1.heap.size w1 (w1.alloc (.cells D 48))) := ⟨bk_new _ _ _, (Below.refl _ _).alloc (Nat.le_refl _) _⟩
  clear hX1 hb1 HTK2 hD
  go_wp2_with (first
    | (refine wpList_store_new rfl 48 (.tmp 4) (.tmp 18) rfl D _ 48 w1.heap.size rfl rfl rfl HI.out.1 (by rw [HI.out.2.2]; rfl) HI.out.2.1 ?_)
    | fail)
  obtain ⟨w2, hw2⟩ : ∃ w2, w1.alloc (.cells D 48) = w2 := ⟨_, rfl⟩
  rw [hw2] at H2 ⊢
  refine (mayBe_any l (some ⟨g, 0, none⟩) n n w2 (HX.out.1.below H2.out.2) HLL.out (by omega)).mono ?_
  rintro e w3 ⟨rfl, hb3⟩
  have H3 : Hid (Bk w3 w1.heap.size D 48 ∧ XeL w3 (some ⟨g, 0, none⟩) l ∧ Below w.heap.size w w3) := ⟨H2.out.1.below hb3 H2.out.1.lt, (HX.out.1.below H2.out.2).below hb3, (HX.out.2.trans (H2.out.2.mono HX.out.2.size)).trans (hb3.mono (Nat.le_trans HX.out.2.size H2.out.2.size))⟩
  clear hb3 H2 HX hw2
  cases hok : okR none l with
  | false =>
    have HN : Hid (∀ s' l', ¬ IsIx S s' l') := fun s' l' h => by
      obtain ⟨rfl, rfl⟩ := HQ.out s' l' h
      rw [(okR_iff l').2 ⟨h.2.1.ok, h.2.1.ri⟩] at hok
      cases hok
    clear hok
    go_wp2
    go_ret2
    exact ⟨.inl ⟨rfl, HN.out⟩, H3.out.2.2⟩
  | true =>
    have HOK : Hid (OkL l) := by
      obtain ⟨q1, q2⟩ := (okR_iff l).1 hok
      exact ⟨q1, H3.out.2.1.ids, q2, HSS.out.2⟩
    clear hok
    have HIO : Hid (Calls Tryz.prog 48 #[.agg D, .slice (some ⟨g, 0, none⟩) n n] w3 fun e w' => ∃ gI, e = .returned (.pointer (some ⟨gI, 0, none⟩)) ∧ IxS w' gI s l ∧ Below w.heap.size w w') := by
      rw [← HDD.out]
      exact (indexOf_any s l _ n n w3 HSS.out.1 H3.out.2.1 HLL.out (Nat.le_refl _) (.inr ⟨g, 0, rfl⟩) (by omega)).mono fun e w' ⟨gI, h1, h2, h3, h4⟩ => ⟨gI, h1, h3, H3.out.2.2.trans (h4.mono H3.out.2.2.size)⟩
    obtain ⟨R, hR⟩ : ∃ R : ByteArray, (⟨(ixB s l).toArray⟩ : ByteArray) = R := ⟨_, rfl⟩
    have HR : Hid ((⟨(ixB s l).toArray⟩ : ByteArray) = R) := hR
    clear hR
    by_cases hEq : R = S
    · have HIS : Hid (IsIx S s l) := ⟨HSS.out.1, HOK.out, by
        rw [← hEq, ← HR.out]; rfl⟩
      have hbq : (R.toList == S.toList) = true := by rw [hEq]; simp
      clear hEq
      go_wp2_with (first
        | (go_at_call 48; refine HIO.out.mono ?_; rintro e w4 ⟨gI, rfl, hI, hb4⟩; have H4 : Hid (IxS w4 gI s l ∧ Below w.heap.size w w4) := ⟨hI, hb4⟩; clear hI hb4)
        | (go_at_call 49; refine (bytes_any gI s l _ H4.out.1 HOK.out.ok HOK.out.len).mono ?_; rw [HR.out]; rintro e w5 ⟨rfl, hb5⟩; have H5 : Hid (Below w4.heap.size w4 w5) := hb5; clear hb5)
        | (refine wpList_get rfl 48 (.tmp 4) rfl w1.heap.size 0 D D 48 _ rfl H3.out.1 (fun j v hv => by rw [Nat.zero_add]; exact hv) Tryz.underlying48 rfl HI.out.1 ?_)
        | fail)
      go_ret2
      exact ⟨.inr ⟨gI, s, l, rfl, HIS.out, H4.out.1.below H5.out⟩, H4.out.2.trans (H5.out.mono H4.out.2.size)⟩
    · have HN : Hid (∀ s' l', ¬ IsIx S s' l') := fun s' l' h => by
        obtain ⟨rfl, rfl⟩ := HQ.out s' l' h
        apply hEq
        rw [← HR.out]
        apply bl_inj
        rw [h.2.2]; rfl
      have hbq := str_neX hEq
      clear hEq
      go_wp2_with (first
        | (go_at_call 48; refine HIO.out.mono ?_; rintro e w4 ⟨gI, rfl, hI, hb4⟩; have H4 : Hid (IxS w4 gI s l ∧ Below w.heap.size w w4) := ⟨hI, hb4⟩; clear hI hb4)
        | (go_at_call 49; refine (bytes_any gI s l _ H4.out.1 HOK.out.ok HOK.out.len).mono ?_; rw [HR.out]; rintro e w5 ⟨rfl, hb5⟩; have H5 : Hid (Below w4.heap.size w4 w5) := hb5; clear hb5)
        | (refine wpList_get rfl 48 (.tmp 4) rfl w1.heap.size 0 D D 48 _ rfl H3.out.1 (fun j v hv => by rw [Nat.zero_add]; exact hv) Tryz.underlying48 rfl HI.out.1 ?_)
        | fail)
      go_ret2
      exact ⟨.inl ⟨rfl, HN.out⟩, H4.out.2.trans (H5.out.mono H4.out.2.size)⟩
end Go.Proofs.YtbfoiocbmhhdbaaGreat
/- idx.Build. -/
namespace Go.Proofs.YtbfoiocbmhhdbaaGreat
open Go.RowKit
set_option linter.unusedSimpArgs false
set_option linter.unusedVariables false
/-- Has one of these this name? -/
def hasX (d : List Xe) (x : ByteArray) : Bool := onL (d.map (fun e : Xe => e.id)) x
theorem hasX_iff (d : List Xe) (x : ByteArray) : hasX d x = true ↔ ∃ e ∈ d, e.id = x := by
  unfold hasX onL
  rw [List.any_eq_true]
  constructor
  · rintro ⟨y, hy, he⟩
    obtain ⟨e, he2, rfl⟩ := List.mem_map.1 hy
    exact ⟨e, he2, bl_inj (eq_of_beq he)⟩
  · rintro ⟨e, he, rfl⟩
    exact ⟨e.id, List.mem_map.2 ⟨e, he, rfl⟩, beq_self_eq_true _⟩
/-- What Build tells as error, entry by entry. -/
def xbE (d : List Xe) : List Xe → Int
  | [] => 0
  | e :: r => if okX e = false ∨ d.length = 65536 then 1 else if hasX d e.id = true then 7 else xbE (d ++ [e]) r
def bE (l : List Xe) : Int := xbE [] l
/-- Entries that make an index. -/
structure GdX (l : List Xe) : Prop where
  ok : ∀ e ∈ l, okX e = true
  ap : Aprt l
  len : l.length ≤ 65536
theorem GdX.nil : GdX [] := ⟨fun e h => (by cases h), List.Pairwise.nil, by simp⟩
theorem GdX.snoc {d : List Xe} {e : Xe} (h : GdX d) (h1 : ¬ (okX e = false ∨ d.length = 65536)) (h2 : hasX d e.id = false) : GdX (d ++ [e]) := by
  have hl := h.len
  refine ⟨fun x hx => ?_, ?_, by rw [List.length_append, List.length_singleton]; omega⟩
  · rcases List.mem_append.1 hx with q | q
    · exact h.ok x q
    · rw [List.mem_singleton] at q
      subst q
      cases ho : okX x with
      | true => rfl
      | false => exact absurd (.inl ho) h1
  · unfold Aprt
    rw [List.pairwise_append]
    refine ⟨h.ap, List.pairwise_singleton _ _, fun a ha b hb hab => ?_⟩
    rw [List.mem_singleton] at hb
    subst hb
    rw [(hasX_iff d b.id).2 ⟨a, ha, hab⟩] at h2
    cases h2
theorem xbE_step (l : List Xe) (k : Nat) (e : Xe) (hk : l[k]? = some e) : xbE (l.take k) (l.drop k) = if okX e = false ∨ k = 65536 then 1 else if hasX (l.take k) e.id = true then 7 else xbE (l.take (k + 1)) (l.drop (k + 1)) := by
  have hlt : k < l.length := (List.getElem?_eq_some_iff.1 hk).1
  rw [List.drop_eq_getElem_cons hlt, xbE]
  have e1 : l[k] = e := by rw [List.getElem?_eq_getElem hlt] at hk; exact Option.some.inj hk
  have hl : (l.take k).length = k := by rw [List.length_take]; omega
  rw [e1, hl, List.take_add_one, hk, Option.toList_some]
theorem xbE_ok : ∀ (r d : List Xe), GdX d → xbE d r = 0 → GdX (d ++ r)
  | [], d, h, _ => by rw [List.append_nil]; exact h
  | e :: r, d, h, hz => by
    rw [xbE] at hz
    by_cases h1 : okX e = false ∨ d.length = 65536
    · rw [if_pos h1] at hz; cases hz
    · rw [if_neg h1] at hz
      cases h2 : hasX d e.id with
      | true => rw [h2, if_pos rfl] at hz; cases hz
      | false =>
        rw [h2, if_neg (by simp)] at hz
        have := xbE_ok r (d ++ [e]) (h.snoc h1 h2) hz
        rwa [List.append_assoc] at this
theorem bE_ok {l : List Xe} (h : bE l = 0) : GdX l := by
  have := xbE_ok l [] GdX.nil h
  rwa [List.nil_append] at this
theorem gd_bE : ∀ (r d : List Xe), GdX (d ++ r) → xbE d r = 0
  | [], d, _ => rfl
  | e :: r, d, h => by
    have h1 : ¬ (okX e = false ∨ d.length = 65536) := by
      rintro (q | q)
      · rw [h.ok e (by simp)] at q; cases q
      · have := h.len; rw [List.length_append, List.length_cons] at this; omega
    have h2 : hasX d e.id = false := by
      rw [Bool.eq_false_iff]
      intro q
      obtain ⟨a, ha, hab⟩ := (hasX_iff d e.id).1 q
      have := h.ap
      unfold Aprt at this
      rw [List.pairwise_append] at this
      exact this.2.2 a ha e (List.mem_cons_self ..) hab
    rw [xbE, if_neg h1, if_neg (by rw [h2]; simp)]
    exact gd_bE r (d ++ [e]) (by rw [List.append_assoc]; exact h)
theorem GdX.bE {l : List Xe} (h : GdX l) : bE l = 0 := gd_bE l [] (by rw [List.nil_append]; exact h)
theorem GdX.perm {l l' : List Xe} (h : GdX l) (p : l.Perm l') : GdX l' := ⟨fun e he => h.ok e (p.mem_iff.2 he), h.ap.perm p, by rw [← p.length_eq]; exact h.len⟩
/-- Sorted, and apart: rising. -/
theorem rise_of {l : List Xe} (h : l.Pairwise fun a b => ltN b.id a.id = false) (ha : Aprt l) : Rise l := by
  refine (h.and ha).imp ?_
  rintro a b ⟨h1, h2⟩
  exact ltN_ne h2 h1
theorem GdX.okl {l L : List Xe} (h : GdX l) (p : L.Perm l) (hi : ∀ e ∈ l, e.id.size = 32) (hr : Rise L) : OkL L := ⟨fun e he => h.ok e (p.mem_iff.1 he), fun e he => hi e (p.mem_iff.1 he), hr, by rw [p.length_eq]; exact h.len⟩
theorem zero_unitX : ∀ w, (zeroValue 117).run Tryz.prog w = .ok (.agg #[]) w := Tryz.zeroValue117
/-- How Build's looking stands. -/
structure BX (w : World) (m : Nat) (s : ByteArray) (d : List Xe) (wr : World) : Prop where
  st : St (fun v => v = .agg #[]) wr m (d.map (fun e : Xe => e.id))
  bel : Below w.heap.size w wr
  bx : Bk wr w.heap.size (idc s) 48
  mlb : w.heap.size < m
theorem BX.keep {w wr w' : World} {m : Nat} {s : ByteArray} {d : List Xe} (h : BX w m s d wr) (hb : Below wr.heap.size wr w') : BX w m s d w' :=
  ⟨h.st.below hb, h.bel.trans (hb.mono h.bel.size), h.bx.below hb h.bx.lt, h.mlb⟩
theorem BX.look {w wr : World} {m : Nat} {s : ByteArray} {d : List Xe} (h : BX w m s d wr) (x : ByteArray) (hx : x.size = 32) : (Instr.lookup 74 (.map (some m)) (.agg (idc x)) true).run Tryz.prog wr = .ok (.tuple #[.agg #[], .bool (hasX d x)]) wr := by
  obtain ⟨v, h1, rfl⟩ := h.st.look Tryz.underlying74 (zero_unitX _) rfl x hx
  exact h1
theorem BX.put {w wr : World} {m : Nat} {s : ByteArray} {d : List Xe} (h : BX w m s d wr) (hn : d.length < 1048576) (e : Xe) (hx : e.id.size = 32) :
    ∃ w', (Instr.mapUpdate 74 (.map (some m)) (.agg (idc e.id)) (.agg #[])).run Tryz.prog wr = .ok () w' ∧ BX w m s (d ++ [e]) w' := by
  obtain ⟨w', h1, h2, h3⟩ := h.st.put Tryz.underlying74 (by rw [List.length_map]; exact hn) e.id hx (.agg #[]) rfl
  obtain ⟨es, c, hm⟩ := h.st.isMap
  refine ⟨w', h1, by rw [List.map_append]; exact h2, below_own h.bel h.bel.size h3 (Nat.le_of_lt h.mlb), h.bx.grown h3 (fun q => ?_), h.mlb⟩
  injection q with q
  have hb' : wr.heap[w.heap.size]? = some (.cells (idc s) 48 (0, 0)) := h.bx
  rw [← q, hm] at hb'
  cases hb'
end Go.Proofs.YtbfoiocbmhhdbaaGreat
/- midx.merger.add: what is under way. -/
namespace Go.Proofs.YtbfoiocbmhhdbaaGreat
open Go.RowKit Go.Maps
set_option linter.unusedSimpArgs false
set_option linter.unusedVariables false
/-- The row of an entry. -/
def mwN (s : Nf) (n : Xf) : Rf := ⟨⟨s.1, n.1⟩, s.2, n.2⟩
/-- One entry of a pack's index more. -/
def adV (s : Nf) (d : List Rf) (n : Xf) : List Rf := match fdK kyR d n.1.id with
  | none => if 1048576 < d.length then d else ptK kyR d (mwN s n)
  | some r => if ltN r.1.p s.1 = true then d else ptK kyR d (mwN s n)
theorem fdK_val : ∀ (d : List Rf) (x : ByteArray), fdM (d.map (·.1)) x = (fdK kyR d x).map (·.1)
  | [], x => rfl
  | q :: d, x => by
    have ih := fdK_val d x
    unfold fdM fdK at *
    rw [List.map_cons, List.find?_cons, List.find?_cons, ih]
    have e : decide (q.1.e.id = x) = decide (kyR q = x) := rfl
    rw [e]
    cases decide (kyR q = x) <;> rfl
theorem ptK_val : ∀ (d : List Rf) (r : Rf), (ptK kyR d r).map (·.1) = ptM (d.map (·.1)) r.1
  | [], r => rfl
  | q :: d, r => by
    have ih := ptK_val d r
    rw [ptK, List.map_cons, ptM]
    by_cases e : kyR q = kyR r
    · rw [if_pos e, if_pos (show q.1.e.id = r.1.e.id from e), List.map_cons]
    · rw [if_neg e, if_neg (show ¬ q.1.e.id = r.1.e.id from e), List.map_cons, ih]
theorem adV_val (s : Nf) (d : List Rf) (n : Xf) : (adV s d n).map (·.1) = adM s.1 (d.map (·.1)) n.1 := by
  unfold adV adM
  rw [fdK_val]
  cases fdK kyR d n.1.id with
  | none =>
    simp only [Option.map_none, List.length_map]
    split
    · rfl
    · exact ptK_val _ _
  | some r =>
    simp only [Option.map_some]
    split
    · rfl
    · exact ptK_val _ _
theorem adV_len (s : Nf) (d : List Rf) (n : Xf) (h : d.length ≤ 1048577) : (adV s d n).length ≤ 1048577 := by
  unfold adV
  cases hf : fdK kyR d n.1.id with
  | none =>
    simp only
    split
    · exact h
    · have e : (ptK kyR d (mwN s n)).length = d.length + 1 := by rw [ptK_len, show kyR (mwN s n) = n.1.id from rfl, hf]; rfl
      omega
  | some r =>
    simp only
    split
    · exact h
    · have e : (ptK kyR d (mwN s n)).length = d.length := by rw [ptK_len, show kyR (mwN s n) = n.1.id from rfl, hf]; rfl
      omega
theorem cell_ne_map {w : World} {g o m : Nat} {v : Value} {es : Array MapEntry} {c : Nat} (h : w.cell? ⟨g, o, none⟩ = some v) (hm : w.heap[m]? = some (.map es c)) : g ≠ m := fun e => by
  subst e
  simp [World.cell?, hm] at h
/-- What add is at: the merger, the sum's box, the entries. -/
structure AdM (w0 : World) (B gm mp mr : Nat) (dN : List Nf) (dR : List Rf) (b7 : Nat) (sC : Array Value) (ga : Option Addr) (l : List Xe) (w : World) : Prop where
  m : MgM w gm mp mr dN dR
  b : Bk w b7 sC 48
  x : XeL w ga l
  bel : Below B w0 w
theorem AdM.next {w0 w w' : World} {B gm mp mr b7 : Nat} {dN : List Nf} {dR : List Rf} {sC : Array Value} {ga : Option Addr} {l : List Xe} (h : AdM w0 B gm mp mr dN dR b7 sC ga l w) (hB : B ≤ w.heap.size) (hb : Below w.heap.size w w') : AdM w0 B gm mp mr dN dR b7 sC ga l w' :=
  ⟨h.m.below hb, h.b.below hb h.b.lt, h.x.below hb, h.bel.trans (hb.mono hB)⟩
theorem AdM.put {w0 w : World} {B gm mp mr b7 : Nat} {dN : List Nf} {dR : List Rf} {sC : Array Value} {ga : Option Addr} {l : List Xe} (h : AdM w0 B gm mp mr dN dR b7 sC ga l w) (hB : B ≤ w.heap.size) (hm : B ≤ mr) (hn : dR.length ≤ 1048577) (r : Rf) :
    ∃ w', (Instr.mapUpdate 75 (.map (some mr)) (.agg (idc (kyR r))) (elR r)).run Tryz.prog w = .ok () w' ∧ AdM w0 B gm mp mr dN (ptK kyR dR r) b7 sC ga l w' ∧ B ≤ w'.heap.size := by
  obtain ⟨w', h1, h2, h3⟩ := h.m.rs.put Tryz.underlying75 (by unfold maxLen; omega) r r.2.2
  obtain ⟨es, c, he⟩ := h.m.rs.isMap
  have hne : ∀ {b : Nat} {C : Array Value} {T : TypeId}, Bk w b C T → some b ≠ some mr := fun {b C T} hb e => by
    injection e with e
    subst e
    have hb' : w.heap[b]? = some (.cells C T (0, 0)) := hb
    rw [he] at hb'; cases hb'
  refine ⟨w', h1, ⟨⟨h.m.bk.grown h3 (fun e => hne h.m.bk e.symm), h.m.ps.keep (h3.block mp h.m.ps.lt (fun e => h.m.ne (Option.some.inj e))), h2, h.m.ne⟩, h.b.grown h3 (fun e => hne h.b e.symm), fun i e hi => ?_, below_own h.bel hB h3 hm⟩, Nat.le_trans hB h3.size⟩
  obtain ⟨k1, g, o, k2, k3, k4⟩ := h.x i e hi
  have hcell : ∃ j v, (xeC e)[j]? = some v := ⟨0, (xeC e)[0]'(by rw [xeC_size e k1]; decide), Array.getElem?_eq_getElem _⟩
  obtain ⟨j0, v0, hv0⟩ := hcell
  have hgm : g ≠ mr := cell_ne_map (k4 j0 v0 hv0) he
  refine ⟨k1, g, o, k2, Nat.lt_of_lt_of_le k3 h3.size, fun j v hv => ?_⟩
  exact (World.cell?_of_block (h3.block g k3 (fun e => hgm (Option.some.inj e)))).trans (k4 j v hv)
/-- The pack's sum is noted. -/
theorem MgM.putN {w : World} {gm mp mr : Nat} {dN : List Nf} {dR : List Rf} (h : MgM w gm mp mr dN dR) (hn : dN.length ≤ 1048576) (s : Nf) (hnew : ∀ a ∈ dN, kyN a ≠ kyN s) :
    ∃ w', (Instr.mapUpdate 74 (.map (some mp)) (.agg (idc (kyN s))) (elN s)).run Tryz.prog w = .ok () w' ∧ MgM w' gm mp mr (dN ++ [s]) dR ∧ w.grownBy w' (some mp) := by
  obtain ⟨w', h1, h2, h3⟩ := h.ps.put Tryz.underlying74 (by unfold maxLen; omega) s s.2
  obtain ⟨es, c, he⟩ := h.ps.isMap
  rw [ptK_new hnew] at h2
  refine ⟨w', h1, ⟨h.bk.grown h3 (fun e => ?_), h2, h.rs.keep (h3.block mr h.rs.lt (fun e => h.ne (Option.some.inj e).symm)), h.ne⟩, h3⟩
  injection e with e
  have hb' : w.heap[gm]? = some (.cells _ _ (0, 0)) := h.bk
  rw [← e, he] at hb'; cases hb'
/-- A map is turned: an index elsewhere stays. -/
theorem IxS.grownMap {w w' : World} {g m : Nat} {s : ByteArray} {l : List Xe} {es : Array MapEntry} {c : Nat} (h : IxS w g s l) (hg : w.grownBy w' (some m)) (hm : w.heap[m]? = some (.map es c)) : IxS w' g s l := by
  obtain ⟨a, n, cc, hBk, hX, hl, hcc, hA⟩ := h.row
  have hne : some m ≠ some g := fun e => by
    injection e with e
    subst e
    have hb' : w.heap[m]? = some (.cells _ _ (0, 0)) := hBk
    rw [hm] at hb'; cases hb'
  refine ⟨⟨a, n, cc, hBk.grown hg hne, fun i e hi => ?_, hl, hcc, hA⟩, h.id⟩
  obtain ⟨k1, g1, o, k2, k3, k4⟩ := hX i e hi
  have hcell : ∃ j v, (xeC e)[j]? = some v := ⟨0, (xeC e)[0]'(by rw [xeC_size e k1]; decide), Array.getElem?_eq_getElem _⟩
  obtain ⟨j0, v0, hv0⟩ := hcell
  have hgm : g1 ≠ m := cell_ne_map (k4 j0 v0 hv0) hm
  refine ⟨k1, g1, o, k2, Nat.lt_of_lt_of_le k3 hg.size, fun j v hv => ?_⟩
  exact (World.cell?_of_block (hg.block g1 k3 (fun e => hgm (Option.some.inj e)))).trans (k4 j v hv)
end Go.Proofs.YtbfoiocbmhhdbaaGreat
