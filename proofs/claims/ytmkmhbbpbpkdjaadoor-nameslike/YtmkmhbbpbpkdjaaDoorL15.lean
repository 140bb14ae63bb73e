/- The walk of munimentlaw04.NamesLike. -/
import Derived.Test.YtmkmhbbpbpkdjaaDoorP16
import Derived.Test.YtmkmhbbpbpkdjaaDoorN7
import Derived.Laws.Cover4
import Derived.Laws.AppendOwn
import Derived.WalkMore
import Derived.Deep.AppendLies
import Derived.Deep.DeepAppendRoom
namespace Go.Proofs.YtmkmhbbpbpkdjaaDoor
open Go.RowKit
set_option linter.unusedSimpArgs false
set_option linter.unusedVariables false
theorem enc_model (r : Nat) (hs : scal r) : (Utf8.encode (r : Int)).data.toList = encR r := by
  have hv : Utf8.valid (r : Int) = true := by
    unfold scal at hs
    unfold Utf8.valid
    simp
    omega
  unfold Utf8.encode
  simp only [hv, if_true, Int.toNat_natCast]
  by_cases h1 : r < 128
  · rw [if_pos h1, encR_1 h1] <;> rfl
  by_cases h2 : r < 2048
  · rw [if_neg h1, if_pos h2, encR_2 (by omega) h2] <;> rfl
  by_cases h3 : r < 65536
  · rw [if_neg h1, if_neg h2, if_pos h3, encR_3 (by omega) h3 hs] <;> rfl
  · unfold scal at hs
    rw [if_neg h1, if_neg h2, if_neg h3, encR_4 (by omega) (by omega)] <;> rfl
theorem fold_enc : ∀ (rs : List Nat) (s : ByteArray), (∀ r ∈ rs, scal r) → ((rs.map fun r : Nat => (r : Int)).foldl (fun a n => a ++ Utf8.encode n) s).data.toList = s.data.toList ++ encs rs
  | [], s, _ => by simp [encs]
  | r :: rs, s, h => by
    rw [List.map_cons, List.foldl_cons, fold_enc rs _ (fun x hx => h x (by simp [hx]))]
    show (s ++ Utf8.encode (r : Int)).data.toList ++ encs rs = s.data.toList ++ (encR r ++ encs rs)
    rw [← enc_model r (h r (by simp))]
    simp
theorem runesBytes_encs (rs : List Nat) (h : ∀ r ∈ rs, scal r) : runesBytes (rs.map fun r : Nat => (r : Int)) = mkB (encs rs) := by
  rw [← mkB_of (runesBytes _)]
  congr 1
  unfold runesBytes
  rw [fold_enc rs _ h]
  rfl
/-- Runes as cells. -/
def rcv (rs : List Nat) : List Value := rs.map fun r : Nat => Value.int .i32 (r : Int)
theorem rcv_len (rs : List Nat) : (rcv rs).length = rs.length := by simp [rcv]
theorem rcv_app (a b : List Nat) : rcv (a ++ b) = rcv a ++ rcv b := by simp [rcv]
theorem info_i32 : (Tryd.prog.info? 21).map (fun i => (i.zero, i.size, i.bytes)) = some (some (.int .i32 0), 1, 4) := by kernel_rfl
theorem news_i32 (w : World) (a : Value) (T : TypeId) : ∀ (j : Nat) (u : Value), [a][j]? = some u → (w.alloc (.cells #[a] T)).cell? ((⟨w.heap.size, 0, none⟩ : Addr).add j) = some u := by
  intro j u h
  rw [WideShapes.add_plain, Nat.zero_add, World.cell?_alloc_new]
  simpa using h
theorem one_i32 (a : Int) : ∀ u ∈ [Value.int .i32 a], u.oneCell' = true := by
  intro u hu
  simp at hu
  subst hu; rfl
theorem app_iter {w w1 : World} {o : Obj} {B n k : Nat} {v : Value} {xs : List Value} {e : TypeId} {s : ByteArray} {pos : Nat} (ho : w.ownsRow B e 1 v n xs) (hg : (w.alloc o).grownBy w1 v.ownBlock) (hk : w.heap[k]? = some (.stringIter s pos)) : w1.heap[k]? = some (.stringIter s pos) := by
  have hlt : k < w.heap.size := (Array.getElem?_eq_some_iff.1 hk).1
  rw [hg.block k (by simp; omega) ?_]
  · exact (Lib.alloc_old w o k hlt).trans hk
  · intro e1
    rcases ho.2 with ⟨rfl, _⟩ | ⟨g, cap, cur, rfl, _, hgg, _⟩
    · cases e1
    · simp [Value.ownBlock] at e1
      rw [e1, hgg] at hk
      cases hk
theorem app_below {B n : Nat} {w wr w1 : World} {o : Obj} {v : Value} {xs : List Value} {e : TypeId} (hb : Below B w wr) (hz : B ≤ wr.heap.size) (ho : wr.ownsRow B e 1 v n xs) (hg : (wr.alloc o).grownBy w1 v.ownBlock) : Below B w w1 := by
  refine (hb.alloc hz o).grown hg (by simp; omega) (fun k hk => ?_)
  rcases ho.2 with ⟨rfl, _⟩ | ⟨g, cap, cur, rfl, hle, _⟩
  · cases hk
  · simp [Value.ownBlock] at hk; omega
theorem iter_own {w : World} {B n k : Nat} {v : Value} {xs : List Value} {e : TypeId} {s : ByteArray} {pos pos' : Nat} (ho : w.ownsRow B e 1 v n xs) (hk : w.heap[k]? = some (.stringIter s pos)) : (w.iterAt k s pos').ownsRow B e 1 v n xs := by
  refine ⟨ho.1, ?_⟩
  rcases ho.2 with h | ⟨g, cap, cur, hv, hle, hg, hr⟩
  · exact .inl h
  · refine .inr ⟨g, cap, cur, hv, hle, ?_, hr⟩
    rw [Lib.iterAt_other w k g s pos' (fun e1 => by rw [e1, hk] at hg; cases hg)]
    exact hg
theorem plainR_snoc (rs : List Nat) (r : Nat) : plainR (rs ++ [r]) = (plainR rs && (r != 63 && r != 42)) := by simp [plainR]
theorem set_conv (w : World) (g cap j : Nat) (rs : List Nat) (cur : Array Value) (hs : ∀ r ∈ rs, scal r) (hg : w.heap[g]? = some (.cells cur 21 (0, 0))) (ht : cur.toList.take rs.length = rcv rs) (hc : rs.length ≤ cur.size) (hj : j < rs.length) :
    (convert 51 9 (.slice (some ⟨g, 0, none⟩) rs.length cap)).run Tryd.prog (w.setCell ⟨g, j, none⟩ (.int .i32 63)) = .ok (.string (mkB (encs (rs.set j 63)))) (w.setCell ⟨g, j, none⟩ (.int .i32 63)) := by
  have hs' : ∀ r ∈ rs.set j 63, scal r := fun r hr => by
    rcases List.mem_or_eq_of_mem_set hr with h | h
    · exact hs r h
    · subst h; exact .inl (by decide)
  have h := run_convert_runes (P := Tryd.prog) (w.setCell ⟨g, j, none⟩ (.int .i32 63)) 51 9 21 ⟨g, 0, none⟩ rs.length cap ((rs.set j 63).map fun r : Nat => (r : Int)) (by simp) Tryd.underlying51 Tryd.underlying21 Tryd.underlying9 (by
    intro i hi
    simp only [List.length_map, List.length_set] at hi
    rw [WideShapes.add_plain, Nat.zero_add]
    have hcell : w.cell? ⟨g, i, none⟩ = some (.int .i32 (rs[i] : Nat)) := by
      have e := congrArg (·[i]?) ht
      simp only [List.getElem?_take, if_pos hi, rcv, List.getElem?_map, List.getElem?_eq_getElem hi, Option.map_some] at e
      simp only [World.cell?, hg]
      rw [← Array.getElem?_toList]; exact e
    by_cases hij : i = j
    · subst hij
      rw [World.cell?_setCell_same _ _ _ hcell]
      simp [List.getD, hi]
    · rw [World.cell?_setCell_other _ _ _ _ (fun e => hij (by cases e; rfl)), hcell]
      have : ((rs.set j 63).map fun r : Nat => (r : Int)).getD i 0 = (rs[i] : Nat) := by
        rw [List.getD, List.getElem?_map, List.getElem?_set_ne (by omega), List.getElem?_eq_getElem hi]
        rfl
      rw [this])
  rw [h, List.take_of_length_le (by simp), runesBytes_encs _ hs']
set_option maxHeartbeats 1000000 in
set_option maxRecDepth 100000 in
theorem like_bad (n p : ByteArray) (a : Int) (w : World) (hn : n.size ≤ 140737488351232) (ho : okN n.data.toList = false) (hT : U8 w) :
    Calls Tryd.prog 7 #[.string n, .string p, .int .u8 a] w fun e w' => e = .returned (.bool true) ∧ Below w.heap.size w w' := by
  have HT : Hid (U8 w) := hT
  have hck := check_any n w (by omega) hT
  have e10 : rnE n.data.toList = 10 := by simp [rnE, ho]
  rw [e10] at hck
  have HM : Hid (∀ W, U8 W → Calls Tryd.prog 37 #[.string ⟨#[42]⟩, .string n] W fun e w' => e = .returned (.tuple #[.bool (mtB [42] n.data.toList), .int .i64 10]) ∧ Below W.heap.size W w') := fun W hW => by
    have := match_any ⟨#[42]⟩ n W (by decide) (by omega) hW
    rw [show (⟨#[42]⟩ : ByteArray).data.toList = [42] from rfl, mt_star_bad ho] at this
    exact this
  obtain ⟨q, hq⟩ : ∃ q, q = mtB [42] n.data.toList := ⟨_, rfl⟩
  rw [← hq] at HM
  clear hT e10 hq ho
  go_enter Tryd.func7, Tryd.ntmps7
  go_wp2_with fail
  refine hck.mono ?_
  rintro e w1 ⟨rfl, hb1⟩
  have H1 : Hid (Below w.heap.size w w1) := hb1
  clear hb1 hck
  go_wp2_with fail
  refine (HM.out w1 (HT.out.below H1.out)).mono ?_
  rintro e w2 ⟨rfl, hb2⟩
  have H2 : Hid (Below w.heap.size w w2) := H1.out.trans (hb2.mono H1.out.size)
  clear hb2 HM H1
  go_wp2_with fail
  refine (awake4 w2 (HT.out.below H2.out)).mono ?_
  rintro e w3 ⟨rfl, hb3⟩
  have H3 : Hid (Below w.heap.size w w3) := H2.out.trans (hb3.mono H2.out.size)
  clear hb3 H2
  go_wp2
  go_ret
  exact ⟨rfl, H3.out⟩
set_option maxHeartbeats 4000000 in
set_option maxRecDepth 100000 in
theorem like_good (n p : ByteArray) (A : Nat) (w : World) (hn : n.size ≤ 140737488351232) (hp : p.size ≤ 140737488351232) (hA : A < 256) (ho : okN n.data.toList = true) (hT : U8 w) :
    Calls Tryd.prog 7 #[.string n, .string p, .int .u8 (A : Int)] w fun e w' => e = .returned (.bool true) ∧ Below w.heap.size w w' := by
  have HT : Hid (U8 w) := hT
  have HO : Hid (okN n.data.toList = true) := ho
  have hck := check_any n w (by omega) hT
  have e10 : rnE n.data.toList = 0 := by simp [rnE, ho]
  rw [e10] at hck
  obtain ⟨i0, hi, hz0, hz1, hz2⟩ := info_parts info_i32
  have HN : Hid (1 ≤ (rn n.data.toList).length ∧ (rn n.data.toList).length ≤ 64) := ⟨(okN_split ho).2.2.2.2.2.1, (okN_split ho).2.2.2.2.2.2⟩
  clear hT e10 ho
  go_enter Tryd.func7, Tryd.ntmps7
  go_wp2_with fail
  refine hck.mono ?_
  rintro e w1 ⟨rfl, hb1⟩
  have H1 : Hid (Below w.heap.size w w1) := hb1
  have hz1' : w.heap.size ≤ w1.heap.size := hb1.size
  clear hb1 hck
  go_wp2
  go_loopw [9, 10] (fun v9 v10 wr => ∃ (pos : Nat) (pre : List Nat), v9 = .bool (plainR pre) ∧ wr.ownsRow w.heap.size 21 1 v10 pre.length (rcv pre) ∧ wr.heap[w1.heap.size]? = some (.stringIter n pos) ∧ Hid (Below w.heap.size w wr) ∧ pos ≤ n.size ∧ Hid (rn n.data.toList = pre ++ rn (n.data.toList.drop pos))) (fun _ _ wr => n.size - wr.iterPos w1.heap.size)
  case atStart =>
    refine ⟨0, [], rfl, World.ownsRow_nil _ _ _ _, World.iter_heap w1 n 0, ?_, Nat.zero_le _, rfl⟩
    exact H1.out.trans (((Below.refl _ w1).alloc (Nat.le_refl _) _).mono hz1')
  case round =>
    obtain ⟨pos, pre, rfl, hown, hit, HB, hpn, HR⟩ := hrel
    have hsz : w1.heap.size < wr.heap.size := (Array.getElem?_eq_some_iff.1 hit).1
    by_cases hlt : pos < n.size
    · have hnx : ∀ ty, (Instr.next (.pointer (some ⟨w1.heap.size, 0, none⟩)) true ty).run Tryd.prog wr = _ := fun ty => Lib.run_next_any_at wr w1.heap.size n pos ty hit hlt
      have hd := dec_le n pos hlt
      have hra := rn_at n pos hlt
      have hit2 := Lib.iterAt_heap wr w1.heap.size n pos (pos + (Utf8.decode n pos).2) hit
      have hb2 := Lib.below_iterAt HB.out (k := w1.heap.size) hz1' n (pos + (Utf8.decode n pos).2)
      have hown2 : (wr.iterAt w1.heap.size n (pos + (Utf8.decode n pos).2)).ownsRow w.heap.size 21 1 u10 pre.length (rcv pre) := iter_own hown hit
      obtain ⟨r, hr⟩ : ∃ r, (Utf8.decode n pos).1 = r := ⟨_, rfl⟩
      obtain ⟨k, hk⟩ : ∃ k, (Utf8.decode n pos).2 = k := ⟨_, rfl⟩
      obtain ⟨wn, hwn⟩ : ∃ wn, wr.iterAt w1.heap.size n (pos + k) = wn := ⟨_, rfl⟩
      simp only [hr, hk, hwn] at hnx hd hra hit2 hb2 hown2
      have HB2 : Hid (Below w.heap.size w wn) := hb2
      have HOW : Hid (wn.ownsRow w.heap.size 21 1 u10 pre.length (rcv pre)) := hown2
      have HRA : Hid (rn n.data.toList = (pre ++ [r]) ++ rn (n.data.toList.drop (pos + k))) := by
        show rn n.data.toList = _
        rw [HR.out, hra]; simp
      have hp64 : pre.length ≤ 64 := by
        have := HN.out.2
        rw [HR.out, List.length_append] at this
        omega
      have HM : Hid (wr.iterPos w1.heap.size = pos) := by show wr.iterPos w1.heap.size = pos; simp only [World.iterPos, hit]
      have hzz : w.heap.size ≤ wn.heap.size := hb2.size
      obtain ⟨pb, hpb⟩ : ∃ pb, pb = plainR pre := ⟨_, rfl⟩
      obtain ⟨b1, hb1⟩ : ∃ b1, ((r : Int) != 63) = b1 := ⟨_, rfl⟩
      obtain ⟨b2, hb2⟩ : ∃ b2, ((r : Int) != 42) = b2 := ⟨_, rfl⟩
      have HPL : Hid (plainR (pre ++ [r]) = (pb && (b1 && b2))) := by
        show plainR (pre ++ [r]) = _
        rw [plainR_snoc, hpb, ← hb1, ← hb2]
        congr 2
        · by_cases h : r = 63
          · subst h; rfl
          · rw [show (r != 63) = true from by simpa using h, show ((r : Int) != 63) = true from by simp; omega]
        · by_cases h : r = 42
          · subst h; rfl
          · rw [show (r != 42) = true from by simpa using h, show ((r : Int) != 42) = true from by simp; omega]
      rw [← hpb]
      clear hra hwn hr hk hown hown2 hit HR hpb
      cases pb <;> cases b1 <;> cases b2
      all_goals
        go_wp2_with (at_builtin; refine wpList_append_own _ rfl _ _ 51 rfl w.heap.size 21 i0 (.int .i32 0) 1 4 Tryd.underlying51 hi hz0 hz1 hz2 rfl (by decide) _ _ _ rfl (HOW.out.alloc _) ⟨wn.heap.size, 0, none⟩ 1 1 [.int .i32 r] rfl rfl (news_i32 _ _ _) (one_i32 _) (by first | omega | (unfold maxLen; omega) | (simp; omega)) (by first | omega | (unfold maxLen; omega) | (simp; omega)) (by first | omega | (unfold maxLen; omega) | (simp; omega)) ?_)
        intro v' w7 hown7 hgrow _
        have HO7 : Hid (w7.ownsRow w.heap.size 21 1 v' (pre ++ [r]).length (rcv (pre ++ [r]))) := by
          show w7.ownsRow w.heap.size 21 1 v' (pre ++ [r]).length (rcv (pre ++ [r]))
          rw [rcv_app, List.length_append]; exact hown7
        have HB7 : Hid (Below w.heap.size w w7) := app_below HB2.out hzz HOW.out hgrow
        have hit7 := app_iter HOW.out hgrow hit2
        clear hown7 hgrow HOW
        go_wp2
        go_roundw
        case rel => exact ⟨pos + k, pre ++ [r], by rw [HPL.out]; rfl, HO7.out, hit7, HB7.out, hd.2, HRA.out⟩
        case measure => rw [HM.out]; simp only [World.iterPos, hit7]; omega
    · have hnx : ∀ ty, (Instr.next (.pointer (some ⟨w1.heap.size, 0, none⟩)) true ty).run Tryd.prog wr = _ := fun ty => Lib.run_next_end_at wr w1.heap.size n pos ty hit hlt
      have HE : Hid (pre = rn n.data.toList) := by
        show pre = _
        rw [HR.out, rn_end n pos hlt, List.append_nil]
      have hpe : pre = rn n.data.toList := HE.out
      obtain ⟨hlen, hown⟩ := hown
      have hne : 1 ≤ pre.length ∧ pre.length ≤ 64 := by rw [hpe]; exact HN.out
      rcases hown with ⟨_, h0⟩ | ⟨g, cap, cur, rfl, hBg, hg, hnc, hcm, hcs, htk⟩
      · omega
      clear hlen HR hpe
      obtain ⟨pl, hpl⟩ : ∃ pl, pl = plainR pre := ⟨_, rfl⟩
      rw [← hpl]
      obtain ⟨it, hit'⟩ : ∃ it, it = mtB n.data.toList n.data.toList := ⟨_, rfl⟩
      have HIT : Hid (pl = true → it = true) := fun h => by rw [hit']; exact (mt_self HO.out).2 (by rw [← HE.out, ← hpl]; exact h)
      have HPL : Hid (pl = plainR (rn n.data.toList)) := by show pl = _; rw [hpl, HE.out]
      have C1 : Hid (∀ W, U8 W → Calls Tryd.prog 37 #[.string n, .string n] W fun e w' => e = .returned (.tuple #[.bool it, .int .i64 0]) ∧ Below W.heap.size W w') := fun W hW => by
        have := match_any n n W (by omega) (by omega) hW
        rw [(mt_self HO.out).1, ← hit'] at this
        exact this
      have C2 : Hid (∀ W, U8 W → Calls Tryd.prog 37 #[.string ⟨#[42]⟩, .string n] W fun e w' => e = .returned (.tuple #[.bool true, .int .i64 0]) ∧ Below W.heap.size W w') := fun W hW => by
        have := match_any ⟨#[42]⟩ n W (by decide) (by omega) hW
        rw [show (⟨#[42]⟩ : ByteArray).data.toList = [42] from rfl, (mt_star HO.out).1, (mt_star HO.out).2] at this
        exact this
      clear hit' hpl hit
      have HG : Hid (wr.heap[g]? = some (.cells cur 21 (0, 0)) ∧ cur.size = cap ∧ cur.toList.take pre.length = rcv pre) := ⟨hg, by rw [hcs, Nat.mul_one], by rw [← htk, Nat.mul_one]⟩
      clear hg hcs htk
      go_wp2_with fail
      refine (C1.out wr (HT.out.below HB.out)).mono ?_
      rintro e w5 ⟨rfl, hb5⟩
      have H5 : Hid (Below wr.heap.size wr w5) := hb5
      clear hb5 C1
      go_wp2_with fail
      refine (C2.out w5 ((HT.out.below HB.out).below H5.out)).mono ?_
      rintro e w6 ⟨rfl, hb6⟩
      have H6 : Hid (Below wr.heap.size wr w6) := H5.out.trans (hb6.mono H5.out.size)
      clear hb6 C2 H5
      have hgw : g < wr.heap.size := (Array.getElem?_eq_some_iff.1 HG.out.1).1
      have HG6 : Hid (w6.heap[g]? = some (.cells cur 21 (0, 0))) := by
        show w6.heap[g]? = _
        rw [H6.out.block g hgw]; exact HG.out.1
      obtain ⟨j, hj⟩ : ∃ j, j = A % pre.length := ⟨_, rfl⟩
      have hjm : j < pre.length := by rw [hj]; exact Nat.mod_lt _ (by omega)
      have hcv := set_conv w6 g cap j pre cur (by rw [HE.out]; exact rn_scal _ _ (Nat.le_refl _)) HG6.out HG.out.2.2 (by rw [HG.out.2.1]; exact hnc) hjm
      obtain ⟨sm, hsm⟩ : ∃ sm, sm = mkB (encs (pre.set j 63)) := ⟨_, rfl⟩
      rw [← hsm] at hcv
      obtain ⟨ak, has⟩ : ∃ ak, ak = mtB sm.data.toList n.data.toList := ⟨_, rfl⟩
      have hsz3 : sm.size ≤ 255 := by
        rw [hsm, ← data_len, mkB_data, HE.out]
        have := encs_set 63 (by decide +kernel) (rn n.data.toList) j
        rw [encs_rn _ _ (Nat.le_refl _) (okN_split HO.out).2.1] at this
        have := (okN_split HO.out).1
        omega
      have HAS : Hid (pl = true → ak = true) := fun h => by
        rw [has, hsm, mkB_data, HE.out]
        exact (mt_asked HO.out j).2 (by rw [← HPL.out]; exact h)
      have C3 : Hid (∀ W, U8 W → Calls Tryd.prog 37 #[.string sm, .string n] W fun e w' => e = .returned (.tuple #[.bool ak, .int .i64 0]) ∧ Below W.heap.size W w') := fun W hW => by
        have := match_any sm n W (by omega) (by omega) hW
        have e0 : mtE sm.data.toList n.data.toList = 0 := by rw [hsm, mkB_data, HE.out]; exact (mt_asked HO.out j).1
        rw [e0, ← has] at this
        exact this
      obtain ⟨m, hm⟩ : ∃ m, m = pre.length := ⟨_, rfl⟩
      rw [← hm] at hne hnc hjm hcv hj ⊢
      have hjz : (A : Int) % (m : Int) = (j : Int) := by rw [hj]; omega
      clear hm hj hsm has
      have hcj : ∃ v, w6.cell? ⟨g, j, none⟩ = some v := by
        have hlt : j < cur.size := by rw [HG.out.2.1]; omega
        exact ⟨cur[j], by simp only [World.cell?, HG6.out]; exact Array.getElem?_eq_getElem hlt⟩
      obtain ⟨vj, hvj⟩ := hcj
      have hfz : w6.frozen? ⟨g, j, none⟩ = false := frozen_of_row w6 g j cur _ HG6.out
      have HB6 : Hid (Below w.heap.size w w6) := HB.out.trans (H6.out.mono HB.out.size)
      have HB7 : Hid (Below w.heap.size w (w6.setCell ⟨g, j, none⟩ (.int .i32 63))) := HB6.out.setCell (p := ⟨g, j, none⟩) hBg _
      obtain ⟨w7, hw7⟩ : ∃ w7, w7 = w6.setCell ⟨g, j, none⟩ (.int .i32 63) := ⟨_, rfl⟩
      have HW7 : Hid (w7 = w6.setCell ⟨g, j, none⟩ (.int .i32 63)) := hw7
      rw [← hw7] at HB7 
      clear hw7 HG6 HG H6 HB
      go_wp2_with fail
      rw [← HW7.out]
      refine (C3.out w7 (HT.out.below HB7.out)).mono ?_
      rintro e w8 ⟨rfl, hb8⟩
      have H8 : Hid (Below w.heap.size w w8) := HB7.out.trans (hb8.mono HB7.out.size)
      clear hb8 C3 HB7 HB6 hcv hvj hfz HW7
      obtain ⟨aB, haB⟩ : ∃ aB, aB = mtB p.data.toList n.data.toList := ⟨_, rfl⟩
      obtain ⟨aE, haE⟩ : ∃ aE, aE = mtE p.data.toList n.data.toList := ⟨_, rfl⟩
      have C4 : Hid (∀ W, U8 W → Calls Tryd.prog 37 #[.string p, .string n] W fun e w' => e = .returned (.tuple #[.bool aB, .int .i64 (aE : Nat)]) ∧ Below W.heap.size W w') := fun W hW => by
        have := match_any p n W (by omega) (by omega) hW
        rw [← haB, ← haE] at this
        exact this
      have HAB : Hid (aB = mtB p.data.toList n.data.toList ∧ aE = mtE p.data.toList n.data.toList) := ⟨haB, haE⟩
      clear haB haE
      have hcases : (pl = false ∨ (pl = true ∧ it = true ∧ ak = true)) := by
        cases h : pl with
        | false => exact .inl rfl
        | true => exact .inr ⟨rfl, HIT.out h, HAS.out h⟩
      clear HIT HAS HPL
      rcases hcases with rfl | ⟨rfl, rfl, rfl⟩
      all_goals
        go_wp2_with fail
        refine (C4.out w8 (HT.out.below H8.out)).mono ?_
        rintro e w9 ⟨rfl, hb9⟩
        have H9 : Hid (Below w.heap.size w w9) := H8.out.trans (hb9.mono H8.out.size)
        clear hb9 C4 H8
        go_wp2
        go_loopw [21, 22] (fun v i wr => ∃ (k : Nat) (z : ByteArray), k ≤ p.size ∧ v = .string z ∧ i = .int .i64 k ∧ Hid (z.data.toList = dblB (p.data.toList.take k)) ∧ z.size ≤ 2 * k ∧ w9 = wr) (fun _ i _ => p.size - (intOf i).toNat)
        case atStart => exact ⟨0, ⟨#[]⟩, Nat.zero_le _, rfl, rfl, rfl, by decide, rfl⟩
        case round =>
        obtain ⟨k, z, hk, rfl, rfl, HZ, hz, hw⟩ := hrel
        subst hw
        by_cases hkl : k < p.size
        · have s1 : (k : Int) ≤ (k : Int) + 1 := by omega
          have s2 : (k : Int) + 1 ≤ (p.size : Nat) := by omega
          have s3 : (k : Int) < (p.size : Nat) := by omega
          have hyz : (p.extract k (k + 1)).size = 1 := by rw [ByteArray.size_extract]; omega
          have hyl : (p.extract k (k + 1)).data.toList = [p[k]] := by
            simp only [ByteArray.data_extract, Array.toList_extract]
            rw [List.extract_eq_take_drop, show k + 1 - k = 1 by omega, List.drop_eq_getElem_cons (by rw [data_len]; exact hkl)]
            rfl
          have htk : p.data.toList.take (k + 1) = p.data.toList.take k ++ [p[k]] := by
            rw [List.take_add_one, List.getElem?_eq_getElem (by rw [data_len]; exact hkl)]
            rfl
          have hby : (z ++ p.extract k (k + 1)).data.toList = dblB (p.data.toList.take k) ++ [p[k]] := by
            rw [← HZ.out, ← hyl]; simp
          have hbz : (z ++ p.extract k (k + 1)).size = z.size + 1 := by rw [ByteArray.size_append, hyz]
          have b1 : ¬ 9223372036854775807 < z.size + (p.extract k (k + 1)).size := by omega
          obtain ⟨z1, hz1⟩ : ∃ z1, z1 = z ++ p.extract k (k + 1) := ⟨_, rfl⟩
          rw [← hz1] at hby hbz
          have HZ1 : Hid (z1 = z ++ p.extract k (k + 1)) := hz1
          have b2 : ¬ 9223372036854775807 < z1.size + 1 := by omega
          by_cases h42 : p[k] = 42
          · have e42 : ((p[k].toNat : Int) == 42) = true := by rw [h42]; rfl
            have HN2 : Hid ((z1 ++ (⟨#[42]⟩ : ByteArray)).data.toList = dblB (p.data.toList.take (k + 1))) := by
              show (z1 ++ (⟨#[42]⟩ : ByteArray)).data.toList = _
              rw [htk, dblB_app]
              have : (z1 ++ (⟨#[42]⟩ : ByteArray)).data.toList = z1.data.toList ++ [42] := by simp
              rw [this, hby, h42]
              simp [dblB]
            have hzz2 : (z1 ++ (⟨#[42]⟩ : ByteArray)).size ≤ 2 * (k + 1) := by rw [ByteArray.size_append, hbz, show (⟨#[42]⟩ : ByteArray).size = 1 from rfl]; omega
            obtain ⟨z2, hz2⟩ : ∃ z2, z2 = z1 ++ (⟨#[42]⟩ : ByteArray) := ⟨_, rfl⟩
            rw [← hz2] at HN2 hzz2
            have HZ2 : Hid (z2 = z1 ++ (⟨#[42]⟩ : ByteArray)) := hz2
            clear hby htk hyl hyz hz1 hz2 hbz HZ h42
            go_wp2
            go_roundw
            case rel => exact ⟨k + 1, z2, by omega, by rw [HZ2.out, HZ1.out], by go_num, HN2.out, hzz2, by first | rfl | trivial⟩
            case measure => simp [intOf]; omega
          · have e42 : ((p[k].toNat : Int) == 42) = false := by
              have : p[k].toNat ≠ 42 := fun e => h42 (UInt8.toNat_inj.1 e)
              simp; omega
            have HN2 : Hid (z1.data.toList = dblB (p.data.toList.take (k + 1))) := by
              show z1.data.toList = _
              rw [htk, dblB_app, hby]
              simp [dblB, h42]
            have hzz2 : z1.size ≤ 2 * (k + 1) := by omega
            clear hby htk hyl hyz hz1 hbz HZ h42
            go_wp2
            go_roundw
            case rel => exact ⟨k + 1, z1, by omega, by rw [HZ1.out], by go_num, HN2.out, hzz2, by first | rfl | trivial⟩
            case measure => simp [intOf]; omega
        · have hkp : k = p.size := by omega
          have HTW : Hid (z.data.toList = dblB p.data.toList) := by
            show z.data.toList = _
            rw [HZ.out, hkp, List.take_of_length_le (by rw [data_len]; exact Nat.le_refl _)]
          clear HZ
          obtain ⟨bB, hbB⟩ : ∃ bB, bB = mtB z.data.toList n.data.toList := ⟨_, rfl⟩
          obtain ⟨bE, hbE⟩ : ∃ bE, bE = mtE z.data.toList n.data.toList := ⟨_, rfl⟩
          have C5 : Hid (∀ W, U8 W → Calls Tryd.prog 37 #[.string z, .string n] W fun e w' => e = .returned (.tuple #[.bool bB, .int .i64 (bE : Nat)]) ∧ Below W.heap.size W w') := fun W hW => by
            have := match_any z n W (by omega) (by omega) hW
            rw [← hbB, ← hbE] at this
            exact this
          have hEQ : aE ≠ 0 ∨ (aE = 0 ∧ bE ≠ 0) ∨ (aE = 0 ∧ bE = 0 ∧ aB = bB) := by
            by_cases h1 : aE = 0
            · by_cases h2 : bE = 0
              · refine .inr (.inr ⟨h1, h2, ?_⟩)
                rw [HAB.out.1, hbB, HTW.out]
                exact mt_twice HO.out (by rw [← HAB.out.2]; exact h1) (by rw [← HTW.out, ← hbE]; exact h2)
              · exact .inr (.inl ⟨h1, h2⟩)
            · exact .inl h1
          clear hbB hbE HAB HTW hkp
          rcases hEQ with h1 | ⟨h1, h2⟩ | ⟨h1, h2, h3⟩
          · have g1 : ((aE : Int) != 0) = true := by simp; omega
            go_wp2_with fail
            refine (C5.out w9 (HT.out.below H9.out)).mono ?_
            rintro e w10 ⟨rfl, hb10⟩
            have H10 : Hid (Below w.heap.size w w10) := H9.out.trans (hb10.mono H9.out.size)
            clear hb10 C5 H9
            go_wp2_with fail
            refine (awake4 w10 (HT.out.below H10.out)).mono ?_
            rintro e w11 ⟨rfl, hb11⟩
            have H11 : Hid (Below w.heap.size w w11) := H10.out.trans (hb11.mono H10.out.size)
            clear hb11 H10
            go_wp2
            go_ret
            exact ⟨rfl, H11.out⟩
          · subst h1
            have g2 : ((bE : Int) != 0) = true := by simp; omega
            go_wp2_with fail
            refine (C5.out w9 (HT.out.below H9.out)).mono ?_
            rintro e w10 ⟨rfl, hb10⟩
            have H10 : Hid (Below w.heap.size w w10) := H9.out.trans (hb10.mono H9.out.size)
            clear hb10 C5 H9
            go_wp2_with fail
            refine (awake4 w10 (HT.out.below H10.out)).mono ?_
            rintro e w11 ⟨rfl, hb11⟩
            have H11 : Hid (Below w.heap.size w w11) := H10.out.trans (hb11.mono H10.out.size)
            clear hb11 H10
            go_wp2
            go_ret
            exact ⟨rfl, H11.out⟩
          · subst h1 h2 h3
            go_wp2_with fail
            refine (C5.out w9 (HT.out.below H9.out)).mono ?_
            rintro e w10 ⟨rfl, hb10⟩
            have H10 : Hid (Below w.heap.size w w10) := H9.out.trans (hb10.mono H9.out.size)
            clear hb10 C5 H9
            cases aB
            all_goals
              go_wp2_with fail
              refine (awake4 w10 (HT.out.below H10.out)).mono ?_
              rintro e w11 ⟨rfl, hb11⟩
              have H11 : Hid (Below w.heap.size w w11) := H10.out.trans (hb11.mono H10.out.size)
              clear hb11 H10
              go_wp2
              go_ret
              exact ⟨rfl, H11.out⟩
end Go.Proofs.YtmkmhbbpbpkdjaaDoor
