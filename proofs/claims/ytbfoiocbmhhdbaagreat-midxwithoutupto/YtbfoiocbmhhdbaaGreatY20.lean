import Derived.Test.YtbfoiocbmhhdbaaGreatY18
import Derived.Test.YtbfoiocbmhhdbaaGreatY19
import Derived.Test.YtbfoiocbmhhdbaaGreatY9
import Derived.Test.YtbfoiocbmhhdbaaGreatY15
import Derived.Test.YtbfoiocbmhhdbaaGreatY2
import Derived.Laws.BitsAllLaws
import Derived.Laws.MakeOwn
import Derived.Test.YtbfoiocbmhhdbaaGreatY1
import Derived.Test.YtbfoiocbmhhdbaaGreatRows
import Derived.Deep.AppendLies
import Derived.Deep.DeepAppendRoom
import Derived.WalkMore
import Derived.Laws.AppendOwn
/- midx.Merge. -/
namespace Go.Proofs.YtbfoiocbmhhdbaaGreat
open Go.RowKit Go.Maps
set_option linter.unusedSimpArgs false
set_option linter.unusedVariables false
theorem Hld.fold {xs : List (ByteArray × List Xe)} {s : ByteArray} : ∀ {l2 l1 : List Xe} {d : List Mr}, Hld (xs ++ [(s, l1)]) d → Hld (xs ++ [(s, l1 ++ l2)]) (l2.foldl (adM s) d)
  | [], l1, d, h => by rw [List.append_nil]; exact h
  | n :: l2, l1, d, h => by
    have := Hld.fold (l2 := l2) (h.add (n := n))
    rwa [List.append_assoc] at this
theorem Hld.index {xs : List (ByteArray × List Xe)} {d : List Mr} (h : Hld xs d) (s : ByteArray) (l : List Xe) : Hld (xs ++ [(s, l)]) (l.foldl (adM s) d) := (h.pack s).fold
/-- These are the indexes that these texts are. -/
structure Ixs (ts : List ByteArray) (xs : List (ByteArray × List Xe)) : Prop where
  len : ts.length = xs.length
  ix : ∀ (i : Nat) t q, ts[i]? = some t → xs[i]? = some q → IsIx t q.1 q.2
theorem Ixs.nil : Ixs [] [] := ⟨rfl, fun i t q h => by simp at h⟩
theorem Ixs.snoc {ts : List ByteArray} {xs : List (ByteArray × List Xe)} {t : ByteArray} {q : ByteArray × List Xe} (h : Ixs ts xs) (ht : IsIx t q.1 q.2) : Ixs (ts ++ [t]) (xs ++ [q]) := by
  refine ⟨by simp [h.len], fun i a b ha hb => ?_⟩
  by_cases hi : i < ts.length
  · rw [List.getElem?_append_left hi] at ha
    rw [List.getElem?_append_left (by rw [← h.len]; exact hi)] at hb
    exact h.ix i a b ha hb
  · have h1 := (List.getElem?_eq_some_iff.1 ha).1
    rw [List.length_append, List.length_singleton] at h1
    have e : i = ts.length := by omega
    subst e
    rw [List.getElem?_append_right (Nat.le_refl _), Nat.sub_self] at ha
    rw [List.getElem?_append_right (by rw [h.len]; exact Nat.le_refl _), h.len, Nat.sub_self] at hb
    simp at ha hb
    subst ha; subst hb
    exact ht
theorem Ixs.one {ts : List ByteArray} {xs ys : List (ByteArray × List Xe)} (h : Ixs ts xs) (g : Ixs ts ys) : xs = ys := by
  apply List.ext_getElem?
  intro i
  by_cases hi : i < ts.length
  · obtain ⟨t, ht⟩ : ∃ t, ts[i]? = some t := ⟨_, List.getElem?_eq_getElem hi⟩
    obtain ⟨q, hq⟩ : ∃ q, xs[i]? = some q := ⟨xs[i]'(by rw [← h.len]; exact hi), List.getElem?_eq_getElem _⟩
    obtain ⟨r, hr⟩ : ∃ r, ys[i]? = some r := ⟨ys[i]'(by rw [← g.len]; exact hi), List.getElem?_eq_getElem _⟩
    have a := (h.ix i t q ht hq).take
    have b := (g.ix i t r ht hr).take
    rw [hq, hr]
    have : q = r := by
      obtain ⟨q1, q2⟩ := q
      obtain ⟨r1, r2⟩ := r
      simp only at a b
      rw [← a.1, ← a.2, b.1, b.2]
    rw [this]
  · rw [List.getElem?_eq_none (by rw [← h.len]; omega), List.getElem?_eq_none (by rw [← g.len]; omega)]
theorem Ixs.mem {ts : List ByteArray} {xs : List (ByteArray × List Xe)} (h : Ixs ts xs) : ∀ q ∈ xs, q.1.size = 32 ∧ OkL q.2 := fun q hq => by
  obtain ⟨i, hi⟩ := List.getElem?_of_mem hq
  have hl : i < ts.length := by rw [h.len]; exact (List.getElem?_eq_some_iff.1 hi).1
  have := h.ix i _ q (List.getElem?_eq_getElem hl) hi
  exact ⟨this.1, this.2.1⟩
/-- Sums of unlike packs. -/
def Unl (xs : List (ByteArray × List Xe)) : Prop := xs.Pairwise (fun a b => a.1 ≠ b.1)
/-- What Merge tells. -/
def MgR (ts : List ByteArray) (e : Ending) : Prop :=
  (4096 < ts.length ∧ e = .returned (.tuple #[.string ⟨#[]⟩, .int .i64 1])) ∨
  (ts.length ≤ 4096 ∧ ∃ k xs t, ts[k]? = some t ∧ Ixs (ts.take k) xs ∧ Unl xs ∧ (∀ s l, ¬ IsIx t s l) ∧ e = .returned (.tuple #[.string ⟨#[]⟩, .int .i64 4])) ∨
  (ts.length ≤ 4096 ∧ ∃ k xs t s l, ts[k]? = some t ∧ Ixs (ts.take k) xs ∧ Unl xs ∧ IsIx t s l ∧ (∃ q ∈ xs, q.1 = s) ∧ e = .returned (.tuple #[.string ⟨#[]⟩, .int .i64 7])) ∨
  (ts.length ≤ 4096 ∧ ∃ xs d, Ixs ts xs ∧ Unl xs ∧ Hld xs d ∧ 1048576 < d.length ∧ e = .returned (.tuple #[.string ⟨#[]⟩, .int .i64 1])) ∨
  (ts.length ≤ 4096 ∧ ∃ xs ps l, Ixs ts xs ∧ Unl xs ∧ Mgd xs ps l ∧ OkM ps l ∧ e = .returned (.tuple #[.string ⟨(mxB ps l).toArray⟩, .int .i64 0]))
/-- Merge under way. -/
structure MgU (w0 : World) (gm mp mr : Nat) (ts : List ByteArray) (k : Nat) (xs : List (ByteArray × List Xe)) (dN : List Nf) (dR : List Rf) (w : World) : Prop where
  m : MgM w gm mp mr dN dR
  ix : Ixs (ts.take k) xs
  un : Unl xs
  ns : dN.map (·.1) = xs.map (·.1)
  hl : Hld xs (dR.map (·.1))
  bel : Below w0.heap.size w0 w
theorem MgU.lens {w0 w : World} {gm mp mr k : Nat} {ts : List ByteArray} {xs : List (ByteArray × List Xe)} {dN : List Nf} {dR : List Rf} (h : MgU w0 gm mp mr ts k xs dN dR w) (hk : k ≤ ts.length) : dN.length = k ∧ dR.length ≤ 1048577 := by
  have h1 := congrArg List.length h.ns
  rw [List.length_map, List.length_map] at h1
  have h2 := h.ix.len
  rw [List.length_take] at h2
  have h3 := h.hl.len
  rw [List.length_map] at h3
  exact ⟨by omega, h3⟩
set_option maxHeartbeats 8000000 in
set_option maxRecDepth 100000 in
theorem merge_any (a : Option Addr) (n c : Nat) (ts : List ByteArray) (w : World) (hT : TxL w a ts) (hn : ts.length = n) (hn1 : n ≤ 1000000000000000) (hz : ∀ t ∈ ts, t.size ≤ 4611686018427387904) :
    Calls Tryz.prog 9 #[.slice a n c] w fun e w' => MgR ts e ∧ Below w.heap.size w w' := by
  by_cases hbig : 4096 < n
  · have hbz : (4096 : Int) < (n : Int) := by omega
    have HE : Hid (4096 < ts.length) := by show _ < _; omega
    clear hT hz hn hbig
    go_enter Tryz.func9, Tryz.ntmps9
    go_wp2
    go_ret2
    exact ⟨.inl ⟨HE.out, rfl⟩, Below.refl _ _⟩
  have hbz : ¬ (4096 : Int) < (n : Int) := by omega
  have hmm := @run_makeMap Tryz.prog
  have HT : Hid (TxL w a ts ∧ ∀ t ∈ ts, t.size ≤ 4611686018427387904) := ⟨hT, hz⟩
  have HN : Hid (ts.length = n ∧ n ≤ 4096) := ⟨hn, by omega⟩
  obtain ⟨mp, hmp⟩ : ∃ m, w.heap.size = m := ⟨_, rfl⟩
  have hb1 : Below w.heap.size w (w.alloc (.map #[] 0)) := (Below.refl _ _).alloc (Nat.le_refl _) _
  have hb2 : Below w.heap.size w ((w.alloc (.map #[] 0)).alloc (.map #[] 0)) := hb1.alloc hb1.size _
  have hb3 : Below w.heap.size w (((w.alloc (.map #[] 0)).alloc (.map #[] 0)).alloc (.cells #[.map (some w.heap.size), .map (some (w.heap.size + 1))] 77)) := hb2.alloc hb2.size _
  have k1 : KvM kyN elN (w.alloc (.map #[] 0)) w.heap.size [] := KvM.made _ _ w
  have k2 : KvM kyR elR ((w.alloc (.map #[] 0)).alloc (.map #[] 0)) (w.heap.size + 1) [] := by
    have := KvM.made kyR elR (w.alloc (.map #[] 0))
    rwa [World.size_alloc] at this
  have hal : ∀ (W : World) (o : Obj), Below W.heap.size W (W.alloc o) := fun W o => (Below.refl _ _).alloc (Nat.le_refl _) _
  have k3 : Bk (((w.alloc (.map #[] 0)).alloc (.map #[] 0)).alloc (.cells #[.map (some w.heap.size), .map (some (w.heap.size + 1))] 77)) (w.heap.size + 2) #[.map (some w.heap.size), .map (some (w.heap.size + 1))] 77 := by
    have := bk_new ((w.alloc (.map #[] 0)).alloc (.map #[] 0)) #[.map (some w.heap.size), .map (some (w.heap.size + 1))] 77
    rwa [World.size_alloc, World.size_alloc] at this
  have HU : Hid (MgU w (w.heap.size + 1 + 1) w.heap.size (w.heap.size + 1) ts 0 [] [] [] (((w.alloc (.map #[] 0)).alloc (.map #[] 0)).alloc (.cells #[.map (some w.heap.size), .map (some (w.heap.size + 1))] 77))) :=
    ⟨⟨k3, (k1.below (hal _ _)).below (hal _ _), k2.below (hal _ _), by omega⟩, by rw [List.take_zero]; exact Ixs.nil, List.Pairwise.nil, rfl, Hld.nil, hb3⟩
  rw [hmp] at HU
  have HMP : Hid (w.heap.size = mp) := hmp
  clear hT hz hn hbig hb1 hb2 hb3 k1 k2 k3 hal
  go_enter Tryz.func9, Tryz.ntmps9
  go_wp2
  obtain ⟨W0, hW0⟩ : ∃ W, ((w.alloc (.map #[] 0)).alloc (.map #[] 0)).alloc (.cells #[.map (some mp), .map (some (mp + 1))] 77) = W := ⟨_, rfl⟩
  rw [hW0] at HU ⊢
  obtain ⟨gm, hgm⟩ : ∃ g, mp + 1 + 1 = g := ⟨_, rfl⟩
  obtain ⟨mr, hmr⟩ : ∃ g, mp + 1 = g := ⟨_, rfl⟩
  have HPR : Hid (mp = w.heap.size ∧ w.heap.size ≤ mr) := ⟨hmp.symm, by omega⟩
  rw [hgm, hmr] at HU
  rw [hgm]
  clear hW0 hgm hmr hmp hmm
  go_loopw [16] (fun v wr => ∃ (k : Nat) (xs : List (ByteArray × List Xe)) (dN : List Nf) (dR : List Rf), v = .int .i64 k ∧ k ≤ n ∧ Hid (MgU w gm mp mr ts k xs dN dR wr)) (fun v _ => n - (intOf v).toNat)
  case atStart => exact ⟨0, [], [], [], rfl, Nat.zero_le _, HU.out⟩
  case round =>
    obtain ⟨k, xs, dN, dR, rfl, hk, HR⟩ := hrel
    clear HU
    have hlens := HR.out.lens (by rw [HN.out.1]; exact hk)
    have HLE : Hid (dN.length = k ∧ dR.length ≤ 1048577) := hlens
    clear hlens
    by_cases hlt : k < n
    · have hkz : (k : Int) < (n : Nat) := by omega
      obtain ⟨t, ht⟩ : ∃ t, ts[k]? = some t := ⟨ts[k]'(by rw [HN.out.1]; exact hlt), List.getElem?_eq_getElem _⟩
      obtain ⟨g6, o6, rfl, hg6, hc6⟩ := (HT.out.1.below HR.out.bel) k t ht
      have HTK : Hid (ts[k]? = some t) := ht
      have hn4 := HN.out.2
      have HAD : Hid (Calls Tryz.prog 29 #[.pointer (some ⟨gm, 0, none⟩), .string t] wr fun e w' => AdR t w.heap.size gm mp mr dN dR e w' ∧ Below w.heap.size wr w') :=
        madd_any t w.heap.size gm mp mr dN dR wr (HT.out.2 t (List.mem_of_getElem? ht)) HR.out.m (by rw [HLE.out.1]; omega) HLE.out.2 HR.out.bel.size (by rw [HPR.out.1]; exact Nat.le_refl _) HPR.out.2
      clear ht hg6
      go_wp2_with fail
      refine HAD.out.mono ?_
      rintro e w1 ⟨hA, hb1⟩
      have HB1 : Hid (Below w.heap.size w w1) := HR.out.bel.trans hb1
      clear hb1 HAD hc6
      rcases hA with ⟨rfl, hno, _⟩ | ⟨sf, l, hix, ⟨rfl, hmet, _⟩ | ⟨rfl, hnew, dR', hd', hl', hm'⟩⟩
      · have HE : Hid (∀ s l, ¬ IsIx t s l) := hno
        clear hno
        go_wp2
        go_ret2
        exact ⟨.inr (.inl ⟨by rw [HN.out.1]; exact HN.out.2, k, xs, t, HTK.out, HR.out.ix, HR.out.un, HE.out, rfl⟩), HB1.out⟩
      · have HE : Hid (IsIx t sf.1 l ∧ ∃ q ∈ xs, q.1 = sf.1) := by
          refine ⟨hix, ?_⟩
          obtain ⟨x, hx1, hx2⟩ := hmet
          have : x.1 ∈ xs.map (·.1) := by rw [← HR.out.ns]; exact List.mem_map_of_mem hx1
          obtain ⟨q, q1, q2⟩ := List.mem_map.1 this
          exact ⟨q, q1, by rw [q2]; exact hx2⟩
        clear hix hmet
        go_wp2
        go_ret2
        exact ⟨.inr (.inr (.inl ⟨by rw [HN.out.1]; exact HN.out.2, k, xs, t, sf.1, l, HTK.out, HR.out.ix, HR.out.un, HE.out.1, HE.out.2, rfl⟩)), HB1.out⟩
      · have HU2 : Hid (MgU w gm mp mr ts (k + 1) (xs ++ [(sf.1, l)]) (dN ++ [sf]) dR' w1) := by
          have hns : ∀ q ∈ xs, q.1 ≠ sf.1 := fun q hq e => by
            have : q.1 ∈ dN.map (·.1) := by rw [HR.out.ns]; exact List.mem_map_of_mem hq
            obtain ⟨x, x1, x2⟩ := List.mem_map.1 this
            exact hnew x x1 (x2.trans e)
          refine ⟨hm', ?_, ?_, ?_, ?_, HB1.out⟩
          · rw [List.take_add_one, HTK.out]
            exact HR.out.ix.snoc hix
          · exact List.pairwise_append.2 ⟨HR.out.un, List.pairwise_singleton _ _, fun q hq r hr => by rw [List.mem_singleton.1 hr]; exact hns q hq⟩
          · rw [List.map_append, List.map_append, HR.out.ns]; rfl
          · rw [hd']; exact HR.out.hl.index sf.1 l
        clear hix hnew hd' hl' hm' HR
        go_wp2
        go_roundw
        case rel => exact ⟨k + 1, _, _, _, by go_num, by omega, HU2.out⟩
        case measure => simp [intOf]; omega
    · have hkz : ¬ (k : Int) < (n : Nat) := by omega
      obtain rfl : k = n := by omega
      have c1 : wr.cell? ⟨gm, 1, none⟩ = some (.map (some mr)) := by rw [HR.out.m.bk.cell]; rfl
      have hlen := fun ty => HR.out.m.rs.len Tryz.underlying75 ty
      obtain ⟨dl, hdl⟩ : ∃ dl, dR.length = dl := ⟨_, rfl⟩
      rw [hdl] at hlen
      have HDL : Hid (dR.length = dl ∧ ts.take k = ts) := ⟨hdl, List.take_of_length_le (by rw [HN.out.1]; exact Nat.le_refl _)⟩
      clear hdl
      by_cases hmore : 1048576 < dl
      · have hmz : (1048576 : Int) < (dl : Int) := by omega
        have HE : Hid (Ixs ts xs ∧ 1048576 < (dR.map (·.1)).length) := ⟨by have := HR.out.ix; rwa [HDL.out.2] at this, by rw [List.length_map, HDL.out.1]; exact hmore⟩
        clear hmore
        go_wp2
        go_ret2
        exact ⟨.inr (.inr (.inr (.inl ⟨by rw [HN.out.1]; exact HN.out.2, xs, dR.map (·.1), HE.out.1, HR.out.un, HR.out.hl, HE.out.2, rfl⟩))), HR.out.bel⟩
      · have hmz : ¬ (1048576 : Int) < (dl : Int) := by omega
        have HMI : Hid (Calls Tryz.prog 30 #[.pointer (some ⟨gm, 0, none⟩)] wr fun e w' => ∃ g ps l, e = .returned (.pointer (some ⟨g, 0, none⟩)) ∧ (ps.Perm (dN.map (·.1)) ∧ RiN ps ∧ l.Perm (dR.map (·.1)) ∧ RiM l) ∧ MxW w' g ps l ∧ Below wr.heap.size wr w') :=
          mindex_any gm mp mr dN dR wr HR.out.m (by rw [HLE.out.1]; exact HN.out.2) (by rw [HDL.out.1]; omega)
        have HD6 : Hid (dR.length ≤ 1048576 ∧ Ixs ts xs) := ⟨by rw [HDL.out.1]; omega, by have := HR.out.ix; rwa [HDL.out.2] at this⟩
        clear hmore
        go_wp2_with fail
        refine HMI.out.mono ?_
        rintro e w1 ⟨g, ps, l, rfl, ⟨hp1, hp2, hp3, hp4⟩, hx1, hb1⟩
        have HMG : Hid (Mgd xs ps l ∧ OkM ps l) := by
          have hg : Mgd xs ps l := HR.out.hl.mgd (ss := dN.map (·.1)) (by rw [List.length_map]; exact HD6.out.1) (fun p => by rw [HR.out.ns, List.mem_map]) hp1 hp2 hp3 hp4
          exact ⟨hg, hg.ok HD6.out.2.mem (by rw [hp1.length_eq, List.length_map, HLE.out.1]; exact HN.out.2) (by rw [hp3.length_eq, List.length_map]; exact HD6.out.1)⟩
        have HX1 : Hid (MxW w1 g ps l ∧ Below w.heap.size w w1) := ⟨hx1, HR.out.bel.trans (hb1.mono HR.out.bel.size)⟩
        clear hp1 hp2 hp3 hp4 hx1 hb1 HMI hlen c1
        go_wp2_with fail
        refine (mbytes_any g ps l w1 HX1.out.1 HMG.out.2).mono ?_
        rintro e w2 ⟨rfl, hb2⟩
        have H2 : Hid (Below w.heap.size w w2) := HX1.out.2.trans (hb2.mono HX1.out.2.size)
        clear hb2
        obtain ⟨R, hR⟩ : ∃ R : ByteArray, (⟨(mxB ps l).toArray⟩ : ByteArray) = R := ⟨_, rfl⟩
        have HRR : Hid ((⟨(mxB ps l).toArray⟩ : ByteArray) = R) := hR
        rw [hR]
        clear hR
        go_wp2
        go_ret2
        exact ⟨.inr (.inr (.inr (.inr ⟨by rw [HN.out.1]; exact HN.out.2, xs, ps, l, HD6.out.2, HR.out.un, HMG.out.1, HMG.out.2, by rw [HRR.out]; rfl⟩))), H2.out⟩
end Go.Proofs.YtbfoiocbmhhdbaaGreat
/- midx.Open. -/
namespace Go.Proofs.YtbfoiocbmhhdbaaGreat
open Go.RowKit
set_option linter.unusedSimpArgs false
set_option linter.unusedVariables false
/-- What Open tells. -/
def MpS (S : ByteArray) (e : Ending) (w' : World) : Prop :=
  (e = .returned (.tuple #[.pointer none, .int .i64 4]) ∧ ∀ ps l, ¬ IsMx S ps l) ∨ ∃ g ps l, e = .returned (.tuple #[.pointer (some ⟨g, 0, none⟩), .int .i64 0]) ∧ IsMx S ps l ∧ MxS w' g ps l
theorem okX_zMr : okX zMr.e = false := by decide
set_option maxHeartbeats 4000000 in
set_option maxRecDepth 100000 in
theorem mopen_any (S : ByteArray) (w : World) (hS : S.size ≤ 140737488351232) :
    Calls Tryz.prog 10 #[.string S] w fun e w' => MpS S e w' ∧ Below w.heap.size w w' := by
  obtain ⟨ps, hps⟩ : ∃ ps, tkPs (bl S) = ps := ⟨_, rfl⟩
  obtain ⟨l, hl⟩ : ∃ l, tkMs (bl S) = l := ⟨_, rfl⟩
  have HT := mtake_any S w hS
  rw [hps, hl] at HT
  have HQ : Hid (∀ ps' l', IsMx S ps' l' → ps' = ps ∧ l' = l) := fun ps' l' h => by
    have := h.take
    rw [hps, hl] at this
    exact ⟨this.1.symm, this.2.symm⟩
  have HP : Hid (ps.length ≤ 4096 ∧ l.length ≤ 1048576 ∧ ∀ r ∈ l, r = zMr ∨ r.p ∈ ps) := by
    refine ⟨?_, ?_, ?_⟩
    · rw [← hps, tkPs_len]; exact (tkPn_le _).1
    · rw [← hl, tkMs_len]; exact (tkMn_le _).1
    · rw [← hl, ← hps]; exact tkMs_mem _
  have HTK : Hid (Calls Tryz.prog 32 #[.string S] w fun e w' => ∃ g, e = .returned (.pointer (some ⟨g, 0, none⟩)) ∧ w.heap.size ≤ g ∧ MxS w' g ps l ∧ Below w.heap.size w w') := HT
  clear HT hps hl hS
  go_enter Tryz.func10, Tryz.ntmps10
  go_wp2_with fail
  refine HTK.out.mono ?_
  rintro e w1 ⟨g, rfl, _, hM1, hb1⟩
  have H1 : Hid (MxS w1 g ps l ∧ Below w.heap.size w w1) := ⟨hM1, hb1⟩
  clear hM1 hb1 HTK
  go_wp2_with fail
  refine (mmayBe_any g ps l w1 H1.out.1).mono ?_
  rintro e w2 ⟨⟨b, rfl, hb⟩, hb2⟩
  have H2 : Hid (MxS w2 g ps l ∧ Below w.heap.size w w2) := ⟨H1.out.1.below hb2, H1.out.2.trans (hb2.mono H1.out.2.size)⟩
  have HB : Hid (b = true ↔ RiN ps ∧ RiM l ∧ ∀ r ∈ l, okX r.e = true) := hb
  clear hb2 hb H1
  cases b with
  | false =>
    have HN : Hid (∀ ps' l', ¬ IsMx S ps' l') := fun ps' l' h => by
      obtain ⟨rfl, rfl⟩ := HQ.out _ _ h
      exact absurd (HB.out.2 ⟨h.ok.pri, h.ok.ri, h.ok.ok⟩) (by decide)
    clear HB HQ HP
    go_wp2
    go_ret2
    exact ⟨.inl ⟨rfl, HN.out⟩, H2.out.2⟩
  | true =>
    have HOK : Hid (OkM ps l) := by
      obtain ⟨q1, q2, q3⟩ := HB.out.1 rfl
      obtain ⟨gp, gr, k1, k2, k3⟩ := H2.out.1.row
      exact { psz := fun p hp => (by obtain ⟨i, hi⟩ := List.getElem?_of_mem hp; exact (k2 i p hi).1), pri := q1, pln := HP.out.1, ok := q3, id := fun r hr => (k3.ids r hr).2, ri := q2, len := HP.out.2.1,
              mem := fun r hr => (by
                rcases HP.out.2.2 r hr with e | e
                · have := q3 r hr; rw [e, okX_zMr] at this; cases this
                · exact e) }
    obtain ⟨R, hR⟩ : ∃ R : ByteArray, (⟨(mxB ps l).toArray⟩ : ByteArray) = R := ⟨_, rfl⟩
    have HBY : Hid (Calls Tryz.prog 31 #[.pointer (some ⟨g, 0, none⟩)] w2 fun e w' => e = .returned (.string R) ∧ Below w2.heap.size w2 w') := by rw [← hR]; exact mbytes_any g ps l w2 H2.out.1.w HOK.out
    have HR : Hid ((⟨(mxB ps l).toArray⟩ : ByteArray) = R) := hR
    clear hR HB HP
    go_wp2_with fail
    refine HBY.out.mono ?_
    rintro e w3 ⟨rfl, hb3⟩
    have H3 : Hid (MxS w3 g ps l ∧ Below w.heap.size w w3) := ⟨H2.out.1.below hb3, H2.out.2.trans (hb3.mono H2.out.2.size)⟩
    clear hb3 H2 HBY
    by_cases hEq : R = S
    · have HIS : Hid (IsMx S ps l) := ⟨HOK.out, by rw [← hEq, ← HR.out]; rfl⟩
      have hbq : (R.toList == S.toList) = true := by rw [hEq]; simp
      clear hEq HR HOK
      go_wp2
      go_ret2
      exact ⟨.inr ⟨g, ps, l, rfl, HIS.out, H3.out.1⟩, H3.out.2⟩
    · have HN : Hid (∀ ps' l', ¬ IsMx S ps' l') := fun ps' l' h => by
        obtain ⟨rfl, rfl⟩ := HQ.out _ _ h
        apply hEq
        rw [← HR.out]
        apply bl_inj
        rw [h.bs]; rfl
      have hbq := str_neX hEq
      clear hEq HR HOK
      go_wp2
      go_ret2
      exact ⟨.inl ⟨rfl, HN.out⟩, H3.out.2⟩
end Go.Proofs.YtbfoiocbmhhdbaaGreat
/- The mathematics of filters: places, bits, rows of bytes. No program is named here. -/
namespace Go.Proofs.YtbfoiocbmhhdbaaGreat
set_option linter.unusedSimpArgs false
set_option linter.unusedVariables false
open Go
/-- One bit of a row of bytes. -/
def btR (s : List UInt8) (p : Nat) : Bool := (s.getD (p / 8) 0).toNat.testBit (p % 8)
/-- A byte with one bit more. -/
def orB (a : UInt8) (k : Nat) : UInt8 := UInt8.ofNat (a.toNat ||| 2 ^ k)
theorem orB_lt (a : UInt8) (k : Nat) (hk : k < 8) : a.toNat ||| 2 ^ k < 256 := by
  have h1 := a.toNat_lt
  exact Nat.or_lt_two_pow (n := 8) h1 (Nat.pow_lt_pow_right (by omega) hk)
theorem orB_toNat (a : UInt8) (k : Nat) (hk : k < 8) : (orB a k).toNat = a.toNat ||| 2 ^ k := by
  have := orB_lt a k hk
  rw [orB, UInt8.toNat_ofNat']
  exact Nat.mod_eq_of_lt this
/-- A row with one bit more. -/
def stR (s : List UInt8) (p : Nat) : List UInt8 := s.set (p / 8) (orB (s.getD (p / 8) 0) (p % 8))
theorem stR_len (s : List UInt8) (p : Nat) : (stR s p).length = s.length := by simp [stR]
theorem btR_st (s : List UInt8) (p q : Nat) (h : p / 8 < s.length) : btR (stR s p) q = (btR s q || decide (q = p)) := by
  have hk : p % 8 < 8 := Nat.mod_lt _ (by omega)
  unfold btR stR
  by_cases e : p / 8 = q / 8
  · rw [← e]
    have e1 : (s.set (p / 8) (orB (s.getD (p / 8) 0) (p % 8))).getD (p / 8) 0 = orB (s.getD (p / 8) 0) (p % 8) := by
      simp [List.getD, h]
    rw [e1, orB_toNat _ _ hk, Nat.testBit_or, Nat.testBit_two_pow]
    congr 1
    have : (p % 8 = q % 8) ↔ (q = p) := by omega
    simp [this]
  · have e1 : (s.set (p / 8) (orB (s.getD (p / 8) 0) (p % 8))).getD (q / 8) 0 = s.getD (q / 8) 0 := by
      simp [List.getD, List.getElem?_set, e]
    rw [e1]
    have : ¬ q = p := by intro h; subst h; exact e rfl
    simp [this]
/-- The number in four bytes of a name. -/
def pnum (x : ByteArray) (i : Nat) : Nat := (((byl x).getD (4 * i) 0 * 256 + (byl x).getD (4 * i + 1) 0) * 256 + (byl x).getD (4 * i + 2) 0) * 256 + (byl x).getD (4 * i + 3) 0
/-- A place of a name. -/
def plc (n : Nat) (x : ByteArray) (i : Nat) : Nat := pnum x i % n
/-- A name added: its first places. -/
def adK (n : Nat) (x : ByteArray) : Nat → List UInt8 → List UInt8
  | 0, s => s
  | i + 1, s => stR (adK n x i s) (plc n x i)
/-- Whether a name is had: its first places. -/
def haK (n : Nat) (x : ByteArray) (s : List UInt8) : Nat → Bool
  | 0 => true
  | i + 1 => haK n x s i && btR s (plc n x i)
theorem adK_len (n : Nat) (x : ByteArray) (s : List UInt8) : ∀ k, (adK n x k s).length = s.length
  | 0 => rfl
  | k + 1 => by rw [adK, stR_len, adK_len n x s k]
/-- Is that one of the places of a name? -/
def isP (n : Nat) (x : ByteArray) (q : Nat) : Nat → Bool
  | 0 => false
  | i + 1 => isP n x q i || decide (q = plc n x i)
theorem isP_iff (n : Nat) (x : ByteArray) (q : Nat) : ∀ k, isP n x q k = true ↔ ∃ i, i < k ∧ q = plc n x i
  | 0 => by simp [isP]
  | k + 1 => by
    rw [isP, Bool.or_eq_true, isP_iff n x q k, decide_eq_true_eq]
    constructor
    · rintro (⟨i, h1, h2⟩ | h)
      · exact ⟨i, by omega, h2⟩
      · exact ⟨k, by omega, h⟩
    · rintro ⟨i, h1, h2⟩
      by_cases e : i = k
      · subst e; exact .inr h2
      · exact .inl ⟨i, by omega, h2⟩
theorem plc_in (n : Nat) (x : ByteArray) (i : Nat) (s : List UInt8) (hn : 0 < n) (h : 8 * s.length = n) : plc n x i / 8 < s.length := by
  have : plc n x i < n := Nat.mod_lt _ hn
  omega
theorem btR_ad (n : Nat) (x : ByteArray) (s : List UInt8) (q : Nat) (hn : 0 < n) (h : 8 * s.length = n) : ∀ k, btR (adK n x k s) q = (btR s q || isP n x q k)
  | 0 => by simp [adK, isP]
  | k + 1 => by
    rw [adK, btR_st _ _ _ (by rw [adK_len]; exact plc_in n x k s hn h), btR_ad n x s q hn h k, isP, Bool.or_assoc]
theorem haK_iff (n : Nat) (x : ByteArray) (s : List UInt8) : ∀ k, haK n x s k = true ↔ ∀ i, i < k → btR s (plc n x i) = true
  | 0 => by simp [haK]
  | k + 1 => by
    rw [haK, Bool.and_eq_true, haK_iff n x s k]
    constructor
    · rintro ⟨h1, h2⟩ i hi
      by_cases e : i = k
      · subst e; exact h2
      · exact h1 i (by omega)
    · intro h
      exact ⟨fun i hi => h i (by omega), h k (by omega)⟩
/-- Names added one behind the other. -/
def adL (n k : Nat) (l : List ByteArray) (s : List UInt8) : List UInt8 := l.foldl (fun s x => adK n x k s) s
theorem adL_len (n k : Nat) : ∀ (l : List ByteArray) (s : List UInt8), (adL n k l s).length = s.length
  | [], _ => rfl
  | x :: l, s => by
    show (adL n k l (adK n x k s)).length = _
    rw [adL_len n k l, adK_len]
theorem adL_snoc (n k : Nat) (l : List ByteArray) (x : ByteArray) (s : List UInt8) : adL n k (l ++ [x]) s = adK n x k (adL n k l s) := by simp [adL]
theorem btR_adL (n k : Nat) (q : Nat) (hn : 0 < n) : ∀ (l : List ByteArray) (s : List UInt8), 8 * s.length = n → (btR (adL n k l s) q = true ↔ btR s q = true ∨ ∃ x ∈ l, ∃ i, i < k ∧ q = plc n x i)
  | [], s, _ => by simp [adL]
  | x :: l, s, h => by
    show btR (adL n k l (adK n x k s)) q = true ↔ _
    rw [btR_adL n k q hn l _ (by rw [adK_len]; exact h), btR_ad n x s q hn h, Bool.or_eq_true, isP_iff]
    simp only [List.mem_cons, exists_eq_or_imp]
    exact or_assoc
/-- A row of noughts. -/
def zrR (m : Nat) : List UInt8 := List.replicate m 0
theorem zrR_len (m : Nat) : (zrR m).length = m := by simp [zrR]
theorem btR_zr (m q : Nat) : btR (zrR m) q = false := by
  have e : (zrR m).getD (q / 8) 0 = 0 := by
    simp only [zrR, List.getD]
    rw [List.getElem?_replicate]
    split <;> rfl
  rw [btR, e]; simp
/-- Two rows of one length with the same bits are one. -/
theorem row_ext (s t : List UInt8) (hl : s.length = t.length) (h : ∀ q, q < 8 * s.length → btR s q = btR t q) : s = t := by
  apply List.ext_getElem hl
  intro j h1 h2
  apply UInt8.toNat_inj.1
  apply Nat.eq_of_testBit_eq
  intro k
  by_cases hk : k < 8
  · have := h (8 * j + k) (by omega)
    unfold btR at this
    rw [show (8 * j + k) / 8 = j from by omega, show (8 * j + k) % 8 = k from by omega] at this
    simp only [List.getD, List.getElem?_eq_getElem h1, List.getElem?_eq_getElem h2, Option.getD_some] at this
    exact this
  · have p : 2 ^ 8 ≤ 2 ^ k := Nat.pow_le_pow_right (by omega) (by omega)
    have a1 := (s[j]).toNat_lt
    have a2 := (t[j]).toNat_lt
    rw [Nat.testBit_lt_two_pow (by omega), Nat.testBit_lt_two_pow (by omega)]
/-- What was added is had. -/
theorem had (n k : Nat) (l : List ByteArray) (s : List UInt8) (hn : 0 < n) (h : 8 * s.length = n) (x : ByteArray) (hx : x ∈ l) : haK n x (adL n k l s) k = true := by
  rw [haK_iff]
  intro i hi
  rw [btR_adL n k _ hn l s h]
  exact .inr ⟨x, hx, i, hi, rfl⟩
/-- A finer filter. -/
theorem finer (n N k : Nat) (l : List ByteArray) (s t : List UInt8) (hn : 0 < n) (hN : 0 < N) (hd : n ∣ N) (hs : 8 * s.length = n) (ht : 8 * t.length = N) (z : ∀ q, btR t q = false) (y : ByteArray) (h : haK N y (adL N k l t) k = true) : haK n y (adL n k l s) k = true := by
  rw [haK_iff] at h ⊢
  intro i hi
  have := h i hi
  rw [btR_adL N k _ hN l t ht, z] at this
  rw [btR_adL n k _ hn l s hs]
  rcases this with e | ⟨x, hx, j, hj, e⟩
  · simp at e
  · refine .inr ⟨x, hx, j, hj, ?_⟩
    unfold plc at e ⊢
    rw [← Nat.mod_mod_of_dvd (pnum y i) hd, e, Nat.mod_mod_of_dvd _ hd]
/-- Sizes. -/
def okF (n k : Nat) : Prop := (∃ e, e ≤ 18 ∧ n = 64 * 2 ^ e) ∧ 1 ≤ k ∧ k ≤ 8
theorem okF_pos {n k : Nat} (h : okF n k) : 64 ≤ n := by
  obtain ⟨⟨e, _, rfl⟩, _⟩ := h
  have := Nat.one_le_two_pow (n := e)
  omega
theorem okF_le {n k : Nat} (h : okF n k) : n ≤ 16777216 := by
  obtain ⟨⟨e, he, rfl⟩, _⟩ := h
  have := Nat.pow_le_pow_right (n := 2) (by omega) he
  omega
theorem okF_div {n k : Nat} (h : okF n k) : 8 * (n / 8) = n := by
  obtain ⟨⟨e, he, rfl⟩, _⟩ := h
  omega
theorem okF_iff (n k : Nat) : okF n k ↔ (n &&& (n - 1) = 0 ∧ 64 ≤ n ∧ n ≤ 16777216 ∧ 1 ≤ k ∧ k ≤ 8) := by
  constructor
  · intro h
    refine ⟨?_, okF_pos h, okF_le h, h.2⟩
    have h0 := okF_pos h
    rw [Nat.and_sub_one_eq_zero_iff_isPowerOfTwo (by omega)]
    obtain ⟨⟨e, he, rfl⟩, _⟩ := h
    exact ⟨6 + e, by rw [Nat.pow_add]⟩
  · rintro ⟨h1, h2, h3, h4⟩
    rw [Nat.and_sub_one_eq_zero_iff_isPowerOfTwo (by omega)] at h1
    obtain ⟨e, he⟩ := h1
    have a : 6 ≤ e := by
      rcases Nat.lt_or_ge e 6 with h | h
      · have := Nat.pow_lt_pow_right (a := 2) (by omega) h
        omega
      · exact h
    have b : e ≤ 24 := by
      rcases Nat.lt_or_ge 24 e with h | h
      · have := Nat.pow_lt_pow_right (a := 2) (by omega) h
        omega
      · exact h
    refine ⟨⟨e - 6, by omega, ?_⟩, h4⟩
    rw [he]
    conv => lhs; rw [show e = 6 + (e - 6) from by omega, Nat.pow_add]
end Go.Proofs.YtbfoiocbmhhdbaaGreat
/- Rows one behind the other in one block; bytes of a text copied into a block. No program is named here. -/
namespace Go.Proofs.YtbfoiocbmhhdbaaGreat
open Go.RowKit
set_option linter.unusedSimpArgs false
set_option linter.unusedVariables false
/-- Bytes as cells. -/
def rc (r : List UInt8) : Array Value := (r.map fun x : UInt8 => Value.int .u8 (x.toNat : Int)).toArray
theorem rc_size (r : List UInt8) : (rc r).size = r.length := by simp [rc]
theorem rc_one (r : List UInt8) : (rc r).all (·.oneCell') = true := by simp [rc, List.all_eq_true, Value.oneCell']
theorem rc_get (r : List UInt8) (j : Nat) : (rc r)[j]? = (r[j]?).map fun x : UInt8 => Value.int .u8 (x.toNat : Int) := by simp [rc]
theorem rc_set (r : List UInt8) (j : Nat) (x : UInt8) : (rc r).setIfInBounds j (.int .u8 (x.toNat : Int)) = rc (r.set j x) := by
  simp only [rc, List.setIfInBounds_toArray, List.map_set]
theorem rc_list (r : List UInt8) : (rc r).toList = r.map fun x : UInt8 => Value.int .u8 (x.toNat : Int) := by simp [rc]
/-- Bytes laid over others from a place on. -/
def putB (l : List UInt8) (o : Nat) (r : List UInt8) : List UInt8 := l.take o ++ r ++ l.drop (o + r.length)
theorem putB_len (l : List UInt8) (o : Nat) (r : List UInt8) (h : o + r.length ≤ l.length) : (putB l o r).length = l.length := by
  simp [putB]; omega
theorem putB_get (l : List UInt8) (o : Nat) (r : List UInt8) (h : o + r.length ≤ l.length) (i : Nat) : (putB l o r)[i]? = if o ≤ i ∧ i < o + r.length then r[i - o]? else l[i]? := by
  unfold putB
  by_cases h1 : i < o
  · rw [if_neg (by omega), List.append_assoc, List.getElem?_append_left (by simp; omega), List.getElem?_take, if_pos h1]
  · by_cases h2 : i < o + r.length
    · rw [if_pos (by omega), List.append_assoc, List.getElem?_append_right (by simp; omega), List.getElem?_append_left (by simp; omega)]
      simp only [List.length_take]
      congr 1
      omega
    · rw [if_neg (by omega), List.getElem?_append_right (by simp; omega), List.getElem?_drop]
      simp only [List.length_append, List.length_take]
      congr 1
      omega
theorem putC_rc (l : List UInt8) (o : Nat) (r : List UInt8) (h : o + r.length ≤ l.length) : putC (rc l) o (rc r).toList = rc (putB l o r) := by
  apply Array.ext_getElem?
  intro i
  rw [putC_get _ _ _ _ (by rw [rc_list, rc_size]; simpa using h), rc_get, rc_get, putB_get l o r h, rc_list]
  simp only [List.length_map]
  by_cases e : o ≤ i ∧ i < o + r.length
  · rw [if_pos e, if_pos e, List.getElem?_map]
  · rw [if_neg e, if_neg e]
theorem putB_all (l r : List UInt8) (h : l.length = r.length) : putB l 0 r = r := by
  unfold putB
  rw [List.take_zero, List.nil_append, List.drop_eq_nil_of_le (by omega), List.append_nil]
theorem putC_all (l r : List UInt8) (h : l.length = r.length) : putC (rc l) 0 (rc r).toList = rc r := by
  rw [putC_rc l 0 r (by omega), putB_all l r h]
theorem flat_len (k : Nat) : ∀ (L : List (List UInt8)), (∀ r ∈ L, r.length = k) → L.flatten.length = k * L.length
  | [], _ => by simp
  | r :: L, h => by
    rw [List.flatten_cons, List.length_append, flat_len k L (fun x hx => h x (by simp [hx])), h r (by simp), List.length_cons, Nat.mul_succ]
    omega
theorem flat_get (k : Nat) : ∀ (L : List (List UInt8)), (∀ r ∈ L, r.length = k) → ∀ (i : Nat) (r : List UInt8), L[i]? = some r → ∀ j, j < k → L.flatten[k * i + j]? = r[j]?
  | [], _, i, r, hi, _, _ => by simp at hi
  | x :: L, h, 0, r, hi, j, hj => by
    simp only [List.getElem?_cons_zero, Option.some.injEq] at hi
    subst hi
    rw [List.flatten_cons, Nat.mul_zero, Nat.zero_add, List.getElem?_append_left (by rw [h x (by simp)]; exact hj)]
  | x :: L, h, i + 1, r, hi, j, hj => by
    have hx := h x (by simp)
    rw [List.flatten_cons, List.getElem?_append_right (by rw [hx, Nat.mul_succ]; omega), hx, show k * (i + 1) + j - k = k * i + j from by rw [Nat.mul_succ]; omega]
    exact flat_get k L (fun y hy => h y (by simp [hy])) i r (by simpa using hi) j hj
theorem flat_set (k : Nat) : ∀ (L : List (List UInt8)), (∀ r ∈ L, r.length = k) → ∀ (i : Nat), i < L.length → ∀ (r : List UInt8), r.length = k → putB L.flatten (k * i) r = (L.set i r).flatten
  | [], _, i, hi, _, _ => by simp at hi
  | x :: L, h, 0, _, r, hr => by
    have hx := h x (by simp)
    unfold putB
    rw [Nat.mul_zero, List.take_zero, List.nil_append, Nat.zero_add, List.set_cons_zero, List.flatten_cons, List.flatten_cons, List.drop_append, hr, ← hx, List.drop_length, Nat.sub_self, List.drop_zero, List.nil_append]
  | x :: L, h, i + 1, hi, r, hr => by
    have hx := h x (by simp)
    have ih := flat_set k L (fun y hy => h y (by simp [hy])) i (by simpa using hi) r hr
    rw [List.set_cons_succ, List.flatten_cons, List.flatten_cons, ← ih]
    unfold putB
    rw [List.take_append, List.drop_append, hx, List.take_of_length_le (by rw [hx, Nat.mul_succ]; omega), List.drop_eq_nil_of_le (by rw [hx, Nat.mul_succ]; omega), List.nil_append, List.append_assoc, List.append_assoc, List.append_assoc]
    rw [show k * (i + 1) - k = k * i from by rw [Nat.mul_succ]; omega, show k * (i + 1) + r.length - k = k * i + r.length from by rw [Nat.mul_succ]; omega]
theorem flat_part (k : Nat) : ∀ (L : List (List UInt8)), (∀ r ∈ L, r.length = k) → ∀ (i : Nat) (r : List UInt8), L[i]? = some r → ∀ (x : List UInt8), x.length ≤ k → putB L.flatten (k * i) x = (L.set i (putB r 0 x)).flatten
  | [], _, i, r, hi, _, _ => by simp at hi
  | y :: L, h, 0, r, hi, x, hx => by
    simp only [List.getElem?_cons_zero, Option.some.injEq] at hi
    subst hi
    have hy := h y (by simp)
    unfold putB
    rw [Nat.mul_zero, List.take_zero, List.take_zero, List.nil_append, Nat.zero_add, List.set_cons_zero, List.flatten_cons, List.flatten_cons, List.drop_append, show x.length - y.length = 0 from by omega, List.drop_zero, List.append_assoc]
  | y :: L, h, i + 1, r, hi, x, hx => by
    have hy := h y (by simp)
    have ih := flat_part k L (fun z hz => h z (by simp [hz])) i r (by simpa using hi) x hx
    rw [List.set_cons_succ, List.flatten_cons, List.flatten_cons, ← ih]
    unfold putB
    rw [List.take_append, List.drop_append, hy, List.take_of_length_le (by rw [hy, Nat.mul_succ]; omega), List.drop_eq_nil_of_le (by rw [hy, Nat.mul_succ]; omega), List.nil_append, List.append_assoc, List.append_assoc, List.append_assoc]
    rw [show k * (i + 1) - k = k * i from by rw [Nat.mul_succ]; omega, show k * (i + 1) + x.length - k = k * i + x.length from by rw [Nat.mul_succ]; omega]
/-- The cells of rows of one width. -/
theorem row_get (k : Nat) (L : List (List UInt8)) (h : ∀ r ∈ L, r.length = k) (i : Nat) (r : List UInt8) (hi : L[i]? = some r) (j : Nat) (v : Value) (hv : (rc r)[j]? = some v) : (rc L.flatten)[k * i + j]? = some v := by
  have hr := h r (List.mem_of_getElem? hi)
  have hj : j < k := by
    have := (Array.getElem?_eq_some_iff.1 hv).1
    rw [rc_size, hr] at this
    exact this
  rw [rc_get, flat_get k L h i r hi j hj, ← rc_get]
  exact hv
theorem row_fits (k : Nat) (L : List (List UInt8)) (h : ∀ r ∈ L, r.length = k) (i : Nat) (hi : i < L.length) (r : List UInt8) (hr : r.length = k) : k * i + (rc r).size ≤ (rc L.flatten).size := by
  rw [rc_size, rc_size, hr, flat_len k L h, ← Nat.mul_succ]
  exact Nat.mul_le_mul_left k hi
theorem row_put (k : Nat) (L : List (List UInt8)) (h : ∀ r ∈ L, r.length = k) (i : Nat) (hi : i < L.length) (r : List UInt8) (hr : r.length = k) : putC (rc L.flatten) (k * i) (rc r).toList = rc (L.set i r).flatten := by
  have := row_fits k L h i hi r hr
  rw [rc_size, rc_size] at this
  rw [putC_rc _ _ _ this, flat_set k L h i hi r hr]
theorem set_wide (k : Nat) (L : List (List UInt8)) (h : ∀ r ∈ L, r.length = k) (i : Nat) (r : List UInt8) (hr : r.length = k) : ∀ x ∈ L.set i r, x.length = k := by
  intro x hx
  rcases List.mem_or_eq_of_mem_set hx with h1 | h1
  · exact h x h1
  · rw [h1]; exact hr
/-- Rows of nothing, made. -/
theorem made_rows (k n : Nat) (hk : 0 < k) : madeCells (rc (List.replicate k 0)) (n * k) = rc (List.replicate n (List.replicate k (0 : UInt8))).flatten := by
  apply Array.ext_getElem?
  intro i
  have hl : (List.replicate n (List.replicate k (0 : UInt8))).flatten = List.replicate (n * k) 0 := by
    rw [List.flatten_replicate_replicate]
  rw [hl, rc_get]
  simp only [madeCells]
  by_cases hi : i < n * k
  · rw [List.getElem?_replicate, if_pos hi]
    simp [rc, hi, Nat.mod_lt _ hk]
  · rw [List.getElem?_eq_none (by simp; omega), Array.getElem?_eq_none (by simp; omega)]; rfl
/-- 'copy(x[..], s)': the bytes of a text into the middle of a block. -/
theorem copy_txt (w : World) (dT sT ty elem : TypeId) (b o dLen dCap : Nat) (s : ByteArray) {P : Program}
    (hu : P.underlying dT = some (.slice elem)) (hs : (P.info? elem).map (·.size) = some 1)
    (hc : ∀ j, j < Nat.min s.size dLen → (w.cell? ⟨b, o + j, none⟩).isSome = true) (hf : ∀ j, j < Nat.min s.size dLen → w.frozen? ⟨b, o + j, none⟩ = false) :
    (Builtin.copy_ #[dT, sT] ty #[.slice (some ⟨b, o, none⟩) dLen dCap, .string s]).run P w = .ok (goInt (Nat.min s.size dLen)) (w.setCells b o (rc (s.data.toList.take (Nat.min s.size dLen))).toList) := by
  have hl : (rc (s.data.toList.take (Nat.min s.size dLen))).toList.length = Nat.min s.size dLen := by
    simp only [rc_list, List.length_map, List.length_take, Array.length_toList]
    exact Nat.min_eq_left (Nat.min_le_left _ _)
  have hst := run_storeCells_cells (P := P) b o (rc (s.data.toList.take (Nat.min s.size dLen))).toList 0 w (by rw [hl]; simpa using hc) (by rw [hl]; simpa using hf) (by intro v hv; rw [rc_list, List.mem_map] at hv; obtain ⟨x, _, rfl⟩ := hv; rfl)
  cases hq : P.info? elem with
  | none => simp [hq] at hs
  | some i =>
    have hi : i.size = 1 := by simpa [hq] using hs
    simp only [Nat.add_zero] at hst
    simp [Builtin.copy_, run_underlying hu, Builtin.lenOf, Builtin.firstCells, sizeOf, typeInfo, hq, hi]
    have e2 : List.take (s.size.min dLen) (List.map (fun b => Value.int IntKind.u8 (b.toNat : Int)) s.data.toList) = (rc (s.data.toList.take (Nat.min s.size dLen))).toList := by
      rw [rc_list, ← List.map_take]
    rw [e2, hst]
    rfl
end Go.Proofs.YtbfoiocbmhhdbaaGreat
/- A filter in memory; bloom.isSize. -/
namespace Go.Proofs.YtbfoiocbmhhdbaaGreat
open Go.RowKit
set_option linter.unusedSimpArgs false
set_option linter.unusedVariables false
/-- Bytes of a row that may be written. -/
def Rw (w : World) (g : Nat) (s : List UInt8) : Prop := ∃ (C : Array Value) (fz : Nat × Nat), w.heap[g]? = some (.cells C 5 fz) ∧ (∀ j, j < s.length → ¬ (fz.1 ≤ j ∧ j < fz.2)) ∧ ∀ j, j < s.length → C[j]? = some (.int .u8 ((s.getD j 0).toNat : Int))
theorem Rw.lt {w : World} {g : Nat} {s : List UInt8} (h : Rw w g s) : g < w.heap.size := by
  obtain ⟨C, fz, h, _⟩ := h
  exact (Array.getElem?_eq_some_iff.1 h).1
theorem Rw.cell {w : World} {g : Nat} {s : List UInt8} (h : Rw w g s) (j : Nat) (hj : j < s.length) : w.cell? ⟨g, j, none⟩ = some (.int .u8 ((s.getD j 0).toNat : Int)) := by
  obtain ⟨C, fz, hC, _, hc⟩ := h
  rw [cell_of_row w g j C _ _ hC]
  exact hc j hj
theorem Rw.frozen {w : World} {g : Nat} {s : List UInt8} (h : Rw w g s) (j : Nat) (hj : j < s.length) : w.frozen? ⟨g, j, none⟩ = false := by
  obtain ⟨C, fz, hC, hn, _⟩ := h
  have := hn j hj
  simp only [World.frozen?, hC]
  simp only [Bool.and_eq_false_iff, decide_eq_false_iff_not]
  omega
theorem Rw.set {w : World} {g : Nat} {s : List UInt8} (h : Rw w g s) (i : Nat) (hi : i < s.length) (v : UInt8) : Rw (w.setCell ⟨g, i, none⟩ (.int .u8 (v.toNat : Int))) g (s.set i v) := by
  obtain ⟨C, fz, hC, hn, hc⟩ := h
  refine ⟨C.setIfInBounds i (.int .u8 (v.toNat : Int)), fz, Joins.block_setCell (i := i) hC _, by simpa using hn, fun j hj => ?_⟩
  rw [List.length_set] at hj
  have hiC : i < C.size := by
    have := hc i hi
    exact (Array.getElem?_eq_some_iff.1 this).1
  rw [Array.getElem?_setIfInBounds]
  by_cases e : i = j
  · subst e; rw [if_pos rfl, if_pos hiC]; simp [List.getD, hi]
  · rw [if_neg e, hc j hj]; simp [List.getD, List.getElem?_set, e]
theorem Rw.grown {w w' : World} {g : Nat} {s : List UInt8} {r : Option Nat} (h : Rw w g s) (hg : w.grownBy w' r) (hr : r ≠ some g) : Rw w' g s := by
  have hlt := h.lt
  obtain ⟨C, fz, hC, hn⟩ := h
  exact ⟨C, fz, by rw [hg.block g hlt (fun e => hr e.symm)]; exact hC, hn⟩
theorem Rw.of_bk {w : World} {g : Nat} {s : List UInt8} (h : Bk w g (rc s) 5) : Rw w g s :=
  ⟨rc s, (0, 0), h, fun j _ => by omega, fun j hj => by rw [rc_get, List.getD, List.getElem?_eq_getElem hj]; rfl⟩
end Go.Proofs.YtbfoiocbmhhdbaaGreat
/- Slices of texts, and of bytes, that the call makes by append. -/
namespace Go.Proofs.YtbfoiocbmhhdbaaGreat
open Go.RowKit
set_option linter.unusedSimpArgs false
set_option linter.unusedVariables false
theorem inf_str : (Tryz.prog.info? 9).map (fun i => (i.zero, i.size, i.bytes)) = some (some (.string ⟨#[]⟩), 1, 16) := by kernel_rfl
theorem inf_byte : (Tryz.prog.info? 5).map (fun i => (i.zero, i.size, i.bytes)) = some (some (.int .u8 0), 1, 1) := by kernel_rfl
/-- Texts as cells. -/
def sv (l : List ByteArray) : List Value := l.map fun x => Value.string x
theorem sv_append (a b : List ByteArray) : sv (a ++ b) = sv a ++ sv b := by simp [sv]
def bv (l : List UInt8) : List Value := l.map fun x : UInt8 => Value.int .u8 (x.toNat : Int)
theorem bv_append (a b : List UInt8) : bv (a ++ b) = bv a ++ bv b := by simp [bv]
theorem news_one (w : World) (p : Value) (T : TypeId) : ∀ (j : Nat) (u : Value), [p][j]? = some u → (w.alloc (.cells #[p] T)).cell? ((⟨w.heap.size, 0, none⟩ : Addr).add j) = some u := by
  intro j u h
  rw [WideShapes.add_plain, Nat.zero_add, World.cell?_alloc_new]
  simpa using h
theorem one_str (p : ByteArray) : ∀ u ∈ [Value.string p], u.oneCell' = true := by
  intro u hu
  simp at hu
  subst hu; rfl
theorem one_byte (n : Int) : ∀ u ∈ [Value.int .u8 n], u.oneCell' = true := by
  intro u hu
  simp at hu
  subst hu; rfl
theorem own_kept {B n : Nat} {w w' : World} {v : Value} {xs : List Value} {e : TypeId} (h : w.ownsRow B e 1 v n xs) (hb : Below w.heap.size w w') : w'.ownsRow B e 1 v n xs :=
  h.kept (gr_of_below hb none) (by cases v.ownBlock <;> simp)
theorem apn_bel {B n : Nat} {w wr w1 : World} {o : Obj} {v : Value} {xs : List Value} {e : TypeId} (hb : Below B w wr) (hz : B ≤ wr.heap.size) (ho : wr.ownsRow B e 1 v n xs) (hg : (wr.alloc o).grownBy w1 v.ownBlock) : Below B w w1 := by
  refine (hb.alloc hz o).grown hg (by simp; omega) (fun k hk => ?_)
  rcases ho.2 with ⟨rfl, _⟩ | ⟨g, cap, cur, rfl, hle, _⟩
  · cases hk
  · simp [Value.ownBlock] at hk; omega
theorem _root_.Go.World.ownsRow.lower {B B' n k : Nat} {w : World} {v : Value} {xs : List Value} {e : TypeId} (h : w.ownsRow B e k v n xs) (hB : B' ≤ B) : w.ownsRow B' e k v n xs := by
  refine ⟨h.1, ?_⟩
  rcases h.2 with h | ⟨g, cap, cur, h1, h2, h3⟩
  · exact .inl h
  · exact .inr ⟨g, cap, cur, h1, by omega, h3⟩
theorem own_txl {w : World} {B : Nat} {v : Value} {xs : List ByteArray} {e : TypeId} (h : w.ownsRow B e 1 v xs.length (sv xs)) : ∃ a c, v = .slice a xs.length c ∧ TxL w a xs ∧ (∀ b o s, a = some ⟨b, o, s⟩ → B ≤ b) := by
  rcases h.2 with ⟨rfl, h0⟩ | ⟨g, cap, cur, rfl, hle, hg, hn, _, hc, ht⟩
  · have : xs = [] := List.eq_nil_of_length_eq_zero h0
    subst this
    exact ⟨none, 0, rfl, fun i c hc => by simp at hc, fun b o s e => by cases e⟩
  · refine ⟨some ⟨g, 0, none⟩, cap, rfl, fun i c hi => ⟨g, 0, rfl, (Array.getElem?_eq_some_iff.1 hg).1, ?_⟩, fun b o s e => by cases e; exact hle⟩
    have hl : i < xs.length := (List.getElem?_eq_some_iff.1 hi).1
    have e := congrArg (·[i]?) ht
    rw [Nat.mul_one] at e
    simp only [List.getElem?_take, if_pos hl, sv, List.getElem?_map, hi, Option.map_some] at e
    simp only [World.cell?, hg, Nat.zero_add]
    rw [← Array.getElem?_toList]; exact e
end Go.Proofs.YtbfoiocbmhhdbaaGreat
