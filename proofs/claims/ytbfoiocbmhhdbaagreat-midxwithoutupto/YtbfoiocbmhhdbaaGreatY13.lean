import Derived.Test.YtbfoiocbmhhdbaaGreatY12
import Derived.Test.YtbfoiocbmhhdbaaGreatY10
import Derived.Shelf.SlSortCmp.NoneTotal
import Derived.Test.YtbfoiocbmhhdbaaGreatY6
import Derived.Test.YtbfoiocbmhhdbaaGreatY9
import Derived.Test.YtbfoiocbmhhdbaaGreatY11
import Derived.Deep.RegionHeld3
import Derived.Test.YtbfoiocbmhhdbaaGreatY7
import Derived.Test.YtbfoiocbmhhdbaaGreatChecked
import Derived.Shelf.Strings.Builder1
import Derived.Lib.OthersKept
import Derived.WalkKit
import Derived.BigCall
import Derived.Shelf.Strings.BuilderK
import Derived.OwnWalk
import Derived.Shelf.Strings.Builder2
/- slices.SortFunc, SortedFunc of names and of rows. -/
namespace Go.Proofs.YtbfoiocbmhhdbaaGreat
open Go.RowKit Go.Sort
set_option linter.unusedSimpArgs false
set_option linter.unusedVariables false
instance : Inhabited Nf := ⟨⟨zN, rfl⟩⟩
instance : Inhabited Rf := ⟨⟨zMr, rfl, rfl⟩⟩
theorem flatK_flat {α : Type} [Inhabited α] (f : α → List Value) (k : Nat) (hk0 : 0 < k) (hk : ∀ x, (f x).length = k) (d : List α) : (flatK f k d.toArray).toList = d.flatMap f := by
  have hl : (d.flatMap f).length = d.length * k := flatM_len f k (fun x _ => hk x)
  apply List.ext_getElem
  · rw [Array.length_toList, size_flatK, hl, List.size_toArray]
  · intro t h1 h2
    have ht : t < d.length * k := by rw [hl] at h2; exact h2
    have hq : t / k < d.length := (Nat.div_lt_iff_lt_mul hk0).2 ht
    have e1 : (flatK f k d.toArray).toList[t] = (flatK f k d.toArray)[t]! := by rw [Array.getElem_toList, getElem!_pos _ t (by rw [size_flatK, List.size_toArray]; exact ht)]
    rw [e1, get_flatK _ _ _ _ (by rw [List.size_toArray]; exact ht)]
    have e3 := flatM_get f k (fun x _ => hk x) (List.getElem?_eq_getElem hq) (t % k) (Nat.mod_lt _ hk0)
    rw [show t / k * k + t % k = t from by rw [Nat.mul_comm]; exact Nat.div_add_mod t k, List.getElem?_eq_getElem h2] at e3
    have e4 : d.toArray[t / k]! = d[t / k] := by rw [getElem!_pos _ _ (by rw [List.size_toArray]; exact hq), List.getElem_toArray]
    rw [e4, getElem!_pos (f d[t / k]) (t % k) (by rw [hk]; exact Nat.mod_lt _ hk0)]
    rw [List.getElem?_eq_getElem (by rw [hk]; exact Nat.mod_lt _ hk0)] at e3
    exact (Option.some.inj e3).symm
theorem swo_names {α : Type} (p : α → ByteArray) (lt : α → α → Bool) (h : ∀ a b, lt a b = ltN (p a) (p b)) : SWO lt where
  irrefl x := by rw [h]; exact ltN_irr _
  trans x y z h1 h2 := by rw [h] at *; exact ltN_trans h1 h2
  ntrans x y z h1 h2 := by
    rw [h] at *
    rw [Bool.eq_false_iff]
    intro h3
    cases q : ltN (p z) (p y) with
    | true => rw [ltN_trans h3 q] at h1; cases h1
    | false =>
      have := ltN_tri h2 q
      rw [this] at h1
      rw [h1] at h3; cases h3
def cfN (a b : Nf) : Int := cmpId a.1 b.1
def cfR (a b : Rf) : Int := cmpId a.1.e.id b.1.e.id
theorem lt_cfN (a b : Nf) : ltOf cfN a b = ltN a.1 b.1 := rfl
theorem lt_cfR (a b : Rf) : ltOf cfR a b = ltN a.1.e.id b.1.e.id := rfl
def vlN (x : Nf) : List Value := (eN x).toList
def vlR (r : Rf) : List Value := (eR r).toList

set_option maxHeartbeats 1000000 in
/-- A row of the call's own, sorted. -/
theorem sort_N (F : Nat) (cb : Array Value) (B g n c : Nat) (l : List Nf) (w : World) (h : w.ownsRow B 48 32 (.slice (some ⟨g, 0, none⟩) n c) n (csN l)) (hl : l.length = n) (hn : n < 4611686018427387904) (hB : B ≤ w.heap.size)
    (eg : ∀ args w, (callFunc F args).run Tryz.prog w = .ok (.enter F args) w) (hcmp : B ≤ g → g < w.heap.size → CmpLays Tryz.prog F cb vlN 32 cfN g 0 n w) :
    Calls Tryz.prog 97 #[.slice (some ⟨g, 0, none⟩) n c, .func (.func F) #[] cb] w fun e w' => e = .returned (.tuple #[]) ∧ ∃ L : List Nf, L.Perm l ∧ (L.Pairwise fun a b => ltOf cfN b a = false) ∧ w'.ownsRow B 48 32 (.slice (some ⟨g, 0, none⟩) n c) n (csN L) ∧ Below B w w' := by
  rcases h.2 with ⟨h1, _⟩ | ⟨g', cap, cur, h1, hle, hg, hnc, hcm, hsz, ht⟩
  · cases h1
  injection h1 with h1 _ h3
  injection h1 with h1
  injection h1 with h1
  subst h1
  subst h3
  have hg2 : w.heap[g]? = some (.cells cur 48 (0, 0)) := hg
  have hgl := (Array.getElem?_eq_some_iff.1 hg2).1
  have hk : ∀ x, (vlN x).length = 32 := fun x => by rw [vlN, Array.length_toList, (eN_ok x).1]
  have hH : HoldsK vlN 32 w g 0 l.toArray := by
    intro j hj
    rw [size_flatK, List.size_toArray, hl] at hj
    have hb : Bk w g cur 48 := hg
    refine ⟨?_, hb.frozen _⟩
    rw [hb.cell, Nat.zero_add]
    have q : (cur.toList.take (n * 32))[j]? = (csN l)[j]? := by rw [ht]
    rw [List.getElem?_take_of_lt hj, Array.getElem?_toList] at q
    rw [q, csN]
    show (l.flatMap vlN)[j]? = _
    rw [← flatK_flat vlN 32 (by decide) hk, Array.getElem?_toList]
    rw [Array.getElem?_eq_getElem (by rw [size_flatK, List.size_toArray, hl]; exact hj), getElem!_pos _ _ (by rw [size_flatK, List.size_toArray, hl]; exact hj)]
    try rfl
  have hcon := AnyQ.slices_SortFunc laysF6I 32 Tryz.isAgg48 Tryz.sizeOf48 vlN hk (fun x v hv => (Array.all_eq_true_iff_forall_mem.1 (eN_ok x).2) v (by simpa [vlN] using hv)) cfN (swo_names (fun x : Nf => x.1) _ lt_cfN) F cb g 0 c l.toArray w eg (by rw [List.size_toArray, hl]; exact hcmp hle hgl) hH hgl (by rw [List.size_toArray, hl]; exact hn)
  rw [List.size_toArray, hl] at hcon
  refine hcon.mono ?_
  rintro e w' ⟨rfl, d', m, os, hp, hso, rfl⟩
  have hps : d'.size = n := by rw [hp.1, List.size_toArray, hl]
  have hperm : (d'.toList).Perm l := by
    have := hp.2.2
    rw [show d'.extract 0 n = d' from by rw [← hps]; simp, show l.toArray.extract 0 n = l.toArray from by rw [← hl]; simp] at this
    exact this
  refine ⟨rfl, d'.toList, hperm, ?_, ?_, ?_⟩
  · rw [List.pairwise_iff_getElem]
    intro i j hi hj hij
    rw [Array.length_toList, hps] at hi hj
    have := hso i j (Nat.zero_le _) hij hj
    rw [getElem!_pos _ _ (by omega), getElem!_pos _ _ (by omega)] at this
    rw [Array.getElem_toList, Array.getElem_toList]
    exact this
  · have hF : (flatK vlN 32 d').toList = csN d'.toList := by
      have := flatK_flat vlN 32 (by decide) hk d'.toList
      rw [Array.toArray_toList] at this
      exact this
    have hFs : (flatK vlN 32 d').size = n * 32 := by rw [size_flatK, hps]
    refine ⟨by rw [← hF, Array.length_toList, hFs], .inr ⟨g, c, _, rfl, hle, heap_sortX _ hg2, hnc, hcm, by simp [putCells, hsz], ?_⟩⟩
    rw [← hF, ← hFs]
    exact take_putX cur _ (by rw [hFs, hsz]; exact Nat.mul_le_mul_right _ hnc)
  · exact below_own (Below.refl _ _) hB (grown_sortX _) hle
theorem snone_N (p : Option Addr) (cap : Nat) (fv : Value) (w : World) : Calls Tryz.prog 97 #[.slice p 0 cap, fv] w fun e w' => e = .returned (.tuple #[]) ∧ w' = w := AnyF.slices_SortFunc_none laysF6I p cap fv w
set_option maxHeartbeats 1000000 in
set_option maxRecDepth 100000 in
/-- slices.SortedFunc over an iterator. -/
theorem sorted_N (F : Nat) (cb : Array Value) (eF : ∀ args w, (callFunc F args).run Tryz.prog w = .ok (.enter F args) w) (g : Nat) (lb : Array Value) (eg : ∀ args w, (callFunc g args).run Tryz.prog w = .ok (.enter g args) w) (S : List Nf → Prop) (N : Nat) (hN : N ≤ 1048577) (w : World) (hSN : ∀ ss, S ss → ss.length ≤ 1048577)
    (hseq : SeqStopsK Fence.wide 4 Tryz.prog g lb (fun x : Nf => #[.agg (eN x)]) KeepsWalks S (fun _ => True) N w) (hcmp : ∀ W blk n, Below w.heap.size w W → w.heap.size ≤ blk → blk < W.heap.size → CmpLays Tryz.prog F cb vlN 32 cfN blk 0 n W) :
    Calls Tryz.prog 61 #[.func (.func g) #[] lb, .func (.func F) #[] cb] w fun e w' => ∃ v ss L, e = .returned v ∧ S ss ∧ L.Perm ss ∧ (L.Pairwise fun a b => ltOf cfN b a = false) ∧ w'.ownsRow w.heap.size 48 32 v L.length (csN L) ∧ Below w.heap.size w w' := by
  have HC : Hid (Calls Tryz.prog 96 #[.func (.func g) #[] lb] w fun r w' => ∃ v ss, r = .returned v ∧ S ss ∧ w'.ownsRow w.heap.size 48 32 v ss.length (csN ss) ∧ Below w.heap.size w w') := collect_N g lb eg S N hN w hseq
  have HM : Hid (∀ W blk n, Below w.heap.size w W → w.heap.size ≤ blk → blk < W.heap.size → CmpLays Tryz.prog F cb vlN 32 cfN blk 0 n W) := hcmp
  have HE : Hid (∀ args w, (callFunc F args).run Tryz.prog w = .ok (.enter F args) w) := eF
  have HSN : Hid (∀ ss, S ss → ss.length ≤ 1048577) := hSN
  clear hseq hcmp eF eg hSN
  go_enter Tryz.func61, Tryz.ntmps61
  go_wp2_with fail
  refine HC.out.mono ?_
  rintro r w1 ⟨v, ss, rfl, hS, ho, hb⟩
  have H1 : Hid (S ss ∧ w1.ownsRow w.heap.size 48 32 v ss.length (csN ss) ∧ Below w.heap.size w w1) := ⟨hS, ho, hb⟩
  rcases ho.2 with ⟨rfl, h0⟩ | ⟨gb, cap, cur, rfl, _⟩
  · have hss : ss = [] := List.eq_nil_of_length_eq_zero h0
    subst hss
    clear hS ho hb h0 HC
    go_wp2_with fail
    refine (snone_N none 0 _ w1).mono ?_
    rintro e w2 ⟨rfl, hw⟩
    obtain rfl : w1 = w2 := hw.symm
    go_wp2
    go_ret
    exact ⟨_, [], [], rfl, H1.out.1, List.Perm.refl _, List.Pairwise.nil, H1.out.2⟩
  · obtain ⟨n, hn⟩ : ∃ n, ss.length = n := ⟨_, rfl⟩
    rw [hn] at H1
    have HSL : Hid (ss.length = n) := hn
    have HSR : Hid (Calls Tryz.prog 97 #[.slice (some ⟨gb, 0, none⟩) n cap, .func (.func F) #[] cb] w1 fun e w' => e = .returned (.tuple #[]) ∧ ∃ L : List Nf, L.Perm ss ∧ (L.Pairwise fun a b => ltOf cfN b a = false) ∧ w'.ownsRow w.heap.size 48 32 (.slice (some ⟨gb, 0, none⟩) n cap) n (csN L) ∧ Below w.heap.size w1 w') :=
      sort_N F cb w.heap.size gb n cap ss w1 H1.out.2.1 hn (by have := HSN.out ss H1.out.1; omega) H1.out.2.2.size HE.out (fun h1 h2 => HM.out w1 gb n H1.out.2.2 h1 h2)
    rw [hn]
    clear hS ho hb HC hn
    go_wp2_with fail
    refine HSR.out.mono ?_
    rintro e w2 ⟨rfl, L, hp, hs, ho2, hb2⟩
    have H2 : Hid (L.Perm ss ∧ (L.Pairwise fun a b => ltOf cfN b a = false) ∧ w2.ownsRow w.heap.size 48 32 (.slice (some ⟨gb, 0, none⟩) n cap) L.length (csN L) ∧ Below w.heap.size w w2) := ⟨hp, hs, by rw [hp.length_eq, HSL.out]; exact ho2, H1.out.2.2.trans hb2⟩
    clear hp hs ho2 hb2 HSR
    go_wp2
    go_ret
    exact ⟨_, ss, L, rfl, H1.out.1, H2.out⟩

set_option maxHeartbeats 1000000 in
/-- A row of the call's own, sorted. -/
theorem sort_R (F : Nat) (cb : Array Value) (B g n c : Nat) (l : List Rf) (w : World) (h : w.ownsRow B 52 67 (.slice (some ⟨g, 0, none⟩) n c) n (csR l)) (hl : l.length = n) (hn : n < 4611686018427387904) (hB : B ≤ w.heap.size)
    (eg : ∀ args w, (callFunc F args).run Tryz.prog w = .ok (.enter F args) w) (hcmp : B ≤ g → g < w.heap.size → CmpLays Tryz.prog F cb vlR 67 cfR g 0 n w) :
    Calls Tryz.prog 100 #[.slice (some ⟨g, 0, none⟩) n c, .func (.func F) #[] cb] w fun e w' => e = .returned (.tuple #[]) ∧ ∃ L : List Rf, L.Perm l ∧ (L.Pairwise fun a b => ltOf cfR b a = false) ∧ w'.ownsRow B 52 67 (.slice (some ⟨g, 0, none⟩) n c) n (csR L) ∧ Below B w w' := by
  rcases h.2 with ⟨h1, _⟩ | ⟨g', cap, cur, h1, hle, hg, hnc, hcm, hsz, ht⟩
  · cases h1
  injection h1 with h1 _ h3
  injection h1 with h1
  injection h1 with h1
  subst h1
  subst h3
  have hg2 : w.heap[g]? = some (.cells cur 52 (0, 0)) := hg
  have hgl := (Array.getElem?_eq_some_iff.1 hg2).1
  have hk : ∀ x, (vlR x).length = 67 := fun x => by rw [vlR, Array.length_toList, (eR_ok x).1]
  have hH : HoldsK vlR 67 w g 0 l.toArray := by
    intro j hj
    rw [size_flatK, List.size_toArray, hl] at hj
    have hb : Bk w g cur 52 := hg
    refine ⟨?_, hb.frozen _⟩
    rw [hb.cell, Nat.zero_add]
    have q : (cur.toList.take (n * 67))[j]? = (csR l)[j]? := by rw [ht]
    rw [List.getElem?_take_of_lt hj, Array.getElem?_toList] at q
    rw [q, csR]
    show (l.flatMap vlR)[j]? = _
    rw [← flatK_flat vlR 67 (by decide) hk, Array.getElem?_toList]
    rw [Array.getElem?_eq_getElem (by rw [size_flatK, List.size_toArray, hl]; exact hj), getElem!_pos _ _ (by rw [size_flatK, List.size_toArray, hl]; exact hj)]
    try rfl
  have hcon := AnyQ.slices_SortFunc laysF6M 67 Tryz.isAgg52 Tryz.sizeOf52 vlR hk (fun x v hv => (Array.all_eq_true_iff_forall_mem.1 (eR_ok x).2) v (by simpa [vlR] using hv)) cfR (swo_names (fun x : Rf => x.1.e.id) _ lt_cfR) F cb g 0 c l.toArray w eg (by rw [List.size_toArray, hl]; exact hcmp hle hgl) hH hgl (by rw [List.size_toArray, hl]; exact hn)
  rw [List.size_toArray, hl] at hcon
  refine hcon.mono ?_
  rintro e w' ⟨rfl, d', m, os, hp, hso, rfl⟩
  have hps : d'.size = n := by rw [hp.1, List.size_toArray, hl]
  have hperm : (d'.toList).Perm l := by
    have := hp.2.2
    rw [show d'.extract 0 n = d' from by rw [← hps]; simp, show l.toArray.extract 0 n = l.toArray from by rw [← hl]; simp] at this
    exact this
  refine ⟨rfl, d'.toList, hperm, ?_, ?_, ?_⟩
  · rw [List.pairwise_iff_getElem]
    intro i j hi hj hij
    rw [Array.length_toList, hps] at hi hj
    have := hso i j (Nat.zero_le _) hij hj
    rw [getElem!_pos _ _ (by omega), getElem!_pos _ _ (by omega)] at this
    rw [Array.getElem_toList, Array.getElem_toList]
    exact this
  · have hF : (flatK vlR 67 d').toList = csR d'.toList := by
      have := flatK_flat vlR 67 (by decide) hk d'.toList
      rw [Array.toArray_toList] at this
      exact this
    have hFs : (flatK vlR 67 d').size = n * 67 := by rw [size_flatK, hps]
    refine ⟨by rw [← hF, Array.length_toList, hFs], .inr ⟨g, c, _, rfl, hle, heap_sortX _ hg2, hnc, hcm, by simp [putCells, hsz], ?_⟩⟩
    rw [← hF, ← hFs]
    exact take_putX cur _ (by rw [hFs, hsz]; exact Nat.mul_le_mul_right _ hnc)
  · exact below_own (Below.refl _ _) hB (grown_sortX _) hle
theorem snone_R (p : Option Addr) (cap : Nat) (fv : Value) (w : World) : Calls Tryz.prog 100 #[.slice p 0 cap, fv] w fun e w' => e = .returned (.tuple #[]) ∧ w' = w := AnyF.slices_SortFunc_none laysF6M p cap fv w
set_option maxHeartbeats 1000000 in
set_option maxRecDepth 100000 in
/-- slices.SortedFunc over an iterator. -/
theorem sorted_R (F : Nat) (cb : Array Value) (eF : ∀ args w, (callFunc F args).run Tryz.prog w = .ok (.enter F args) w) (g : Nat) (lb : Array Value) (eg : ∀ args w, (callFunc g args).run Tryz.prog w = .ok (.enter g args) w) (S : List Rf → Prop) (N : Nat) (hN : N ≤ 1048577) (w : World) (hSN : ∀ ss, S ss → ss.length ≤ 1048577)
    (hseq : SeqStopsK Fence.wide 4 Tryz.prog g lb (fun x : Rf => #[.agg (eR x)]) KeepsWalks S (fun _ => True) N w) (hcmp : ∀ W blk n, Below w.heap.size w W → w.heap.size ≤ blk → blk < W.heap.size → CmpLays Tryz.prog F cb vlR 67 cfR blk 0 n W) :
    Calls Tryz.prog 63 #[.func (.func g) #[] lb, .func (.func F) #[] cb] w fun e w' => ∃ v ss L, e = .returned v ∧ S ss ∧ L.Perm ss ∧ (L.Pairwise fun a b => ltOf cfR b a = false) ∧ w'.ownsRow w.heap.size 52 67 v L.length (csR L) ∧ Below w.heap.size w w' := by
  have HC : Hid (Calls Tryz.prog 99 #[.func (.func g) #[] lb] w fun r w' => ∃ v ss, r = .returned v ∧ S ss ∧ w'.ownsRow w.heap.size 52 67 v ss.length (csR ss) ∧ Below w.heap.size w w') := collect_R g lb eg S N hN w hseq
  have HM : Hid (∀ W blk n, Below w.heap.size w W → w.heap.size ≤ blk → blk < W.heap.size → CmpLays Tryz.prog F cb vlR 67 cfR blk 0 n W) := hcmp
  have HE : Hid (∀ args w, (callFunc F args).run Tryz.prog w = .ok (.enter F args) w) := eF
  have HSN : Hid (∀ ss, S ss → ss.length ≤ 1048577) := hSN
  clear hseq hcmp eF eg hSN
  go_enter Tryz.func63, Tryz.ntmps63
  go_wp2_with fail
  refine HC.out.mono ?_
  rintro r w1 ⟨v, ss, rfl, hS, ho, hb⟩
  have H1 : Hid (S ss ∧ w1.ownsRow w.heap.size 52 67 v ss.length (csR ss) ∧ Below w.heap.size w w1) := ⟨hS, ho, hb⟩
  rcases ho.2 with ⟨rfl, h0⟩ | ⟨gb, cap, cur, rfl, _⟩
  · have hss : ss = [] := List.eq_nil_of_length_eq_zero h0
    subst hss
    clear hS ho hb h0 HC
    go_wp2_with fail
    refine (snone_R none 0 _ w1).mono ?_
    rintro e w2 ⟨rfl, hw⟩
    obtain rfl : w1 = w2 := hw.symm
    go_wp2
    go_ret
    exact ⟨_, [], [], rfl, H1.out.1, List.Perm.refl _, List.Pairwise.nil, H1.out.2⟩
  · obtain ⟨n, hn⟩ : ∃ n, ss.length = n := ⟨_, rfl⟩
    rw [hn] at H1
    have HSL : Hid (ss.length = n) := hn
    have HSR : Hid (Calls Tryz.prog 100 #[.slice (some ⟨gb, 0, none⟩) n cap, .func (.func F) #[] cb] w1 fun e w' => e = .returned (.tuple #[]) ∧ ∃ L : List Rf, L.Perm ss ∧ (L.Pairwise fun a b => ltOf cfR b a = false) ∧ w'.ownsRow w.heap.size 52 67 (.slice (some ⟨gb, 0, none⟩) n cap) n (csR L) ∧ Below w.heap.size w1 w') :=
      sort_R F cb w.heap.size gb n cap ss w1 H1.out.2.1 hn (by have := HSN.out ss H1.out.1; omega) H1.out.2.2.size HE.out (fun h1 h2 => HM.out w1 gb n H1.out.2.2 h1 h2)
    rw [hn]
    clear hS ho hb HC hn
    go_wp2_with fail
    refine HSR.out.mono ?_
    rintro e w2 ⟨rfl, L, hp, hs, ho2, hb2⟩
    have H2 : Hid (L.Perm ss ∧ (L.Pairwise fun a b => ltOf cfR b a = false) ∧ w2.ownsRow w.heap.size 52 67 (.slice (some ⟨gb, 0, none⟩) n cap) L.length (csR L) ∧ Below w.heap.size w w2) := ⟨hp, hs, by rw [hp.length_eq, HSL.out]; exact ho2, H1.out.2.2.trans hb2⟩
    clear hp hs ho2 hb2 HSR
    go_wp2
    go_ret
    exact ⟨_, ss, L, rfl, H1.out.1, H2.out⟩
end Go.Proofs.YtbfoiocbmhhdbaaGreat
/- midx.merger.index: its two orders. -/
namespace Go.Proofs.YtbfoiocbmhhdbaaGreat
open Go.RowKit Go.Sort
set_option linter.unusedSimpArgs false
set_option linter.unusedVariables false
theorem enter_ord1 : ∀ args u, (callFunc 58 args).run Tryz.prog u = .ok (.enter 58 args) u := fun args u => by kernel_rfl
theorem enter_ord2 : ∀ args u, (callFunc 60 args).run Tryz.prog u = .ok (.enter 60 args) u := fun args u => by kernel_rfl
set_option maxHeartbeats 400000 in
set_option maxRecDepth 100000 in
/-- order. -/
theorem ord1_grow (a b : ByteArray) (w : World) (ha : a.size = 32) (hb : b.size = 32) :
    Calls Tryz.prog 58 #[.agg (idc a), .agg (idc b)] w fun e w' => e = .returned (.int .i64 (cmpId a b)) ∧ ∃ q os, w' = Sort.grow (w.drewN q) os := by
  have h1 := slice32 w.heap.size
  have h2 := slice32 (w.heap.size + 1)
  go_enter Tryz.func58, Tryz.ntmps58
  go_wp2
  have hA : Blk ((w.alloc (.cells (idc a) 48)).alloc (.cells (idc b) 48)) w.heap.size (idc a) 48 := Blk.grown (blk_new w _) (World.grownBy_alloc _ _ none) (by simp)
  have hB : Blk ((w.alloc (.cells (idc a) 48)).alloc (.cells (idc b) 48)) (w.heap.size + 1) (idc b) 48 := by
    have e := blk_new (w.alloc (.cells (idc a) 48)) (.cells (idc b) 48)
    rwa [alloc_size] at e
  have HAB : Hid (Blk ((w.alloc (.cells (idc a) 48)).alloc (.cells (idc b) 48)) w.heap.size (idc a) 48 ∧ Blk ((w.alloc (.cells (idc a) 48)).alloc (.cells (idc b) 48)) (w.heap.size + 1) (idc b) 48) := ⟨hA, hB⟩
  clear hA hB
  go_quiet ((go_at_call 59; exact Calls.quiet_of_same (bcompare_any a b _ _ 48 48 _ ha hb (HAB.out.1.drewN _) (HAB.out.2.drewN _))))
  go_wp2
  go_ret
  refine ⟨rfl, nq, #[.cells (idc a) 48, .cells (idc b) 48], ?_⟩
  rw [Sort.alloc_eq_grow, Sort.alloc_eq_grow, Sort.grow_grow]
  rfl
set_option maxHeartbeats 1000000 in
set_option maxRecDepth 100000 in
/-- byName. -/
theorem ord2_grow (a b : Rf) (bx : Nat) (w : World) (hbx : w.cell? ⟨bx, 0, none⟩ = some (.func (.func 58) #[] #[])) :
    Calls Tryz.prog 60 #[.agg (eR a), .agg (eR b), .pointer (some ⟨bx, 0, none⟩)] w fun e w' => e = .returned (.int .i64 (cfR a b)) ∧ ∃ q os, w' = Sort.grow (w.drewN q) os := by
  have lx := block_lt_of_cell hbx
  have HL : Hid (∀ u, Calls Tryz.prog 58 #[.agg (idc a.1.e.id), .agg (idc b.1.e.id)] u fun e w' => e = .returned (.int .i64 (cfR a b)) ∧ ∃ q os, w' = Sort.grow (u.drewN q) os) := fun u => ord1_grow _ _ u a.2.2 b.2.2
  have HI : Hid ((Tryz.prog.info? 48).map (·.size) = some (idc a.1.e.id).size ∧ (Tryz.prog.info? 48).map (·.size) = some (idc b.1.e.id).size) := ⟨info_32 (by rw [idc_size, a.2.2]), info_32 (by rw [idc_size, b.2.2])⟩
  obtain ⟨A, hA⟩ : ∃ A, idc a.1.e.id = A := ⟨_, rfl⟩
  obtain ⟨B, hB⟩ : ∃ B, idc b.1.e.id = B := ⟨_, rfl⟩
  have HCA : Hid (∀ j v, A[j]? = some v → (eR a)[32 + j]? = some v) := fun j v hv => mrC_id a.1 a.2.1 a.2.2 j v (by rw [hA]; exact hv)
  have HCB : Hid (∀ j v, B[j]? = some v → (eR b)[32 + j]? = some v) := fun j v hv => mrC_id b.1 b.2.1 b.2.2 j v (by rw [hB]; exact hv)
  rw [hA, hB] at HL HI
  obtain ⟨O, hO⟩ : ∃ O, cfR a b = O := ⟨_, rfl⟩
  rw [hO] at HL ⊢
  obtain ⟨XA, hXA⟩ : ∃ X, eR a = X := ⟨_, rfl⟩
  obtain ⟨XB, hXB⟩ : ∃ X, eR b = X := ⟨_, rfl⟩
  rw [hXA] at HCA ⊢
  rw [hXB] at HCB ⊢
  clear hA hB hO hXA hXB a b
  have b1 := (bk_new w XA 52).alloc (.cells XB 52)
  have b2 := bk_new (w.alloc (.cells XA 52)) XB 52
  rw [al_size] at b2
  have HB1 : Hid (Bk ((w.alloc (.cells XA 52)).alloc (.cells XB 52)) w.heap.size XA 52) := b1
  have HB2 : Hid (Bk ((w.alloc (.cells XA 52)).alloc (.cells XB 52)) (w.heap.size + 1) XB 52) := b2
  have HW0 : Hid (∃ os, (w.alloc (.cells XA 52)).alloc (.cells XB 52) = Sort.grow w os) := ⟨_, by rw [Sort.alloc_eq_grow, Sort.alloc_eq_grow, Sort.grow_grow]⟩
  have hbx2 : ((w.alloc (.cells XA 52)).alloc (.cells XB 52)).cell? ⟨bx, 0, none⟩ = some (.func (.func 58) #[] #[]) := by
    have hb : Below w.heap.size w ((w.alloc (.cells XA 52)).alloc (.cells XB 52)) := ((Below.refl _ _).alloc (Nat.le_refl _) _).alloc (by rw [al_size]; omega) _
    rw [hb.cell (p := ⟨bx, 0, none⟩) lx]; exact hbx
  clear b1 b2 hbx
  have arm1 := Tryz.underlying48
  go_enter Tryz.func60, Tryz.ntmps60
  go_wp2_with (first
    | (go_at_call 58; refine (HL.out _).mono ?_; rintro e w1 ⟨rfl, q, os, rfl⟩)
    | (refine wpList_get rfl 48 (.tmp 8) rfl w.heap.size 32 XA A 52 _ rfl HB1.out HCA.out arm1 rfl HI.out.1 ?_)
    | (refine wpList_get rfl 48 (.tmp 11) rfl (w.heap.size + 1) 32 XB B 52 _ rfl HB2.out HCB.out arm1 rfl HI.out.2 ?_)
    | fail)
  go_ret
  obtain ⟨os0, h⟩ := HW0.out
  rw [h]
  exact ⟨rfl, q, os0 ++ os, by rw [← Sort.grow_grow]; rfl⟩
/-- What sorting asks of the two. -/
theorem cmp_ord1 (blk off size : Nat) (w : World) : CmpLays Tryz.prog 58 #[] vlN 32 cfN blk off size w := fun m os dk hs x y => ord1_grow x.1 y.1 _ x.2 y.2
theorem cmp_ord2 (bx blk size : Nat) (w : World) (hbx : w.cell? ⟨bx, 0, none⟩ = some (.func (.func 58) #[] #[])) (hb : bx ≠ blk) : CmpLays Tryz.prog 60 #[.pointer (some ⟨bx, 0, none⟩)] vlR 67 cfR blk 0 size w := fun m os dk hs x y => by
  refine ord2_grow x y bx _ ?_
  have lx := block_lt_of_cell hbx
  have hg : w.grownBy (sortWorldK vlR 67 w blk 0 m dk os) (some blk) := grown_sortX (flatK vlR 67 dk)
  exact (World.cell?_of_block (hg.block bx lx (fun e => hb (Option.some.inj e)))).trans hbx
end Go.Proofs.YtbfoiocbmhhdbaaGreat
/- midx.merger.index: the merged index of what is held. -/
namespace Go.Proofs.YtbfoiocbmhhdbaaGreat
open Go.RowKit
set_option linter.unusedSimpArgs false
set_option linter.unusedVariables false
/-- A merger in memory: what it holds. -/
structure MgM (w : World) (gm mp mr : Nat) (dN : List Nf) (dR : List Rf) : Prop where
  bk : Bk w gm #[.map (some mp), .map (some mr)] 77
  ps : KvM kyN elN w mp dN
  rs : KvM kyR elR w mr dR
  ne : mp ≠ mr
theorem MgM.below {w w' : World} {gm mp mr : Nat} {dN : List Nf} {dR : List Rf} (h : MgM w gm mp mr dN dR) (hb : Below w.heap.size w w') : MgM w' gm mp mr dN dR := ⟨h.bk.below hb h.bk.lt, h.ps.below hb, h.rs.below hb, h.ne⟩
theorem pairwise_ltN {l : List Nf} (h : l.Pairwise fun a b => ltOf cfN b a = false) (ha : l.Pairwise fun a b => kyN a ≠ kyN b) : RiN (l.map (·.1)) := by
  unfold RiN
  rw [List.pairwise_map]
  exact (h.and ha).imp (fun {a b} ⟨q1, q2⟩ => ltN_ne q2 q1)
theorem pairwise_ltR {l : List Rf} (h : l.Pairwise fun a b => ltOf cfR b a = false) (ha : l.Pairwise fun a b => kyR a ≠ kyR b) : RiM (l.map (·.1)) := by
  unfold RiM Rise
  rw [List.pairwise_map, List.pairwise_map]
  exact (h.and ha).imp (fun {a b} ⟨q1, q2⟩ => ltN_ne q2 q1)
theorem csN_nvs (l : List Nf) : csN l = nvs (l.map (·.1)) := by simp [csN, nvs, eN, List.flatMap_map]
theorem csR_mvs (l : List Rf) : csR l = mvs (l.map (·.1)) := by simp [csR, mvs, eR, List.flatMap_map]
theorem nml_own {w : World} {B g n c : Nat} {l : List ByteArray} (hs : ∀ s ∈ l, s.size = 32) (hn : l.length = n) (h : w.ownsRow B 48 32 (.slice (some ⟨g, 0, none⟩) n c) n (nvs l)) : NmL w (some ⟨g, 0, none⟩) l := fun i s hi => by
  rcases h.2 with ⟨h1, _⟩ | ⟨g', cap, cur, h1, hle, hg, hnc, hcm, hsz, ht⟩
  · cases h1
  injection h1 with h1 _ _
  injection h1 with h1
  injection h1 with h1
  subst h1
  have hb : Bk w g cur 48 := hg
  refine ⟨hs s (List.mem_of_getElem? hi), g, 0, rfl, hb.lt, fun j v hv => ?_⟩
  have hil := (List.getElem?_eq_some_iff.1 hi).1
  have hj : j < 32 := by
    have := (Array.getElem?_eq_some_iff.1 hv).1
    rwa [idc_size, hs s (List.mem_of_getElem? hi)] at this
  have e := flatM_get (fun s : ByteArray => (idc s).toList) 32 (nvs_f hs) hi j hj
  have q : (cur.toList.take (n * 32))[i * 32 + j]? = (nvs l)[i * 32 + j]? := by rw [ht]
  rw [List.getElem?_take_of_lt (by omega), Array.getElem?_toList] at q
  rw [hb.cell, Nat.zero_add, q, nvs, e, Array.getElem?_toList]
  exact hv
theorem mrl_own {w : World} {B g n c : Nat} {l : List Mr} (hs : ∀ r ∈ l, r.p.size = 32 ∧ r.e.id.size = 32) (hn : l.length = n) (h : w.ownsRow B 52 67 (.slice (some ⟨g, 0, none⟩) n c) n (mvs l)) : MrL w (some ⟨g, 0, none⟩) l := fun i s hi => by
  rcases h.2 with ⟨h1, _⟩ | ⟨g', cap, cur, h1, hle, hg, hnc, hcm, hsz, ht⟩
  · cases h1
  injection h1 with h1 _ _
  injection h1 with h1
  injection h1 with h1
  subst h1
  have hb : Bk w g cur 52 := hg
  have h2 := hs s (List.mem_of_getElem? hi)
  refine ⟨h2, g, 0, rfl, hb.lt, fun j v hv => ?_⟩
  have hil := (List.getElem?_eq_some_iff.1 hi).1
  have hj : j < 67 := by
    have := (Array.getElem?_eq_some_iff.1 hv).1
    rwa [mrC_size s h2.1 h2.2] at this
  have e := flatM_get (fun r : Mr => (mrC r).toList) 67 (mvs_f hs) hi j hj
  have q : (cur.toList.take (n * 67))[i * 67 + j]? = (mvs l)[i * 67 + j]? := by rw [ht]
  rw [List.getElem?_take_of_lt (by omega), Array.getElem?_toList] at q
  rw [hb.cell, Nat.zero_add, q, mvs, e, Array.getElem?_toList]
  exact hv
end Go.Proofs.YtbfoiocbmhhdbaaGreat
/- midx.merger.index: the walk. -/
namespace Go.Proofs.YtbfoiocbmhhdbaaGreat
open Go.RowKit
set_option linter.unusedSimpArgs false
set_option linter.unusedVariables false
theorem keys_step (mp bk : Nat) (d : List Nf) (W : World) (hk : KvM kyN elN W mp d) (hd : d.length ≤ 4096) (hc : W.cell? ⟨bk, 0, none⟩ = some (.map (some mp))) (hb : bk < W.heap.size) :
    Calls Tryz.prog 61 #[.func (.func 98) #[] #[.pointer (some ⟨bk, 0, none⟩)], .func (.func 58) #[] #[]] W
      fun e w' => ∃ ap cp n ps, e = .returned (.slice ap n cp) ∧ (n = ps.length ∧ ps.Perm (d.map (·.1)) ∧ RiN ps ∧ NmL w' ap ps) ∧ Below W.heap.size W w' := by
  have hap := hk
  obtain ⟨D, _, _, _, _, hpw⟩ := hap
  refine (sorted_N 58 #[] enter_ord1 _ _ enter_itkeys (fun xs => xs.Perm d) d.length (by omega) W (fun ss hs => by rw [hs.length_eq]; omega) (stops_keys 4 bk mp d W hb hc hk) (fun W' blk n _ _ _ => cmp_ord1 blk 0 n W')).mono ?_
  rintro e w' ⟨v, ss, L, rfl, hS, hL, hlt, ho, hbw⟩
  have hpd := hL.trans hS
  have hri : RiN (L.map (·.1)) := pairwise_ltN hlt (List.Pairwise.perm hpw hpd.symm (fun {x y} q => Ne.symm q))
  have h32 : ∀ s ∈ L.map (·.1), s.size = 32 := fun s hs => by
    obtain ⟨x, _, rfl⟩ := List.mem_map.1 hs
    exact x.2
  rw [csN_nvs] at ho
  have hl : (L.map (·.1)).length = L.length := List.length_map _
  rcases ho.2 with ⟨rfl, h0⟩ | ⟨g, cap, cur, rfl, _⟩
  · have : L = [] := List.eq_nil_of_length_eq_zero h0
    subst this
    exact ⟨none, 0, 0, [], rfl, ⟨rfl, hpd.map _, hri, fun i s h => by simp at h⟩, hbw⟩
  · exact ⟨some ⟨g, 0, none⟩, cap, L.length, L.map (·.1), rfl, ⟨hl.symm, hpd.map _, hri, nml_own h32 hl ho⟩, hbw⟩
theorem vals_step (mr bk b0 : Nat) (d : List Rf) (W : World) (hk : KvM kyR elR W mr d) (hd : d.length ≤ 1048576) (hc : W.cell? ⟨bk, 0, none⟩ = some (.map (some mr))) (hb : bk < W.heap.size) (hbx : W.cell? ⟨b0, 0, none⟩ = some (.func (.func 58) #[] #[])) :
    Calls Tryz.prog 63 #[.func (.func 101) #[] #[.pointer (some ⟨bk, 0, none⟩)], .func (.func 60) #[] #[.pointer (some ⟨b0, 0, none⟩)]] W
      fun e w' => ∃ ar cr n l, e = .returned (.slice ar n cr) ∧ (n = l.length ∧ l.Perm (d.map (·.1)) ∧ RiM l ∧ MrL w' ar l) ∧ Below W.heap.size W w' := by
  have hap := hk
  have lx := block_lt_of_cell hbx
  obtain ⟨D, _, _, _, _, hpw⟩ := hap
  refine (sorted_R 60 #[.pointer (some ⟨b0, 0, none⟩)] enter_ord2 _ _ enter_itvals (fun xs => xs.Perm d) d.length (by omega) W (fun ss hs => by rw [hs.length_eq]; omega) (stops_vals 4 bk mr d W hb hc hk) (fun W' blk n hb' hge _ => cmp_ord2 b0 blk n W' (by rw [hb'.cell (p := ⟨b0, 0, none⟩) lx]; exact hbx) (by have : b0 < W.heap.size := lx; omega))).mono ?_
  rintro e w' ⟨v, ss, L, rfl, hS, hL, hlt, ho, hbw⟩
  have hpd := hL.trans hS
  have hri : RiM (L.map (·.1)) := pairwise_ltR hlt (List.Pairwise.perm hpw hpd.symm (fun {x y} q => Ne.symm q))
  have h32 : ∀ r ∈ L.map (·.1), r.p.size = 32 ∧ r.e.id.size = 32 := fun s hs => by
    obtain ⟨x, _, rfl⟩ := List.mem_map.1 hs
    exact x.2
  rw [csR_mvs] at ho
  have hl : (L.map (·.1)).length = L.length := List.length_map _
  rcases ho.2 with ⟨rfl, h0⟩ | ⟨g, cap, cur, rfl, _⟩
  · have : L = [] := List.eq_nil_of_length_eq_zero h0
    subst this
    exact ⟨none, 0, 0, [], rfl, ⟨rfl, hpd.map _, hri, fun i s h => by simp at h⟩, hbw⟩
  · exact ⟨some ⟨g, 0, none⟩, cap, L.length, L.map (·.1), rfl, ⟨hl.symm, hpd.map _, hri, mrl_own h32 hl ho⟩, hbw⟩
set_option maxHeartbeats 4000000 in
set_option maxRecDepth 100000 in
theorem mindex_any (gm mp mr : Nat) (dN : List Nf) (dR : List Rf) (w : World) (h : MgM w gm mp mr dN dR) (hN : dN.length ≤ 4096) (hR : dR.length ≤ 1048576) :
    Calls Tryz.prog 30 #[.pointer (some ⟨gm, 0, none⟩)] w fun e w' => ∃ g ps l, e = .returned (.pointer (some ⟨g, 0, none⟩)) ∧ (ps.Perm (dN.map (·.1)) ∧ RiN ps ∧ l.Perm (dR.map (·.1)) ∧ RiM l) ∧ MxW w' g ps l ∧ Below w.heap.size w w' := by
  have hal : Below w.heap.size w (w.alloc (.cells #[.func (.func 58) #[] #[]] 134)) := (Below.refl _ _).alloc (Nat.le_refl _) _
  have hbx := bk_new w #[.func (.func 58) #[] #[]] 134
  obtain ⟨b0, hb0⟩ : ∃ b, w.heap.size = b := ⟨_, rfl⟩
  obtain ⟨w1, hw1⟩ : ∃ w1, w.alloc (.cells #[.func (.func 58) #[] #[]] 134) = w1 := ⟨_, rfl⟩
  rw [hw1] at hal hbx
  rw [hb0] at hbx
  have HW : Hid (∀ W, Below w1.heap.size w1 W → (W.cell? ⟨gm, 0, none⟩ = some (.map (some mp)) ∧ W.cell? ⟨gm, 1, none⟩ = some (.map (some mr)) ∧ W.cell? ⟨b0, 0, none⟩ = some (.func (.func 58) #[] #[])) ∧ MgM W gm mp mr dN dR) := fun W hW => by
    have h1 := (h.below hal).below hW
    exact ⟨⟨by rw [h1.bk.cell]; rfl, by rw [h1.bk.cell]; rfl, by rw [(hbx.below hW hbx.lt).cell]; rfl⟩, h1⟩
  have HAL : Hid (Below w.heap.size w w1 ∧ w.alloc (.cells #[.func (.func 58) #[] #[]] 134) = w1) := ⟨hal, hw1⟩
  have HN : Hid (dN.length ≤ 4096 ∧ dR.length ≤ 1048576) := ⟨hN, hR⟩
  have CK : Hid (∀ W, Calls Tryz.prog 62 #[.map (some mp)] W fun e w' => ∃ bk, e = .returned (.func (.func 98) #[] #[.pointer (some ⟨bk, 0, none⟩)]) ∧ (bk < w'.heap.size ∧ w'.cell? ⟨bk, 0, none⟩ = some (.map (some mp))) ∧ Below W.heap.size W w') := fun W => (make_keys (some mp) W).mono fun e w' ⟨h1, h2⟩ => by
    subst h2
    exact ⟨W.heap.size, h1, ⟨by simp, by rw [(bk_new W _ _).cell]; rfl⟩, (Below.refl _ _).alloc (Nat.le_refl _) _⟩
  have CV : Hid (∀ W, Calls Tryz.prog 64 #[.map (some mr)] W fun e w' => ∃ bk, e = .returned (.func (.func 101) #[] #[.pointer (some ⟨bk, 0, none⟩)]) ∧ (bk < w'.heap.size ∧ w'.cell? ⟨bk, 0, none⟩ = some (.map (some mr))) ∧ Below W.heap.size W w') := fun W => (make_vals (some mr) W).mono fun e w' ⟨h1, h2⟩ => by
    subst h2
    exact ⟨W.heap.size, h1, ⟨by simp, by rw [(bk_new W _ _).cell]; rfl⟩, (Below.refl _ _).alloc (Nat.le_refl _) _⟩
  have hst := fun (W : World) (a : Addr) => run_store Tryz.prog W a (.func (.func 58) #[] #[]) .plain rfl
  clear h hal hbx hN hR
  go_enter Tryz.func30, Tryz.ntmps30
  rw [hb0]
  go_upto_region 3 with fail
  obtain ⟨d1, d2, d3⟩ := (HW.out w1 (Below.refl _ _)).1
  obtain ⟨c1, c2, c3⟩ := (HW.out w1.drew ((Below.refl _ _).drew)).1
  clear hst hw1
  go_region_held3 (fun W => W.cell? ⟨gm, 0, none⟩ = some (.map (some mp)) ∧ W.cell? ⟨gm, 1, none⟩ = some (.map (some mr)) ∧ W.cell? ⟨b0, 0, none⟩ = some (.func (.func 58) #[] #[])) (go_keep) (first
    | (go_at_call 63; refine Calls.mono (vals_step mr bk2 b0 dR w4 F4.out.1.1.rs HN.out.2 F4.out.2.2 F4.out.2.1 f43) ?_
       rintro e w5 ⟨ar, cr, m, l, rfl, h5, b5⟩
       have F5 : Hid (Below w1.heap.size w1 w5 ∧ (m = l.length ∧ l.Perm (dR.map (·.1)) ∧ RiM l ∧ MrL w5 ar l) ∧ NmL w5 ap ps) := ⟨F4.out.1.2.trans (b5.mono F4.out.1.2.size), h5, (F3.out.2.2.2.2.below (b4.mono (Nat.le_refl _))).below b5⟩
       obtain ⟨f51, f52, f53⟩ := (HW.out w5 F5.out.1).1
       clear h5)
    | (go_at_call 64; refine Calls.mono (CV.out _) ?_
       rintro e w4 ⟨bk2, rfl, h4, b4⟩
       have F4 : Hid ((MgM w4 gm mp mr dN dR ∧ Below w1.heap.size w1 w4) ∧ bk2 < w4.heap.size ∧ w4.cell? ⟨bk2, 0, none⟩ = some (.map (some mr))) := ⟨⟨(HW.out w4 (F3.out.1.trans (b4.mono F3.out.1.size))).2, F3.out.1.trans (b4.mono F3.out.1.size)⟩, h4⟩
       obtain ⟨f41, f42, f43⟩ := (HW.out w4 F4.out.1.2).1
       clear h4)
    | (go_at_call 61; refine Calls.mono (keys_step mp bk dN w2 F2.out.1.1.ps HN.out.1 F2.out.2.2 F2.out.2.1) ?_
       rintro e w3 ⟨ap, cp, n, ps, rfl, h3, b3⟩
       have F3 : Hid (Below w1.heap.size w1 w3 ∧ n = ps.length ∧ ps.Perm (dN.map (·.1)) ∧ RiN ps ∧ NmL w3 ap ps) := ⟨F2.out.1.2.trans (b3.mono F2.out.1.2.size), h3⟩
       obtain ⟨f31, f32, f33⟩ := (HW.out w3 F3.out.1).1
       clear h3 b3)
    | (go_at_call 62; refine Calls.mono (CK.out _) ?_
       rintro e w2 ⟨bk, rfl, h2, b2⟩
       have F2 : Hid ((MgM w2 gm mp mr dN dR ∧ Below w1.heap.size w1 w2) ∧ bk < w2.heap.size ∧ w2.cell? ⟨bk, 0, none⟩ = some (.map (some mp))) := ⟨⟨(HW.out w2 ((Below.refl _ _).drew.trans b2)).2, (Below.refl _ _).drew.trans b2⟩, h2⟩
       obtain ⟨f21, f22, f23⟩ := (HW.out w2 F2.out.1.2).1
       clear h2 b2)
    | fail)
  have HE : Hid ((ps.Perm (dN.map (·.1)) ∧ RiN ps ∧ l.Perm (dR.map (·.1)) ∧ RiM l) ∧ MxW (w5.alloc (.cells #[.slice ap n cp, .slice ar m cr] 101)) w5.heap.size ps l ∧ Below w.heap.size w (w5.alloc (.cells #[.slice ap n cp, .slice ar m cr] 101))) := by
    obtain ⟨hb5, ⟨hm, hp5, hr5, hx5⟩, hn5⟩ := F5.out
    have hal5 : Below w5.heap.size w5 (w5.alloc (.cells #[.slice ap n cp, .slice ar m cr] 101)) := (Below.refl _ _).alloc (Nat.le_refl _) _
    refine ⟨⟨F3.out.2.2.1, F3.out.2.2.2.1, hp5, hr5⟩, ⟨⟨ap, ar, cp, cr, ?_, hn5.below hal5, hx5.below hal5⟩, ?_, ?_⟩, ?_⟩
    · rw [← hm, ← F3.out.2.1]; exact bk_new _ _ _
    · rw [F3.out.2.2.1.length_eq, List.length_map]; exact HN.out.1
    · rw [hp5.length_eq, List.length_map]; exact HN.out.2
    · exact (HAL.out.1.trans (hb5.mono HAL.out.1.size)).trans (hal5.mono (Nat.le_trans HAL.out.1.size hb5.size))
  clear F2 F3 F4 F5
  go_wp2
  go_ret
  exact ⟨w5.heap.size, ps, l, rfl, HE.out.1, HE.out.2.1, by rw [← hb0]; exact HE.out.2.2⟩
end Go.Proofs.YtbfoiocbmhhdbaaGreat
/- idx.Index: At, Pack. -/
namespace Go.Proofs.YtbfoiocbmhhdbaaGreat
open Go.RowKit
set_option linter.unusedSimpArgs false
set_option linter.unusedVariables false
set_option maxHeartbeats 1000000 in
set_option maxRecDepth 100000 in
theorem pack_any (g : Nat) (s : ByteArray) (l : List Xe) (w : World) (h : IxS w g s l) : Calls Tryz.prog 41 #[.pointer (some ⟨g, 0, none⟩)] w fun e w' => e = .returned (.agg (idc s)) ∧ Below w.heap.size w w' := by
  obtain ⟨a, n, c, hB, hX, hl, hc, hA⟩ := h.row
  have hs := h.id
  obtain ⟨D, hD⟩ : ∃ D, idc s = D := ⟨_, rfl⟩
  obtain ⟨Z, hZ⟩ : ∃ Z, ixC s (fanL l) (.slice a n c) = Z := ⟨_, rfl⟩
  have HI : Hid ((Tryz.prog.info? 48).map (·.size) = some D.size ∧ D.all (·.oneCell') = true ∧ D.size = 32) := by rw [← hD]; exact ⟨info_32 (by rw [idc_size, hs]), idc_allX s, by rw [idc_size, hs]⟩
  have HZ : Hid (∀ j v, D[j]? = some v → Z[0 + j]? = some v) := fun j v hv => by rw [← hZ]; exact ixC_id s _ _ hs j v (by rw [hD]; exact hv)
  rw [hZ] at hB
  rw [hD]
  have H1 : Hid (Bk (w.alloc (.cells z32c 48)) g Z 115 ∧ Bk (w.alloc (.cells z32c 48)) w.heap.size z32c 48 ∧ Below w.heap.size w (w.alloc (.cells z32c 48))) := ⟨hB.alloc _, bk_new _ _ _, (Below.refl _ _).alloc (Nat.le_refl _) _⟩
  have hz := zero_id
  clear h hB hX hl hc hA hs hD hZ
  go_enter Tryz.func41, Tryz.ntmps41
  go_wp2_with (first
    | (refine wpList_get rfl 48 (.tmp 8) rfl g 0 Z D 115 _ rfl H1.out.1 HZ.out Tryz.underlying48 rfl HI.out.1 ?_)
    | (refine wpList_stoX rfl 48 (.tmp 2) (.tmp 9) rfl w.heap.size D z32c 48 rfl rfl H1.out.2.1 HI.out.1 (by rw [HI.out.2.2]; exact z32c_size) HI.out.2.1 ?_; intro w7 HB7 HG7)
    | fail)
  refine bodyPost_ret (results_cell_row rfl _ _ w.heap.size 48 D (0, 0) _ rfl HB7.out Tryz.underlying48 rfl HI.out.1) rfl ⟨rfl, ?_⟩
  exact below_own H1.out.2.2 H1.out.2.2.size HG7.out (Nat.le_refl _)
end Go.Proofs.YtbfoiocbmhhdbaaGreat
/- The layings of strings.Builder. -/
namespace Go.Proofs.YtbfoiocbmhhdbaaGreat
open Go.Shelf
def lays169_ren : Go.Shelf.Ren := ⟨fun | 169 => 72 | n => n, fun | 70 => 144 | 9 => 9 | 0 => 0 | 72 => 146 | 37 => 131 | 127 => 180 | 3 => 3 | 5 => 5 | n => n, fun | n => n⟩
theorem lays169 : Go.Proofs.Lays.n169 Tryz.prog lays169_ren := {
  mixed := by kernel_rfl
  f169 := Tryz.func72.trans (congrArg some (by kernel_rfl))
  t0 := Tryz.underlying0
  a0 := Tryz.isAgg0
  z0 := Tryz.sizeOf0
  v0 := Tryz.zeroValue0
  t3 := Tryz.underlying3
  a3 := Tryz.isAgg3
  z3 := Tryz.sizeOf3
  v3 := Tryz.zeroValue3
  t9 := Tryz.underlying9
  a9 := Tryz.isAgg9
  z9 := Tryz.sizeOf9
  v9 := Tryz.zeroValue9
  t37 := Tryz.underlying131
  a37 := Tryz.isAgg131
  z37 := Tryz.sizeOf131
  v37 := Tryz.zeroValue131
  t70 := Tryz.underlying144
  a70 := Tryz.isAgg144
  z70 := Tryz.sizeOf144
  v70 := Tryz.zeroValue144
  t72 := Tryz.underlying146
  a72 := Tryz.isAgg146
  z72 := Tryz.sizeOf146
  v72 := Tryz.zeroValue146
  t127 := Tryz.underlying180
  a127 := Tryz.isAgg180
  z127 := Tryz.sizeOf180
  v127 := Tryz.zeroValue180 }
def lays166_ren : Go.Shelf.Ren := ⟨fun | 166 => 68 | 240 => 102 | 276 => 122 | n => n, fun | 0 => 0 | 3 => 3 | 4 => 4 | 5 => 5 | 9 => 9 | 20 => 20 | 37 => 131 | 70 => 144 | 72 => 146 | 75 => 150 | 164 => 200 | 80 => 80 | n => n, fun | n => n⟩
theorem lays166 : Go.Proofs.Lays.n166 Tryz.prog lays166_ren := {
  mixed := by kernel_rfl
  f166 := Tryz.func68.trans (congrArg some (by kernel_rfl))
  f240 := Tryz.func102.trans (congrArg some (by kernel_rfl))
  f276 := Tryz.func122.trans (congrArg some (by kernel_rfl))
  t0 := Tryz.underlying0
  a0 := Tryz.isAgg0
  z0 := Tryz.sizeOf0
  v0 := Tryz.zeroValue0
  t3 := Tryz.underlying3
  a3 := Tryz.isAgg3
  z3 := Tryz.sizeOf3
  v3 := Tryz.zeroValue3
  t4 := Tryz.underlying4
  a4 := Tryz.isAgg4
  z4 := Tryz.sizeOf4
  v4 := Tryz.zeroValue4
  t9 := Tryz.underlying9
  a9 := Tryz.isAgg9
  z9 := Tryz.sizeOf9
  v9 := Tryz.zeroValue9
  t20 := Tryz.underlying20
  a20 := Tryz.isAgg20
  z20 := Tryz.sizeOf20
  v20 := Tryz.zeroValue20
  t37 := Tryz.underlying131
  a37 := Tryz.isAgg131
  z37 := Tryz.sizeOf131
  v37 := Tryz.zeroValue131
  t70 := Tryz.underlying144
  a70 := Tryz.isAgg144
  z70 := Tryz.sizeOf144
  v70 := Tryz.zeroValue144
  t72 := Tryz.underlying146
  a72 := Tryz.isAgg146
  z72 := Tryz.sizeOf146
  v72 := Tryz.zeroValue146
  t75 := Tryz.underlying150
  a75 := Tryz.isAgg150
  z75 := Tryz.sizeOf150
  v75 := Tryz.zeroValue150
  t164 := Tryz.underlying200
  a164 := Tryz.isAgg200
  z164 := Tryz.sizeOf200
  v164 := Tryz.zeroValue200 }
theorem extra166 : Builder.Extra Tryz.prog lays166_ren := {
  sizeBuilder := by kernel_rfl
  liesBuilder := by kernel_rfl
  t5 := Tryz.underlying5
  a5 := Tryz.isAgg5
  z5 := Tryz.sizeOf5
  v5 := Tryz.zeroValue5
  infoByte := by kernel_rfl
  cellsByte := by kernel_rfl
  sizeByte := by kernel_rfl
  neB5 := by decide }
theorem extra169 : Builder.Extra Tryz.prog lays169_ren := {
  sizeBuilder := by kernel_rfl
  liesBuilder := by kernel_rfl
  t5 := Tryz.underlying5
  a5 := Tryz.isAgg5
  z5 := Tryz.sizeOf5
  v5 := Tryz.zeroValue5
  infoByte := by kernel_rfl
  cellsByte := by kernel_rfl
  sizeByte := by kernel_rfl
  neB5 := by decide }
end Go.Proofs.YtbfoiocbmhhdbaaGreat
/- strings.Builder, all but WriteByte. -/
namespace Go.Proofs.YtbfoiocbmhhdbaaGreat
open Go.RowKit
set_option linter.unusedSimpArgs false
set_option linter.unusedVariables false
/-- A builder that holds these bytes. -/
abbrev Bld (B b : Nat) (l : List UInt8) (w : World) : Prop := Lib.IsBuilderF 146 5 B b (Lib.byteCells l) w
abbrev Oth (b : Nat) (w w' : World) : Prop := Lib.OthersKept 5 (some b) w w'
theorem str_cells (s : ByteArray) : Lib.strCells s = Lib.byteCells s.data.toList := by
  unfold Lib.strCells Lib.byteCells
  rfl
theorem writeS (B b : Nat) (l : List UInt8) (s : ByteArray) (w : World) (h : Bld B b l w) (hlen : l.length + s.size ≤ 140737488355328) (hBw : B ≤ w.heap.size) :
    Calls Tryz.prog 68 #[.pointer (some ⟨b, 0, none⟩), .string s] w fun e w' => e = .returned (.tuple #[.int .i64 s.size, .nilIface]) ∧ Bld B b (l ++ s.data.toList) w' ∧ Below B w w' ∧ Oth b w w' :=
  (Any.Builder_WriteString_k lays166 extra166 B b (Lib.byteCells l) s w h (by rw [Lib.byteCells_length]; exact hlen) hBw).mono fun e w' ⟨he, h1, h2, h3⟩ =>
    ⟨he, by rw [Bld, Lib.byteCells_append, ← str_cells]; exact Or.inr h1, h2, h3⟩
theorem buildS (B b : Nat) (l : List UInt8) (w : World) (h : Bld B b l w) (hBw : B ≤ w.heap.size) :
    Calls Tryz.prog 72 #[.pointer (some ⟨b, 0, none⟩)] w fun e w' => e = .returned (.string ⟨l.toArray⟩) ∧ Bld B b l w' ∧ Below B w w' ∧ Oth b w w' :=
  Any.Builder_String_any_k lays169 extra169 B b l w h hBw
theorem fresh_bld (w : World) : Bld w.heap.size w.heap.size [] (w.alloc (.cells #[.pointer none, .slice none 0 0] 146)) := Lib.IsBuilderF.of (Lib.fresh_isBuilder _ _ w)
end Go.Proofs.YtbfoiocbmhhdbaaGreat
/- The laying of strings.Builder.Grow. -/
namespace Go.Proofs.YtbfoiocbmhhdbaaGreat
open Go.Shelf
def lays165_ren : Go.Shelf.Ren := ⟨fun | 165 => 65 | 240 => 102 | 241 => 103 | 276 => 122 | 277 => 123 | n => n, fun | 70 => 144 | 3 => 3 | 0 => 0 | 4 => 4 | 9 => 9 | 20 => 20 | 72 => 146 | 37 => 131 | 164 => 200 | 5 => 5 | n => n, fun | n => n⟩
theorem lays165 : Go.Proofs.Lays.n165 Tryz.prog lays165_ren := {
  mixed := by kernel_rfl
  f165 := Tryz.func65.trans (congrArg some (by kernel_rfl))
  f240 := Tryz.func102.trans (congrArg some (by kernel_rfl))
  f241 := Tryz.func103.trans (congrArg some (by kernel_rfl))
  f276 := Tryz.func122.trans (congrArg some (by kernel_rfl))
  f277 := Tryz.func123.trans (congrArg some (by kernel_rfl))
  t0 := Tryz.underlying0
  a0 := Tryz.isAgg0
  z0 := Tryz.sizeOf0
  v0 := Tryz.zeroValue0
  t3 := Tryz.underlying3
  a3 := Tryz.isAgg3
  z3 := Tryz.sizeOf3
  v3 := Tryz.zeroValue3
  t4 := Tryz.underlying4
  a4 := Tryz.isAgg4
  z4 := Tryz.sizeOf4
  v4 := Tryz.zeroValue4
  t9 := Tryz.underlying9
  a9 := Tryz.isAgg9
  z9 := Tryz.sizeOf9
  v9 := Tryz.zeroValue9
  t20 := Tryz.underlying20
  a20 := Tryz.isAgg20
  z20 := Tryz.sizeOf20
  v20 := Tryz.zeroValue20
  t37 := Tryz.underlying131
  a37 := Tryz.isAgg131
  z37 := Tryz.sizeOf131
  v37 := Tryz.zeroValue131
  t70 := Tryz.underlying144
  a70 := Tryz.isAgg144
  z70 := Tryz.sizeOf144
  v70 := Tryz.zeroValue144
  t72 := Tryz.underlying146
  a72 := Tryz.isAgg146
  z72 := Tryz.sizeOf146
  v72 := Tryz.zeroValue146
  t164 := Tryz.underlying200
  a164 := Tryz.isAgg200
  z164 := Tryz.sizeOf200
  v164 := Tryz.zeroValue200 }
end Go.Proofs.YtbfoiocbmhhdbaaGreat
