import Derived.Test.YtbfoiocbmhhdbaaGreatY11
import Derived.Test.YtbfoiocbmhhdbaaGreatY10
import Derived.Test.YtbfoiocbmhhdbaaGreatY5
import Derived.RangeFuncLeaves
import Derived.Test.YtbfoiocbmhhdbaaGreatChecked
import Derived.Shelf.SlSortCmp.WholeK
import Derived.Shelf.SlSorted.Search
import Derived.Shelf.SlicesE.Clone
/- midx: Len, Packs, All (slices.Clone at names and rows). -/
namespace Go.Proofs.YtbfoiocbmhhdbaaGreat
open Go.RowKit
set_option linter.unusedSimpArgs false
set_option linter.unusedVariables false
def laysE41I_ren : Go.Shelf.Ren := ⟨fun | 41 => 39 | n => n, fun | 22 => 42 | 23 => 48 | 4 => 4 | n => n, fun | n => n⟩
theorem laysE41I : Go.Proofs.SlLaysE0.n41 Tryz.prog laysE41I_ren := {
  mixed := by kernel_rfl
  f41 := ⟨Tryz.f39.name, by decide, Tryz.func39.trans (congrArg some (by kernel_rfl))⟩
  t4 := Tryz.underlying4
  a4 := Tryz.isAgg4
  z4 := Tryz.sizeOf4
  v4 := Tryz.zeroValue4
  t22 := Tryz.underlying42
  a22 := Tryz.isAgg42
  z22 := Tryz.sizeOf42
  v22 := Tryz.zeroValue42 }
def laysE41R_ren : Go.Shelf.Ren := ⟨fun | 41 => 45 | n => n, fun | 22 => 58 | 23 => 52 | 4 => 4 | n => n, fun | n => n⟩
theorem laysE41R : Go.Proofs.SlLaysE0.n41 Tryz.prog laysE41R_ren := {
  mixed := by kernel_rfl
  f41 := ⟨Tryz.f45.name, by decide, Tryz.func45.trans (congrArg some (by kernel_rfl))⟩
  t4 := Tryz.underlying4
  a4 := Tryz.isAgg4
  z4 := Tryz.sizeOf4
  v4 := Tryz.zeroValue4
  t22 := Tryz.underlying58
  a22 := Tryz.isAgg58
  z22 := Tryz.sizeOf58
  v22 := Tryz.zeroValue58 }
/-- Rows of cells of one length. -/
theorem flatM_len {α : Type} (f : α → List Value) (k : Nat) : ∀ {l : List α}, (∀ x ∈ l, (f x).length = k) → (l.flatMap f).length = l.length * k
  | [], _ => by simp
  | x :: l, h => by
    have ih := flatM_len f k (l := l) (fun y hy => h y (List.mem_cons_of_mem _ hy))
    rw [List.flatMap_cons, List.length_append, ih, h x (List.mem_cons_self ..), List.length_cons, Nat.add_mul, Nat.one_mul, Nat.add_comm]
theorem flatM_get {α : Type} (f : α → List Value) (k : Nat) : ∀ {l : List α}, (∀ x ∈ l, (f x).length = k) → ∀ {i : Nat} {e : α}, l[i]? = some e → ∀ j, j < k → (l.flatMap f)[i * k + j]? = (f e)[j]?
  | [], _, i, e, h, _, _ => by simp at h
  | x :: l, hs, 0, e, h, j, hj => by
    simp only [List.getElem?_cons_zero, Option.some.injEq] at h
    subst h
    rw [List.flatMap_cons, Nat.zero_mul, Nat.zero_add, List.getElem?_append_left (by rw [hs x (List.mem_cons_self ..)]; exact hj)]
  | x :: l, hs, i + 1, e, h, j, hj => by
    rw [List.getElem?_cons_succ] at h
    have hx := hs x (List.mem_cons_self ..)
    rw [List.flatMap_cons, List.getElem?_append_right (by rw [hx, Nat.add_mul]; omega), hx, ← flatM_get f k (l := l) (fun y hy => hs y (List.mem_cons_of_mem _ hy)) h j hj]
    congr 1
    rw [Nat.add_mul]; omega
/-- Names as cells. -/
def nvs (l : List ByteArray) : List Value := l.flatMap (fun s => (idc s).toList)
theorem nvs_one (l : List ByteArray) : ∀ v ∈ nvs l, v.oneCell' = true := by
  intro v hv
  obtain ⟨e, _, h⟩ := List.mem_flatMap.1 hv
  exact idc_oneX e v h
theorem nvs_f {l : List ByteArray} (h : ∀ s ∈ l, s.size = 32) : ∀ s ∈ l, ((fun s => (idc s).toList) s).length = 32 := fun s hs => by
  show (idc s).toList.length = 32
  rw [Array.length_toList, idc_size, h s hs]
theorem mvs_f {l : List Mr} (h : ∀ r ∈ l, r.p.size = 32 ∧ r.e.id.size = 32) : ∀ r ∈ l, ((fun r => (mrC r).toList) r).length = 67 := fun r hr => by
  show (mrC r).toList.length = 67
  rw [Array.length_toList, mrC_size r (h r hr).1 (h r hr).2]
set_option maxRecDepth 100000 in
theorem clone_ids (g n : Nat) (l : List ByteArray) (w : World) (hX : NmL w (some ⟨g, 0, none⟩) l) (hl : l.length = n) (hn : n ≤ 4096) :
    Calls Tryz.prog 39 #[.slice (some ⟨g, 0, none⟩) n n] w fun e w' => ∃ v, e = .returned v ∧ w'.ownsRow w.heap.size 48 32 v n (nvs l) ∧ Below w.heap.size w w' := by
  obtain ⟨i0, hi, hz0, hz1, hz2⟩ := info_parts inf_id3
  have hs : ∀ s ∈ l, s.size = 32 := fun s hs => by obtain ⟨i, hi⟩ := List.getElem?_of_mem hs; exact (hX i s hi).1
  have hlen : (nvs l).length = n * 32 := by rw [nvs, flatM_len _ 32 (nvs_f hs), hl]
  refine (AnyE.slices_Clone laysE41I i0 (.agg z32c) 32 32 hi hz0 hz1 hz2 rfl (by decide) Tryz.sizeOf48 g 0 n n (nvs l) w hlen (by unfold maxLen; omega) (by omega) (fun j u hu => ?_) (nvs_one l)).mono ?_
  · have hj : j < n * 32 := by
      have := (List.getElem?_eq_some_iff.1 hu).1
      rwa [hlen] at this
    have hq : j / 32 < l.length := by omega
    obtain ⟨_, g', o', h, _, hc⟩ := hX (j / 32) (l[j / 32]) (List.getElem?_eq_getElem hq)
    simp only [Option.some.injEq, Addr.mk.injEq] at h
    obtain ⟨rfl, rfl, _⟩ := h
    have := flatM_get _ 32 (nvs_f hs) (List.getElem?_eq_getElem hq) (j % 32) (Nat.mod_lt _ (by decide))
    rw [show j / 32 * 32 + j % 32 = j from by omega] at this
    rw [nvs, this, Array.getElem?_toList] at hu
    have := hc (j % 32) u hu
    rwa [show 0 + j / 32 * 32 + j % 32 = 0 + j from by omega] at this
  · rintro e w' ⟨v, rfl, ho, _, hb⟩
    exact ⟨v, rfl, ho, hb⟩
set_option maxRecDepth 100000 in
theorem clone_mrs (g n : Nat) (l : List Mr) (w : World) (hX : MrL w (some ⟨g, 0, none⟩) l) (hl : l.length = n) (hn : n ≤ 1048576) :
    Calls Tryz.prog 45 #[.slice (some ⟨g, 0, none⟩) n n] w fun e w' => ∃ v, e = .returned v ∧ w'.ownsRow w.heap.size 52 67 v n (mvs l) ∧ Below w.heap.size w w' := by
  obtain ⟨i0, hi, hz0, hz1, hz2⟩ := info_parts inf_mr
  have hs : ∀ r ∈ l, r.p.size = 32 ∧ r.e.id.size = 32 := hX.ids
  have hlen : (mvs l).length = n * 67 := by rw [mvs, flatM_len _ 67 (mvs_f hs), hl]
  refine (AnyE.slices_Clone laysE41R i0 (.agg z67) 67 88 hi hz0 hz1 hz2 rfl (by decide) Tryz.sizeOf52 g 0 n n (mvs l) w hlen (by unfold maxLen; omega) (by omega) (fun j u hu => ?_) (mvs_one l)).mono ?_
  · have hj : j < n * 67 := by
      have := (List.getElem?_eq_some_iff.1 hu).1
      rwa [hlen] at this
    have hq : j / 67 < l.length := by omega
    obtain ⟨_, g', o', h, _, hc⟩ := hX (j / 67) (l[j / 67]) (List.getElem?_eq_getElem hq)
    simp only [Option.some.injEq, Addr.mk.injEq] at h
    obtain ⟨rfl, rfl, _⟩ := h
    have := flatM_get _ 67 (mvs_f hs) (List.getElem?_eq_getElem hq) (j % 67) (Nat.mod_lt _ (by decide))
    rw [show j / 67 * 67 + j % 67 = j from by omega] at this
    rw [mvs, this, Array.getElem?_toList] at hu
    have := hc (j % 67) u hu
    rwa [show 0 + j / 67 * 67 + j % 67 = 0 + j from by omega] at this
  · rintro e w' ⟨v, rfl, ho, _, hb⟩
    exact ⟨v, rfl, ho, hb⟩
set_option maxHeartbeats 400000 in
theorem mlen_any (g : Nat) (ps : List ByteArray) (l : List Mr) (w : World) (h : MxS w g ps l) : Calls Tryz.prog 22 #[.pointer (some ⟨g, 0, none⟩)] w fun e w' => e = .returned (.int .i64 (l.length : Int)) ∧ w' = w := by
  obtain ⟨gp, gr, h1, h2, h3⟩ := h.row
  have hq : w.cell? ⟨g, 1, none⟩ = some (.slice (some ⟨gr, 0, none⟩) l.length l.length) := by rw [h1.cell]; rfl
  clear h h1 h2 h3
  go_enter Tryz.func22, Tryz.ntmps22
  go_wp2
  go_ret
  exact ⟨rfl, rfl⟩
set_option maxHeartbeats 2000000 in
set_option maxRecDepth 100000 in
theorem mpacks_any (g : Nat) (ps : List ByteArray) (l : List Mr) (w : World) (h : MxS w g ps l) : Calls Tryz.prog 16 #[.pointer (some ⟨g, 0, none⟩)] w fun e w' => ∃ v, e = .returned v ∧ w'.ownsRow w.heap.size 48 32 v ps.length (nvs ps) ∧ Below w.heap.size w w' := by
  obtain ⟨gp, gr, h1, h2, h3⟩ := h.row
  have hq : w.cell? ⟨g, 0, none⟩ = some (.slice (some ⟨gp, 0, none⟩) ps.length ps.length) := by rw [h1.cell]; rfl
  have HC : Hid (Calls Tryz.prog 39 #[.slice (some ⟨gp, 0, none⟩) ps.length ps.length] w fun e w' => ∃ v, e = .returned v ∧ w'.ownsRow w.heap.size 48 32 v ps.length (nvs ps) ∧ Below w.heap.size w w') := clone_ids gp ps.length ps w h2 rfl h.pl
  obtain ⟨n, hn⟩ : ∃ n, ps.length = n := ⟨_, rfl⟩
  rw [hn] at hq HC ⊢
  clear h h1 h2 h3 hn
  go_enter Tryz.func16, Tryz.ntmps16
  go_wp2_with fail
  refine HC.out.mono ?_
  rintro e w1 ⟨v, rfl, ho, hb⟩
  have HE : Hid (w1.ownsRow w.heap.size 48 32 v n (nvs ps) ∧ Below w.heap.size w w1) := ⟨ho, hb⟩
  obtain ⟨va, vc, hvv⟩ : ∃ va vc, v = .slice va n vc := by
    rcases ho.2 with ⟨h1, h0⟩ | ⟨g, cap, cur, h1, _⟩
    · exact ⟨none, 0, by rw [h1, h0]⟩
    · exact ⟨_, _, h1⟩
  subst hvv
  clear ho hb
  go_wp2
  go_ret
  exact ⟨_, rfl, HE.out⟩
set_option maxHeartbeats 2000000 in
set_option maxRecDepth 100000 in
theorem mall_any (g : Nat) (ps : List ByteArray) (l : List Mr) (w : World) (h : MxS w g ps l) : Calls Tryz.prog 20 #[.pointer (some ⟨g, 0, none⟩)] w fun e w' => ∃ v, e = .returned v ∧ w'.ownsRow w.heap.size 52 67 v l.length (mvs l) ∧ Below w.heap.size w w' := by
  obtain ⟨gp, gr, h1, h2, h3⟩ := h.row
  have hq : w.cell? ⟨g, 1, none⟩ = some (.slice (some ⟨gr, 0, none⟩) l.length l.length) := by rw [h1.cell]; rfl
  have HC : Hid (Calls Tryz.prog 45 #[.slice (some ⟨gr, 0, none⟩) l.length l.length] w fun e w' => ∃ v, e = .returned v ∧ w'.ownsRow w.heap.size 52 67 v l.length (mvs l) ∧ Below w.heap.size w w') := clone_mrs gr l.length l w h3 rfl h.ll
  obtain ⟨n, hn⟩ : ∃ n, l.length = n := ⟨_, rfl⟩
  rw [hn] at hq HC ⊢
  clear h h1 h2 h3 hn
  go_enter Tryz.func20, Tryz.ntmps20
  go_wp2_with fail
  refine HC.out.mono ?_
  rintro e w1 ⟨v, rfl, ho, hb⟩
  have HE : Hid (w1.ownsRow w.heap.size 52 67 v n (mvs l) ∧ Below w.heap.size w w1) := ⟨ho, hb⟩
  obtain ⟨va, vc, hvv⟩ : ∃ va vc, v = .slice va n vc := by
    rcases ho.2 with ⟨h1, h0⟩ | ⟨g, cap, cur, h1, _⟩
    · exact ⟨none, 0, by rw [h1, h0]⟩
    · exact ⟨_, _, h1⟩
  subst hvv
  clear ho hb
  go_wp2
  go_ret
  exact ⟨_, rfl, HE.out⟩
end Go.Proofs.YtbfoiocbmhhdbaaGreat
/- slices.AppendSeq, Collect over an iterator that gives names, or rows. -/
namespace Go.Proofs.YtbfoiocbmhhdbaaGreat
open Go.RowKit Go.Maps
set_option linter.unusedSimpArgs false
set_option linter.unusedVariables false
attribute [local go_sem] Oper.semAt_some
/-- What the assignment of a round leaves. -/
def Ax_N (b g : Nat) (lb : Array Value) (x : Nf) (a' : Act) (W : World) : Prop := ∃ Bx, b < Bx ∧ Bk W Bx (eN x) 48 ∧ a' = { tmps := #[.slice none 0 0, .func (.func g) #[] lb, .pointer (some ⟨b, 0, none⟩), undef, .slice none 0 0, .pointer (some ⟨Bx, 0, none⟩), .func (.func g) #[] lb, .agg (eN x), undef, undef, undef, undef, undef], defers := [] }

def csN (l : List Nf) : List Value := l.flatMap (fun x => (eN x).toList)
theorem csN_len (l : List Nf) : (csN l).length = l.length * 32 := flatM_len _ 32 (fun x _ => by rw [Array.length_toList, (eN_ok x).1])
theorem inf_N15 : (Tryz.prog.info? 48).map (fun i => (i.zero, i.size, i.bytes)) = some (some (.agg z32c), 32, 32) := by kernel_rfl
set_option maxRecDepth 100000 in
set_option maxHeartbeats 4000000 in
/-- slices.AppendSeq(nil, seq): what the iterator gave, in a row of the call's own. -/
theorem app_N (n : Nat) (hn : 3 ≤ n) (g : Nat) (lb : Array Value) (eg : ∀ args w, (callFunc g args).run Tryz.prog w = .ok (.enter g args) w) (S : List Nf → Prop) (N : Nat) (hN : N ≤ 1048577) (w : World)
    (hseq : SeqStopsK Fence.wide (n - 1) Tryz.prog g lb (fun x : Nf => #[.agg (eN x)]) KeepsWalks S (fun _ => True) N w) :
    CallsIn Fence.wide n Tryz.prog 118 #[.slice none 0 0, .func (.func g) #[] lb] w fun r w' => ∃ v ss, r = .returned v ∧ S ss ∧ w'.ownsRow w.heap.size 48 32 v ss.length (csN ss) ∧ Below w.heap.size w w' := by
  have h1 : 1 ≤ n := by omega
  have hz := zero_id
  obtain ⟨i0, hi, hz0, hz1, hz2⟩ := info_parts inf_N15
  refine callsIn_of_wp_marks Tryz.func118 rfl trivial ?_ rfl
  simp only [Tryz.ntmps118, List.size_toArray, List.length_cons, List.length_nil, Nat.reduceAdd, Nat.reduceSub, Array.replicate_succ, Array.replicate_zero, List.push_toArray, List.append_toArray, List.nil_append, List.cons_append]
  gi_wp2
  have bS := Boxed.new w 42 (.slice none 0 0)
  have hB0 : Below w.heap.size w (w.alloc (.cells #[.slice none 0 0] 42)) := (Below.refl _ w).alloc (Nat.le_refl _) _
  have hsz : (w.alloc (.cells #[.slice none 0 0] 42)).heap.size = w.heap.size + 1 := by simp
  obtain ⟨W0, hW0⟩ : ∃ W0, w.alloc (.cells #[.slice none 0 0] 42) = W0 := ⟨_, rfl⟩
  rw [hW0] at bS hB0 hsz ⊢
  clear hW0
  refine wpIn_rangeFunc_ownH rfl h1 (gf := g) (lb := lb) rfl trivial eg hseq walksK_t (fun W l o o' h1 h2 h3 h4 => walksK_b (w := W0) W l o o' h1 h2 h3 h4) hB0 (fun _ => rfl)
    (fun pre W => (∃ v, Boxed W w.heap.size 42 v ∧ W.ownsRow w.heap.size 48 32 v pre.length (csN pre) ∧ True) ∧ Below w.heap.size w W)
    (fun _ _ _ => False)
    (OwnFrom.and ((holdsRow_own w.heap.size w.heap.size 42 48 32 List.length csN (fun _ _ => True)).from _) (ownFrom_below (Nat.le_refl _) (by omega)))
    (fun _ _ _ _ _ hs _ _ => hs)
    ⟨⟨_, bS, ⟨rfl, .inl ⟨rfl, rfl⟩⟩, trivial⟩, hB0⟩
    (fun x a' W => ∃ Bx, w.heap.size < Bx ∧ Bk W Bx (eN x) 48 ∧ a' = { tmps := #[.slice none 0 0, .func (.func g) #[] lb, .pointer (some ⟨w.heap.size, 0, none⟩), undef, .slice none 0 0, .pointer (some ⟨Bx, 0, none⟩), .func (.func g) #[] lb, .agg (eN x), undef, undef, undef, undef, undef], defers := [] })
    (fun x a' _ X Y row hs hg hr => by obtain ⟨Bx, k1, k2, k3⟩ := hs; exact ⟨Bx, k1, (grownBy_keeps_cells hg (fun r e => (hr r e).2) k2 rfl).trans k2, k3⟩)
    ?assign ?body ?done ?stop
  case assign =>
    rintro l pre x W K ⟨⟨v, bS1, hrow, _⟩, hB1⟩ hK
    obtain ⟨hX1, hX2⟩ := eN_ok x
    obtain ⟨X, hX⟩ : ∃ X, eN x = X := ⟨_, rfl⟩
    have HK : Hid (∀ a', Ax_N w.heap.size g lb x a' (W.alloc (.cells X 48)) → K a' (W.alloc (.cells X 48))) := fun a' hAx => hK a' _ ((KeepsOthers.alloc _ _).from _) (KeepsWalks.alloc _ _) ⟨⟨v, bS1.alloc _, hrow.alloc _, trivial⟩, hB1.alloc hB1.size _⟩ hAx
    rw [hX] at hX1 hX2
    have hIX : (Tryz.prog.info? 48).map (·.size) = some X.size := by rw [hX1]; kernel_rfl
    have hlt := bS1.lt
    dsimp only
    rw [hX]
    gi_wp2_with (first
      | (refine wpListIn_rowNew rfl 48 (.tmp 5) (.tmp 7) rfl X _ 48 W.heap.size rfl rfl rfl hIX (by rw [hX1]; rfl) hX2 ?_)
      | gi_in)
    refine HK.out _ ⟨W.heap.size, hlt, ?_, ?_⟩
    · rw [hX]; exact bk_new _ _ _
    · rw [hX]; rfl
  case body =>
    rintro l pre x a' W hl ⟨r, hr⟩ ⟨⟨v, bS1, hrow, _⟩, hB1⟩ ⟨Bx, hBx, bX, rfl⟩ hlt
    obtain ⟨hX1, hX2⟩ := eN_ok x
    have HSN : csN (pre ++ [x]) = csN pre ++ (eN x).toList := by simp [csN]
    obtain ⟨X, hX⟩ : ∃ X, eN x = X := ⟨_, rfl⟩
    rw [hX] at hX1 hX2 bX HSN ⊢
    have hIX : (Tryz.prog.info? 48).map (·.size) = some X.size := by rw [hX1]; kernel_rfl
    have hse := slice1_any Tryz.underlying42 inf_N15 (by decide) (by decide) X hX1 W
    have cS := bS1.cell
    have bSA := bS1.alloc (.cells X 48)
    have hsz1 := hB1.size
    clear hX
    gi_wp2_with (first
      | (refine wpListIn_rowGet rfl 48 (.tmp 5) rfl Bx 0 X X 48 _ rfl bX (fun j v hv => by rw [Nat.zero_add]; exact hv) Tryz.underlying48 rfl hIX ?_)
      | (refine wpListIn_bs1 rfl 42 (.tmp 9) rfl (.agg X) (.slice (some ⟨W.heap.size, 0, none⟩) 1 1) (W.alloc (.cells X 48)) rfl hse ?_)
      | (gi_at_builtin; refine wpListIn_append_own _ rfl _ _ 42 rfl w.heap.size 48 i0 (.agg z32c) 32 32 Tryz.underlying42 hi hz0 hz1 hz2 rfl (by decide) _ _ _ rfl (hrow.alloc _) ⟨W.heap.size, 0, none⟩ 1 1 X.toList rfl (by rw [Array.length_toList, hX1]) (fun j u hu => by rw [WideShapes.add_plain, (bk_new W X 48).cell, Nat.zero_add]; rwa [← Array.getElem?_toList]) (fun u hu => (Array.all_eq_true_iff_forall_mem.1 hX2) u (by simpa using hu)) (by unfold maxLen; omega) (by omega) (by simp; omega) ?_
         intro v' w3 hown' hg3 hnil3
         obtain ⟨g', cap', rfl⟩ := ownsRow_succ hown'
         have hg3' : (W.alloc (.cells X 48)).grownBy w3 v.ownBlock := hg3
         have bS3 := bSA.kept hg3 (bSA.not_row (by decide) (hrow.alloc _))
         have cS3 := bS3.cell
         have fS3 := bS3.frozen
         go_frame)
      | gi_in)
    have hk3 : KeepsOthers (W.alloc (.cells X 48)) w3 := KeepsOthers.of_grownBy hg3' (fun j o hj ho => by
      rcases (hrow.alloc (.cells X 48)).2 with ⟨rfl, _⟩ | ⟨g2, cap2, cur2, rfl, _, hgb, _⟩
      · cases hj
      · simp only [Value.ownBlock, Option.some.injEq] at hj
        subst hj
        rw [hgb] at ho
        injection ho with ho
        rw [← ho]; rfl)
    have hk4 : KeepsOthers W (w3.setCell ⟨w.heap.size, 0, none⟩ (.slice (some ⟨g', 0, none⟩) (pre.length + 1) cap')) := ((KeepsOthers.alloc _ _).trans hk3).trans (KeepsOthers.setCell _ _ _)
    have hb3 : Below w.heap.size w w3 := (hB1.alloc hB1.size _).grown hg3' (by simp; omega) (fun k e => ((hrow.alloc (.cells X 48)).lt k e).1)
    refine ⟨hk4.from _, hk4.walks, ⟨⟨_, bS3.set _, ?_⟩, hb3.setCell (p := ⟨w.heap.size, 0, none⟩) (Nat.le_refl _) _⟩⟩
    rw [HSN, List.length_append, List.length_singleton]
    exact hown'.kept (grownBy_setCell' _ _ _) (.inr fun e => bS3.not_row (by decide) hown' e.symm)
  case done =>
    rintro D zs W hD hS ⟨⟨v, bS1, hrow, _⟩, hB1⟩ hK
    have cS := bS1.cell
    gi_wp2
    refine ⟨by simp, .inl ⟨_, _, rfl, run_takeDeferred hK, ?_⟩⟩
    exact ⟨_, results_tmp rfl _ _ _, v, zs, rfl, hS, ownsRow_putObj hrow _ hK rfl, hB1.trans (belowK_b (w := w) (Nat.le_refl _) W D _ _ (by omega) hK rfl rfl)⟩
  case stop =>
    rintro D c pre W _ _ h _
    exact h.elim
set_option maxHeartbeats 1000000 in
theorem collect_N (g : Nat) (lb : Array Value) (eg : ∀ args w, (callFunc g args).run Tryz.prog w = .ok (.enter g args) w) (S : List Nf → Prop) (N : Nat) (hN : N ≤ 1048577) (w : World)
    (hseq : SeqStopsK Fence.wide 4 Tryz.prog g lb (fun x : Nf => #[.agg (eN x)]) KeepsWalks S (fun _ => True) N w) :
    Calls Tryz.prog 96 #[.func (.func g) #[] lb] w fun r w' => ∃ v ss, r = .returned v ∧ S ss ∧ w'.ownsRow w.heap.size 48 32 v ss.length (csN ss) ∧ Below w.heap.size w w' := by
  have HC : Hid (Calls Tryz.prog 118 #[.slice none 0 0, .func (.func g) #[] lb] w fun r w' => ∃ v ss, r = .returned v ∧ S ss ∧ w'.ownsRow w.heap.size 48 32 v ss.length (csN ss) ∧ Below w.heap.size w w') := callsIn_wide.1 (app_N 5 (by decide) g lb eg S N hN w hseq)
  clear hseq
  go_enter Tryz.func96, Tryz.ntmps96
  go_wp2_with fail
  refine HC.out.mono ?_
  rintro r w1 ⟨v, ss, rfl, hS, ho, hb⟩
  have H1 : Hid (S ss ∧ w1.ownsRow w.heap.size 48 32 v ss.length (csN ss) ∧ Below w.heap.size w w1) := ⟨hS, ho, hb⟩
  clear hS ho hb
  go_wp2
  go_ret
  exact ⟨v, ss, rfl, H1.out⟩
/-- What the assignment of a round leaves. -/
def Ax_R (b g : Nat) (lb : Array Value) (x : Rf) (a' : Act) (W : World) : Prop := ∃ Bx, b < Bx ∧ Bk W Bx (eR x) 52 ∧ a' = { tmps := #[.slice none 0 0, .func (.func g) #[] lb, .pointer (some ⟨b, 0, none⟩), undef, .slice none 0 0, .pointer (some ⟨Bx, 0, none⟩), .func (.func g) #[] lb, .agg (eR x), undef, undef, undef, undef, undef], defers := [] }

def csR (l : List Rf) : List Value := l.flatMap (fun x => (eR x).toList)
theorem csR_len (l : List Rf) : (csR l).length = l.length * 67 := flatM_len _ 67 (fun x _ => by rw [Array.length_toList, (eR_ok x).1])
theorem inf_R15 : (Tryz.prog.info? 52).map (fun i => (i.zero, i.size, i.bytes)) = some (some (.agg z67), 67, 88) := by kernel_rfl
set_option maxRecDepth 100000 in
set_option maxHeartbeats 4000000 in
/-- slices.AppendSeq(nil, seq): what the iterator gave, in a row of the call's own. -/
theorem app_R (n : Nat) (hn : 3 ≤ n) (g : Nat) (lb : Array Value) (eg : ∀ args w, (callFunc g args).run Tryz.prog w = .ok (.enter g args) w) (S : List Rf → Prop) (N : Nat) (hN : N ≤ 1048577) (w : World)
    (hseq : SeqStopsK Fence.wide (n - 1) Tryz.prog g lb (fun x : Rf => #[.agg (eR x)]) KeepsWalks S (fun _ => True) N w) :
    CallsIn Fence.wide n Tryz.prog 120 #[.slice none 0 0, .func (.func g) #[] lb] w fun r w' => ∃ v ss, r = .returned v ∧ S ss ∧ w'.ownsRow w.heap.size 52 67 v ss.length (csR ss) ∧ Below w.heap.size w w' := by
  have h1 : 1 ≤ n := by omega
  have hz := zero_mr15
  obtain ⟨i0, hi, hz0, hz1, hz2⟩ := info_parts inf_R15
  refine callsIn_of_wp_marks Tryz.func120 rfl trivial ?_ rfl
  simp only [Tryz.ntmps120, List.size_toArray, List.length_cons, List.length_nil, Nat.reduceAdd, Nat.reduceSub, Array.replicate_succ, Array.replicate_zero, List.push_toArray, List.append_toArray, List.nil_append, List.cons_append]
  gi_wp2
  have bS := Boxed.new w 58 (.slice none 0 0)
  have hB0 : Below w.heap.size w (w.alloc (.cells #[.slice none 0 0] 58)) := (Below.refl _ w).alloc (Nat.le_refl _) _
  have hsz : (w.alloc (.cells #[.slice none 0 0] 58)).heap.size = w.heap.size + 1 := by simp
  obtain ⟨W0, hW0⟩ : ∃ W0, w.alloc (.cells #[.slice none 0 0] 58) = W0 := ⟨_, rfl⟩
  rw [hW0] at bS hB0 hsz ⊢
  clear hW0
  refine wpIn_rangeFunc_ownH rfl h1 (gf := g) (lb := lb) rfl trivial eg hseq walksK_t (fun W l o o' h1 h2 h3 h4 => walksK_b (w := W0) W l o o' h1 h2 h3 h4) hB0 (fun _ => rfl)
    (fun pre W => (∃ v, Boxed W w.heap.size 58 v ∧ W.ownsRow w.heap.size 52 67 v pre.length (csR pre) ∧ True) ∧ Below w.heap.size w W)
    (fun _ _ _ => False)
    (OwnFrom.and ((holdsRow_own w.heap.size w.heap.size 58 52 67 List.length csR (fun _ _ => True)).from _) (ownFrom_below (Nat.le_refl _) (by omega)))
    (fun _ _ _ _ _ hs _ _ => hs)
    ⟨⟨_, bS, ⟨rfl, .inl ⟨rfl, rfl⟩⟩, trivial⟩, hB0⟩
    (fun x a' W => ∃ Bx, w.heap.size < Bx ∧ Bk W Bx (eR x) 52 ∧ a' = { tmps := #[.slice none 0 0, .func (.func g) #[] lb, .pointer (some ⟨w.heap.size, 0, none⟩), undef, .slice none 0 0, .pointer (some ⟨Bx, 0, none⟩), .func (.func g) #[] lb, .agg (eR x), undef, undef, undef, undef, undef], defers := [] })
    (fun x a' _ X Y row hs hg hr => by obtain ⟨Bx, k1, k2, k3⟩ := hs; exact ⟨Bx, k1, (grownBy_keeps_cells hg (fun r e => (hr r e).2) k2 rfl).trans k2, k3⟩)
    ?assign ?body ?done ?stop
  case assign =>
    rintro l pre x W K ⟨⟨v, bS1, hrow, _⟩, hB1⟩ hK
    obtain ⟨hX1, hX2⟩ := eR_ok x
    obtain ⟨X, hX⟩ : ∃ X, eR x = X := ⟨_, rfl⟩
    have HK : Hid (∀ a', Ax_R w.heap.size g lb x a' (W.alloc (.cells X 52)) → K a' (W.alloc (.cells X 52))) := fun a' hAx => hK a' _ ((KeepsOthers.alloc _ _).from _) (KeepsWalks.alloc _ _) ⟨⟨v, bS1.alloc _, hrow.alloc _, trivial⟩, hB1.alloc hB1.size _⟩ hAx
    rw [hX] at hX1 hX2
    have hIX : (Tryz.prog.info? 52).map (·.size) = some X.size := by rw [hX1]; kernel_rfl
    have hlt := bS1.lt
    dsimp only
    rw [hX]
    gi_wp2_with (first
      | (refine wpListIn_rowNew rfl 52 (.tmp 5) (.tmp 7) rfl X _ 52 W.heap.size rfl rfl rfl hIX (by rw [hX1]; rfl) hX2 ?_)
      | gi_in)
    refine HK.out _ ⟨W.heap.size, hlt, ?_, ?_⟩
    · rw [hX]; exact bk_new _ _ _
    · rw [hX]; rfl
  case body =>
    rintro l pre x a' W hl ⟨r, hr⟩ ⟨⟨v, bS1, hrow, _⟩, hB1⟩ ⟨Bx, hBx, bX, rfl⟩ hlt
    obtain ⟨hX1, hX2⟩ := eR_ok x
    have HSN : csR (pre ++ [x]) = csR pre ++ (eR x).toList := by simp [csR]
    obtain ⟨X, hX⟩ : ∃ X, eR x = X := ⟨_, rfl⟩
    rw [hX] at hX1 hX2 bX HSN ⊢
    have hIX : (Tryz.prog.info? 52).map (·.size) = some X.size := by rw [hX1]; kernel_rfl
    have hse := slice1_any Tryz.underlying58 inf_R15 (by decide) (by decide) X hX1 W
    have cS := bS1.cell
    have bSA := bS1.alloc (.cells X 52)
    have hsz1 := hB1.size
    clear hX
    gi_wp2_with (first
      | (refine wpListIn_rowGet rfl 52 (.tmp 5) rfl Bx 0 X X 52 _ rfl bX (fun j v hv => by rw [Nat.zero_add]; exact hv) Tryz.underlying52 rfl hIX ?_)
      | (refine wpListIn_bs1 rfl 58 (.tmp 9) rfl (.agg X) (.slice (some ⟨W.heap.size, 0, none⟩) 1 1) (W.alloc (.cells X 52)) rfl hse ?_)
      | (gi_at_builtin; refine wpListIn_append_own _ rfl _ _ 58 rfl w.heap.size 52 i0 (.agg z67) 67 88 Tryz.underlying58 hi hz0 hz1 hz2 rfl (by decide) _ _ _ rfl (hrow.alloc _) ⟨W.heap.size, 0, none⟩ 1 1 X.toList rfl (by rw [Array.length_toList, hX1]) (fun j u hu => by rw [WideShapes.add_plain, (bk_new W X 52).cell, Nat.zero_add]; rwa [← Array.getElem?_toList]) (fun u hu => (Array.all_eq_true_iff_forall_mem.1 hX2) u (by simpa using hu)) (by unfold maxLen; omega) (by omega) (by simp; omega) ?_
         intro v' w3 hown' hg3 hnil3
         obtain ⟨g', cap', rfl⟩ := ownsRow_succ hown'
         have hg3' : (W.alloc (.cells X 52)).grownBy w3 v.ownBlock := hg3
         have bS3 := bSA.kept hg3 (bSA.not_row (by decide) (hrow.alloc _))
         have cS3 := bS3.cell
         have fS3 := bS3.frozen
         go_frame)
      | gi_in)
    have hk3 : KeepsOthers (W.alloc (.cells X 52)) w3 := KeepsOthers.of_grownBy hg3' (fun j o hj ho => by
      rcases (hrow.alloc (.cells X 52)).2 with ⟨rfl, _⟩ | ⟨g2, cap2, cur2, rfl, _, hgb, _⟩
      · cases hj
      · simp only [Value.ownBlock, Option.some.injEq] at hj
        subst hj
        rw [hgb] at ho
        injection ho with ho
        rw [← ho]; rfl)
    have hk4 : KeepsOthers W (w3.setCell ⟨w.heap.size, 0, none⟩ (.slice (some ⟨g', 0, none⟩) (pre.length + 1) cap')) := ((KeepsOthers.alloc _ _).trans hk3).trans (KeepsOthers.setCell _ _ _)
    have hb3 : Below w.heap.size w w3 := (hB1.alloc hB1.size _).grown hg3' (by simp; omega) (fun k e => ((hrow.alloc (.cells X 52)).lt k e).1)
    refine ⟨hk4.from _, hk4.walks, ⟨⟨_, bS3.set _, ?_⟩, hb3.setCell (p := ⟨w.heap.size, 0, none⟩) (Nat.le_refl _) _⟩⟩
    rw [HSN, List.length_append, List.length_singleton]
    exact hown'.kept (grownBy_setCell' _ _ _) (.inr fun e => bS3.not_row (by decide) hown' e.symm)
  case done =>
    rintro D zs W hD hS ⟨⟨v, bS1, hrow, _⟩, hB1⟩ hK
    have cS := bS1.cell
    gi_wp2
    refine ⟨by simp, .inl ⟨_, _, rfl, run_takeDeferred hK, ?_⟩⟩
    exact ⟨_, results_tmp rfl _ _ _, v, zs, rfl, hS, ownsRow_putObj hrow _ hK rfl, hB1.trans (belowK_b (w := w) (Nat.le_refl _) W D _ _ (by omega) hK rfl rfl)⟩
  case stop =>
    rintro D c pre W _ _ h _
    exact h.elim
set_option maxHeartbeats 1000000 in
theorem collect_R (g : Nat) (lb : Array Value) (eg : ∀ args w, (callFunc g args).run Tryz.prog w = .ok (.enter g args) w) (S : List Rf → Prop) (N : Nat) (hN : N ≤ 1048577) (w : World)
    (hseq : SeqStopsK Fence.wide 4 Tryz.prog g lb (fun x : Rf => #[.agg (eR x)]) KeepsWalks S (fun _ => True) N w) :
    Calls Tryz.prog 99 #[.func (.func g) #[] lb] w fun r w' => ∃ v ss, r = .returned v ∧ S ss ∧ w'.ownsRow w.heap.size 52 67 v ss.length (csR ss) ∧ Below w.heap.size w w' := by
  have HC : Hid (Calls Tryz.prog 120 #[.slice none 0 0, .func (.func g) #[] lb] w fun r w' => ∃ v ss, r = .returned v ∧ S ss ∧ w'.ownsRow w.heap.size 52 67 v ss.length (csR ss) ∧ Below w.heap.size w w') := callsIn_wide.1 (app_R 5 (by decide) g lb eg S N hN w hseq)
  clear hseq
  go_enter Tryz.func99, Tryz.ntmps99
  go_wp2_with fail
  refine HC.out.mono ?_
  rintro r w1 ⟨v, ss, rfl, hS, ho, hb⟩
  have H1 : Hid (S ss ∧ w1.ownsRow w.heap.size 52 67 v ss.length (csR ss) ∧ Below w.heap.size w w1) := ⟨hS, ho, hb⟩
  clear hS ho hb
  go_wp2
  go_ret
  exact ⟨v, ss, rfl, H1.out⟩
end Go.Proofs.YtbfoiocbmhhdbaaGreat
/- The layings of slices.SortFunc at names. -/
namespace Go.Proofs.YtbfoiocbmhhdbaaGreat
open Go.Shelf
def laysF6I_ren : Go.Shelf.Ren := ⟨fun | 6 => 97 | 15 => 93 | 14 => 119 | 28 => 116 | 29 => 105 | 20 => 130 | 21 => 131 | 22 => 132 | 23 => 133 | 24 => 134 | 25 => 135 | 26 => 136 | 27 => 137 | 46 => 147 | 47 => 126 | 48 => 127 | 49 => 148 | 50 => 149 | 57 => 153 | n => n, fun | 22 => 42 | 24 => 48 | 25 => 134 | 3 => 3 | 39 => 169 | 0 => 0 | 53 => 194 | 55 => 85 | 4 => 4 | 46 => 188 | 45 => 187 | 50 => 128 | 5 => 5 | 9 => 9 | 66 => 203 | 70 => 207 | 76 => 219 | 77 => 167 | n => n, fun | n => n⟩
theorem laysF6I : Go.Proofs.SlLaysF0.n6 Tryz.prog laysF6I_ren := {
  mixed := by kernel_rfl
  f6 := ⟨Tryz.f97.name, by decide, Tryz.func97.trans (congrArg some (by kernel_rfl))⟩
  f14 := ⟨Tryz.f119.name, by decide, Tryz.func119.trans (congrArg some (by kernel_rfl))⟩
  f15 := Tryz.func93.trans (congrArg some (by kernel_rfl))
  f20 := ⟨Tryz.f130.name, by decide, Tryz.func130.trans (congrArg some (by kernel_rfl))⟩
  f21 := ⟨Tryz.f131.name, by decide, Tryz.func131.trans (congrArg some (by kernel_rfl))⟩
  f22 := ⟨Tryz.f132.name, by decide, Tryz.func132.trans (congrArg some (by kernel_rfl))⟩
  f23 := ⟨Tryz.f133.name, by decide, Tryz.func133.trans (congrArg some (by kernel_rfl))⟩
  f24 := ⟨Tryz.f134.name, by decide, Tryz.func134.trans (congrArg some (by kernel_rfl))⟩
  f25 := ⟨Tryz.f135.name, by decide, Tryz.func135.trans (congrArg some (by kernel_rfl))⟩
  f26 := ⟨Tryz.f136.name, by decide, Tryz.func136.trans (congrArg some (by kernel_rfl))⟩
  f27 := ⟨Tryz.f137.name, by decide, Tryz.func137.trans (congrArg some (by kernel_rfl))⟩
  f28 := Tryz.func116.trans (congrArg some (by kernel_rfl))
  f29 := Tryz.func105.trans (congrArg some (by kernel_rfl))
  f46 := ⟨Tryz.f147.name, by decide, Tryz.func147.trans (congrArg some (by kernel_rfl))⟩
  f47 := Tryz.func126.trans (congrArg some (by kernel_rfl))
  f48 := Tryz.func127.trans (congrArg some (by kernel_rfl))
  f49 := ⟨Tryz.f148.name, by decide, Tryz.func148.trans (congrArg some (by kernel_rfl))⟩
  f50 := ⟨Tryz.f149.name, by decide, Tryz.func149.trans (congrArg some (by kernel_rfl))⟩
  f57 := ⟨Tryz.f153.name, by decide, Tryz.func153.trans (congrArg some (by kernel_rfl))⟩
  t0 := Tryz.underlying0
  a0 := Tryz.isAgg0
  z0 := Tryz.sizeOf0
  v0 := Tryz.zeroValue0
  t3 := Tryz.underlying3
  a3 := Tryz.isAgg3
  z3 := Tryz.sizeOf3
  v3 := Tryz.zeroValue3
  t4 := Tryz.underlying4
  a4 := Tryz.isAgg4
  z4 := Tryz.sizeOf4
  v4 := Tryz.zeroValue4
  t5 := Tryz.underlying5
  a5 := Tryz.isAgg5
  z5 := Tryz.sizeOf5
  v5 := Tryz.zeroValue5
  t9 := Tryz.underlying9
  a9 := Tryz.isAgg9
  z9 := Tryz.sizeOf9
  v9 := Tryz.zeroValue9
  t22 := Tryz.underlying42
  a22 := Tryz.isAgg42
  z22 := Tryz.sizeOf42
  v22 := Tryz.zeroValue42
  t25 := Tryz.underlying134
  a25 := Tryz.isAgg134
  z25 := Tryz.sizeOf134
  v25 := Tryz.zeroValue134
  t39 := Tryz.underlying169
  a39 := Tryz.isAgg169
  z39 := Tryz.sizeOf169
  v39 := Tryz.zeroValue169
  t45 := Tryz.underlying187
  a45 := Tryz.isAgg187
  z45 := Tryz.sizeOf187
  v45 := Tryz.zeroValue187
  t46 := Tryz.underlying188
  a46 := Tryz.isAgg188
  z46 := Tryz.sizeOf188
  v46 := Tryz.zeroValue188
  t50 := Tryz.underlying128
  a50 := Tryz.isAgg128
  z50 := Tryz.sizeOf128
  v50 := Tryz.zeroValue128
  t53 := Tryz.underlying194
  a53 := Tryz.isAgg194
  z53 := Tryz.sizeOf194
  v53 := Tryz.zeroValue194
  t55 := Tryz.underlying85
  a55 := Tryz.isAgg85
  z55 := Tryz.sizeOf85
  v55 := Tryz.zeroValue85
  t66 := Tryz.underlying203
  a66 := Tryz.isAgg203
  z66 := Tryz.sizeOf203
  v66 := Tryz.zeroValue203
  t70 := Tryz.underlying207
  a70 := Tryz.isAgg207
  z70 := Tryz.sizeOf207
  v70 := Tryz.zeroValue207
  t76 := Tryz.underlying219
  a76 := Tryz.isAgg219
  z76 := Tryz.sizeOf219
  v76 := Tryz.zeroValue219
  t77 := Tryz.underlying167
  a77 := Tryz.isAgg167
  z77 := Tryz.sizeOf167
  v77 := Tryz.zeroValue167 }
end Go.Proofs.YtbfoiocbmhhdbaaGreat
/- The layings of slices.SortFunc at rows of a merged index. -/
namespace Go.Proofs.YtbfoiocbmhhdbaaGreat
open Go.Shelf
def laysF6M_ren : Go.Shelf.Ren := ⟨fun | 6 => 100 | 15 => 93 | 14 => 121 | 28 => 116 | 29 => 105 | 20 => 138 | 21 => 139 | 22 => 140 | 23 => 141 | 24 => 142 | 25 => 143 | 26 => 144 | 27 => 145 | 46 => 150 | 47 => 126 | 48 => 127 | 49 => 151 | 50 => 152 | 57 => 154 | n => n, fun | 22 => 58 | 24 => 52 | 25 => 135 | 3 => 3 | 39 => 169 | 0 => 0 | 53 => 194 | 55 => 85 | 4 => 4 | 46 => 188 | 45 => 187 | 50 => 128 | 5 => 5 | 9 => 9 | 66 => 203 | 70 => 207 | 76 => 219 | 77 => 167 | n => n, fun | n => n⟩
theorem laysF6M : Go.Proofs.SlLaysF0.n6 Tryz.prog laysF6M_ren := {
  mixed := by kernel_rfl
  f6 := ⟨Tryz.f100.name, by decide, Tryz.func100.trans (congrArg some (by kernel_rfl))⟩
  f14 := ⟨Tryz.f121.name, by decide, Tryz.func121.trans (congrArg some (by kernel_rfl))⟩
  f15 := Tryz.func93.trans (congrArg some (by kernel_rfl))
  f20 := ⟨Tryz.f138.name, by decide, Tryz.func138.trans (congrArg some (by kernel_rfl))⟩
  f21 := ⟨Tryz.f139.name, by decide, Tryz.func139.trans (congrArg some (by kernel_rfl))⟩
  f22 := ⟨Tryz.f140.name, by decide, Tryz.func140.trans (congrArg some (by kernel_rfl))⟩
  f23 := ⟨Tryz.f141.name, by decide, Tryz.func141.trans (congrArg some (by kernel_rfl))⟩
  f24 := ⟨Tryz.f142.name, by decide, Tryz.func142.trans (congrArg some (by kernel_rfl))⟩
  f25 := ⟨Tryz.f143.name, by decide, Tryz.func143.trans (congrArg some (by kernel_rfl))⟩
  f26 := ⟨Tryz.f144.name, by decide, Tryz.func144.trans (congrArg some (by kernel_rfl))⟩
  f27 := ⟨Tryz.f145.name, by decide, Tryz.func145.trans (congrArg some (by kernel_rfl))⟩
  f28 := Tryz.func116.trans (congrArg some (by kernel_rfl))
  f29 := Tryz.func105.trans (congrArg some (by kernel_rfl))
  f46 := ⟨Tryz.f150.name, by decide, Tryz.func150.trans (congrArg some (by kernel_rfl))⟩
  f47 := Tryz.func126.trans (congrArg some (by kernel_rfl))
  f48 := Tryz.func127.trans (congrArg some (by kernel_rfl))
  f49 := ⟨Tryz.f151.name, by decide, Tryz.func151.trans (congrArg some (by kernel_rfl))⟩
  f50 := ⟨Tryz.f152.name, by decide, Tryz.func152.trans (congrArg some (by kernel_rfl))⟩
  f57 := ⟨Tryz.f154.name, by decide, Tryz.func154.trans (congrArg some (by kernel_rfl))⟩
  t0 := Tryz.underlying0
  a0 := Tryz.isAgg0
  z0 := Tryz.sizeOf0
  v0 := Tryz.zeroValue0
  t3 := Tryz.underlying3
  a3 := Tryz.isAgg3
  z3 := Tryz.sizeOf3
  v3 := Tryz.zeroValue3
  t4 := Tryz.underlying4
  a4 := Tryz.isAgg4
  z4 := Tryz.sizeOf4
  v4 := Tryz.zeroValue4
  t5 := Tryz.underlying5
  a5 := Tryz.isAgg5
  z5 := Tryz.sizeOf5
  v5 := Tryz.zeroValue5
  t9 := Tryz.underlying9
  a9 := Tryz.isAgg9
  z9 := Tryz.sizeOf9
  v9 := Tryz.zeroValue9
  t22 := Tryz.underlying58
  a22 := Tryz.isAgg58
  z22 := Tryz.sizeOf58
  v22 := Tryz.zeroValue58
  t25 := Tryz.underlying135
  a25 := Tryz.isAgg135
  z25 := Tryz.sizeOf135
  v25 := Tryz.zeroValue135
  t39 := Tryz.underlying169
  a39 := Tryz.isAgg169
  z39 := Tryz.sizeOf169
  v39 := Tryz.zeroValue169
  t45 := Tryz.underlying187
  a45 := Tryz.isAgg187
  z45 := Tryz.sizeOf187
  v45 := Tryz.zeroValue187
  t46 := Tryz.underlying188
  a46 := Tryz.isAgg188
  z46 := Tryz.sizeOf188
  v46 := Tryz.zeroValue188
  t50 := Tryz.underlying128
  a50 := Tryz.isAgg128
  z50 := Tryz.sizeOf128
  v50 := Tryz.zeroValue128
  t53 := Tryz.underlying194
  a53 := Tryz.isAgg194
  z53 := Tryz.sizeOf194
  v53 := Tryz.zeroValue194
  t55 := Tryz.underlying85
  a55 := Tryz.isAgg85
  z55 := Tryz.sizeOf85
  v55 := Tryz.zeroValue85
  t66 := Tryz.underlying203
  a66 := Tryz.isAgg203
  z66 := Tryz.sizeOf203
  v66 := Tryz.zeroValue203
  t70 := Tryz.underlying207
  a70 := Tryz.isAgg207
  z70 := Tryz.sizeOf207
  v70 := Tryz.zeroValue207
  t76 := Tryz.underlying219
  a76 := Tryz.isAgg219
  z76 := Tryz.sizeOf219
  v76 := Tryz.zeroValue219
  t77 := Tryz.underlying167
  a77 := Tryz.isAgg167
  z77 := Tryz.sizeOf167
  v77 := Tryz.zeroValue167 }
end Go.Proofs.YtbfoiocbmhhdbaaGreat
