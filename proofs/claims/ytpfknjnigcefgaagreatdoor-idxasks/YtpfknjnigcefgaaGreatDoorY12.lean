import Derived.Test.YtpfknjnigcefgaaGreatDoorY9
import Derived.Test.YtpfknjnigcefgaaGreatDoorY11
import Derived.Sort.OwnSorted
import Derived.WalkKit
import Derived.WalkSpells
import Derived.WalkLawsBesides
import Derived.Handy
import Derived.RegionTactic
import Derived.Test.YtpfknjnigcefgaaGreatDoorY8
import Derived.Laws.ResultCell
import Derived.Laws.AppendOwn
import Derived.Test.YtpfknjnigcefgaaGreatDoorY10
/- Entries copied (slices.Clone) and sorted (slices.SortFunc). -/
namespace Go.Proofs.YtpfknjnigcefgaaGreatDoor
open Go.RowKit Go.Sort
set_option linter.unusedSimpArgs false
set_option linter.unusedVariables false
/-- An entry whose name has 32 bytes. -/
abbrev Xf := { e : Xe // e.id.size = 32 }
instance : Inhabited Xf := ⟨⟨⟨⟨(List.replicate 32 (0 : UInt8)).toArray⟩, 0, 0, 0⟩, rfl⟩⟩
def encX (e : Xf) : List Value := (xeC e.1).toList
def cfX (a b : Xf) : Int := ordI a.1 b.1
theorem ltX (a b : Xf) : ltOf cfX a b = ltN a.1.id b.1.id := by
  unfold ltOf cfX ordI
  by_cases h : a.1.id = b.1.id
  · rw [if_pos h, h, ltN_irr]; rfl
  · rw [if_neg h]
    cases hl : ltN a.1.id b.1.id <;> rfl
theorem swoX : SWO (ltOf cfX) where
  irrefl x := by rw [ltX]; exact ltN_irr _
  trans x y z h1 h2 := by rw [ltX] at *; exact ltN_trans h1 h2
  ntrans x y z h1 h2 := by
    rw [ltX] at *
    rw [Bool.eq_false_iff]
    intro h3
    cases q : ltN z.1.id y.1.id with
    | true => rw [ltN_trans h3 q] at h1; cases h1
    | false =>
      have := ltN_tri h2 q
      rw [this] at h1
      rw [h1] at h3; cases h3
def toX (l : List Xe) (hs : ∀ e ∈ l, e.id.size = 32) : List Xf := l.pmap (fun e h => ⟨e, h⟩) hs
theorem toX_val : ∀ (l : List Xe) (hs : ∀ e ∈ l, e.id.size = 32), (toX l hs).map (fun x : Xf => x.1) = l
  | [], _ => rfl
  | e :: l, hs => by
    have ih := toX_val l (fun x hx => hs x (List.mem_cons_of_mem _ hx))
    show e :: (toX l _).map (fun x : Xf => x.1) = e :: l
    rw [ih]
theorem toX_len (l : List Xe) (hs : ∀ e ∈ l, e.id.size = 32) : (toX l hs).length = l.length := by simp [toX]
/-- The cells of a row of entries, flat. -/
theorem flat_xvs (d : List Xf) : (flatK encX 35 d.toArray).toList = xvs (d.map (fun x : Xf => x.1)) := by
  have hs : ∀ e ∈ d.map (fun x : Xf => x.1), e.id.size = 32 := fun e he => by
    obtain ⟨x, _, rfl⟩ := List.mem_map.1 he
    exact x.2
  apply List.ext_getElem
  · rw [Array.length_toList, size_flatK, xvs_len hs, List.length_map, List.size_toArray]
  · intro t h1 h2
    have ht : t < d.length * 35 := by rw [Array.length_toList, size_flatK, List.size_toArray] at h1; exact h1
    have hq : t / 35 < d.length := by omega
    have e1 : (flatK encX 35 d.toArray).toList[t] = (flatK encX 35 d.toArray)[t]! := by
      rw [Array.getElem_toList, getElem!_pos _ t (by rw [size_flatK, List.size_toArray]; exact ht)]
    rw [e1, get_flatK _ _ _ _ (by rw [List.size_toArray]; exact ht)]
    have e2 : (d.map (fun x : Xf => x.1))[t / 35]? = some (d[t / 35]).1 := by rw [List.getElem?_map, List.getElem?_eq_getElem hq]; rfl
    have e3 := xvs_get hs e2 (t % 35) (Nat.mod_lt _ (by decide))
    rw [show t / 35 * 35 + t % 35 = t from by omega, List.getElem?_eq_getElem h2] at e3
    have e4 : d.toArray[t / 35]! = d[t / 35] := by rw [getElem!_pos _ _ (by rw [List.size_toArray]; exact hq), List.getElem_toArray]
    rw [e4]
    have hz : t % 35 < (encX d[t / 35]).length := by
      unfold encX
      rw [Array.length_toList, xeC_size _ (d[t / 35]).2]
      exact Nat.mod_lt _ (by decide)
    rw [getElem!_pos (encX d[t / 35]) (t % 35) hz]
    have e5 : (xeC (d[t / 35]).1)[t % 35]? = some ((encX d[t / 35])[t % 35]) := by
      rw [← Array.getElem?_toList]
      exact List.getElem?_eq_getElem hz
    rw [e5] at e3
    exact (Option.some.inj e3).symm
theorem heap_sortX {w : World} {g n : Nat} {os : Array Obj} {cur : Array Value} {e : TypeId} (F : Array Value) (hb : w.heap[g]? = some (.cells cur e (0, 0))) :
    (grow (putRow id (Sort.ahead w n) g 0 F) os).heap[g]? = some (.cells (putCells id 0 F cur) e (0, 0)) := by
  have hg : g < w.heap.size := (Array.getElem?_eq_some_iff.1 hb).1
  rw [heap_grow_old _ _ (by simpa using hg)]
  simp [putRow, mapBlock, Sort.ahead, Array.getElem?_modify, hb, onCells]
theorem grown_sortX {w : World} {g n : Nat} {os : Array Obj} (F : Array Value) : w.grownBy (grow (putRow id (Sort.ahead w n) g 0 F) os) (some g) := by
  refine ⟨rfl, rfl, rfl, by simp, fun k hk hne => ?_⟩
  rw [heap_grow_old _ _ (by simpa using hk)]
  have : g ≠ k := fun e => hne (by rw [e])
  simp [putRow, mapBlock, Sort.ahead, Array.getElem?_modify, this]
theorem take_putX (cur F : Array Value) (h : F.size ≤ cur.size) : (putCells id 0 F cur).toList.take F.size = F.toList := by
  apply List.ext_getElem?
  intro j
  by_cases hj : j < F.size
  · rw [List.getElem?_take_of_lt hj, Array.getElem?_toList, Array.getElem?_toList]
    simp [putCells, hj, show j < cur.size by omega]
  · rw [List.getElem?_take_eq_none (by omega), List.getElem?_eq_none (by simp; omega)]
theorem cmpX (blk off size : Nat) (w : World) : CmpLays Tryz.prog 27 #[] encX 35 cfX blk off size w := fun _ _ _ _ x y => order_any x.1 y.1 _ x.2 y.2
set_option maxHeartbeats 1000000 in
/-- A row of entries of the call's own, sorted. -/
theorem sort_any (B g n c : Nat) (l : List Xe) (w : World) (h : w.ownsRow B 34 35 (.slice (some ⟨g, 0, none⟩) n c) n (xvs l)) (hl : l.length = n) (hs : ∀ e ∈ l, e.id.size = 32) (hn : n < 4611686018427387904) (hB : B ≤ w.heap.size) :
    Calls Tryz.prog 26 #[.slice (some ⟨g, 0, none⟩) n c, .func (.func 27) #[] #[]] w fun e w' => e = .returned (.tuple #[]) ∧ ∃ L : List Xe, L.Perm l ∧ (L.Pairwise fun a b => ltN b.id a.id = false) ∧ w'.ownsRow B 34 35 (.slice (some ⟨g, 0, none⟩) n c) n (xvs L) ∧ Below B w w' := by
  rcases h.2 with ⟨h1, _⟩ | ⟨g', cap, cur, h1, hle, hg, hnc, hcm, hsz, ht⟩
  · cases h1
  injection h1 with h1 _ h3
  injection h1 with h1
  injection h1 with h1
  subst h1
  subst h3
  have hg2 : w.heap[g]? = some (.cells cur 34 (0, 0)) := hg
  obtain ⟨d, hd⟩ : ∃ d, toX l hs = d := ⟨_, rfl⟩
  have hdl : d.length = n := by rw [← hd, toX_len, hl]
  have hdv : d.map (fun x : Xf => x.1) = l := by rw [← hd]; exact toX_val l hs
  have hH : HoldsK encX 35 w g 0 d.toArray := by
    intro j hj
    rw [size_flatK, List.size_toArray, hdl] at hj
    have hb : Bk w g cur 34 := hg
    refine ⟨?_, hb.frozen _⟩
    rw [hb.cell, Nat.zero_add]
    have q : (cur.toList.take (n * 35))[j]? = (xvs l)[j]? := by rw [ht]
    rw [List.getElem?_take_of_lt hj, Array.getElem?_toList] at q
    rw [q, ← hdv, ← flat_xvs, Array.getElem?_toList]
    rw [Array.getElem?_eq_getElem (by rw [size_flatK, List.size_toArray, hdl]; exact hj), getElem!_pos _ _ (by rw [size_flatK, List.size_toArray, hdl]; exact hj)]
    rfl
  have hcon := AnyQ.slices_SortFunc laysF6 35 Tryz.isAgg34 Tryz.sizeOf34 encX (fun x => by unfold encX; rw [Array.length_toList, xeC_size _ x.2]) (fun x v hv => xeC_one x.1 v hv) cfX swoX 27 #[] g 0 c d.toArray w (enters_of Tryz.func27 (by kernel_rfl) rfl) (cmpX _ _ _ _) hH (Array.getElem?_eq_some_iff.1 hg2).1 (by rw [List.size_toArray, hdl]; exact hn)
  rw [List.size_toArray, hdl] at hcon
  refine hcon.mono ?_
  rintro e w' ⟨rfl, d', m, os, hp, hso, rfl⟩
  have hps : d'.size = n := by rw [hp.1, List.size_toArray, hdl]
  have hperm : (d'.toList).Perm d := by
    have := hp.2.2
    rw [show d'.extract 0 n = d' from by rw [← hps]; simp, show d.toArray.extract 0 n = d.toArray from by rw [← hdl]; simp] at this
    exact this
  refine ⟨rfl, d'.toList.map (fun x : Xf => x.1), ?_, ?_, ?_, ?_⟩
  · rw [← hdv]; exact hperm.map _
  · rw [List.pairwise_map, List.pairwise_iff_getElem]
    intro i j hi hj hij
    rw [Array.length_toList, hps] at hi hj
    have := hso i j (Nat.zero_le _) hij hj
    rw [ltX, getElem!_pos _ _ (by omega), getElem!_pos _ _ (by omega)] at this
    rw [Array.getElem_toList, Array.getElem_toList]
    exact this
  · have hF : (flatK encX 35 d').toList = xvs (d'.toList.map (fun x : Xf => x.1)) := by
      have := flat_xvs d'.toList
      rwa [Array.toArray_toList] at this
    have hFs : (flatK encX 35 d').size = n * 35 := by rw [size_flatK, hps]
    refine ⟨by rw [← hF, Array.length_toList, hFs], .inr ⟨g, c, _, rfl, hle, heap_sortX _ hg2, hnc, hcm, by simp [putCells, hsz], ?_⟩⟩
    rw [← hF, ← hFs]
    exact take_putX cur _ (by rw [hFs, hsz]; exact Nat.mul_le_mul_right _ hnc)
  · exact below_own (Below.refl _ _) hB (grown_sortX _) hle
/-- Sorting nothing does nothing. -/
def SNone : Prop := ∀ (p : Option Addr) (cap : Nat) (fv : Value) (w : World), Calls Tryz.prog 26 #[.slice p 0 cap, fv] w fun e w' => e = .returned (.tuple #[]) ∧ w' = w
set_option maxRecDepth 100000 in
/-- Entries copied. -/
theorem clone_any (a : Option Addr) (n c : Nat) (l : List Xe) (w : World) (hX : XeL w a l) (hl : l.length = n) (hA : a = none ∨ ∃ g o, a = some ⟨g, o, none⟩) (hn : n ≤ 2000000000) :
    Calls Tryz.prog 25 #[.slice a n c] w fun e w' => ∃ v, e = .returned v ∧ w'.ownsRow w.heap.size 34 35 v n (xvs l) ∧ Below w.heap.size w w' := by
  rcases hA with rfl | ⟨g, o, rfl⟩
  · have h0 : l = [] := by
      cases l with
      | nil => rfl
      | cons e l =>
        obtain ⟨_, g, o, h, _⟩ := hX 0 e rfl
        cases h
    subst h0
    subst hl
    refine (AnyE.slices_Clone_nil laysE41 _ c w).mono ?_
    rintro e w' ⟨rfl, rfl⟩
    exact ⟨_, rfl, ⟨rfl, .inl ⟨rfl, rfl⟩⟩, Below.refl _ _⟩
  · obtain ⟨i0, hi, hz0, hz1, hz2⟩ := info_parts inf_xe
    have hs := hX.ids
    refine (AnyE.slices_Clone laysE41 i0 (.agg z35X) 35 56 hi hz0 hz1 hz2 rfl (by decide) Tryz.sizeOf34 g o n c (xvs l) w (by rw [xvs_len hs, hl]) (by unfold maxLen; omega) (by omega) (fun j u hu => ?_) (xvs_one l)).mono ?_
    · have hj : j < l.length * 35 := by
        have := (List.getElem?_eq_some_iff.1 hu).1
        rwa [xvs_len hs] at this
      have hq : j / 35 < l.length := by omega
      obtain ⟨_, g', o', h, _, hc⟩ := hX (j / 35) (l[j / 35]) (List.getElem?_eq_getElem hq)
      injection h with h
      injection h with h1 h2
      subst h1
      subst h2
      have := xvs_get hs (List.getElem?_eq_getElem hq) (j % 35) (Nat.mod_lt _ (by decide))
      rw [show j / 35 * 35 + j % 35 = j from by omega, hu] at this
      have q := hc (j % 35) u this.symm
      rwa [show o + j / 35 * 35 + j % 35 = o + j from by omega] at q
    · rintro e w' ⟨v, rfl, ho, _, hb⟩
      exact ⟨v, rfl, ho, hb⟩
end Go.Proofs.YtpfknjnigcefgaaGreatDoor
/- A drawn append whose run is known. -/
namespace Go.Proofs.YtpfknjnigcefgaaGreatDoor
open Go.RowKit
set_option linter.unusedSimpArgs false
set_option linter.unusedVariables false
theorem step_app_run {P : Program} {ops : Array Oper} {o : Oper} {a : Act} {w : World} {K : Act → World → Prop} {Q : Exit → Act → World → Prop} {E : Prop} (hgd : o.guard = none) (s x : Operand) (t u : TypeId)
    (ho : o.op = .call { callee := .builtin .append, args := #[s, x], argTypes := #[t, u] }) (v y v' : Value) (w' : World) (hs : a.eval s = v) (hx : a.eval x = y) (hr : (Builtin.append_ #[t, u] o.type #[v, y]).run P w = .ok v' w') (h : K (a.put o.dst v') w') :
    if Region.wanted o (yielded ops a.tmps) = true then Oper.wp P o a w K Q else E := by
  have hw : Region.wanted o (yielded ops a.tmps) = true := by simp [Region.wanted, hgd]
  rw [if_pos hw]
  unfold Oper.wp execOp
  simp only [ho, resolve, invoke, builtin, Sem.run_bind, Sem.run_pure, Result.andThen_ok, List.map_toArray, List.map_cons, List.map_nil, hs, hx, hr]
  exact h
end Go.Proofs.YtpfknjnigcefgaaGreatDoor
/- Rows of the call's own, of two cells an element; a result of a row and a number. No program is named here. -/
namespace Go.Proofs.YtpfknjnigcefgaaGreatDoor
open Go.RowKit
set_option linter.unusedSimpArgs false
set_option linter.unusedVariables false
theorem res_cell_tmp {P : Program} {fn : Func} {p u : Tmp} {ty : TypeId} (h : fn.results = #[.cell p ty, .tmp u]) (tmps : Array Value) (w : World) (g : Nat) (t : TypeId) (cs : Array Value) (fr : Nat × Nat) (d : TypeDesc)
    (hp : tmps.getD p undef = .pointer (some ⟨g, 0, none⟩)) (hg : w.heap[g]? = some (.cells cs t fr))
    (hu : P.underlying ty = some d) (hd : (match d with | .struct _ | .array _ _ => true | _ => false) = true) (hi : (P.info? ty).map (·.size) = some cs.size) :
    (results fn tmps).run P w = .ok (.tuple #[.agg cs, tmps.getD u undef]) w := by
  have hp' : tmps[p]?.getD undef = .pointer (some ⟨g, 0, none⟩) := by simpa using hp
  simp [results, h, hp', asAddr, run_loadVar_row w g t ty cs fr d hg hu hd hi]
theorem rows_low {B B' n k : Nat} {w : World} {v : Value} {xs : List Value} {e : TypeId} (h : w.ownsRow B e k v n xs) (hB : B' ≤ B) : w.ownsRow B' e k v n xs := by
  refine ⟨h.1, ?_⟩
  rcases h.2 with h | ⟨g, cap, cur, h1, h2, h3⟩
  · exact .inl h
  · exact .inr ⟨g, cap, cur, h1, by omega, h3⟩
theorem rows_bel {B B' n k : Nat} {w0 w w' : World} {v : Value} {xs : List Value} {e : TypeId} (hb : Below B w0 w) (hz : B ≤ w.heap.size) (ho : w.ownsRow B' e k v n xs) (hB : B ≤ B') (hg : w.grownBy w' v.ownBlock) : Below B w0 w' := by
  refine hb.grown hg hz (fun b hk => ?_)
  rcases ho.2 with ⟨rfl, _⟩ | ⟨g, cap, cur, rfl, hle, _⟩
  · cases hk
  · simp [Value.ownBlock] at hk; omega
theorem rows_blk {B n k : Nat} {w : World} {v : Value} {xs : List Value} {e : TypeId} (ho : w.ownsRow B e k v n xs) {g : Nat} (hg : v.ownBlock = some g) : B ≤ g ∧ g < w.heap.size := by
  rcases ho.2 with ⟨rfl, _⟩ | ⟨g', cap, cur, rfl, hle, hc, _⟩
  · cases hg
  · simp [Value.ownBlock] at hg; subst hg; exact ⟨hle, (Array.getElem?_eq_some_iff.1 hc).1⟩
theorem rows_keep {B n k : Nat} {w w' : World} {v : Value} {xs : List Value} {e : TypeId} (ho : w.ownsRow B e k v n xs) (h : ∀ g, B ≤ g → g < w.heap.size → w'.heap[g]? = w.heap[g]?) : w'.ownsRow B e k v n xs := by
  refine ⟨ho.1, ?_⟩
  rcases ho.2 with h1 | ⟨g, cap, cur, h1, h2, hc, h3⟩
  · exact .inl h1
  · exact .inr ⟨g, cap, cur, h1, h2, by rw [h g h2 (Array.getElem?_eq_some_iff.1 hc).1]; exact hc, h3⟩
theorem new_two (w : World) (p q : Value) (T : TypeId) : ∀ (j : Nat) (u : Value), [p, q][j]? = some u → (w.alloc (.cells #[p, q] T)).cell? ((⟨w.heap.size, 0, none⟩ : Addr).add j) = some u := by
  intro j u h
  rw [WideShapes.add_plain, Nat.zero_add, World.cell?_alloc_new]
  simpa using h
theorem rows_none {B k : Nat} {w : World} {e : TypeId} : w.ownsRow B e k (.slice none 0 0) 0 [] := ⟨by simp, .inl ⟨rfl, rfl⟩⟩
end Go.Proofs.YtpfknjnigcefgaaGreatDoor
/- The law's own: an entry, a list of entries with a mark behind it. -/
namespace Go.Proofs.YtpfknjnigcefgaaGreatDoor
open Go.RowKit
set_option linter.unusedSimpArgs false
set_option linter.unusedVariables false
set_option maxHeartbeats 4000000 in
set_option maxRecDepth 100000 in
theorem own13 (e : Xe) (w : World) (h : e.id.size = 32) : Calls Tryz.prog 23 #[.agg (xeC e)] w fun r w' => r = .returned (.agg (xeC e)) ∧ Below w.heap.size w w' := by
  obtain ⟨X, hX⟩ : ∃ X, xeC e = X := ⟨_, rfl⟩
  obtain ⟨D, hD⟩ : ∃ D, idc e.id = D := ⟨_, rfl⟩
  obtain ⟨k1, k2, k3⟩ := xeC_at e h
  have HBD := build_xe e h
  rw [hD, hX] at HBD
  rw [hX] at k1 k2 k3 ⊢
  have HIX : Hid ((Tryz.prog.info? 34).map (·.size) = some X.size ∧ X.all (·.oneCell') = true ∧ X.size = 35) := by rw [← hX]; exact ⟨info_xe (xeC_size e h), xeC_all e, xeC_size e h⟩
  have HXI : Hid (∀ j v, D[j]? = some v → X[0 + j]? = some v) := fun j v hv => by rw [← hX]; exact xeC_id e h j v (by rw [hD]; exact hv)
  have HID : Hid ((Tryz.prog.info? 23).map (·.size) = some D.size) := info_32 (by rw [← hD, idc_size, h])
  have hz : ∀ w, (zeroValue 34).run Tryz.prog w = .ok (.agg z35X) w := Tryz.zeroValue34
  have b1 := (bk_new w X 56).alloc (.cells z35X 34)
  have b2 := bk_new (w.alloc (.cells X 56)) z35X 34
  rw [al_size] at b2
  have c1 : ((w.alloc (.cells X 56)).alloc (.cells z35X 34)).cell? ⟨w.heap.size, 32, none⟩ = some (.int .u8 (e.k.toNat : Int)) := by rw [b1.cell]; exact k1
  have c2 : ((w.alloc (.cells X 56)).alloc (.cells z35X 34)).cell? ⟨w.heap.size, 33, none⟩ = some (.int .i64 e.off) := by rw [b1.cell]; exact k2
  have c3 : ((w.alloc (.cells X 56)).alloc (.cells z35X 34)).cell? ⟨w.heap.size, 34, none⟩ = some (.int .i64 e.sz) := by rw [b1.cell]; exact k3
  have HB : Hid (Bk ((w.alloc (.cells X 56)).alloc (.cells z35X 34)) w.heap.size X 56 ∧ Bk ((w.alloc (.cells X 56)).alloc (.cells z35X 34)) (w.heap.size + 1) z35X 34 ∧ Below w.heap.size w ((w.alloc (.cells X 56)).alloc (.cells z35X 34))) := ⟨b1, b2, ((Below.refl _ _).alloc (Nat.le_refl _) _).alloc (by rw [al_size]; omega) _⟩
  have HBD2 : Hid (∀ (w : World), (Instr.build 34 #[(0, .agg D), (1, .int .u8 (e.k.toNat : Int)), (2, .int .i64 e.off), (3, .int .i64 e.sz)]).run Tryz.prog w = .ok (.agg X) w) := HBD
  obtain ⟨ek, hek⟩ : ∃ ek, (e.k.toNat : Int) = ek := ⟨_, rfl⟩
  obtain ⟨eo, heo⟩ : ∃ eo, e.off = eo := ⟨_, rfl⟩
  obtain ⟨es, hes⟩ : ∃ es, e.sz = es := ⟨_, rfl⟩
  rw [hek, heo, hes] at HBD2
  rw [hek] at c1
  rw [heo] at c2
  rw [hes] at c3
  clear b1 b2 HBD k1 k2 k3 hX hD h hek heo hes
  go_enter Tryz.func23, Tryz.ntmps23
  go_wp2_with (first
    | (refine wpList_get rfl 23 (.tmp 3) rfl w.heap.size 0 X D 56 _ rfl HB.out.1 HXI.out Tryz.underlying23 rfl HID.out ?_)
    | (refine wpList_bdX4 rfl 34 (.tmp 4) (.tmp 6) (.tmp 8) (.tmp 10) rfl (.agg D) (.int .u8 ek) (.int .i64 eo) (.int .i64 es) (.agg X) rfl rfl rfl rfl (HBD2.out _) ?_)
    | (refine wpList_stoX rfl 34 (.tmp 2) (.tmp 11) rfl (w.heap.size + 1) X z35X 34 rfl rfl HB.out.2.1 HIX.out.1 (by rw [HIX.out.2.2]; rfl) HIX.out.2.1 ?_; intro w7 HB7 HG7)
    | fail)
  refine bodyPost_ret (results_cell_row rfl _ _ (w.heap.size + 1) 34 X (0, 0) _ rfl HB7.out Tryz.underlying34 rfl HIX.out.1) rfl ⟨rfl, ?_⟩
  exact below_own HB.out.2.2 HB.out.2.2.size HG7.out (by omega)
/-- One entry is appended to a row of the call's own. -/
theorem xe_app {B : Nat} {w : World} {l : List Xe} {v : Value} (h : w.ownsRow B 34 35 v l.length (xvs l)) (hB : B ≤ w.heap.size) (e : Xe) (hs : e.id.size = 32) (hn : (l.length + 1) * 56 ≤ 140737488355328) :
    ∃ g cp w7, (Builtin.append_ #[25, 25] 25 #[v, .slice (some ⟨w.heap.size, 0, none⟩) 1 1]).run Tryz.prog (w.alloc (.cells (xeC e) 34)) = .ok (.slice (some ⟨g, 0, none⟩) (l.length + 1) cp) w7 ∧
      w7.ownsRow B 34 35 (.slice (some ⟨g, 0, none⟩) (l.length + 1) cp) (l.length + 1) (xvs (l ++ [e])) ∧ l.length + 1 ≤ cp ∧ (w.alloc (.cells (xeC e) 34)).grownBy w7 v.ownBlock := by
  obtain ⟨i0, hi, hz0, hz1, hz2⟩ := info_parts inf_xe
  obtain ⟨v', w7, hrun, hown, hgrow, _, hat⟩ := run_append_own_at (P := Tryz.prog) (w := w.alloc (.cells (xeC e) 34)) B 25 25 34 i0 (.agg z35X) 35 56 Tryz.underlying25 hi hz0 hz1 hz2 rfl (by decide) v l.length (xvs l) (h.alloc _) ⟨w.heap.size, 0, none⟩ 1 1 (xeC e).toList (by rw [Array.length_toList, xeC_size e hs])
    (fun j u hu => by
      rw [WideShapes.add_plain, (bk_new w (xeC e) 34).cell, Nat.zero_add]
      rwa [Array.getElem?_toList] at hu) (xeC_one e) (by unfold maxLen; omega) (by omega) (by rw [al_size]; omega)
  have ho : w7.ownsRow B 34 35 v' (l.length + 1) (xvs (l ++ [e])) := by rw [xvs_snoc]; exact hown
  obtain ⟨g, cp, hv, hcp⟩ : ∃ g cp, v' = .slice (some ⟨g, 0, none⟩) (l.length + 1) cp ∧ l.length + 1 ≤ cp := by
    rcases ho.2 with ⟨_, h0⟩ | ⟨g7, c7, cur, h1, _, _, h2, _⟩
    · omega
    · exact ⟨g7, c7, h1, h2⟩
  subst hv
  exact ⟨g, cp, w7, hrun, ho, hcp, hgrow⟩
theorem grn_keepX {w w' : World} (h : Below w.heap.size w w') : w.grownBy w' none := ⟨h.os, h.tape, h.output, h.size, fun k hk _ => h.block k hk⟩
/-- The mark. -/
def mkX : Xe := ⟨⟨(List.replicate 32 (0 : UInt8)).toArray⟩, 77, 0, 0⟩
theorem mkX_id : mkX.id.size = 32 := by decide
structure OwX (w0 : World) (l : List Xe) (v : Value) (w : World) : Prop where
  ow : w.ownsRow w0.heap.size 34 35 v l.length (xvs l)
  ids : ∀ e ∈ l, e.id.size = 32
  bel : Below w0.heap.size w0 w
theorem OwX.next {w0 w w' : World} {l : List Xe} {v : Value} (h : OwX w0 l v w) (hb : Below w.heap.size w w') : OwX w0 l v w' :=
  ⟨rows_keep h.ow (fun g _ hg => hb.block g hg), h.ids, h.bel.trans (hb.mono h.bel.size)⟩
theorem OwX.app {w0 w : World} {l : List Xe} {v : Value} (h : OwX w0 l v w) (e : Xe) (hs : e.id.size = 32) (hn : (l.length + 1) * 56 ≤ 140737488355328) :
    ∃ g cp w7, (Builtin.append_ #[25, 25] 25 #[v, .slice (some ⟨w.heap.size, 0, none⟩) 1 1]).run Tryz.prog (w.alloc (.cells (xeC e) 34)) = .ok (.slice (some ⟨g, 0, none⟩) (l.length + 1) cp) w7 ∧
      OwX w0 (l ++ [e]) (.slice (some ⟨g, 0, none⟩) (l.length + 1) cp) w7 ∧ l.length + 1 ≤ cp := by
  obtain ⟨g, cp, w7, h1, h2, h3, h4⟩ := xe_app h.ow h.bel.size e hs hn
  refine ⟨g, cp, w7, h1, ⟨by rw [List.length_append]; exact h2, ?_, ?_⟩, h3⟩
  · intro x hx
    rcases List.mem_append.1 hx with hx | hx
    · exact h.ids x hx
    · rw [List.mem_singleton.1 hx]; exact hs
  · exact rows_bel (h.bel.alloc h.bel.size _) (by rw [al_size]; have := h.bel.size; omega) (h.ow.alloc _) (Nat.le_refl _) h4
set_option maxHeartbeats 4000000 in
set_option maxRecDepth 100000 in
theorem owns13 (l : List Xe) (ad : Option Addr) (n c : Nat) (w : World) (hX : XeL w ad l) (hl : l.length = n) (hn : (n + 1) * 56 ≤ 140737488355328) :
    Calls Tryz.prog 5 #[.slice ad n c] w fun e w' => ∃ g cp, e = .returned (.slice (some ⟨g, 0, none⟩) n cp) ∧ w'.ownsRow w.heap.size 34 35 (.slice (some ⟨g, 0, none⟩) (n + 1) cp) (n + 1) (xvs (l ++ [mkX])) ∧ n + 1 ≤ cp ∧ Below w.heap.size w w' := by
  have HO : Hid (XeL w ad l) := hX
  have HL : Hid (l.length = n) := hl
  clear hX hl
  go_enter Tryz.func5, Tryz.ntmps5
  go_wp2
  go_loopw [3, 4] (fun m v wr => ∃ (k : Nat) (u : Value), m = u ∧ v = .int .i64 k ∧ k ≤ n ∧ Hid (OwX w (l.take k) u wr)) (fun m v _ => n - (intOf v).toNat)
  case atStart => exact ⟨0, _, rfl, rfl, Nat.zero_le _, rows_none, (fun e he => by simp at he), Below.refl _ _⟩
  case round =>
    obtain ⟨k, u, rfl, rfl, hk, OR⟩ := hrel
    have htk : (l.take k).length = k := by rw [List.length_take, HL.out]; omega
    by_cases hlt : k < n
    · have hkz : (k : Int) < (n : Nat) := by omega
      obtain ⟨e, he⟩ : ∃ e, l[k]? = some e := ⟨l[k]'(by rw [HL.out]; exact hlt), List.getElem?_eq_getElem _⟩
      obtain ⟨ga, oa, rfl, hga, h32, hcells⟩ := (HO.out.below OR.out.bel).get he
      have HT : Hid (l.take (k + 1) = l.take k ++ [e]) := take_snocX he
      obtain ⟨X, hXe⟩ : ∃ X, xeC e = X := ⟨_, rfl⟩
      have HI : Hid ((Tryz.prog.info? 56).map (·.size) = some X.toList.length) := by rw [← hXe, Array.length_toList, xeC_size e h32]; show _ = _; kernel_rfl
      have HCE : Hid (∀ j v, X[j]? = some v → wr.cell? ⟨ga, oa + k * 35 + j, none⟩ = some v) := by rw [← hXe]; exact hcells
      have HOW : Hid (Calls Tryz.prog 23 #[.agg X] wr fun r w' => r = .returned (.agg X) ∧ Below wr.heap.size wr w') := by rw [← hXe]; exact own13 e wr h32
      have HSL : Hid (∀ w, (Instr.buildSlice 25 1 #[(0, .agg X)]).run Tryz.prog w = .ok (.slice (some ⟨w.heap.size, 0, none⟩) 1 1) (w.alloc (.cells X 34))) := by rw [← hXe]; exact slice_xe e h32
      have HAP : Hid (∀ W, OwX w (l.take k) u3 W → ∃ g cp w7, (Builtin.append_ #[25, 25] 25 #[u3, .slice (some ⟨W.heap.size, 0, none⟩) 1 1]).run Tryz.prog (W.alloc (.cells X 34)) = .ok (.slice (some ⟨g, 0, none⟩) (k + 1) cp) w7 ∧ OwX w (l.take (k + 1)) (.slice (some ⟨g, 0, none⟩) (k + 1) cp) w7) := fun W hW => by
        obtain ⟨g, cp, w7, q1, q2, q3⟩ := hW.app e h32 (by rw [htk]; omega)
        rw [htk, hXe] at q1
        rw [htk, ← HT.out] at q2
        exact ⟨g, cp, w7, q1, q2⟩
      clear hcells hXe h32 he htk
      go_wp2_with (first
        | (go_at_call 23; refine HOW.out.mono ?_; rintro r w2 ⟨rfl, hb2⟩; have OR2 : Hid (OwX w (l.take k) u3 w2) := OR.out.next hb2; obtain ⟨g7, cp7, w7, hrun, hO7⟩ := HAP.out w2 OR2.out; have O7 : Hid (OwX w (l.take (k + 1)) (.slice (some ⟨g7, 0, none⟩) (k + 1) cp7) w7) := hO7; clear hO7 hb2)
        | (refine wpList_load_mid rfl 56 (.tmp 14) rfl ga (oa + k * 35) rfl X.toList _ (fun j v hv => HCE.out j v (by rwa [Array.getElem?_toList] at hv)) Tryz.underlying56 rfl HI.out ?_)
        | (refine wpList_bsX rfl 25 (.tmp 16) rfl (.agg X) (.slice (some ⟨w2.heap.size, 0, none⟩) 1 1) (w2.alloc (.cells X 34)) rfl (HSL.out _) ?_)
        | (refine wpList_appX rfl (.tmp 11) (.tmp 17) 25 25 rfl u3 (.slice (some ⟨w2.heap.size, 0, none⟩) 1 1) (.slice (some ⟨g7, 0, none⟩) (k + 1) cp7) w7 rfl rfl hrun ?_)
        | fail)
      clear hrun
      go_wp2
      go_roundw
      case rel => exact ⟨k + 1, _, rfl, by go_num, by omega, O7.out⟩
      case measure => simp [intOf]; omega
    · have hkz : ¬ (k : Int) < (n : Nat) := by omega
      obtain rfl : k = n := by omega
      have hxs : l.take k = l := List.take_of_length_le (by rw [HL.out]; omega)
      rw [hxs] at OR htk
      obtain ⟨g7, cp7, w7, hrun, hO7, hcp⟩ := OR.out.app mkX mkX_id (by rw [htk]; omega)
      rw [htk] at hrun hO7 hcp
      have O7 : Hid (OwX w (l ++ [mkX]) (.slice (some ⟨g7, 0, none⟩) (k + 1) cp7) w7) := hO7
      have hmkc : ∀ w, (Instr.build 34 #[(1, .int .u8 77)]).run Tryz.prog w = .ok (.agg (xeC mkX)) w := fun w => by kernel_rfl
      obtain ⟨X, hXe⟩ : ∃ X, xeC mkX = X := ⟨_, rfl⟩
      have HSL : Hid (∀ w, (Instr.buildSlice 25 1 #[(0, .agg X)]).run Tryz.prog w = .ok (.slice (some ⟨w.heap.size, 0, none⟩) 1 1) (w.alloc (.cells X 34))) := by rw [← hXe]; exact slice_xe mkX mkX_id
      rw [hXe] at hrun hmkc
      have hcz : (k : Int) ≤ (cp7 : Nat) := by omega
      clear hO7 hxs
      go_wp2_with (first
        | (refine wpList_bdX1 rfl 34 1 (.const (.int .u8 77)) rfl (.int .u8 77) (.agg X) rfl (hmkc _) ?_)
        | (refine wpList_bsX rfl 25 (.tmp 20) rfl (.agg X) (.slice (some ⟨wr.heap.size, 0, none⟩) 1 1) (wr.alloc (.cells X 34)) rfl (HSL.out _) ?_)
        | (refine wpList_appX rfl (.tmp 19) (.tmp 21) 25 25 rfl u3 (.slice (some ⟨wr.heap.size, 0, none⟩) 1 1) (.slice (some ⟨g7, 0, none⟩) (k + 1) cp7) w7 rfl rfl hrun ?_)
        | fail)
      go_ret
      refine ⟨g7, cp7, rfl, ?_, hcp, O7.out.bel⟩
      have := O7.out.ow
      rw [List.length_append, List.length_singleton, HL.out] at this
      exact this
end Go.Proofs.YtpfknjnigcefgaaGreatDoor
/- The document's entries appended. -/
namespace Go.Proofs.YtpfknjnigcefgaaGreatDoor
open Go.RowKit
set_option linter.unusedSimpArgs false
set_option linter.unusedVariables false
theorem inf_xr : (Tryz.prog.info? 56).map (fun i => (i.zero, i.size, i.bytes)) = some (some (.agg z35X), 35, 56) := by kernel_rfl
theorem inf_xr35 : (Tryz.prog.info? 56).map (·.size) = some 35 := by kernel_rfl
set_option maxRecDepth 100000 in
theorem slice_xr (e : Xe) (h : e.id.size = 32) (w : World) : (Instr.buildSlice 24 1 #[(0, .agg (xeC e))]).run Tryz.prog w = .ok (.slice (some ⟨w.heap.size, 0, none⟩) 1 1) (w.alloc (.cells (xeC e) 56)) := by
  obtain ⟨i0, hi, hz0, hz1, hz2⟩ := info_parts inf_xr
  refine run_buildSlice w _ 56 1 _ _ i0 (.agg z35X) Tryz.underlying24 hi hz0 (by rw [hz1]; decide) (by rw [hz1]; decide) ?_
  obtain ⟨a0, a1, a2, a3, a4, a5, a6, a7, a8, a9, a10, a11, a12, a13, a14, a15, a16, a17, a18, a19, a20, a21, a22, a23, a24, a25, a26, a27, a28, a29, a30, a31, hl⟩ := list32X (idc e.id).toList (by rw [Array.length_toList, idc_size, h])
  have e2 : xeC e = #[a0, a1, a2, a3, a4, a5, a6, a7, a8, a9, a10, a11, a12, a13, a14, a15, a16, a17, a18, a19, a20, a21, a22, a23, a24, a25, a26, a27, a28, a29, a30, a31, .int .u8 (e.k.toNat : Int), .int .i64 e.off, .int .i64 e.sz] := by rw [xeC, hl]; rfl
  rw [e2, hz1]
  exact fill35X _ _ _ _ _ _ _ _ _ _ _ _ _ _ _ _ _ _ _ _ _ _ _ _ _ _ _ _ _ _ _ _ _ _ _

/-- The cells of entries of a slice. -/
theorem XeL.src {w : World} {ad : Addr} {m : List Xe} (h : XeL w (some ad) m) : ∀ j u, (xvs m)[j]? = some u → w.cell? (ad.add j) = some u := by
  intro j u hu
  have hids : ∀ e ∈ m, e.id.size = 32 := h.ids
  have hj : j < m.length * 35 := by rw [← xvs_len hids]; exact (List.getElem?_eq_some_iff.1 hu).1
  obtain ⟨e, he⟩ : ∃ e, m[j / 35]? = some e := ⟨_, List.getElem?_eq_getElem (by omega)⟩
  have hx := xvs_get hids he (j % 35) (by omega)
  rw [show j / 35 * 35 + j % 35 = j by omega, hu] at hx
  obtain ⟨_, g', o', q1, q2, q3⟩ := h _ _ he
  injection q1 with q1
  subst q1
  have := q3 (j % 35) u hx.symm
  rw [WideShapes.add_plain]
  rw [show o' + j = o' + j / 35 * 35 + j % 35 by omega]
  exact this
/-- Some entries are appended to a row of the call's own. -/
theorem rapp {B : Nat} {w : World} {l m : List Xe} {v : Value} (h : w.ownsRow B 56 35 v l.length (xvs l)) (hB : B ≤ w.heap.size) (hi : ∀ e ∈ l, e.id.size = 32) (ad : Addr) (c : Nat) (hm : XeL w (some ad) m) (hn : (l.length + m.length) * 56 ≤ 140737488355328) :
    ∃ a cp w7, (Builtin.append_ #[24, 24] 24 #[v, .slice (some ad) m.length c]).run Tryz.prog w = .ok (.slice a (l.length + m.length) cp) w7 ∧
      w7.ownsRow B 56 35 (.slice a (l.length + m.length) cp) (l.length + m.length) (xvs (l ++ m)) ∧ w.grownBy w7 v.ownBlock ∧ l.length + m.length ≤ cp ∧ (v ≠ .slice none 0 0 → ∃ g, a = some ⟨g, 0, none⟩) := by
  obtain ⟨i0, hi0, hz0, hz1, hz2⟩ := info_parts inf_xr
  obtain ⟨v', w7, hrun, hown, hgrow, hnil, hat⟩ := run_append_own_at (P := Tryz.prog) (w := w) B 24 24 56 i0 (.agg z35X) 35 56 Tryz.underlying24 hi0 hz0 hz1 hz2 rfl (by decide) v l.length (xvs l) h ad m.length c (xvs m)
    (by rw [xvs_len hm.ids]) hm.src (xvs_one m) (by unfold maxLen; omega) hn hB
  have ho : w7.ownsRow B 56 35 v' (l.length + m.length) (xvs (l ++ m)) := by
    have e : xvs (l ++ m) = xvs l ++ xvs m := by simp [xvs]
    rw [e]; exact hown
  rcases ho.2 with ⟨h1, h0⟩ | ⟨g, cap, cur, h1, _, _, h2, _⟩
  · subst h1
    refine ⟨none, 0, w7, by rw [hrun, h0], by rw [h0] at ho ⊢; exact ho, hgrow, by omega, fun q => absurd (hnil.1 rfl).1 q⟩
  · subst h1
    exact ⟨_, cap, w7, hrun, ho, hgrow, h2, fun _ => ⟨g, rfl⟩⟩
end Go.Proofs.YtpfknjnigcefgaaGreatDoor
