import Derived.Test.YtbdkacfpeokggaaGreatDoorY16
import Derived.Test.YtbdkacfpeokggaaGreatDoorY17
import Derived.Test.YtbdkacfpeokggaaGreatDoorY14
import Derived.Test.YtbdkacfpeokggaaGreatDoorY9
import Derived.BigQuiet
import Derived.Deep.Cut
import Derived.Deep.CutRange
import Derived.Deep.DeepCutAuto
/- The law's own: awake. -/
namespace Go.Proofs.YtbdkacfpeokggaaGreatDoor
open Go.RowKit
set_option linter.unusedSimpArgs false
set_option linter.unusedVariables false
/-- A name of one byte and noughts. -/
def tid (t : UInt8) : ByteArray := ⟨(t :: List.replicate 31 (0 : UInt8)).toArray⟩
theorem tid_size (t : UInt8) : (tid t).size = 32 := rfl
theorem idc_tid (t : UInt8) : idc (tid t) = #[.int .u8 (t.toNat : Int), .int .u8 0, .int .u8 0, .int .u8 0, .int .u8 0, .int .u8 0, .int .u8 0, .int .u8 0, .int .u8 0, .int .u8 0, .int .u8 0, .int .u8 0, .int .u8 0, .int .u8 0, .int .u8 0, .int .u8 0, .int .u8 0, .int .u8 0, .int .u8 0, .int .u8 0, .int .u8 0, .int .u8 0, .int .u8 0, .int .u8 0, .int .u8 0, .int .u8 0, .int .u8 0, .int .u8 0, .int .u8 0, .int .u8 0, .int .u8 0, .int .u8 0] := rfl
theorem built_tid (n : Int) : Tryz.prog.built 23 [(0, .int .u8 n)] = some #[.int .u8 n, .int .u8 0, .int .u8 0, .int .u8 0, .int .u8 0, .int .u8 0, .int .u8 0, .int .u8 0, .int .u8 0, .int .u8 0, .int .u8 0, .int .u8 0, .int .u8 0, .int .u8 0, .int .u8 0, .int .u8 0, .int .u8 0, .int .u8 0, .int .u8 0, .int .u8 0, .int .u8 0, .int .u8 0, .int .u8 0, .int .u8 0, .int .u8 0, .int .u8 0, .int .u8 0, .int .u8 0, .int .u8 0, .int .u8 0, .int .u8 0, .int .u8 0] := by kernel_rfl
theorem build_tid (t : UInt8) (w : World) : (Instr.build 23 #[(0, .int .u8 (t.toNat : Int))]).run Tryz.prog w = .ok (.agg (idc (tid t))) w := by
  rw [idc_tid]
  exact run_build w _ _ _ (built_tid _)
/-- Built, and opened. -/
theorem BdX.ix {s : ByteArray} {l : List Xe} {R : ByteArray} (h : BdX s l R) (hs : s.size = 32) (h0 : bE l = 0) : ∃ L, L.Perm l ∧ IsIx R s L := by
  obtain ⟨L, h1, h2, h3⟩ := h.2 h0
  exact ⟨L, h1, hs, h2, by rw [h3]; rfl⟩
theorem IsIx.one {R s s' : ByteArray} {l l' : List Xe} (h : IsIx R s l) (h' : IsIx R s' l') : s = s' ∧ l = l' := by
  have h1 := h.take
  have h2 := h'.take
  exact ⟨h1.1.symm.trans h2.1, h1.2.symm.trans h2.2⟩
theorem OpS.yes {S s : ByteArray} {l : List Xe} {e : Ending} {w : World} (h : OpS S e w) (hi : IsIx S s l) : ∃ g, e = .returned (.tuple #[.pointer (some ⟨g, 0, none⟩), .int .i64 0]) ∧ IxS w g s l := by
  rcases h with ⟨_, h2⟩ | ⟨g, s', l', h1, h2, h3⟩
  · exact absurd hi (h2 s l)
  · obtain ⟨rfl, rfl⟩ := hi.one h2
    exact ⟨g, h1, h3⟩
/-- Awake's entry. -/
def awX : Xe := ⟨tid 7, 1, 4, 2⟩
theorem awX_gd : GdX [awX] := ⟨fun e he => by rw [List.mem_singleton.1 he]; decide, by simp [Aprt], by simp⟩
theorem awX_list {L : List Xe} (h : L.Perm [awX]) : L = [awX] := List.perm_singleton.1 h
theorem build_awX (w : World) : (Instr.build 34 #[(0, .agg (idc (tid 7))), (1, .int .u8 1), (2, .int .i64 4), (3, .int .i64 2)]).run Tryz.prog w = .ok (.agg (xeC awX)) w := build_xe awX rfl w
theorem isIx_le {S s : ByteArray} {l : List Xe} (h : IsIx S s l) : S.size ≤ 4611686018427387904 := by have := isIx_size h; omega
set_option maxHeartbeats 4000000 in
set_option maxRecDepth 100000 in
theorem awake13 (w : World) : Calls Tryz.prog 12 #[] w fun e w' => e = .returned (.bool true) ∧ Below w.heap.size w w' := by
  obtain ⟨D7, hD7⟩ : ∃ D, idc (tid 7) = D := ⟨_, rfl⟩
  obtain ⟨D1, hD1⟩ : ∃ D, idc (tid 1) = D := ⟨_, rfl⟩
  obtain ⟨X, hX⟩ : ∃ X, xeC awX = X := ⟨_, rfl⟩
  have e1 : ∀ w, (Instr.build 23 #[(0, .int .u8 7)]).run Tryz.prog w = .ok (.agg D7) w := fun w => by rw [← hD7]; exact build_tid 7 w
  have e2 : ∀ w, (Instr.build 23 #[(0, .int .u8 1)]).run Tryz.prog w = .ok (.agg D1) w := fun w => by rw [← hD1]; exact build_tid 1 w
  have e3 : ∀ w, (Instr.build 34 #[(0, .agg D7), (1, .int .u8 1), (2, .int .i64 4), (3, .int .i64 2)]).run Tryz.prog w = .ok (.agg X) w := fun w => by rw [← hD7, ← hX]; exact build_awX w
  have HSL : Hid (∀ w, (Instr.buildSlice 25 1 #[(0, .agg X)]).run Tryz.prog w = .ok (.slice (some ⟨w.heap.size, 0, none⟩) 1 1) (w.alloc (.cells X 34))) := by rw [← hX]; exact slice_xe awX rfl
  have HI : Hid ((Tryz.prog.info? 23).map (·.size) = some D7.size ∧ D7.all (·.oneCell') = true ∧ D7.size = 32) := by rw [← hD7]; exact ⟨info_32 (by rw [idc_size, tid_size]), idc_allX _, by rw [idc_size, tid_size]⟩
  have HIX : Hid ((Tryz.prog.info? 34).map (·.size) = some X.size ∧ X.all (·.oneCell') = true ∧ X.size = 35) := by rw [← hX]; exact ⟨info_xe (xeC_size awX rfl), xeC_all _, xeC_size awX rfl⟩
  have HBD : Hid (∀ W : World, Calls Tryz.prog 7 #[.agg D1, .slice (some ⟨W.heap.size, 0, none⟩) 1 1] (W.alloc (.cells X 34)) fun e w' => ∃ R, e = .returned (.tuple #[.string R, .int .i64 0]) ∧ IsIx R (tid 1) [awX] ∧ Below W.heap.size W w') := fun W => by
    rw [← hD1, ← hX]
    have hxl : XeL (W.alloc (.cells (xeC awX) 34)) (some ⟨W.heap.size, 0, none⟩) [awX] := fun i e he => by
      have hb := bk_new W (xeC awX) 34
      have hi : i = 0 := by have := (List.getElem?_eq_some_iff.1 he).1; simp at this; exact this
      subst hi
      simp at he
      subst he
      exact ⟨rfl, W.heap.size, 0, rfl, hb.lt, fun j v hv => by rw [hb.cell]; simpa using hv⟩
    refine (ibuild_any sort_none (tid 1) [awX] _ 1 1 _ (tid_size 1) hxl rfl (.inr ⟨_, _, rfl⟩) (by omega)).mono ?_
    rintro e w' ⟨R, h1, h2, h3⟩
    obtain ⟨L, h4, h5⟩ := h2.ix (tid_size 1) awX_gd.bE
    rw [awX_list h4] at h5
    refine ⟨R, by rw [h1, awX_gd.bE], h5, ((Below.refl _ _).alloc (Nat.le_refl _) _).trans (h3.mono (by rw [al_size]; omega))⟩
  have HFD : Hid (∀ (g : Nat) (W : World), IxS W g (tid 1) [awX] → Calls Tryz.prog 27 #[.pointer (some ⟨g, 0, none⟩), .agg D7] W fun r w' => r = .returned (.tuple #[.agg X, .int .i64 0]) ∧ Below W.heap.size W w') := fun g W hW => by
    have hf : fnd [awX] (tid 7) = some awX := fnd_mem (l := [awX]) (e := awX) (by simp [Aprt]) List.mem_cons_self
    have := find_any g (tid 1) (tid 7) [awX] W hW (by simp [Rise]) rfl (by simp)
    rw [hf, hD7] at this
    rw [← hX]
    exact this
  have HX33 : Hid (X[33]? = some (.int .i64 4)) := by rw [← hX]; exact (xeC_at awX rfl).2.1
  have hz := zero_id
  have B0 : Hid (Bk (w.alloc (.cells D7 23)) w.heap.size D7 23 ∧ Below w.heap.size w (w.alloc (.cells D7 23))) := ⟨bk_new _ _ _, (Below.refl _ _).alloc (Nat.le_refl _) _⟩
  clear hD7 hD1 hX
  go_enter Tryz.func12, Tryz.ntmps12
  go_wp2_with (first
    | (refine wpList_bdX1 rfl 23 0 (.const (.int .u8 7)) rfl (.int .u8 7) (.agg D7) rfl (e1 _) ?_)
    | (refine wpList_bdX1 rfl 23 0 (.const (.int .u8 1)) rfl (.int .u8 1) (.agg D1) rfl (e2 _) ?_)
    | (refine wpList_store_new rfl 23 (.tmp 1) (.tmp 8) rfl D7 _ 23 w.heap.size rfl rfl rfl HI.out.1 (by rw [HI.out.2.2]; rfl) HI.out.2.1 ?_)
    | (refine wpList_get rfl 23 (.tmp 1) rfl w.heap.size 0 D7 D7 23 _ rfl B0.out.1 (fun j v hv => by rw [Nat.zero_add]; exact hv) Tryz.underlying23 rfl HI.out.1 ?_)
    | (refine wpList_bdX4 rfl 34 (.tmp 11) (.const (.int .u8 1)) (.const (.int .i64 4)) (.const (.int .i64 2)) rfl (.agg D7) (.int .u8 1) (.int .i64 4) (.int .i64 2) (.agg X) rfl rfl rfl rfl (e3 _) ?_)
    | (refine wpList_bsX rfl 25 (.tmp 12) rfl (.agg X) (.slice (some ⟨(w.alloc (.cells D7 23)).heap.size, 0, none⟩) 1 1) ((w.alloc (.cells D7 23)).alloc (.cells X 34)) rfl (HSL.out _) ?_)
    | fail)
  have HB2 := HBD.out (w.alloc (.cells D7 23))
  rw [al_size] at HB2
  refine HB2.mono ?_
  rintro e w2 ⟨R, rfl, hI, hb2⟩
  have hb2' : Below (w.alloc (.cells D7 23)).heap.size (w.alloc (.cells D7 23)) w2 := by rw [al_size]; exact hb2
  have H2 : Hid (Bk w2 w.heap.size D7 23 ∧ Below w.heap.size w w2 ∧ IsIx R (tid 1) [awX]) := ⟨B0.out.1.below hb2' B0.out.1.lt, B0.out.2.trans (hb2'.mono B0.out.2.size), hI⟩
  clear HB2 hI hb2 hb2' HBD B0
  go_wp2_with fail
  refine (open_any R w2 (isIx_le H2.out.2.2)).mono ?_
  rintro e w3 ⟨hO, hb3⟩
  obtain ⟨g, rfl, hI3⟩ := hO.yes H2.out.2.2
  have H3 : Hid (Bk w3 w.heap.size D7 23 ∧ Below w.heap.size w w3 ∧ IxS w3 g (tid 1) [awX]) := ⟨H2.out.1.below hb3 H2.out.1.lt, H2.out.2.1.trans (hb3.mono H2.out.2.1.size), hI3⟩
  clear hO hb3 hI3 H2
  go_wp2_with (first
    | (refine wpList_get rfl 23 (.tmp 1) rfl w.heap.size 0 D7 D7 23 _ rfl H3.out.1 (fun j v hv => by rw [Nat.zero_add]; exact hv) Tryz.underlying23 rfl HI.out.1 ?_)
    | fail)
  refine (HFD.out g w3 H3.out.2.2).mono ?_
  rintro e w4 ⟨rfl, hb4⟩
  have H4 : Hid (Below w.heap.size w (w4.alloc (.cells X 34)) ∧ IxS (w4.alloc (.cells X 34)) g (tid 1) [awX]) := by
    have q := (Below.refl w4.heap.size w4).alloc (Nat.le_refl _) (.cells X 34)
    have q2 := H3.out.2.1.trans (hb4.mono H3.out.2.1.size)
    exact ⟨q2.trans (q.mono q2.size), (H3.out.2.2.below hb4).below q⟩
  have hc : (w4.alloc (.cells X 34)).cell? ⟨w4.heap.size, 33, none⟩ = some (.int .i64 4) := by rw [(bk_new w4 X 34).cell]; exact HX33.out
  clear hb4 H3 HX33
  go_wp2_with (first
    | (refine wpList_store_new rfl 34 (.tmp 6) (.tmp 26) rfl X _ 34 w4.heap.size rfl rfl rfl HIX.out.1 (by rw [HIX.out.2.2]; rfl) HIX.out.2.1 ?_)
    | (go_at_call 22; refine (ilen_any g (tid 1) [awX] _ H4.out.2).mono ?_; rintro e w5 ⟨rfl, hw5⟩; obtain rfl := hw5.symm)
    | fail)
  go_ret
  exact ⟨rfl, H4.out.1⟩
end Go.Proofs.YtbdkacfpeokggaaGreatDoor
/- strings.Builder: Len. -/
namespace Go.Proofs.YtbdkacfpeokggaaGreatDoor
open Go.RowKit
set_option linter.unusedSimpArgs false
set_option linter.unusedVariables false
set_option maxHeartbeats 400000 in
theorem lenS (B b : Nat) (l : List UInt8) (w : World) (h : Bld B b l w) : Calls Tryz.prog 63 #[.pointer (some ⟨b, 0, none⟩)] w fun e w' => e = .returned (.int .i64 l.length) ∧ w' = w := by
  obtain ⟨p, a, c, hB⟩ := bld_cells h
  have c1 : w.cell? ⟨b, 1, none⟩ = some (.slice a l.length c) := by rw [hB.cell]; rfl
  clear hB h
  generalize l.length = n at c1 ⊢
  go_enter Tryz.func63, Tryz.ntmps63
  go_wp2
  go_ret
  exact ⟨rfl, rfl⟩
end Go.Proofs.YtbdkacfpeokggaaGreatDoor
/- pack.Build. -/
namespace Go.Proofs.YtbdkacfpeokggaaGreatDoor
open Go.RowKit
set_option linter.unusedSimpArgs false
set_option linter.unusedVariables false
/-- Objects of a slice. -/
def ObL (w : World) (a : Option Addr) (l : List Ob) : Prop :=
  ∀ i o, l[i]? = some o → ∃ g z, a = some ⟨g, z, none⟩ ∧ g < w.heap.size ∧ w.cell? ⟨g, z + i * 2, none⟩ = some (.int .u8 (o.k.toNat : Int)) ∧ w.cell? ⟨g, z + i * 2 + 1, none⟩ = some (.string o.p) ∧ o.p.size ≤ 140737488351232
theorem ObL.below {w w' : World} {a : Option Addr} {l : List Ob} (h : ObL w a l) (hb : Below w.heap.size w w') : ObL w' a l := fun i x hx => by
  obtain ⟨g, o, h1, h2, h3, h4, h5⟩ := h i x hx
  exact ⟨g, o, h1, Nat.lt_of_lt_of_le h2 hb.size, by rw [hb.cell (p := ⟨g, o + i * 2, none⟩) h2]; exact h3, by rw [hb.cell (p := ⟨g, o + i * 2 + 1, none⟩) h2]; exact h4, h5⟩
/-- A pack under way. -/
structure BdS (w0 : World) (m : Nat) (d : List Ob) (w : World) : Prop where
  bld : Bld w0.heap.size w0.heap.size (mk4 ++ recL d) w
  st : St (fun v => v = .agg #[]) w m (d.map nmO)
  mlb : w0.heap.size < m
  bel : Below w0.heap.size w0 w
theorem BdS.keep {w0 w w' : World} {m : Nat} {d : List Ob} (h : BdS w0 m d w) (hb : Below w.heap.size w w') : BdS w0 m d w' :=
  ⟨bld_keep11 h.bld hb, h.st.below hb, h.mlb, h.bel.trans (hb.mono h.bel.size)⟩
theorem blw_drewN {B : Nat} {w w' : World} (h : Below B w w') : ∀ n, Below B w (w'.drewN n)
  | 0 => h
  | n + 1 => (blw_drewN h n).drew
theorem below_none {w w' : World} (h : w.grownBy w' none) : Below w.heap.size w w' := ⟨h.os, h.tape, h.output, h.size, fun k hk => h.block k hk (by simp)⟩
theorem onL_nm (d : List Ob) (x : ByteArray) : onL (d.map nmO) x = hasN d x := by rw [onL, hasN, List.any_map]; rfl
theorem bdE_step (l : List Ob) (k : Nat) (o : Ob) (hk : l[k]? = some o) : bdE (l.take k) (l.drop k) = (if okO o = false ∨ k = 65536 ∨ 67108864 < 4 + lenL (l.take k) + 9 + o.p.size + (trl (k + 1)).size then 1 else if hasN (l.take k) (nmO o) = true then 7 else bdE (l.take (k + 1)) (l.drop (k + 1))) := by
  have hlt : k < l.length := (List.getElem?_eq_some_iff.1 hk).1
  rw [List.drop_eq_getElem_cons hlt, bdE]
  have e : l[k] = o := by rw [List.getElem?_eq_getElem hlt] at hk; exact Option.some.inj hk
  have hl : (l.take k).length = k := by rw [List.length_take]; omega
  rw [e, hl, List.take_add_one, hk, Option.toList_some]
theorem GdP.step {l : List Ob} {k : Nat} {o : Ob} (h : GdP (l.take k)) (hk : l[k]? = some o) (h1 : ¬ (okO o = false ∨ k = 65536 ∨ 67108864 < 4 + lenL (l.take k) + 9 + o.p.size + (trl (k + 1)).size)) (h2 : hasN (l.take k) (nmO o) = false) : GdP (l.take (k + 1)) := by
  have hlt : k < l.length := (List.getElem?_eq_some_iff.1 hk).1
  have hl : (l.take k).length = k := by rw [List.length_take]; omega
  rw [List.take_add_one, hk, Option.toList_some]
  refine bdE_ok [o] (l.take k) h ?_
  rw [bdE, hl, if_neg h1, if_neg (by rw [h2]; simp)]; rfl
theorem ret_se11 {a b : ByteArray} {e e' : Int} (h : b = a ∧ e' = e) : Ending.returned (.tuple #[.string a, .int .i64 e]) = .returned (.tuple #[.string b, .int .i64 e']) := by rw [h.1, h.2]
theorem recL_snoc (d : List Ob) (o : Ob) : recL (d ++ [o]) = recL d ++ bl (recO o) := by rw [recL_append]; simp [recL]
theorem BdS.look {w0 w : World} {m : Nat} {d : List Ob} (h : BdS w0 m d w) (x : ByteArray) (hx : x.size = 32) : (Instr.lookup 70 (.map (some m)) (.agg (idc x)) true).run Tryz.prog w = .ok (.tuple #[.agg #[], .bool (hasN d x)]) w := by
  obtain ⟨v, h1, rfl⟩ := h.st.look Tryz.underlying70 (zero_unit _) rfl x hx
  rw [onL_nm] at h1
  exact h1
theorem BdS.put {w0 w : World} {m : Nat} {d : List Ob} (h : BdS w0 m d w) (hn : d.length < 1048576) (x : ByteArray) (hx : x.size = 32) :
    ∃ w', (Instr.mapUpdate 70 (.map (some m)) (.agg (idc x)) (.agg #[])).run Tryz.prog w = .ok () w' ∧ Bld w0.heap.size w0.heap.size (mk4 ++ recL d) w' ∧ St (fun v => v = .agg #[]) w' m (d.map nmO ++ [x]) ∧ Below w0.heap.size w0 w' ∧ (∀ b C T, Bk w b C T → Bk w' b C T) := by
  obtain ⟨w', h1, h2, h3⟩ := h.st.put Tryz.underlying70 (by rw [List.length_map]; exact hn) x hx (.agg #[]) rfl
  obtain ⟨es, c, hm⟩ := h.st.isMap
  refine ⟨w', h1, bld_apart h.bld h3 (fun C T F hc => ?_), h2, below_own h.bel h.bel.size h3 (Nat.le_of_lt h.mlb), fun b C T hb => hb.grown h3 (fun q => ?_)⟩
  · rw [hm] at hc; cases hc
  · injection q with q
    subst q
    have hb' : w.heap[m]? = some (.cells C T (0, 0)) := hb
    rw [hm] at hb'; cases hb'
theorem bd_mid {w0 w6 : World} {m q r : Nat} {d : List Ob} {x p : ByteArray} {k : UInt8} (h : BdS w0 m d w6) (hn : d.length < 1048576) (hx : x.size = 32) (ho : Bk w6 q #[.int .u8 (k.toNat : Int), .string p] 59) (hk : Bk w6 r (idc x) 23) :
    ∃ w8, (Instr.mapUpdate 70 (.map (some m)) (.agg (idc x)) (.agg #[])).run Tryz.prog (w6.alloc (.cells #[] 72)) = .ok () w8 ∧ w8.cell? ⟨q, 0, none⟩ = some (.int .u8 (k.toNat : Int)) ∧ w8.cell? ⟨q, 1, none⟩ = some (.string p) ∧
      (w8.alloc (.cells #[.int .u8 (k.toNat : Int)] 5)).cell? ⟨q, 1, none⟩ = some (.string p) ∧ (convert 93 9 (.slice (some ⟨w8.heap.size, 0, none⟩) 1 1)).run Tryz.prog (w8.alloc (.cells #[.int .u8 (k.toNat : Int)] 5)) = .ok (.string (strOfNums [(k.toNat : Int)])) (w8.alloc (.cells #[.int .u8 (k.toNat : Int)] 5)) ∧
      q < w8.heap.size ∧ Hid (Bk (w6.alloc (.cells #[] 72)) r (idc x) 23) ∧ Hid (Bld w0.heap.size w0.heap.size (mk4 ++ recL d) w8 ∧ St (fun v => v = .agg #[]) w8 m (d.map nmO ++ [x]) ∧ Below w0.heap.size w0 w8) := by
  have h7 : BdS w0 m d (w6.alloc (.cells #[] 72)) := h.keep ((Below.refl _ _).alloc (Nat.le_refl _) _)
  obtain ⟨w8, hput, hbl8, hst8, hbel8, hkk8⟩ := h7.put hn x hx
  have ho8 : Bk w8 q #[.int .u8 (k.toNat : Int), .string p] 59 := hkk8 _ _ _ (ho.alloc _)
  exact ⟨w8, hput, by rw [ho8.cell]; rfl, by rw [ho8.cell]; rfl, by rw [(ho8.alloc _).cell]; rfl, conv_any _ _ _ (World.cell?_alloc_new _ _ _ _), ho8.lt, hk.alloc _, hbl8, hst8, hbel8⟩
/-- The record of one more is written. -/
theorem bd_write {w0 w : World} {m : Nat} {d : List Ob} {o : Ob} (hb : Bld w0.heap.size w0.heap.size (mk4 ++ recL d) w) (hs : St (fun v => v = .agg #[]) w m (d.map nmO ++ [nmO o])) (hB : Below w0.heap.size w0 w) (hm : w0.heap.size < m) (hz : 4 + lenL d + (9 + o.p.size) ≤ 140737488355328) :
    Calls Tryz.prog 61 #[.pointer (some ⟨w0.heap.size, 0, none⟩), .string (recO o)] w fun e w' => e = .returned (.tuple #[.int .i64 (recO o).size, .nilIface]) ∧ BdS w0 m (d ++ [o]) w' := by
  refine (writeS w0.heap.size w0.heap.size _ (recO o) w hb (by rw [List.length_append, recL_length, recO_size, mk4_length]; exact hz) hB.size).mono ?_
  rintro e w' ⟨rfl, h1, h2, h3⟩
  refine ⟨rfl, ?_, ?_, hm, hB.trans h2⟩
  · rw [recL_snoc, ← List.append_assoc]; exact h1
  · obtain ⟨es, c, hm'⟩ := hs.isMap
    rw [List.map_append]
    exact hs.keep ((h3 m _ hm' (by simp; omega) (by simp)).trans hm'.symm)
set_option maxHeartbeats 4000000 in
set_option maxRecDepth 100000 in
theorem build_any (l : List Ob) (ad : Option Addr) (n c : Nat) (w : World) (hO : ObL w ad l) (hn : l.length = n) (hnz : n ≤ 140737488355328) (hL : Lst w) :
    Calls Tryz.prog 24 #[.slice ad n c] w fun e w' => e = .returned (.tuple #[.string (buS l), .int .i64 (buE l)]) ∧ Below w.heap.size w w' := by
  have HO : Hid (ObL w ad l) := hO
  have HN : Hid (l.length = n) := hn
  have HL : Hid (Lst w) := hL
  have hmm := @run_makeMap Tryz.prog
  have hmk : (⟨#[109, 112, 107, 49]⟩ : ByteArray) = mkB := rfl
  have hmz : mkB.size = 4 := rfl
  clear hO hn hL
  go_enter Tryz.func24, Tryz.ntmps24
  go_wp2_with fail
  refine (writeS w.heap.size w.heap.size [] mkB _ (fresh_bld w) (by decide) (by rw [al_size]; omega)).mono ?_
  rintro e w1 ⟨rfl, hb1, hbel1, hoth1⟩
  have hz1 := (bld_lt hb1).2
  have HS0 : Hid (BdS w w1.heap.size [] (w1.alloc (.map #[] 0))) := by
    have hB : Below w.heap.size w w1 := ((Below.refl _ _).alloc (Nat.le_refl _) _).trans hbel1
    refine ⟨?_, St.made _ w1, hz1, hB.alloc hB.size _⟩
    have := bld_keep11 hb1 ((Below.refl _ _).alloc (Nat.le_refl _) (.map #[] 0))
    exact this
  clear hb1 hbel1 hoth1
  go_wp2
  go_loopw [16] (fun v wr => ∃ (k : Nat), v = .int .i64 k ∧ k ≤ n ∧ Hid (BdS w w1.heap.size (l.take k) wr ∧ buE l = bdE (l.take k) (l.drop k) ∧ GdP (l.take k))) (fun v _ => n - (intOf v).toNat)
  case atStart => exact ⟨0, rfl, Nat.zero_le _, HS0.out, rfl, by rw [List.take_zero]; exact GdP.nil⟩
  case round =>
    obtain ⟨k, rfl, hk, HR⟩ := hrel
    by_cases hlt : k < n
    · have hkz : (k : Int) < (n : Nat) := by omega
      obtain ⟨o, ho⟩ : ∃ o, l[k]? = some o := ⟨l[k]'(by rw [HN.out]; exact hlt), List.getElem?_eq_getElem _⟩
      obtain ⟨g, z, rfl, hg, hc0, hc1, hpz⟩ := HO.out.below HR.out.1.bel k o ho
      have HST : Hid (bdE (l.take k) (l.drop k) = _) := bdE_step l k o ho
      have HOk : Hid (l[k]? = some o) := ho
      obtain ⟨kk, p⟩ := o
      simp only at hc0 hc1 hpz HST
      have HD : Hid (BdS w w1.heap.size (l.take k) (wr.alloc (.cells #[.int .u8 (kk.toNat : Int), .string p] 59))) := HR.out.1.keep ((Below.refl _ _).alloc (Nat.le_refl _) _)
      have HK : Hid (Bk (wr.alloc (.cells #[.int .u8 (kk.toNat : Int), .string p] 59)) wr.heap.size #[.int .u8 (kk.toNat : Int), .string p] 59) := bk_new _ _ _
      clear ho
      go_wp2_with fail
      refine (check11 ⟨kk, p⟩ _ (by unfold maxLen; simp only; omega)).mono ?_
      rintro e w2 ⟨rfl, hb2⟩
      have HD2 : Hid (BdS w w1.heap.size (l.take k) w2) := HD.out.keep hb2
      have hk2 := HK.out.below hb2 HK.out.lt
      have HK2 : Hid (Bk w2 wr.heap.size #[.int .u8 (kk.toNat : Int), .string p] 59) := hk2
      have z0 : w2.cell? ⟨wr.heap.size, 0, none⟩ = some (.int .u8 (kk.toNat : Int)) := by rw [hk2.cell]; rfl
      have z1 : w2.cell? ⟨wr.heap.size, 1, none⟩ = some (.string p) := by rw [hk2.cell]; rfl
      clear hb2 hk2 HD HK hmm hc0 hc1 HS0
      cases hok : okO ⟨kk, p⟩ with
      | false =>
        have hck : ckO ⟨kk, p⟩ = 1 := by rw [ckO, if_neg (by rw [hok]; simp)]
        rw [hck]
        have HE : Hid (buE l = 1) := by show _ = _; rw [HR.out.2.1, HST.out, if_pos (.inl hok)]
        clear hok hck
        go_wp2
        go_ret2
        exact ⟨ret_se11 ⟨buS_no (by rw [HE.out]; decide), HE.out⟩, HD2.out.bel⟩
      | true =>
      have hck : ckO ⟨kk, p⟩ = 0 := by rw [ckO, if_pos hok]
      rw [hck]
      have HOK : Hid (okO ⟨kk, p⟩ = true) := hok
      have hp2 : p.size ≤ 2097152 := ((okO_iff _).1 hok).2.2
      clear hok hck
      by_cases hmax : k = 65536
      · have hmz' : ((k : Int) == 65536) = true := by rw [beq_iff_eq]; omega
        have HE : Hid (buE l = 1) := by show _ = _; rw [HR.out.2.1, HST.out, if_pos (.inr (.inl hmax))]
        clear hmax
        go_wp2
        go_ret2
        exact ⟨ret_se11 ⟨buS_no (by rw [HE.out]; decide), HE.out⟩, HD2.out.bel⟩
      have hmz' : ((k : Int) == 65536) = false := by rw [beq_eq_false_iff_ne]; omega
      have HMX : Hid (¬ k = 65536) := hmax
      have hk16 : k < 65536 := by have := HR.out.2.2.len; rw [List.length_take, HN.out] at this; omega
      obtain ⟨LL, hLL⟩ : ∃ LL, LL = (mk4 ++ recL (l.take k)).length := ⟨_, rfl⟩
      have hLe : LL = 4 + lenL (l.take k) := by rw [hLL, List.length_append, recL_length]; rfl
      have hLz : LL ≤ 67108864 := by have := HR.out.2.2.sz; omega
      have HLE : Hid (LL = 4 + lenL (l.take k)) := hLe
      have HLN := fun j => lenS w.heap.size w.heap.size (mk4 ++ recL (l.take k)) (w2.drewN j) HD2.out.bld
      rw [← hLL] at HLN
      have HLN' : Hid (∀ j, Calls Tryz.prog 63 #[.pointer (some ⟨w.heap.size, 0, none⟩)] (w2.drewN j) fun e w' => e = .returned (.int .i64 LL) ∧ w' = w2.drewN j) := HLN
      obtain ⟨Tr, hTr⟩ : ∃ Tr, Tr = trl (k + 1) := ⟨_, rfl⟩
      have hTz : Tr.size ≤ 30 := by rw [hTr, trl_size]; have := encS_le (k + 1) (by omega); omega
      have HTr : Hid (Tr = trl (k + 1)) := hTr
      have HTC : Hid (∀ W, Calls Tryz.prog 64 #[.int .i64 ((k : Int) + 1)] W fun e w' => e = .returned (.string Tr) ∧ Below W.heap.size W w') := fun W => by
        have := trailer_any (k + 1) W (by omega)
        rw [← hTr] at this
        exact this
      clear hmax hLL hLe HLN hTr
      go_wp2
      go_quiet (first | (go_at_call 63; refine Calls.quiet_of_same (HLN'.out _)) | fail)
      obtain ⟨w3, hw3⟩ : ∃ w3, w3 = w2.drewN nq := ⟨_, rfl⟩
      have hd3 : Below w2.heap.size w2 w3 := by rw [hw3]; exact blw_drewN (Below.refl _ _) _
      rw [← hw3]
      clear hw3
      have HD3 : Hid (BdS w w1.heap.size (l.take k) w3) := HD2.out.keep hd3
      have hk3 := HK2.out.below hd3 HK2.out.lt
      have HK3 : Hid (Bk w3 wr.heap.size #[.int .u8 (kk.toNat : Int), .string p] 59) := hk3
      clear hd3 hk3 z0 z1 HD2 HK2 HLN'
      go_wp2_with fail
      refine (HTC.out _).mono ?_
      rintro e w4 ⟨rfl, hb4⟩
      have HD4 : Hid (BdS w w1.heap.size (l.take k) w4) := HD3.out.keep hb4
      have hk4 := HK3.out.below hb4 HK3.out.lt
      have HK4 : Hid (Bk w4 wr.heap.size #[.int .u8 (kk.toNat : Int), .string p] 59) := hk4
      have z0 : w4.cell? ⟨wr.heap.size, 0, none⟩ = some (.int .u8 (kk.toNat : Int)) := by rw [hk4.cell]; rfl
      have z1 : w4.cell? ⟨wr.heap.size, 1, none⟩ = some (.string p) := by rw [hk4.cell]; rfl
      clear hb4 hk4 HD3 HK3 HTC
      by_cases hbig : 67108864 < LL + 9 + p.size + Tr.size
      · have hbz : (67108864 : Int) < (LL : Int) + 9 + (p.size : Int) + (Tr.size : Int) := by omega
        have HE : Hid (buE l = 1) := by
          show _ = _
          rw [HR.out.2.1, HST.out, if_pos (.inr (.inr (by rw [← HLE.out, ← HTr.out]; exact hbig)))]
        clear hbig
        go_wp2
        go_ret2
        exact ⟨ret_se11 ⟨buS_no (by rw [HE.out]; decide), HE.out⟩, HD4.out.bel⟩
      have hbz : ¬ (67108864 : Int) < (LL : Int) + 9 + (p.size : Int) + (Tr.size : Int) := by omega
      have HNC : Hid (¬ (okO ⟨kk, p⟩ = false ∨ k = 65536 ∨ 67108864 < 4 + lenL (l.take k) + 9 + p.size + (trl (k + 1)).size)) := by
        rintro (h | h | h)
        · rw [HOK.out] at h; cases h
        · exact HMX.out h
        · rw [← HLE.out, ← HTr.out] at h; exact hbig h
      clear hbig
      have HOF : Hid (Calls Tryz.prog 28 #[.int .u8 (kk.toNat : Int), .string p] w4 fun e w' => e = .returned (.agg (idc (nmO ⟨kk, p⟩))) ∧ Hid (BdS w w1.heap.size (l.take k) w' ∧ Bk w' wr.heap.size #[.int .u8 (kk.toNat : Int), .string p] 59)) :=
        (of_nm ⟨kk, p⟩ w4 (by simp only; omega) (HL.out.below HD4.out.bel)).mono fun e w' h => ⟨h.1, HD4.out.keep h.2, HK4.out.below h.2 HK4.out.lt⟩
      obtain ⟨x, hx⟩ : ∃ x, x = nmO ⟨kk, p⟩ := ⟨_, rfl⟩
      rw [← hx] at HOF
      have hxz : x.size = 32 := by rw [hx]; exact nmO_size _
      have HX : Hid (x = nmO ⟨kk, p⟩) := hx
      have hi32 : (Tryz.prog.info? 23).map (·.size) = some (idc x).size := info_32 (by rw [idc_size, hxz])
      have hiz : z32c.size = (idc x).size := by rw [idc_size, hxz]; exact z32c_size
      clear hx
      cases hh : hasN (l.take k) x with
      | true =>
        have HE : Hid (buE l = 7) := by
          show _ = _
          rw [HR.out.2.1, HST.out, if_neg HNC.out, if_pos (by rw [← HX.out]; exact hh)]
        go_wp2_with (first
          | (go_at_call 28; refine HOF.out.mono ?_; rintro e w5 ⟨rfl, H5⟩)
          | (refine wpList_store_abs rfl 23 (.tmp 9) (.tmp 45) rfl (idc x) z32c 23 w5.heap.size rfl rfl rfl hi32 hiz (idc_all x) ?_; intro w6 HBk HG hsz6; have HK6 : Hid (Bk w6 w5.heap.size (idc x) 23) := HBk.out; have HD6 : Hid (BdS w w1.heap.size (l.take k) w6) := H5.out.1.keep (below_none HG.out); have hlook := HD6.out.look x hxz; rw [hh] at hlook)
          | (refine wpList_get rfl 23 (.tmp 9) rfl w5.heap.size 0 (idc x) (idc x) 23 _ rfl HK6.out (fun j u hu => by rw [Nat.zero_add]; exact hu) Tryz.underlying23 rfl hi32 ?_)
          | fail)
        go_ret2
        exact ⟨ret_se11 ⟨buS_no (by rw [HE.out]; decide), HE.out⟩, (HD6.out.bel.alloc HD6.out.bel.size _)⟩
      | false =>
        have HE : Hid (buE l = bdE (l.take (k + 1)) (l.drop (k + 1)) ∧ GdP (l.take (k + 1))) := by
          refine ⟨?_, HR.out.2.2.step HOk.out HNC.out (by rw [← HX.out]; exact hh)⟩
          rw [HR.out.2.1, HST.out, if_neg HNC.out, if_neg (by rw [← HX.out, hh]; simp)]
        have htl : (l.take k).length < 1048576 := by rw [List.length_take]; omega
        have hob : strOfNums [(kk.toNat : Int)] ++ p = obB ⟨kk, p⟩ := by
          rw [obB, one_is kk.toNat kk.toNat rfl]
          congr 1
          rw [sb]; simp
        have hoz : (obB ⟨kk, p⟩).size ≤ 67108864 := by rw [obB_size]; simp only; omega
        have HFR : Hid (∀ W, Calls Tryz.prog 65 #[.string (strOfNums [(kk.toNat : Int)] ++ p)] W fun e w' => e = .returned (.string (recO ⟨kk, p⟩)) ∧ Below W.heap.size W w') := fun W => by
          rw [hob]; exact framed_any _ W hoz
        have hsz1 : (strOfNums [(kk.toNat : Int)]).size = 1 := one_size _
        clear hob hoz
        go_wp2_with (first
          | (go_at_call 28; refine HOF.out.mono ?_; rintro e w5 ⟨rfl, H5⟩)
          | (refine wpList_store_abs rfl 23 (.tmp 9) (.tmp 45) rfl (idc x) z32c 23 w5.heap.size rfl rfl rfl hi32 hiz (idc_all x) ?_; intro w6 HBk HG hsz6; have HK6 : Hid (Bk w6 w5.heap.size (idc x) 23) := HBk.out; have HD6 : Hid (BdS w w1.heap.size (l.take k) w6) := H5.out.1.keep (below_none HG.out); have hlook := HD6.out.look x hxz; rw [hh] at hlook; obtain ⟨w8, hput, y0, y1, y2, hcv, hlt8, HK7, H8⟩ := bd_mid HD6.out htl hxz (H5.out.2.grown HG.out (by simp)) HK6.out)
          | (refine wpList_get rfl 23 (.tmp 9) rfl w5.heap.size 0 (idc x) (idc x) 23 _ rfl HK6.out (fun j u hu => by rw [Nat.zero_add]; exact hu) Tryz.underlying23 rfl hi32 ?_)
          | (refine wpList_get rfl 23 (.tmp 9) rfl w5.heap.size 0 (idc x) (idc x) 23 _ rfl HK7.out (fun j u hu => by rw [Nat.zero_add]; exact hu) Tryz.underlying23 rfl hi32 ?_)
          | (go_at_call 65; refine (HFR.out _).mono ?_; rintro e w9 ⟨rfl, hb9⟩)
          | fail)
        have hb9' : Below w8.heap.size w8 w9 := ((Below.refl _ _).alloc (Nat.le_refl _) _).trans (hb9.mono (by rw [al_size]; omega))
        have hsz9 : 4 + lenL (l.take k) + (9 + p.size) ≤ 140737488355328 := by rw [← HLE.out]; omega
        have hst9 : St (fun v => v = .agg #[]) w9 w1.heap.size ((l.take k).map nmO ++ [nmO ⟨kk, p⟩]) := by rw [← HX.out]; exact H8.out.2.1.below hb9'
        refine (bd_write (o := ⟨kk, p⟩) (bld_keep11 H8.out.1 hb9') hst9 (H8.out.2.2.trans (hb9'.mono H8.out.2.2.size)) hz1 hsz9).mono ?_
        rintro e w10 ⟨rfl, hD10⟩
        have H10 : Hid (BdS w w1.heap.size (l.take (k + 1)) w10) := by
          have := HOk.out
          rw [List.take_add_one, this, Option.toList_some]
          exact hD10
        clear hb9 hb9' hsz9 hst9 hD10
        go_wp2
        go_roundw
        case rel => exact ⟨k + 1, by go_num, by omega, H10.out, HE.out.1, HE.out.2⟩
        case measure => simp [intOf]; omega
    · have hkz : ¬ (k : Int) < (n : Nat) := by omega
      obtain rfl : k = n := by omega
      have htk : l.take k = l := List.take_of_length_le (by rw [HN.out]; omega)
      rw [htk, List.drop_eq_nil_of_le (by rw [HN.out]; omega)] at HR
      have HE : Hid (buE l = 0) := HR.out.2.1
      have hD : Hid (BdS w w1.heap.size l wr) := HR.out.1
      have hG := HR.out.2.2
      have hgl := hG.len
      rw [HN.out] at hgl
      have HSZ : Hid ((mk4 ++ recL l).length + (trl k).size ≤ 140737488355328) := by
        show _ ≤ _
        have := hG.sz
        rw [HN.out] at this
        rw [List.length_append, recL_length, mk4_length]; omega
      have HB : Hid (buS l = ⟨((mk4 ++ recL l) ++ (trl k).data.toList).toArray⟩) := by
        show _ = _
        rw [buS, if_pos HE.out, HN.out]; rfl
      clear htk hG
      go_wp2_with fail
      refine (trailer_any k _ (by omega)).mono ?_
      rintro e w2 ⟨rfl, hb2⟩
      have hD2 := hD.out.keep hb2
      have HD2 : Hid (BdS w w1.heap.size l w2) := hD2
      clear hb2 hD2
      go_wp2_with fail
      refine (writeS w.heap.size w.heap.size _ (trl k) w2 HD2.out.bld HSZ.out HD2.out.bel.size).mono ?_
      rintro e w3 ⟨rfl, hb3, hbel3, _⟩
      have HB3 : Hid (Bld w.heap.size w.heap.size ((mk4 ++ recL l) ++ (trl k).data.toList) w3 ∧ Below w.heap.size w w3) := ⟨hb3, HD2.out.bel.trans hbel3⟩
      clear hb3 hbel3
      go_wp2_with fail
      refine (buildS w.heap.size w.heap.size _ w3 HB3.out.1 HB3.out.2.size).mono ?_
      rintro e w4 ⟨rfl, hb4, hbel4, _⟩
      have HB4 : Hid (Below w.heap.size w w4) := HB3.out.2.trans hbel4
      rw [← HB.out]
      clear hb4 hbel4
      go_wp2
      go_ret2
      exact ⟨ret_se11 ⟨rfl, HE.out⟩, HB4.out⟩
end Go.Proofs.YtbdkacfpeokggaaGreatDoor
/- The law's own: a list of objects copied, with a mark behind it. -/
namespace Go.Proofs.YtbdkacfpeokggaaGreatDoor
open Go.RowKit
set_option linter.unusedSimpArgs false
set_option linter.unusedVariables false
/-- Objects as cells. -/
def obv (l : List Ob) : List Value := l.flatMap fun o => [Value.int .u8 (o.k.toNat : Int), Value.string o.p]
theorem obv_snoc (l : List Ob) (o : Ob) : obv (l ++ [o]) = obv l ++ [Value.int .u8 (o.k.toNat : Int), Value.string o.p] := by simp [obv]
theorem inf_obj : (Tryz.prog.info? 59).map (fun i => (i.zero, i.size, i.bytes)) = some (some (.agg #[.int .u8 0, .string ⟨#[]⟩]), 2, 24) := by kernel_rfl
theorem one_two_o (k : Int) (p : ByteArray) : ∀ u ∈ [Value.int .u8 k, Value.string p], u.oneCell' = true := by
  intro u hu
  simp only [List.mem_cons, List.not_mem_nil, or_false] at hu
  rcases hu with rfl | rfl <;> rfl
/-- One is appended to a row of the call's own. -/
theorem ob_app {B : Nat} {w : World} {l : List Ob} {v : Value} (h : w.ownsRow B 59 2 v l.length (obv l)) (hB : B ≤ w.heap.size) (o : Ob) (hn : (l.length + 1) * 24 ≤ 140737488355328) :
    ∃ g cp w7, (Builtin.append_ #[56, 56] 56 #[v, .slice (some ⟨w.heap.size, 0, none⟩) 1 1]).run Tryz.prog (w.alloc (.cells #[.int .u8 (o.k.toNat : Int), .string o.p] 59)) = .ok (.slice (some ⟨g, 0, none⟩) (l.length + 1) cp) w7 ∧
      w7.ownsRow B 59 2 (.slice (some ⟨g, 0, none⟩) (l.length + 1) cp) (l.length + 1) (obv (l ++ [o])) ∧ l.length + 1 ≤ cp ∧ (w.alloc (.cells #[.int .u8 (o.k.toNat : Int), .string o.p] 59)).grownBy w7 v.ownBlock := by
  obtain ⟨i0, hi, hz0, hz1, hz2⟩ := info_parts inf_obj
  obtain ⟨v', w7, hrun, hown, hgrow, _, hat⟩ := run_append_own_at (P := Tryz.prog) (w := w.alloc (.cells #[.int .u8 (o.k.toNat : Int), .string o.p] 59)) B 56 56 59 i0 (.agg #[.int .u8 0, .string ⟨#[]⟩]) 2 24 Tryz.underlying56 hi hz0 hz1 hz2 rfl (by decide) v l.length (obv l) (h.alloc _) ⟨w.heap.size, 0, none⟩ 1 1 [.int .u8 (o.k.toNat : Int), .string o.p] rfl (new_two _ _ _ _) (one_two_o _ _) (by unfold maxLen; omega) (by omega) (by rw [al_size]; omega)
  have ho : w7.ownsRow B 59 2 v' (l.length + 1) (obv (l ++ [o])) := by rw [obv_snoc]; exact hown
  obtain ⟨g, cp, hv, hcp⟩ : ∃ g cp, v' = .slice (some ⟨g, 0, none⟩) (l.length + 1) cp ∧ l.length + 1 ≤ cp := by
    rcases ho.2 with ⟨_, h0⟩ | ⟨g7, c7, cur, h1, _, _, h2, _⟩
    · omega
    · exact ⟨g7, c7, h1, h2⟩
  subst hv
  exact ⟨g, cp, w7, hrun, ho, hcp, hgrow⟩
/-- The mark. -/
def mkO : Ob := ⟨77, ⟨#[]⟩⟩
structure OwS (w0 : World) (l : List Ob) (v : Value) (w : World) : Prop where
  ow : w.ownsRow w0.heap.size 59 2 v l.length (obv l)
  bel : Below w0.heap.size w0 w
theorem OwS.drew {w0 w : World} {l : List Ob} {v : Value} (h : OwS w0 l v w) : OwS w0 l v w.drew := ⟨h.ow, h.bel.drew⟩
theorem OwS.app {w0 w : World} {l : List Ob} {v : Value} (h : OwS w0 l v w) (o : Ob) (hn : (l.length + 1) * 24 ≤ 140737488355328) :
    ∃ g cp w7, (Builtin.append_ #[56, 56] 56 #[v, .slice (some ⟨w.heap.size, 0, none⟩) 1 1]).run Tryz.prog (w.alloc (.cells #[.int .u8 (o.k.toNat : Int), .string o.p] 59)) = .ok (.slice (some ⟨g, 0, none⟩) (l.length + 1) cp) w7 ∧
      OwS w0 (l ++ [o]) (.slice (some ⟨g, 0, none⟩) (l.length + 1) cp) w7 ∧ l.length + 1 ≤ cp := by
  obtain ⟨g, cp, w7, h1, h2, h3, h4⟩ := ob_app h.ow h.bel.size o hn
  refine ⟨g, cp, w7, h1, ⟨by rw [List.length_append]; exact h2, ?_⟩, h3⟩
  exact rows_bel (h.bel.alloc h.bel.size _) (by rw [al_size]; have := h.bel.size; omega) (h.ow.alloc _) (Nat.le_refl _) h4
end Go.Proofs.YtbdkacfpeokggaaGreatDoor
/- What is told of a pack that was built; lists of entries read; the law's awake. -/
namespace Go.Proofs.YtbdkacfpeokggaaGreatDoor
open Go.RowKit
set_option linter.unusedSimpArgs false
set_option linter.unusedVariables false
theorem buS_size {l : List Ob} (h : buE l = 0) : (buS l).size = 4 + lenL l + (trl l.length).size := by
  rw [← bl_length, buS_ok h, List.length_append, List.length_append, recL_length, mk4_length, bl_length]
theorem pmB_bu {s : ByteArray} {t : List UInt8} (h : bl s = mk4 ++ t) : pmB s = true := by
  have h4 : 4 ≤ s.size := by rw [← bl_length, h, List.length_append, mk4_length]; omega
  have : (bl s).take 4 = mk4 := by rw [h]; rfl
  simp [pmB, h4, this]
/-- A pack that was built is one. -/
theorem pkO_bu {l : List Ob} (h : buE l = 0) : PkO (buS l) (ens 4 l) := by
  have g := buE_ok h
  obtain ⟨h1, h2⟩ := stk_all (tk := tkS) g (buS_ok h) (fun i o hi => g.tkS i o hi)
  refine ⟨by rw [buS_size h]; exact g.sz, pmB_bu (t := recL l ++ bl (trl l.length)) (by rw [buS_ok h, List.append_assoc]), _, h1, ?_⟩
  rw [ens_length]; exact h2
theorem PkO.one {s : ByteArray} {l m : List Ent} (h : PkO s l) (h' : PkO s m) : l = m := by
  obtain ⟨_, _, a, h1, _⟩ := h
  obtain ⟨_, _, b, h2, _⟩ := h'
  exact (h1.one h2).2
theorem scA_bu {l : List Ob} {m : List Ent} {er : Int} (h : buE l = 0) (hs : ScA (buS l) m er) : er = 0 ∧ m = ens 4 l := by
  rcases hs with ⟨h1, h2⟩ | ⟨_, _, h3⟩
  · exact ⟨h1, h2.one (pkO_bu h)⟩
  · exact absurd (pkO_bu h) (h3 _)
/-- Where an object stands it is read. -/
theorem rd_bu {l : List Ob} (h : buE l = 0) (i : Nat) (o : Ob) (hi : l[i]? = some o) : atB (frmO (buS l) (4 + lenL (l.take i))) = true ∧ atO (frmO (buS l) (4 + lenL (l.take i))) = o := by
  have g := buE_ok h
  have hlt : i < l.length := (List.getElem?_eq_some_iff.1 hi).1
  have hsp : l = l.take i ++ o :: l.drop (i + 1) := by
    conv => lhs; rw [← List.take_append_drop i l, List.drop_eq_getElem_cons hlt]
    rw [List.getElem?_eq_getElem hlt] at hi
    injection hi with hi
    rw [hi]
  obtain ⟨h1, h2, _⟩ := at_place (s := buS l) (d := l.take i) (m := l.drop (i + 1)) (o := o) (t := bl (trl l.length)) (by rw [← hsp, buS_ok h, List.append_assoc]) (g.ok o (List.mem_of_getElem? hi))
  exact ⟨h1, h2⟩
/-- Entries of a slice. -/
def EnL (w : World) (a : Option Addr) (l : List Ent) : Prop :=
  ∀ i e, l[i]? = some e → ∃ g z C, a = some ⟨g, z, none⟩ ∧ Bk w g C 34 ∧ ∀ j x, (enC e)[j]? = some x → C[z + i * 35 + j]? = some x
theorem EnL.below {w w' : World} {a : Option Addr} {l : List Ent} (h : EnL w a l) (hb : Below w.heap.size w w') : EnL w' a l := fun i e he => by
  obtain ⟨g, z, C, h1, h2, h3⟩ := h i e he
  exact ⟨g, z, C, h1, h2.below hb h2.lt, h3⟩
theorem env_get : ∀ (l : List Ent) (i : Nat) (e : Ent), (∀ x ∈ l, x.id.size = 32) → l[i]? = some e → ∀ j x, (enC e)[j]? = some x → (env l)[i * 35 + j]? = some x
  | [], _, _, _, h, _, _, _ => by simp at h
  | a :: l, 0, e, ha, h, j, x, hj => by
    simp at h
    subst h
    have hlt : j < (enC a).toList.length := by rw [Array.length_toList]; exact (Array.getElem?_eq_some_iff.1 hj).1
    rw [env, List.flatMap_cons, Nat.zero_mul, Nat.zero_add, List.getElem?_append_left hlt, Array.getElem?_toList]
    exact hj
  | a :: l, i + 1, e, ha, h, j, x, hj => by
    have h35 : (enC a).toList.length = 35 := by rw [Array.length_toList, enC_size a (ha a (by simp))]
    rw [env, List.flatMap_cons, List.getElem?_append_right (by omega), h35, show (i + 1) * 35 + j - 35 = i * 35 + j from by omega]
    exact env_get l i e (fun x hx => ha x (by simp [hx])) (by simpa using h) j x hj
theorem row_enl {w : World} {B n : Nat} {v : Value} {l : List Ent} (h : w.ownsRow B 34 35 v n (env l)) (hn : l.length = n) (hi : ∀ x ∈ l, x.id.size = 32) : ∃ a c, v = .slice a n c ∧ EnL w a l := by
  rcases h.2 with ⟨rfl, h0⟩ | ⟨g, cap, cur, rfl, hle, hg, hnc, _, hc, ht⟩
  · subst h0
    have : l = [] := List.eq_nil_of_length_eq_zero hn
    subst this
    exact ⟨none, 0, rfl, fun i x hx => by simp at hx⟩
  · refine ⟨some ⟨g, 0, none⟩, cap, rfl, fun i e he => ⟨g, 0, cur, rfl, hg, fun j x hj => ?_⟩⟩
    have hil : i < l.length := (List.getElem?_eq_some_iff.1 he).1
    have hjl : j < 35 := by rw [← enC_size e (hi e (List.mem_of_getElem? he))]; exact (Array.getElem?_eq_some_iff.1 hj).1
    have q := env_get l i e hi he j x hj
    rw [← ht, List.getElem?_take, if_pos (by omega), Array.getElem?_toList] at q
    rw [Nat.zero_add]; exact q
theorem ens_ids : ∀ (l : List Ob) (a : Nat), ∀ x ∈ ens a l, x.id.size = 32
  | [], _, x, h => by simp [ens] at h
  | o :: l, a, x, h => by
    rw [ens, List.mem_cons] at h
    rcases h with rfl | h
    · exact nmO_size o
    · exact ens_ids l _ x h
theorem Rn.ids {tk : List Ent → Ent → Bool} {s : ByteArray} {a : Nat} {l : List Ent} (h : Rn tk s a l) : ∀ x ∈ l, x.id.size = 32 := by
  induction h with
  | z => simp
  | st h1 h2 h3 ih =>
    intro x hx
    rcases List.mem_append.1 hx with hx | hx
    · exact ih x hx
    · rw [List.mem_singleton.1 hx]; exact nmO_size _
/-- The law's own pack of one object. -/
def awO : Ob := ⟨1, ⟨#[97, 98]⟩⟩
theorem aw_ok : buE [awO] = 0 := by
  have h1 : okO awO = true := by decide
  have h2 : (trl 1).size ≤ 19 := by rw [trl_size]; have := encS_le 1 (by decide); omega
  have h3 : awO.p.size = 2 := rfl
  rw [buE, bdE, if_neg, if_neg, bdE]
  · simp [hasN]
  · rw [h1, h3]
    rintro (h | h | h)
    · cases h
    · simp at h
    · simp only [List.length_nil, lenL, Nat.zero_add] at h
      omega
theorem aw_scan {m : List Ent} {er : Int} (h : ScA (buS [awO]) m er) : er = 0 ∧ m = [⟨nmO awO, 1, 4, 2⟩] := by
  obtain ⟨h1, h2⟩ := scA_bu aw_ok h
  exact ⟨h1, by rw [h2]; rfl⟩
theorem aw_read : rdO (buS [awO]) 4 = awO ∧ rdE (buS [awO]) 4 = 0 := by
  obtain ⟨h1, h2⟩ := rd_bu aw_ok 0 awO rfl
  have e : 4 + lenL (List.take 0 [awO]) = 4 := rfl
  rw [e] at h1 h2
  have hz : 4 ≤ (buS [awO]).size := by rw [buS_size aw_ok]; omega
  have hc : (0 : Int) ≤ 4 ∧ (4 : Int) ≤ ((buS [awO]).size : Int) := by omega
  obtain ⟨y1, _, y3⟩ := ft_yes h1
  rw [rdO, rdE, if_pos hc, if_pos hc, show (4 : Int).toNat = 4 from rfl, y1, y3, h2]
  exact ⟨rfl, rfl⟩
end Go.Proofs.YtbdkacfpeokggaaGreatDoor
