import Derived.Test.YtcfniaknbbgheaaDoorY6
/- attrs.Read. -/
namespace Go.Proofs.YtcfniaknbbgheaaDoor
open Go.RowKit
set_option linter.unusedSimpArgs false
set_option linter.unusedVariables false
/-- Extended attributes as cells. -/
def xav (l : List (ByteArray × ByteArray)) : List Value := l.flatMap fun x => [Value.string x.1, Value.string x.2]
theorem xav_app (a b : List (ByteArray × ByteArray)) : xav (a ++ b) = xav a ++ xav b := by simp [xav]
theorem xav_len (a : List (ByteArray × ByteArray)) : (xav a).length = a.length * 2 := by
  induction a with
  | nil => rfl
  | cons x r ih =>
    have : xav (x :: r) = [Value.string x.1, Value.string x.2] ++ xav r := rfl
    rw [this, List.length_append, ih]; simp; omega
theorem xav_get : ∀ (l : List (ByteArray × ByteArray)) (i : Nat) (x : ByteArray × ByteArray), l[i]? = some x → (xav l)[i * 2]? = some (.string x.1) ∧ (xav l)[i * 2 + 1]? = some (.string x.2)
  | [], i, x, h => by simp at h
  | y :: r, 0, x, h => by
    simp at h
    subst h
    exact ⟨rfl, rfl⟩
  | y :: r, i + 1, x, h => by
    have e : xav (y :: r) = Value.string y.1 :: Value.string y.2 :: xav r := rfl
    have ih := xav_get r i x (by simpa using h)
    rw [e, show (i + 1) * 2 = i * 2 + 1 + 1 from by omega]
    exact ⟨ih.1, ih.2⟩
theorem inf_xattr : (Tryd.prog.info? 56).map (fun i => (i.zero, i.size, i.bytes)) = some (some (.agg #[.string ⟨#[]⟩, .string ⟨#[]⟩]), 2, 32) := by kernel_rfl
theorem inf_attr : (Tryd.prog.info? 28).map (·.size) = some 7 := by kernel_rfl
theorem one_two_s (a b : ByteArray) : ∀ u ∈ [Value.string a, Value.string b], u.oneCell' = true := by
  intro u hu
  simp at hu
  rcases hu with rfl | rfl <;> rfl
/-- A row of the call's own: where its extended attributes lie. -/
theorem own_xal {w : World} {B n : Nat} {e : TypeId} {v : Value} {l : List (ByteArray × ByteArray)} (h : w.ownsRow B e 2 v n (xav l)) (hn : l.length = n) (hs : ∀ x ∈ l, x.1.size ≤ 140737488351232 ∧ x.2.size ≤ 140737488351232) : ∃ a c, v = .slice a n c ∧ XaL w a l := by
  rcases h.2 with ⟨rfl, h0⟩ | ⟨g, cap, cur, rfl, hle, hg, hnc, _, hc, ht⟩
  · subst h0
    have : l = [] := List.eq_nil_of_length_eq_zero hn
    subst this
    exact ⟨none, 0, rfl, fun i x hx => by simp at hx⟩
  · refine ⟨some ⟨g, 0, none⟩, cap, rfl, fun i x hx => ⟨g, 0, rfl, (Array.getElem?_eq_some_iff.1 hg).1, ?_⟩⟩
    have hb : Bk w g cur e := hg
    have hl : i < l.length := (List.getElem?_eq_some_iff.1 hx).1
    obtain ⟨q1, q2⟩ := xav_get l i x hx
    rw [← ht, List.getElem?_take, if_pos (by omega), Array.getElem?_toList] at q1 q2
    rw [Nat.zero_add]
    exact ⟨by rw [hb.cell]; exact q1, by rw [hb.cell]; exact q2, hs x (List.mem_of_getElem? hx)⟩
abbrev c7 (nd md ui gi : Nat) (mt : Int) (tg : ByteArray) (v : Value) : Array Value := #[.int .u8 (nd : Int), .int .u32 (md : Int), .int .u32 (ui : Int), .int .u32 (gi : Int), .int .i64 mt, .string tg, v]
abbrev z7 : Array Value := #[.int .u8 0, .int .u32 0, .int .u32 0, .int .u32 0, .int .i64 0, .string ⟨#[]⟩, .slice none 0 0]
/-- What lies there while bytes are read. -/
structure RS (w0 : World) (s : ByteArray) (u : Bool) (C : Array Value) (w : World) : Prop where
  ts : TS (w0.heap.size + 1 + 1) (w0.heap.size + 1) s u w
  ab : Bk w (w0.heap.size + 1 + 1 + 1) C 28
  rb : Bk w w0.heap.size z7 28
  bel : Below w0.heap.size w0 w
theorem RS.next {w0 : World} {s s' : ByteArray} {u u' : Bool} {C : Array Value} {w w' : World} (h : RS w0 s u C w) (ht : TS (w0.heap.size + 1 + 1) (w0.heap.size + 1) s' u' w') (hk : Kt (w0.heap.size + 1 + 1) (w0.heap.size + 1) w w') : RS w0 s' u' C w' :=
  ⟨ht, hk.bk h.ab (by omega) (by omega), hk.bk h.rb (by omega) (by omega), hk.below h.bel h.bel.size (by omega) (by omega)⟩
theorem RS.set {w0 : World} {s : ByteArray} {u : Bool} {C : Array Value} {w : World} (h : RS w0 s u C w) (j : Nat) (v : Value) : RS w0 s u (C.setIfInBounds j v) (w.setCell ⟨w0.heap.size + 1 + 1 + 1, j, none⟩ v) := by
  have hg : w.grownBy (w.setCell ⟨w0.heap.size + 1 + 1 + 1, j, none⟩ v) (some (w0.heap.size + 1 + 1 + 1)) := Lib.grownBy_setB (World.grownBy.refl _ _) j _
  exact ⟨h.ts.grown hg (fun e => by injection e with e; omega) (fun e => by injection e with e; omega), h.ab.set j v, h.rb.grown hg (fun e => by injection e with e; omega), below_own h.bel h.bel.size hg (by omega)⟩
theorem own_set {w : World} {B b j n k : Nat} {e : TypeId} {v x : Value} {xs : List Value} (h : w.ownsRow B e k v n xs) (hb : b < B) : (w.setCell ⟨b, j, none⟩ x).ownsRow B e k v n xs := by
  have hg : w.grownBy (w.setCell ⟨b, j, none⟩ x) (some b) := Lib.grownBy_setB (World.grownBy.refl _ _) j _
  exact rows_keep h (fun g h1 h2 => hg.block g h2 (by simp; omega))
theorem own_kt {w w' : World} {B t r n k : Nat} {e : TypeId} {v : Value} {xs : List Value} (h : w.ownsRow B e k v n xs) (hk : Kt t r w w') (h1 : t < B) (h2 : r < B) : w'.ownsRow B e k v n xs :=
  rows_keep h (fun g q1 q2 => hk.block g q2 (by omega) (by omega))
theorem RS.start (w0 : World) (S : ByteArray) : RS w0 S false z7 ((((w0.alloc (.cells z7 28)).alloc (.cells #[.string S] 103)).alloc (.cells #[.pointer (some ⟨w0.heap.size + 1, 0, none⟩), .bool false] 74)).alloc (.cells z7 28)) := by
  have s1 : (w0.alloc (.cells z7 28)).heap.size = w0.heap.size + 1 := al_size _ _
  have s2 : ((w0.alloc (.cells z7 28)).alloc (.cells #[.string S] 103)).heap.size = w0.heap.size + 1 + 1 := by rw [al_size, s1]
  have s3 : (((w0.alloc (.cells z7 28)).alloc (.cells #[.string S] 103)).alloc (.cells #[.pointer (some ⟨w0.heap.size + 1, 0, none⟩), .bool false] 74)).heap.size = w0.heap.size + 1 + 1 + 1 := by rw [al_size, s2]
  have b1 := bk_new (w0.alloc (.cells z7 28)) #[.string S] 103
  rw [s1] at b1
  have b2 := bk_new ((w0.alloc (.cells z7 28)).alloc (.cells #[.string S] 103)) #[.pointer (some ⟨w0.heap.size + 1, 0, none⟩), .bool false] 74
  rw [s2] at b2
  have b3 := bk_new (((w0.alloc (.cells z7 28)).alloc (.cells #[.string S] 103)).alloc (.cells #[.pointer (some ⟨w0.heap.size + 1, 0, none⟩), .bool false] 74)) z7 28
  rw [s3] at b3
  have b1' := (b1.alloc (.cells #[.pointer (some ⟨w0.heap.size + 1, 0, none⟩), .bool false] 74)).alloc (.cells z7 28)
  refine ⟨⟨b2.alloc _, by rw [b1'.cell]; rfl, b1'.frozen 0, b1'.lt, by omega⟩, b3, (((bk_new w0 z7 _).alloc _).alloc _).alloc _, ?_⟩
  exact ((((Below.refl _ w0).alloc (Nat.le_refl _) _).alloc (by omega) _).alloc (by omega) _).alloc (by omega) _
abbrev st7 (w : World) (g : Nat) (v0 v1 v2 v3 v4 v5 v6 : Value) : World := ((((((w.setCell ⟨g, 0, none⟩ v0).setCell ⟨g, 1, none⟩ v1).setCell ⟨g, 2, none⟩ v2).setCell ⟨g, 3, none⟩ v3).setCell ⟨g, 4, none⟩ v4).setCell ⟨g, 5, none⟩ v5).setCell ⟨g, 6, none⟩ v6
theorem bk_st7 {w : World} {g : Nat} {T : TypeId} (h : Bk w g z7 T) (v0 v1 v2 v3 v4 v5 v6 : Value) : Bk (st7 w g v0 v1 v2 v3 v4 v5 v6) g #[v0, v1, v2, v3, v4, v5, v6] T :=
  ((((((h.set 0 v0).set 1 v1).set 2 v2).set 3 v3).set 4 v4).set 5 v5).set 6 v6
theorem gr_st7 (w : World) (g : Nat) (v0 v1 v2 v3 v4 v5 v6 : Value) : w.grownBy (st7 w g v0 v1 v2 v3 v4 v5 v6) (some g) :=
  Lib.grownBy_setB (Lib.grownBy_setB (Lib.grownBy_setB (Lib.grownBy_setB (Lib.grownBy_setB (Lib.grownBy_setB (Lib.grownBy_setB (World.grownBy.refl _ _) 0 _) 1 _) 2 _) 3 _) 4 _) 5 _) 6 _
theorem own_gr {w w' : World} {B b n k : Nat} {e : TypeId} {v : Value} {xs : List Value} (h : w.ownsRow B e k v n xs) (hg : w.grownBy w' (some b)) (hb : b < B) : w'.ownsRow B e k v n xs :=
  rows_keep h (fun g h1 h2 => hg.block g h2 (by simp; omega))
theorem zok : AtOk ⟨0, 0, 0, 0, 0, ⟨#[]⟩, []⟩ := ⟨by decide, by decide, by decide, by decide, ⟨by decide, by decide⟩, Nat.zero_le _, Nat.zero_le _⟩
set_option maxHeartbeats 16000000 in
set_option maxRecDepth 100000 in
theorem read10 (S : ByteArray) (w : World) (hs : S.size ≤ 140737488351232) (hT : U8 w) :
    Calls Tryd.prog 8 #[.string S] w fun e w' => ∃ (a : At) (v : Value) (er : Int), e = .returned (.tuple #[.agg (c7 a.nd a.md a.ui a.gi a.mt a.tg v), .int .i64 er]) ∧ RdS S a er ∧ AtOk a ∧ w'.ownsRow w.heap.size 56 2 v a.xs.length (xav a.xs) ∧ (∀ x ∈ a.xs, x.1.size ≤ 255 ∧ x.2.size ≤ 4096) ∧ Below w.heap.size w w' := by
  have HT : Hid (U8 w) := hT
  have R0 : Hid (RS w S false z7 ((((w.alloc (.cells z7 28)).alloc (.cells #[.string S] 103)).alloc (.cells #[.pointer (some ⟨w.heap.size + 1, 0, none⟩), .bool false] 74)).alloc (.cells z7 28))) := RS.start w S
  clear hT
  go_enter Tryd.func8, Tryd.ntmps8
  go_wp2_with fail
  refine (new_any S _).mono ?_
  rintro e w1 ⟨rfl, hw1⟩
  rw [hw1]
  clear hw1
  go_wp2_with fail
  refine (node_any (w.heap.size + 1 + 1) (w.heap.size + 1) S false _ R0.out.ts hs).mono ?_
  rintro e w2 ⟨n0, s2, u2, rfl, ht, hk, hN⟩
  have hb0 := hN.bd
  have P2 : Hid (Prs S [UInt8.ofNat n0] r1 (fun a => a.nd = n0) s2 u2) := Prs.nod hN
  have Q2 : Hid (RS w s2 u2 (c7 0 0 0 0 0 ⟨#[]⟩ (.slice none 0 0)) w2) := R0.out.next ht hk
  have d2 : w2.cell? ⟨w.heap.size + 1 + 1 + 1, 0, none⟩ = some (.int .u8 0) := by rw [Q2.out.ab.cell]; rfl
  have f2 := Q2.out.ab.frozen 0
  have R2 : Hid (RS w s2 u2 (c7 n0 0 0 0 0 ⟨#[]⟩ (.slice none 0 0)) (w2.setCell ⟨w.heap.size + 1 + 1 + 1, 0, none⟩ (.int .u8 (n0 : Int)))) := Q2.out.set 0 (.int .u8 (n0 : Int))
  have z2 : s2.size ≤ 140737488351232 := Nat.le_trans P2.out.sz hs
  clear ht hk hN R0
  go_wp2_with fail
  refine (number_any (w.heap.size + 1 + 1) (w.heap.size + 1) s2 u2 4095 _ R2.out.ts z2 (by omega)).mono ?_
  rintro e w3 ⟨n1, s3, u3, rfl, ht, hk, hN⟩
  have hb1 := hN.bd
  have P3 : Hid (Prs S ([UInt8.ofNat n0] ++ e8 n1) r2 (fun a => (a.nd = n0) ∧ a.md = n1) s3 u3) := P2.out.num hN (fun a => a.md) r2 (fun a ha _ => ⟨by have := (okA_out ha.ok).2.1; omega, by have := (okA_out ha.ok).2.1; omega⟩) (fun a _ _ => rfl)
  have Q3 : Hid (RS w s3 u3 (c7 n0 0 0 0 0 ⟨#[]⟩ (.slice none 0 0)) w3) := R2.out.next ht hk
  have d3 : w3.cell? ⟨w.heap.size + 1 + 1 + 1, 1, none⟩ = some (.int .u32 0) := by rw [Q3.out.ab.cell]; rfl
  have f3 := Q3.out.ab.frozen 1
  have R3 : Hid (RS w s3 u3 (c7 n0 n1 0 0 0 ⟨#[]⟩ (.slice none 0 0)) (w3.setCell ⟨w.heap.size + 1 + 1 + 1, 1, none⟩ (.int .u32 (n1 : Int)))) := Q3.out.set 1 (.int .u32 (n1 : Int))
  have z3 : s3.size ≤ 140737488351232 := Nat.le_trans P3.out.sz hs
  clear ht hk hN R2 P2 Q2 d2 f2
  go_wp2_with fail
  refine (number_any (w.heap.size + 1 + 1) (w.heap.size + 1) s3 u3 4294967295 _ R3.out.ts z3 (by omega)).mono ?_
  rintro e w4 ⟨n2, s4, u4, rfl, ht, hk, hN⟩
  have hb2 := hN.bd
  have P4 : Hid (Prs S ([UInt8.ofNat n0] ++ e8 n1 ++ e8 n2) r3 (fun a => ((a.nd = n0) ∧ a.md = n1) ∧ a.ui = n2) s4 u4) := P3.out.num hN (fun a => a.ui) r3 (fun a ha _ => ⟨by have := ha.ui; omega, by have := ha.ui; omega⟩) (fun a _ _ => rfl)
  have Q4 : Hid (RS w s4 u4 (c7 n0 n1 0 0 0 ⟨#[]⟩ (.slice none 0 0)) w4) := R3.out.next ht hk
  have d4 : w4.cell? ⟨w.heap.size + 1 + 1 + 1, 2, none⟩ = some (.int .u32 0) := by rw [Q4.out.ab.cell]; rfl
  have f4 := Q4.out.ab.frozen 2
  have R4 : Hid (RS w s4 u4 (c7 n0 n1 n2 0 0 ⟨#[]⟩ (.slice none 0 0)) (w4.setCell ⟨w.heap.size + 1 + 1 + 1, 2, none⟩ (.int .u32 (n2 : Int)))) := Q4.out.set 2 (.int .u32 (n2 : Int))
  have z4 : s4.size ≤ 140737488351232 := Nat.le_trans P4.out.sz hs
  clear ht hk hN R3 P3 Q3 d3 f3
  go_wp2_with fail
  refine (number_any (w.heap.size + 1 + 1) (w.heap.size + 1) s4 u4 4294967295 _ R4.out.ts z4 (by omega)).mono ?_
  rintro e w5 ⟨n3, s5, u5, rfl, ht, hk, hN⟩
  have hb3 := hN.bd
  have P5 : Hid (Prs S ([UInt8.ofNat n0] ++ e8 n1 ++ e8 n2 ++ e8 n3) r4 (fun a => (((a.nd = n0) ∧ a.md = n1) ∧ a.ui = n2) ∧ a.gi = n3) s5 u5) := P4.out.num hN (fun a => a.gi) r4 (fun a ha _ => ⟨by have := ha.gi; omega, by have := ha.gi; omega⟩) (fun a _ _ => rfl)
  have Q5 : Hid (RS w s5 u5 (c7 n0 n1 n2 0 0 ⟨#[]⟩ (.slice none 0 0)) w5) := R4.out.next ht hk
  have d5 : w5.cell? ⟨w.heap.size + 1 + 1 + 1, 3, none⟩ = some (.int .u32 0) := by rw [Q5.out.ab.cell]; rfl
  have f5 := Q5.out.ab.frozen 3
  have R5 : Hid (RS w s5 u5 (c7 n0 n1 n2 n3 0 ⟨#[]⟩ (.slice none 0 0)) (w5.setCell ⟨w.heap.size + 1 + 1 + 1, 3, none⟩ (.int .u32 (n3 : Int)))) := Q5.out.set 3 (.int .u32 (n3 : Int))
  have z5 : s5.size ≤ 140737488351232 := Nat.le_trans P5.out.sz hs
  clear ht hk hN R4 P4 Q4 d4 f4
  go_wp2_with fail
  refine (number_any (w.heap.size + 1 + 1) (w.heap.size + 1) s5 u5 1099511627776 _ R5.out.ts z5 (by omega)).mono ?_
  rintro e w6 ⟨n4, s6, u6, rfl, ht, hk, hN⟩
  have hb4 := hN.bd
  have P6 : Hid (Prs S ([UInt8.ofNat n0] ++ e8 n1 ++ e8 n2 ++ e8 n3 ++ e8 n4) r5 (fun a => ((((a.nd = n0) ∧ a.md = n1) ∧ a.ui = n2) ∧ a.gi = n3) ∧ a.mt.toNat = n4) s6 u6) := P5.out.num hN (fun a => a.mt.toNat) r5 (fun a ha _ => ⟨by have := (okA_out ha.ok).2.2.1; omega, by have := (okA_out ha.ok).2.2.1; omega⟩) (fun a _ _ => rfl)
  have Q6 : Hid (RS w s6 u6 (c7 n0 n1 n2 n3 0 ⟨#[]⟩ (.slice none 0 0)) w6) := R5.out.next ht hk
  have d6 : w6.cell? ⟨w.heap.size + 1 + 1 + 1, 4, none⟩ = some (.int .i64 0) := by rw [Q6.out.ab.cell]; rfl
  have f6 := Q6.out.ab.frozen 4
  have R6 : Hid (RS w s6 u6 (c7 n0 n1 n2 n3 (n4 : Int) ⟨#[]⟩ (.slice none 0 0)) (w6.setCell ⟨w.heap.size + 1 + 1 + 1, 4, none⟩ (.int .i64 (n4 : Int)))) := Q6.out.set 4 (.int .i64 (n4 : Int))
  have z6 : s6.size ≤ 140737488351232 := Nat.le_trans P6.out.sz hs
  clear ht hk hN R5 P5 Q5 d5 f5
  have e6 : (w6.setCell ⟨w.heap.size + 1 + 1 + 1, 4, none⟩ (.int .i64 (n4 : Int))).cell? ⟨w.heap.size + 1 + 1 + 1, 0, none⟩ = some (.int .u8 (n0 : Int)) := by rw [R6.out.ab.cell]; rfl
  by_cases h3 : n0 = 3
  · have h3z : ((n0 : Int) == 3) = true := by simp [h3]
    have H3 : Hid (n0 = 3) := h3
    clear h3
    go_wp2_with fail
    refine (ttext_any (w.heap.size + 1 + 1) (w.heap.size + 1) s6 u6 1024 _ R6.out.ts z6 (by omega)).mono ?_
    rintro e w7 ⟨tg, s7, u7, rfl, ht, hk, hN⟩
    have htz : tg.size ≤ 140737488351232 := Nat.le_trans hN.bd (by omega)
    have HTG : Hid (n0 ≠ 3 → tg = ⟨#[]⟩) := fun h => absurd H3.out h
    have PT : Hid (Prs S ([UInt8.ofNat n0] ++ e8 n1 ++ e8 n2 ++ e8 n3 ++ e8 n4 ++ tx tg) r6 (fun a => (((((a.nd = n0) ∧ a.md = n1) ∧ a.ui = n2) ∧ a.gi = n3) ∧ a.mt.toNat = n4) ∧ (n0 = 3 → a.tg = tg)) s7 u7) := (P6.out.txt hN (fun a => a.tg) r6 (fun a ha q => ⟨tg_small (okA_out ha.ok).2.2.2.1, by have := tg_small (okA_out ha.ok).2.2.2.1; omega⟩) (fun a _ q => by
        have hq : a.nd = 3 := by rw [q.1.1.1.1]; exact H3.out
        simp [r5, ltg, hq])).same _ _ (fun a _ q => ⟨rfl, q.1, fun _ => q.2⟩)
    have Q7 : Hid (RS w s7 u7 (c7 n0 n1 n2 n3 (n4 : Int) ⟨#[]⟩ (.slice none 0 0)) w7) := R6.out.next ht hk
    have d7 : w7.cell? ⟨w.heap.size + 1 + 1 + 1, 5, none⟩ = some (.string ⟨#[]⟩) := by rw [Q7.out.ab.cell]; rfl
    have f7 := Q7.out.ab.frozen 5
    have R7 : Hid (RS w s7 u7 (c7 n0 n1 n2 n3 (n4 : Int) tg (.slice none 0 0)) (w7.setCell ⟨w.heap.size + 1 + 1 + 1, 5, none⟩ (.string tg))) := Q7.out.set 5 (.string tg)
    have z7' : s7.size ≤ 140737488351232 := Nat.le_trans PT.out.sz hs
    clear ht hk hN R6 P6 Q6 d6 f6
    go_wp2_with fail
    refine (number_any (w.heap.size + 1 + 1) (w.heap.size + 1) s7 u7 16 _ R7.out.ts z7' (by omega)).mono ?_
    rintro e w8 ⟨n5, s8, u8, rfl, ht, hk, hN⟩
    have hb5 := hN.bd
    have P8 : Hid (Prs S ([UInt8.ofNat n0] ++ e8 n1 ++ e8 n2 ++ e8 n3 ++ e8 n4 ++ tx tg ++ e8 n5) r7 (fun a => ((((((a.nd = n0) ∧ a.md = n1) ∧ a.ui = n2) ∧ a.gi = n3) ∧ a.mt.toNat = n4) ∧ (n0 = 3 → a.tg = tg)) ∧ a.xs.length = n5) s8 u8) := PT.out.num hN (fun a => a.xs.length) r7 (fun a ha _ => ⟨(xsB_out (okA_out ha.ok).2.2.2.2).1, by have := (xsB_out (okA_out ha.ok).2.2.2.2).1; omega⟩) (fun a _ _ => rfl)
    have R8 : Hid (RS w s8 u8 (c7 n0 n1 n2 n3 (n4 : Int) tg (.slice none 0 0)) w8) := R7.out.next ht hk
    obtain ⟨p, hp⟩ : ∃ p, [UInt8.ofNat n0] ++ e8 n1 ++ e8 n2 ++ e8 n3 ++ e8 n4 ++ tx tg ++ e8 n5 = p := ⟨_, rfl⟩
    have HP : Hid ([UInt8.ofNat n0] ++ e8 n1 ++ e8 n2 ++ e8 n3 ++ e8 n4 ++ ltg n0 tg ++ e8 n5 = p) := by show _ = _; rw [← hp]; simp [ltg, H3.out]
    rw [hp] at P8
    have L0 : Hid (Prs S (p ++ xsL []) (fun a => xsL (a.xs.drop 0)) (fun a => (((((((a.nd = n0) ∧ a.md = n1) ∧ a.ui = n2) ∧ a.gi = n3) ∧ a.mt.toNat = n4) ∧ (n0 = 3 → a.tg = tg)) ∧ a.xs.length = n5) ∧ a.xs.take 0 = []) s8 u8) := by
      show Prs _ _ _ _ _ _
      rw [show xsL [] = [] from rfl, List.append_nil]
      exact P8.out.same _ _ (fun a _ q => ⟨rfl, q, rfl⟩)
    clear ht hk hN R7 P8 hp PT
    go_wp2
    go_loopw [31] (fun x wr => ∃ (k : Nat) (ys : List (ByteArray × ByteArray)) (v : Value) (s : ByteArray) (u : Bool), x = .int .u64 (k : Int) ∧ k ≤ n5 ∧ Hid (ys.length = k) ∧ Hid (RS w s u (c7 n0 n1 n2 n3 (n4 : Int) tg v) wr) ∧ Hid (wr.ownsRow (w.heap.size + 1 + 1 + 1 + 1) 56 2 v k (xav ys)) ∧ Hid (Prs S (p ++ xsL ys) (fun a => xsL (a.xs.drop k)) (fun a => (((((((a.nd = n0) ∧ a.md = n1) ∧ a.ui = n2) ∧ a.gi = n3) ∧ a.mt.toNat = n4) ∧ (n0 = 3 → a.tg = tg)) ∧ a.xs.length = n5) ∧ a.xs.take k = ys) s u) ∧ Hid (∀ x ∈ ys, x.1.size ≤ 255 ∧ x.2.size ≤ 4096)) (fun x _ => n5 - (intOf x).toNat)
    case atStart => exact ⟨0, [], _, s8, u8, rfl, Nat.zero_le _, rfl, R8.out, rows_none, L0.out, fun x hx => by cases hx⟩
    case round =>
      obtain ⟨k, ys, v, s, u, rfl, hk, HY, RR, HO, HL, HZ⟩ := hrel
      have zr : s.size ≤ 140737488351232 := Nat.le_trans HL.out.sz hs
      clear R8 L0
      by_cases hlt : k < n5
      · have hkz : (k : Int) < (n5 : Nat) := by omega
        go_wp2_with fail
        refine (ttext_any (w.heap.size + 1 + 1) (w.heap.size + 1) s u 255 _ RR.out.ts zr (by omega)).mono ?_
        rintro e w9 ⟨x, s9, u9, rfl, ht, hk9, hN9⟩
        have R9 : Hid (RS w s9 u9 (c7 n0 n1 n2 n3 (n4 : Int) tg v) w9) := RR.out.next ht hk9
        have O9 : Hid (w9.ownsRow (w.heap.size + 1 + 1 + 1 + 1) 56 2 v k (xav ys)) := own_kt HO.out hk9 (by omega) (by omega)
        have N9 : Hid (TxtS s u 255 x s9 u9) := hN9
        have z9 : s9.size ≤ 140737488351232 := Nat.le_trans hN9.sz zr
        clear ht hk9 hN9 RR HO
        go_wp2_with fail
        refine (ttext_any (w.heap.size + 1 + 1) (w.heap.size + 1) s9 u9 4096 _ R9.out.ts z9 (by omega)).mono ?_
        rintro e w10 ⟨y, s10, u10, rfl, ht, hk10, hN10⟩
        have R10 : Hid (RS w s10 u10 (c7 n0 n1 n2 n3 (n4 : Int) tg v) w10) := R9.out.next ht hk10
        have O10 : Hid (w10.ownsRow (w.heap.size + 1 + 1 + 1 + 1) 56 2 v k (xav ys)) := own_kt O9.out hk10 (by omega) (by omega)
        have L10 : Hid (Prs S (p ++ xsL (ys ++ [(x, y)])) (fun a => xsL (a.xs.drop (k + 1))) (fun a => (((((((a.nd = n0) ∧ a.md = n1) ∧ a.ui = n2) ∧ a.gi = n3) ∧ a.mt.toNat = n4) ∧ (n0 = 3 → a.tg = tg)) ∧ a.xs.length = n5) ∧ a.xs.take (k + 1) = ys ++ [(x, y)]) s10 u10) := HL.out.xat (F := fun a => (((((a.nd = n0) ∧ a.md = n1) ∧ a.ui = n2) ∧ a.gi = n3) ∧ a.mt.toNat = n4) ∧ (n0 = 3 → a.tg = tg)) hlt N9.out hN10
        have Z10 : Hid (∀ z ∈ ys ++ [(x, y)], z.1.size ≤ 255 ∧ z.2.size ≤ 4096) := fun z hz => by
          rcases List.mem_append.1 hz with h | h
          · exact HZ.out z h
          · rw [List.mem_singleton] at h; subst h; exact ⟨N9.out.bd, hN10.bd⟩
        clear ht hk10 hN10 R9 O9 N9 HL HZ
        have c10 : w10.cell? ⟨w.heap.size + 1 + 1 + 1, 6, none⟩ = some v := by rw [R10.out.ab.cell]; rfl
        have hz10 : w.heap.size + 1 + 1 + 1 < w10.heap.size := R10.out.ab.lt
        obtain ⟨i0, hi, hz0, hz1, hz2⟩ := info_parts inf_xattr
        go_wp2_with (at_builtin; refine wpList_append_own _ rfl _ _ 26 rfl (w.heap.size + 1 + 1 + 1 + 1) 56 i0 (.agg #[.string ⟨#[]⟩, .string ⟨#[]⟩]) 2 32 Tryd.underlying26 hi hz0 hz1 hz2 rfl (by decide) _ _ _ rfl (O10.out.alloc _) ⟨w10.heap.size, 0, none⟩ 1 1 [.string x, .string y] rfl rfl (new_two _ _ _ _) (one_two_s _ _) (by unfold maxLen; omega) (by omega) (by simp; omega) ?_)
        intro v' w11 hown hgrow _
        have hgr : ∀ b, v.ownBlock = some b → w.heap.size + 1 + 1 + 1 + 1 ≤ b := fun b hb => (rows_blk O10.out hb).1
        have hb0' : Below w10.heap.size w10 (w10.alloc (.cells #[.string x, .string y] 56)) := (Below.refl _ _).alloc (Nat.le_refl _) _
        have R11 : Hid (RS w s10 u10 (c7 n0 n1 n2 n3 (n4 : Int) tg v) w11) := by
          have h := R10.out
          refine ⟨(h.ts.keep hb0').grown hgrow (fun e => ?_) (fun e => ?_), (h.ab.alloc _).grown hgrow (fun e => ?_), (h.rb.alloc _).grown hgrow (fun e => ?_), rows_bel (h.bel.alloc h.bel.size _) (by simp; omega) (O10.out.alloc _) (by omega) hgrow⟩
          all_goals (have := hgr _ e; omega)
        have O11 : Hid (w11.ownsRow (w.heap.size + 1 + 1 + 1 + 1) 56 2 v' (k + 1) (xav (ys ++ [(x, y)]))) := by
          show World.ownsRow _ _ _ _ _ _ _
          rw [xav_app]; exact hown
        have c11 : w11.cell? ⟨w.heap.size + 1 + 1 + 1, 6, none⟩ = some v := by rw [R11.out.ab.cell]; rfl
        have f11 := R11.out.ab.frozen 6
        have R12 : Hid (RS w s10 u10 (c7 n0 n1 n2 n3 (n4 : Int) tg v') (w11.setCell ⟨w.heap.size + 1 + 1 + 1, 6, none⟩ v')) := R11.out.set 6 v'
        have O12 : Hid ((w11.setCell ⟨w.heap.size + 1 + 1 + 1, 6, none⟩ v').ownsRow (w.heap.size + 1 + 1 + 1 + 1) 56 2 v' (k + 1) (xav (ys ++ [(x, y)]))) := own_set O11.out (by omega)
        obtain ⟨g7, c7', hv⟩ : ∃ g7 c7, v' = .slice (some ⟨g7, 0, none⟩) (k + 1) c7 := by
          rcases hown.2 with ⟨_, h0⟩ | ⟨g7, c7, cur, h1, _⟩
          · omega
          · exact ⟨g7, c7, h1⟩
        subst hv
        clear hown hgrow hgr hb0' R10 O10 R11 O11 c10
        go_wp2
        go_roundw
        case rel => exact ⟨k + 1, ys ++ [(x, y)], _, s10, u10, by go_num, by omega, by (show _ = _; rw [List.length_append, HY.out]; rfl), R12.out, O12.out, L10.out, Z10.out⟩
        case measure => simp [intOf]; omega
      · have hkz : ¬ (k : Int) < (n5 : Nat) := by omega
        obtain rfl : k = n5 := by omega
        obtain ⟨G1, G2⟩ := Prs.fin (tg := tg) (by first | exact HTG.out | exact fun _ => rfl) HY.out (show n2 < 4294967296 by omega) (show n3 < 4294967296 by omega) (by rw [HP.out]; exact HL.out)
        have HG1 : Hid ((u = false ∧ s.size = 0) ∧ okA ⟨n0, n1, n2, n3, (n4 : Int), tg, ys⟩ = true → RdS S ⟨n0, n1, n2, n3, (n4 : Int), tg, ys⟩ 0) := G1
        have HG2 : Hid (¬ ((u = false ∧ s.size = 0) ∧ okA ⟨n0, n1, n2, n3, (n4 : Int), tg, ys⟩ = true) → RdS S ⟨0, 0, 0, 0, 0, ⟨#[]⟩, []⟩ 4) := G2
        have ro := rows_low HO.out (show w.heap.size ≤ w.heap.size + 1 + 1 + 1 + 1 by omega)
        obtain ⟨av, cv, hv, hX⟩ := own_xal ro HY.out (fun x hx => by have := HZ.out x hx; omega)
        subst hv
        have HO2 : Hid (wr.ownsRow w.heap.size 56 2 (.slice av k cv) k (xav ys)) := ro
        have CK : Hid (Calls Tryd.prog 14 #[atV n0 n1 n2 n3 (n4 : Int) tg (.slice av k cv)] wr fun e w' => e = .returned (.int .i64 (ckE ⟨n0, n1, n2, n3, (n4 : Int), tg, ys⟩)) ∧ Below wr.heap.size wr w') := acheck_any n0 n1 n2 n3 (n4 : Int) tg ys av k cv wr hX HY.out (by omega) htz (HT.out.below RR.out.bel)
        have HAO : Hid (AtOk ⟨n0, n1, n2, n3, (n4 : Int), tg, ys⟩) := ⟨by (show n0 < 256; omega), by (show n1 < 4294967296; omega), by (show n2 < 4294967296; omega), by (show n3 < 4294967296; omega), ⟨by (show _ ≤ (n4 : Int); omega), by (show (n4 : Int) ≤ _; omega)⟩, htz, by (show ys.length ≤ _; rw [HY.out]; omega)⟩
        have e0 : wr.cell? ⟨w.heap.size + 1 + 1 + 1, 0, none⟩ = some (.int .u8 (n0 : Int)) := by rw [RR.out.ab.cell]; rfl
        have e1 : wr.cell? ⟨w.heap.size + 1 + 1 + 1, 1, none⟩ = some (.int .u32 (n1 : Int)) := by rw [RR.out.ab.cell]; rfl
        have e2 : wr.cell? ⟨w.heap.size + 1 + 1 + 1, 2, none⟩ = some (.int .u32 (n2 : Int)) := by rw [RR.out.ab.cell]; rfl
        have e3 : wr.cell? ⟨w.heap.size + 1 + 1 + 1, 3, none⟩ = some (.int .u32 (n3 : Int)) := by rw [RR.out.ab.cell]; rfl
        have e4 : wr.cell? ⟨w.heap.size + 1 + 1 + 1, 4, none⟩ = some (.int .i64 (n4 : Int)) := by rw [RR.out.ab.cell]; rfl
        have e5 : wr.cell? ⟨w.heap.size + 1 + 1 + 1, 5, none⟩ = some (.string tg) := by rw [RR.out.ab.cell]; rfl
        have e6 : wr.cell? ⟨w.heap.size + 1 + 1 + 1, 6, none⟩ = some (.slice av k cv) := by rw [RR.out.ab.cell]; rfl
        have HO3 : Hid (wr.ownsRow (w.heap.size + 1 + 1 + 1 + 1) 56 2 (.slice av k cv) k (xav ys)) := HO.out
        have HFT : Hid (∀ q, (!u && decide (s.size = 0)) = q → Calls Tryd.prog 29 #[.pointer (some ⟨w.heap.size + 1 + 1, 0, none⟩)] wr fun e w' => e = .returned (.bool q) ∧ w' = wr) := fun q hq => hq ▸ fits_any10 (w.heap.size + 1 + 1) (w.heap.size + 1) s u wr RR.out.ts zr
        have HRB : Hid (∀ u, Below wr.heap.size wr u → Bk u w.heap.size z7 28) := fun u hu => RR.out.rb.below hu RR.out.rb.lt
        have HBB : Hid (∀ u, Below wr.heap.size wr u → Below w.heap.size w u) := fun u hu => RR.out.bel.trans (hu.mono RR.out.bel.size)
        clear ro hX G1 G2 HO HL hk
        by_cases hf : u = false ∧ s.size = 0
        · have hq : (!u && decide (s.size = 0)) = true := by rw [hf.1, hf.2]; rfl
          have HFU := HFT.out true hq
          cases hok : okA ⟨n0, n1, n2, n3, (n4 : Int), tg, ys⟩ with
          | true =>
            have HR : Hid (RdS S ⟨n0, n1, n2, n3, (n4 : Int), tg, ys⟩ 0) := HG1.out ⟨hf, hok⟩
            have hc0 : ckE ⟨n0, n1, n2, n3, (n4 : Int), tg, ys⟩ = 0 := by unfold ckE; rw [hok]; rfl
            rw [hc0] at CK
            have HF2 : Hid _ := HFU
            clear hf hq hok hc0 HG1 HG2 HFU HFT
            go_wp2_with fail
            refine Calls.mono HF2.out ?_
            rintro e w12 ⟨rfl, hw⟩
            rw [hw]
            clear hw
            go_wp2_with fail
            refine CK.out.mono ?_
            rintro e w13 ⟨rfl, hb13⟩
            have HB13 : Hid (Below wr.heap.size wr w13) := hb13
            have hrb := HRB.out w13 hb13
            have HR13 : Hid (Bk w13 w.heap.size z7 28) := hrb
            have hfz : ∀ j, w13.frozen? ⟨w.heap.size, j, none⟩ = false := fun j => hrb.frozen j
            have y0 : w13.cell? ⟨w.heap.size, 0, none⟩ = some (.int .u8 0) := by rw [hrb.cell]; rfl
            have y1 : w13.cell? ⟨w.heap.size, 1, none⟩ = some (.int .u32 0) := by rw [hrb.cell]; rfl
            have y2 : w13.cell? ⟨w.heap.size, 2, none⟩ = some (.int .u32 0) := by rw [hrb.cell]; rfl
            have y3 : w13.cell? ⟨w.heap.size, 3, none⟩ = some (.int .u32 0) := by rw [hrb.cell]; rfl
            have y4 : w13.cell? ⟨w.heap.size, 4, none⟩ = some (.int .i64 0) := by rw [hrb.cell]; rfl
            have y5 : w13.cell? ⟨w.heap.size, 5, none⟩ = some (.string ⟨#[]⟩) := by rw [hrb.cell]; rfl
            have y6 : w13.cell? ⟨w.heap.size, 6, none⟩ = some (.slice none 0 0) := by rw [hrb.cell]; rfl
            have hab := RR.out.ab.below hb13 RR.out.ab.lt
            have e0 : w13.cell? ⟨w.heap.size + 1 + 1 + 1, 0, none⟩ = some (.int .u8 (n0 : Int)) := by rw [hab.cell]; rfl
            have e1 : w13.cell? ⟨w.heap.size + 1 + 1 + 1, 1, none⟩ = some (.int .u32 (n1 : Int)) := by rw [hab.cell]; rfl
            have e2 : w13.cell? ⟨w.heap.size + 1 + 1 + 1, 2, none⟩ = some (.int .u32 (n2 : Int)) := by rw [hab.cell]; rfl
            have e3 : w13.cell? ⟨w.heap.size + 1 + 1 + 1, 3, none⟩ = some (.int .u32 (n3 : Int)) := by rw [hab.cell]; rfl
            have e4 : w13.cell? ⟨w.heap.size + 1 + 1 + 1, 4, none⟩ = some (.int .i64 (n4 : Int)) := by rw [hab.cell]; rfl
            have e5 : w13.cell? ⟨w.heap.size + 1 + 1 + 1, 5, none⟩ = some (.string tg) := by rw [hab.cell]; rfl
            have e6 : w13.cell? ⟨w.heap.size + 1 + 1 + 1, 6, none⟩ = some (.slice av k cv) := by rw [hab.cell]; rfl
            clear hb13 hrb hab
            go_wp2
            have q1 := bk_st7 HR13.out (.int .u8 (n0 : Int)) (.int .u32 (n1 : Int)) (.int .u32 (n2 : Int)) (.int .u32 (n3 : Int)) (.int .i64 (n4 : Int)) (.string tg) (.slice av k cv)
            have q2 := gr_st7 w13 w.heap.size (.int .u8 (n0 : Int)) (.int .u32 (n1 : Int)) (.int .u32 (n2 : Int)) (.int .u32 (n3 : Int)) (.int .i64 (n4 : Int)) (.string tg) (.slice av k cv)
            have q3 : w13.ownsRow (w.heap.size + 1 + 1 + 1 + 1) 56 2 (.slice av k cv) k (xav ys) := rows_keep HO3.out (fun g _ h2 => HB13.out.block g h2)
            refine bodyPost_ret (res_cell_tmp rfl _ _ w.heap.size 28 (c7 n0 n1 n2 n3 (n4 : Int) tg (.slice av k cv)) (0, 0) _ rfl q1 Tryd.underlying28 rfl inf_attr) rfl ⟨⟨n0, n1, n2, n3, (n4 : Int), tg, ys⟩, _, 0, rfl, HR.out, HAO.out, ?_, HZ.out, below_own (HBB.out w13 HB13.out) (HBB.out w13 HB13.out).size q2 (Nat.le_refl _)⟩
            show World.ownsRow _ _ _ _ _ ys.length _
            rw [HY.out]
            exact rows_low (own_gr q3 q2 (by omega)) (by omega)
          | false =>
            have HR : Hid (RdS S ⟨0, 0, 0, 0, 0, ⟨#[]⟩, []⟩ 4) := HG2.out (fun h => by rw [hok] at h; cases h.2)
            have hc0 : ckE ⟨n0, n1, n2, n3, (n4 : Int), tg, ys⟩ = 1 := by unfold ckE; rw [hok]; rfl
            rw [hc0] at CK
            have HF2 : Hid _ := HFU
            clear hf hq hok hc0 HG1 HG2 HFU HFT
            go_wp2_with fail
            refine Calls.mono HF2.out ?_
            rintro e w12 ⟨rfl, hw⟩
            rw [hw]
            clear hw
            go_wp2_with fail
            refine CK.out.mono ?_
            rintro e w13 ⟨rfl, hb13⟩
            have HB13 : Hid (Below wr.heap.size wr w13) := hb13
            have hrb := HRB.out w13 hb13
            have HR13 : Hid (Bk w13 w.heap.size z7 28) := hrb
            have hfz : ∀ j, w13.frozen? ⟨w.heap.size, j, none⟩ = false := fun j => hrb.frozen j
            have y0 : w13.cell? ⟨w.heap.size, 0, none⟩ = some (.int .u8 0) := by rw [hrb.cell]; rfl
            have y1 : w13.cell? ⟨w.heap.size, 1, none⟩ = some (.int .u32 0) := by rw [hrb.cell]; rfl
            have y2 : w13.cell? ⟨w.heap.size, 2, none⟩ = some (.int .u32 0) := by rw [hrb.cell]; rfl
            have y3 : w13.cell? ⟨w.heap.size, 3, none⟩ = some (.int .u32 0) := by rw [hrb.cell]; rfl
            have y4 : w13.cell? ⟨w.heap.size, 4, none⟩ = some (.int .i64 0) := by rw [hrb.cell]; rfl
            have y5 : w13.cell? ⟨w.heap.size, 5, none⟩ = some (.string ⟨#[]⟩) := by rw [hrb.cell]; rfl
            have y6 : w13.cell? ⟨w.heap.size, 6, none⟩ = some (.slice none 0 0) := by rw [hrb.cell]; rfl
            clear hb13 hrb
            go_wp2
            have q1 := bk_st7 HR13.out (.int .u8 0) (.int .u32 0) (.int .u32 0) (.int .u32 0) (.int .i64 0) (.string ⟨#[]⟩) (.slice none 0 0)
            have q2 := gr_st7 w13 w.heap.size (.int .u8 0) (.int .u32 0) (.int .u32 0) (.int .u32 0) (.int .i64 0) (.string ⟨#[]⟩) (.slice none 0 0)
            exact bodyPost_ret (res_cell_tmp rfl _ _ w.heap.size 28 z7 (0, 0) _ rfl q1 Tryd.underlying28 rfl inf_attr) rfl ⟨⟨0, 0, 0, 0, 0, ⟨#[]⟩, []⟩, _, 4, rfl, HR.out, zok, rows_none, (fun x hx => nomatch hx), below_own (HBB.out w13 HB13.out) (HBB.out w13 HB13.out).size q2 (Nat.le_refl _)⟩
        · have hq : (!u && decide (s.size = 0)) = false := by
            cases u
            · have : s.size ≠ 0 := fun h => hf ⟨rfl, h⟩
              simp [this]
            · rfl
          have HFU := HFT.out false hq
          have HR : Hid (RdS S ⟨0, 0, 0, 0, 0, ⟨#[]⟩, []⟩ 4) := HG2.out (fun h => hf h.1)
          have HF2 : Hid _ := HFU
          clear hf hq HG1 HG2 HFU HFT CK
          go_wp2_with fail
          refine Calls.mono HF2.out ?_
          rintro e w13 ⟨rfl, hw⟩
          have hb13 : Below wr.heap.size wr w13 := by rw [hw]; exact Below.refl _ _
          clear hw
          have HB13 : Hid (Below wr.heap.size wr w13) := hb13
          have hrb := HRB.out w13 hb13
          have HR13 : Hid (Bk w13 w.heap.size z7 28) := hrb
          have hfz : ∀ j, w13.frozen? ⟨w.heap.size, j, none⟩ = false := fun j => hrb.frozen j
          have y0 : w13.cell? ⟨w.heap.size, 0, none⟩ = some (.int .u8 0) := by rw [hrb.cell]; rfl
          have y1 : w13.cell? ⟨w.heap.size, 1, none⟩ = some (.int .u32 0) := by rw [hrb.cell]; rfl
          have y2 : w13.cell? ⟨w.heap.size, 2, none⟩ = some (.int .u32 0) := by rw [hrb.cell]; rfl
          have y3 : w13.cell? ⟨w.heap.size, 3, none⟩ = some (.int .u32 0) := by rw [hrb.cell]; rfl
          have y4 : w13.cell? ⟨w.heap.size, 4, none⟩ = some (.int .i64 0) := by rw [hrb.cell]; rfl
          have y5 : w13.cell? ⟨w.heap.size, 5, none⟩ = some (.string ⟨#[]⟩) := by rw [hrb.cell]; rfl
          have y6 : w13.cell? ⟨w.heap.size, 6, none⟩ = some (.slice none 0 0) := by rw [hrb.cell]; rfl
          clear hb13 hrb
          go_wp2
          have q1 := bk_st7 HR13.out (.int .u8 0) (.int .u32 0) (.int .u32 0) (.int .u32 0) (.int .i64 0) (.string ⟨#[]⟩) (.slice none 0 0)
          have q2 := gr_st7 w13 w.heap.size (.int .u8 0) (.int .u32 0) (.int .u32 0) (.int .u32 0) (.int .i64 0) (.string ⟨#[]⟩) (.slice none 0 0)
          exact bodyPost_ret (res_cell_tmp rfl _ _ w.heap.size 28 z7 (0, 0) _ rfl q1 Tryd.underlying28 rfl inf_attr) rfl ⟨⟨0, 0, 0, 0, 0, ⟨#[]⟩, []⟩, _, 4, rfl, HR.out, zok, rows_none, (fun x hx => nomatch hx), below_own (HBB.out w13 HB13.out) (HBB.out w13 HB13.out).size q2 (Nat.le_refl _)⟩
  · have h3z : ((n0 : Int) == 3) = false := by simp; omega
    have H3 : Hid (¬ n0 = 3) := h3
    clear h3
    have htz : (⟨#[]⟩ : ByteArray).size ≤ 140737488351232 := Nat.zero_le _
    have HTG : Hid (n0 ≠ 3 → (⟨#[]⟩ : ByteArray) = ⟨#[]⟩) := fun h => rfl
    have PT : Hid (Prs S ([UInt8.ofNat n0] ++ e8 n1 ++ e8 n2 ++ e8 n3 ++ e8 n4) r6 (fun a => (((((a.nd = n0) ∧ a.md = n1) ∧ a.ui = n2) ∧ a.gi = n3) ∧ a.mt.toNat = n4) ∧ (n0 = 3 → a.tg = ⟨#[]⟩)) s6 u6) := P6.out.same _ _ (fun a _ q => ⟨by
        have hq : ¬ a.nd = 3 := by rw [q.1.1.1.1]; exact H3.out
        simp [r5, ltg, hq], q, fun h => absurd h H3.out⟩)
    go_wp2_with fail
    refine (number_any (w.heap.size + 1 + 1) (w.heap.size + 1) s6 u6 16 _ R6.out.ts z6 (by omega)).mono ?_
    rintro e w8 ⟨n5, s8, u8, rfl, ht, hk, hN⟩
    have hb5 := hN.bd
    have P8 : Hid (Prs S ([UInt8.ofNat n0] ++ e8 n1 ++ e8 n2 ++ e8 n3 ++ e8 n4 ++ e8 n5) r7 (fun a => ((((((a.nd = n0) ∧ a.md = n1) ∧ a.ui = n2) ∧ a.gi = n3) ∧ a.mt.toNat = n4) ∧ (n0 = 3 → a.tg = ⟨#[]⟩)) ∧ a.xs.length = n5) s8 u8) := PT.out.num hN (fun a => a.xs.length) r7 (fun a ha _ => ⟨(xsB_out (okA_out ha.ok).2.2.2.2).1, by have := (xsB_out (okA_out ha.ok).2.2.2.2).1; omega⟩) (fun a _ _ => rfl)
    have R8 : Hid (RS w s8 u8 (c7 n0 n1 n2 n3 (n4 : Int) ⟨#[]⟩ (.slice none 0 0)) w8) := R6.out.next ht hk
    obtain ⟨p, hp⟩ : ∃ p, [UInt8.ofNat n0] ++ e8 n1 ++ e8 n2 ++ e8 n3 ++ e8 n4 ++ e8 n5 = p := ⟨_, rfl⟩
    have HP : Hid ([UInt8.ofNat n0] ++ e8 n1 ++ e8 n2 ++ e8 n3 ++ e8 n4 ++ ltg n0 ⟨#[]⟩ ++ e8 n5 = p) := by show _ = _; rw [← hp]; simp [ltg, H3.out]
    rw [hp] at P8
    have L0 : Hid (Prs S (p ++ xsL []) (fun a => xsL (a.xs.drop 0)) (fun a => (((((((a.nd = n0) ∧ a.md = n1) ∧ a.ui = n2) ∧ a.gi = n3) ∧ a.mt.toNat = n4) ∧ (n0 = 3 → a.tg = ⟨#[]⟩)) ∧ a.xs.length = n5) ∧ a.xs.take 0 = []) s8 u8) := by
      show Prs _ _ _ _ _ _
      rw [show xsL [] = [] from rfl, List.append_nil]
      exact P8.out.same _ _ (fun a _ q => ⟨rfl, q, rfl⟩)
    clear ht hk hN R6 P8 hp PT
    go_wp2
    go_loopw [31] (fun x wr => ∃ (k : Nat) (ys : List (ByteArray × ByteArray)) (v : Value) (s : ByteArray) (u : Bool), x = .int .u64 (k : Int) ∧ k ≤ n5 ∧ Hid (ys.length = k) ∧ Hid (RS w s u (c7 n0 n1 n2 n3 (n4 : Int) ⟨#[]⟩ v) wr) ∧ Hid (wr.ownsRow (w.heap.size + 1 + 1 + 1 + 1) 56 2 v k (xav ys)) ∧ Hid (Prs S (p ++ xsL ys) (fun a => xsL (a.xs.drop k)) (fun a => (((((((a.nd = n0) ∧ a.md = n1) ∧ a.ui = n2) ∧ a.gi = n3) ∧ a.mt.toNat = n4) ∧ (n0 = 3 → a.tg = ⟨#[]⟩)) ∧ a.xs.length = n5) ∧ a.xs.take k = ys) s u) ∧ Hid (∀ x ∈ ys, x.1.size ≤ 255 ∧ x.2.size ≤ 4096)) (fun x _ => n5 - (intOf x).toNat)
    case atStart => exact ⟨0, [], _, s8, u8, rfl, Nat.zero_le _, rfl, R8.out, rows_none, L0.out, fun x hx => by cases hx⟩
    case round =>
      obtain ⟨k, ys, v, s, u, rfl, hk, HY, RR, HO, HL, HZ⟩ := hrel
      have zr : s.size ≤ 140737488351232 := Nat.le_trans HL.out.sz hs
      clear R8 L0
      by_cases hlt : k < n5
      · have hkz : (k : Int) < (n5 : Nat) := by omega
        go_wp2_with fail
        refine (ttext_any (w.heap.size + 1 + 1) (w.heap.size + 1) s u 255 _ RR.out.ts zr (by omega)).mono ?_
        rintro e w9 ⟨x, s9, u9, rfl, ht, hk9, hN9⟩
        have R9 : Hid (RS w s9 u9 (c7 n0 n1 n2 n3 (n4 : Int) ⟨#[]⟩ v) w9) := RR.out.next ht hk9
        have O9 : Hid (w9.ownsRow (w.heap.size + 1 + 1 + 1 + 1) 56 2 v k (xav ys)) := own_kt HO.out hk9 (by omega) (by omega)
        have N9 : Hid (TxtS s u 255 x s9 u9) := hN9
        have z9 : s9.size ≤ 140737488351232 := Nat.le_trans hN9.sz zr
        clear ht hk9 hN9 RR HO
        go_wp2_with fail
        refine (ttext_any (w.heap.size + 1 + 1) (w.heap.size + 1) s9 u9 4096 _ R9.out.ts z9 (by omega)).mono ?_
        rintro e w10 ⟨y, s10, u10, rfl, ht, hk10, hN10⟩
        have R10 : Hid (RS w s10 u10 (c7 n0 n1 n2 n3 (n4 : Int) ⟨#[]⟩ v) w10) := R9.out.next ht hk10
        have O10 : Hid (w10.ownsRow (w.heap.size + 1 + 1 + 1 + 1) 56 2 v k (xav ys)) := own_kt O9.out hk10 (by omega) (by omega)
        have L10 : Hid (Prs S (p ++ xsL (ys ++ [(x, y)])) (fun a => xsL (a.xs.drop (k + 1))) (fun a => (((((((a.nd = n0) ∧ a.md = n1) ∧ a.ui = n2) ∧ a.gi = n3) ∧ a.mt.toNat = n4) ∧ (n0 = 3 → a.tg = ⟨#[]⟩)) ∧ a.xs.length = n5) ∧ a.xs.take (k + 1) = ys ++ [(x, y)]) s10 u10) := HL.out.xat (F := fun a => (((((a.nd = n0) ∧ a.md = n1) ∧ a.ui = n2) ∧ a.gi = n3) ∧ a.mt.toNat = n4) ∧ (n0 = 3 → a.tg = ⟨#[]⟩)) hlt N9.out hN10
        have Z10 : Hid (∀ z ∈ ys ++ [(x, y)], z.1.size ≤ 255 ∧ z.2.size ≤ 4096) := fun z hz => by
          rcases List.mem_append.1 hz with h | h
          · exact HZ.out z h
          · rw [List.mem_singleton] at h; subst h; exact ⟨N9.out.bd, hN10.bd⟩
        clear ht hk10 hN10 R9 O9 N9 HL HZ
        have c10 : w10.cell? ⟨w.heap.size + 1 + 1 + 1, 6, none⟩ = some v := by rw [R10.out.ab.cell]; rfl
        have hz10 : w.heap.size + 1 + 1 + 1 < w10.heap.size := R10.out.ab.lt
        obtain ⟨i0, hi, hz0, hz1, hz2⟩ := info_parts inf_xattr
        go_wp2_with (at_builtin; refine wpList_append_own _ rfl _ _ 26 rfl (w.heap.size + 1 + 1 + 1 + 1) 56 i0 (.agg #[.string ⟨#[]⟩, .string ⟨#[]⟩]) 2 32 Tryd.underlying26 hi hz0 hz1 hz2 rfl (by decide) _ _ _ rfl (O10.out.alloc _) ⟨w10.heap.size, 0, none⟩ 1 1 [.string x, .string y] rfl rfl (new_two _ _ _ _) (one_two_s _ _) (by unfold maxLen; omega) (by omega) (by simp; omega) ?_)
        intro v' w11 hown hgrow _
        have hgr : ∀ b, v.ownBlock = some b → w.heap.size + 1 + 1 + 1 + 1 ≤ b := fun b hb => (rows_blk O10.out hb).1
        have hb0' : Below w10.heap.size w10 (w10.alloc (.cells #[.string x, .string y] 56)) := (Below.refl _ _).alloc (Nat.le_refl _) _
        have R11 : Hid (RS w s10 u10 (c7 n0 n1 n2 n3 (n4 : Int) ⟨#[]⟩ v) w11) := by
          have h := R10.out
          refine ⟨(h.ts.keep hb0').grown hgrow (fun e => ?_) (fun e => ?_), (h.ab.alloc _).grown hgrow (fun e => ?_), (h.rb.alloc _).grown hgrow (fun e => ?_), rows_bel (h.bel.alloc h.bel.size _) (by simp; omega) (O10.out.alloc _) (by omega) hgrow⟩
          all_goals (have := hgr _ e; omega)
        have O11 : Hid (w11.ownsRow (w.heap.size + 1 + 1 + 1 + 1) 56 2 v' (k + 1) (xav (ys ++ [(x, y)]))) := by
          show World.ownsRow _ _ _ _ _ _ _
          rw [xav_app]; exact hown
        have c11 : w11.cell? ⟨w.heap.size + 1 + 1 + 1, 6, none⟩ = some v := by rw [R11.out.ab.cell]; rfl
        have f11 := R11.out.ab.frozen 6
        have R12 : Hid (RS w s10 u10 (c7 n0 n1 n2 n3 (n4 : Int) ⟨#[]⟩ v') (w11.setCell ⟨w.heap.size + 1 + 1 + 1, 6, none⟩ v')) := R11.out.set 6 v'
        have O12 : Hid ((w11.setCell ⟨w.heap.size + 1 + 1 + 1, 6, none⟩ v').ownsRow (w.heap.size + 1 + 1 + 1 + 1) 56 2 v' (k + 1) (xav (ys ++ [(x, y)]))) := own_set O11.out (by omega)
        obtain ⟨g7, c7', hv⟩ : ∃ g7 c7, v' = .slice (some ⟨g7, 0, none⟩) (k + 1) c7 := by
          rcases hown.2 with ⟨_, h0⟩ | ⟨g7, c7, cur, h1, _⟩
          · omega
          · exact ⟨g7, c7, h1⟩
        subst hv
        clear hown hgrow hgr hb0' R10 O10 R11 O11 c10
        go_wp2
        go_roundw
        case rel => exact ⟨k + 1, ys ++ [(x, y)], _, s10, u10, by go_num, by omega, by (show _ = _; rw [List.length_append, HY.out]; rfl), R12.out, O12.out, L10.out, Z10.out⟩
        case measure => simp [intOf]; omega
      · have hkz : ¬ (k : Int) < (n5 : Nat) := by omega
        obtain rfl : k = n5 := by omega
        obtain ⟨G1, G2⟩ := Prs.fin (tg := ⟨#[]⟩) (by first | exact HTG.out | exact fun _ => rfl) HY.out (show n2 < 4294967296 by omega) (show n3 < 4294967296 by omega) (by rw [HP.out]; exact HL.out)
        have HG1 : Hid ((u = false ∧ s.size = 0) ∧ okA ⟨n0, n1, n2, n3, (n4 : Int), ⟨#[]⟩, ys⟩ = true → RdS S ⟨n0, n1, n2, n3, (n4 : Int), ⟨#[]⟩, ys⟩ 0) := G1
        have HG2 : Hid (¬ ((u = false ∧ s.size = 0) ∧ okA ⟨n0, n1, n2, n3, (n4 : Int), ⟨#[]⟩, ys⟩ = true) → RdS S ⟨0, 0, 0, 0, 0, ⟨#[]⟩, []⟩ 4) := G2
        have ro := rows_low HO.out (show w.heap.size ≤ w.heap.size + 1 + 1 + 1 + 1 by omega)
        obtain ⟨av, cv, hv, hX⟩ := own_xal ro HY.out (fun x hx => by have := HZ.out x hx; omega)
        subst hv
        have HO2 : Hid (wr.ownsRow w.heap.size 56 2 (.slice av k cv) k (xav ys)) := ro
        have CK : Hid (Calls Tryd.prog 14 #[atV n0 n1 n2 n3 (n4 : Int) ⟨#[]⟩ (.slice av k cv)] wr fun e w' => e = .returned (.int .i64 (ckE ⟨n0, n1, n2, n3, (n4 : Int), ⟨#[]⟩, ys⟩)) ∧ Below wr.heap.size wr w') := acheck_any n0 n1 n2 n3 (n4 : Int) ⟨#[]⟩ ys av k cv wr hX HY.out (by omega) htz (HT.out.below RR.out.bel)
        have HAO : Hid (AtOk ⟨n0, n1, n2, n3, (n4 : Int), ⟨#[]⟩, ys⟩) := ⟨by (show n0 < 256; omega), by (show n1 < 4294967296; omega), by (show n2 < 4294967296; omega), by (show n3 < 4294967296; omega), ⟨by (show _ ≤ (n4 : Int); omega), by (show (n4 : Int) ≤ _; omega)⟩, htz, by (show ys.length ≤ _; rw [HY.out]; omega)⟩
        have e0 : wr.cell? ⟨w.heap.size + 1 + 1 + 1, 0, none⟩ = some (.int .u8 (n0 : Int)) := by rw [RR.out.ab.cell]; rfl
        have e1 : wr.cell? ⟨w.heap.size + 1 + 1 + 1, 1, none⟩ = some (.int .u32 (n1 : Int)) := by rw [RR.out.ab.cell]; rfl
        have e2 : wr.cell? ⟨w.heap.size + 1 + 1 + 1, 2, none⟩ = some (.int .u32 (n2 : Int)) := by rw [RR.out.ab.cell]; rfl
        have e3 : wr.cell? ⟨w.heap.size + 1 + 1 + 1, 3, none⟩ = some (.int .u32 (n3 : Int)) := by rw [RR.out.ab.cell]; rfl
        have e4 : wr.cell? ⟨w.heap.size + 1 + 1 + 1, 4, none⟩ = some (.int .i64 (n4 : Int)) := by rw [RR.out.ab.cell]; rfl
        have e5 : wr.cell? ⟨w.heap.size + 1 + 1 + 1, 5, none⟩ = some (.string ⟨#[]⟩) := by rw [RR.out.ab.cell]; rfl
        have e6 : wr.cell? ⟨w.heap.size + 1 + 1 + 1, 6, none⟩ = some (.slice av k cv) := by rw [RR.out.ab.cell]; rfl
        have HO3 : Hid (wr.ownsRow (w.heap.size + 1 + 1 + 1 + 1) 56 2 (.slice av k cv) k (xav ys)) := HO.out
        have HFT : Hid (∀ q, (!u && decide (s.size = 0)) = q → Calls Tryd.prog 29 #[.pointer (some ⟨w.heap.size + 1 + 1, 0, none⟩)] wr fun e w' => e = .returned (.bool q) ∧ w' = wr) := fun q hq => hq ▸ fits_any10 (w.heap.size + 1 + 1) (w.heap.size + 1) s u wr RR.out.ts zr
        have HRB : Hid (∀ u, Below wr.heap.size wr u → Bk u w.heap.size z7 28) := fun u hu => RR.out.rb.below hu RR.out.rb.lt
        have HBB : Hid (∀ u, Below wr.heap.size wr u → Below w.heap.size w u) := fun u hu => RR.out.bel.trans (hu.mono RR.out.bel.size)
        clear ro hX G1 G2 HO HL hk
        by_cases hf : u = false ∧ s.size = 0
        · have hq : (!u && decide (s.size = 0)) = true := by rw [hf.1, hf.2]; rfl
          have HFU := HFT.out true hq
          cases hok : okA ⟨n0, n1, n2, n3, (n4 : Int), ⟨#[]⟩, ys⟩ with
          | true =>
            have HR : Hid (RdS S ⟨n0, n1, n2, n3, (n4 : Int), ⟨#[]⟩, ys⟩ 0) := HG1.out ⟨hf, hok⟩
            have hc0 : ckE ⟨n0, n1, n2, n3, (n4 : Int), ⟨#[]⟩, ys⟩ = 0 := by unfold ckE; rw [hok]; rfl
            rw [hc0] at CK
            have HF2 : Hid _ := HFU
            clear hf hq hok hc0 HG1 HG2 HFU HFT
            go_wp2_with fail
            refine Calls.mono HF2.out ?_
            rintro e w12 ⟨rfl, hw⟩
            rw [hw]
            clear hw
            go_wp2_with fail
            refine CK.out.mono ?_
            rintro e w13 ⟨rfl, hb13⟩
            have HB13 : Hid (Below wr.heap.size wr w13) := hb13
            have hrb := HRB.out w13 hb13
            have HR13 : Hid (Bk w13 w.heap.size z7 28) := hrb
            have hfz : ∀ j, w13.frozen? ⟨w.heap.size, j, none⟩ = false := fun j => hrb.frozen j
            have y0 : w13.cell? ⟨w.heap.size, 0, none⟩ = some (.int .u8 0) := by rw [hrb.cell]; rfl
            have y1 : w13.cell? ⟨w.heap.size, 1, none⟩ = some (.int .u32 0) := by rw [hrb.cell]; rfl
            have y2 : w13.cell? ⟨w.heap.size, 2, none⟩ = some (.int .u32 0) := by rw [hrb.cell]; rfl
            have y3 : w13.cell? ⟨w.heap.size, 3, none⟩ = some (.int .u32 0) := by rw [hrb.cell]; rfl
            have y4 : w13.cell? ⟨w.heap.size, 4, none⟩ = some (.int .i64 0) := by rw [hrb.cell]; rfl
            have y5 : w13.cell? ⟨w.heap.size, 5, none⟩ = some (.string ⟨#[]⟩) := by rw [hrb.cell]; rfl
            have y6 : w13.cell? ⟨w.heap.size, 6, none⟩ = some (.slice none 0 0) := by rw [hrb.cell]; rfl
            have hab := RR.out.ab.below hb13 RR.out.ab.lt
            have e0 : w13.cell? ⟨w.heap.size + 1 + 1 + 1, 0, none⟩ = some (.int .u8 (n0 : Int)) := by rw [hab.cell]; rfl
            have e1 : w13.cell? ⟨w.heap.size + 1 + 1 + 1, 1, none⟩ = some (.int .u32 (n1 : Int)) := by rw [hab.cell]; rfl
            have e2 : w13.cell? ⟨w.heap.size + 1 + 1 + 1, 2, none⟩ = some (.int .u32 (n2 : Int)) := by rw [hab.cell]; rfl
            have e3 : w13.cell? ⟨w.heap.size + 1 + 1 + 1, 3, none⟩ = some (.int .u32 (n3 : Int)) := by rw [hab.cell]; rfl
            have e4 : w13.cell? ⟨w.heap.size + 1 + 1 + 1, 4, none⟩ = some (.int .i64 (n4 : Int)) := by rw [hab.cell]; rfl
            have e5 : w13.cell? ⟨w.heap.size + 1 + 1 + 1, 5, none⟩ = some (.string ⟨#[]⟩) := by rw [hab.cell]; rfl
            have e6 : w13.cell? ⟨w.heap.size + 1 + 1 + 1, 6, none⟩ = some (.slice av k cv) := by rw [hab.cell]; rfl
            clear hb13 hrb hab
            go_wp2
            have q1 := bk_st7 HR13.out (.int .u8 (n0 : Int)) (.int .u32 (n1 : Int)) (.int .u32 (n2 : Int)) (.int .u32 (n3 : Int)) (.int .i64 (n4 : Int)) (.string ⟨#[]⟩) (.slice av k cv)
            have q2 := gr_st7 w13 w.heap.size (.int .u8 (n0 : Int)) (.int .u32 (n1 : Int)) (.int .u32 (n2 : Int)) (.int .u32 (n3 : Int)) (.int .i64 (n4 : Int)) (.string ⟨#[]⟩) (.slice av k cv)
            have q3 : w13.ownsRow (w.heap.size + 1 + 1 + 1 + 1) 56 2 (.slice av k cv) k (xav ys) := rows_keep HO3.out (fun g _ h2 => HB13.out.block g h2)
            refine bodyPost_ret (res_cell_tmp rfl _ _ w.heap.size 28 (c7 n0 n1 n2 n3 (n4 : Int) ⟨#[]⟩ (.slice av k cv)) (0, 0) _ rfl q1 Tryd.underlying28 rfl inf_attr) rfl ⟨⟨n0, n1, n2, n3, (n4 : Int), ⟨#[]⟩, ys⟩, _, 0, rfl, HR.out, HAO.out, ?_, HZ.out, below_own (HBB.out w13 HB13.out) (HBB.out w13 HB13.out).size q2 (Nat.le_refl _)⟩
            show World.ownsRow _ _ _ _ _ ys.length _
            rw [HY.out]
            exact rows_low (own_gr q3 q2 (by omega)) (by omega)
          | false =>
            have HR : Hid (RdS S ⟨0, 0, 0, 0, 0, ⟨#[]⟩, []⟩ 4) := HG2.out (fun h => by rw [hok] at h; cases h.2)
            have hc0 : ckE ⟨n0, n1, n2, n3, (n4 : Int), ⟨#[]⟩, ys⟩ = 1 := by unfold ckE; rw [hok]; rfl
            rw [hc0] at CK
            have HF2 : Hid _ := HFU
            clear hf hq hok hc0 HG1 HG2 HFU HFT
            go_wp2_with fail
            refine Calls.mono HF2.out ?_
            rintro e w12 ⟨rfl, hw⟩
            rw [hw]
            clear hw
            go_wp2_with fail
            refine CK.out.mono ?_
            rintro e w13 ⟨rfl, hb13⟩
            have HB13 : Hid (Below wr.heap.size wr w13) := hb13
            have hrb := HRB.out w13 hb13
            have HR13 : Hid (Bk w13 w.heap.size z7 28) := hrb
            have hfz : ∀ j, w13.frozen? ⟨w.heap.size, j, none⟩ = false := fun j => hrb.frozen j
            have y0 : w13.cell? ⟨w.heap.size, 0, none⟩ = some (.int .u8 0) := by rw [hrb.cell]; rfl
            have y1 : w13.cell? ⟨w.heap.size, 1, none⟩ = some (.int .u32 0) := by rw [hrb.cell]; rfl
            have y2 : w13.cell? ⟨w.heap.size, 2, none⟩ = some (.int .u32 0) := by rw [hrb.cell]; rfl
            have y3 : w13.cell? ⟨w.heap.size, 3, none⟩ = some (.int .u32 0) := by rw [hrb.cell]; rfl
            have y4 : w13.cell? ⟨w.heap.size, 4, none⟩ = some (.int .i64 0) := by rw [hrb.cell]; rfl
            have y5 : w13.cell? ⟨w.heap.size, 5, none⟩ = some (.string ⟨#[]⟩) := by rw [hrb.cell]; rfl
            have y6 : w13.cell? ⟨w.heap.size, 6, none⟩ = some (.slice none 0 0) := by rw [hrb.cell]; rfl
            clear hb13 hrb
            go_wp2
            have q1 := bk_st7 HR13.out (.int .u8 0) (.int .u32 0) (.int .u32 0) (.int .u32 0) (.int .i64 0) (.string ⟨#[]⟩) (.slice none 0 0)
            have q2 := gr_st7 w13 w.heap.size (.int .u8 0) (.int .u32 0) (.int .u32 0) (.int .u32 0) (.int .i64 0) (.string ⟨#[]⟩) (.slice none 0 0)
            exact bodyPost_ret (res_cell_tmp rfl _ _ w.heap.size 28 z7 (0, 0) _ rfl q1 Tryd.underlying28 rfl inf_attr) rfl ⟨⟨0, 0, 0, 0, 0, ⟨#[]⟩, []⟩, _, 4, rfl, HR.out, zok, rows_none, (fun x hx => nomatch hx), below_own (HBB.out w13 HB13.out) (HBB.out w13 HB13.out).size q2 (Nat.le_refl _)⟩
        · have hq : (!u && decide (s.size = 0)) = false := by
            cases u
            · have : s.size ≠ 0 := fun h => hf ⟨rfl, h⟩
              simp [this]
            · rfl
          have HFU := HFT.out false hq
          have HR : Hid (RdS S ⟨0, 0, 0, 0, 0, ⟨#[]⟩, []⟩ 4) := HG2.out (fun h => hf h.1)
          have HF2 : Hid _ := HFU
          clear hf hq HG1 HG2 HFU HFT CK
          go_wp2_with fail
          refine Calls.mono HF2.out ?_
          rintro e w13 ⟨rfl, hw⟩
          have hb13 : Below wr.heap.size wr w13 := by rw [hw]; exact Below.refl _ _
          clear hw
          have HB13 : Hid (Below wr.heap.size wr w13) := hb13
          have hrb := HRB.out w13 hb13
          have HR13 : Hid (Bk w13 w.heap.size z7 28) := hrb
          have hfz : ∀ j, w13.frozen? ⟨w.heap.size, j, none⟩ = false := fun j => hrb.frozen j
          have y0 : w13.cell? ⟨w.heap.size, 0, none⟩ = some (.int .u8 0) := by rw [hrb.cell]; rfl
          have y1 : w13.cell? ⟨w.heap.size, 1, none⟩ = some (.int .u32 0) := by rw [hrb.cell]; rfl
          have y2 : w13.cell? ⟨w.heap.size, 2, none⟩ = some (.int .u32 0) := by rw [hrb.cell]; rfl
          have y3 : w13.cell? ⟨w.heap.size, 3, none⟩ = some (.int .u32 0) := by rw [hrb.cell]; rfl
          have y4 : w13.cell? ⟨w.heap.size, 4, none⟩ = some (.int .i64 0) := by rw [hrb.cell]; rfl
          have y5 : w13.cell? ⟨w.heap.size, 5, none⟩ = some (.string ⟨#[]⟩) := by rw [hrb.cell]; rfl
          have y6 : w13.cell? ⟨w.heap.size, 6, none⟩ = some (.slice none 0 0) := by rw [hrb.cell]; rfl
          clear hb13 hrb
          go_wp2
          have q1 := bk_st7 HR13.out (.int .u8 0) (.int .u32 0) (.int .u32 0) (.int .u32 0) (.int .i64 0) (.string ⟨#[]⟩) (.slice none 0 0)
          have q2 := gr_st7 w13 w.heap.size (.int .u8 0) (.int .u32 0) (.int .u32 0) (.int .u32 0) (.int .i64 0) (.string ⟨#[]⟩) (.slice none 0 0)
          exact bodyPost_ret (res_cell_tmp rfl _ _ w.heap.size 28 z7 (0, 0) _ rfl q1 Tryd.underlying28 rfl inf_attr) rfl ⟨⟨0, 0, 0, 0, 0, ⟨#[]⟩, []⟩, _, 4, rfl, HR.out, zok, rows_none, (fun x hx => nomatch hx), below_own (HBB.out w13 HB13.out) (HBB.out w13 HB13.out).size q2 (Nat.le_refl _)⟩
end Go.Proofs.YtcfniaknbbgheaaDoor
