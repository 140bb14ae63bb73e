import Derived.Test.YtahpaekiehdejabDoorY19
import Derived.Test.YtahpaekiehdejabDoorY11
/- The document's own Scan (munimentref11). -/
namespace Go.Proofs.YtahpaekiehdejabDoor
open Go.RowKit
set_option linter.unusedSimpArgs false
set_option linter.unusedVariables false
/-- How many bytes records have. -/
def sumE : List Ent → Nat
  | [] => 0
  | e :: l => 9 + e.sz + sumE l
theorem sumE_append : ∀ a b : List Ent, sumE (a ++ b) = sumE a + sumE b
  | [], b => by simp [sumE]
  | e :: a, b => by rw [List.cons_append, sumE, sumE, sumE_append a b]; omega
theorem sumE_take (l : List Ent) (k : Nat) (e : Ent) (h : l[k]? = some e) : sumE (l.take (k + 1)) = sumE (l.take k) + (9 + e.sz) := by
  rw [List.take_add_one, h, Option.toList_some, sumE_append]; simp [sumE]
theorem Rn.off {tk : List Ent → Ent → Bool} {s : ByteArray} {a : Nat} {l : List Ent} (h : Rn tk s a l) : a = 4 + sumE l := by
  induction h with
  | z => rfl
  | st h1 h2 h3 ih => rw [sumE_append]; simp only [sumE]; omega
theorem Rn.bds {tk : List Ent → Ent → Bool} {s : ByteArray} {a : Nat} {l : List Ent} (h : Rn tk s a l) (hs : 4 ≤ s.size) : ∀ x ∈ l, x.sz ≤ 2097152 ∧ x.off ≤ s.size := by
  induction h with
  | z => intro x hx; simp at hx
  | @st a l h1 h2 h3 ih =>
    intro x hx
    rcases List.mem_append.1 hx with hx | hx
    · exact ih x hx
    · rw [List.mem_singleton.1 hx]
      have hf := (at_fits h2).2.2
      have hl := (h1.le hs).2.1
      have e1 : (enA s a).sz = (atO (frmO s a)).p.size := by simp only [enA]
      have e2 : (enA s a).off = a := by simp only [enA]
      rw [e1, e2]
      generalize (atO (frmO s a)).p.size = z at hf
      exact ⟨hf, hl⟩
/-- No two have one name. -/
def dsE (l : List Ent) : Prop := ∀ i e, l[i]? = some e → hasE (l.take i) e.id = false
theorem dsE_snoc {l : List Ent} {e : Ent} : dsE (l ++ [e]) ↔ dsE l ∧ hasE l e.id = false := by
  constructor
  · intro h
    refine ⟨fun i x hi => ?_, ?_⟩
    · have hlt := (List.getElem?_eq_some_iff.1 hi).1
      have := h i x (by rw [List.getElem?_append_left hlt]; exact hi)
      rwa [List.take_append_of_le_length (by omega)] at this
    · have := h l.length e (by simp)
      rwa [List.take_left'] at this
      rfl
  · rintro ⟨h1, h2⟩ i x hi
    by_cases hlt : i < l.length
    · rw [List.getElem?_append_left hlt] at hi
      rw [List.take_append_of_le_length (by omega)]
      exact h1 i x hi
    · have hil : i < (l ++ [e]).length := (List.getElem?_eq_some_iff.1 hi).1
      rw [List.length_append, List.length_singleton] at hil
      obtain rfl : i = l.length := by omega
      rw [List.take_left' rfl]
      have : x = e := by simpa using hi.symm
      rw [this]; exact h2
theorem tkS_iff (l : List Ent) (e : Ent) : tkS l e = true ↔ hasE l e.id = false ∧ tkA l e = true := by
  simp [tkS, tkA]
theorem Rn.toA {s : ByteArray} {a : Nat} {l : List Ent} (h : Rn tkS s a l) : Rn tkA s a l ∧ dsE l := by
  induction h with
  | z => exact ⟨.z, fun i e h => by simp at h⟩
  | st h1 h2 h3 ih =>
    obtain ⟨q1, q2⟩ := (tkS_iff _ _).1 h3
    exact ⟨.st ih.1 h2 q2, dsE_snoc.2 ⟨ih.2, q1⟩⟩
theorem Rn.toS {s : ByteArray} {a : Nat} {l : List Ent} (h : Rn tkA s a l) (hd : dsE l) : Rn tkS s a l := by
  induction h with
  | z => exact .z
  | st h1 h2 h3 ih =>
    obtain ⟨q1, q2⟩ := dsE_snoc.1 hd
    exact .st (ih q1) h2 ((tkS_iff _ _).2 ⟨q2, h3⟩)
theorem Rn.small {s : ByteArray} {a : Nat} {l : List Ent} (h : Rn tkA s a l) : l.length ≤ 65536 := by
  induction h with
  | z => simp
  | @st a l h1 h2 h3 ih =>
    have : ¬ l.length = 65536 := by simpa [tkA] using h3
    rw [List.length_append, List.length_singleton]; omega
theorem scan_is {s : ByteArray} {a : Nat} {l : List Ent} (hz : s.size ≤ 67108864) (hp : pmB s = true) (h : Stk tkA s a l) (hd : dsE l) (ht : frmO s a = trl l.length) : ScA s l 0 := by
  refine .inl ⟨rfl, hz, hp, a, ⟨h.1.toS hd, ?_⟩, ht⟩
  have hs := h.1.small
  have := (at_trl l.length (frmO s a) ⟨#[]⟩ (by omega) (by rw [ht]; apply bl_inj; rw [bl_append]; simp [bl])).1
  rw [this]; simp
theorem scan_not {s : ByteArray} {a : Nat} {l : List Ent} (h : Stk tkA s a l) (hn : ¬ (dsE l ∧ frmO s a = trl l.length)) : ScA s [] 4 := by
  refine .inr ⟨rfl, rfl, fun m hm => hn ?_⟩
  obtain ⟨_, _, b, h1, h2⟩ := hm
  obtain ⟨q1, q2⟩ := h1.1.toA
  have hs := q1.small
  have hat := (at_trl m.length (frmO s b) ⟨#[]⟩ (by omega) (by rw [h2]; apply bl_inj; rw [bl_append]; simp [bl])).1
  obtain ⟨rfl, rfl⟩ := Stk.one h ⟨q1, by rw [hat]; simp⟩
  exact ⟨q2, h2⟩
/-- The document's entries of a slice. -/
def EnLr (w : World) (a : Option Addr) (l : List Ent) : Prop :=
  ∀ i e, l[i]? = some e → ∃ g z C, a = some ⟨g, z, none⟩ ∧ Bk w g C 76 ∧ ∀ j x, (enC e)[j]? = some x → C[z + i * 35 + j]? = some x
theorem EnLr.below {w w' : World} {a : Option Addr} {l : List Ent} (h : EnLr w a l) (hb : Below w.heap.size w w') : EnLr w' a l := fun i e he => by
  obtain ⟨g, z, C, h1, h2, h3⟩ := h i e he
  exact ⟨g, z, C, h1, h2.below hb h2.lt, h3⟩
theorem row_enlr {w : World} {B n : Nat} {v : Value} {l : List Ent} (h : w.ownsRow B 76 35 v n (env l)) (hn : l.length = n) (hi : ∀ x ∈ l, x.id.size = 32) : ∃ a c, v = .slice a n c ∧ EnLr w a l := by
  rcases h.2 with ⟨rfl, h0⟩ | ⟨g, cap, cur, rfl, hle, hg, hnc, _, hc, ht⟩
  · subst h0
    have : l = [] := List.eq_nil_of_length_eq_zero hn
    subst this
    exact ⟨none, 0, rfl, fun i x hx => by simp at hx⟩
  · refine ⟨some ⟨g, 0, none⟩, cap, rfl, fun i e he => ⟨g, 0, cur, rfl, hg, fun j x hj => ?_⟩⟩
    have hil : i < l.length := (List.getElem?_eq_some_iff.1 he).1
    have hjl : j < 35 := by rw [← enC_size e (hi e (List.mem_of_getElem? he))]; exact (Array.getElem?_eq_some_iff.1 hj).1
    have q := env_get l i e hi he j x hj
    rw [← ht, List.getElem?_take, if_pos (by omega), Array.getElem?_toList] at q
    rw [Nat.zero_add]; exact q
/-- The document's names met. -/
structure RmS (w0 : World) (m : Nat) (d : List ByteArray) (w : World) : Prop where
  st : St isI w m d
  mlb : w0.heap.size ≤ m
  bel : Below w0.heap.size w0 w
theorem RmS.keep {w0 w w' : World} {m : Nat} {d : List ByteArray} (h : RmS w0 m d w) (hb : Below w.heap.size w w') : RmS w0 m d w' :=
  ⟨h.st.below hb, h.mlb, h.bel.trans (hb.mono h.bel.size)⟩
theorem RmS.look {w0 w : World} {m : Nat} {l : List Ent} (h : RmS w0 m (l.map (·.id)) w) (x : ByteArray) (hx : x.size = 32) : ∃ n : Int, (Instr.lookup 122 (.map (some m)) (.agg (idc x)) true).run Tryd.prog w = .ok (.tuple #[.int .i64 n, .bool (hasE l x)]) w := by
  obtain ⟨v, h1, n, rfl⟩ := h.st.look Tryd.underlying122 (zero_int11 _) ⟨0, rfl⟩ x hx
  rw [hasE_on] at h1
  exact ⟨n, h1⟩
theorem RmS.put {w0 w : World} {m : Nat} {d : List ByteArray} (h : RmS w0 m d w) (hn : d.length < 1048576) (x : ByteArray) (hx : x.size = 32) (n : Int) :
    ∃ w', (Instr.mapUpdate 122 (.map (some m)) (.agg (idc x)) (.int .i64 n)).run Tryd.prog w = .ok () w' ∧ RmS w0 m (d ++ [x]) w' ∧ (∀ b C T, Bk w b C T → Bk w' b C T) ∧ (∀ {B k nn v xs T}, w.ownsRow B T k v nn xs → w'.ownsRow B T k v nn xs) := by
  obtain ⟨w', h1, h2, h3⟩ := h.st.put Tryd.underlying122 hn x hx (.int .i64 n) ⟨n, rfl⟩
  obtain ⟨es, c, hm⟩ := h.st.isMap
  have hk : ∀ b C T, Bk w b C T → Bk w' b C T := fun b C T hb => hb.grown h3 (fun q => by
    injection q with q
    subst q
    have hb' : w.heap[m]? = some (.cells C T (0, 0)) := hb
    rw [hm] at hb'; cases hb')
  refine ⟨w', h1, ⟨h2, h.mlb, below_own h.bel h.bel.size h3 h.mlb⟩, hk, fun {B k nn v xs T} ho => ⟨ho.1, ?_⟩⟩
  rcases ho.2 with q | ⟨g, cap, cur, q1, q2, hc, q3⟩
  · exact .inl q
  · exact .inr ⟨g, cap, cur, q1, q2, hk g cur T hc, q3⟩
set_option maxHeartbeats 4000000 in
set_option maxRecDepth 100000 in
theorem rscan_yes (s : ByteArray) (w : World) (hs : s.size ≤ 67108864) (hp : pmB s = true) :
    Calls Tryd.prog 17 #[.string s] w fun e w' => ∃ l v er, e = .returned (.tuple #[v, .int .i64 er]) ∧ ScA s l er ∧ w'.ownsRow w.heap.size 76 35 v l.length (env l) ∧ Below w.heap.size w w' := by
  have hmk : (⟨#[109, 112, 107, 49]⟩ : ByteArray) = mkB := rfl
  have hmm := @run_makeMap Tryd.prog
  obtain ⟨h4, hx4⟩ := (pm_doc s).1 hp
  have HPM : Hid (pmB s = true) := hp
  have h4z : ¬ (s.size : Int) < 4 := by omega
  have h4y : (4 : Int) ≤ (s.size : Int) := by omega
  have h26 : ¬ (67108864 : Int) < (s.size : Int) := by omega
  have hee : (mkB.toList != mkB.toList) = false := by simp
  clear hp
  go_enter Tryd.func17, Tryd.ntmps17
  go_wp2_with fail
  refine (rsalv_any s w (by omega)).mono ?_
  rintro e w1 ⟨l, v, rfl, hsv, how, hb1⟩
  rcases hsv with ⟨q, _⟩ | ⟨_, a, hstk⟩
  · rw [HPM.out] at q; cases q
  obtain ⟨N, hN⟩ : ∃ N, l.length = N := ⟨_, rfl⟩
  have hids := hstk.1.ids
  have hbds := hstk.1.bds h4
  rw [hN] at how
  obtain ⟨am, cm, rfl, hel⟩ := row_enlr how hN hids
  have hN6 : N ≤ 65536 := by rw [← hN]; exact hstk.1.small
  have HST : Hid (Stk tkA s a l) := hstk
  have HBD : Hid ((∀ x ∈ l, x.id.size = 32) ∧ (∀ x ∈ l, x.sz ≤ 2097152 ∧ x.off ≤ s.size)) := ⟨hids, hbds⟩
  have HNl : Hid (l.length = N) := hN
  have hale : a ≤ s.size := (hstk.1.le h4).2.1
  have HOF : Hid (a = 4 + sumE l) := hstk.1.off
  have HR0 : Hid (RmS w w1.heap.size (([] : List Ent).map (·.id)) (w1.alloc (.map #[] 0)) ∧ EnLr (w1.alloc (.map #[] 0)) am l ∧ (w1.alloc (.map #[] 0)).ownsRow w.heap.size 76 35 (.slice am N cm) N (env l)) :=
    ⟨⟨St.made _ w1, hb1.size, hb1.alloc hb1.size _⟩, hel.below ((Below.refl _ _).alloc (Nat.le_refl _) _), how.alloc _⟩
  clear hstk how hb1 hel hids hbds hN
  go_wp2
  go_loopw [5, 7] (fun x v wr => ∃ (k b : Nat), x = .int .i64 b ∧ v = .int .i64 k ∧ k ≤ N ∧ b ≤ s.size ∧ Hid (b = 4 + sumE (l.take k) ∧ dsE (l.take k) ∧ RmS w w1.heap.size ((l.take k).map (·.id)) wr ∧ EnLr wr am l ∧ wr.ownsRow w.heap.size 76 35 (.slice am N cm) N (env l))) (fun x v _ => N - (intOf v).toNat)
  case atStart => exact ⟨0, 4, rfl, rfl, Nat.zero_le _, h4, by rw [List.take_zero]; rfl, by rw [List.take_zero]; exact fun i e h => by simp at h, by rw [List.take_zero]; exact HR0.out.1, HR0.out.2.1, HR0.out.2.2⟩
  case round =>
    obtain ⟨k, b, rfl, rfl, hk, hb, HR⟩ := hrel
    by_cases hlt : k < N
    · have hkz : (k : Int) < (N : Nat) := by omega
      obtain ⟨e, he⟩ : ∃ e, l[k]? = some e := ⟨l[k]'(by rw [HNl.out]; exact hlt), List.getElem?_eq_getElem _⟩
      have hmem := List.mem_of_getElem? he
      obtain ⟨g, z, C, rfl, hBk, hC⟩ := HR.out.2.2.2.1 k e he
      have hez := HBD.out.1 e hmem
      have heb := HBD.out.2 e hmem
      have HEk : Hid (l[k]? = some e) := he
      have hi35 := info_enR (enC_size e hez)
      have hi32 : (Tryd.prog.info? 29).map (·.size) = some (idc e.id).size := info_32 (by rw [idc_size, hez])
      have HID : Hid (∀ j v, (idc e.id)[j]? = some v → C[z + k * 35 + j]? = some v) := fun j v hv => hC j v (by have := enC_id e hez j v hv; rwa [Nat.zero_add] at this)
      have HEN : Hid (∀ j v, (enC e)[j]? = some v → C[z + k * 35 + j]? = some v) := hC
      obtain ⟨nn, hlook⟩ := HR.out.2.2.1.look e.id hez
      have HK : Hid (Bk wr g C 76) := hBk
      clear he hmem hBk hC HR0 hmm
      cases hh : hasE (l.take k) e.id with
      | true =>
        have HND : Hid (¬ dsE l) := fun h => by
          have := h k e HEk.out
          rw [hh] at this; cases this
        have HB : Hid (Below w.heap.size w wr) := HR.out.2.2.1.bel
        rw [hh] at hlook
        clear hh HR
        go_wp2_with (first
          | (refine wpList_get rfl 29 (.tmp 39) rfl g (z + k * 35) C (idc e.id) 76 _ rfl HK.out HID.out Tryd.underlying29 rfl hi32 ?_)
          | fail)
        go_ret2
        exact ⟨[], _, 4, rfl, scan_not HST.out (fun h => HND.out h.1), rows_none, HB.out⟩
      | false =>
        have hds : dsE (l.take (k + 1)) := by
          rw [List.take_add_one, HEk.out, Option.toList_some]
          exact dsE_snoc.2 ⟨HR.out.2.1, hh⟩
        have htl : ((l.take k).map (·.id)).length < 1048576 := by rw [List.length_map, List.length_take]; omega
        obtain ⟨w7, hput, h7, hkk, hro⟩ := HR.out.2.2.1.put htl e.id hez (k : Int)
        have HK7 : Hid (Bk w7 g C 76) := hkk _ _ _ HK.out
        have hsum := sumE_take l k e HEk.out
        have hle : 4 + sumE (l.take (k + 1)) ≤ s.size := by
          have h1 : sumE (l.take (k + 1)) + sumE (l.drop (k + 1)) = sumE l := by rw [← sumE_append, List.take_append_drop]
          have := HOF.out
          omega
        obtain ⟨b', hb'⟩ : ∃ b', b' = b + (9 + e.sz) := ⟨_, rfl⟩
        have hb'' : b' = 4 + sumE (l.take (k + 1)) := by rw [hb', HR.out.1, hsum]; omega
        have hbz : b' ≤ s.size := by omega
        have hbi : (b : Int) + (9 + (e.sz : Int)) = (b' : Int) := by omega
        have HN7 : Hid (b' = 4 + sumE (l.take (k + 1)) ∧ dsE (l.take (k + 1)) ∧ RmS w w1.heap.size ((l.take (k + 1)).map (·.id)) w7 ∧ EnLr w7 (some ⟨g, z, none⟩) l ∧ w7.ownsRow w.heap.size 76 35 (.slice (some ⟨g, z, none⟩) N cm) N (env l)) := by
          refine ⟨hb'', hds, ?_, fun i x hx => ?_, hro HR.out.2.2.2.2⟩
          · rw [List.take_add_one, HEk.out, Option.toList_some, List.map_append]; exact h7
          · obtain ⟨g', z', C', q1, q2, q3⟩ := HR.out.2.2.2.1 i x hx
            exact ⟨g', z', C', q1, hkk _ _ _ q2, q3⟩
        have HSP : Hid (∀ W, Calls Tryd.prog 26 #[.agg (enC e)] W fun r w' => r = .returned (.tuple #[.int .i64 (e.off : Int), .int .i64 (9 + (e.sz : Int))]) ∧ Below W.heap.size W w') := fun W => rspan_any e W hez (by omega) (by omega)
        have hoz : e.off ≤ 67108864 := by omega
        have hszz : e.sz ≤ 2097152 := heb.1
        rw [hh] at hlook
        obtain ⟨ic, hic⟩ : ∃ ic, ic = idc e.id := ⟨_, rfl⟩
        obtain ⟨ec, hec⟩ : ∃ ec, ec = enC e := ⟨_, rfl⟩
        obtain ⟨eo, heo⟩ : ∃ eo, eo = e.off := ⟨_, rfl⟩
        obtain ⟨es, hes⟩ : ∃ es, es = e.sz := ⟨_, rfl⟩
        rw [← hic] at hlook hput hi32 HID
        rw [← hec] at hi35 HEN
        rw [← hec, ← heo, ← hes] at HSP
        rw [← heo] at hoz
        rw [← hes] at hszz hbi
        clear hh HR hkk hro h7 htl hds hsum hle hb' hb'' heb hic hec heo hes
        go_wp2_with (first
          | (refine wpList_get rfl 29 (.tmp 39) rfl g (z + k * 35) C ic 76 _ rfl HK.out HID.out Tryd.underlying29 rfl hi32 ?_)
          | (refine wpList_get rfl 29 (.tmp 49) rfl g (z + k * 35) C ic 76 _ rfl HK.out HID.out Tryd.underlying29 rfl hi32 ?_)
          | (refine wpList_get rfl 76 (.tmp 55) rfl g (z + k * 35) C ec 76 _ rfl HK7.out HEN.out Tryd.underlying76 rfl hi35 ?_)
          | fail)
        refine (HSP.out _).mono ?_
        rintro e w8 ⟨rfl, hb8⟩
        have HN8 : Hid (b' = 4 + sumE (l.take (k + 1)) ∧ dsE (l.take (k + 1)) ∧ RmS w w1.heap.size ((l.take (k + 1)).map (·.id)) w8 ∧ EnLr w8 (some ⟨g, z, none⟩) l ∧ w8.ownsRow w.heap.size 76 35 (.slice (some ⟨g, z, none⟩) N cm) N (env l)) :=
          ⟨HN7.out.1, HN7.out.2.1, HN7.out.2.2.1.keep hb8, HN7.out.2.2.2.1.below hb8, rows_keepB HN7.out.2.2.2.2 hb8⟩
        clear hb8 HN7 HSP HK7 HK
        go_wp2
        go_roundw
        case rel => exact ⟨k + 1, b', rfl, by go_num, by omega, hbz, HN8.out⟩
        case measure => simp [intOf]; omega
    · have hkz : ¬ (k : Int) < (N : Nat) := by omega
      obtain rfl : k = N := by omega
      have hxs : l.take k = l := List.take_of_length_le (by rw [HNl.out]; omega)
      rw [hxs] at HR
      obtain ⟨hb1, hds, hrm, _, how⟩ := HR.out
      obtain rfl : b = a := by rw [hb1]; exact HOF.out.symm
      have HDS : Hid (dsE l) := hds
      have HOW : Hid (wr.ownsRow w.heap.size 76 35 (.slice am k cm) k (env l)) := how
      have HB : Hid (Below w.heap.size w wr) := hrm.bel
      have haz : (b : Int) ≤ (s.size : Int) := by omega
      obtain ⟨X, hX⟩ : ∃ X, s.extract b s.size = X := ⟨_, rfl⟩
      have HX : Hid (X = frmO s b) := hX.symm
      obtain ⟨Tr, hTr⟩ : ∃ Tr, Tr = trl k := ⟨_, rfl⟩
      have HTr : Hid (Tr = trl k) := hTr
      have HTC : Hid (∀ W, Below wr.heap.size wr W → Calls Tryd.prog 50 #[.int .i64 (k : Int)] W (fun e w' => e = .returned (.string Tr) ∧ Below wr.heap.size wr w')) := fun W hW => by
        have := rtrailer k W (by omega)
        rw [← hTr] at this
        exact this.mono fun e w' h => ⟨h.1, hW.trans (h.2.mono hW.size)⟩
      clear hTr hxs HR hb1 hds hrm how HR0 HBD hmm
      by_cases he : X = Tr
      · have HE : Hid (frmO s b = trl l.length) := by show _ = _; rw [← HX.out, HNl.out, ← HTr.out]; exact he
        have hq2 : (X.toList != Tr.toList) = false := by rw [he]; simp
        have hq3 : X.toList = Tr.toList := by rw [he]
        clear he
        go_wp2_with fail
        refine region_class10 (fun W => Below wr.heap.size wr W) (by kernel_rfl) (by kernel_rfl) (Below.refl _ _).drew ?_
        (go_big_quiet_want; refine quiet_val10 (.string s) ?_ ?_; (focus (intro W hW; go_simp; done)); go_big_quiet_on; simp only [Act.put, List.setIfInBounds_toArray, List.set_cons_zero, List.set_cons_succ])
        (go_big_quiet_want; refine quiet_val10 (.int .i64 (b : Int)) ?_ ?_; (focus (intro W hW; go_simp; done)); go_big_quiet_on; simp only [Act.put, List.setIfInBounds_toArray, List.set_cons_zero, List.set_cons_succ])
        (go_big_quiet_want; refine quiet_val10 (.string X) ?_ ?_; (focus (intro W hW; go_simp; done)); go_big_quiet_on; simp only [Act.put, List.setIfInBounds_toArray, List.set_cons_zero, List.set_cons_succ])
        (go_big_quiet_want; refine quiet_val10 (.slice am k cm) ?_ ?_; (focus (intro W hW; go_simp; done)); go_big_quiet_on; simp only [Act.put, List.setIfInBounds_toArray, List.set_cons_zero, List.set_cons_succ])
        (go_big_quiet_want; refine quiet_val10 (.int .i64 (k : Int)) ?_ ?_; (focus (intro W hW; go_simp; done)); go_big_quiet_on; simp only [Act.put, List.setIfInBounds_toArray, List.set_cons_zero, List.set_cons_succ])
        (go_big_quiet_want; refine quiet_call10 (.string Tr) 50 #[.int .i64 (k : Int)] ?_ HTC.out ?_; (focus (intro W hW; go_simp; done)); go_big_quiet_on; simp only [Act.put, List.setIfInBounds_toArray, List.set_cons_zero, List.set_cons_succ])
        (go_big_quiet_want; refine quiet_val10 (.bool false) ?_ ?_; (focus (intro W hW; go_simp; done)); go_big_quiet_on; simp only [Act.put, List.setIfInBounds_toArray, List.set_cons_zero, List.set_cons_succ])

        refine wpQuiet_nil ?_
        intro w8 hw8
        have HB8 : Hid (Below w.heap.size w w8) := HB.out.trans (hw8.mono HB.out.size)
        have HO8 : Hid (w8.ownsRow w.heap.size 76 35 (.slice am k cm) k (env l)) := rows_keepB HOW.out hw8
        clear hw8
        go_wp2
        go_ret2
        refine ⟨l, _, 0, rfl, scan_is hs HPM.out HST.out HDS.out HE.out, ?_, HB8.out⟩
        rw [HNl.out]; exact HO8.out
      · have HE : Hid (¬ frmO s b = trl l.length) := fun h => he (by rw [HX.out, h, HNl.out, HTr.out])
        have hq := str_ne he
        have hq2 : (X.toList != Tr.toList) = true := by simp [bne, hq]
        have hq3 : ¬ X.toList = Tr.toList := by simpa using hq
        clear he hq
        go_wp2_with fail
        refine region_class10 (fun W => Below wr.heap.size wr W) (by kernel_rfl) (by kernel_rfl) (Below.refl _ _).drew ?_
        (go_big_quiet_want; refine quiet_val10 (.string s) ?_ ?_; (focus (intro W hW; go_simp; done)); go_big_quiet_on; simp only [Act.put, List.setIfInBounds_toArray, List.set_cons_zero, List.set_cons_succ])
        (go_big_quiet_want; refine quiet_val10 (.int .i64 (b : Int)) ?_ ?_; (focus (intro W hW; go_simp; done)); go_big_quiet_on; simp only [Act.put, List.setIfInBounds_toArray, List.set_cons_zero, List.set_cons_succ])
        (go_big_quiet_want; refine quiet_val10 (.string X) ?_ ?_; (focus (intro W hW; go_simp; done)); go_big_quiet_on; simp only [Act.put, List.setIfInBounds_toArray, List.set_cons_zero, List.set_cons_succ])
        (go_big_quiet_want; refine quiet_val10 (.slice am k cm) ?_ ?_; (focus (intro W hW; go_simp; done)); go_big_quiet_on; simp only [Act.put, List.setIfInBounds_toArray, List.set_cons_zero, List.set_cons_succ])
        (go_big_quiet_want; refine quiet_val10 (.int .i64 (k : Int)) ?_ ?_; (focus (intro W hW; go_simp; done)); go_big_quiet_on; simp only [Act.put, List.setIfInBounds_toArray, List.set_cons_zero, List.set_cons_succ])
        (go_big_quiet_want; refine quiet_call10 (.string Tr) 50 #[.int .i64 (k : Int)] ?_ HTC.out ?_; (focus (intro W hW; go_simp; done)); go_big_quiet_on; simp only [Act.put, List.setIfInBounds_toArray, List.set_cons_zero, List.set_cons_succ])
        (go_big_quiet_want; refine quiet_val10 (.bool true) ?_ ?_; (focus (intro W hW; go_simp; done)); go_big_quiet_on; simp only [Act.put, List.setIfInBounds_toArray, List.set_cons_zero, List.set_cons_succ])

        refine wpQuiet_nil ?_
        intro w8 hw8
        have HB8 : Hid (Below w.heap.size w w8) := HB.out.trans (hw8.mono HB.out.size)
        clear hw8
        go_wp2
        go_ret2
        exact ⟨[], _, 4, rfl, scan_not HST.out (fun h => HE.out h.2), rows_none, HB8.out⟩
theorem rscan_any (s : ByteArray) (w : World) (hs : s.size ≤ 140737488351232) :
    Calls Tryd.prog 17 #[.string s] w fun e w' => ∃ l v er, e = .returned (.tuple #[v, .int .i64 er]) ∧ ScA s l er ∧ w'.ownsRow w.heap.size 76 35 v l.length (env l) ∧ Below w.heap.size w w' := by
  have hmk : (⟨#[109, 112, 107, 49]⟩ : ByteArray) = mkB := rfl
  by_cases hz : s.size ≤ 67108864
  · cases hp : pmB s with
    | true => exact rscan_yes s w hz hp
    | false =>
      have HNO : Hid (ScA s [] 4) := .inr ⟨rfl, rfl, fun m hm => by have := hm.2.1; rw [hp] at this; cases this⟩
      have hn : ¬ (4 ≤ s.size ∧ s.extract 0 4 = mkB) := fun h => by rw [(pm_doc s).2 h] at hp; cases hp
      have h26 : ¬ (67108864 : Int) < (s.size : Int) := by omega
      clear hp
      by_cases h4 : 4 ≤ s.size
      · have h4z : ¬ (s.size : Int) < 4 := by omega
        have h4y : (4 : Int) ≤ (s.size : Int) := by omega
        obtain ⟨X, hX⟩ : ∃ X, s.extract 0 4 = X := ⟨_, rfl⟩
        have hq := str_ne (x := X) (y := mkB) (fun e => hn ⟨h4, hX.trans e⟩)
        have hq2 : (X.toList != mkB.toList) = true := by simp [bne, hq]
        clear hn
        go_enter Tryd.func17, Tryd.ntmps17
        go_wp2
        go_ret2
        exact ⟨[], _, 4, rfl, HNO.out, rows_none, Below.refl _ _⟩
      · have h4z : (s.size : Int) < 4 := by omega
        clear hn
        go_enter Tryd.func17, Tryd.ntmps17
        go_wp2
        go_ret2
        exact ⟨[], _, 4, rfl, HNO.out, rows_none, Below.refl _ _⟩
  · have HNO : Hid (ScA s [] 4) := .inr ⟨rfl, rfl, fun m hm => hz hm.1⟩
    have h26 : (67108864 : Int) < (s.size : Int) := by omega
    clear hz
    go_enter Tryd.func17, Tryd.ntmps17
    go_wp2
    go_ret2
    exact ⟨[], _, 4, rfl, HNO.out, rows_none, Below.refl _ _⟩
end Go.Proofs.YtahpaekiehdejabDoor
/- Two lists of entries compared: the document's Same, the law's entries. -/
namespace Go.Proofs.YtahpaekiehdejabDoor
open Go.RowKit
set_option linter.unusedSimpArgs false
set_option linter.unusedVariables false
theorem isagg_int (w : World) : (isAgg 3).run Tryd.prog w = .ok false w := by kernel_rfl
theorem quiet_ne {P : Program} {o : Oper} {a : Act} {C : World → Prop} {K : Act → Prop} (t : TypeId) (x y : Operand) (ho : o.op = .binOp .neq t x y t) (v1 v2 : Array Value) (r : Value) (hm : P.eqGuardType P.depth t = false)
    (hx : a.eval x = .agg v1) (hy : a.eval y = .agg v2) (hr : ∀ w, (binOp .neq t (.agg v1) (.agg v2)).run P w = .ok r w) (hn : K (a.put o.dst r)) : o.quiet P a C K :=
  quiet_val10 r (fun w hw => by
    unfold execOp
    simp only [ho, hx, hy, Sem.run_bind, run_eqGuard_agg w .neq t x y v1 v2 hm, hr w, Result.andThen_ok, Sem.run_pure]) hn
set_option maxHeartbeats 1000000 in
set_option maxRecDepth 100000 in
theorem rsame_eq (l : List Ent) (a b : Option Addr) (n c c2 : Nat) (w : World) (ha : EnLr w a l) (hb : EnLr w b l) (hl : l.length = n) (hn : n ≤ 65536) (hi : ∀ x ∈ l, x.id.size = 32) :
    Calls Tryd.prog 58 #[.slice a n c, .slice b n c2] w fun e w' => e = .returned (.bool true) ∧ Below w.heap.size w w' := by
  have HA : Hid (EnLr w a l) := ha
  have HB : Hid (EnLr w b l) := hb
  have HL : Hid (l.length = n) := hl
  have HI : Hid (∀ x ∈ l, x.id.size = 32) := hi
  clear ha hb hl hi
  go_enter Tryd.func58, Tryd.ntmps58
  go_wp2
  go_loopw [5] (fun v wr => ∃ (k : Nat), v = .int .i64 k ∧ k ≤ n ∧ Hid (Below w.heap.size w wr)) (fun v _ => n - (intOf v).toNat)
  case atStart => exact ⟨0, rfl, Nat.zero_le _, Below.refl _ _⟩
  case round =>
    obtain ⟨k, rfl, hk, HR⟩ := hrel
    by_cases hlt : k < n
    · have hkz : (k : Int) < (n : Nat) := by omega
      obtain ⟨e, he⟩ : ∃ e, l[k]? = some e := ⟨l[k]'(by rw [HL.out]; exact hlt), List.getElem?_eq_getElem _⟩
      have hez := HI.out e (List.mem_of_getElem? he)
      obtain ⟨g, z, C, rfl, hBk, hC⟩ := HA.out k e he
      obtain ⟨g2, z2, C2, rfl, hBk2, hC2⟩ := HB.out k e he
      have hi35 := info_enR (enC_size e hez)
      have HNE : Hid (∀ W, (binOp .neq 76 (.agg (enC e)) (.agg (enC e))).run Tryd.prog W = .ok (.bool false) W) := fun W => by
        have := neq_enr e e hez hez W
        rwa [enQ_self] at this
      have HC : Hid (∀ W, Below wr.heap.size wr W → Bk W g C 76) := fun W hW => hBk.below (HR.out.trans (hW.mono HR.out.size)) hBk.lt
      have HC2 : Hid (∀ W, Below wr.heap.size wr W → Bk W g2 C2 76) := fun W hW => hBk2.below (HR.out.trans (hW.mono HR.out.size)) hBk2.lt
      have HE : Hid (∀ j v, (enC e)[j]? = some v → C[z + k * 35 + j]? = some v) := hC
      have HE2 : Hid (∀ j v, (enC e)[j]? = some v → C2[z2 + k * 35 + j]? = some v) := hC2
      generalize enC e = ec at hi35 HNE HE HE2
      clear he hez hBk hC hBk2 hC2
      go_wp2_with fail
      refine region_class10 (fun W => Below wr.heap.size wr W) (by kernel_rfl) (by kernel_rfl) (Below.refl _ _).drew ?_
      (go_big_quiet_want; refine quiet_val10 (.slice (some ⟨g, z, none⟩) n c) ?_ ?_; (focus (intro W hW; go_simp; done)); go_big_quiet_on; simp only [Act.put, List.setIfInBounds_toArray, List.set_cons_zero, List.set_cons_succ])
      (go_big_quiet_want; refine quiet_val10 (.int .i64 (k : Int)) ?_ ?_; (focus (intro W hW; go_simp; done)); go_big_quiet_on; simp only [Act.put, List.setIfInBounds_toArray, List.set_cons_zero, List.set_cons_succ])
      (go_big_quiet_want; refine quiet_val10 (.pointer (some ⟨g, z + k * 35, none⟩)) ?_ ?_; (focus (intro W hW; go_simp; done)); go_big_quiet_on; simp only [Act.put, List.setIfInBounds_toArray, List.set_cons_zero, List.set_cons_succ])
      (go_big_quiet_want; refine quiet_row 76 (.tmp 19) rfl g (z + k * 35) C ec 76 _ rfl HC.out HE.out Tryd.underlying76 rfl hi35 ?_; go_big_quiet_on; simp only [Act.put, List.setIfInBounds_toArray, List.set_cons_zero, List.set_cons_succ])
      (go_big_quiet_want; refine quiet_val10 (.slice (some ⟨g2, z2, none⟩) n c2) ?_ ?_; (focus (intro W hW; go_simp; done)); go_big_quiet_on; simp only [Act.put, List.setIfInBounds_toArray, List.set_cons_zero, List.set_cons_succ])
      (go_big_quiet_want; refine quiet_val10 (.int .i64 (k : Int)) ?_ ?_; (focus (intro W hW; go_simp; done)); go_big_quiet_on; simp only [Act.put, List.setIfInBounds_toArray, List.set_cons_zero, List.set_cons_succ])
      (go_big_quiet_want; refine quiet_val10 (.pointer (some ⟨g2, z2 + k * 35, none⟩)) ?_ ?_; (focus (intro W hW; go_simp; done)); go_big_quiet_on; simp only [Act.put, List.setIfInBounds_toArray, List.set_cons_zero, List.set_cons_succ])
      (go_big_quiet_want; refine quiet_row 76 (.tmp 23) rfl g2 (z2 + k * 35) C2 ec 76 _ rfl HC2.out HE2.out Tryd.underlying76 rfl hi35 ?_; go_big_quiet_on; simp only [Act.put, List.setIfInBounds_toArray, List.set_cons_zero, List.set_cons_succ])
      (go_big_quiet_want; refine quiet_ne 76 (.tmp 20) (.tmp 24) rfl ec ec (.bool false) (by kernel_rfl) rfl rfl HNE.out ?_; go_big_quiet_on; simp only [Act.put, List.setIfInBounds_toArray, List.set_cons_zero, List.set_cons_succ])
      refine wpQuiet_nil ?_
      intro w8 hw8
      have H8 : Hid (Below w.heap.size w w8) := HR.out.trans (hw8.mono HR.out.size)
      clear hw8
      go_wp2
      go_roundw
      case rel => exact ⟨k + 1, by go_num, by omega, H8.out⟩
      case measure => simp [intOf]; omega
    · have hkz : ¬ (k : Int) < (n : Nat) := by omega
      go_wp2
      go_ret
      exact ⟨rfl, HR.out⟩
set_option maxHeartbeats 4000000 in
set_option maxRecDepth 100000 in
theorem entries_eq (l : List Ent) (a b : Option Addr) (n c c2 : Nat) (w : World) (ha : EnL w a l) (hb : EnLr w b l) (hl : l.length = n) (hn : n ≤ 65536) (hi : ∀ x ∈ l, x.id.size = 32) :
    Calls Tryd.prog 24 #[.slice a n c, .slice b n c2] w fun e w' => e = .returned (.bool true) ∧ Below w.heap.size w w' := by
  have HA : Hid (EnL w a l) := ha
  have HB : Hid (EnLr w b l) := hb
  have HL : Hid (l.length = n) := hl
  have HI : Hid (∀ x ∈ l, x.id.size = 32) := hi
  clear ha hb hl hi
  go_enter Tryd.func24, Tryd.ntmps24
  go_wp2
  go_loopw [5, 6] (fun x v wr => ∃ (k : Nat) (au : Option Addr) (cu : Nat), x = .slice au k cu ∧ v = .int .i64 k ∧ k ≤ n ∧ Hid (RvS w (l.take k) (.slice au k cu) wr)) (fun x v _ => n - (intOf v).toNat)
  case atStart => exact ⟨0, none, 0, rfl, rfl, Nat.zero_le _, rows_none, Below.refl _ _⟩
  case round =>
    obtain ⟨k, au, cu, rfl, rfl, hk, HR⟩ := hrel
    have htk : (l.take k).length = k := by rw [List.length_take, HL.out]; omega
    by_cases hlt : k < n
    · have hkz : (k : Int) < (n : Nat) := by omega
      obtain ⟨e, he⟩ : ∃ e, l[k]? = some e := ⟨l[k]'(by rw [HL.out]; exact hlt), List.getElem?_eq_getElem _⟩
      have hez := HI.out e (List.mem_of_getElem? he)
      obtain ⟨g, z, C, rfl, hBk, hC⟩ := HA.out k e he
      have HNX : Hid (l.take (k + 1) = l.take k ++ [e]) := by show _ = _; rw [List.take_add_one, he, Option.toList_some]
      have hat := enC_at e hez
      have hidc := enC_id e hez
      obtain ⟨x, kk, eo, es⟩ := e
      simp only at hez hat hidc
      have hi32 : (Tryd.prog.info? 29).map (·.size) = some (idc x).size := info_32 (by rw [idc_size, hez])
      obtain ⟨E, hE⟩ : ∃ E, E = enC ⟨x, kk, eo, es⟩ := ⟨_, rfl⟩
      have HBD : Hid (∀ W, (Instr.build 76 #[(0, .agg (idc x)), (1, .int .u8 (kk.toNat : Int)), (2, .int .i64 (eo : Int)), (3, .int .i64 (es : Int))]).run Tryd.prog W = .ok (.agg E) W) := fun W => by rw [hE]; exact build_enR ⟨x, kk, eo, es⟩ hez W
      have HSE : Hid (∀ W, (Instr.buildSlice 59 1 #[(0, .agg E)]).run Tryd.prog W = .ok (.slice (some ⟨W.heap.size, 0, none⟩) 1 1) (W.alloc (.cells E 76))) := fun W => by rw [hE]; exact slice_enR ⟨x, kk, eo, es⟩ hez W
      have HAP : Hid (∀ W g, RvS w (l.take k) (.slice au k cu) W → Bk W g E 76 → ∃ b c w7, (Builtin.append_ #[59, 59] 59 #[.slice au k cu, .slice (some ⟨g, 0, none⟩) 1 1]).run Tryd.prog W = .ok (.slice b (k + 1) c) w7 ∧ RvS w (l.take (k + 1)) (.slice b (k + 1) c) w7) := fun W g hW hg => by
        have := hW.app ⟨x, kk, eo, es⟩ hez (by rw [htk]; omega) (g := g) (by rw [← hE]; exact hg)
        rw [htk] at this
        rw [HNX.out]
        exact this
      have HCB : Hid (∀ (ov : Option Value) W, KB wr E 76 ov W → Bk W g C 74) := fun ov W hW => hBk.below (HR.out.bel.trans (hW.bel.mono HR.out.bel.size)) hBk.lt
      have HID : Hid (∀ j v, (idc x)[j]? = some v → C[z + k * 35 + j]? = some v) := fun j v hv => hC j v (by have := hidc j v hv; rwa [Nat.zero_add] at this)
      have HC0 : Hid (∀ (ov : Option Value) W, KB wr E 76 ov W → W.cell? ⟨g, z + k * 35 + 32, none⟩ = some (.int .u8 (kk.toNat : Int))) := fun ov W hW => by rw [(HCB.out ov W hW).cell]; exact hC 32 _ hat.1
      have HC1 : Hid (∀ (ov : Option Value) W, KB wr E 76 ov W → W.cell? ⟨g, z + k * 35 + 33, none⟩ = some (.int .i64 (eo : Int))) := fun ov W hW => by rw [(HCB.out ov W hW).cell]; exact hC 33 _ hat.2.1
      have HC2 : Hid (∀ (ov : Option Value) W, KB wr E 76 ov W → W.cell? ⟨g, z + k * 35 + 34, none⟩ = some (.int .i64 (es : Int))) := fun ov W hW => by rw [(HCB.out ov W hW).cell]; exact hC 34 _ hat.2.2
      have HDR : Hid (KB wr E 76 none wr.drew) := (Below.refl _ _).drew
      clear he hez hat hidc hBk hC hE htk
      go_wp2_with fail
      refine wp_region_mk (KB wr E 76) 23 22 _ (by kernel_rfl) (by kernel_rfl) rfl rfl HDR.out ?_
      simp only [List.take_succ_cons, List.take_zero, List.drop_succ_cons, List.drop_zero, skipL, Nat.reduceAdd, Nat.reduceBEq, Bool.false_eq_true, if_false, if_true]
      (refine wpQF_val rfl (.slice au k cu) (fun ov W hW => by go_simp) ?_; simp only [Act.put, List.setIfInBounds_toArray, List.set_cons_zero, List.set_cons_succ])
      (refine wpQF_val rfl (.slice (some ⟨g, z, none⟩) n c) (fun ov W hW => by go_simp) ?_; simp only [Act.put, List.setIfInBounds_toArray, List.set_cons_zero, List.set_cons_succ])
      (refine wpQF_val rfl (.int .i64 (k : Int)) (fun ov W hW => by go_simp) ?_; simp only [Act.put, List.setIfInBounds_toArray, List.set_cons_zero, List.set_cons_succ])
      (refine wpQF_val rfl (.pointer (some ⟨g, z + k * 35, none⟩)) (fun ov W hW => by go_simp) ?_; simp only [Act.put, List.setIfInBounds_toArray, List.set_cons_zero, List.set_cons_succ])
      (refine wpQF_val rfl (.pointer (some ⟨g, z + k * 35, none⟩)) (fun ov W hW => by go_simp) ?_; simp only [Act.put, List.setIfInBounds_toArray, List.set_cons_zero, List.set_cons_succ])
      (refine wpQF_row rfl 29 (.tmp 17) rfl g (z + k * 35) C (idc x) 74 _ rfl HCB.out HID.out Tryd.underlying29 rfl hi32 ?_; simp only [Act.put, List.setIfInBounds_toArray, List.set_cons_zero, List.set_cons_succ])
      (refine wpQF_val rfl (.slice (some ⟨g, z, none⟩) n c) (fun ov W hW => by go_simp) ?_; simp only [Act.put, List.setIfInBounds_toArray, List.set_cons_zero, List.set_cons_succ])
      (refine wpQF_val rfl (.int .i64 (k : Int)) (fun ov W hW => by go_simp) ?_; simp only [Act.put, List.setIfInBounds_toArray, List.set_cons_zero, List.set_cons_succ])
      (refine wpQF_val rfl (.pointer (some ⟨g, z + k * 35, none⟩)) (fun ov W hW => by go_simp) ?_; simp only [Act.put, List.setIfInBounds_toArray, List.set_cons_zero, List.set_cons_succ])
      (refine wpQF_val rfl (.pointer (some ⟨g, z + k * 35 + 32, none⟩)) (fun ov W hW => by go_simp) ?_; simp only [Act.put, List.setIfInBounds_toArray, List.set_cons_zero, List.set_cons_succ])
      (refine wpQF_one rfl 5 (.tmp 22) rfl g (z + k * 35 + 32) (.int .u8 (kk.toNat : Int)) rfl isagg_u8 HC0.out ?_; simp only [Act.put, List.setIfInBounds_toArray, List.set_cons_zero, List.set_cons_succ])
      (refine wpQF_val rfl (.slice (some ⟨g, z, none⟩) n c) (fun ov W hW => by go_simp) ?_; simp only [Act.put, List.setIfInBounds_toArray, List.set_cons_zero, List.set_cons_succ])
      (refine wpQF_val rfl (.int .i64 (k : Int)) (fun ov W hW => by go_simp) ?_; simp only [Act.put, List.setIfInBounds_toArray, List.set_cons_zero, List.set_cons_succ])
      (refine wpQF_val rfl (.pointer (some ⟨g, z + k * 35, none⟩)) (fun ov W hW => by go_simp) ?_; simp only [Act.put, List.setIfInBounds_toArray, List.set_cons_zero, List.set_cons_succ])
      (refine wpQF_val rfl (.pointer (some ⟨g, z + k * 35 + 33, none⟩)) (fun ov W hW => by go_simp) ?_; simp only [Act.put, List.setIfInBounds_toArray, List.set_cons_zero, List.set_cons_succ])
      (refine wpQF_one rfl 3 (.tmp 27) rfl g (z + k * 35 + 33) (.int .i64 (eo : Int)) rfl isagg_int HC1.out ?_; simp only [Act.put, List.setIfInBounds_toArray, List.set_cons_zero, List.set_cons_succ])
      (refine wpQF_val rfl (.slice (some ⟨g, z, none⟩) n c) (fun ov W hW => by go_simp) ?_; simp only [Act.put, List.setIfInBounds_toArray, List.set_cons_zero, List.set_cons_succ])
      (refine wpQF_val rfl (.int .i64 (k : Int)) (fun ov W hW => by go_simp) ?_; simp only [Act.put, List.setIfInBounds_toArray, List.set_cons_zero, List.set_cons_succ])
      (refine wpQF_val rfl (.pointer (some ⟨g, z + k * 35, none⟩)) (fun ov W hW => by go_simp) ?_; simp only [Act.put, List.setIfInBounds_toArray, List.set_cons_zero, List.set_cons_succ])
      (refine wpQF_val rfl (.pointer (some ⟨g, z + k * 35 + 34, none⟩)) (fun ov W hW => by go_simp) ?_; simp only [Act.put, List.setIfInBounds_toArray, List.set_cons_zero, List.set_cons_succ])
      (refine wpQF_one rfl 3 (.tmp 32) rfl g (z + k * 35 + 34) (.int .i64 (es : Int)) rfl isagg_int HC2.out ?_; simp only [Act.put, List.setIfInBounds_toArray, List.set_cons_zero, List.set_cons_succ])
      (refine wpQF_bd rfl 76 (.tmp 18) (.tmp 23) (.tmp 28) (.tmp 33) rfl (.agg (idc x)) (.int .u8 (kk.toNat : Int)) (.int .i64 (eo : Int)) (.int .i64 (es : Int)) (.agg E) rfl rfl rfl rfl HBD.out ?_; simp only [Act.put, List.setIfInBounds_toArray, List.set_cons_zero, List.set_cons_succ])
      refine wpQF_nil ⟨mkF_bs 59 (.tmp 34) rfl (.agg E) rfl (fun W hW => ⟨_, _, HSE.out W, KB.made hW⟩), ?_⟩
      intro v w8 h8
      obtain ⟨g8, rfl, hbk8, hb8⟩ := h8
      have HV6 : Hid (RvS w (l.take k) (.slice au k cu) w8) := HR.out.keep hb8
      obtain ⟨b7, c7, w7, hrun, hv7⟩ := HAP.out w8 g8 HV6.out hbk8
      have HV7 : Hid (RvS w (l.take (k + 1)) (.slice b7 (k + 1) c7) w7) := hv7
      clear hv7 hb8 hbk8 HV6 HAP HSE HC0 HC1 HC2 HCB HBD HR HID
      simp only [Act.put, List.setIfInBounds_toArray, List.set_cons_zero, List.set_cons_succ]
      refine wpList_appR rfl (.tmp 13) (.tmp 35) 59 59 rfl (.slice au k cu) (.slice (some ⟨g8, 0, none⟩) 1 1) (.slice b7 (k + 1) c7) w7 rfl rfl hrun ?_
      simp only [Act.put, List.setIfInBounds_toArray, List.set_cons_zero, List.set_cons_succ]
      clear hrun
      go_wp2
      go_roundw
      case rel => exact ⟨k + 1, b7, c7, rfl, by go_num, by omega, HV7.out⟩
      case measure => simp [intOf]; omega
    · have hkz : ¬ (k : Int) < (n : Nat) := by omega
      obtain rfl : k = n := by omega
      have hxs : l.take k = l := List.take_of_length_le (by rw [HL.out]; omega)
      rw [hxs] at HR
      have how := HR.out.ow
      rw [HL.out] at how
      obtain ⟨am, cm, hv, hel⟩ := row_enlr how HL.out HI.out
      injection hv with hv1 hv2 hv3
      subst hv1
      subst hv3
      clear hv2
      have HS : Hid (Calls Tryd.prog 58 #[.slice au k cu, .slice b k c2] wr fun e w' => e = .returned (.bool true) ∧ Below wr.heap.size wr w') := rsame_eq l au b k cu c2 wr hel (HB.out.below HR.out.bel) HL.out hn HI.out
      clear how hel hxs
      go_wp2_with fail
      refine HS.out.mono ?_
      rintro e w3 ⟨rfl, hb3⟩
      have HB3 : Hid (Below w.heap.size w w3) := HR.out.bel.trans (hb3.mono HR.out.bel.size)
      clear hb3
      go_wp2
      go_ret
      exact ⟨rfl, HB3.out⟩
end Go.Proofs.YtahpaekiehdejabDoor
