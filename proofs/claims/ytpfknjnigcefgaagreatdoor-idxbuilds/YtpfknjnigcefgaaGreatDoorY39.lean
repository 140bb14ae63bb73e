import Derived.Test.YtpfknjnigcefgaaGreatDoorY38
import Derived.Test.YtpfknjnigcefgaaGreatDoorY19
import Derived.Test.YtpfknjnigcefgaaGreatDoorY28
/- The document's own Scan (munimentref11). -/
namespace Go.Proofs.YtpfknjnigcefgaaGreatDoor
open Go.RowKit
set_option linter.unusedSimpArgs false
set_option linter.unusedVariables false
/-- How many bytes records have. -/
def sumE : List Ent → Nat
  | [] => 0
  | e :: l => 9 + e.sz + sumE l
theorem sumE_append : ∀ a b : List Ent, sumE (a ++ b) = sumE a + sumE b
  | [], b => by simp [sumE]
  | e :: a, b => by rw [List.cons_append, sumE, sumE, sumE_append a b]; omega
theorem sumE_take (l : List Ent) (k : Nat) (e : Ent) (h : l[k]? = some e) : sumE (l.take (k + 1)) = sumE (l.take k) + (9 + e.sz) := by
  rw [List.take_add_one, h, Option.toList_some, sumE_append]; simp [sumE]
theorem Rn.off {tk : List Ent → Ent → Bool} {s : ByteArray} {a : Nat} {l : List Ent} (h : Rn tk s a l) : a = 4 + sumE l := by
  induction h with
  | z => rfl
  | st h1 h2 h3 ih => rw [sumE_append]; simp only [sumE]; omega
theorem Rn.bds {tk : List Ent → Ent → Bool} {s : ByteArray} {a : Nat} {l : List Ent} (h : Rn tk s a l) (hs : 4 ≤ s.size) : ∀ x ∈ l, x.sz ≤ 2097152 ∧ x.off ≤ s.size := by
  induction h with
  | z => intro x hx; simp at hx
  | @st a l h1 h2 h3 ih =>
    intro x hx
    rcases List.mem_append.1 hx with hx | hx
    · exact ih x hx
    · rw [List.mem_singleton.1 hx]
      have hf := (at_fits h2).2.2
      have hl := (h1.le hs).2.1
      have e1 : (enA s a).sz = (atO (frmO s a)).p.size := by simp only [enA]
      have e2 : (enA s a).off = a := by simp only [enA]
      rw [e1, e2]
      generalize (atO (frmO s a)).p.size = z at hf
      exact ⟨hf, hl⟩
/-- No two have one name. -/
def dsE (l : List Ent) : Prop := ∀ i e, l[i]? = some e → hasE (l.take i) e.id = false
theorem dsE_snoc {l : List Ent} {e : Ent} : dsE (l ++ [e]) ↔ dsE l ∧ hasE l e.id = false := by
  constructor
  · intro h
    refine ⟨fun i x hi => ?_, ?_⟩
    · have hlt := (List.getElem?_eq_some_iff.1 hi).1
      have := h i x (by rw [List.getElem?_append_left hlt]; exact hi)
      rwa [List.take_append_of_le_length (by omega)] at this
    · have := h l.length e (by simp)
      rwa [List.take_left'] at this
      rfl
  · rintro ⟨h1, h2⟩ i x hi
    by_cases hlt : i < l.length
    · rw [List.getElem?_append_left hlt] at hi
      rw [List.take_append_of_le_length (by omega)]
      exact h1 i x hi
    · have hil : i < (l ++ [e]).length := (List.getElem?_eq_some_iff.1 hi).1
      rw [List.length_append, List.length_singleton] at hil
      obtain rfl : i = l.length := by omega
      rw [List.take_left' rfl]
      have : x = e := by simpa using hi.symm
      rw [this]; exact h2
theorem tkS_iff (l : List Ent) (e : Ent) : tkS l e = true ↔ hasE l e.id = false ∧ tkA l e = true := by
  simp [tkS, tkA]
theorem Rn.toA {s : ByteArray} {a : Nat} {l : List Ent} (h : Rn tkS s a l) : Rn tkA s a l ∧ dsE l := by
  induction h with
  | z => exact ⟨.z, fun i e h => by simp at h⟩
  | st h1 h2 h3 ih =>
    obtain ⟨q1, q2⟩ := (tkS_iff _ _).1 h3
    exact ⟨.st ih.1 h2 q2, dsE_snoc.2 ⟨ih.2, q1⟩⟩
theorem Rn.toS {s : ByteArray} {a : Nat} {l : List Ent} (h : Rn tkA s a l) (hd : dsE l) : Rn tkS s a l := by
  induction h with
  | z => exact .z
  | st h1 h2 h3 ih =>
    obtain ⟨q1, q2⟩ := dsE_snoc.1 hd
    exact .st (ih q1) h2 ((tkS_iff _ _).2 ⟨q2, h3⟩)
theorem Rn.small {s : ByteArray} {a : Nat} {l : List Ent} (h : Rn tkA s a l) : l.length ≤ 65536 := by
  induction h with
  | z => simp
  | @st a l h1 h2 h3 ih =>
    have : ¬ l.length = 65536 := by simpa [tkA] using h3
    rw [List.length_append, List.length_singleton]; omega
theorem scan_is {s : ByteArray} {a : Nat} {l : List Ent} (hz : s.size ≤ 67108864) (hp : pmB s = true) (h : Stk tkA s a l) (hd : dsE l) (ht : frmO s a = trl l.length) : ScA s l 0 := by
  refine .inl ⟨rfl, hz, hp, a, ⟨h.1.toS hd, ?_⟩, ht⟩
  have hs := h.1.small
  have := (at_trl l.length (frmO s a) ⟨#[]⟩ (by omega) (by rw [ht]; apply bl_inj; rw [bl_append]; simp [bl])).1
  rw [this]; simp
theorem scan_not {s : ByteArray} {a : Nat} {l : List Ent} (h : Stk tkA s a l) (hn : ¬ (dsE l ∧ frmO s a = trl l.length)) : ScA s [] 4 := by
  refine .inr ⟨rfl, rfl, fun m hm => hn ?_⟩
  obtain ⟨_, _, b, h1, h2⟩ := hm
  obtain ⟨q1, q2⟩ := h1.1.toA
  have hs := q1.small
  have hat := (at_trl m.length (frmO s b) ⟨#[]⟩ (by omega) (by rw [h2]; apply bl_inj; rw [bl_append]; simp [bl])).1
  obtain ⟨rfl, rfl⟩ := Stk.one h ⟨q1, by rw [hat]; simp⟩
  exact ⟨q2, h2⟩
/-- The document's entries of a slice. -/
def EnLr (w : World) (a : Option Addr) (l : List Ent) : Prop :=
  ∀ i e, l[i]? = some e → ∃ g z C, a = some ⟨g, z, none⟩ ∧ Bk w g C 56 ∧ ∀ j x, (enC e)[j]? = some x → C[z + i * 35 + j]? = some x
theorem EnLr.below {w w' : World} {a : Option Addr} {l : List Ent} (h : EnLr w a l) (hb : Below w.heap.size w w') : EnLr w' a l := fun i e he => by
  obtain ⟨g, z, C, h1, h2, h3⟩ := h i e he
  exact ⟨g, z, C, h1, h2.below hb h2.lt, h3⟩
theorem row_enlr {w : World} {B n : Nat} {v : Value} {l : List Ent} (h : w.ownsRow B 56 35 v n (env l)) (hn : l.length = n) (hi : ∀ x ∈ l, x.id.size = 32) : ∃ a c, v = .slice a n c ∧ EnLr w a l := by
  rcases h.2 with ⟨rfl, h0⟩ | ⟨g, cap, cur, rfl, hle, hg, hnc, _, hc, ht⟩
  · subst h0
    have : l = [] := List.eq_nil_of_length_eq_zero hn
    subst this
    exact ⟨none, 0, rfl, fun i x hx => by simp at hx⟩
  · refine ⟨some ⟨g, 0, none⟩, cap, rfl, fun i e he => ⟨g, 0, cur, rfl, hg, fun j x hj => ?_⟩⟩
    have hil : i < l.length := (List.getElem?_eq_some_iff.1 he).1
    have hjl : j < 35 := by rw [← enC_size e (hi e (List.mem_of_getElem? he))]; exact (Array.getElem?_eq_some_iff.1 hj).1
    have q := env_get l i e hi he j x hj
    rw [← ht, List.getElem?_take, if_pos (by omega), Array.getElem?_toList] at q
    rw [Nat.zero_add]; exact q
/-- The document's names met. -/
structure RmS (w0 : World) (m : Nat) (d : List ByteArray) (w : World) : Prop where
  st : St isI w m d
  mlb : w0.heap.size ≤ m
  bel : Below w0.heap.size w0 w
theorem RmS.keep {w0 w w' : World} {m : Nat} {d : List ByteArray} (h : RmS w0 m d w) (hb : Below w.heap.size w w') : RmS w0 m d w' :=
  ⟨h.st.below hb, h.mlb, h.bel.trans (hb.mono h.bel.size)⟩
theorem RmS.look {w0 w : World} {m : Nat} {l : List Ent} (h : RmS w0 m (l.map (·.id)) w) (x : ByteArray) (hx : x.size = 32) : ∃ n : Int, (Instr.lookup 66 (.map (some m)) (.agg (idc x)) true).run Tryz.prog w = .ok (.tuple #[.int .i64 n, .bool (hasE l x)]) w := by
  obtain ⟨v, h1, n, rfl⟩ := h.st.look Tryz.underlying66 (zero_int11 _) ⟨0, rfl⟩ x hx
  rw [hasE_on] at h1
  exact ⟨n, h1⟩
theorem RmS.put {w0 w : World} {m : Nat} {d : List ByteArray} (h : RmS w0 m d w) (hn : d.length < 1048576) (x : ByteArray) (hx : x.size = 32) (n : Int) :
    ∃ w', (Instr.mapUpdate 66 (.map (some m)) (.agg (idc x)) (.int .i64 n)).run Tryz.prog w = .ok () w' ∧ RmS w0 m (d ++ [x]) w' ∧ (∀ b C T, Bk w b C T → Bk w' b C T) ∧ (∀ {B k nn v xs T}, w.ownsRow B T k v nn xs → w'.ownsRow B T k v nn xs) := by
  obtain ⟨w', h1, h2, h3⟩ := h.st.put Tryz.underlying66 hn x hx (.int .i64 n) ⟨n, rfl⟩
  obtain ⟨es, c, hm⟩ := h.st.isMap
  have hk : ∀ b C T, Bk w b C T → Bk w' b C T := fun b C T hb => hb.grown h3 (fun q => by
    injection q with q
    subst q
    have hb' : w.heap[m]? = some (.cells C T (0, 0)) := hb
    rw [hm] at hb'; cases hb')
  refine ⟨w', h1, ⟨h2, h.mlb, below_own h.bel h.bel.size h3 h.mlb⟩, hk, fun {B k nn v xs T} ho => ⟨ho.1, ?_⟩⟩
  rcases ho.2 with q | ⟨g, cap, cur, q1, q2, hc, q3⟩
  · exact .inl q
  · exact .inr ⟨g, cap, cur, q1, q2, hk g cur T hc, q3⟩
set_option maxHeartbeats 4000000 in
set_option maxRecDepth 100000 in
theorem rscan_yes (s : ByteArray) (w : World) (hs : s.size ≤ 67108864) (hp : pmB s = true) :
    Calls Tryz.prog 35 #[.string s] w fun e w' => ∃ l v er, e = .returned (.tuple #[v, .int .i64 er]) ∧ ScA s l er ∧ w'.ownsRow w.heap.size 56 35 v l.length (env l) ∧ Below w.heap.size w w' := by
  have hmk : (⟨#[109, 112, 107, 49]⟩ : ByteArray) = mkB := rfl
  have hmm := @run_makeMap Tryz.prog
  obtain ⟨h4, hx4⟩ := (pm_doc s).1 hp
  have HPM : Hid (pmB s = true) := hp
  have h4z : ¬ (s.size : Int) < 4 := by omega
  have h4y : (4 : Int) ≤ (s.size : Int) := by omega
  have h26 : ¬ (67108864 : Int) < (s.size : Int) := by omega
  have hee : (mkB.toList != mkB.toList) = false := by simp
  clear hp
  go_enter Tryz.func35, Tryz.ntmps35
  go_wp2_with fail
  refine (rsalv_any s w (by omega)).mono ?_
  rintro e w1 ⟨l, v, rfl, hsv, how, hb1⟩
  rcases hsv with ⟨q, _⟩ | ⟨_, a, hstk⟩
  · rw [HPM.out] at q; cases q
  obtain ⟨N, hN⟩ : ∃ N, l.length = N := ⟨_, rfl⟩
  have hids := hstk.1.ids
  have hbds := hstk.1.bds h4
  rw [hN] at how
  obtain ⟨am, cm, rfl, hel⟩ := row_enlr how hN hids
  have hN6 : N ≤ 65536 := by rw [← hN]; exact hstk.1.small
  have HST : Hid (Stk tkA s a l) := hstk
  have HBD : Hid ((∀ x ∈ l, x.id.size = 32) ∧ (∀ x ∈ l, x.sz ≤ 2097152 ∧ x.off ≤ s.size)) := ⟨hids, hbds⟩
  have HNl : Hid (l.length = N) := hN
  have hale : a ≤ s.size := (hstk.1.le h4).2.1
  have HOF : Hid (a = 4 + sumE l) := hstk.1.off
  have HR0 : Hid (RmS w w1.heap.size (([] : List Ent).map (·.id)) (w1.alloc (.map #[] 0)) ∧ EnLr (w1.alloc (.map #[] 0)) am l ∧ (w1.alloc (.map #[] 0)).ownsRow w.heap.size 56 35 (.slice am N cm) N (env l)) :=
    ⟨⟨St.made _ w1, hb1.size, hb1.alloc hb1.size _⟩, hel.below ((Below.refl _ _).alloc (Nat.le_refl _) _), how.alloc _⟩
  clear hstk how hb1 hel hids hbds hN
  go_wp2
  go_loopw [5, 7] (fun x v wr => ∃ (k b : Nat), x = .int .i64 b ∧ v = .int .i64 k ∧ k ≤ N ∧ b ≤ s.size ∧ Hid (b = 4 + sumE (l.take k) ∧ dsE (l.take k) ∧ RmS w w1.heap.size ((l.take k).map (·.id)) wr ∧ EnLr wr am l ∧ wr.ownsRow w.heap.size 56 35 (.slice am N cm) N (env l))) (fun x v _ => N - (intOf v).toNat)
  case atStart => exact ⟨0, 4, rfl, rfl, Nat.zero_le _, h4, by rw [List.take_zero]; rfl, by rw [List.take_zero]; exact fun i e h => by simp at h, by rw [List.take_zero]; exact HR0.out.1, HR0.out.2.1, HR0.out.2.2⟩
  case round =>
    obtain ⟨k, b, rfl, rfl, hk, hb, HR⟩ := hrel
    by_cases hlt : k < N
    · have hkz : (k : Int) < (N : Nat) := by omega
      obtain ⟨e, he⟩ : ∃ e, l[k]? = some e := ⟨l[k]'(by rw [HNl.out]; exact hlt), List.getElem?_eq_getElem _⟩
      have hmem := List.mem_of_getElem? he
      obtain ⟨g, z, C, rfl, hBk, hC⟩ := HR.out.2.2.2.1 k e he
      have hez := HBD.out.1 e hmem
      have heb := HBD.out.2 e hmem
      have HEk : Hid (l[k]? = some e) := he
      have hi35 := info_enR (enC_size e hez)
      have hi32 : (Tryz.prog.info? 23).map (·.size) = some (idc e.id).size := info_32 (by rw [idc_size, hez])
      have HID : Hid (∀ j v, (idc e.id)[j]? = some v → C[z + k * 35 + j]? = some v) := fun j v hv => hC j v (by have := enC_id e hez j v hv; rwa [Nat.zero_add] at this)
      have HEN : Hid (∀ j v, (enC e)[j]? = some v → C[z + k * 35 + j]? = some v) := hC
      obtain ⟨nn, hlook⟩ := HR.out.2.2.1.look e.id hez
      have HK : Hid (Bk wr g C 56) := hBk
      clear he hmem hBk hC HR0 hmm
      cases hh : hasE (l.take k) e.id with
      | true =>
        have HND : Hid (¬ dsE l) := fun h => by
          have := h k e HEk.out
          rw [hh] at this; cases this
        have HB : Hid (Below w.heap.size w wr) := HR.out.2.2.1.bel
        rw [hh] at hlook
        clear hh HR
        go_wp2_with (first
          | (refine wpList_get rfl 23 (.tmp 39) rfl g (z + k * 35) C (idc e.id) 56 _ rfl HK.out HID.out Tryz.underlying23 rfl hi32 ?_)
          | fail)
        go_ret2
        exact ⟨[], _, 4, rfl, scan_not HST.out (fun h => HND.out h.1), rows_none, HB.out⟩
      | false =>
        have hds : dsE (l.take (k + 1)) := by
          rw [List.take_add_one, HEk.out, Option.toList_some]
          exact dsE_snoc.2 ⟨HR.out.2.1, hh⟩
        have htl : ((l.take k).map (·.id)).length < 1048576 := by rw [List.length_map, List.length_take]; omega
        obtain ⟨w7, hput, h7, hkk, hro⟩ := HR.out.2.2.1.put htl e.id hez (k : Int)
        have HK7 : Hid (Bk w7 g C 56) := hkk _ _ _ HK.out
        have hsum := sumE_take l k e HEk.out
        have hle : 4 + sumE (l.take (k + 1)) ≤ s.size := by
          have h1 : sumE (l.take (k + 1)) + sumE (l.drop (k + 1)) = sumE l := by rw [← sumE_append, List.take_append_drop]
          have := HOF.out
          omega
        obtain ⟨b', hb'⟩ : ∃ b', b' = b + (9 + e.sz) := ⟨_, rfl⟩
        have hb'' : b' = 4 + sumE (l.take (k + 1)) := by rw [hb', HR.out.1, hsum]; omega
        have hbz : b' ≤ s.size := by omega
        have hbi : (b : Int) + (9 + (e.sz : Int)) = (b' : Int) := by omega
        have HN7 : Hid (b' = 4 + sumE (l.take (k + 1)) ∧ dsE (l.take (k + 1)) ∧ RmS w w1.heap.size ((l.take (k + 1)).map (·.id)) w7 ∧ EnLr w7 (some ⟨g, z, none⟩) l ∧ w7.ownsRow w.heap.size 56 35 (.slice (some ⟨g, z, none⟩) N cm) N (env l)) := by
          refine ⟨hb'', hds, ?_, fun i x hx => ?_, hro HR.out.2.2.2.2⟩
          · rw [List.take_add_one, HEk.out, Option.toList_some, List.map_append]; exact h7
          · obtain ⟨g', z', C', q1, q2, q3⟩ := HR.out.2.2.2.1 i x hx
            exact ⟨g', z', C', q1, hkk _ _ _ q2, q3⟩
        have HSP : Hid (∀ W, Calls Tryz.prog 76 #[.agg (enC e)] W fun r w' => r = .returned (.tuple #[.int .i64 (e.off : Int), .int .i64 (9 + (e.sz : Int))]) ∧ Below W.heap.size W w') := fun W => rspan_any e W hez (by omega) (by omega)
        have hoz : e.off ≤ 67108864 := by omega
        have hszz : e.sz ≤ 2097152 := heb.1
        rw [hh] at hlook
        obtain ⟨ic, hic⟩ : ∃ ic, ic = idc e.id := ⟨_, rfl⟩
        obtain ⟨ec, hec⟩ : ∃ ec, ec = enC e := ⟨_, rfl⟩
        obtain ⟨eo, heo⟩ : ∃ eo, eo = e.off := ⟨_, rfl⟩
        obtain ⟨es, hes⟩ : ∃ es, es = e.sz := ⟨_, rfl⟩
        rw [← hic] at hlook hput hi32 HID
        rw [← hec] at hi35 HEN
        rw [← hec, ← heo, ← hes] at HSP
        rw [← heo] at hoz
        rw [← hes] at hszz hbi
        clear hh HR hkk hro h7 htl hds hsum hle hb' hb'' heb hic hec heo hes
        go_wp2_with (first
          | (refine wpList_get rfl 23 (.tmp 39) rfl g (z + k * 35) C ic 56 _ rfl HK.out HID.out Tryz.underlying23 rfl hi32 ?_)
          | (refine wpList_get rfl 23 (.tmp 49) rfl g (z + k * 35) C ic 56 _ rfl HK.out HID.out Tryz.underlying23 rfl hi32 ?_)
          | (refine wpList_get rfl 56 (.tmp 55) rfl g (z + k * 35) C ec 56 _ rfl HK7.out HEN.out Tryz.underlying56 rfl hi35 ?_)
          | fail)
        refine (HSP.out _).mono ?_
        rintro e w8 ⟨rfl, hb8⟩
        have HN8 : Hid (b' = 4 + sumE (l.take (k + 1)) ∧ dsE (l.take (k + 1)) ∧ RmS w w1.heap.size ((l.take (k + 1)).map (·.id)) w8 ∧ EnLr w8 (some ⟨g, z, none⟩) l ∧ w8.ownsRow w.heap.size 56 35 (.slice (some ⟨g, z, none⟩) N cm) N (env l)) :=
          ⟨HN7.out.1, HN7.out.2.1, HN7.out.2.2.1.keep hb8, HN7.out.2.2.2.1.below hb8, rows_keepB HN7.out.2.2.2.2 hb8⟩
        clear hb8 HN7 HSP HK7 HK
        go_wp2
        go_roundw
        case rel => exact ⟨k + 1, b', rfl, by go_num, by omega, hbz, HN8.out⟩
        case measure => simp [intOf]; omega
    · have hkz : ¬ (k : Int) < (N : Nat) := by omega
      obtain rfl : k = N := by omega
      have hxs : l.take k = l := List.take_of_length_le (by rw [HNl.out]; omega)
      rw [hxs] at HR
      obtain ⟨hb1, hds, hrm, _, how⟩ := HR.out
      obtain rfl : b = a := by rw [hb1]; exact HOF.out.symm
      have HDS : Hid (dsE l) := hds
      have HOW : Hid (wr.ownsRow w.heap.size 56 35 (.slice am k cm) k (env l)) := how
      have HB : Hid (Below w.heap.size w wr) := hrm.bel
      have haz : (b : Int) ≤ (s.size : Int) := by omega
      obtain ⟨X, hX⟩ : ∃ X, s.extract b s.size = X := ⟨_, rfl⟩
      have HX : Hid (X = frmO s b) := hX.symm
      obtain ⟨Tr, hTr⟩ : ∃ Tr, Tr = trl k := ⟨_, rfl⟩
      have HTr : Hid (Tr = trl k) := hTr
      have HTC : Hid (∀ W, Below wr.heap.size wr W → Calls Tryz.prog 77 #[.int .i64 (k : Int)] W (fun e w' => e = .returned (.string Tr) ∧ Below wr.heap.size wr w')) := fun W hW => by
        have := rtrailer k W (by omega)
        rw [← hTr] at this
        exact this.mono fun e w' h => ⟨h.1, hW.trans (h.2.mono hW.size)⟩
      clear hTr hxs HR hb1 hds hrm how HR0 HBD hmm
      by_cases he : X = Tr
      · have HE : Hid (frmO s b = trl l.length) := by show _ = _; rw [← HX.out, HNl.out, ← HTr.out]; exact he
        have hq2 : (X.toList != Tr.toList) = false := by rw [he]; simp
        have hq3 : X.toList = Tr.toList := by rw [he]
        clear he
        go_wp2_with fail
        refine region_class10 (fun W => Below wr.heap.size wr W) (by kernel_rfl) (by kernel_rfl) (Below.refl _ _).drew ?_
        (go_big_quiet_want; refine quiet_val10 (.string s) ?_ ?_; (focus (intro W hW; go_simp; done)); go_big_quiet_on; simp only [Act.put, List.setIfInBounds_toArray, List.set_cons_zero, List.set_cons_succ])
        (go_big_quiet_want; refine quiet_val10 (.int .i64 (b : Int)) ?_ ?_; (focus (intro W hW; go_simp; done)); go_big_quiet_on; simp only [Act.put, List.setIfInBounds_toArray, List.set_cons_zero, List.set_cons_succ])
        (go_big_quiet_want; refine quiet_val10 (.string X) ?_ ?_; (focus (intro W hW; go_simp; done)); go_big_quiet_on; simp only [Act.put, List.setIfInBounds_toArray, List.set_cons_zero, List.set_cons_succ])
        (go_big_quiet_want; refine quiet_val10 (.slice am k cm) ?_ ?_; (focus (intro W hW; go_simp; done)); go_big_quiet_on; simp only [Act.put, List.setIfInBounds_toArray, List.set_cons_zero, List.set_cons_succ])
        (go_big_quiet_want; refine quiet_val10 (.int .i64 (k : Int)) ?_ ?_; (focus (intro W hW; go_simp; done)); go_big_quiet_on; simp only [Act.put, List.setIfInBounds_toArray, List.set_cons_zero, List.set_cons_succ])
        (go_big_quiet_want; refine quiet_call10 (.string Tr) 77 #[.int .i64 (k : Int)] ?_ HTC.out ?_; (focus (intro W hW; go_simp; done)); go_big_quiet_on; simp only [Act.put, List.setIfInBounds_toArray, List.set_cons_zero, List.set_cons_succ])
        (go_big_quiet_want; refine quiet_val10 (.bool false) ?_ ?_; (focus (intro W hW; go_simp; done)); go_big_quiet_on; simp only [Act.put, List.setIfInBounds_toArray, List.set_cons_zero, List.set_cons_succ])

        refine wpQuiet_nil ?_
        intro w8 hw8
        have HB8 : Hid (Below w.heap.size w w8) := HB.out.trans (hw8.mono HB.out.size)
        have HO8 : Hid (w8.ownsRow w.heap.size 56 35 (.slice am k cm) k (env l)) := rows_keepB HOW.out hw8
        clear hw8
        go_wp2
        go_ret2
        refine ⟨l, _, 0, rfl, scan_is hs HPM.out HST.out HDS.out HE.out, ?_, HB8.out⟩
        rw [HNl.out]; exact HO8.out
      · have HE : Hid (¬ frmO s b = trl l.length) := fun h => he (by rw [HX.out, h, HNl.out, HTr.out])
        have hq := str_neP he
        have hq2 : (X.toList != Tr.toList) = true := by simp [bne, hq]
        have hq3 : ¬ X.toList = Tr.toList := by simpa using hq
        clear he hq
        go_wp2_with fail
        refine region_class10 (fun W => Below wr.heap.size wr W) (by kernel_rfl) (by kernel_rfl) (Below.refl _ _).drew ?_
        (go_big_quiet_want; refine quiet_val10 (.string s) ?_ ?_; (focus (intro W hW; go_simp; done)); go_big_quiet_on; simp only [Act.put, List.setIfInBounds_toArray, List.set_cons_zero, List.set_cons_succ])
        (go_big_quiet_want; refine quiet_val10 (.int .i64 (b : Int)) ?_ ?_; (focus (intro W hW; go_simp; done)); go_big_quiet_on; simp only [Act.put, List.setIfInBounds_toArray, List.set_cons_zero, List.set_cons_succ])
        (go_big_quiet_want; refine quiet_val10 (.string X) ?_ ?_; (focus (intro W hW; go_simp; done)); go_big_quiet_on; simp only [Act.put, List.setIfInBounds_toArray, List.set_cons_zero, List.set_cons_succ])
        (go_big_quiet_want; refine quiet_val10 (.slice am k cm) ?_ ?_; (focus (intro W hW; go_simp; done)); go_big_quiet_on; simp only [Act.put, List.setIfInBounds_toArray, List.set_cons_zero, List.set_cons_succ])
        (go_big_quiet_want; refine quiet_val10 (.int .i64 (k : Int)) ?_ ?_; (focus (intro W hW; go_simp; done)); go_big_quiet_on; simp only [Act.put, List.setIfInBounds_toArray, List.set_cons_zero, List.set_cons_succ])
        (go_big_quiet_want; refine quiet_call10 (.string Tr) 77 #[.int .i64 (k : Int)] ?_ HTC.out ?_; (focus (intro W hW; go_simp; done)); go_big_quiet_on; simp only [Act.put, List.setIfInBounds_toArray, List.set_cons_zero, List.set_cons_succ])
        (go_big_quiet_want; refine quiet_val10 (.bool true) ?_ ?_; (focus (intro W hW; go_simp; done)); go_big_quiet_on; simp only [Act.put, List.setIfInBounds_toArray, List.set_cons_zero, List.set_cons_succ])

        refine wpQuiet_nil ?_
        intro w8 hw8
        have HB8 : Hid (Below w.heap.size w w8) := HB.out.trans (hw8.mono HB.out.size)
        clear hw8
        go_wp2
        go_ret2
        exact ⟨[], _, 4, rfl, scan_not HST.out (fun h => HE.out h.2), rows_none, HB8.out⟩
theorem rscan_any (s : ByteArray) (w : World) (hs : s.size ≤ 140737488351232) :
    Calls Tryz.prog 35 #[.string s] w fun e w' => ∃ l v er, e = .returned (.tuple #[v, .int .i64 er]) ∧ ScA s l er ∧ w'.ownsRow w.heap.size 56 35 v l.length (env l) ∧ Below w.heap.size w w' := by
  have hmk : (⟨#[109, 112, 107, 49]⟩ : ByteArray) = mkB := rfl
  by_cases hz : s.size ≤ 67108864
  · cases hp : pmB s with
    | true => exact rscan_yes s w hz hp
    | false =>
      have HNO : Hid (ScA s [] 4) := .inr ⟨rfl, rfl, fun m hm => by have := hm.2.1; rw [hp] at this; cases this⟩
      have hn : ¬ (4 ≤ s.size ∧ s.extract 0 4 = mkB) := fun h => by rw [(pm_doc s).2 h] at hp; cases hp
      have h26 : ¬ (67108864 : Int) < (s.size : Int) := by omega
      clear hp
      by_cases h4 : 4 ≤ s.size
      · have h4z : ¬ (s.size : Int) < 4 := by omega
        have h4y : (4 : Int) ≤ (s.size : Int) := by omega
        obtain ⟨X, hX⟩ : ∃ X, s.extract 0 4 = X := ⟨_, rfl⟩
        have hq := str_neP (x := X) (y := mkB) (fun e => hn ⟨h4, hX.trans e⟩)
        have hq2 : (X.toList != mkB.toList) = true := by simp [bne, hq]
        clear hn
        go_enter Tryz.func35, Tryz.ntmps35
        go_wp2
        go_ret2
        exact ⟨[], _, 4, rfl, HNO.out, rows_none, Below.refl _ _⟩
      · have h4z : (s.size : Int) < 4 := by omega
        clear hn
        go_enter Tryz.func35, Tryz.ntmps35
        go_wp2
        go_ret2
        exact ⟨[], _, 4, rfl, HNO.out, rows_none, Below.refl _ _⟩
  · have HNO : Hid (ScA s [] 4) := .inr ⟨rfl, rfl, fun m hm => hz hm.1⟩
    have h26 : (67108864 : Int) < (s.size : Int) := by omega
    clear hz
    go_enter Tryz.func35, Tryz.ntmps35
    go_wp2
    go_ret2
    exact ⟨[], _, 4, rfl, HNO.out, rows_none, Below.refl _ _⟩
end Go.Proofs.YtpfknjnigcefgaaGreatDoor
/- The document's From. -/
namespace Go.Proofs.YtpfknjnigcefgaaGreatDoor
open Go.RowKit
set_option linter.unusedSimpArgs false
set_option linter.unusedVariables false
theorem env_xvs (l : List Ent) : env l = xvs (l.map xeO) := by
  simp only [env, xvs, List.flatMap_map]; rfl
theorem row_rx {w : World} {B n : Nat} {v : Value} {T : TypeId} {l : List Xe} (h : w.ownsRow B T 35 v n (xvs l)) (hn : l.length = n) (hs : ∀ e ∈ l, e.id.size = 32) : ∃ a c, v = .slice a n c ∧ XeL w a l ∧ n ≤ c ∧ ((a = none ∧ c = 0) ∨ ∃ g o, a = some ⟨g, o, none⟩) := by
  obtain ⟨a, c, hv, h1, h2, h3⟩ := own_xel h hn hs
  refine ⟨a, c, hv, h1, h2, ?_⟩
  rcases h.2 with ⟨q, h0⟩ | ⟨g, cap, cur, q, _⟩
  · rw [q] at hv
    injection hv with hv _ hc
    exact .inl ⟨hv.symm, hc.symm⟩
  · rw [q] at hv
    injection hv with hv _ _
    exact .inr ⟨g, 0, hv.symm⟩
set_option maxHeartbeats 2000000 in
set_option maxRecDepth 100000 in
theorem rfrom13 (S : ByteArray) (w : World) (hS : S.size ≤ 140737488351232) :
    Calls Tryz.prog 9 #[.string S] w fun e w' => FmS S e ∧ Below w.heap.size w w' := by
  have HSC : Hid (Calls Tryz.prog 35 #[.string S] w fun e w' => ∃ a n c er l, e = .returned (.tuple #[.slice a n c, .int .i64 er]) ∧ ScA S l er ∧ (er = 0 → XeL w' a (l.map xeO) ∧ l.length = n ∧ n ≤ c ∧ ((a = none ∧ c = 0) ∨ ∃ g o, a = some ⟨g, o, none⟩) ∧ n ≤ 65536) ∧ Below w.heap.size w w') := by
    refine (rscan_any S w hS).mono ?_
    rintro e w' ⟨l, v, er, h1, h2, h3, h4⟩
    rcases h2 with ⟨h0, hp⟩ | ⟨h0, hl, hno⟩
    · rw [env_xvs] at h3
      obtain ⟨a, c, rfl, hX, hc, hA⟩ := row_rx h3 (by rw [List.length_map]) (fun x hx => by obtain ⟨d, hd, rfl⟩ := List.mem_map.1 hx; exact hp.ids d hd)
      refine ⟨a, l.length, c, er, l, h1, .inl ⟨h0, hp⟩, fun _ => ?_, h4⟩
      obtain ⟨_, _, z, hs, _⟩ := hp
      exact ⟨hX, rfl, hc, hA, Rn.few hs.1 (fun l e h1 h2 => by simp [tkS] at h2; omega)⟩
    · obtain ⟨a, c, rfl, hA⟩ := row_slX h3
      exact ⟨a, l.length, c, er, l, h1, .inr ⟨h0, hl, hno⟩, fun q => by omega, h4⟩
  have HSM : Hid (∀ W, Calls Tryz.prog 19 #[.string S] W fun e w' => e = .returned (.agg (idc (sb (sha (byl S))))) ∧ Below W.heap.size W w') := fun W => quick_id11 S W hS
  obtain ⟨X, hX⟩ : ∃ X, sb (sha (byl S)) = X := ⟨_, rfl⟩
  have HX : Hid (sb (sha (byl S)) = X) := hX
  have HX32 : Hid (X.size = 32) := by rw [← hX]; exact sha_size _
  rw [hX] at HSM
  clear hX
  go_enter Tryz.func9, Tryz.ntmps9
  go_wp2_with fail
  refine HSC.out.mono ?_
  rintro e w1 ⟨a, n, c, er, l, rfl, hSA, hXL, hb1⟩
  have HB1 : Hid (Below w.heap.size w w1) := hb1
  rcases hSA with ⟨rfl, hp⟩ | ⟨rfl, rfl, hno⟩
  · obtain ⟨h1, h2, h3, h4, h5⟩ := hXL rfl
    have HP : Hid (PkO S l) := hp
    have HBD : Hid (∀ W, Below w1.heap.size w1 W → Calls Tryz.prog 7 #[.agg (idc X), .slice a n c] W fun e w' => ∃ R, e = .returned (.tuple #[.string R, .int .i64 (bE (l.map xeO))]) ∧ BdX X (l.map xeO) R ∧ Below W.heap.size W w') := fun W hW =>
      rbuild13 X (l.map xeO) a n c W HX32.out (h1.below hW) (by rw [List.length_map]; exact h2) h4 h3 (by omega)
    clear h1 h2 h3 h4 h5 hp hXL hb1
    go_wp2_with (first
      | (go_at_call 19; refine (HSM.out _).mono ?_; rintro e w2 ⟨rfl, hb2⟩; have HB2 : Hid (Below w1.heap.size w1 w2) := hb2; clear hb2)
      | (go_at_call 7; refine (HBD.out w2 HB2.out).mono ?_; rintro e w3 ⟨R, rfl, hR, hb3⟩; have HR : Hid (BdX X (l.map xeO) R ∧ Below w2.heap.size w2 w3) := ⟨hR, hb3⟩; clear hR hb3)
      | fail)
    go_ret2
    refine ⟨.inl ⟨l, R, HP.out, HP.out.ids, rfl, by rw [HX.out]; exact HR.out.1⟩, ?_⟩
    have q := HB1.out.trans (HB2.out.mono HB1.out.size)
    exact q.trans (HR.out.2.mono q.size)
  · have HN : Hid (∀ m, ¬ PkO S m) := hno
    clear hno hXL hb1
    go_wp2
    go_ret2
    exact ⟨.inr ⟨HN.out, rfl⟩, HB1.out⟩
end Go.Proofs.YtpfknjnigcefgaaGreatDoor
