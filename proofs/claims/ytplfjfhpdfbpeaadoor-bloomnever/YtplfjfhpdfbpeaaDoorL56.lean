/- The walk of BloomNever. -/
import Derived.Test.YtplfjfhpdfbpeaaDoorBM3
import Derived.Test.YtplfjfhpdfbpeaaDoorL55
import Derived.Test.YtplfjfhpdfbpeaaDoorL54
import Derived.Test.YtplfjfhpdfbpeaaDoorM6
import Derived.Deep.Cut
import Derived.Deep.CutRange
import Derived.Deep.DeepAppendRoom
namespace Go.Proofs.YtplfjfhpdfbpeaaDoor
open Go.RowKit
set_option linter.unusedSimpArgs false
set_option linter.unusedVariables false
theorem own_drwS {w : World} {base : Nat} {e : TypeId} {size n : Nat} {v : Value} {xs : List Value} (h : w.ownsRow base e size v n xs) (o : Obj) : ((w.alloc o).drew).ownsRow base e size v n xs := h.alloc o
theorem news_twoS (w : World) (p q : Value) (T : TypeId) : ∀ (j : Nat) (u : Value), [p, q][j]? = some u → ((w.alloc (.cells #[p, q] T)).drew).cell? ((⟨w.heap.size, 0, none⟩ : Addr).add j) = some u := by
  intro j u h
  have e : ((w.alloc (.cells #[p, q] T)).drew).cell? ((⟨w.heap.size, 0, none⟩ : Addr).add j) = (w.alloc (.cells #[p, q] T)).cell? ((⟨w.heap.size, 0, none⟩ : Addr).add j) := rfl
  rw [e, WideShapes.add_plain, Nat.zero_add, World.cell?_alloc_new]
  simpa using h
theorem one_twoS (x y : ByteArray) : ∀ v ∈ [Value.string x, Value.string y], v.oneCell' = true := by
  intro v hv
  simp only [List.mem_cons, List.not_mem_nil, or_false] at hv
  rcases hv with rfl | rfl <;> rfl
theorem app_drwS {B n : Nat} {w wr w1 : World} {o : Obj} {v : Value} {xs : List Value} {e : TypeId} (hb : Below B w wr) (hz : B ≤ wr.heap.size) (ho : wr.ownsRow B e 1 v n xs) (hg : ((wr.alloc o).drew).grownBy w1 v.ownBlock) : Below B w w1 := by
  refine ((hb.alloc hz o).drew).grown hg (by show B ≤ (wr.alloc o).heap.size; simp; omega) (fun k hk => ?_)
  rcases ho.2 with ⟨rfl, _⟩ | ⟨g, cap, cur, rfl, hle, _⟩
  · cases hk
  · simp [Value.ownBlock] at hk; omega
theorem own_none (w : World) : (w.alloc (.cells #[] 9)).ownsRow w.heap.size 9 1 (.slice (some ⟨w.heap.size, 0, none⟩) 0 0) 0 [] := World.ownsRow_made (size := 1) w _ 0 (Nat.le_refl _) (by unfold maxLen; omega) rfl
/-- Two filters of one size, made so far. -/
structure Du (w : World) (n K : Nat) (f g : Nat) (s : List UInt8) (o q : Nat) (t : List UInt8) (W : World) : Prop where
  one : FlS W f g n K s
  two : FlS W o q n K t
  gq : g ≠ q
  lg : w.heap.size ≤ g
  bel : Below w.heap.size w W
theorem Du.below {w W W' : World} {n K f g o q : Nat} {s t : List UInt8} (h : Du w n K f g s o q t W) (hb : Below W.heap.size W W') : Du w n K f g s o q t W' :=
  ⟨h.one.below hb, h.two.below hb, h.gq, h.lg, h.bel.trans (hb.mono h.bel.size)⟩
/-- Three filters of one size. -/
structure T3 (w : World) (n K : Nat) (f g : Nat) (s : List UInt8) (o q : Nat) (t : List UInt8) (h r : Nat) (u : List UInt8) (W : World) : Prop where
  one : FlS W f g n K s
  two : FlS W o q n K t
  thr : FlS W h r n K u
  gq : g ≠ q
  gr : g ≠ r
  lg : w.heap.size ≤ g
  bel : Below w.heap.size w W
theorem T3.below {w : World} {n K f g : Nat} {s : List UInt8} {o q : Nat} {t : List UInt8} {h r : Nat} {u : List UInt8} {W W' : World} (H : T3 w n K f g s o q t h r u W) (hb : Below W.heap.size W W') : T3 w n K f g s o q t h r u W' :=
  ⟨H.one.below hb, H.two.below hb, H.thr.below hb, H.gq, H.gr, H.lg, H.bel.trans (hb.mono H.bel.size)⟩
theorem T3.first {w : World} {n K f g : Nat} {s s' : List UInt8} {o q : Nat} {t : List UInt8} {h r : Nat} {u : List UInt8} {W W' : World} (H : T3 w n K f g s o q t h r u W) (hg : W.grownBy W' (some g)) (h1 : FlS W' f g n K s') : T3 w n K f g s' o q t h r u W' :=
  ⟨h1, H.two.other H.one hg H.gq, H.thr.other H.one hg H.gr, H.gq, H.gr, H.lg, below_own H.bel H.bel.size hg H.lg⟩
/-- What stands from the filters' reading back on: three filters of one row, one of another, two lists of texts. -/
structure Q4 (w : World) (n K f o h b : Nat) (J t : List UInt8) (aa : Option Addr) (Us : List ByteArray) (a3 : Option Addr) (zs : List ByteArray) (W : World) : Prop where
  one : ∃ g, FlS W f g n K J
  two : ∃ g, FlS W o g n K t
  thr : ∃ g, FlS W h g n K J
  fou : ∃ g, FlS W b g n K J
  tx : TxL W aa Us
  ask : TxL W a3 zs
  bel : Below w.heap.size w W
theorem Q4.next {w : World} {n K f o h b : Nat} {J t : List UInt8} {aa : Option Addr} {Us : List ByteArray} {a3 : Option Addr} {zs : List ByteArray} {W W' : World} (H : Q4 w n K f o h b J t aa Us a3 zs W) (hb : Below W.heap.size W W') : Q4 w n K f o h b J t aa Us a3 zs W' :=
  ⟨H.one.imp fun _ x => x.below hb, H.two.imp fun _ x => x.below hb, H.thr.imp fun _ x => x.below hb, H.fou.imp fun _ x => x.below hb, H.tx.below hb, H.ask.below hb, H.bel.trans (hb.mono H.bel.size)⟩
theorem mem_dropS {Us T : List ByteArray} {q : Nat} {x : ByteArray} (hx : Us[q]? = some x) (h : ∀ y, y ∈ T ↔ y ∈ Us.drop (q + 1)) : ∀ y, y ∈ T ++ [x, x] ↔ y ∈ Us.drop q := by
  intro y
  obtain ⟨hq, rfl⟩ := List.getElem?_eq_some_iff.1 hx
  rw [List.drop_eq_getElem_cons hq]
  simp only [List.mem_append, List.mem_cons, List.not_mem_nil, or_false, or_self, h]
  exact or_comm
set_option maxHeartbeats 8000000 in
set_option maxRecDepth 100000 in
theorem never_walk (size hashes : Int) (a : Option Addr) (L c : Nat) (a2 : Option Addr) (L2 c2 : Nat) (a3 : Option Addr) (L3 c3 : Nat) (xs ys zs : List ByteArray) (w : World) (hm : MkS w) (hx : TxL w a xs) (nx : xs.length = L) (hL : L ≤ 140737488355328) (hLc : L ≤ c) (hy : TxL w a2 ys) (ny : ys.length = L2) (hL2 : L2 ≤ 140737488355328) (hLc2 : L2 ≤ c2) (hz : TxL w a3 zs) (nz : zs.length = L3) (hL3 : L3 ≤ 140737488355328)
    (b1 : -9223372036854775808 ≤ size ∧ size ≤ 9223372036854775807) (b3 : -9223372036854775808 ≤ hashes ∧ hashes ≤ 9223372036854775807) :
    Calls Tryd.prog 6 #[.int .i64 size, .int .i64 hashes, .slice a L c, .slice a2 L2 c2, .slice a3 L3 c3] w fun e w' => e = .returned (.bool true) ∧ Below w.heap.size w w' := by
  obtain ⟨r1, e1, e1a, e1b⟩ := rem_m (x := size) 6 (by omega)
  obtain ⟨r3, e3, e3a, e3b⟩ := rem_m (x := hashes) 8 (by omega)
  obtain ⟨p1, f1⟩ : ∃ p : Nat, (r1 + 6) % 6 = p := ⟨((r1 + 6) % 6).toNat, by omega⟩
  obtain ⟨p3, f3⟩ : ∃ p : Nat, (r3 + 8) % 8 = p := ⟨((r3 + 8) % 8).toNat, by omega⟩
  have p1b : p1 < 6 := by omega
  have p3b : p3 < 8 := by omega
  have g1 : (r1 + 6).tmod 6 = (p1 : Int) := by rw [Int.tmod_eq_emod_of_nonneg (by omega)]; exact f1
  have g3 : (r3 + 8).tmod 8 = (p3 : Int) := by rw [Int.tmod_eq_emod_of_nonneg (by omega)]; exact f3
  obtain ⟨n, hn⟩ : ∃ n, 64 * 2 ^ p1 = n := ⟨_, rfl⟩
  have s1 : IntKind.i64.wrap ((64 : Int) * 2 ^ p1) = (n : Int) := by
    have := shl64 p1 64 0 rfl (by omega)
    rw [Nat.zero_add, hn] at this
    exact this
  obtain ⟨K, hK⟩ : ∃ K, 1 + p3 = K := ⟨_, rfl⟩
  have hK1 : (1 : Int) + p3 = (K : Int) := by omega
  have hK8 : 1 ≤ K ∧ K ≤ 8 := by omega
  have hok : okF n K := ⟨⟨p1, by omega, hn.symm⟩, by omega, by omega⟩
  have hn0 : 0 < n := by have := okF_pos hok; omega
  have hnd := okF_div hok
  have HO : Hid (okF n K ∧ 0 < n ∧ 8 * (n / 8) = n) := ⟨hok, hn0, hnd⟩
  obtain ⟨As, hAs⟩ : ∃ zs, xs.take 100 = zs := ⟨_, rfl⟩
  obtain ⟨Bs, hBs⟩ : ∃ zs, ys.take 100 = zs := ⟨_, rfl⟩
  have HA : Hid (TxL w a As ∧ ∀ M, (M = L ∧ (L : Int) ≤ 100 ∨ M = 100 ∧ 100 < (L : Int)) → As.length = M) := ⟨by rw [← hAs]; exact txl_take hx 100, fun M hM => by rw [← hAs, List.length_take]; omega⟩
  have HB : Hid (TxL w a2 Bs ∧ ∀ M, (M = L2 ∧ (L2 : Int) ≤ 100 ∨ M = 100 ∧ 100 < (L2 : Int)) → Bs.length = M) := ⟨by rw [← hBs]; exact txl_take hy 100, fun M hM => by rw [← hBs, List.length_take]; omega⟩
  have HZ : Hid (TxL w a3 zs ∧ zs.length = L3) := ⟨hz, nz⟩
  have HM : Hid (MkS w) := hm
  have MD : Hid (∀ W ad M cap (vs : List ByteArray), TxL W ad vs → vs.length = M → M ≤ 1000 → Calls Tryd.prog 31 #[.int .i64 (n : Int), .int .i64 (K : Int), .slice ad M cap] W fun e w' => ∃ f g, e = .returned (.pointer (some ⟨f, 0, none⟩)) ∧ FlS w' f g n K (mdR n K vs) ∧ Below W.heap.size W w' ∧ W.heap.size ≤ f ∧ W.heap.size ≤ g) := fun W ad M cap vs h1 h2 h3 => made_any14 n K ad M cap vs W hok h1 h2 (by omega)
  clear f1 f3 hn hx hy hz nx ny nz hK hAs hBs hok hn0 hnd hm
  obtain ⟨i0, hi, hz0, hz1, hz2⟩ := info_parts inf_str
  go_enter Tryd.func6, Tryd.ntmps6
  go_wp2_with fail
  refine (awake14 w).mono ?_
  rintro e w1 ⟨rfl, hb1⟩
  have HB1 : Hid (Below w.heap.size w w1) := hb1
  clear hb1
  go_upto_if 40 with fail
  go_cut [2] from 40 to 42 (fun x wx => ∃ A : Nat, x = .slice a A c ∧ A ≤ 100 ∧ Hid (As.length = A) ∧ wx = w1)
  case first =>
    by_cases h : (L : Int) ≤ 100
    · go_wp2
      go_meet
      exact ⟨L, rfl, by omega, HA.out.2 L (.inl ⟨rfl, h⟩), rfl⟩
    · have h' : 100 < (L : Int) := by omega
      go_wp2
      go_meet
      exact ⟨100, rfl, by omega, HA.out.2 100 (.inr ⟨rfl, h'⟩), rfl⟩
  case rest =>
  obtain ⟨A, rfl, hA, NA, rfl⟩ := hcut
  go_upto_if 45 with fail
  go_cut [3] from 45 to 47 (fun x wx => ∃ A : Nat, x = .slice a2 A c2 ∧ A ≤ 100 ∧ Hid (Bs.length = A) ∧ wx = wc)
  case first =>
    by_cases h : (L2 : Int) ≤ 100
    · go_wp2
      go_meet
      exact ⟨L2, rfl, by omega, HB.out.2 L2 (.inl ⟨rfl, h⟩), rfl⟩
    · have h' : 100 < (L2 : Int) := by omega
      go_wp2
      go_meet
      exact ⟨100, rfl, by omega, HB.out.2 100 (.inr ⟨rfl, h'⟩), rfl⟩
  case rest =>
  obtain ⟨B, rfl, hB, NB, hwc⟩ := hcut
  subst hwc
  go_wp2_with fail
  refine (MD.out _ a A c As (HA.out.1.below HB1.out) NA.out (by omega)).mono ?_
  rintro e w2 ⟨f, g, rfl, f2, b2, lf, lg⟩
  have D2 : Hid (FlS w2 f g n K (mdR n K As) ∧ Below w.heap.size w w2 ∧ w.heap.size ≤ g) := ⟨f2, HB1.out.trans (b2.mono HB1.out.size), Nat.le_trans HB1.out.size lg⟩
  clear f2 b2 lf lg
  go_wp2_with fail
  refine (MD.out _ a2 B c2 Bs (HB.out.1.below D2.out.2.1) NB.out (by omega)).mono ?_
  rintro e w3 ⟨o, q, rfl, f3, b3, lf, lg⟩
  have D3 : Hid (Du w n K f g (mdR n K As) o q (mdR n K Bs) w3) := ⟨D2.out.1.below b3, f3, by have := D2.out.1.row.lt; omega, D2.out.2.2, D2.out.2.1.trans (b3.mono D2.out.2.1.size)⟩
  clear f3 b3 lf lg D2 HB1
  have HTB : Hid (TxL w3 a2 Bs) := HB.out.1.below D3.out.bel
  go_wp2_with (at_builtin; refine wpList_append_txts _ rfl _ _ rfl w3.heap.size _ [] Bs 0 B c2 rfl rfl NB.out (World.ownsRow_made (size := 1) w3 #[] 0 (Nat.le_refl _) (by unfold maxLen; omega) rfl) (by simp) a2 rfl (HTB.out.alloc _) (by omega) ?_)
  intro v4 w4 ow4 gr4
  have HO4 : Hid (w4.ownsRow w3.heap.size 9 1 v4 B (sv Bs)) := ow4
  have HB4 : Hid (Below w3.heap.size w3 w4) := by
    refine ((Below.refl _ _).alloc (Nat.le_refl _) _).grown gr4 (by simp) (fun g hg => ?_)
    simp [Value.ownBlock] at hg; omega
  have hz4 : w3.heap.size ≤ w4.heap.size := HB4.out.size
  have HTA : Hid (TxL w4 a As) := (HA.out.1.below D3.out.bel).below HB4.out
  clear ow4 gr4 HTB
  go_wp2_with (at_builtin; refine wpList_append_txts _ rfl _ _ rfl w3.heap.size v4 Bs As B A c rfl NB.out NA.out HO4.out hz4 a rfl HTA.out (by omega) ?_)
  intro v5 w5 ow5 gr5
  have HB5 : Hid (Below w3.heap.size w3 w5) := by
    refine HB4.out.grown gr5 hz4 (fun k hk => ?_)
    rcases HO4.out.2 with ⟨rfl, _⟩ | ⟨g, cap, cur, rfl, hle, _⟩
    · cases hk
    · simp [Value.ownBlock] at hk; omega
  obtain ⟨Us, hU⟩ : ∃ Us, Bs ++ As = Us := ⟨_, rfl⟩
  obtain ⟨N, hN⟩ : ∃ N, B + A = N := ⟨_, rfl⟩
  have nU : Us.length = N := by rw [← hU, List.length_append, NB.out, NA.out, hN]
  rw [hU, hN] at ow5
  obtain ⟨aa, ca, hv5, t5, l5⟩ := own_txl (xs := Us) (by rw [nU]; exact ow5)
  rw [nU] at hv5
  subst hv5
  have N2 : N ≤ 200 := by omega
  have D5 : Hid (Du w n K f g (mdR n K As) o q (mdR n K Bs) w5) := D3.out.below HB5.out
  have HNE : Hid (∀ b o s, aa = some ⟨b, o, s⟩ → b ≠ g) := fun b o s e => by have := l5 b o s e; have := D3.out.one.row.lt; omega
  have HU : Hid (TxL w5 aa Us ∧ Us.length = N ∧ Us = Bs ++ As) := ⟨t5, nU, hU.symm⟩
  clear ow5 gr5 HB4 hz4 HTA HO4 HB5 t5 l5 nU hU hN D3
  go_wp2
  go_loopw [15, 16] (fun v i wr => ∃ (T : List ByteArray) (m j : Nat) (iv : Int), m + j = N ∧ i = .int .i64 iv ∧ iv + 1 = (j : Int) ∧ Hid (wr.ownsRow w5.heap.size 9 1 v (2 * m) (sv T) ∧ T.length = 2 * m ∧ (∀ y, y ∈ T ↔ y ∈ Us.drop j) ∧ Below w5.heap.size w5 wr)) (fun _ i _ => (intOf i + 1).toNat)
  case atStart => exact ⟨[], 0, N, _, by omega, rfl, by omega, World.ownsRow_nil _ _ _ _, rfl, fun y => by rw [← HU.out.2.1, List.drop_length], Below.refl _ _⟩
  case round =>
    obtain ⟨T, m, j, iv, hmj, rfl, hiv, HR⟩ := hrel
    by_cases hlt : 0 < j
    · obtain ⟨q1, rfl⟩ : ∃ q, j = q + 1 := ⟨j - 1, by omega⟩
      obtain rfl : iv = (q1 : Int) := by omega
      have hq : q1 < N := by omega
      obtain ⟨x, hx⟩ : ∃ x, Us[q1]? = some x := ⟨_, List.getElem?_eq_getElem (by rw [HU.out.2.1]; exact hq)⟩
      have HMM : Hid (∀ y, y ∈ T ++ [x, x] ↔ y ∈ Us.drop q1) := mem_dropS hx HR.out.2.2.1
      obtain ⟨ga, oa, rfl, hga, hc5⟩ := HU.out.1 q1 x hx
      have hc : wr.cell? ⟨ga, oa + q1, none⟩ = some (.string x) := by rw [HR.out.2.2.2.cell (p := ⟨ga, oa + q1, none⟩) hga]; exact hc5
      have HC5 : Hid (w5.cell? ⟨ga, oa + q1, none⟩ = some (.string x)) := hc5
      have hb0 := HR.out.2.2.2.size
      clear hx hiv hlt hc5
      go_wp2_with fail
      go_region_held3 (fun w' => w'.cell? ⟨ga, oa + q1, none⟩ = some (.string x)) (go_keep)
        ((refine step_append_lies _ (by rfl) _ _ _ (by rfl) w5.heap.size 9 i0 (.string ⟨#[]⟩) 1 16 Tryd.underlying61 hi hz0 hz1 hz2 rfl (by decide) u15 (2 * m) _ (by rfl) (own_drwS HR.out.1 _) ⟨wr.heap.size, 0, none⟩ 2 2 [.string x, .string x] (by rfl) rfl (news_twoS wr _ _ _) (one_twoS _ _) (by omega) (by unfold maxLen; omega) (by omega) (by show w5.heap.size ≤ (wr.alloc _).heap.size; simp; omega) (wr.heap.size + 1) (by show (wr.alloc _).heap.size = _; simp) ?_; intro g7 cap7 w7 hown7 hgrow hat hlt7; have f1 : w7.cell? ⟨ga, oa + q1, none⟩ = some (.string x) := by (rw [(app_drwS HR.out.2.2.2 hb0 HR.out.1 hgrow).cell (p := ⟨ga, oa + q1, none⟩) hga]; exact HC5.out)))
      all_goals go_wp2
      all_goals go_roundw
      all_goals first
        | (refine ⟨T ++ [x, x], m + 1, q1, _, by omega, rfl, by omega, ?_, by rw [List.length_append, HR.out.2.1]; rfl, HMM.out, app_drwS HR.out.2.2.2 hb0 HR.out.1 hgrow⟩
           have h := hown7
           rw [sv_append]
           exact h)
        | (simp [intOf]; done)
        | (simp [intOf]; omega)
    · obtain rfl : j = 0 := by omega
      obtain rfl : m = N := by omega
      obtain rfl : iv = -1 := by omega
      obtain ⟨M2, hM2⟩ : ∃ M2, 2 * m = M2 := ⟨_, rfl⟩
      have hM4 : M2 ≤ 400 := by omega
      rw [hM2] at HR
      obtain ⟨aT, cT, hvT, tT, lT⟩ := own_txl (xs := T) (by rw [HR.out.2.1]; exact HR.out.1)
      rw [HR.out.2.1] at hvT
      subst hvT
      have HT : Hid (TxL wr aT T ∧ T.length = M2 ∧ (∀ y, y ∈ T ↔ y ∈ Us)) := ⟨tT, HR.out.2.1, fun y => (HR.out.2.2.1 y).trans (by rw [List.drop_zero])⟩
      have D6 : Hid (Du w n K f g (mdR n K As) o q (mdR n K Bs) wr) := D5.out.below HR.out.2.2.2
      have HU6 : Hid (TxL wr aa Us) := HU.out.1.below HR.out.2.2.2
      clear tT lT hM2 HR D5 hmj hlt hiv
      go_wp2_with fail
      refine (MD.out _ aT M2 cT T HT.out.1 HT.out.2.1 (by omega)).mono ?_
      rintro e w7 ⟨h, r, rfl, f7, b7, lf, lg⟩
      obtain ⟨s, hs⟩ : ∃ s, mdR n K As = s := ⟨_, rfl⟩
      obtain ⟨t, ht⟩ : ∃ t, mdR n K Bs = t := ⟨_, rfl⟩
      obtain ⟨J, hJ⟩ : ∃ J, mdR n K Us = J := ⟨_, rfl⟩
      have eJ : jnR s t = J := by rw [← hs, ← ht, ← hJ]; exact jn_md n K As Bs Us HO.out.2.1 HO.out.2.2 (fun x => by rw [HU.out.2.2])
      have eT : mdR n K T = J := by rw [← eJ, ← hs, ← ht]; exact (jn_md n K As Bs T HO.out.2.1 HO.out.2.2 (fun x => (HT.out.2.2 x).trans (by rw [HU.out.2.2]))).symm
      have lJ : 8 * J.length = n := by rw [← hJ, mdR_len]; exact HO.out.2.2
      obtain ⟨O1, hO1⟩ : ∃ x, onR s = x := ⟨_, rfl⟩
      obtain ⟨O2, hO2⟩ : ∃ x, onR t = x := ⟨_, rfl⟩
      obtain ⟨OJ, hOJ⟩ : ∃ x, onR J = x := ⟨_, rfl⟩
      obtain ⟨P1, hP1⟩ : ∃ x, A * K = x := ⟨_, rfl⟩
      obtain ⟨P2, hP2⟩ : ∃ x, B * K = x := ⟨_, rfl⟩
      obtain ⟨PJ, hPJ⟩ : ∃ x, m * K = x := ⟨_, rfl⟩
      have l1 : O1 ≤ P1 := by rw [← hO1, ← hP1, ← hs, ← NA.out]; exact onR_md n K As HO.out.2.1 HO.out.2.2
      have l2 : O2 ≤ P2 := by rw [← hO2, ← hP2, ← ht, ← NB.out]; exact onR_md n K Bs HO.out.2.1 HO.out.2.2
      have l3 : OJ ≤ PJ := by rw [← hOJ, ← hPJ, ← hJ, ← HU.out.2.1]; exact onR_md n K Us HO.out.2.1 HO.out.2.2
      have l4 : OJ = 0 ↔ m = 0 := by
        rw [← hOJ, ← hJ, onR_md_zero n K Us HO.out.2.1 HO.out.2.2 (by omega), ← HU.out.2.1]
        exact List.length_eq_zero_iff.symm
      have q1 : P1 ≤ 800 := by rw [← hP1]; exact Nat.mul_le_mul hA hK8.2
      have q2 : P2 ≤ 800 := by rw [← hP2]; exact Nat.mul_le_mul hB hK8.2
      have q3 : PJ ≤ 1600 := by rw [← hPJ]; exact Nat.mul_le_mul N2 hK8.2
      have m1 : (A : Int) * (K : Int) = (P1 : Int) := by rw [← hP1]; exact (Int.natCast_mul A K).symm
      have m2 : (B : Int) * (K : Int) = (P2 : Int) := by rw [← hP2]; exact (Int.natCast_mul B K).symm
      have m3 : (m : Int) * (K : Int) = (PJ : Int) := by rw [← hPJ]; exact (Int.natCast_mul m K).symm
      rw [hs, ht] at D6
      rw [eT] at f7
      obtain ⟨S, hS⟩ : ∃ S, enF n K J = S := ⟨_, rfl⟩
      have ES : Hid (∀ W f g, Below w.heap.size w W → FlS W f g n K J → Calls Tryd.prog 15 #[.pointer (some ⟨f, 0, none⟩)] W fun e w' => e = .returned (.tuple #[.string S, .int .i64 0]) ∧ Below W.heap.size W w') := fun W f g hb h => by
        rw [← hS]; exact enc_any14 f g n K J W h (HM.out.below hb)
      have DS : Hid (∀ W, Below w.heap.size w W → Calls Tryd.prog 16 #[.string S] W fun e w' => ∃ f g, NwF W e w' f g n K J) := fun W hb => by
        rw [← hS]; exact dec_yes14 HO.out.1 lJ W (HM.out.below hb)
      have ON : Hid (∀ W f g s, FlS W f g n K s → Calls Tryd.prog 21 #[.pointer (some ⟨f, 0, none⟩)] W fun e w' => e = .returned (.int .i64 (onR s : Int)) ∧ w' = W) := fun W f g s h => ones_any14 f g n K s W h
      have HJ : Hid (mdR n K Us = J) := hJ
      have HO1 : Hid (onR s = O1 ∧ onR t = O2 ∧ onR J = OJ ∧ jnR s t = J) := ⟨hO1, hO2, hOJ, eJ⟩
      have T7 : Hid (T3 w n K f g s o q t h r J w7) := ⟨D6.out.one.below b7, D6.out.two.below b7, f7, D6.out.gq, by have := D6.out.one.row.lt; omega, D6.out.lg, D6.out.bel.trans (b7.mono D6.out.bel.size)⟩
      have HU7 : Hid (TxL w7 aa Us) := HU6.out.below b7
      have L4 : Hid (OJ = 0 ↔ m = 0) := l4
      clear f7 b7 lf lg D6 HU6 hs ht hJ eJ eT lJ hO1 hO2 hOJ hP1 hP2 hPJ hS HT MD l4
      have k1 : (O1 : Int) ≤ (P1 : Int) := by omega
      have k2 : (O2 : Int) ≤ (P2 : Int) := by omega
      have k3 : (OJ : Int) ≤ (PJ : Int) := by omega
      have x1 : ¬ P1 < O1 := by omega
      have x2 : ¬ P2 < O2 := by omega
      have x3 : ¬ PJ < OJ := by omega
      go_wp2_with fail
      have c1 := ON.out _ _ _ _ T7.out.one
      rw [HO1.out.1] at c1
      refine c1.mono ?_
      rintro e w8 ⟨rfl, hw8⟩
      obtain rfl : w7 = w8 := hw8.symm
      clear c1
      go_wp2_with fail
      refine (join_yes14 f g n K s o q t w7 T7.out.one T7.out.two T7.out.gq).mono ?_
      rintro e w8 ⟨rfl, f8, g8⟩
      have T8 : Hid (T3 w n K f g J o q t h r J w8) := T7.out.first g8 (by rw [← HO1.out.2.2.2]; exact f8)
      have HU8 : Hid (TxL w8 aa Us) := fun i x hx => by
        obtain ⟨b, o, e, hb, hc⟩ := HU7.out i x hx
        exact ⟨b, o, e, Nat.lt_of_lt_of_le hb g8.size, g8.cell hc (fun e' => HNE.out b o none e (Option.some.inj e'))⟩
      clear f8 g8 T7 HU7
      go_wp2_with fail
      refine (ES.out _ _ _ T8.out.bel T8.out.one).mono ?_
      rintro e w9 ⟨rfl, b9⟩
      have T9 : Hid (T3 w n K f g J o q t h r J w9) := T8.out.below b9
      have HU9 : Hid (TxL w9 aa Us) := HU8.out.below b9
      clear b9 T8 HU8
      go_wp2_with fail
      refine (ES.out _ _ _ T9.out.bel T9.out.thr).mono ?_
      rintro e w10 ⟨rfl, b9⟩
      have T10 : Hid (T3 w n K f g J o q t h r J w10) := T9.out.below b9
      have HU10 : Hid (TxL w10 aa Us) := HU9.out.below b9
      clear b9 T9 HU9
      go_wp2_with fail
      refine (DS.out _ T10.out.bel).mono ?_
      rintro e w11 ⟨b, v, h11⟩
      obtain rfl := h11.res
      have Q0 : Hid (Q4 w n K f o h b J t aa Us a3 zs w11) := ⟨⟨g, T10.out.one.below h11.bel⟩, ⟨q, T10.out.two.below h11.bel⟩, ⟨r, T10.out.thr.below h11.bel⟩, ⟨v, h11.fil⟩, HU10.out.below h11.bel, HZ.out.1.below (T10.out.bel.trans (h11.bel.mono T10.out.bel.size)), T10.out.bel.trans (h11.bel.mono T10.out.bel.size)⟩
      clear h11 T10 HU10 ES DS
      have e4 : ((OJ : Int) == 0) = ((m : Int) == 0) := by
        have := L4.out
        rw [Bool.eq_iff_iff, beq_iff_eq, beq_iff_eq]
        omega
      have O4 : Hid (∀ W, Q4 w n K f o h b J t aa Us a3 zs W → Calls Tryd.prog 21 #[.pointer (some ⟨f, 0, none⟩)] W fun e w' => e = .returned (.int .i64 (OJ : Int)) ∧ w' = W) := fun W hW => by
        obtain ⟨g, hg⟩ := hW.one
        rw [← HO1.out.2.2.1]; exact ON.out W f g J hg
      have O5 : Hid (∀ W, Q4 w n K f o h b J t aa Us a3 zs W → Calls Tryd.prog 21 #[.pointer (some ⟨o, 0, none⟩)] W fun e w' => e = .returned (.int .i64 (O2 : Int)) ∧ w' = W) := fun W hW => by
        obtain ⟨g, hg⟩ := hW.two
        rw [← HO1.out.2.1]; exact ON.out W o g t hg
      go_wp2_with fail
      refine (O4.out _ Q0.out).mono ?_
      rintro e w12 ⟨rfl, hw⟩
      obtain rfl : w11 = w12 := hw.symm
      go_wp2_with fail
      refine (O4.out _ Q0.out).mono ?_
      rintro e w12 ⟨rfl, hw⟩
      obtain rfl : w11 = w12 := hw.symm
      go_wp2_with fail
      refine (O5.out _ Q0.out).mono ?_
      rintro e w12 ⟨rfl, hw⟩
      obtain rfl : w11 = w12 := hw.symm
      clear O4 O5 ON
      go_wp2
      clear e4
      try rw [decide_eq_false x3]
      try rw [decide_eq_false x2]
      try simp only [Bool.or_self]
      obtain ⟨bb, hbb⟩ : ∃ bb, ((m : Int) == 0) = bb := ⟨_, rfl⟩
      try rw [hbb]
      obtain ⟨bc, hbc⟩ : ∃ bc, ((OJ : Int) == 0) = bc := ⟨_, rfl⟩
      try rw [hbc]
      clear hbb hbc
      go_loopw [24] (fun v wr => ∃ k : Nat, k ≤ m ∧ v = .int .i64 k ∧ Hid (Q4 w n K f o h b J t aa Us a3 zs wr)) (fun v _ => m - (intOf v).toNat)
      case atStart => exact ⟨0, Nat.zero_le _, rfl, Q0.out⟩
      case round =>
        clear Q0
        obtain ⟨k, hk, rfl, Q1⟩ := hrel
        by_cases hlt : k < m
        · obtain ⟨x, hx⟩ : ∃ x, Us[k]? = some x := ⟨_, List.getElem?_eq_getElem (by rw [HU.out.2.1]; exact hlt)⟩
          have hmem : x ∈ Us := List.mem_of_getElem? hx
          have hh : haK n (idF x) J K = true := by rw [← HJ.out]; exact had_md n K Us HO.out.2.1 HO.out.2.2 x hmem
          obtain ⟨D, hD⟩ : ∃ D, idc (idF x) = D := ⟨_, rfl⟩
          obtain ⟨ga, oa, rfl, hga, hc⟩ := Q1.out.tx k x hx
          have ID : Hid (∀ W, Calls Tryd.prog 10 #[.string x] W fun e w' => e = .returned (.agg D) ∧ Below W.heap.size W w') := fun W => by rw [← hD]; exact id_any14 x W
          have H1 : Hid (∀ W, Q4 w n K f o h b J t (some ⟨ga, oa, none⟩) Us a3 zs W → Calls Tryd.prog 19 #[.pointer (some ⟨f, 0, none⟩), .agg D] W fun e w' => e = .returned (.bool true) ∧ Below W.heap.size W w') := fun W hW => by
            obtain ⟨g, hg⟩ := hW.one
            have := has_any14 (idF x) f g n K J W (idF_size x) hg
            rw [hh, hD] at this
            exact this
          have H2 : Hid (∀ W, Q4 w n K f o h b J t (some ⟨ga, oa, none⟩) Us a3 zs W → Calls Tryd.prog 19 #[.pointer (some ⟨b, 0, none⟩), .agg D] W fun e w' => e = .returned (.bool true) ∧ Below W.heap.size W w') := fun W hW => by
            obtain ⟨g, hg⟩ := hW.fou
            have := has_any14 (idF x) b g n K J W (idF_size x) hg
            rw [hh, hD] at this
            exact this
          have TC : Hid (∀ W, Q4 w n K f o h b J t (some ⟨ga, oa, none⟩) Us a3 zs W → W.cell? ⟨ga, oa + k, none⟩ = some (.string x)) := fun W hW => by
            obtain ⟨g', o', e, _, hc'⟩ := hW.tx k x hx
            cases e
            exact hc'
          clear hx hmem hD hh
          go_wp2_with fail
          refine (ID.out _).mono ?_
          rintro e v1 ⟨rfl, c1⟩
          have Q2 : Hid (Q4 w n K f o h b J t (some ⟨ga, oa, none⟩) Us a3 zs v1) := Q1.out.next c1
          clear c1
          go_wp2_with fail
          refine (H1.out _ Q2.out).mono ?_
          rintro e v2 ⟨rfl, c1⟩
          have Q3 : Hid (Q4 w n K f o h b J t (some ⟨ga, oa, none⟩) Us a3 zs v2) := Q2.out.next c1
          have hc3 := TC.out _ Q3.out
          clear c1 Q2
          go_wp2_with fail
          refine (ID.out _).mono ?_
          rintro e v3 ⟨rfl, c1⟩
          have Q2 : Hid (Q4 w n K f o h b J t (some ⟨ga, oa, none⟩) Us a3 zs v3) := Q3.out.next c1
          clear c1 Q3
          go_wp2_with fail
          refine (H2.out _ Q2.out).mono ?_
          rintro e v4 ⟨rfl, c1⟩
          have Q3 : Hid (Q4 w n K f o h b J t (some ⟨ga, oa, none⟩) Us a3 zs v4) := Q2.out.next c1
          clear c1 Q2
          go_wp2
          go_roundw
          case rel => exact ⟨k + 1, by omega, by go_num, Q3.out⟩
          case measure => simp [intOf]; omega
        · go_wp2
          go_loopw [25] (fun v wr => ∃ k : Nat, k ≤ L3 ∧ v = .int .i64 k ∧ Hid (Q4 w n K f o h b J t aa Us a3 zs wr)) (fun v _ => L3 - (intOf v).toNat)
          case atStart => exact ⟨0, Nat.zero_le _, rfl, Q1.out⟩
          case round =>
            clear Q1 hlt hk
            obtain ⟨k, hk, rfl, Q1⟩ := hrel
            by_cases hlt : k < L3
            · obtain ⟨x, hx⟩ : ∃ x, zs[k]? = some x := ⟨_, List.getElem?_eq_getElem (by rw [HZ.out.2]; exact hlt)⟩
              obtain ⟨hv, hh⟩ : ∃ v, haK n (idF x) J K = v := ⟨_, rfl⟩
              have HV : Hid (m = 0 → hv = false) := fun h0 => by
                have e : Us = [] := List.eq_nil_of_length_eq_zero (HU.out.2.1.trans h0)
                rw [← hh, ← HJ.out, e]
                exact none_md n K HO.out.2.1 HO.out.2.2 (by omega) (idF x)
              obtain ⟨D, hD⟩ : ∃ D, idc (idF x) = D := ⟨_, rfl⟩
              obtain ⟨ga, oa, rfl, hga, hc⟩ := Q1.out.ask k x hx
              have ID : Hid (∀ W, Q4 w n K f o h b J t aa Us (some ⟨ga, oa, none⟩) zs W → Calls Tryd.prog 10 #[.string x] W fun e w' => e = .returned (.agg D) ∧ Q4 w n K f o h b J t aa Us (some ⟨ga, oa, none⟩) zs w') := fun W hW => by
                have := id_any14 x W
                rw [hD] at this
                exact this.mono fun e w' q => ⟨q.1, hW.next q.2⟩
              have F1 : Hid (∀ W, Q4 w n K f o h b J t aa Us (some ⟨ga, oa, none⟩) zs W → Calls Tryd.prog 19 #[.pointer (some ⟨f, 0, none⟩), .agg D] W fun e w' => e = .returned (.bool hv) ∧ Q4 w n K f o h b J t aa Us (some ⟨ga, oa, none⟩) zs w') := fun W hW => by
                obtain ⟨g, hg⟩ := hW.one
                have := has_any14 (idF x) f g n K J W (idF_size x) hg
                rw [hh, hD] at this
                exact this.mono fun e w' q => ⟨q.1, hW.next q.2⟩
              have F2 : Hid (∀ W, Q4 w n K f o h b J t aa Us (some ⟨ga, oa, none⟩) zs W → Calls Tryd.prog 19 #[.pointer (some ⟨b, 0, none⟩), .agg D] W fun e w' => e = .returned (.bool hv) ∧ Q4 w n K f o h b J t aa Us (some ⟨ga, oa, none⟩) zs w') := fun W hW => by
                obtain ⟨g, hg⟩ := hW.fou
                have := has_any14 (idF x) b g n K J W (idF_size x) hg
                rw [hh, hD] at this
                exact this.mono fun e w' q => ⟨q.1, hW.next q.2⟩
              have F3 : Hid (∀ W, Q4 w n K f o h b J t aa Us (some ⟨ga, oa, none⟩) zs W → Calls Tryd.prog 19 #[.pointer (some ⟨h, 0, none⟩), .agg D] W fun e w' => e = .returned (.bool hv) ∧ Q4 w n K f o h b J t aa Us (some ⟨ga, oa, none⟩) zs w') := fun W hW => by
                obtain ⟨g, hg⟩ := hW.thr
                have := has_any14 (idF x) h g n K J W (idF_size x) hg
                rw [hh, hD] at this
                exact this.mono fun e w' q => ⟨q.1, hW.next q.2⟩
              have TC : Hid (∀ W, Q4 w n K f o h b J t aa Us (some ⟨ga, oa, none⟩) zs W → W.cell? ⟨ga, oa + k, none⟩ = some (.string x)) := fun W hW => by
                obtain ⟨g', o', e, _, hc'⟩ := hW.ask k x hx
                cases e
                exact hc'
              clear hx hD hh hc hga
              go_wp2_with fail
              by_cases hm0 : m = 0
              · obtain rfl : hv = false := HV.out hm0
                have hm0i : (m : Int) = 0 := by omega
                have hm0b : ((m : Int) == 0) = true := by rw [beq_iff_eq]; exact hm0i
                refine region_class10 (Q4 w n K f o h b J t aa Us (some ⟨ga, oa, none⟩) zs) (by kernel_rfl) (by kernel_rfl) (Q1.out.next ((Below.refl _ _).drew)) ?_
                try simp only [Act.put, List.setIfInBounds_toArray, List.set_cons_zero, List.set_cons_succ]
                repeat (first
                  | go_big_quiet_skip
                  | (go_big_quiet_want
                     first
                       | (refine quiet_one 9 _ rfl ga (oa + k) (.string x) rfl (fun _ => by kernel_rfl) TC.out ?_; go_big_quiet_on; simp only [Act.put, List.setIfInBounds_toArray, List.set_cons_zero, List.set_cons_succ])
                       | (refine quiet_val10 (.pointer (some ⟨ga, oa + k, none⟩)) ?_ ?_; (focus (intro W hW; go_simp; done)); go_big_quiet_on; simp only [Act.put, List.setIfInBounds_toArray, List.set_cons_zero, List.set_cons_succ])
                       | (refine quiet_call10 (.agg D) 10 #[.string x] ?_ ?_ ?_; (focus (intro W hW; go_simp; done)); (focus (intro W hW; exact ID.out W hW)); go_big_quiet_on; simp only [Act.put, List.setIfInBounds_toArray, List.set_cons_zero, List.set_cons_succ])
                       | (refine quiet_call10 (.bool false) 19 #[.pointer (some ⟨f, 0, none⟩), .agg D] ?_ ?_ ?_; (focus (intro W hW; go_simp; done)); (focus (intro W hW; exact F1.out W hW)); go_big_quiet_on; simp only [Act.put, List.setIfInBounds_toArray, List.set_cons_zero, List.set_cons_succ])
                       | (refine quiet_call10 (.bool false) 19 #[.pointer (some ⟨b, 0, none⟩), .agg D] ?_ ?_ ?_; (focus (intro W hW; go_simp; done)); (focus (intro W hW; exact F2.out W hW)); go_big_quiet_on; simp only [Act.put, List.setIfInBounds_toArray, List.set_cons_zero, List.set_cons_succ])
                       | (refine quiet_call10 (.bool false) 19 #[.pointer (some ⟨h, 0, none⟩), .agg D] ?_ ?_ ?_; (focus (intro W hW; go_simp; done)); (focus (intro W hW; exact F3.out W hW)); go_big_quiet_on; simp only [Act.put, List.setIfInBounds_toArray, List.set_cons_zero, List.set_cons_succ])
                       | (go_big_quiet_op; go_big_quiet_on)
                       | (refine quiet_val10 (.int .i64 (m : Int)) ?_ ?_; (focus (intro W hW; go_simp; done)); go_big_quiet_on; simp only [Act.put, List.setIfInBounds_toArray, List.set_cons_zero, List.set_cons_succ])
                       | (refine quiet_val10 (.bool false) ?_ ?_; (focus (intro W hW; go_simp; done)); go_big_quiet_on; simp only [Act.put, List.setIfInBounds_toArray, List.set_cons_zero, List.set_cons_succ])
                       | (refine quiet_val10 (.bool true) ?_ ?_; (focus (intro W hW; go_simp; done)); go_big_quiet_on; simp only [Act.put, List.setIfInBounds_toArray, List.set_cons_zero, List.set_cons_succ])))
                refine wpQuiet_nil ?_
                intro w2' hw2
                have Q2 : Hid (Q4 w n K f o h b J t aa Us (some ⟨ga, oa, none⟩) zs w2') := hw2
                clear hw2 ID F1 F2 F3 TC Q1 hm0 hm0i hm0b
                go_wp2
                go_roundw
                case rel => exact ⟨k + 1, by omega, by go_num, Q2.out⟩
                case measure => simp [intOf]; omega
              · have hm0i : ¬ (m : Int) = 0 := by omega
                have hm0b : ((m : Int) == 0) = false := by rw [beq_eq_false_iff_ne]; exact hm0i
                cases hv
                · skip
                  refine region_class10 (Q4 w n K f o h b J t aa Us (some ⟨ga, oa, none⟩) zs) (by kernel_rfl) (by kernel_rfl) (Q1.out.next ((Below.refl _ _).drew)) ?_
                  try simp only [Act.put, List.setIfInBounds_toArray, List.set_cons_zero, List.set_cons_succ]
                  repeat (first
                    | go_big_quiet_skip
                    | (go_big_quiet_want
                       first
                         | (refine quiet_one 9 _ rfl ga (oa + k) (.string x) rfl (fun _ => by kernel_rfl) TC.out ?_; go_big_quiet_on; simp only [Act.put, List.setIfInBounds_toArray, List.set_cons_zero, List.set_cons_succ])
                         | (refine quiet_val10 (.pointer (some ⟨ga, oa + k, none⟩)) ?_ ?_; (focus (intro W hW; go_simp; done)); go_big_quiet_on; simp only [Act.put, List.setIfInBounds_toArray, List.set_cons_zero, List.set_cons_succ])
                         | (refine quiet_call10 (.agg D) 10 #[.string x] ?_ ?_ ?_; (focus (intro W hW; go_simp; done)); (focus (intro W hW; exact ID.out W hW)); go_big_quiet_on; simp only [Act.put, List.setIfInBounds_toArray, List.set_cons_zero, List.set_cons_succ])
                         | (refine quiet_call10 (.bool false) 19 #[.pointer (some ⟨f, 0, none⟩), .agg D] ?_ ?_ ?_; (focus (intro W hW; go_simp; done)); (focus (intro W hW; exact F1.out W hW)); go_big_quiet_on; simp only [Act.put, List.setIfInBounds_toArray, List.set_cons_zero, List.set_cons_succ])
                         | (refine quiet_call10 (.bool false) 19 #[.pointer (some ⟨b, 0, none⟩), .agg D] ?_ ?_ ?_; (focus (intro W hW; go_simp; done)); (focus (intro W hW; exact F2.out W hW)); go_big_quiet_on; simp only [Act.put, List.setIfInBounds_toArray, List.set_cons_zero, List.set_cons_succ])
                         | (refine quiet_call10 (.bool false) 19 #[.pointer (some ⟨h, 0, none⟩), .agg D] ?_ ?_ ?_; (focus (intro W hW; go_simp; done)); (focus (intro W hW; exact F3.out W hW)); go_big_quiet_on; simp only [Act.put, List.setIfInBounds_toArray, List.set_cons_zero, List.set_cons_succ])
                         | (go_big_quiet_op; go_big_quiet_on)
                         | (refine quiet_val10 (.int .i64 (m : Int)) ?_ ?_; (focus (intro W hW; go_simp; done)); go_big_quiet_on; simp only [Act.put, List.setIfInBounds_toArray, List.set_cons_zero, List.set_cons_succ])
                         | (refine quiet_val10 (.bool false) ?_ ?_; (focus (intro W hW; go_simp; done)); go_big_quiet_on; simp only [Act.put, List.setIfInBounds_toArray, List.set_cons_zero, List.set_cons_succ])
                         | (refine quiet_val10 (.bool true) ?_ ?_; (focus (intro W hW; go_simp; done)); go_big_quiet_on; simp only [Act.put, List.setIfInBounds_toArray, List.set_cons_zero, List.set_cons_succ])))
                  refine wpQuiet_nil ?_
                  intro w2' hw2
                  have Q2 : Hid (Q4 w n K f o h b J t aa Us (some ⟨ga, oa, none⟩) zs w2') := hw2
                  clear hw2 ID F1 F2 F3 TC Q1 hm0 hm0i hm0b
                  go_wp2
                  go_roundw
                  case rel => exact ⟨k + 1, by omega, by go_num, Q2.out⟩
                  case measure => simp [intOf]; omega
                · skip
                  refine region_class10 (Q4 w n K f o h b J t aa Us (some ⟨ga, oa, none⟩) zs) (by kernel_rfl) (by kernel_rfl) (Q1.out.next ((Below.refl _ _).drew)) ?_
                  try simp only [Act.put, List.setIfInBounds_toArray, List.set_cons_zero, List.set_cons_succ]
                  repeat (first
                    | go_big_quiet_skip
                    | (go_big_quiet_want
                       first
                         | (refine quiet_one 9 _ rfl ga (oa + k) (.string x) rfl (fun _ => by kernel_rfl) TC.out ?_; go_big_quiet_on; simp only [Act.put, List.setIfInBounds_toArray, List.set_cons_zero, List.set_cons_succ])
                         | (refine quiet_val10 (.pointer (some ⟨ga, oa + k, none⟩)) ?_ ?_; (focus (intro W hW; go_simp; done)); go_big_quiet_on; simp only [Act.put, List.setIfInBounds_toArray, List.set_cons_zero, List.set_cons_succ])
                         | (refine quiet_call10 (.agg D) 10 #[.string x] ?_ ?_ ?_; (focus (intro W hW; go_simp; done)); (focus (intro W hW; exact ID.out W hW)); go_big_quiet_on; simp only [Act.put, List.setIfInBounds_toArray, List.set_cons_zero, List.set_cons_succ])
                         | (refine quiet_call10 (.bool true) 19 #[.pointer (some ⟨f, 0, none⟩), .agg D] ?_ ?_ ?_; (focus (intro W hW; go_simp; done)); (focus (intro W hW; exact F1.out W hW)); go_big_quiet_on; simp only [Act.put, List.setIfInBounds_toArray, List.set_cons_zero, List.set_cons_succ])
                         | (refine quiet_call10 (.bool true) 19 #[.pointer (some ⟨b, 0, none⟩), .agg D] ?_ ?_ ?_; (focus (intro W hW; go_simp; done)); (focus (intro W hW; exact F2.out W hW)); go_big_quiet_on; simp only [Act.put, List.setIfInBounds_toArray, List.set_cons_zero, List.set_cons_succ])
                         | (refine quiet_call10 (.bool true) 19 #[.pointer (some ⟨h, 0, none⟩), .agg D] ?_ ?_ ?_; (focus (intro W hW; go_simp; done)); (focus (intro W hW; exact F3.out W hW)); go_big_quiet_on; simp only [Act.put, List.setIfInBounds_toArray, List.set_cons_zero, List.set_cons_succ])
                         | (go_big_quiet_op; go_big_quiet_on)
                         | (refine quiet_val10 (.int .i64 (m : Int)) ?_ ?_; (focus (intro W hW; go_simp; done)); go_big_quiet_on; simp only [Act.put, List.setIfInBounds_toArray, List.set_cons_zero, List.set_cons_succ])
                         | (refine quiet_val10 (.bool false) ?_ ?_; (focus (intro W hW; go_simp; done)); go_big_quiet_on; simp only [Act.put, List.setIfInBounds_toArray, List.set_cons_zero, List.set_cons_succ])
                         | (refine quiet_val10 (.bool true) ?_ ?_; (focus (intro W hW; go_simp; done)); go_big_quiet_on; simp only [Act.put, List.setIfInBounds_toArray, List.set_cons_zero, List.set_cons_succ])))
                  refine wpQuiet_nil ?_
                  intro w2' hw2
                  have Q2 : Hid (Q4 w n K f o h b J t aa Us (some ⟨ga, oa, none⟩) zs w2') := hw2
                  clear hw2 ID F1 F2 F3 TC Q1 hm0 hm0i hm0b
                  go_wp2
                  go_roundw
                  case rel => exact ⟨k + 1, by omega, by go_num, Q2.out⟩
                  case measure => simp [intOf]; omega
            · go_wp2
              go_ret
              exact ⟨rfl, Q1.out.bel⟩
end Go.Proofs.YtplfjfhpdfbpeaaDoor
