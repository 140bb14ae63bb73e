/- The walk of SplitAll. -/
import Derived.Test.YtdinhnpobdfnoaaU20
import Derived.Test.YtdinhnpobdfnoaaU13
import Derived.Test.YtdinhnpobdfnoaaK25
import Derived.Test.YtdinhnpobdfnoaaL40A
import Derived.Test.YtdinhnpobdfnoaaE7
import Derived.Deep.Cut
import Derived.Deep.CutRange
import Derived.Deep.DeepCutAuto
namespace Go.Proofs.Ytdinhnpobdfnoaa
open Go.RowKit
set_option linter.unusedSimpArgs false
set_option linter.unusedVariables false
/-- Numbers of 16 bits of a slice that came in. -/
def Lu16 (w : World) (a : Option Addr) (n : Nat) (C : Nat → Nat) : Prop := ∀ i, i < n → ∃ b off, a = some ⟨b, off, none⟩ ∧ b < w.heap.size ∧ w.cell? ⟨b, off + i, none⟩ = some (.int .u16 (C i : Int)) ∧ C i < 65536
/-- A splitter under way, and what it has told. -/
structure SA (wN : World) (p : Pl) (S : List UInt8) (g : Nat) (at_ : Nat) (v : Value) (k : Nat) (wr : World) : Prop where
  sp : ∃ fs, Spo wr wN.heap.size g p (lft (ctA p) [] (S.take at_)) at_ fs ∧ ∀ b, v.ownBlock = some b → b ∉ fs
  ow : wr.ownsRow wN.heap.size 58 2 v k (pcv (pcs (ctA p) [] (S.take at_)))
  kk : (pcs (ctA p) [] (S.take at_)).length = k
  bel : Below wN.heap.size wN wr
theorem pcv_len (a : List (List UInt8 × Nat)) : (pcv a).length = a.length * 2 := by
  induction a with
  | nil => rfl
  | cons x r ih =>
    have : pcv (x :: r) = [Value.string ⟨x.1.toArray⟩, Value.int .i64 (x.2 : Int)] ++ pcv r := rfl
    rw [this, List.length_append, ih]; simp; omega
theorem pcv_one (a : List (List UInt8 × Nat)) : ∀ u ∈ pcv a, u.oneCell' = true := by
  intro u hu
  unfold pcv at hu
  rw [List.mem_flatMap] at hu
  obtain ⟨x, _, hx⟩ := hu
  simp at hx
  rcases hx with rfl | rfl <;> rfl
theorem pcv_get : ∀ (l : List (List UInt8 × Nat)) (i : Nat) (x : List UInt8 × Nat), l[i]? = some x → (pcv l)[i * 2]? = some (.string ⟨x.1.toArray⟩) ∧ (pcv l)[i * 2 + 1]? = some (.int .i64 (x.2 : Int))
  | [], i, x, h => by simp at h
  | y :: r, 0, x, h => by
    simp at h
    subst h
    exact ⟨rfl, rfl⟩
  | y :: r, i + 1, x, h => by
    have e : pcv (y :: r) = Value.string ⟨y.1.toArray⟩ :: Value.int .i64 (y.2 : Int) :: pcv r := rfl
    have ih := pcv_get r i x (by simpa using h)
    rw [e, show (i + 1) * 2 = i * 2 + 1 + 1 from by omega]
    exact ⟨ih.1, ih.2⟩
/-- The cells of a row of one's own. -/
theorem own_news {w : World} {B n k : Nat} {e : TypeId} {v : Value} {xs : List Value} (h : w.ownsRow B e k v n xs) (hv : v ≠ .slice none 0 0) : ∃ g c, v = .slice (some ⟨g, 0, none⟩) n c ∧ (∀ (j : Nat) (u : Value), xs[j]? = some u → w.cell? ((⟨g, 0, none⟩ : Addr).add j) = some u) ∧ B ≤ g := by
  rcases h.2 with ⟨h1, _⟩ | ⟨g, c, cur, h1, h2, h3, h4, h5, h6, h7⟩
  · exact absurd h1 hv
  · refine ⟨g, c, h1, fun j u hu => ?_, h2⟩
    subst h1
    have hj : j < xs.length := (List.getElem?_eq_some_iff.1 hu).1
    rw [WideShapes.add_plain, Nat.zero_add, own_cell h hj]
    rw [List.getElem?_eq_getElem hj] at hu
    exact hu
/-- A portion more. -/
theorem SA.more {wN : World} {p : Pl} (hp : p.ok) {S : List UInt8} {g a : Nat} {v : Value} {k : Nat} {wr : World} (h : SA wN p S g a v k wr) (t : ByteArray) (N : Nat) (ht : tby t = (S.take (a + N)).drop a) (hN : a + N ≤ S.length) (hS : S.length ≤ 100000) :
    Calls Try.prog 16 #[.pointer (some ⟨g, 0, none⟩), .string t] wr fun e w1 => ∃ gw cw m v' w', e = .returned (.tuple #[.slice (some ⟨gw, 0, none⟩) m cw, .int .i64 0]) ∧ (Builtin.append_ #[48, 48] 48 #[v, .slice (some ⟨gw, 0, none⟩) m cw]).run Try.prog w1 = .ok v' w' ∧ SA wN p S g (a + N) v' (k + m) w' := by
  obtain ⟨fs, hsp, hap⟩ := h.sp
  have hz := h.bel.size
  have hts : t.size = N := by rw [← tby_len, ht, List.length_drop, List.length_take]; omega
  have hkS : k ≤ 100000 := by
    rw [← h.kk]
    have := pcs_le (ctA p) (S.take a) []
    rw [List.length_take] at this; omega
  obtain ⟨i0, hi, hz0, hz1, hz2⟩ := info_parts inf_pc
  have htake : S.take (a + N) = S.take a ++ tby t := by
    rw [ht]
    conv => lhs; rw [← List.take_append_drop a (S.take (a + N))]
    rw [List.take_take, show min a (a + N) = a from by omega]
  refine (swrite_yes wN.heap.size g p hp _ a fs t wr hsp hz (by omega)).mono ?_
  rintro e w1 ⟨vw, fs', rfl, ⟨how, hnn⟩, hsp', hkb, hfs⟩
  obtain ⟨gw, cw, rfl, hnews, hgw⟩ := own_news how hnn
  obtain ⟨m, hm⟩ : ∃ m, (pcs (ctA p) (lft (ctA p) [] (S.take a)) (tby t)).length = m := ⟨_, rfl⟩
  rw [hm] at how
  have hmS : m ≤ 100000 := by
    rw [← hm]
    have := pcs_le (ctA p) (tby t) (lft (ctA p) [] (S.take a))
    rw [tby_len] at this; omega
  have how1 : w1.ownsRow wN.heap.size 58 2 v k (pcv (pcs (ctA p) [] (S.take a))) := by
    refine ⟨h.ow.1, ?_⟩
    rcases h.ow.2 with q | ⟨g', cap, cur, q1, q2, q3, q4⟩
    · exact .inl q
    · exact .inr ⟨g', cap, cur, q1, q2, hkb.bk (show Bk wr g' cur 58 from q3) (hap g' (by rw [q1]; rfl)), q4⟩
  have hB1 : Below wN.heap.size wN w1 := hkb.below h.bel hz (fun b hb => (hsp.foot b hb).1)
  obtain ⟨v', w', hrun, hown, hgrow, _, hat⟩ := run_append_own_at (P := Try.prog) w1 wN.heap.size 48 48 58 i0 (.agg #[.string ⟨#[]⟩, .int .i64 0]) 2 24 Try.underlying48 hi hz0 hz1 hz2 rfl (by decide) v k _ how1 ⟨gw, 0, none⟩ m cw (pcv (pcs (ctA p) (lft (ctA p) [] (S.take a)) (tby t))) (by rw [pcv_len, hm]) hnews (pcv_one _) (by unfold maxLen; omega) (by omega) hB1.size
  rw [hm]
  refine ⟨gw, cw, m, v', w', rfl, hrun, ⟨fs', ?_, ?_⟩, ?_, ?_, ?_⟩
  · rw [htake, lft_app, ← hts]
    have hv1 : ∀ b, v.ownBlock = some b → b < wr.heap.size := fun b hb => (own_lt2 h.ow hb).1
    have hap2 : ∀ b, v.ownBlock = some b → b ∉ fs' := fun b hb hm' => by
      rcases hfs b hm' with q | q
      · exact hap b hb q
      · have := hv1 b hb; omega
    exact hsp'.grownx hgrow hap2
  · intro b hb hm'
    rcases hat with e | e
    · rw [e] at hb
      rcases hfs b hm' with q | q
      · exact hap b hb q
      · have := (own_lt2 h.ow hb).1; omega
    · rw [e] at hb
      cases hb
      have := (hsp'.foot _ hm').2
      omega
  · rw [htake, pcs_app, pcv_app]; exact hown
  · rw [htake, pcs_app, List.length_append, h.kk, hm]
  · exact own_bel hB1 hB1.size how1 hgrow
set_option maxHeartbeats 8000000 in
set_option maxRecDepth 100000 in
theorem all9_walk (b f m : Int) (s0 : ByteArray) (ac : Option Addr) (nc cc : Nat) (C : Nat → Nat) (w : World) (h0 : s0.size ≤ 140737488351232) (hn : nc ≤ 140737488351232) (hC : Lu16 w ac nc C) :
    Calls Try.prog 7 #[plV b f m, .string s0, .slice ac nc cc] w fun e w' => e = .returned (.bool true) ∧ Below w.heap.size w w' := by
  obtain ⟨p, hp⟩ : ∃ p, plT b f m = p := ⟨_, rfl⟩
  have HOK : Hid p.ok := by rw [← hp]; exact plT_ok b f m
  have HPO : Hid (∀ u, Calls Try.prog 25 #[plV b f m] u fun e w' => e = .returned (plV p.B p.F p.M) ∧ Below u.heap.size u w') := fun u => by rw [← hp]; exact planOf_any b f m u
  obtain ⟨s, hs⟩ : ∃ t, txF s0 100000 = t := ⟨_, rfl⟩
  have HT0 : Hid (∀ u, Calls Try.prog 26 #[.string s0, .int .i64 100000] u fun e w' => e = .returned (.string s) ∧ w' = u) := fun u => by rw [← hs]; exact text_any s0 100000 u (by unfold maxLen; omega) (by omega)
  have hss : s.size ≤ 100000 := by rw [← hs, txF_size]; omega
  obtain ⟨X, hX⟩ : ∃ l, chk (ctA p) (tby s) = l := ⟨_, rfl⟩
  obtain ⟨nx, hnx⟩ : ∃ n, X.length = n := ⟨_, rfl⟩
  have HCX : Hid (∀ u, Calls Try.prog 10 #[plV p.B p.F p.M, .string s] u fun e w' => ∃ a c, e = .returned (.tuple #[.slice a nx c, .int .i64 0]) ∧ CkL w' a X ∧ Below u.heap.size u w') := fun u => by
    rw [← hnx, ← hX]; exact cut_ck p HOK.out s (by omega) u
  have HCN : Hid (∀ u, Calls Try.prog 15 #[plV p.B p.F p.M] u fun e w' => ∃ g fs, e = .returned (.tuple #[.pointer (some ⟨g, 0, none⟩), .int .i64 0]) ∧ Spo w' u.heap.size g p [] 0 fs ∧ Below u.heap.size u w') := fun u => snew_yes p HOK.out u
  have hnx2 : nx ≤ 100001 := by rw [← hnx, ← hX]; have := chk_len (ctA p) (tby s); rw [tby_len] at this; omega
  have HX : Hid (chk (ctA p) (tby s) = X ∧ X.length = nx) := ⟨hX, hnx⟩
  have HCU : Hid (Lu16 w ac nc C) := hC
  have hbk := bk_new w #[.int .i64 b, .int .i64 f, .int .i64 m] 23
  have hB0 : Below w.heap.size w (w.alloc (.cells #[.int .i64 b, .int .i64 f, .int .i64 m] 23)) := (Below.refl _ _).alloc (Nat.le_refl _) _
  clear hp hs hX hnx hC
  go_enter Try.func7, Try.ntmps7
  go_wp2_with fail
  refine (awake9_any _).mono ?_
  rintro e w1 ⟨rfl, b1⟩
  have hb1 := hbk.below b1 hbk.lt
  have c0 : w1.cell? ⟨w.heap.size, 0, none⟩ = some (.int .i64 b) := by rw [hb1.cell]; rfl
  have c1 : w1.cell? ⟨w.heap.size, 1, none⟩ = some (.int .i64 f) := by rw [hb1.cell]; rfl
  have c2 : w1.cell? ⟨w.heap.size, 2, none⟩ = some (.int .i64 m) := by rw [hb1.cell]; rfl
  have HB1 : Hid (Below w.heap.size w w1) := hB0.trans (b1.mono hB0.size)
  clear b1 hb1 hbk hB0
  go_wp2_with fail
  refine (HPO.out _).mono ?_
  rintro e w2 ⟨rfl, b2⟩
  have HB2 : Hid (Below w.heap.size w (w2.alloc (.cells #[.int .i64 (p.B : Int), .int .i64 (p.F : Int), .int .i64 (p.M : Int)] 31)) ∧ Bk (w2.alloc (.cells #[.int .i64 (p.B : Int), .int .i64 (p.F : Int), .int .i64 (p.M : Int)] 31)) w2.heap.size #[.int .i64 (p.B : Int), .int .i64 (p.F : Int), .int .i64 (p.M : Int)] 31) := by
    have hB2 := HB1.out.trans (b2.mono HB1.out.size)
    exact ⟨hB2.alloc hB2.size _, bk_new _ _ _⟩
  clear b2 c0 c1 c2 HB1 HPO
  go_wp2_with fail
  refine (HT0.out _).mono ?_
  rintro e w3 ⟨rfl, rfl⟩
  obtain ⟨gq, hgq⟩ : ∃ g, g = w2.heap.size := ⟨_, rfl⟩
  generalize (w2.alloc (.cells #[.int .i64 (p.B : Int), .int .i64 (p.F : Int), .int .i64 (p.M : Int)] 31)) = W3 at HB2 ⊢
  rw [← hgq] at HB2 ⊢
  have k0 : W3.cell? ⟨gq, 0, none⟩ = some (.int .i64 (p.B : Int)) := by rw [HB2.out.2.cell]; rfl
  have k1 : W3.cell? ⟨gq, 1, none⟩ = some (.int .i64 (p.F : Int)) := by rw [HB2.out.2.cell]; rfl
  have k2 : W3.cell? ⟨gq, 2, none⟩ = some (.int .i64 (p.M : Int)) := by rw [HB2.out.2.cell]; rfl
  clear hgq HT0
  go_wp2_with fail
  refine (HCX.out _).mono ?_
  rintro e w4 ⟨aX, cX, rfl, kX, b4⟩
  have HB4 : Hid (Below w.heap.size w w4 ∧ CkL w4 aX X ∧ Bk w4 gq #[.int .i64 (p.B : Int), .int .i64 (p.F : Int), .int .i64 (p.M : Int)] 31) := ⟨HB2.out.1.trans (b4.mono HB2.out.1.size), kX, HB2.out.2.below b4 HB2.out.2.lt⟩
  clear b4 kX HB2 k0 k1 k2 HCX
  have k0 : w4.cell? ⟨gq, 0, none⟩ = some (.int .i64 (p.B : Int)) := by rw [HB4.out.2.2.cell]; rfl
  have k1 : w4.cell? ⟨gq, 1, none⟩ = some (.int .i64 (p.F : Int)) := by rw [HB4.out.2.2.cell]; rfl
  have k2 : w4.cell? ⟨gq, 2, none⟩ = some (.int .i64 (p.M : Int)) := by rw [HB4.out.2.2.cell]; rfl
  go_wp2_with fail
  refine (HCN.out _).mono ?_
  rintro e w5 ⟨g, fs, rfl, sp5, b5⟩
  have HS5 : Hid (SA w4 p (tby s) g 0 (.slice none 0 0) 0 w5) := by
    refine ⟨⟨fs, ?_, fun b hb => by cases hb⟩, ⟨rfl, .inl ⟨rfl, rfl⟩⟩, by simp [pcs], b5⟩
    rw [List.take_zero]; exact sp5
  clear sp5 b5 HCN k0 k1 k2
  go_wp2_with fail
  go_loopw [12, 13, 14] (fun x y z wr => ∃ (k a i : Nat), a ≤ s.size ∧ i ≤ 302 ∧ (a < s.size → i ≤ 301) ∧ y = .int .i64 (a : Int) ∧ z = .int .i64 (i : Int) ∧ Hid (SA w4 p (tby s) g a x k wr)) (fun _ y z _ => if (intOf y).toNat < s.size then 303 - (intOf z).toNat else 0)
  case atStart => exact ⟨0, 0, 0, Nat.zero_le _, by omega, by omega, rfl, rfl, HS5.out⟩
  case round =>
    clear HS5
    obtain ⟨k, a, i, has, hi3, hi4, rfl, rfl, HS⟩ := hrel
    by_cases hlt : a < s.size
    · have haz : (a : Int) < s.size := by omega
      have hi5 := hi4 hlt
      obtain ⟨N0, hN0⟩ : ∃ n, s.size - a = n := ⟨_, rfl⟩
      have hN0z : (s.size : Int) - a = N0 := by omega
      clear hi4
      go_upto_if 59 with fail
      go_cut [15] from 46 to 91 (fun y wx => ∃ N : Nat, y = .int .i64 (N : Int) ∧ N ≤ N0 ∧ wx = wr)
      case first =>
        by_cases hic : i < nc
        · have hicz : (i : Int) < (nc : Nat) := by omega
          have hi0 : (0 : Int) ≤ i := by omega
          obtain ⟨bb, off, rfl, hbb, hcc, hc6⟩ := HCU.out i hic
          have hBw : Below w.heap.size w wr := HB4.out.1.trans (HS.out.bel.mono HB4.out.1.size)
          have rc := (hBw.cell (p := ⟨bb, off + i, none⟩) hbb).trans hcc
          obtain ⟨ci, hci⟩ : ∃ c, C i = c := ⟨_, rfl⟩
          rw [hci] at rc hc6
          clear hcc hci hBw
          by_cases hmin : N0 ≤ ci
          · have hmz : (N0 : Int) ≤ ci := by omega
            go_wp2
            go_meet
            exact ⟨N0, rfl, Nat.le_refl _, rfl⟩
          · have hmz : ¬ (N0 : Int) ≤ ci := by omega
            go_wp2
            go_meet
            exact ⟨ci, rfl, by omega, rfl⟩
        · have hicz : ¬ (i : Int) < (nc : Nat) := by omega
          go_wp2
          go_meet
          exact ⟨N0, rfl, Nat.le_refl _, rfl⟩
      case rest =>
        obtain ⟨N1, rfl, hN1, rfl⟩ := hcut
        go_upto_if 68 with fail
        go_cut [15] from 46 to 91 (fun y wx => ∃ N : Nat, y = .int .i64 (N : Int) ∧ N ≤ N0 ∧ (301 ≤ i → N = N0) ∧ wx = wc)
        case first =>
          by_cases hi30 : 300 < i
          · have hi3z : (i : Int) > 300 := by omega
            go_wp2
            go_meet
            exact ⟨N0, rfl, Nat.le_refl _, fun _ => rfl, rfl⟩
          · have hi3z : ¬ (i : Int) > 300 := by omega
            go_wp2
            go_meet
            exact ⟨N1, rfl, hN1, fun h => by omega, rfl⟩
        case rest =>
          obtain ⟨N, rfl, hN, hNi, rfl⟩ := hcut
          obtain ⟨t, ht⟩ : ∃ t, s.extract a (a + N) = t := ⟨_, rfl⟩
          have htb : tby t = ((tby s).take (a + N)).drop a := by
            rw [← ht]
            show (s.extract a (a + N)).data.toList = _
            rw [ByteArray.data_extract, Array.toList_extract, List.extract_eq_take_drop, List.drop_take]
          have HM : Hid _ := HS.out.more HOK.out t N htb (by rw [tby_len]; omega) (by rw [tby_len]; omega)
          have e1 : (a : Int) + N ≤ s.size := by omega
          have e2 : (a : Int) ≤ (a : Int) + N := by omega
          have e3 : (0 : Int) ≤ a := by omega
          have HNi : Hid (301 ≤ i → N = N0) := hNi
          clear htb HS hNi
          go_wp2_with fail
          refine Calls.mono HM.out ?_
          rintro e w6 ⟨gw, cw, mm, v', w', rfl, hrun, hSA⟩
          have HR : Hid _ := hrun
          have HSA : Hid _ := hSA
          clear hrun hSA HM ht
          go_wp2_with (at_builtin; refine wpList_app_eq rfl _ _ _ _ rfl _ (.slice (some ⟨gw, 0, none⟩) mm cw) v' w' rfl rfl HR.out ?_)
          go_wp2
          go_roundw
          case rel => exact ⟨k + mm, a + N, i + 1, by omega, by omega, fun h => by have := HNi.out; omega, by go_num, by go_num, HSA.out⟩
          case measure =>
            have e4 : (intOf (.int .i64 ((a : Int) + N))).toNat = a + N := by first | (simp [intOf]; done) | (simp [intOf]; omega)
            have e5 : (intOf (.int .i64 ((i : Int) + 1))).toNat = i + 1 := by first | (simp [intOf]; done) | (simp [intOf]; omega)
            have e6 : (intOf (.int .i64 (a : Int))).toNat = a := by simp [intOf]
            have e7 : (intOf (.int .i64 (i : Int))).toNat = i := by simp [intOf]
            rw [e4, e5, e6, e7, if_pos hlt]
            split <;> omega
    · have haz : ¬ (a : Int) < s.size := by omega
      have hae : a = s.size := by omega
      subst hae
      obtain ⟨fs, hsp, hap⟩ := HS.out.sp
      have hlt5 := hsp.opn.lt (p := p) (by have := HOK.out.2.2.2.2.1; omega)
      have hM5 := HOK.out.2.2.2.2.2
      have hz4 := HS.out.bel.size
      have HC : Hid (Calls Try.prog 18 #[.pointer (some ⟨g, 0, none⟩)] wr fun e w' => ∃ gw cw mm v' w7, e = .returned (.tuple #[.slice (some ⟨gw, 0, none⟩) mm cw, .int .i64 0]) ∧ w'.cell? ⟨g, 0, none⟩ = some (.bool false) ∧ (Builtin.append_ #[48, 48] 48 #[u12, .slice (some ⟨gw, 0, none⟩) mm cw]).run Try.prog w' = .ok v' w7 ∧ Hid (w7.ownsRow w4.heap.size 58 2 v' nx (pcv (pal (ctA p) (tby s))) ∧ Below w4.heap.size w4 w7)) := by
        refine (sclose_yes w4.heap.size g p _ s.size fs wr hsp (by omega)).mono ?_
        rintro e w6 ⟨vw, rfl, ⟨how, hnn⟩, hc6, hg6⟩
        obtain ⟨gw, cw, rfl, hnews, hgw⟩ := own_news how hnn
        obtain ⟨i0, hi, hz0, hz1, hz2⟩ := info_parts inf_pc
        have hgf := hsp.gin
        have how1 : w6.ownsRow w4.heap.size 58 2 u12 k (pcv (pcs (ctA p) [] ((tby s).take s.size))) := own_grown HS.out.ow hg6 (fun b hb e => hap b e (by cases hb; exact hgf))
        have hB6 : Below w4.heap.size w4 w6 := below_own HS.out.bel hz4 hg6 (hsp.foot g hgf).1
        have hkS : k ≤ 100000 := by
          rw [← HS.out.kk]
          have := pcs_le (ctA p) ((tby s).take s.size) []
          rw [List.length_take, tby_len] at this; omega
        rw [tby_all s s.size (Nat.le_refl _)] at how how1 hnews ⊢
        have hlp : (lastP (lft (ctA p) [] (tby s))).length ≤ 1 := by unfold lastP; split <;> simp
        obtain ⟨v', w7, hrun, hown, hgrow, _, hat⟩ := run_append_own_at (P := Try.prog) w6 w4.heap.size 48 48 58 i0 (.agg #[.string ⟨#[]⟩, .int .i64 0]) 2 24 Try.underlying48 hi hz0 hz1 hz2 rfl (by decide) u12 k _ how1 ⟨gw, 0, none⟩ (lastP (lft (ctA p) [] (tby s))).length cw (pcv (lastP (lft (ctA p) [] (tby s)))) (by rw [pcv_len]) hnews (pcv_one _) (by unfold maxLen; omega) (by omega) hB6.size
        refine ⟨gw, cw, _, v', w7, rfl, hc6, hrun, ?_, own_bel hB6 hB6.size how1 hgrow⟩
        have hpal : pal (ctA p) (tby s) = pcs (ctA p) [] (tby s) ++ lastP (lft (ctA p) [] (tby s)) := rfl
        have hlen : (pal (ctA p) (tby s)).length = nx := by
          rw [← HX.out.2, ← HX.out.1, ← pal_sz, List.length_map]
        have hk2 : k + (lastP (lft (ctA p) [] (tby s))).length = nx := by
          rw [← hlen, hpal, List.length_append, ← HS.out.kk, tby_all s s.size (Nat.le_refl _)]
        rw [hpal, pcv_app, ← hk2]
        exact hown
      clear hsp hap HS hlt5
      go_wp2_with fail
      refine HC.out.mono ?_
      rintro e w6 ⟨gw, cw, mm, v', w7, rfl, hc6, hrun, HF⟩
      have HR : Hid _ := hrun
      clear hrun HC
      go_wp2_with fail
      refine (sclose_done g _ hc6).mono ?_
      rintro e w8 ⟨rfl, hw8⟩
      obtain rfl : w6 = w8 := hw8.symm
      clear hw8
      obtain ⟨ag, cg, hvg⟩ := sl_of HF.out.1
      subst hvg
      have hnn : ((nx : Int) != nx) = false := by simp
      go_wp2_with (at_builtin; refine wpList_app_eq rfl _ _ _ _ rfl _ (.slice (some ⟨gw, 0, none⟩) mm cw) (.slice ag nx cg) w7 rfl rfl HR.out ?_)
      go_wp2
      have HP : Hid (∀ j x, (pal (ctA p) (tby s))[j]? = some x → ∃ gg, ag = some ⟨gg, 0, none⟩ ∧ gg < w7.heap.size ∧ w7.cell? ⟨gg, j * 2, none⟩ = some (.string ⟨x.1.toArray⟩) ∧ w7.cell? ⟨gg, j * 2 + 1, none⟩ = some (.int .i64 (x.2 : Int))) := fun j x hx => by
        have ho := HF.out.1
        obtain ⟨q1, q2⟩ := pcv_get _ j x hx
        rcases ho.2 with ⟨h1, h2⟩ | ⟨g', c', cur, h1, h2, h3, _⟩
        · exfalso
          have h4 := ho.1
          rw [pcv_len] at h4
          have := (List.getElem?_eq_some_iff.1 hx).1
          omega
        · cases h1
          have l1 : j * 2 < (pcv (pal (ctA p) (tby s))).length := (List.getElem?_eq_some_iff.1 q1).1
          have l2 : j * 2 + 1 < (pcv (pal (ctA p) (tby s))).length := (List.getElem?_eq_some_iff.1 q2).1
          refine ⟨g', rfl, (Array.getElem?_eq_some_iff.1 h3).1, ?_, ?_⟩
          · rw [own_cell ho l1, ← List.getElem?_eq_getElem l1, q1]
          · rw [own_cell ho l2, ← List.getElem?_eq_getElem l2, q2]
      have H7 : Hid (Below w.heap.size w w7 ∧ CkL w7 aX X ∧ Bk w7 gq #[.int .i64 (p.B : Int), .int .i64 (p.F : Int), .int .i64 (p.M : Int)] 31) := ⟨HB4.out.1.trans (HF.out.2.mono HB4.out.1.size), HB4.out.2.1.below HF.out.2, HB4.out.2.2.below HF.out.2 HB4.out.2.2.lt⟩
      clear HF HB4 HR hc6
      go_loopw [13, 22] (fun x y wr => ∃ n i : Nat, i ≤ nx ∧ n ≤ s.size ∧ x = .int .i64 (n : Int) ∧ y = .int .i64 (i : Int) ∧ Hid (X.drop i = chk (ctA p) ((tby s).drop n) ∧ ((pal (ctA p) (tby s)).take i).flatMap (·.1) = (tby s).take n) ∧ Hid (Below w7.heap.size w7 wr)) (fun _ y _ => nx - (intOf y).toNat)
      case atStart => exact ⟨0, 0, Nat.zero_le _, Nat.zero_le _, rfl, rfl, ⟨by rw [List.drop_zero, List.drop_zero, HX.out.1], by simp⟩, Below.refl _ _⟩
      case round =>
        obtain ⟨n, i, hin, hns, rfl, rfl, HI, HW⟩ := hrel
        by_cases hlt : i < nx
        · have hiz : (i : Int) < (nx : Nat) := by omega
          have hi0 : (0 : Int) ≤ i := by omega
          obtain ⟨q, v, hxi, hfx, hdx, hlx⟩ := chk_at (ct := ctA p) (s := tby s) (n := n) (i := i) (by rw [HX.out.1]; exact HI.out.1) (by rw [HX.out.1, HX.out.2]; exact hlt)
          obtain ⟨hpi, hpd, _⟩ := pal_at HI.out.2 (by rw [tby_len]; exact hns) hxi
          rw [HX.out.1] at hxi hdx
          rw [tby_len] at hlx
          obtain ⟨gX, rfl, _, x1, x2⟩ := (H7.out.2.1.below HW.out) i (q, v) hxi
          obtain ⟨gg, rfl, hgg, z1, z2⟩ := HP.out i _ hpi
          replace z1 := (HW.out.cell (p := ⟨gg, i * 2, none⟩) hgg).trans z1
          replace z2 := (HW.out.cell (p := ⟨gg, i * 2 + 1, none⟩) hgg).trans z2
          simp only at x1 x2 z1 z2
          have hpl := H7.out.2.2.below HW.out H7.out.2.2.lt
          have k0 : wr.cell? ⟨gq, 0, none⟩ = some (.int .i64 (p.B : Int)) := by rw [hpl.cell]; rfl
          have k1 : wr.cell? ⟨gq, 1, none⟩ = some (.int .i64 (p.F : Int)) := by rw [hpl.cell]; rfl
          have k2 : wr.cell? ⟨gq, 2, none⟩ = some (.int .i64 (p.M : Int)) := by rw [hpl.cell]; rfl
          obtain ⟨o1, o2, o3, o4, o5, o6⟩ := HOK.out
          have hq1 := hfx.pos
          have hq2 := hfx.most (by omega)
          have hv1 := hfx.lev
          obtain ⟨E, hE⟩ : ∃ E, n + q = E := ⟨_, rfl⟩
          obtain ⟨T, hT⟩ : ∃ T, s.extract n E = T := ⟨_, rfl⟩
          have hTT : (⟨(((tby s).take (n + q)).drop n).toArray⟩ : ByteArray) = T := by
            rw [← hT, hE]
            apply ByteArray.ext
            show _ = (s.extract n E).data
            rw [ByteArray.data_extract]
            apply Array.ext'
            rw [Array.toList_extract, List.extract_eq_take_drop, List.drop_take]
          rw [hTT] at z1
          obtain ⟨Bn, hBn⟩ : ∃ x, p.B = x := ⟨_, rfl⟩
          obtain ⟨Fn, hFn⟩ : ∃ x, p.F = x := ⟨_, rfl⟩
          obtain ⟨Mn, hMn⟩ : ∃ x, p.M = x := ⟨_, rfl⟩
          rw [hBn] at k0 o1 o2 hv1
          rw [hFn] at k1 o3 o4 hv1
          rw [hMn] at k2 o5 o6 hq2
          obtain ⟨D2, hD2⟩ : ∃ D, 32 - Bn = D := ⟨_, rfl⟩
          rw [hD2] at hv1
          obtain ⟨Qd, hQd⟩ : ∃ Q, D2 / Fn = Q := ⟨_, rfl⟩
          rw [hQd] at hv1
          have hQl : Qd ≤ 32 := by rw [← hQd]; exact Nat.le_trans (Nat.div_le_self _ _) (by omega)
          have hDz : (32 : Int) - Bn = D2 := by omega
          have q1 : (D2 : Int).tdiv Fn = Qd := by rw [Int.tdiv_eq_ediv_of_nonneg (by omega), ← hQd]; rfl
          have q2 : (D2 : Int) / Fn = Qd := by rw [← hQd]; rfl
          have hf0 : ((Fn : Int) == 0) = false := by simp; omega
          have hw1 : IntKind.i64.wrap (D2 : Int) = D2 := by rw [IntKind.wrap_i64]; omega
          have hw2 : IntKind.i64.wrap (Qd : Int) = Qd := by rw [IntKind.wrap_i64]; omega
          have hw3 : IntKind.i64.wrap (E : Int) = E := by rw [IntKind.wrap_i64]; omega
          have hEz : (n : Int) + q = E := by omega
          have t1 : ¬ (q : Int) < 1 := by omega
          have t2 : ¬ (q : Int) > Mn := by omega
          have t3 : ¬ (v : Int) < 0 := by omega
          have t4 : ¬ (v : Int) > Qd := by omega
          have t5 : ¬ (E : Int) > s.size := by omega
          have t6 : (T.toList != T.toList) = false := by simp
          have t7 : ((v : Int) != v) = false := by simp
          have u1 : (0 : Int) ≤ n := by omega
          have u2 : (n : Int) ≤ E := by omega
          have u3 : (E : Int) ≤ s.size := by omega
          have HD : Hid (X.drop (i + 1) = chk (ctA p) ((tby s).drop E) ∧ ((pal (ctA p) (tby s)).take (i + 1)).flatMap (·.1) = (tby s).take E) := by rw [← hE]; exact ⟨hdx, hpd⟩
          clear hxi hfx hdx hpi hpd hpl hTT hBn hFn hMn hD2 hQd HI hE
          go_wp2
          refine wp_region_class (fun W => ∃ n, W = wr.drewN n) (by kernel_rfl) (by kernel_rfl) ⟨1, rfl⟩ ?_
          repeat (first
            | go_big_quiet_skip
            | (go_big_quiet_want
               first
                 | (refine quiet_val (.bool false) ?_ ?_; (focus (rintro W ⟨nn, rfl⟩; first | (go_simp; done) | (go_simp; omega))); go_big_quiet_on; simp only [Act.put, List.setIfInBounds_toArray, List.set_cons_zero, List.set_cons_succ])
                 | (refine quiet_val (.int .i64 (E : Int)) ?_ ?_; (focus (rintro W ⟨nn, rfl⟩; go_simp; done)); go_big_quiet_on; simp only [Act.put, List.setIfInBounds_toArray, List.set_cons_zero, List.set_cons_succ])
                 | (refine quiet_val (.int .i64 (Qd : Int)) ?_ ?_; (focus (rintro W ⟨nn, rfl⟩; go_simp; done)); go_big_quiet_on; simp only [Act.put, List.setIfInBounds_toArray, List.set_cons_zero, List.set_cons_succ])
                 | (go_big_quiet_op; go_big_quiet_on)))
          refine wpQuiet_nil ?_
          rintro w9 ⟨nq, rfl⟩
          go_wp2
          go_roundw
          case rel => exact ⟨E, i + 1, by omega, by omega, rfl, by go_num, HD.out, below_drewN HW.out _⟩
          case measure => simp [intOf]; omega
        · have hiz : ¬ (i : Int) < (nx : Nat) := by omega
          have hne : n = s.size := by
            have h1 := HI.out.1
            rw [List.drop_eq_nil_of_le (by rw [HX.out.2]; omega)] at h1
            have h2 : ¬ (tby s).drop n ≠ [] := fun h => (chk_ne.2 h) h1.symm
            have h3 := Classical.not_not.1 h2
            have h4 := congrArg List.length h3
            rw [List.length_drop, tby_len] at h4
            simp at h4; omega
          have heq : ((n : Int) == s.size) = true := by simp; omega
          have HB : Hid (Below w.heap.size w wr) := H7.out.1.trans (HW.out.mono H7.out.1.size)
          clear hne HI HW H7 HP HX
          go_wp2
          go_ret
          exact ⟨by simp [heq], HB.out⟩
end Go.Proofs.Ytdinhnpobdfnoaa
