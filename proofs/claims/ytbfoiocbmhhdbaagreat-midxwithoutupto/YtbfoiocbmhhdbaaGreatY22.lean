import Derived.Test.YtbfoiocbmhhdbaaGreatY21
import Derived.Test.YtbfoiocbmhhdbaaGreatY7
import Derived.Test.YtbfoiocbmhhdbaaGreatY8
import Derived.Test.YtbfoiocbmhhdbaaGreatY11
import Derived.Test.YtbfoiocbmhhdbaaGreatY2
import Derived.Test.YtbfoiocbmhhdbaaGreatY6
import Derived.Test.YtbfoiocbmhhdbaaGreatY1
import Derived.Lib.ConvBytes
import Derived.Laws.IdiomStrings
/- The document's entries appended. -/
namespace Go.Proofs.YtbfoiocbmhhdbaaGreat
open Go.RowKit
set_option linter.unusedSimpArgs false
set_option linter.unusedVariables false
theorem inf_xr : (Tryz.prog.info? 91).map (fun i => (i.zero, i.size, i.bytes)) = some (some (.agg z35X), 35, 56) := by kernel_rfl
theorem inf_xr35 : (Tryz.prog.info? 91).map (·.size) = some 35 := by kernel_rfl
set_option maxRecDepth 100000 in
theorem slice_xr (e : Xe) (h : e.id.size = 32) (w : World) : (Instr.buildSlice 93 1 #[(0, .agg (xeC e))]).run Tryz.prog w = .ok (.slice (some ⟨w.heap.size, 0, none⟩) 1 1) (w.alloc (.cells (xeC e) 91)) := by
  obtain ⟨i0, hi, hz0, hz1, hz2⟩ := info_parts inf_xr
  refine run_buildSlice w _ 91 1 _ _ i0 (.agg z35X) Tryz.underlying93 hi hz0 (by rw [hz1]; decide) (by rw [hz1]; decide) ?_
  obtain ⟨a0, a1, a2, a3, a4, a5, a6, a7, a8, a9, a10, a11, a12, a13, a14, a15, a16, a17, a18, a19, a20, a21, a22, a23, a24, a25, a26, a27, a28, a29, a30, a31, hl⟩ := list32X (idc e.id).toList (by rw [Array.length_toList, idc_size, h])
  have e2 : xeC e = #[a0, a1, a2, a3, a4, a5, a6, a7, a8, a9, a10, a11, a12, a13, a14, a15, a16, a17, a18, a19, a20, a21, a22, a23, a24, a25, a26, a27, a28, a29, a30, a31, .int .u8 (e.k.toNat : Int), .int .i64 e.off, .int .i64 e.sz] := by rw [xeC, hl]; rfl
  rw [e2, hz1]
  exact fill35X _ _ _ _ _ _ _ _ _ _ _ _ _ _ _ _ _ _ _ _ _ _ _ _ _ _ _ _ _ _ _ _ _ _ _

/-- The cells of entries of a slice. -/
theorem XeL.src {w : World} {ad : Addr} {m : List Xe} (h : XeL w (some ad) m) : ∀ j u, (xvs m)[j]? = some u → w.cell? (ad.add j) = some u := by
  intro j u hu
  have hids : ∀ e ∈ m, e.id.size = 32 := h.ids
  have hj : j < m.length * 35 := by rw [← xvs_len hids]; exact (List.getElem?_eq_some_iff.1 hu).1
  obtain ⟨e, he⟩ : ∃ e, m[j / 35]? = some e := ⟨_, List.getElem?_eq_getElem (by omega)⟩
  have hx := xvs_get hids he (j % 35) (by omega)
  rw [show j / 35 * 35 + j % 35 = j by omega, hu] at hx
  obtain ⟨_, g', o', q1, q2, q3⟩ := h _ _ he
  injection q1 with q1
  subst q1
  have := q3 (j % 35) u hx.symm
  rw [WideShapes.add_plain]
  rw [show o' + j = o' + j / 35 * 35 + j % 35 by omega]
  exact this
/-- Some entries are appended to a row of the call's own. -/
theorem rapp {B : Nat} {w : World} {l m : List Xe} {v : Value} (h : w.ownsRow B 91 35 v l.length (xvs l)) (hB : B ≤ w.heap.size) (hi : ∀ e ∈ l, e.id.size = 32) (ad : Addr) (c : Nat) (hm : XeL w (some ad) m) (hn : (l.length + m.length) * 56 ≤ 140737488355328) :
    ∃ a cp w7, (Builtin.append_ #[93, 93] 93 #[v, .slice (some ad) m.length c]).run Tryz.prog w = .ok (.slice a (l.length + m.length) cp) w7 ∧
      w7.ownsRow B 91 35 (.slice a (l.length + m.length) cp) (l.length + m.length) (xvs (l ++ m)) ∧ w.grownBy w7 v.ownBlock ∧ l.length + m.length ≤ cp ∧ (v ≠ .slice none 0 0 → ∃ g, a = some ⟨g, 0, none⟩) := by
  obtain ⟨i0, hi0, hz0, hz1, hz2⟩ := info_parts inf_xr
  obtain ⟨v', w7, hrun, hown, hgrow, hnil, hat⟩ := run_append_own_at (P := Tryz.prog) (w := w) B 93 93 91 i0 (.agg z35X) 35 56 Tryz.underlying93 hi0 hz0 hz1 hz2 rfl (by decide) v l.length (xvs l) h ad m.length c (xvs m)
    (by rw [xvs_len hm.ids]) hm.src (xvs_one m) (by unfold maxLen; omega) hn hB
  have ho : w7.ownsRow B 91 35 v' (l.length + m.length) (xvs (l ++ m)) := by
    have e : xvs (l ++ m) = xvs l ++ xvs m := by simp [xvs]
    rw [e]; exact hown
  rcases ho.2 with ⟨h1, h0⟩ | ⟨g, cap, cur, h1, _, _, h2, _⟩
  · subst h1
    refine ⟨none, 0, w7, by rw [hrun, h0], by rw [h0] at ho ⊢; exact ho, hgrow, by omega, fun q => absurd (hnil.1 rfl).1 q⟩
  · subst h1
    exact ⟨_, cap, w7, hrun, ho, hgrow, h2, fun _ => ⟨g, rfl⟩⟩
end Go.Proofs.YtbfoiocbmhhdbaaGreat
/- The document's Sorted. -/
namespace Go.Proofs.YtbfoiocbmhhdbaaGreat
open Go.RowKit
set_option linter.unusedSimpArgs false
set_option linter.unusedVariables false
def slN : Value → Nat
  | .slice _ n _ => n
  | _ => 0
theorem rbs_none (w : World) : (Instr.buildSlice 93 0 #[]).run Tryz.prog w = .ok (.slice (some ⟨w.heap.size, 0, none⟩) 0 0) (w.alloc (.cells #[] 91)) := by kernel_rfl
/-- The document's Less, as a contract handed in. -/
def RLess : Prop := ∀ (a b : ByteArray) (w : World), a.size = 32 → b.size = 32 → Calls Tryz.prog 21 #[.agg (idc a), .agg (idc b)] w fun e w' => e = .returned (.bool (ltN a b)) ∧ Below w.heap.size w w'
/-- What Sorted tells. -/
def SoS (w : World) (l : List Xe) (n : Nat) (e : Ending) (w' : World) : Prop := ∃ g c' L, e = .returned (.slice (some ⟨g, 0, none⟩) n c') ∧ w'.ownsRow w.heap.size 91 35 (.slice (some ⟨g, 0, none⟩) n c') n (xvs L) ∧ L.Perm l ∧ Srt L ∧ Below w.heap.size w w'
set_option maxHeartbeats 1000000 in
set_option maxRecDepth 100000 in
theorem rsorted_small (l : List Xe) (ad : Addr) (n c : Nat) (w : World) (hX : XeL w (some ad) l) (hl : l.length = n) (hn : n < 2) : Calls Tryz.prog 56 #[.slice (some ad) n c] w fun e w' => SoS w l n e w' := by
  have hnz : (n : Int) < 2 := by omega
  have hown0 : (w.alloc (.cells #[] 91)).ownsRow w.heap.size 91 35 (.slice (some ⟨w.heap.size, 0, none⟩) 0 0) 0 [] :=
    ⟨rfl, .inr ⟨w.heap.size, 0, #[], rfl, Nat.le_refl _, bk_new w #[] 91, Nat.le_refl _, by unfold maxLen; omega, rfl, rfl⟩⟩
  have hb0 : Below w.heap.size w (w.alloc (.cells #[] 91)) := (Below.refl _ _).alloc (Nat.le_refl _) _
  obtain ⟨a, cp, w7, hrun, hown, hg, hcp, hsome⟩ := rapp (l := []) (m := l) hown0 (by rw [al_size]; omega) (by simp) ad c (hX.below hb0) (by simp; omega)
  obtain ⟨g, rfl⟩ := hsome (by simp)
  simp only [List.length_nil, Nat.zero_add, List.nil_append] at hrun hown
  rw [hl] at hrun hown
  have hbs := rbs_none
  have HR : Hid (SoS w l n (.returned (.slice (some ⟨g, 0, none⟩) n cp)) w7) := ⟨g, cp, l, rfl, hown, List.Perm.refl _, by
    match l, hl with
    | [], _ => exact List.Pairwise.nil
    | [e], _ => exact List.pairwise_singleton _ _
    | _ :: _ :: _, hl => simp at hl; omega, rows_bel hb0 (by rw [al_size]; omega) hown0 (Nat.le_refl _) hg⟩
  clear hX hl hown0 hb0 hown hg hcp hsome
  go_enter Tryz.func56, Tryz.ntmps56
  go_wp2_with (first
    | (refine wpList_appX rfl (.tmp 9) (.tmp 10) 93 93 rfl (.slice (some ⟨w.heap.size, 0, none⟩) 0 0) (.slice (some ad) n c) (.slice (some ⟨g, 0, none⟩) n cp) w7 rfl rfl hrun ?_)
    | fail)
  go_ret
  exact HR.out
end Go.Proofs.YtbfoiocbmhhdbaaGreat
/- The document's Sorted: the merging. -/
namespace Go.Proofs.YtbfoiocbmhhdbaaGreat
open Go.RowKit
set_option linter.unusedSimpArgs false
set_option linter.unusedVariables false
theorem XeL.tail {w : World} {g o : Nat} {e : Xe} {l : List Xe} (h : XeL w (some ⟨g, o, none⟩) (e :: l)) : XeL w (some ⟨g, o + 35, none⟩) l := fun i x hx => by
  obtain ⟨q1, g', o', q2, q3, q4⟩ := h (i + 1) x (by simpa using hx)
  injection q2 with q2
  injection q2 with r1 r2 _
  subst r1
  subst r2
  exact ⟨q1, g, o + 35, rfl, q3, fun j v hv => by rw [show o + 35 + i * 35 + j = o + (i + 1) * 35 + j by omega]; exact q4 j v hv⟩
theorem XeL.tail0 {w : World} {a b : Option Addr} {e : Xe} {l : List Xe} (h : XeL w a (e :: l)) (hl : l = []) : XeL w b l := by
  subst hl
  exact fun i x hx => by simp at hx
theorem XeL.part {w : World} {g o : Nat} {l : List Xe} (k : Nat) (h : XeL w (some ⟨g, o, none⟩) l) : XeL w (some ⟨g, o, none⟩) (l.take k) ∧ XeL w (some ⟨g, o + k * 35, none⟩) (l.drop k) := by
  refine ⟨fun i x hx => ?_, fun i x hx => ?_⟩
  · rw [List.getElem?_take] at hx
    split at hx
    · exact h i x hx
    · cases hx
  · rw [List.getElem?_drop] at hx
    obtain ⟨q1, g', o', q2, q3, q4⟩ := h (k + i) x hx
    injection q2 with q2
    injection q2 with r1 r2 _
    subst r1
    subst r2
    exact ⟨q1, g, o + k * 35, rfl, q3, fun j v hv => by rw [show o + k * 35 + i * 35 + j = o + (k + i) * 35 + j by rw [Nat.add_mul]; omega]; exact q4 j v hv⟩
/-- What is left is appended to what is out. -/
theorem mg_fin {w2 wr : World} {O A B : List Xe} {u : Value} {ad1 ad2 : Addr} {na nb m n : Nat} (c1 c2 : Nat) (ho : wr.ownsRow w2.heap.size 91 35 u m (xvs O)) (hb : Below w2.heap.size w2 wr) (hOi : ∀ e ∈ O, e.id.size = 32) (hA : XeL w2 (some ad1) A) (hB : XeL w2 (some ad2) B)
    (l1 : A.length = na) (l2 : B.length = nb) (l3 : O.length = m) (hn : m + na + nb = n) (h0 : 0 < n) (hn6 : n ≤ 65536) :
    ∃ a7 k7 w7 g8 k8 w8, (Builtin.append_ #[93, 93] 93 #[u, .slice (some ad1) na c1]).run Tryz.prog wr = .ok (.slice a7 (m + na) k7) w7 ∧
      (Builtin.append_ #[93, 93] 93 #[.slice a7 (m + na) k7, .slice (some ad2) nb c2]).run Tryz.prog w7 = .ok (.slice (some ⟨g8, 0, none⟩) n k8) w8 ∧
      w8.ownsRow w2.heap.size 91 35 (.slice (some ⟨g8, 0, none⟩) n k8) n (xvs (O ++ A ++ B)) ∧ Below w2.heap.size w2 w8 := by
  subst l1 l2 l3
  obtain ⟨a7, k7, w7, r1, o1, g1, _, _⟩ := rapp ho hb.size hOi ad1 c1 (hA.below hb) (by omega)
  have hb7 : Below w2.heap.size w2 w7 := rows_bel hb hb.size ho (Nat.le_refl _) g1
  have o1' : w7.ownsRow w2.heap.size 91 35 (.slice a7 (O.length + A.length) k7) (O ++ A).length (xvs (O ++ A)) := by rw [List.length_append]; exact o1
  obtain ⟨a8, k8, w8, r2, o2, g2, _, _⟩ := rapp o1' hb7.size (fun e he => by
    rcases List.mem_append.1 he with he | he
    · exact hOi e he
    · exact hA.ids e he) ad2 c2 (hB.below hb7) (by rw [List.length_append]; omega)
  rw [List.length_append, hn] at r2 o2
  rcases o2.2 with ⟨q1, q2⟩ | ⟨g8, cap, cur, q1, _⟩
  · omega
  · injection q1 with q3 q4 q5
    subst q3
    exact ⟨a7, k7, w7, g8, k8, w8, r1, r2, o2, rows_bel hb7 hb7.size o1' (Nat.le_refl _) g2⟩
set_option maxHeartbeats 16000000 in
set_option maxRecDepth 100000 in
theorem rsorted (RL : RLess) : ∀ (n : Nat) (l : List Xe) (ad : Addr) (c : Nat) (w : World), l.length = n → XeL w (some ad) l → n ≤ c → n ≤ 65536 → Calls Tryz.prog 56 #[.slice (some ad) n c] w fun e w' => SoS w l n e w' := by
  intro n
  induction n using Nat.strongRecOn with
  | _ n IH =>
  intro l ad c w hl hX hnc hn6
  by_cases h2 : n < 2
  · exact rsorted_small l ad n c w hX hl h2
  have HIH : Hid (∀ m, m < n → ∀ (l : List Xe) (ad : Addr) (c : Nat) (w : World), l.length = m → XeL w (some ad) l → m ≤ c → m ≤ 65536 → Calls Tryz.prog 56 #[.slice (some ad) m c] w fun e w' => SoS w l m e w') := IH
  have HRL : Hid RLess := RL
  obtain ⟨g, o, hgo⟩ : ∃ g o, ad = ⟨g, o, none⟩ := by
    obtain ⟨e, he⟩ : ∃ e, l[0]? = some e := ⟨l[0]'(by omega), List.getElem?_eq_getElem _⟩
    obtain ⟨g, o, q, _⟩ := hX.get he
    injection q with q
    exact ⟨g, o, q⟩
  subst hgo
  obtain ⟨k, hk⟩ : ∃ k, n / 2 = k := ⟨_, rfl⟩
  have hk1 : 1 ≤ k := by omega
  have hk2 : k < n := by omega
  have hq : (n : Int) / 2 = (k : Int) := by omega
  have hnz : ¬ (n : Int) < 2 := by omega
  obtain ⟨hp1, hp2⟩ := hX.part k
  have HP : Hid (XeL w (some ⟨g, o + k * 35, none⟩) (l.drop k)) := hp2
  have HC1 : Hid (Calls Tryz.prog 56 #[.slice (some ⟨g, o, none⟩) k c] w fun e w' => SoS w (l.take k) k e w') := IH k hk2 (l.take k) ⟨g, o, none⟩ c w (by rw [List.length_take]; omega) hp1 (by omega) (by omega)
  have HLL : Hid (l.length = n) := hl
  have HID : Hid (∀ e ∈ l, e.id.size = 32) := hX.ids
  have hkn : (k : Int) ≤ (n : Nat) := by omega
  have hkc : (k : Int) ≤ (c : Nat) := by omega
  have hne : ¬ c = k := by omega
  have hk0 : (0 : Int) ≤ k := by omega
  clear IH RL hp1 hp2 hX hl hk h2
  go_enter Tryz.func56, Tryz.ntmps56
  go_wp2_with fail
  refine HC1.out.mono ?_
  rintro e w1 ⟨gA, cA, A, rfl, hAo, hAp, hAs, hb1⟩
  have HA1 : Hid (w1.ownsRow w.heap.size 91 35 (.slice (some ⟨gA, 0, none⟩) k cA) k (xvs A) ∧ A.Perm (l.take k) ∧ Srt A ∧ Below w.heap.size w w1) := ⟨hAo, hAp, hAs, hb1⟩
  have HC2 : Hid (Calls Tryz.prog 56 #[.slice (some ⟨g, o + k * 35, none⟩) (n - k) (c - k)] w1 fun e w' => SoS w1 (l.drop k) (n - k) e w') := HIH.out (n - k) (by omega) (l.drop k) ⟨g, o + k * 35, none⟩ (c - k) w1 (by rw [List.length_drop, HLL.out]) (HP.out.below hb1) (by omega) (by omega)
  clear hAo hAp hAs hb1 HC1
  go_wp2_with fail
  refine HC2.out.mono ?_
  rintro e w2 ⟨gB, cB, B, rfl, hBo, hBp, hBs, hb2⟩
  have hAl : A.length = k := by rw [HA1.out.2.1.length_eq, List.length_take, HLL.out]; omega
  have hBl : B.length = n - k := by rw [hBp.length_eq, List.length_drop, HLL.out]
  have HSET : Hid (XeL w2 (some ⟨gA, 0, none⟩) A ∧ XeL w2 (some ⟨gB, 0, none⟩) B ∧ k ≤ cA ∧ n - k ≤ cB ∧ Mg l [] A B ∧ Below w.heap.size w w2) := by
    have hAi : ∀ e ∈ A, e.id.size = 32 := fun e he => HID.out e (List.mem_of_mem_take (HA1.out.2.1.mem_iff.1 he))
    have hBi : ∀ e ∈ B, e.id.size = 32 := fun e he => HID.out e (List.mem_of_mem_drop (hBp.mem_iff.1 he))
    obtain ⟨a1, c1, v1, x1, n1, _⟩ := own_xel HA1.out.1 hAl hAi
    obtain ⟨a2, c2, v2, x2, n2, _⟩ := own_xel hBo hBl hBi
    injection v1 with v1 _ v3
    injection v2 with v2 _ v4
    subst v1
    subst v2
    subst v3
    subst v4
    have hp := HA1.out.2.1.append hBp
    rw [List.take_append_drop] at hp
    exact ⟨x1.below hb2, x2, n1, n2, Mg.start hp HA1.out.2.2.1 hBs, HA1.out.2.2.2.trans (hb2.mono HA1.out.2.2.2.size)⟩
  have HAB : Hid (A.length = k ∧ B.length = n - k) := ⟨hAl, hBl⟩
  clear hBo hBp hBs hb2 hAl hBl HA1 HC2 HP hq
  go_wp2
  go_loopw [3, 4, 5] (fun v3 v4 v5 wr => ∃ (ad1 ad2 : Addr) (A B O : List Xe) (na nb m c1 c2 : Nat) (u : Value), v3 = .slice (some ad1) na c1 ∧ v4 = .slice (some ad2) nb c2 ∧ v5 = u ∧ A.length = na ∧ B.length = nb ∧ O.length = m ∧ na ≤ c1 ∧ nb ≤ c2 ∧ Hid (Mg l O A B) ∧ Hid (XeL w2 (some ad1) A ∧ XeL w2 (some ad2) B) ∧ Hid (wr.ownsRow w2.heap.size 91 35 u m (xvs O) ∧ Below w2.heap.size w2 wr)) (fun v3 v4 v5 _ => slN v3 + slN v4)
  case atStart => exact ⟨⟨gA, 0, none⟩, ⟨gB, 0, none⟩, A, B, [], k, n - k, 0, cA, cB, _, rfl, rfl, rfl, HAB.out.1, HAB.out.2, rfl, HSET.out.2.2.1, HSET.out.2.2.2.1, HSET.out.2.2.2.2.1, ⟨HSET.out.1, HSET.out.2.1⟩, rows_none, Below.refl _ _⟩
  case round =>
    obtain ⟨ad1, ad2, A', B', O, na, nb, m, c1, c2, u, rfl, rfl, rfl, l1, l2, l3, hc1, hc2, HM, HXL, HOW⟩ := hrel
    have HLN : Hid (A'.length = na ∧ B'.length = nb ∧ O.length = m) := ⟨l1, l2, l3⟩
    have HOI : Hid (∀ e ∈ O, e.id.size = 32) := fun e he => HID.out e (HM.out.pm.mem_iff.1 (List.mem_append_left _ he))
    have hsum : m + na + nb = n := by
      have := HM.out.pm.length_eq
      rw [List.length_append, List.length_append, l1, l2, l3, HLL.out] at this
      omega
    clear l1 l2 l3
    by_cases hz : na = 0 ∨ nb = 0
    · obtain ⟨a7, k7, w7, g8, k8, w8, hrun1, hrun2, ho8, hb8⟩ := mg_fin c1 c2 HOW.out.1 HOW.out.2 HOI.out HXL.out.1 HXL.out.2 HLN.out.1 HLN.out.2.1 HLN.out.2.2 hsum (by omega) hn6
      have HR : Hid (SoS w l n (.returned (.slice (some ⟨g8, 0, none⟩) n k8)) w8) := by
        have hd := HM.out.done (by
          rcases hz with q | q
          · exact .inl (List.eq_nil_of_length_eq_zero (by rw [HLN.out.1, q]))
          · exact .inr (List.eq_nil_of_length_eq_zero (by rw [HLN.out.2.1, q])))
        have hbw := HSET.out.2.2.2.2.2
        exact ⟨g8, k8, O ++ A' ++ B', rfl, rows_low ho8 hbw.size, hd.2, hd.1, hbw.trans (hb8.mono hbw.size)⟩
      clear ho8 hb8 HM HXL HOW
      by_cases hna : na = 0
      · subst hna
        go_wp2_with (first
          | (refine wpList_appX rfl (.tmp 57) (.tmp 58) 93 93 rfl u5 (.slice (some ad1) 0 c1) (.slice a7 (m + 0) k7) w7 rfl rfl hrun1 ?_)
          | (refine wpList_appX rfl (.tmp 59) (.tmp 60) 93 93 rfl (.slice a7 (m + 0) k7) (.slice (some ad2) nb c2) (.slice (some ⟨g8, 0, none⟩) n k8) w8 rfl rfl hrun2 ?_)
          | fail)
        go_ret
        exact HR.out
      · have hnb : nb = 0 := by omega
        have hnp : 0 < na := by omega
        subst hnb
        go_wp2_with (first
          | (refine wpList_appX rfl (.tmp 57) (.tmp 58) 93 93 rfl u5 (.slice (some ad1) na c1) (.slice a7 (m + na) k7) w7 rfl rfl hrun1 ?_)
          | (refine wpList_appX rfl (.tmp 59) (.tmp 60) 93 93 rfl (.slice a7 (m + na) k7) (.slice (some ad2) 0 c2) (.slice (some ⟨g8, 0, none⟩) n k8) w8 rfl rfl hrun2 ?_)
          | fail)
        go_ret
        exact HR.out
    · obtain ⟨na, rfl⟩ : ∃ q, na = q + 1 := ⟨na - 1, by omega⟩
      obtain ⟨nb, rfl⟩ : ∃ q, nb = q + 1 := ⟨nb - 1, by omega⟩
      obtain ⟨x, A1, rfl⟩ : ∃ x A1, A' = x :: A1 := by
        cases A' with
        | nil => have := HLN.out.1; simp at this
        | cons x A1 => exact ⟨x, A1, rfl⟩
      obtain ⟨y, B1, rfl⟩ : ∃ y B1, B' = y :: B1 := by
        cases B' with
        | nil => have := HLN.out.2.1; simp at this
        | cons y B1 => exact ⟨y, B1, rfl⟩
      obtain ⟨g1, o1, q1, hg1, hx32, hxc⟩ := HXL.out.1.get (i := 0) (e := x) rfl
      obtain ⟨g2, o2, q2, hg2, hy32, hyc⟩ := HXL.out.2.get (i := 0) (e := y) rfl
      injection q1 with q1
      injection q2 with q2
      subst q1
      subst q2
      have hbw := HOW.out.2
      have HXY : Hid (x.id.size = 32 ∧ y.id.size = 32) := ⟨hx32, hy32⟩
      obtain ⟨X, hXe⟩ : ∃ X, xeC x = X := ⟨_, rfl⟩
      obtain ⟨Y, hYe⟩ : ∃ Y, xeC y = Y := ⟨_, rfl⟩
      have HXE : Hid (xeC x = X) := hXe
      have HYE : Hid (xeC y = Y) := hYe
      have CX : Hid (∀ W, Below wr.heap.size wr W → ∀ j v, X[j]? = some v → W.cell? ⟨g1, o1 + j, none⟩ = some v) := fun W hW j v hv => by
        have hb : Below w2.heap.size w2 W := hbw.trans (hW.mono hbw.size)
        rw [hb.cell (p := ⟨g1, o1 + j, none⟩) hg1]
        have := hxc j v (by rw [hXe]; exact hv)
        simpa using this
      have CY : Hid (∀ W, Below wr.heap.size wr W → ∀ j v, Y[j]? = some v → W.cell? ⟨g2, o2 + j, none⟩ = some v) := fun W hW j v hv => by
        have hb : Below w2.heap.size w2 W := hbw.trans (hW.mono hbw.size)
        rw [hb.cell (p := ⟨g2, o2 + j, none⟩) hg2]
        have := hyc j v (by rw [hYe]; exact hv)
        simpa using this
      obtain ⟨I, hI⟩ : ∃ I, idc x.id = I := ⟨_, rfl⟩
      obtain ⟨J, hJ⟩ : ∃ J, idc y.id = J := ⟨_, rfl⟩
      have CXI : Hid (∀ W, Below wr.heap.size wr W → ∀ j v, I[j]? = some v → W.cell? ⟨g1, o1 + j, none⟩ = some v) := fun W hW j v hv => CX.out W hW j v (by rw [← hXe]; have := xeC_id x hx32 j v (by rw [hI]; exact hv); rwa [Nat.zero_add] at this)
      have CYI : Hid (∀ W, Below wr.heap.size wr W → ∀ j v, J[j]? = some v → W.cell? ⟨g2, o2 + j, none⟩ = some v) := fun W hW j v hv => CY.out W hW j v (by rw [← hYe]; have := xeC_id y hy32 j v (by rw [hJ]; exact hv); rwa [Nat.zero_add] at this)
      have HII : Hid ((Tryz.prog.info? 48).map (·.size) = some I.size ∧ (Tryz.prog.info? 48).map (·.size) = some J.size) := by rw [← hI, ← hJ]; exact ⟨info_32 (by rw [idc_size, hx32]), info_32 (by rw [idc_size, hy32])⟩
      have HIX : Hid (X.size = 35 ∧ (Tryz.prog.info? 91).map (·.size) = some X.toList.length) := by rw [← hXe]; exact ⟨xeC_size x hx32, by rw [Array.length_toList, xeC_size x hx32]; exact inf_xr35⟩
      have HIY : Hid (Y.size = 35 ∧ (Tryz.prog.info? 91).map (·.size) = some Y.toList.length) := by rw [← hYe]; exact ⟨xeC_size y hy32, by rw [Array.length_toList, xeC_size y hy32]; exact inf_xr35⟩
      have HSX : Hid (∀ w, (Instr.buildSlice 93 1 #[(0, .agg X)]).run Tryz.prog w = .ok (.slice (some ⟨w.heap.size, 0, none⟩) 1 1) (w.alloc (.cells X 91))) := by rw [← hXe]; exact slice_xr x hx32
      have HSY : Hid (∀ w, (Instr.buildSlice 93 1 #[(0, .agg Y)]).run Tryz.prog w = .ok (.slice (some ⟨w.heap.size, 0, none⟩) 1 1) (w.alloc (.cells Y 91))) := by rw [← hYe]; exact slice_xr y hy32
      have HLS : Hid (∀ W, Below wr.heap.size wr W → Calls Tryz.prog 21 #[.agg J, .agg I] W fun e w' => e = .returned (.bool (ltN y.id x.id)) ∧ Below wr.heap.size wr w') := fun W hW => by
        rw [← hI, ← hJ]
        exact (HRL.out y.id x.id W hy32 hx32).mono fun e w' q => ⟨q.1, Below.trans hW (q.2.mono (Below.size hW))⟩
      have HAP : Hid (∀ (e : Xe) (W : World), Below wr.heap.size wr W → e.id.size = 32 → ∃ a7 cp7 w7, (Builtin.append_ #[93, 93] 93 #[u5, .slice (some ⟨W.heap.size, 0, none⟩) 1 1]).run Tryz.prog (W.alloc (.cells (xeC e) 91)) = .ok (.slice a7 (m + 1) cp7) w7 ∧ w7.ownsRow w2.heap.size 91 35 (.slice a7 (m + 1) cp7) (m + 1) (xvs (O ++ [e])) ∧ Below w2.heap.size w2 w7) := fun e W hW he => by
        have hb : Below w2.heap.size w2 W := hbw.trans (hW.mono hbw.size)
        have ho : W.ownsRow w2.heap.size 91 35 u5 m (xvs O) := rows_keep HOW.out.1 (fun g _ hg => hW.block g hg)
        have hoa := ho.alloc (.cells (xeC e) 91)
        rw [← HLN.out.2.2] at hoa ⊢
        have hba := hb.alloc hb.size (.cells (xeC e) 91)
        have hxl : XeL (W.alloc (.cells (xeC e) 91)) (some ⟨W.heap.size, 0, none⟩) [e] := fun i x hx => by
          have hk := bk_new W (xeC e) 91
          have hi : i = 0 := by have := (List.getElem?_eq_some_iff.1 hx).1; simp at this; exact this
          subst hi
          simp at hx
          subst hx
          exact ⟨he, W.heap.size, 0, rfl, hk.lt, fun j v hv => by rw [hk.cell]; simpa using hv⟩
        obtain ⟨a7, k7, w7, r1, o1', g1', _, _⟩ := rapp hoa hba.size HOI.out ⟨W.heap.size, 0, none⟩ 1 hxl (by have := HLN.out.2.2; simp; omega)
        exact ⟨a7, k7, w7, r1, o1', rows_bel hba hba.size hoa (Nat.le_refl _) g1'⟩
      have hna : 0 < na + 1 := by omega
      have hnb : 0 < nb + 1 := by omega
      clear hxc hyc hXe hYe hI hJ hx32 hy32 hbw hz
      cases hlt : ltN y.id x.id with
      | true =>
        rw [hlt] at HLS
        go_wp2
        refine region_class10 (fun W => Below wr.heap.size wr W) (by kernel_rfl) (by kernel_rfl) ((Below.refl _ _).drew) ?_
        try simp only [Act.put, List.setIfInBounds_toArray, List.set_cons_zero, List.set_cons_succ]
        repeat (first
          | go_big_quiet_skip
          | (go_big_quiet_want
             first
               | (refine quiet_rowc 48 _ rfl g2 o2 J _ rfl CYI.out Tryz.underlying48 rfl HII.out.2 ?_; go_big_quiet_on; simp only [Act.put, List.setIfInBounds_toArray, List.set_cons_zero, List.set_cons_succ])
               | (refine quiet_rowc 48 _ rfl g1 o1 I _ rfl CXI.out Tryz.underlying48 rfl HII.out.1 ?_; go_big_quiet_on; simp only [Act.put, List.setIfInBounds_toArray, List.set_cons_zero, List.set_cons_succ])
               | (refine quiet_call10 (.bool true) 21 #[.agg J, .agg I] ?_ ?_ ?_; (focus (intro W hW; go_simp; done)); (focus (intro W hW; exact HLS.out W hW)); go_big_quiet_on; simp only [Act.put, List.setIfInBounds_toArray, List.set_cons_zero, List.set_cons_succ])
               | (refine quiet_val10 (.pointer (some ⟨g2, o2, none⟩)) ?_ ?_; (focus (intro W hW; go_simp; done)); go_big_quiet_on; simp only [Act.put, List.setIfInBounds_toArray, List.set_cons_zero, List.set_cons_succ])
               | (refine quiet_val10 (.pointer (some ⟨g1, o1, none⟩)) ?_ ?_; (focus (intro W hW; go_simp; done)); go_big_quiet_on; simp only [Act.put, List.setIfInBounds_toArray, List.set_cons_zero, List.set_cons_succ])
               | (go_big_quiet_op; go_big_quiet_on)))
        refine wpQuiet_nil ?_
        intro w9 hw9
        have H9 : Hid (Below wr.heap.size wr w9) := hw9
        clear hw9 HLS
        have HM2 : Hid (Mg l (O ++ [y]) (x :: A1) B1) := HM.out.right hlt
        have HCE : Hid (∀ j v, Y[j]? = some v → w9.cell? ⟨g2, o2 + j, none⟩ = some v) := fun j v hv => CY.out w9 H9.out j v hv
        obtain ⟨a7, cp7, w7, hrun, hO7, hb7⟩ := HAP.out y w9 H9.out HXY.out.2
        rw [HYE.out] at hrun
        have HO7 : Hid (w7.ownsRow w2.heap.size 91 35 (.slice a7 (m + 1) cp7) (m + 1) (xvs (O ++ [y])) ∧ Below w2.heap.size w2 w7) := ⟨hO7, hb7⟩
        clear hO7 hb7 hlt HM HAP CX CY CXI CYI
        by_cases hc1 : c2 = 1
        · subst hc1
          have hn0 : nb = 0 := by omega
          subst hn0
          go_wp2_with (first
            | (refine wpList_load_mid rfl 91 (.tmp 43) rfl g2 o2 rfl Y.toList _ (fun j v hv => HCE.out j v (by rwa [Array.getElem?_toList] at hv)) Tryz.underlying91 rfl HIY.out.2 ?_)
            | (refine wpList_bsX rfl 93 (.tmp 44) rfl (.agg Y) (.slice (some ⟨w9.heap.size, 0, none⟩) 1 1) (w9.alloc (.cells Y 91)) rfl (HSY.out _) ?_)
            | (refine wpList_appX rfl (.tmp 41) (.tmp 45) 93 93 rfl u5 (.slice (some ⟨w9.heap.size, 0, none⟩) 1 1) (.slice a7 (m + 1) cp7) w7 rfl rfl hrun ?_)
            | fail)
          clear hrun
          try go_wp2
          go_roundw
          case rel => exact ⟨⟨g1, o1, none⟩, ⟨g2, o2, none⟩, (x :: A1), B1, O ++ [y], na + 1, 0, m + 1, c1, 0, _, rfl, rfl, rfl, HLN.out.1, (by have := HLN.out.2.1; simp at this ⊢; omega), by rw [List.length_append, HLN.out.2.2]; rfl, by omega, by omega, HM2.out, ⟨HXL.out.1, (HXL.out.2.tail0 (by have := HLN.out.2.1; simpa using this))⟩, HO7.out⟩
          case measure => simp [slN] <;> omega
        · have hle : (1 : Int) ≤ (c2 : Nat) := by omega
          have hle2 : 1 ≤ c2 := by omega
          have hle3 : 1 ≤ nb + 1 := by omega
          go_wp2_with (first
            | (refine wpList_load_mid rfl 91 (.tmp 43) rfl g2 o2 rfl Y.toList _ (fun j v hv => HCE.out j v (by rwa [Array.getElem?_toList] at hv)) Tryz.underlying91 rfl HIY.out.2 ?_)
            | (refine wpList_bsX rfl 93 (.tmp 44) rfl (.agg Y) (.slice (some ⟨w9.heap.size, 0, none⟩) 1 1) (w9.alloc (.cells Y 91)) rfl (HSY.out _) ?_)
            | (refine wpList_appX rfl (.tmp 41) (.tmp 45) 93 93 rfl u5 (.slice (some ⟨w9.heap.size, 0, none⟩) 1 1) (.slice a7 (m + 1) cp7) w7 rfl rfl hrun ?_)
            | fail)
          clear hrun
          try go_wp2
          go_roundw
          case rel => exact ⟨⟨g1, o1, none⟩, ⟨g2, o2 + 35, none⟩, (x :: A1), B1, O ++ [y], na + 1, nb, m + 1, c1, (c2 - 1), _, rfl, rfl, rfl, HLN.out.1, (by have := HLN.out.2.1; simp at this ⊢; omega), by rw [List.length_append, HLN.out.2.2]; rfl, by omega, by omega, HM2.out, ⟨HXL.out.1, HXL.out.2.tail⟩, HO7.out⟩
          case measure => simp [slN] <;> omega
      | false =>
        rw [hlt] at HLS
        go_wp2
        refine region_class10 (fun W => Below wr.heap.size wr W) (by kernel_rfl) (by kernel_rfl) ((Below.refl _ _).drew) ?_
        try simp only [Act.put, List.setIfInBounds_toArray, List.set_cons_zero, List.set_cons_succ]
        repeat (first
          | go_big_quiet_skip
          | (go_big_quiet_want
             first
               | (refine quiet_rowc 48 _ rfl g2 o2 J _ rfl CYI.out Tryz.underlying48 rfl HII.out.2 ?_; go_big_quiet_on; simp only [Act.put, List.setIfInBounds_toArray, List.set_cons_zero, List.set_cons_succ])
               | (refine quiet_rowc 48 _ rfl g1 o1 I _ rfl CXI.out Tryz.underlying48 rfl HII.out.1 ?_; go_big_quiet_on; simp only [Act.put, List.setIfInBounds_toArray, List.set_cons_zero, List.set_cons_succ])
               | (refine quiet_call10 (.bool false) 21 #[.agg J, .agg I] ?_ ?_ ?_; (focus (intro W hW; go_simp; done)); (focus (intro W hW; exact HLS.out W hW)); go_big_quiet_on; simp only [Act.put, List.setIfInBounds_toArray, List.set_cons_zero, List.set_cons_succ])
               | (refine quiet_val10 (.pointer (some ⟨g2, o2, none⟩)) ?_ ?_; (focus (intro W hW; go_simp; done)); go_big_quiet_on; simp only [Act.put, List.setIfInBounds_toArray, List.set_cons_zero, List.set_cons_succ])
               | (refine quiet_val10 (.pointer (some ⟨g1, o1, none⟩)) ?_ ?_; (focus (intro W hW; go_simp; done)); go_big_quiet_on; simp only [Act.put, List.setIfInBounds_toArray, List.set_cons_zero, List.set_cons_succ])
               | (go_big_quiet_op; go_big_quiet_on)))
        refine wpQuiet_nil ?_
        intro w9 hw9
        have H9 : Hid (Below wr.heap.size wr w9) := hw9
        clear hw9 HLS
        have HM2 : Hid (Mg l (O ++ [x]) A1 (y :: B1)) := HM.out.left hlt
        have HCE : Hid (∀ j v, X[j]? = some v → w9.cell? ⟨g1, o1 + j, none⟩ = some v) := fun j v hv => CX.out w9 H9.out j v hv
        obtain ⟨a7, cp7, w7, hrun, hO7, hb7⟩ := HAP.out x w9 H9.out HXY.out.1
        rw [HXE.out] at hrun
        have HO7 : Hid (w7.ownsRow w2.heap.size 91 35 (.slice a7 (m + 1) cp7) (m + 1) (xvs (O ++ [x])) ∧ Below w2.heap.size w2 w7) := ⟨hO7, hb7⟩
        clear hO7 hb7 hlt HM HAP CX CY CXI CYI
        by_cases hc1 : c1 = 1
        · subst hc1
          have hn0 : na = 0 := by omega
          subst hn0
          go_wp2_with (first
            | (refine wpList_load_mid rfl 91 (.tmp 51) rfl g1 o1 rfl X.toList _ (fun j v hv => HCE.out j v (by rwa [Array.getElem?_toList] at hv)) Tryz.underlying91 rfl HIX.out.2 ?_)
            | (refine wpList_bsX rfl 93 (.tmp 52) rfl (.agg X) (.slice (some ⟨w9.heap.size, 0, none⟩) 1 1) (w9.alloc (.cells X 91)) rfl (HSX.out _) ?_)
            | (refine wpList_appX rfl (.tmp 49) (.tmp 53) 93 93 rfl u5 (.slice (some ⟨w9.heap.size, 0, none⟩) 1 1) (.slice a7 (m + 1) cp7) w7 rfl rfl hrun ?_)
            | fail)
          clear hrun
          try go_wp2
          go_roundw
          case rel => exact ⟨⟨g1, o1, none⟩, ⟨g2, o2, none⟩, A1, (y :: B1), O ++ [x], 0, nb + 1, m + 1, 0, c2, _, rfl, rfl, rfl, (by have := HLN.out.1; simp at this ⊢; omega), HLN.out.2.1, by rw [List.length_append, HLN.out.2.2]; rfl, by omega, by omega, HM2.out, ⟨(HXL.out.1.tail0 (by have := HLN.out.1; simpa using this)), HXL.out.2⟩, HO7.out⟩
          case measure => simp [slN] <;> omega
        · have hle : (1 : Int) ≤ (c1 : Nat) := by omega
          have hle2 : 1 ≤ c1 := by omega
          have hle3 : 1 ≤ na + 1 := by omega
          go_wp2_with (first
            | (refine wpList_load_mid rfl 91 (.tmp 51) rfl g1 o1 rfl X.toList _ (fun j v hv => HCE.out j v (by rwa [Array.getElem?_toList] at hv)) Tryz.underlying91 rfl HIX.out.2 ?_)
            | (refine wpList_bsX rfl 93 (.tmp 52) rfl (.agg X) (.slice (some ⟨w9.heap.size, 0, none⟩) 1 1) (w9.alloc (.cells X 91)) rfl (HSX.out _) ?_)
            | (refine wpList_appX rfl (.tmp 49) (.tmp 53) 93 93 rfl u5 (.slice (some ⟨w9.heap.size, 0, none⟩) 1 1) (.slice a7 (m + 1) cp7) w7 rfl rfl hrun ?_)
            | fail)
          clear hrun
          try go_wp2
          go_roundw
          case rel => exact ⟨⟨g1, o1 + 35, none⟩, ⟨g2, o2, none⟩, A1, (y :: B1), O ++ [x], na, nb + 1, m + 1, (c1 - 1), c2, _, rfl, rfl, rfl, (by have := HLN.out.1; simp at this ⊢; omega), HLN.out.2.1, by rw [List.length_append, HLN.out.2.2]; rfl, by omega, by omega, HM2.out, ⟨HXL.out.1.tail, HXL.out.2⟩, HO7.out⟩
          case measure => simp [slN] <;> omega
end Go.Proofs.YtbfoiocbmhhdbaaGreat
/- The document's own Less (munimentref02). -/
namespace Go.Proofs.YtbfoiocbmhhdbaaGreat
open Go.RowKit
set_option linter.unusedSimpArgs false
set_option linter.unusedVariables false
theorem cmp_same {a b : ByteArray} {j : Nat} (ha : j < a.size) (hb : j < b.size) (e : a[j].toNat = b[j].toNat) :
    Lib.compareBytes (a.data.toList.drop j) (b.data.toList.drop j) = Lib.compareBytes (a.data.toList.drop (j + 1)) (b.data.toList.drop (j + 1)) := by
  rw [List.drop_eq_getElem_cons (l := a.data.toList) (i := j) (by simpa using ha), List.drop_eq_getElem_cons (l := b.data.toList) (i := j) (by simpa using hb)]
  have e1 : a.data.toList[j]'(by simpa using ha) = b.data.toList[j]'(by simpa using hb) := UInt8.toNat_inj.1 e
  rw [e1, Lib.compareBytes, if_neg (UInt8.lt_irrefl _), if_neg (UInt8.lt_irrefl _)]
theorem cmp_head (x y : UInt8) (l m : List UInt8) (e : x.toNat ≠ y.toNat) : decide (Lib.compareBytes (x :: l) (y :: m) < 0) = decide ((x.toNat : Int) < (y.toNat : Int)) := by
  rw [Lib.compareBytes]
  by_cases h : x.toNat < y.toNat
  · rw [if_pos (UInt8.lt_iff_toNat_lt.2 h)]
    have h2 : ((x.toNat : Int) < (y.toNat : Int)) := by omega
    rw [decide_eq_true h2]; rfl
  · have h3 : y.toNat < x.toNat := by omega
    rw [if_neg (fun h' => h (UInt8.lt_iff_toNat_lt.1 h')), if_pos (UInt8.lt_iff_toNat_lt.2 h3)]
    have h2 : ¬ ((x.toNat : Int) < (y.toNat : Int)) := by omega
    rw [decide_eq_false h2]; rfl
theorem cmp_other {a b : ByteArray} {j : Nat} (ha : j < a.size) (hb : j < b.size) (e : a[j].toNat ≠ b[j].toNat) :
    decide (Lib.compareBytes (a.data.toList.drop j) (b.data.toList.drop j) < 0) = decide ((a[j].toNat : Int) < (b[j].toNat : Int)) := by
  rw [List.drop_eq_getElem_cons (l := a.data.toList) (i := j) (by simpa using ha), List.drop_eq_getElem_cons (l := b.data.toList) (i := j) (by simpa using hb)]
  exact cmp_head _ _ _ _ e
set_option maxHeartbeats 1000000 in
set_option maxRecDepth 100000 in
theorem rLess_any (a b : ByteArray) (w : World) (ha : a.size = 32) (hb : b.size = 32) :
    Calls Tryz.prog 21 #[.agg (idc a), .agg (idc b)] w fun e w' => e = .returned (.bool (lessB a b)) ∧ Below w.heap.size w w' := by
  go_enter Tryz.func21, Tryz.ntmps21
  go_wp2
  obtain ⟨w4, hw4⟩ : ∃ w4, w4 = (w.alloc (.cells (idc a) 48)).alloc (.cells (idc b) 48) := ⟨_, rfl⟩
  have HA : Hid (Blk w4 w.heap.size (idc a) 48) := by rw [hw4]; exact Blk.grown (blk_new w (.cells (idc a) 48)) (World.grownBy_alloc _ _ none) (by simp)
  have HB : Hid (Blk w4 (w.heap.size + 1) (idc b) 48) := by
    have e := blk_new (w.alloc (.cells (idc a) 48)) (.cells (idc b) 48)
    rw [alloc_size] at e
    rw [hw4]; exact e
  have HW : Hid (Below w.heap.size w w4) := by rw [hw4]; exact ((Below.refl _ _).alloc (Nat.le_refl _) _).alloc (by rw [alloc_size]; omega) _
  rw [← hw4]
  clear hw4
  go_loopw [5] (fun i wq => ∃ (j : Nat), j ≤ 32 ∧ i = .int .i64 (j : Int) ∧ Hid (w4.grownBy wq none ∧ Lib.compareBytes a.data.toList b.data.toList = Lib.compareBytes (a.data.toList.drop j) (b.data.toList.drop j))) (fun i _ => 40 - (intOf i).toNat)
  case atStart => exact ⟨0, by omega, rfl, World.grownBy.refl _ _, rfl⟩
  case round =>
    obtain ⟨j, hj, rfl, HQ⟩ := hrel
    by_cases hj0 : j < 32
    · have hja : j < a.size := by omega
      have hjb : j < b.size := by omega
      obtain ⟨y, hy⟩ : ∃ y, y = a[j].toNat := ⟨_, rfl⟩
      obtain ⟨z, hz⟩ : ∃ z, z = b[j].toNat := ⟨_, rfl⟩
      have c1 : wr.cell? ⟨w.heap.size, j, none⟩ = some (.int .u8 (y : Int)) := by rw [hy]; exact HQ.out.1.cell (by rw [HA.out.cell]; exact idc_get a j hja) (by simp)
      have c2 : wr.cell? ⟨w.heap.size + 1, j, none⟩ = some (.int .u8 (z : Int)) := by rw [hz]; exact HQ.out.1.cell (by rw [HB.out.cell]; exact idc_get b j hjb) (by simp)
      have HYZ : Hid (y = a[j].toNat ∧ z = b[j].toNat) := ⟨hy, hz⟩
      clear hy hz
      by_cases hyz : y = z
      · have hb : ((y : Int) != (z : Int)) = false := by rw [bne_eq_false_iff_eq]; omega
        have HNE : Hid (y = z) := hyz
        clear hyz
        go_wp2
        go_quiet (fail)
        go_wp2
        go_roundw
        case rel =>
          refine ⟨j + 1, by omega, by go_num, HQ.out.1.trans (grown_drewN _ _ _), ?_⟩
          rw [HQ.out.2, cmp_same hja hjb (by rw [← HYZ.out.1, ← HYZ.out.2]; exact HNE.out)]
        case measure => simp [intOf]; omega
      · have hb : ((y : Int) != (z : Int)) = true := by rw [bne_iff_ne]; omega
        have HNE : Hid (¬ y = z) := hyz
        clear hyz
        go_wp2
        go_quiet (fail)
        go_wp2
        go_quiet (fail)
        go_wp2
        go_ret
        have e : lessB a b = decide ((y : Int) < (z : Int)) := by
          have h := cmp_other hja hjb (by rw [← HYZ.out.1, ← HYZ.out.2]; exact HNE.out)
          rw [← HQ.out.2, ← HYZ.out.1, ← HYZ.out.2] at h
          exact h
        refine ⟨?_, HW.out.trans ((below_of_grown ((HQ.out.1.trans (grown_drewN _ _ _)).trans (grown_drewN _ _ _))).mono HW.out.size)⟩
        rw [e]
        first | rfl | (simp; done)
    · have hj1 : j = 32 := by omega
      subst hj1
      have HF : Hid (lessB a b = false) := by
        have h := HQ.out.2
        rw [List.drop_of_length_le (by simp; omega), List.drop_of_length_le (by simp; omega)] at h
        show decide (Lib.compareBytes a.data.toList b.data.toList < 0) = false
        rw [h]; rfl
      clear hj0
      go_wp2
      go_ret
      refine ⟨by rw [HF.out]; rfl, HW.out.trans ((below_of_grown HQ.out.1).mono HW.out.size)⟩
end Go.Proofs.YtbfoiocbmhhdbaaGreat
/- The document's Less and Sorted. -/
namespace Go.Proofs.YtbfoiocbmhhdbaaGreat
open Go.RowKit
set_option linter.unusedSimpArgs false
set_option linter.unusedVariables false
theorem rless13 : RLess := fun a b w ha hb => rLess_any a b w ha hb
theorem rsorted_any (l : List Xe) (ad : Addr) (n c : Nat) (w : World) (hl : l.length = n) (hX : XeL w (some ad) l) (hc : n ≤ c) (hn : n ≤ 65536) : Calls Tryz.prog 56 #[.slice (some ad) n c] w fun e w' => SoS w l n e w' := rsorted rless13 n l ad c w hl hX hc hn
set_option maxHeartbeats 1000000 in
set_option maxRecDepth 100000 in
/-- Of nothing at all. -/
theorem rsorted_nil (c : Nat) (w : World) : Calls Tryz.prog 56 #[.slice none 0 c] w fun e w' => SoS w [] 0 e w' := by
  have hbs := rbs_none
  have HR : Hid (SoS w [] 0 (.returned (.slice (some ⟨w.heap.size, 0, none⟩) 0 0)) (w.alloc (.cells #[] 91))) := ⟨w.heap.size, 0, [], rfl, ⟨rfl, .inr ⟨w.heap.size, 0, #[], rfl, Nat.le_refl _, bk_new w #[] 91, Nat.le_refl _, by unfold maxLen; omega, rfl, rfl⟩⟩, List.Perm.refl _, List.Pairwise.nil, (Below.refl _ _).alloc (Nat.le_refl _) _⟩
  go_enter Tryz.func56, Tryz.ntmps56
  go_wp2
  go_ret
  exact HR.out
end Go.Proofs.YtbfoiocbmhhdbaaGreat
/- A string's bytes as a row of the call's own, and back. -/
namespace Go.Proofs.YtbfoiocbmhhdbaaGreat
open Go.RowKit
set_option linter.unusedSimpArgs false
set_option linter.unusedVariables false
/-- A row that a conversion has made: its cells; the mark stands behind them. -/
abbrev Cvb (w : World) (g : Nat) (C : Array Value) : Prop := w.heap[g]? = some (.cells C 5 (C.size, C.size + 1))
theorem Cvb.cell {w : World} {g : Nat} {C : Array Value} (h : Cvb w g C) (j : Nat) : w.cell? ⟨g, j, none⟩ = C[j]? := cell_of_row w g j C _ _ h
theorem Cvb.frozen {w : World} {g : Nat} {C : Array Value} (h : Cvb w g C) (j : Nat) (hj : j < C.size) : w.frozen? ⟨g, j, none⟩ = false := by
  have h' : w.heap[g]? = some (.cells C 5 (C.size, C.size + 1)) := h
  simp only [World.frozen?, h']
  simp; omega
theorem Cvb.set {w : World} {g : Nat} {C : Array Value} (h : Cvb w g C) (i : Nat) (v : Value) : Cvb (w.setCell ⟨g, i, none⟩ v) g (C.setIfInBounds i v) := by
  have := Joins.block_setCell (i := i) h v
  unfold Cvb
  rw [this]; simp
theorem conv_bytes (s : ByteArray) (u : World) : ∃ (cap : Nat) (W : World) (C : Array Value), (convert 9 131 (.string s)).run Tryz.prog u = .ok (.slice (some ⟨u.heap.size, 0, none⟩) s.size cap) W ∧
    Below u.heap.size u W ∧ W.heap.size = u.heap.size + 1 ∧ Cvb W u.heap.size C ∧ s.size ≤ C.size ∧ s.size ≤ cap ∧ ∀ j (hj : j < s.size), C[j]? = some (.int .u8 (s[j].toNat : Int)) := by
  refine ⟨grownCap u s.size 0 5, Lib.bytesWorld u 5 s, Lib.bytesCells u 5 s, Lib.run_convert_string_bytes u _ _ _ s Tryz.underlying9 Tryz.underlying131 Tryz.underlying5, ?_, Lib.bytesWorld_size _ _ _, Lib.bytesWorld_at_new _ _ _, ?_, ?_, ?_⟩
  · refine ⟨?_, ?_, ?_, by rw [Lib.bytesWorld_size]; omega, fun k hk => Lib.bytesWorld_at_old _ _ _ _ hk⟩
    all_goals simp [Lib.bytesWorld, World.freeze, World.alloc, World.drew, -World.alloc_eq, -World.drew_eq]
  · simp [Lib.bytesCells]
  · exact grownCap_ge _ _ _ _
  · intro j hj
    have hj' : j < s.data.size := hj
    rw [Lib.bytesCells, Array.getElem?_append_left (by simpa using hj)]
    simp only [Array.getElem?_map, Array.getElem?_eq_getElem hj', Option.map_some]
    rfl
theorem conv_back (w : World) (g cap n : Nat) (C : Array Value) (l : List UInt8) (h : Cvb w g C) (hl : l.length = n) (hC : ∀ j (hj : j < l.length), C[j]? = some (.int .u8 (l[j].toNat : Int))) :
    (convert 131 9 (.slice (some ⟨g, 0, none⟩) n cap)).run Tryz.prog w = .ok (.string ⟨l.toArray⟩) w := by
  subst hl
  refine run_convert_bytes_back w 131 9 5 ⟨g, 0, none⟩ cap l Tryz.underlying131 Tryz.underlying5 Tryz.underlying9 (fun j hj => ?_)
  rw [WideShapes.add_plain, Nat.zero_add, h.cell, hC j hj]
/-- Bytes as numbers, one of them laid anew. -/
def setNums (s : ByteArray) (j : Nat) (X : Int) : List Int := ((bl s).map fun b : UInt8 => (b.toNat : Int)).set j X
theorem setNums_length (s : ByteArray) (j : Nat) (X : Int) : (setNums s j X).length = s.size := by simp [setNums, bl_length]
def trnS (s : ByteArray) (j : Nat) (X : Int) : ByteArray := strOfNums (setNums s j X)
theorem conv_set (s : ByteArray) (w : World) (g cap j : Nat) (C : Array Value) (h : Cvb w g C) (hj : j < s.size) (hz : s.size ≤ C.size) (hC : ∀ j (hj : j < s.size), C[j]? = some (.int .u8 (s[j].toNat : Int))) (X : Int) :
    (convert 131 9 (.slice (some ⟨g, 0, none⟩) s.size cap)).run Tryz.prog (w.setCell ⟨g, j, none⟩ (.int .u8 X)) = .ok (.string (trnS s j X)) (w.setCell ⟨g, j, none⟩ (.int .u8 X)) := by
  refine run_convert_bytes_arg _ 131 5 Tryz.underlying131 Tryz.underlying5 g 0 s.size cap _ (setNums_length s j X) (fun i hi => ?_) 9 Tryz.underlying9
  rw [Nat.zero_add, (h.set j _).cell, Array.getElem?_setIfInBounds, setNums, List.getD, List.getElem?_set]
  by_cases e : j = i
  · subst e
    rw [if_pos rfl, if_pos (by omega), if_pos rfl, if_pos (by simp [bl_length]; exact hj)]
    rfl
  · rw [if_neg e, if_neg e, hC i hi, List.getElem?_map, List.getElem?_eq_getElem (by rw [bl_length]; exact hi)]
    rfl
theorem bl_nums (l : List Int) : bl (strOfNums l) = l.map (fun x => UInt8.ofNat x.toNat) := rfl
theorem bl_trn (s : ByteArray) (j : Nat) (X : Int) : bl (trnS s j X) = (bl s).set j (UInt8.ofNat X.toNat) := by
  rw [trnS, bl_nums, setNums, List.map_set, List.map_map]
  congr 1
  have : ((fun x : Int => UInt8.ofNat x.toNat) ∘ fun b : UInt8 => (b.toNat : Int)) = id := by funext b; simp
  rw [this, List.map_id]
end Go.Proofs.YtbfoiocbmhhdbaaGreat
