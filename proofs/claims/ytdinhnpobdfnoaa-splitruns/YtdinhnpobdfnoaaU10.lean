/- The walk of what Splitter.Write hands its cutter. -/
import Derived.Test.YtdinhnpobdfnoaaU9
import Derived.Maps.AppendAt
namespace Go.Proofs.Ytdinhnpobdfnoaa
open Go.RowKit
set_option linter.unusedSimpArgs false
set_option linter.unusedVariables false
/-- Pieces as cells. -/
def pcv (l : List (List UInt8 × Nat)) : List Value := l.flatMap fun x => [Value.string ⟨x.1.toArray⟩, Value.int .i64 (x.2 : Int)]
theorem pcv_app (a b : List (List UInt8 × Nat)) : pcv (a ++ b) = pcv a ++ pcv b := by simp [pcv]
theorem inf_pc : (Try.prog.info? 58).map (fun i => (i.zero, i.size, i.bytes)) = some (some (.agg #[.string ⟨#[]⟩, .int .i64 0]), 2, 24) := by kernel_rfl
theorem one_pc (s : ByteArray) (b : Int) : ∀ u ∈ [Value.string s, Value.int .i64 b], u.oneCell' = true := by
  intro u hu
  simp at hu
  rcases hu with rfl | rfl <;> rfl
/-- The pieces handed on so far. -/
structure PS (w0 : World) (gp gh gx gs gf : Nat) (evs : List (List UInt8 × Nat)) (w : World) : Prop where
  vv : ∃ v, Bk w gp #[v] 48 ∧ w.ownsRow w0.heap.size 58 2 v evs.length (pcv evs) ∧ v ≠ .slice none 0 0
  hh : Bk w gh #[.func (.func 33) #[] #[.pointer (some ⟨gx, 0, none⟩), .pointer (some ⟨gs, 0, none⟩), .pointer (some ⟨gf, 0, none⟩)]] 92
  low : w0.heap.size ≤ gp
theorem PS.keep {w0 : World} {gp gh gx gs gf : Nat} {evs : List (List UInt8 × Nat)} {w w' : World} (h : PS w0 gp gh gx gs gf evs w) {ts : List TypeId} (hk : Kp ts w w') (h1 : 48 ∉ ts) (h2 : 58 ∉ ts) (h3 : 92 ∉ ts) : PS w0 gp gh gx gs gf evs w' := by
  obtain ⟨v, q1, q2, q3⟩ := h.vv
  exact ⟨⟨v, hk _ _ _ h1 q1, own_kp q2 h2 hk, q3⟩, hk _ _ _ h3 h.hh, h.low⟩
theorem WS.keep {w0 : World} {B : Nat} {fs : List Nat} {gx gs gf g : Nat} {s : ByteArray} {tk fr : Nat} {hd : List UInt8} {w w' : World} (h : WS w0 B fs gx gs gf g s tk fr hd w) {ts : List TypeId} (hk : Kp ts w w') (hkb : Kb w0 w' fs)
    (ht : ∀ t ∈ [40, 9, 3, 91, 5], t ∉ ts) : WS w0 B fs gx gs gf g s tk fr hd w' := by
  obtain ⟨C, vh, q, q2⟩ := h.sp
  exact ⟨hk _ _ _ (ht _ (by simp)) h.bx, hk _ _ _ (ht _ (by simp)) h.bs, hk _ _ _ (ht _ (by simp)) h.bf, ⟨C, vh, ⟨hk _ _ _ (ht _ (by simp)) q.bk, q.c8, q.c0, q.c6, q.c7, own_kp q.own (ht _ (by simp)) hk⟩, q2⟩, hkb, h.low⟩
set_option maxHeartbeats 2000000 in
set_option maxRecDepth 100000 in
theorem handW_any (w0 : World) (B : Nat) (fs : List Nat) (gx gs gf gh gp g : Nat) (s : ByteArray) (tk fr en lv : Nat) (hd : List UInt8) (evs : List (List UInt8 × Nat)) (w : World) (h : WS w0 B fs gx gs gf g s tk fr hd w) (hp : PS w0 gp gh gx gs gf evs w)
    (he : fr ≤ en) (hen : en ≤ s.size) (hs : s.size ≤ 1048576) (hn : hd.length ≤ 1048576) (hlv : lv ≤ 32) (hev : evs.length ≤ 1048576) :
    Calls Try.prog 34 #[.int .i64 (en : Int), .int .i64 (lv : Int), .pointer (some ⟨gh, 0, none⟩), .pointer (some ⟨gp, 0, none⟩), .pointer (some ⟨gx, 0, none⟩)] w fun e w' => e = .returned (.tuple #[]) ∧ WS w0 B fs gx gs gf g s tk en [] w' ∧ PS w0 gp gh gx gs gf (evs ++ [(hd ++ ((tby s).take en).drop fr, lv)]) w' ∧ Kp [91, 5, 3, 48, 58] w w' ∧ (∀ j, j ≠ 6 → w'.cell? ⟨g, j, none⟩ = w.cell? ⟨g, j, none⟩) := by
  have ch : w.cell? ⟨gh, 0, none⟩ = some (.func (.func 33) #[] #[.pointer (some ⟨gx, 0, none⟩), .pointer (some ⟨gs, 0, none⟩), .pointer (some ⟨gf, 0, none⟩)]) := by rw [hp.hh.cell]; rfl
  have HH : Hid _ := hold_any w0 B fs gx gs gf g s tk fr en hd w h he hen hs hn
  have HP : Hid (PS w0 gp gh gx gs gf evs w) := hp
  obtain ⟨q, hq⟩ : ∃ q, hd ++ ((tby s).take en).drop fr = q := ⟨_, rfl⟩
  rw [hq] at HH ⊢
  obtain ⟨i0, hi, hz0, hz1, hz2⟩ := info_parts inf_pc
  have CR : Hid (∀ w1, WS w0 B fs gx gs gf g s tk en q w1 → PS w0 gp gh gx gs gf evs w1 → Kp [91, 5, 3] w w1 → (∀ j, j ≠ 6 → w1.cell? ⟨g, j, none⟩ = w.cell? ⟨g, j, none⟩) → ∃ vp, w1.cell? ⟨gp, 0, none⟩ = some vp ∧ w1.cell? ⟨gx, 0, none⟩ = some (.pointer (some ⟨g, 0, none⟩)) ∧
      Calls Try.prog 35 #[.pointer (some ⟨g, 0, none⟩), .int .i64 (lv : Int)] w1.drew fun e w' => ∃ w7 a7 n7 k7, e = .returned (.agg #[.string ⟨q.toArray⟩, .int .i64 (lv : Int)]) ∧ w'.cell? ⟨gp, 0, none⟩ = some vp ∧ (w'.alloc (.cells #[.string ⟨q.toArray⟩, .int .i64 (lv : Int)] 58)).cell? ⟨gp, 0, none⟩ = some vp ∧
        (Builtin.append_ #[48, 48] 48 #[vp, .slice (some ⟨w'.heap.size, 0, none⟩) 1 1]).run Try.prog (w'.alloc (.cells #[.string ⟨q.toArray⟩, .int .i64 (lv : Int)] 58)) = .ok (.slice a7 n7 k7) w7 ∧ w7.cell? ⟨gp, 0, none⟩ = some vp ∧ w7.frozen? ⟨gp, 0, none⟩ = false ∧
        Hid (WS w0 B fs gx gs gf g s tk en [] (w7.setCell ⟨gp, 0, none⟩ (.slice a7 n7 k7)) ∧ PS w0 gp gh gx gs gf (evs ++ [(q, lv)]) (w7.setCell ⟨gp, 0, none⟩ (.slice a7 n7 k7)) ∧ Kp [91, 5, 3, 48, 58] w (w7.setCell ⟨gp, 0, none⟩ (.slice a7 n7 k7)) ∧ (∀ j, j ≠ 6 → (w7.setCell ⟨gp, 0, none⟩ (.slice a7 n7 k7)).cell? ⟨g, j, none⟩ = w.cell? ⟨g, j, none⟩))) := by
    intro w1 h1 p1 k1 j1
    obtain ⟨vp, hv1, hv2, hv3⟩ := p1.vv
    obtain ⟨C, vh, hsp, hvb⟩ := h1.sp
    refine ⟨vp, by rw [hv1.cell]; rfl, by rw [h1.bx.cell]; rfl, ?_⟩
    refine (release_any B g lv C vh q w1.drew hsp.bk hsp.c8 hsp.c6 hsp.own).mono ?_
    rintro e w2 ⟨vh', rfl, b2, o2, e2, g2⟩
    have hg2 : w1.grownBy w2 (some g) := (gr_drewN w1 1 _).trans g2
    have hK2 : Kp [91] w1 w2 := kp_grown hsp.bk (by decide) hg2
    have h2 : WS w0 B fs gx gs gf g s tk en [] w2 := by
      refine ⟨hK2 _ _ _ (by decide) h1.bx, hK2 _ _ _ (by decide) h1.bs, hK2 _ _ _ (by decide) h1.bf, ⟨_, vh', ⟨b2, by simpa using hsp.c8, ?_, ?_, ?_, o2⟩, ?_⟩, h1.kb.step hg2 (fun i hi => by cases hi; exact .inl h1.low.1), h1.low⟩
      · rw [set8 hsp.c8]; exact hsp.c0
      · rw [set8 hsp.c8]; rfl
      · rw [set8 hsp.c8]; exact hsp.c7
      · intro b hb; rw [e2] at hb; exact hvb b hb
    have p2 := p1.keep hK2 (by decide) (by decide) (by decide)
    have hv12 := hK2 _ _ _ (by decide) hv1
    have hv22 := own_kp hv2 (by decide) hK2
    have hz : w0.heap.size ≤ w2.heap.size := h2.kb.size
    obtain ⟨v', w7, hrun, hown, hgrow, hnil, hat⟩ := run_append_own_at (P := Try.prog) (w := w2.alloc (.cells #[.string ⟨q.toArray⟩, .int .i64 (lv : Int)] 58)) w0.heap.size 48 48 58 i0 (.agg #[.string ⟨#[]⟩, .int .i64 0]) 2 24 Try.underlying48 hi hz0 hz1 hz2 rfl (by decide) vp evs.length (pcv evs) (hv22.alloc _) ⟨w2.heap.size, 0, none⟩ 1 1 [.string ⟨q.toArray⟩, .int .i64 (lv : Int)] rfl (news_two w2 _ _ _) (one_pc _ _) (by unfold maxLen; omega) (by omega) (by simp; omega)
    obtain ⟨a7, n7, k7, hv7⟩ : ∃ a n c, v' = .slice a n c := by
      rcases hown.2 with ⟨h1, _⟩ | ⟨_, _, _, h1, _⟩
      · exact ⟨_, _, _, h1⟩
      · exact ⟨_, _, _, h1⟩
    subst hv7
    have hK7 : Kp [58] w2 w7 := (kp_alloc _ _ _).trans (kp_own (hv22.alloc _) (by decide) hgrow)
    have hb7 := hK7 _ _ _ (by decide) hv12
    have hK8 := kp_set (ts := [48]) hb7 (by decide) 0 (.slice a7 n7 k7)
    have hkb : Kb w0 (w7.setCell ⟨gp, 0, none⟩ (.slice a7 n7 k7)) fs := by
      refine Kb.step (b := some gp) (Kb.step (Kb.step h2.kb (World.grownBy_alloc w2 _ none) (fun i hi => by cases hi)) hgrow (fun i hi => ?_)) (Lib.grownBy_setB (World.grownBy.refl _ _) 0 _) (fun i hi => by cases hi; exact .inr p1.low)
      rcases hv22.2 with ⟨rfl, _⟩ | ⟨g', _, _, rfl, hle, _⟩
      · cases hi
      · simp [Value.ownBlock] at hi; right; omega
    refine ⟨w7, a7, n7, k7, rfl, by rw [hv12.cell]; rfl, by rw [(hv12.alloc _).cell]; rfl, hrun, by rw [hb7.cell]; rfl, hb7.frozen 0, ?_, ?_, ?_, ?_⟩
    · exact h2.keep ((hK7.mono (us := [48, 58]) (by simp)).trans (hK8.mono (by simp))) hkb (by decide)
    · refine ⟨⟨_, hb7.set 0 _, ?_, fun e => hv3 (hnil.1 e).1⟩, hK8 _ _ _ (by decide) (hK7 _ _ _ (by decide) p2.hh), p1.low⟩
      rw [pcv_app, List.length_append]
      exact own_kp hown (by decide) hK8
    · exact ((k1.mono (by simp)).trans (hK2.mono (by simp))).trans ((hK7.mono (by simp)).trans (hK8.mono (by simp)))
    · intro j hj
      rw [← j1 j hj, (hK8 _ _ _ (by decide) (hK7 _ _ _ (by decide) b2)).cell, set8 hsp.c8, if_neg hj, hsp.bk.cell]
  clear h hp hq he
  go_enter Try.func34, Try.ntmps34
  go_wp2_with fail
  refine Calls.mono HH.out ?_
  rintro e w1 ⟨rfl, h1, k1, j1⟩
  obtain ⟨vp, cp, cx, hrel⟩ := CR.out w1 h1 (HP.out.keep k1 (by decide) (by decide) (by decide)) k1 j1
  have HRL : Hid _ := hrel
  clear HH HP CR h1 k1 j1 hrel ch
  go_wp2
  go_region_law (first
    | (refine step_app_run (by rfl) _ _ _ _ (by rfl) vp (.slice (some ⟨w6.heap.size, 0, none⟩) 1 1) (.slice a7 n7 k7) w7 (by rfl) (by rfl) hrun ?_)
    | (go_simp; go_at_call 35; refine Calls.mono HRL.out ?_; rintro e w6 ⟨w7, a7, n7, k7, rfl, cp6, cpa, hrun, cp7, fp7, HF⟩; dsimp only)
    | fail)
  all_goals
    (first | go_wp2 | skip)
    go_end0
    exact ⟨rfl, HF.out⟩
end Go.Proofs.Ytdinhnpobdfnoaa
