/- A splitter that is open, and what Write's cutter goes by. -/
import Derived.Test.YtdinhnpobdfnoaaU10
namespace Go.Proofs.Ytdinhnpobdfnoaa
open Go.RowKit
set_option linter.unusedSimpArgs false
set_option linter.unusedVariables false
theorem arr8 {C : Array Value} {a0 a1 a2 a3 a4 a5 a6 a7 : Value} (h : C.size = 8) (h0 : C[0]? = some a0) (h1 : C[1]? = some a1) (h2 : C[2]? = some a2) (h3 : C[3]? = some a3) (h4 : C[4]? = some a4) (h5 : C[5]? = some a5) (h6 : C[6]? = some a6) (h7 : C[7]? = some a7) : C = #[a0, a1, a2, a3, a4, a5, a6, a7] := by
  apply Array.ext_getElem?
  intro i
  match i with
  | 0 => rw [h0]; rfl
  | 1 => rw [h1]; rfl
  | 2 => rw [h2]; rfl
  | 3 => rw [h3]; rfl
  | 4 => rw [h4]; rfl
  | 5 => rw [h5]; rfl
  | 6 => rw [h6]; rfl
  | 7 => rw [h7]; rfl
  | n + 8 => rw [Array.getElem?_eq_none (by omega), Array.getElem?_eq_none (by simp)]
/-- An open splitter that was handed tk bytes and holds h. -/
structure Spo (w : World) (B g : Nat) (p : Pl) (h : List UInt8) (tk : Nat) (fs : List Nat) : Prop where
  mem : ∃ r vh, Bk w g #[.bool true, .int .i64 (p.B : Int), .int .i64 (p.F : Int), .int .i64 (p.M : Int), .pointer (some ⟨r, 0, none⟩), .int .i64 (h.length : Int), vh, .int .i64 (tk : Int)] 91 ∧ Rll w r h ∧ w.ownsRow B 5 1 vh h.length (byv h) ∧ r ∈ fs ∧ ∀ b, vh.ownBlock = some b → b ∈ fs
  gin : g ∈ fs
  opn : Opn (ctA p) h
  foot : ∀ b ∈ fs, B ≤ b ∧ b < w.heap.size
theorem Spo.kept {w w' : World} {B g : Nat} {p : Pl} {h : List UInt8} {tk : Nat} {fs fs2 : List Nat} (hs : Spo w B g p h tk fs) (hk : Kb w w' fs2) (hd : ∀ b ∈ fs, b ∉ fs2) : Spo w' B g p h tk fs := by
  obtain ⟨r, vh, h1, h2, h3, h4, h5⟩ := hs.mem
  refine ⟨⟨r, vh, hk.bk h1 (hd _ hs.gin), hk.bk h2 (hd _ h4), ⟨h3.1, ?_⟩, h4, h5⟩, hs.gin, hs.opn, fun b hb => ⟨(hs.foot b hb).1, Nat.lt_of_lt_of_le (hs.foot b hb).2 hk.size⟩⟩
  rcases h3.2 with q | ⟨g', cap, cur, q1, q2, q3, q4⟩
  · exact .inl q
  · exact .inr ⟨g', cap, cur, q1, q2, hk.bk (show Bk w g' cur 5 from q3) (hd _ (h5 g' (by rw [q1]; rfl))), q4⟩
theorem Spo.grownx {w w' : World} {B g : Nat} {p : Pl} {h : List UInt8} {tk : Nat} {fs : List Nat} {r : Option Nat} (hs : Spo w B g p h tk fs) (hg : w.grownBy w' r) (hr : ∀ b, r = some b → b ∉ fs) : Spo w' B g p h tk fs :=
  hs.kept (fs2 := r.toList) ⟨hg.os, hg.tape, hg.output, hg.size, fun b hb hn => hg.block b hb (fun e => hn (by rw [← e]; simp))⟩ (fun b hb hm => hr b (by simpa using hm) hb)
/-- What lies there while a splitter takes a text, behind so many bytes. -/
structure WE (p : Pl) (h0 : List UInt8) (w0 : World) (B : Nat) (fs : List Nat) (gx gs gf gh gp g : Nat) (s : ByteArray) (tk : Nat) (i : Nat) (w : World) : Prop where
  ws : ∃ fr hd, fr ≤ i ∧ lft (ctA p) h0 ((tby s).take i) = hd ++ ((tby s).take i).drop fr ∧ WS w0 B fs gx gs gf g s tk fr hd w
  ps : PS w0 gp gh gx gs gf (pcs (ctA p) h0 ((tby s).take i)) w
  le : i ≤ s.size
theorem drop_snoc {α : Type} {l : List α} {i fr : Nat} {x : α} (hx : l[i]? = some x) (h : fr ≤ i) : (l.take (i + 1)).drop fr = (l.take i).drop fr ++ [x] := by
  have hl : i < l.length := (List.getElem?_eq_some_iff.1 hx).1
  rw [List.take_add_one, hx, Option.toList_some, List.drop_append_of_le_length (by rw [List.length_take]; omega)]
theorem we_tk (p : Pl) (hp : p.ok) (h0 : List UInt8) (ho : Opn (ctA p) h0) (w0 : World) (B : Nat) (fs : List Nat) (gx gs gf gh gp g : Nat) (s : ByteArray) (hs : s.size ≤ 1048576) (tk : Nat) :
    Tk (fun r => r ∈ fs ∨ w0.heap.size ≤ r) p (tby s) h0 g 1 34 #[.pointer (some ⟨gh, 0, none⟩), .pointer (some ⟨gp, 0, none⟩), .pointer (some ⟨gx, 0, none⟩)] (WE p h0 w0 B fs gx gs gf gh gp g s tk) := by
  refine ⟨fun args u => ?_, fun i w h r hr => ?_, fun i w r C w' h hr hb hg => ?_, fun i w j v h hj => ?_, fun i w x hx h hn => ?_, fun i w h => ?_, fun i w v x r hx h hr hc hv => ?_⟩
  · have h1 : (Try.f34.name == "runtime.NumGoroutine") = false := by decide +kernel
    have h2 : Try.f34.body.isNone = false := by kernel_rfl
    simp at h1 h2
    simp [callFunc, go_sem, Try.func34, h1, h2]
    intro h; rw [h] at h2; cases h2
  · obtain ⟨fr, hd, _, _, hw⟩ := h.ws
    exact .inr (Nat.le_trans hw.kb.size hr)
  · obtain ⟨fr, hd, h1, h2, hw⟩ := h.ws
    have hk : Kp [113] w w' := kp_grown hb (by decide) hg
    exact ⟨⟨fr, hd, h1, h2, hw.keep hk (hw.kb.step hg (fun b hb => by cases hb; exact hr)) (by decide)⟩, h.ps.keep hk (by decide) (by decide) (by decide), h.le⟩
  · obtain ⟨fr, hd, h1, h2, hw⟩ := h.ws
    obtain ⟨C, vh, hsp, hvb⟩ := hw.sp
    have hg : w.grownBy (w.setCell ⟨g, 1 + j, none⟩ v) (some g) := Lib.grownBy_setB (World.grownBy.refl _ _) _ v
    have hk : Kp [91] w (w.setCell ⟨g, 1 + j, none⟩ v) := kp_grown hsp.bk (by decide) hg
    refine ⟨⟨fr, hd, h1, h2, ⟨hk _ _ _ (by decide) hw.bx, hk _ _ _ (by decide) hw.bs, hk _ _ _ (by decide) hw.bf, ⟨_, vh, ⟨hsp.bk.set (1 + j) v, by simpa using hsp.c8, ?_, ?_, ?_, own_kp hsp.own (by decide) hk⟩, hvb⟩, hw.kb.step hg (fun b hb => by cases hb; exact .inl hw.low.1), hw.low⟩⟩, h.ps.keep hk (by decide) (by decide) (by decide), h.le⟩
    · rw [Array.getElem?_setIfInBounds, if_neg (by omega)]; exact hsp.c0
    · rw [Array.getElem?_setIfInBounds, if_neg (by omega)]; exact hsp.c6
    · rw [Array.getElem?_setIfInBounds, if_neg (by omega)]; exact hsp.c7
  · obtain ⟨fr, hd, h1, h2, hw⟩ := h.ws
    have hl : i < (tby s).length := (List.getElem?_eq_some_iff.1 hx).1
    rw [tby_len] at hl
    refine ⟨⟨fr, hd, by omega, ?_, hw⟩, by rw [pc_no hx rfl hn]; exact h.ps, hl⟩
    rw [lf_no hx rfl hn, drop_snoc hx h1, h2, List.append_assoc]
  · obtain ⟨fr, hd, h1, h2, hw⟩ := h.ws
    obtain ⟨C, vh, hsp, hvb⟩ := hw.sp
    exact ⟨C, _, hsp.bk, by decide, by rw [hsp.c8]; omega⟩
  · obtain ⟨fr, hd, h1, h2, hw⟩ := h.ws
    have hl : i < (tby s).length := (List.getElem?_eq_some_iff.1 hx).1
    rw [tby_len] at hl
    have hlt := (lft_opn (ctA p) ((tby s).take i) h0 ho).lt (p := p) (by have := hp.2.2.2.2.1; omega)
    have hM := hp.2.2.2.2.2
    have hdl : hd.length ≤ (lft (ctA p) h0 ((tby s).take i)).length := by rw [h2, List.length_append]; omega
    have hpl := pcs_le (ctA p) ((tby s).take i) h0
    rw [List.length_take] at hpl
    have := handW_any w0 B fs gx gs gf gh gp g s tk fr (i + 1) v hd _ w hw h.ps (by omega) (by omega) hs (by omega) (ctA_lev hv).2 (by omega)
    rw [show ((i + 1 : Nat) : Int) = (i : Int) + 1 from rfl] at this
    refine this.mono ?_
    rintro e w' ⟨rfl, hws, hps, hk, hj⟩
    refine ⟨rfl, ⟨⟨i + 1, [], Nat.le_refl _, ?_, hws⟩, ?_, hl⟩, r, hr, ?_⟩
    · rw [lf_yes hx rfl hv, List.drop_eq_nil_of_le (by rw [List.length_take]; omega)]; rfl
    · rw [drop_snoc hx h1, ← List.append_assoc, ← h2] at hps
      rw [pc_yes hx rfl hv]; exact hps
    · exact ⟨by rw [hj _ (by omega)]; exact hc.c0, by rw [hj _ (by omega)]; exact hc.c1, by rw [hj _ (by omega)]; exact hc.c2, by rw [hj _ (by omega)]; exact hc.c3, by rw [hj _ (by omega)]; exact hc.c4, hk _ _ _ (by decide) hc.roll⟩
set_option maxHeartbeats 2000000 in
theorem scheck_yes (g : Nat) (w : World) (c0 : w.cell? ⟨g, 0, none⟩ = some (.bool true)) : Calls Try.prog 32 #[.pointer (some ⟨g, 0, none⟩)] w fun e w' => e = .returned (.int .i64 0) ∧ w' = w := by
  go_enter Try.func32, Try.ntmps32
  go_wp2
  go_ret
  exact ⟨rfl, rfl⟩
theorem scheck_done (g : Nat) (w : World) (c0 : w.cell? ⟨g, 0, none⟩ = some (.bool false)) : Calls Try.prog 32 #[.pointer (some ⟨g, 0, none⟩)] w fun e w' => e = .returned (.int .i64 5) ∧ w' = w := by
  go_enter Try.func32, Try.ntmps32
  go_wp2
  go_ret
  exact ⟨rfl, rfl⟩
theorem scheck_nil (w : World) : Calls Try.prog 32 #[.pointer none] w fun e w' => e = .returned (.int .i64 2) ∧ w' = w := by
  go_enter Try.func32, Try.ntmps32
  go_wp2
  go_ret
  exact ⟨rfl, rfl⟩
end Go.Proofs.Ytdinhnpobdfnoaa
