/- A splitter in memory; the walks of Splitter.check, release, and of what Write holds by. -/
import Derived.Test.YtdinhnpobdfnoaaU5
import Derived.Test.YtdinhnpobdfnoaaS0A
import Derived.Lib.AppendStr
import Derived.Deep.RegionLaw
import Derived.Laws.ResultCell
import Derived.Laws.IdiomStrings
namespace Go.Proofs.Ytdinhnpobdfnoaa
open Go.RowKit
set_option linter.unusedSimpArgs false
set_option linter.unusedVariables false
/-- Bytes as cells. -/
def byv (l : List UInt8) : List Value := l.map fun x => Value.int .u8 (x.toNat : Int)
theorem byv_app (a b : List UInt8) : byv (a ++ b) = byv a ++ byv b := by simp [byv]
theorem byv_len (a : List UInt8) : (byv a).length = a.length := by simp [byv]
theorem byv_str (t : ByteArray) : Lib.strCells t = byv (tby t) := rfl
theorem inf_u8 : (Try.prog.info? 5).map (fun i => (i.zero, i.size, i.bytes)) = some (some (.int .u8 0), 1, 1) := by kernel_rfl
/-- A text's bytes appended to a row of one's own, and where it lies. -/
theorem app_str (w : World) (B n : Nat) (v : Value) (xs : List Value) (ho : w.ownsRow B 5 1 v n xs) (s : ByteArray) (hn : n + s.size ≤ 4194304) (hB : B ≤ w.heap.size) :
    ∃ v' w', (Builtin.append_ #[71, 9] 71 #[v, .string s]).run Try.prog w = .ok v' w' ∧ w'.ownsRow B 5 1 v' (n + s.size) (xs ++ Lib.strCells s) ∧ w.grownBy w' v.ownBlock ∧ (v'.ownBlock = v.ownBlock ∨ v'.ownBlock = some w.heap.size) := by
  obtain ⟨i0, hi, hz0, hz1, hz2⟩ := info_parts inf_u8
  obtain ⟨v', w', hr, h1, h2, h3⟩ := Lib.run_append_own_string (P := Try.prog) w B 71 9 71 5 i0 Try.underlying71 Try.underlying9 hi hz0 hz1 hz2 v n xs ho s (by unfold maxLen; omega) (by omega) hB
  refine ⟨v', w', hr, h1, h2, ?_⟩
  rcases ho.2 with ⟨rfl, rfl⟩ | ⟨g, cap, cur, rfl, hbg, hg, hnc, hcm, hcs, htake⟩
  · by_cases hm : s.size = 0
    · rw [h3.2 ⟨rfl, hm⟩]; exact .inl rfl
    · have hr2 := run_append_nil_string (P := Try.prog) w 71 9 71 5 i0 (.int .u8 0) Try.underlying71 Try.underlying9 hi hz0 s (by omega) (by omega) (by rw [hz2]; omega)
      rw [hr] at hr2
      injection hr2 with e1 e2
      rw [e1]; exact .inr rfl
  · have hxl : xs.length = n := by simpa using ho.1
    by_cases hroom : n + s.size ≤ cap
    · have hcs' : cur.size = cap := by simpa using hcs
      have hr2 := Lib.run_append_room_string (P := Try.prog) w 71 9 71 5 i0 Try.underlying71 Try.underlying9 hi hz1 g n cap cur hg s hroom (by omega)
      rw [hr] at hr2
      injection hr2 with e1 e2
      rw [e1]; exact .inl rfl
    · have holds : ∀ j u, xs[j]? = some u → w.cell? ((⟨g, 0, none⟩ : Addr).add j) = some u := ho.cells (g := g) rfl
      have hr2 := Lib.run_append_grow_string (P := Try.prog) w 71 9 71 5 i0 (.int .u8 0) Try.underlying71 Try.underlying9 hi hz0 ⟨g, 0, none⟩ n cap xs (by rw [hz1]; simpa using hxl) holds s (by omega) (by omega) (by rw [hz2]; exact growslice_fits (by omega) (by omega))
      rw [hr] at hr2
      injection hr2 with e1 e2
      rw [e1]; exact .inr rfl
theorem own_text {w : World} {base n : Nat} {v : Value} {l : List UInt8} (h : w.ownsRow base 5 1 v n (byv l)) :
    (convert 71 9 v).run Try.prog w = .ok (.string ⟨l.toArray⟩) w := by
  obtain ⟨hl, h⟩ := h
  have hll : l.length = n := by rw [byv_len] at hl; simpa using hl
  subst hll
  rcases h with ⟨rfl, h0⟩ | ⟨g, cap, cur, rfl, _, hg, hn, _, hc, ht⟩
  · have : l = [] := List.eq_nil_of_length_eq_zero h0
    subst this
    exact run_convert_bytes_nil w 71 5 Try.underlying71 Try.underlying5 0 0 9 Try.underlying9
  · refine run_convert_bytes_back w 71 9 5 ⟨g, 0, none⟩ cap l Try.underlying71 Try.underlying5 Try.underlying9 (fun j hj => ?_)
    have hb : Bk w g cur 5 := hg
    rw [WideShapes.add_plain, Nat.zero_add, hb.cell, ← Array.getElem?_toList]
    have e := congrArg (·[j]?) ht
    rw [Nat.mul_one] at e
    simp only [List.getElem?_take, if_pos hj, byv, List.getElem?_map, List.getElem?_eq_getElem hj, Option.map_some] at e
    exact e
/-- All but some blocks, and new ones, are as they were. -/
structure Kb (w w' : World) (fs : List Nat) : Prop where
  os : w'.os = w.os
  tape : w'.tape = w.tape
  output : w'.output = w.output
  size : w.heap.size ≤ w'.heap.size
  block : ∀ b, b < w.heap.size → b ∉ fs → w'.heap[b]? = w.heap[b]?
theorem Kb.refl (w : World) (fs : List Nat) : Kb w w fs := ⟨rfl, rfl, rfl, Nat.le_refl _, fun _ _ _ => rfl⟩
theorem Kb.step {w0 w w' : World} {fs : List Nat} {b : Option Nat} (h : Kb w0 w fs) (hg : w.grownBy w' b) (hb : ∀ i, b = some i → i ∈ fs ∨ w0.heap.size ≤ i) : Kb w0 w' fs :=
  ⟨by rw [hg.os, h.os], by rw [hg.tape, h.tape], by rw [hg.output, h.output], Nat.le_trans h.size hg.size, fun i hi hn => by
    rw [hg.block i (Nat.lt_of_lt_of_le hi h.size) (fun e => ?_), h.block i hi hn]
    rcases hb i e.symm with q | q
    · exact hn q
    · omega⟩
theorem Kb.bk {w w' : World} {fs : List Nat} (h : Kb w w' fs) {b : Nat} {C : Array Value} {T : TypeId} (hb : Bk w b C T) (hn : b ∉ fs) : Bk w' b C T := by
  unfold Bk
  rw [h.block b hb.lt hn]; exact hb
theorem Kb.below {w0 w w' : World} {B : Nat} {fs : List Nat} (h : Kb w w' fs) (hb : Below B w0 w) (hz : B ≤ w.heap.size) (hf : ∀ b ∈ fs, B ≤ b) : Below B w0 w' :=
  ⟨by rw [h.os, hb.os], by rw [h.tape, hb.tape], by rw [h.output, hb.output], Nat.le_trans hb.size h.size, fun i hi => by rw [h.block i (by omega) (fun hm => by have := hf i hm; omega), hb.block i hi]⟩
theorem set8 {C : Array Value} (h8 : C.size = 8) (v : Value) (j : Nat) : (C.setIfInBounds 6 v)[j]? = if j = 6 then some v else C[j]? := by
  rw [Array.getElem?_setIfInBounds]
  by_cases e : j = 6
  · subst e; rw [if_pos rfl, if_pos (by omega), if_pos rfl]
  · rw [if_neg (fun c => e c.symm), if_neg e]
theorem inf_piece : (Try.prog.info? 58).map (·.size) = some 2 := by kernel_rfl
set_option maxHeartbeats 2000000 in
set_option maxRecDepth 100000 in
theorem release_any (B g lv : Nat) (C : Array Value) (vh : Value) (hd : List UInt8) (w : World) (hb : Bk w g C 91) (h8 : C.size = 8) (h6 : C[6]? = some vh) (ho : w.ownsRow B 5 1 vh hd.length (byv hd)) :
    Calls Try.prog 35 #[.pointer (some ⟨g, 0, none⟩), .int .i64 (lv : Int)] w fun e w' => ∃ vh', e = .returned (.agg #[.string ⟨hd.toArray⟩, .int .i64 (lv : Int)]) ∧ Bk w' g (C.setIfInBounds 6 vh') 91 ∧ w'.ownsRow B 5 1 vh' 0 [] ∧ vh'.ownBlock = vh.ownBlock ∧ w.grownBy w' (some g) := by
  have c6 : w.cell? ⟨g, 6, none⟩ = some vh := by rw [hb.cell]; exact h6
  have HB : Hid (Bk w g C 91) := hb
  have HO : Hid (w.ownsRow B 5 1 vh hd.length (byv hd)) := ho
  have hlt := hb.lt
  obtain ⟨n, hn⟩ : ∃ n, hd.length = n := ⟨_, rfl⟩
  obtain ⟨a, c, rfl, _⟩ : ∃ a c, vh = .slice a n c ∧ n ≤ c := by
    rcases ho.2 with ⟨h1, h0⟩ | ⟨g', cap, cur, h1, _, _, h2, _⟩
    · exact ⟨none, 0, by rw [h1, ← hn, h0], by omega⟩
    · exact ⟨_, _, by rw [h1, hn], by omega⟩
  have hcv : ∀ u : World, Bk u g C 91 → (convert 71 9 (.slice a n c)).run Try.prog (w.alloc (.cells #[.string ⟨#[]⟩, .int .i64 0] 58)) = .ok (.string ⟨hd.toArray⟩) (w.alloc (.cells #[.string ⟨#[]⟩, .int .i64 0] 58)) := fun _ _ => own_text (ho.alloc _)
  have hcv := hcv w hb
  have f6 := hb.frozen 6
  clear hb ho h6
  go_enter Try.func35, Try.ntmps35
  go_wp2
  have hbs := HB.out.set 6 (.slice a 0 c)
  have hR : Bk (((w.setCell ⟨g, 6, none⟩ (.slice a 0 c)).alloc (Obj.cells #[.string ⟨hd.toArray⟩, .int .i64 (lv : Int)] 58)).alloc (Obj.cells #[.string ⟨hd.toArray⟩, .int .i64 (lv : Int)] 58)) w.heap.size #[.string ⟨hd.toArray⟩, .int .i64 (lv : Int)] 58 := by
    have h := (bk_new (w.setCell ⟨g, 6, none⟩ (.slice a 0 c)) #[.string ⟨hd.toArray⟩, .int .i64 (lv : Int)] 58).alloc (Obj.cells #[.string ⟨hd.toArray⟩, .int .i64 (lv : Int)] 58)
    rwa [show (w.setCell ⟨g, 6, none⟩ (.slice a 0 c)).heap.size = w.heap.size from by simp [World.setCell]] at h
  refine bodyPost_ret (results_cell_row rfl _ _ w.heap.size 58 #[.string ⟨hd.toArray⟩, .int .i64 (lv : Int)] (0, 0) _ rfl hR Try.underlying58 rfl inf_piece) rfl ⟨.slice a 0 c, rfl, (hbs.alloc _).alloc _, ?_, ?_, ?_⟩
  · refine ⟨rfl, ?_⟩
    rcases HO.out.2 with ⟨h1, h0⟩ | ⟨g', cap, cur, h1, h2, h3, h4, h5, h6, h7⟩
    · cases h1; exact .inl ⟨rfl, rfl⟩
    · cases h1
      refine .inr ⟨g', c, cur, rfl, h2, ?_, Nat.zero_le _, h5, h6, by simp⟩
      exact ((kp_set (ts := [91]) HB.out (by decide) 6 _ _ _ _ (by decide) (show Bk w g' cur 5 from h3)).alloc _).alloc _
  · cases a <;> rfl
  · exact ((Lib.grownBy_setB (World.grownBy.refl _ _) 6 _).trans (World.grownBy_alloc _ _ _)).trans (World.grownBy_alloc _ _ _)
/-- A splitter at work: the cells of its cutter are left open. -/
structure SpX (w : World) (B g : Nat) (hd : List UInt8) (tk : Nat) (C : Array Value) (vh : Value) : Prop where
  bk : Bk w g C 91
  c8 : C.size = 8
  c0 : C[0]? = some (.bool true)
  c6 : C[6]? = some vh
  c7 : C[7]? = some (.int .i64 (tk : Int))
  own : w.ownsRow B 5 1 vh hd.length (byv hd)
/-- What lies there while a splitter takes a text. -/
structure WS (w0 : World) (B : Nat) (fs : List Nat) (gx gs gf g : Nat) (s : ByteArray) (tk : Nat) (fr : Nat) (hd : List UInt8) (w : World) : Prop where
  bx : Bk w gx #[.pointer (some ⟨g, 0, none⟩)] 40
  bs : Bk w gs #[.string s] 9
  bf : Bk w gf #[.int .i64 (fr : Int)] 3
  sp : ∃ C vh, SpX w B g hd tk C vh ∧ (∀ b, vh.ownBlock = some b → b ∈ fs ∨ w0.heap.size ≤ b)
  kb : Kb w0 w fs
  low : g ∈ fs ∧ B ≤ w0.heap.size ∧ w0.heap.size ≤ gf
set_option maxHeartbeats 2000000 in
set_option maxRecDepth 100000 in
theorem hold_any (w0 : World) (B : Nat) (fs : List Nat) (gx gs gf g : Nat) (s : ByteArray) (tk fr en : Nat) (hd : List UInt8) (w : World) (h : WS w0 B fs gx gs gf g s tk fr hd w) (he : fr ≤ en) (hen : en ≤ s.size) (hs : s.size ≤ 1048576) (hn : hd.length ≤ 1048576) :
    Calls Try.prog 33 #[.int .i64 (en : Int), .pointer (some ⟨gx, 0, none⟩), .pointer (some ⟨gs, 0, none⟩), .pointer (some ⟨gf, 0, none⟩)] w fun e w' => e = .returned (.tuple #[]) ∧ WS w0 B fs gx gs gf g s tk en (hd ++ ((tby s).take en).drop fr) w' ∧ Kp [91, 5, 3] w w' ∧ (∀ j, j ≠ 6 → w'.cell? ⟨g, j, none⟩ = w.cell? ⟨g, j, none⟩) := by
  obtain ⟨C, vh, hsp, hvb⟩ := h.sp
  have cx : w.cell? ⟨gx, 0, none⟩ = some (.pointer (some ⟨g, 0, none⟩)) := by rw [h.bx.cell]; rfl
  have cs : w.cell? ⟨gs, 0, none⟩ = some (.string s) := by rw [h.bs.cell]; rfl
  have cf : w.cell? ⟨gf, 0, none⟩ = some (.int .i64 (fr : Int)) := by rw [h.bf.cell]; rfl
  have c6 : w.cell? ⟨g, 6, none⟩ = some vh := by rw [hsp.bk.cell]; exact hsp.c6
  obtain ⟨t, ht⟩ : ∃ t, s.extract fr en = t := ⟨_, rfl⟩
  have htb : tby t = ((tby s).take en).drop fr := by
    rw [← ht]
    show (s.extract fr en).data.toList = _
    rw [ByteArray.data_extract, Array.toList_extract, List.extract_eq_take_drop, List.drop_take]
  have hts : t.size = en - fr := by rw [← tby_len, htb, List.length_drop, List.length_take, tby_len]; omega
  have hz : B ≤ w.heap.size := Nat.le_trans h.low.2.1 h.kb.size
  obtain ⟨v', w7, hrun, hown, hgrow, hat⟩ := app_str w.drew B hd.length vh (byv hd) hsp.own t (by omega) hz
  obtain ⟨a7, n7, k7, hv7⟩ : ∃ a n c, v' = .slice a n c := by
    rcases hown.2 with ⟨h1, _⟩ | ⟨_, _, _, h1, _⟩
    · exact ⟨_, _, _, h1⟩
    · exact ⟨_, _, _, h1⟩
  subst hv7
  have hK7 : Kp [5] w w7 := kp_own (w := w.drew) hsp.own (by decide) hgrow
  have hG7 : w.grownBy w7 vh.ownBlock := (gr_drewN w 1 _).trans hgrow
  have b7 : Bk w7 g C 91 := hK7 _ _ _ (by decide) hsp.bk
  have d6 : w7.cell? ⟨g, 6, none⟩ = some vh := by rw [b7.cell]; exact hsp.c6
  have f6 := b7.frozen 6
  have b8 := b7.set 6 (.slice a7 n7 k7)
  have bf7 : Bk w7 gf #[.int .i64 (fr : Int)] 3 := hK7 _ _ _ (by decide) h.bf
  have hK8 := kp_set (ts := [91]) b7 (by decide) 6 (.slice a7 n7 k7)
  have bf8 := hK8 _ _ _ (by decide) bf7
  have ff : (w7.setCell ⟨g, 6, none⟩ (.slice a7 n7 k7)).frozen? ⟨gf, 0, none⟩ = false := bf8.frozen 0
  have cf8 : (w7.setCell ⟨g, 6, none⟩ (.slice a7 n7 k7)).cell? ⟨gf, 0, none⟩ = some (.int .i64 (fr : Int)) := by rw [bf8.cell]; rfl
  have hK9 := kp_set (ts := [3]) bf8 (by decide) 0 (.int .i64 (en : Int))
  have cx7 : w7.cell? ⟨gx, 0, none⟩ = some (.pointer (some ⟨g, 0, none⟩)) := by rw [(hK7 _ _ _ (by decide) h.bx).cell]; rfl
  have HF : Hid (WS w0 B fs gx gs gf g s tk en (hd ++ ((tby s).take en).drop fr) ((w7.setCell ⟨g, 6, none⟩ (.slice a7 n7 k7)).setCell ⟨gf, 0, none⟩ (.int .i64 (en : Int))) ∧ Kp [91, 5, 3] w ((w7.setCell ⟨g, 6, none⟩ (.slice a7 n7 k7)).setCell ⟨gf, 0, none⟩ (.int .i64 (en : Int))) ∧ (∀ j, j ≠ 6 → ((w7.setCell ⟨g, 6, none⟩ (.slice a7 n7 k7)).setCell ⟨gf, 0, none⟩ (.int .i64 (en : Int))).cell? ⟨g, j, none⟩ = w.cell? ⟨g, j, none⟩)) := by
    have b9 := hK9 _ _ _ (by decide) b8
    refine ⟨⟨hK9 _ _ _ (by decide) (hK8 _ _ _ (by decide) (hK7 _ _ _ (by decide) h.bx)), hK9 _ _ _ (by decide) (hK8 _ _ _ (by decide) (hK7 _ _ _ (by decide) h.bs)), bf8.set 0 _, ⟨_, .slice a7 n7 k7, ⟨b9, by simpa using hsp.c8, ?_, ?_, ?_, ?_⟩, ?_⟩, ?_, h.low⟩, ?_, ?_⟩
    · rw [set8 hsp.c8]; exact hsp.c0
    · rw [set8 hsp.c8]; rfl
    · rw [set8 hsp.c8]; exact hsp.c7
    · rw [← htb, byv_app, List.length_append, tby_len]
      exact own_kp (own_kp hown (by decide) hK8) (by decide) hK9
    · intro b hb
      rcases hat with e | e
      · rw [e] at hb; exact hvb b hb
      · rw [e] at hb; cases hb; exact .inr h.kb.size
    · refine Kb.step (b := some gf) (Kb.step (b := some g) (Kb.step h.kb hG7 hvb) (Lib.grownBy_setB (World.grownBy.refl _ _) 6 _) (fun i hi => by cases hi; exact .inl h.low.1)) (Lib.grownBy_setB (World.grownBy.refl _ _) 0 _) (fun i hi => by cases hi; exact .inr h.low.2.2)
    · exact ((hK7.mono (by simp)).trans (hK8.mono (by simp))).trans (hK9.mono (by simp))
    · intro j hj
      rw [b9.cell, set8 hsp.c8, if_neg hj, hsp.bk.cell]
  have HR : Hid ((Builtin.append_ #[71, 9] 71 #[vh, .string t]).run Try.prog w.drew = .ok (.slice a7 n7 k7) w7) := hrun
  have hez : (en : Int) ≤ s.size := by omega
  have hfz : (fr : Int) ≤ en := by omega
  have h0z : (0 : Int) ≤ fr := by omega
  clear hrun hown hgrow hat hK7 hG7 b7 b8 bf7 hK8 bf8 hK9 hsp hvb h htb hts
  go_enter Try.func33, Try.ntmps33
  go_wp2
  go_region_law (first
    | (refine step_app_run (by rfl) _ _ _ _ (by rfl) vh (.string t) (.slice a7 n7 k7) w7 (by rfl) (by rfl) HR.out ?_)
    | fail)
  all_goals
    (first | go_wp2 | skip)
    go_end0
    exact ⟨rfl, HF.out⟩
end Go.Proofs.Ytdinhnpobdfnoaa
