/- The walk of frame.All. -/
import Derived.Test.YtbfdggkoildfkaaE4
import Derived.Deep.AppendLies
import Derived.Deep.DeepAppendRoom
import Derived.WalkMore
import Derived.Laws.AppendOwn
namespace Go.Proofs.Ytbfdggkoildfkaa
open Go.RowKit
set_option linter.unusedSimpArgs false
set_option linter.unusedVariables false
theorem info_str : (Try.prog.info? 9).map (fun i => (i.zero, i.size, i.bytes)) = some (some (.string ⟨#[]⟩), 1, 16) := by kernel_rfl
/-- Texts as cells. -/
def sv (l : List ByteArray) : List Value := l.map Value.string
theorem sv_append (a b : List ByteArray) : sv (a ++ b) = sv a ++ sv b := by simp [sv]
theorem sv_length (a : List ByteArray) : (sv a).length = a.length := by simp [sv]
theorem ufR_size {s : ByteArray} (h : ufB s = true) : (ufR s).size + 8 ≤ s.size := by
  have h2 := (ufB_iff s).1 h
  rw [(uf_yes h).2.1]
  simp; omega
/-- The payloads of all frames from the front on; what stands behind them. -/
def allP (s : ByteArray) : List ByteArray := if h : ufB s = true then ufP s :: allP (ufR s) else []
termination_by s.size
decreasing_by have := ufR_size h; omega
def allR (s : ByteArray) : ByteArray := if h : ufB s = true then allR (ufR s) else s
termination_by s.size
decreasing_by have := ufR_size h; omega
theorem all_yes {s : ByteArray} (h : ufB s = true) : allP s = ufP s :: allP (ufR s) ∧ allR s = allR (ufR s) := by
  constructor
  · rw [allP, dif_pos h]
  · rw [allR, dif_pos h]
theorem all_no {s : ByteArray} (h : ufB s = false) : allP s = [] ∧ allR s = s := by
  constructor
  · rw [allP, dif_neg (by rw [h]; simp)]
  · rw [allR, dif_neg (by rw [h]; simp)]
def szOf : Value → Nat
  | .string s => s.size
  | _ => 0
theorem news_str (w : World) (a : Value) (T : TypeId) : ∀ (j : Nat) (u : Value), [a][j]? = some u → (w.alloc (.cells #[a] T)).cell? ((⟨w.heap.size, 0, none⟩ : Addr).add j) = some u := by
  intro j u h
  rw [WideShapes.add_plain, Nat.zero_add, World.cell?_alloc_new]
  simpa using h
theorem one_str (a : ByteArray) : ∀ u ∈ [Value.string a], u.oneCell' = true := by
  intro u hu
  simp at hu
  subst hu; rfl
theorem apps_below {B n : Nat} {w wr w1 : World} {o : Obj} {v : Value} {xs : List Value} {e : TypeId} (hb : Below B w wr) (hz : B ≤ wr.heap.size) (ho : wr.ownsRow B e 1 v n xs) (hg : (wr.alloc o).grownBy w1 v.ownBlock) : Below B w w1 := by
  refine (hb.alloc hz o).grown hg (by simp; omega) (fun k hk => ?_)
  rcases ho.2 with ⟨rfl, _⟩ | ⟨g, cap, cur, rfl, hle, _⟩
  · cases hk
  · simp [Value.ownBlock] at hk; omega
theorem own_below {w w1 : World} {B n : Nat} {v : Value} {xs : List Value} {e : TypeId} (ho : w.ownsRow B e 1 v n xs) (hb : Below w.heap.size w w1) : w1.ownsRow B e 1 v n xs :=
  ho.kept (grown_of_below hb none) (by cases v.ownBlock <;> simp)
set_option maxHeartbeats 400000 in
set_option maxRecDepth 100000 in
theorem all_any (s : ByteArray) (w : World) (hs : s.size ≤ maxLen) (hN : (allP s).length ≤ 4398046511104) :
    Calls Try.prog 9 #[.string s] w fun e w' => ∃ v, e = .returned (.tuple #[v, .int .i64 ((s.size : Int) - (allR s).size)]) ∧ w'.ownsRow w.heap.size 9 1 v (allP s).length (sv (allP s)) ∧ Below w.heap.size w w' := by
  have HN : Hid ((allP s).length ≤ 4398046511104) := hN
  have hs' := hs
  unfold maxLen at hs
  clear hN
  obtain ⟨i0, hi, hz0, hz1, hz2⟩ := info_parts info_str
  go_enter Try.func9, Try.ntmps9
  go_wp2
  go_step3
  go_wp2
  go_step3
  go_wp2
  go_loopw [2, 4] (fun v r wr => ∃ (ps : List ByteArray) (rest : ByteArray), r = .string rest ∧ rest.size ≤ s.size ∧ wr.ownsRow w.heap.size 9 1 v ps.length (sv ps) ∧ Below w.heap.size w wr ∧ Hid (allP s = ps ++ allP rest ∧ allR s = allR rest)) (fun _ r _ => szOf r)
  case atStart => exact ⟨[], s, rfl, Nat.le_refl _, World.ownsRow_nil _ _ _ _, Below.refl _ _, ⟨rfl, rfl⟩⟩
  case round =>
    obtain ⟨ps, rest, rfl, hrs, hown, hbel, HR⟩ := hrel
    have HO : Hid (wr.ownsRow w.heap.size 9 1 u2 ps.length (sv ps)) := hown
    have HB : Hid (Below w.heap.size w wr) := hbel
    have hz : w.heap.size ≤ wr.heap.size := hbel.size
    clear hown hbel
    go_wp2_with fail
    refine (unframe_any rest wr (by unfold maxLen; omega)).mono ?_
    rintro e w1 ⟨rfl, h1⟩
    have HO1 : Hid (w1.ownsRow w.heap.size 9 1 u2 ps.length (sv ps)) := own_below HO.out h1
    have HB1 : Hid (Below w.heap.size w w1) := HB.out.trans (h1.mono hz)
    have hzz : w.heap.size ≤ w1.heap.size := HB1.out.size
    clear h1 HO HB
    cases hB : ufB rest with
    | false =>
      rw [(uf_no hB).1, (uf_no hB).2.1, (uf_no hB).2.2]
      have HF : Hid (allP s = ps ∧ allR s = rest) := by
        obtain ⟨a, b⟩ := HR.out
        obtain ⟨c, d⟩ := all_no hB
        exact ⟨by rw [a, c, List.append_nil], by rw [b, d]⟩
      clear hB HR
      go_wp2
      try rw [Exit.noGoto_ret]
      go_ret2
      refine ⟨u2, by rw [HF.out.2]; rfl, ?_, HB1.out⟩
      rw [HF.out.1]; exact HO1.out
    | true =>
      rw [(uf_yes hB).2.2]
      have HF : Hid (allP s = (ps ++ [ufP rest]) ++ allP (ufR rest) ∧ allR s = allR (ufR rest)) := by
        obtain ⟨a, b⟩ := HR.out
        obtain ⟨c, d⟩ := all_yes hB
        exact ⟨by rw [a, c]; simp, by rw [b, d]⟩
      have hlen : ps.length + 1 ≤ 4398046511104 := by
        have h := HN.out
        rw [HF.out.1] at h
        simp at h
        omega
      obtain ⟨p, hp⟩ : ∃ p, p = ufP rest := ⟨_, rfl⟩
      obtain ⟨r, hr⟩ : ∃ r, r = ufR rest := ⟨_, rfl⟩
      have hrz : r.size + 8 ≤ rest.size := by rw [hr]; exact ufR_size hB
      rw [← hp, ← hr] at HF
      rw [← hp, ← hr]
      clear hB HR hp hr
      go_wp2_with (at_builtin; refine wpList_append_own _ rfl _ _ 28 rfl w.heap.size 9 i0 (.string ⟨#[]⟩) 1 16 Try.underlying28 hi hz0 hz1 hz2 rfl (by decide) _ _ _ rfl (HO1.out.alloc _) ⟨w1.heap.size, 0, none⟩ 1 1 [.string p] rfl rfl ?c1 ?c2 ?c3 ?c4 ?c5 ?_)
      case c1 => exact news_str _ _ _
      case c2 => exact one_str _
      case c3 => unfold maxLen; omega
      case c4 => omega
      case c5 => simp; omega
      intro v' w7 hown1 hgrow _
      have HO7 : Hid (w7.ownsRow w.heap.size 9 1 v' (ps ++ [p]).length (sv (ps ++ [p]))) := by
        show w7.ownsRow w.heap.size 9 1 v' (ps ++ [p]).length (sv (ps ++ [p]))
        rw [sv_append, List.length_append]; exact hown1
      have HB7 : Hid (Below w.heap.size w w7) := apps_below HB1.out hzz HO1.out hgrow
      clear hown1 hgrow HO1
      go_wp2
      go_roundw
      case rel => exact ⟨ps ++ [p], r, rfl, by omega, HO7.out, HB7.out, HF.out⟩
      case measure => simp [szOf]; omega
end Go.Proofs.Ytbfdggkoildfkaa
