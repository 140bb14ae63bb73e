/- The walk of groups.nodes. -/
import Derived.Test.YthfggejdeodinaaU16
import Derived.Test.YthfggejdeodinaaV4
namespace Go.Proofs.Ythfggejdeodinaa
open Go.RowKit
set_option linter.unusedSimpArgs false
set_option linter.unusedVariables false
/-- Where a node's kids begin. -/
def stt (nodes : List (List Nat)) (i : Nat) : Nat := (nodes.take i).flatten.length
theorem stt_succ (nodes : List (List Nat)) (i : Nat) (ns : List Nat) (h : nodes[i]? = some ns) : stt nodes (i + 1) = stt nodes i + ns.length := by
  unfold stt
  rw [List.take_add_one, h]; simp
theorem ensU_get (nodes : List (List Nat)) (i : Nat) (h : i < nodes.length) : (ensU nodes)[i]? = some (stt nodes (i + 1)) := by
  unfold ensU stt
  rw [List.getElem?_map, List.getElem?_range h]; rfl
theorem stt_le (nodes : List (List Nat)) (i : Nat) : stt nodes i ≤ nodes.flatten.length := by
  unfold stt
  have : nodes.flatten.length = (nodes.take i).flatten.length + (nodes.drop i).flatten.length := by rw [← List.length_append, ← List.flatten_append, List.take_append_drop]
  omega
theorem stt_get (nodes : List (List Nat)) (i : Nat) (ns : List Nat) (h : nodes[i]? = some ns) (j : Nat) (x : Nat) (hx : ns[j]? = some x) : nodes.flatten[stt nodes i + j]? = some x := by
  have hi : i < nodes.length := (List.getElem?_eq_some_iff.1 h).1
  have hj : j < ns.length := (List.getElem?_eq_some_iff.1 hx).1
  have e : nodes = nodes.take i ++ (ns :: nodes.drop (i + 1)) := by
    conv => lhs; rw [← List.take_append_drop i nodes]
    rw [List.drop_eq_getElem_cons hi]
    have : nodes[i] = ns := by rw [List.getElem?_eq_getElem hi] at h; injection h
    rw [this]
  have e2 : nodes.flatten = (nodes.take i).flatten ++ (ns ++ (nodes.drop (i + 1)).flatten) := by
    conv => lhs; rw [e]
    rw [List.flatten_append, List.flatten_cons]
  rw [e2]
  unfold stt
  rw [List.getElem?_append_right (by omega), show (nodes.take i).flatten.length + j - (nodes.take i).flatten.length = j from by omega, List.getElem?_append_left hj]
  exact hx
/-- A node's cell. -/
def ndv (gk : Nat) (nodes : List (List Nat)) (i : Nat) : Value := .slice (some ⟨gk, stt nodes i, none⟩) (nodes.getD i []).length (nodes.getD i []).length
/-- The nodes' cells, the first k of them. -/
def ndc (gk : Nat) (nodes : List (List Nat)) (k : Nat) : Array Value := ((List.range nodes.length).map fun i => if i < k then ndv gk nodes i else .slice none 0 0).toArray
theorem ndc_size (gk : Nat) (nodes : List (List Nat)) (k : Nat) : (ndc gk nodes k).size = nodes.length := by simp [ndc]
theorem ndc_get (gk : Nat) (nodes : List (List Nat)) (k i : Nat) (h : i < nodes.length) : (ndc gk nodes k)[i]? = some (if i < k then ndv gk nodes i else .slice none 0 0) := by
  unfold ndc
  rw [List.getElem?_toArray, List.getElem?_map, List.getElem?_range h]; rfl
theorem ndc_zero (gk : Nat) (nodes : List (List Nat)) : ndc gk nodes 0 = Array.replicate nodes.length (.slice none 0 0) := by
  apply Array.ext_getElem?
  intro i
  by_cases h : i < nodes.length
  · rw [ndc_get _ _ _ _ h, Array.getElem?_replicate, if_pos h]; rfl
  · rw [Array.getElem?_eq_none (by rw [ndc_size]; omega), Array.getElem?_eq_none (by simp; omega)]
theorem ndc_succ (gk : Nat) (nodes : List (List Nat)) (k : Nat) (h : k < nodes.length) : (ndc gk nodes k).setIfInBounds k (ndv gk nodes k) = ndc gk nodes (k + 1) := by
  apply Array.ext_getElem?
  intro i
  rw [Array.getElem?_setIfInBounds, ndc_size]
  by_cases hi : i < nodes.length
  · rw [ndc_get _ _ _ _ hi, ndc_get _ _ _ _ hi]
    by_cases e : k = i
    · subst e; rw [if_pos rfl, if_pos h, if_pos (by omega)]
    · rw [if_neg e]
      by_cases c : i < k
      · rw [if_pos c, if_pos (by omega)]
      · rw [if_neg c, if_neg (by omega)]
  · rw [if_neg (by omega), Array.getElem?_eq_none (by rw [ndc_size]; omega), Array.getElem?_eq_none (by rw [ndc_size]; omega)]
theorem info_nd : (Try.prog.info? 32).map (fun i => (i.zero, i.size, i.bytes)) = some (some (.agg #[.slice none 0 0]), 1, 24) := by kernel_rfl
theorem made_nd (n : Nat) : madeCells #[Value.slice none 0 0] n = Array.replicate n (.slice none 0 0) := by
  apply Array.ext_getElem?
  intro i
  simp only [madeCells]
  by_cases hi : i < n
  · simp [hi, Nat.mod_one]
  · rw [Array.getElem?_eq_none (by simp; omega), Array.getElem?_eq_none (by simp; omega)]
theorem make_nd (n : Nat) (hn : n ≤ 1048576) (u : World) : (Instr.makeSlice 27 (.int .i64 n) (.int .i64 n)).run Try.prog u =
    .ok (.slice (some ⟨u.heap.size, 0, none⟩) n n) (u.alloc (.cells (Array.replicate n (.slice none 0 0)) 32)) := by
  obtain ⟨i0, hi, hz0, hz1, hz2⟩ := info_parts info_nd
  have h := run_make (P := Try.prog) u 27 32 i0 (.agg #[.slice none 0 0]) Try.underlying27 hi hz0 .i64 .i64 (n : Int) (n : Int) (by omega) (Int.le_refl _) (by rw [hz2]; omega) (by omega)
  rw [Int.toNat_natCast] at h
  rw [← made_nd]
  simpa [hz1, Value.cells] using h
/-- Nodes handed back. -/
structure NdR (w : World) (B gn gk : Nat) (nodes : List (List Nat)) : Prop where
  bn : Bk w gn (ndc gk nodes nodes.length) 32
  kd : nodes ≠ [] → ∃ K : Array Value, Bk w gk K 3 ∧ ∀ (j x : Nat), nodes.flatten[j]? = some x → K[j]? = some (Value.int .i64 (x : Int))
  lo : B ≤ gn ∧ (nodes ≠ [] → B ≤ gk)
set_option maxHeartbeats 4000000 in
set_option maxRecDepth 100000 in
theorem nodes_any (B gg n0 m L : Nat) (nodes : List (List Nat)) (vk ve : Value) (w : World) (h : Gr w B gg n0 m nodes [] vk ve) (hL : nodes.length = L) (hne : ∀ ns ∈ nodes, 1 ≤ ns.length) (hl : L ≤ 1048576) (hf : nodes.flatten.length ≤ 4194304) (hB : B ≤ w.heap.size) :
    Calls Try.prog 9 #[.pointer (some ⟨gg, 0, none⟩)] w fun e w' => ∃ gn gk, e = .returned (.slice (some ⟨gn, 0, none⟩) L L) ∧ NdR w' B gn gk nodes ∧ Below w.heap.size w w' := by
  have hoe := h.oe
  rw [hL] at hoe
  obtain ⟨ae, ce, hve⟩ := sl_of hoe
  have g2 : w.cell? ⟨gg, 2, none⟩ = some vk := by rw [h.bk.cell]; rfl
  have g3 : w.cell? ⟨gg, 3, none⟩ = some (.slice ae L ce) := by rw [← hve, h.bk.cell]; rfl
  have hmk := make_nd L hl w
  have HG : Hid (Gr w B gg n0 m nodes [] vk ve) := h
  have HL : Hid (nodes.length = L) := hL
  have HN : Hid (∀ ns ∈ nodes, 1 ≤ ns.length) := hne
  obtain ⟨gk, hgk⟩ : ∃ gk, nodes ≠ [] → ∃ (K : Array Value) (N c : Nat), vk = .slice (some ⟨gk, 0, none⟩) N c ∧ N = nodes.flatten.length ∧ N ≤ c ∧ B ≤ gk ∧ Bk w gk K 3 ∧ ∀ (j x : Nat), nodes.flatten[j]? = some x → K[j]? = some (Value.int .i64 (x : Int)) := by
    have hok := h.ok
    rw [List.append_nil] at hok
    rcases hok.2 with ⟨h1, h0⟩ | ⟨g, c, K, h1, h2, h3, h4, h5, h6, h7⟩
    · refine ⟨0, fun hn => ?_⟩
      exfalso
      cases hq : nodes with
      | nil => exact hn hq
      | cons a r =>
        have := hne a (by rw [hq]; simp)
        rw [hq, List.flatten_cons, List.length_append] at h0
        omega
    · refine ⟨g, fun _ => ⟨K, _, c, h1, rfl, h4, h2, h3, fun j x hx => ?_⟩⟩
      have hj : j < nodes.flatten.length := (List.getElem?_eq_some_iff.1 hx).1
      have e := congrArg (·[j]?) h7
      rw [Nat.mul_one] at e
      simp only [List.getElem?_take, if_pos hj, inv, List.getElem?_map, hx, Option.map_some] at e
      rw [← Array.getElem?_toList]; exact e
  have HK : Hid _ := hgk
  have hbl : Below w.heap.size w (w.alloc (.cells (Array.replicate L (.slice none 0 0)) 32)) := (Below.refl _ _).alloc (Nat.le_refl _) _
  have HW : Hid (Bk (w.alloc (.cells (Array.replicate L (.slice none 0 0)) 32)) w.heap.size (ndc gk nodes 0) 32 ∧ Below w.heap.size w (w.alloc (.cells (Array.replicate L (.slice none 0 0)) 32))) := ⟨by rw [ndc_zero, hL]; exact bk_new _ _ _, hbl⟩
  have ga2 : (w.alloc (.cells (Array.replicate L (.slice none 0 0)) 32)).cell? ⟨gg, 2, none⟩ = some vk := by rw [(h.bk.alloc _).cell]; rfl
  have ga3 : (w.alloc (.cells (Array.replicate L (.slice none 0 0)) 32)).cell? ⟨gg, 3, none⟩ = some (.slice ae L ce) := by rw [← hve, (h.bk.alloc _).cell]; rfl
  have HE : Hid (w.ownsRow B 3 1 ve L (inv (ensU nodes)) ∧ ve = .slice ae L ce) := ⟨hoe, hve⟩
  clear h hL hne hgk hbl hoe hve
  go_enter Try.func9, Try.ntmps9
  go_wp2
  go_loopw [4, 18] (fun x y wr => ∃ (i f : Nat), i ≤ L ∧ f ≤ 4194304 ∧ x = .int .i64 (f : Int) ∧ y = .int .i64 (i : Int) ∧ Hid (f = stt nodes i) ∧ Hid (Bk wr w.heap.size (ndc gk nodes i) 32 ∧ Below w.heap.size w wr)) (fun _ y _ => L - (intOf y).toNat)
  case atStart => exact ⟨0, 0, Nat.zero_le _, Nat.zero_le _, rfl, rfl, by show 0 = stt nodes 0; simp [stt], HW.out⟩
  case round =>
    clear HW ga2 ga3 g2 g3 hmk
    obtain ⟨i, f, hiL, hf4, rfl, rfl, HF, HW⟩ := hrel
    by_cases hlt : i < L
    · have hiz : (i : Int) < (L : Nat) := by omega
      have hi0 : (0 : Int) ≤ i := by omega
      obtain ⟨ns, hns⟩ : ∃ ns, nodes[i]? = some ns := ⟨_, List.getElem?_eq_getElem (by rw [HL.out]; exact hlt)⟩
      have hnn : nodes ≠ [] := fun e => by rw [e] at hns; simp at hns
      have h1n := HN.out ns (List.mem_of_getElem? hns)
      obtain ⟨K, N, c, hvk, hN, hNc, hBk, hbk, hkk⟩ := HK.out hnn
      subst hvk
      have hgr := HG.out.bk.below HW.out.2 HG.out.bk.lt
      have q2 : wr.cell? ⟨gg, 2, none⟩ = some (.slice (some ⟨gk, 0, none⟩) N c) := by rw [hgr.cell]; rfl
      obtain ⟨e, he⟩ : ∃ e, stt nodes (i + 1) = e := ⟨_, rfl⟩
      have hef : e = f + ns.length := by rw [← he, stt_succ nodes i ns hns, HF.out]
      have heN : e ≤ N := by rw [← he, hN]; exact stt_le _ _
      have hce : ∃ ge, ae = some ⟨ge, 0, none⟩ ∧ wr.cell? ⟨ge, i, none⟩ = some (.int .i64 (e : Int)) := by
        obtain ⟨ho, hv⟩ := HE.out
        rcases ho.2 with ⟨h1, h0⟩ | ⟨g, c, cur, h1, h2, h3, h4, h5, h6, h7⟩
        · omega
        · rw [h1] at hv
          cases hv
          refine ⟨g, rfl, ?_⟩
          have hb : Bk wr g cur 3 := Bk.below (show Bk w g cur 3 from h3) HW.out.2 (Array.getElem?_eq_some_iff.1 h3).1
          rw [hb.cell, ← Array.getElem?_toList]
          have e2 := congrArg (·[i]?) h7
          rw [Nat.mul_one] at e2
          simp only [List.getElem?_take, if_pos hlt, inv, List.getElem?_map, ensU_get nodes i (by rw [HL.out]; exact hlt), Option.map_some, he] at e2
          exact e2
      obtain ⟨ge, rfl, hce⟩ := hce
      obtain ⟨n, hn⟩ : ∃ n, e - f = n := ⟨_, rfl⟩
      have hnl : n = ns.length := by omega
      have n1 := HW.out.1.cell i
      rw [ndc_get _ _ _ _ (by rw [HL.out]; exact hlt), if_neg (by omega)] at n1
      have nf := HW.out.1.frozen i
      have HW2 : Hid (Bk (wr.setCell ⟨w.heap.size, i, none⟩ (.slice (some ⟨gk, f, none⟩) n n)) w.heap.size (ndc gk nodes (i + 1)) 32 ∧ Below w.heap.size w (wr.setCell ⟨w.heap.size, i, none⟩ (.slice (some ⟨gk, f, none⟩) n n))) := by
        refine ⟨?_, below_own HW.out.2 HW.out.2.size (Lib.grownBy_setB (World.grownBy.refl _ _) i _) (Nat.le_refl _)⟩
        have hv : Value.slice (some ⟨gk, f, none⟩) n n = ndv gk nodes i := by unfold ndv; rw [List.getD, hns, ← HF.out, hnl]; rfl
        rw [hv, ← ndc_succ gk nodes i (by rw [HL.out]; exact hlt)]
        exact HW.out.1.set i _
      have HF2 : Hid (e = stt nodes (i + 1)) := he.symm
      have hfe : (f : Int) ≤ e := by omega
      have hec : (e : Int) ≤ (c : Nat) := by omega
      have hf0 : (0 : Int) ≤ f := by omega
      have hnz : (e : Int) - f = n := by omega
      have hef2 : ¬ e = f := by omega
      clear hns hnn h1n hNc hBk hbk hkk hgr he hef hnl HW
      have he4 : e ≤ 4194304 := Nat.le_trans heN (Nat.le_trans (Nat.le_of_eq hN) hf)
      clear hN
      go_wp2
      go_roundw
      case rel => exact ⟨i + 1, e, by omega, he4, rfl, by go_num, HF2.out, HW2.out⟩
      case measure => simp [intOf]; omega
    · have hiz : ¬ (i : Int) < (L : Nat) := by omega
      have hiL2 : i = L := by omega
      subst hiL2
      have HR : Hid (NdR wr B w.heap.size gk nodes ∧ Below w.heap.size w wr) := by
        have h1 := HW.out.1
        rw [← HL.out] at h1
        refine ⟨⟨h1, fun hn => ?_, hB, fun hn => ?_⟩, HW.out.2⟩
        · obtain ⟨K, N, c, _, _, _, _, hbk, hkk⟩ := HK.out hn
          exact ⟨K, hbk.below HW.out.2 hbk.lt, hkk⟩
        · obtain ⟨K, N, c, _, _, _, hBk, _⟩ := HK.out hn
          exact hBk
      clear HW HK HG HE HF
      go_wp2
      go_ret
      exact ⟨w.heap.size, rfl, ⟨gk, HR.out.1⟩, HR.out.2⟩
end Go.Proofs.Ythfggejdeodinaa
