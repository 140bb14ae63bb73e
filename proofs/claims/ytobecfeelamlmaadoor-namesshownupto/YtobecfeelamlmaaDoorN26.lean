/- names.Read. -/
import Derived.Test.YtobecfeelamlmaaDoorN25
namespace Go.Proofs.YtobecfeelamlmaaDoor
open Go.RowKit
set_option linter.unusedSimpArgs false
set_option linter.unusedVariables false
/-- What Read answers: the text, or nothing. -/
def RdE (s : ByteArray) (e : Ending) : Prop := (∃ t : ByteArray, e = .returned (.tuple #[.string t, .int .i64 0]) ∧ s.data.toList = sh t.data.toList ∧ t.size ≤ 4 * s.size + 4 ∧ ∀ x, s.data.toList = sh x → x = t.data.toList) ∨
  (e = .returned (.tuple #[.string ⟨#[]⟩, .int .i64 4]) ∧ ∀ x, s.data.toList ≠ sh x)
def sLg (v : Value) : Nat := match v with
  | .string s => s.size
  | _ => 0
theorem list_ba (l : List UInt8) : (⟨l.toArray⟩ : ByteArray).data.toList = l := by simp
theorem size_ba (l : List UInt8) : (⟨l.toArray⟩ : ByteArray).size = l.length := by simp [ByteArray.size]
theorem nil_iff (t : ByteArray) : t.data.toList = [] ↔ t.size = 0 := by
  rw [← data_len]; exact List.length_eq_zero_iff.symm
theorem ba_ext {s t : ByteArray} (h : s.data.toList = t.data.toList) : s = t := by
  apply ByteArray.ext
  exact Array.toList_inj.1 h
theorem ne_empty (t : ByteArray) (h : 0 < t.size) : (t.toList == []) = false := by
  rw [Lib.toList_data, beq_eq_false_iff_ne]
  intro e
  have := (nil_iff t).1 e
  omega
theorem tl_eq {s t : ByteArray} (h : s = t) : (s.toList == t.toList) = true := by rw [h]; simp
theorem tl_ne {s t : ByteArray} (h : ¬ s = t) : (s.toList == t.toList) = false := by
  rw [Lib.toList_data, Lib.toList_data, beq_eq_false_iff_ne]
  exact fun e => h (ba_ext e)
set_option maxHeartbeats 1000000 in
set_option maxRecDepth 100000 in
theorem read_any (s : ByteArray) (w : World) (hs : s.size ≤ 1099511627776) (hE : Er w) (hT : Tz w) :
    Calls Tryd.prog 5 #[.string s] w fun e w' => RdE s e ∧ Below w.heap.size w w' := by
  have HE : Hid (Er w ∧ Tz w) := ⟨hE, hT⟩
  have hTz : 7 < w.heap.size := hT.2
  clear hE hT
  go_enter Tryd.func5, Tryd.ntmps5
  go_wp2_with fail
  go_loopw [5] (fun v5 wr => ∃ (t : ByteArray) (pre : List UInt8), v5 = .string t ∧ Hid (Bld w.heap.size w.heap.size pre wr) ∧ Hid (Below w.heap.size w wr) ∧ pre.length + 4 * t.size ≤ 4 * s.size ∧ Hid (Way s.data.toList pre t.data.toList)) (fun v5 wr => sLg v5)
  case atStart =>
    exact ⟨s, [], rfl, fresh_bld w, (Below.refl _ w).alloc (Nat.le_refl _) _, by simp, way_start _⟩
  case round =>
    obtain ⟨t, pre, rfl, H1, HB, hsz, HW⟩ := hrel
    have hz : w.heap.size ≤ wr.heap.size := HB.out.size
    by_cases h0 : 0 < t.size
    · have hne := ne_empty t h0
      have htk := take_any t wr h0 (by omega) (HE.out.1.below HB.out HE.out.1.lt.1 HE.out.1.lt.2)
      go_wp2_with fail
      refine htk.mono ?_
      clear htk
      rintro e w1 ⟨⟨p, b, ok, rfl, hp4, hbs, htak⟩, hb1⟩
      have HB1 : Hid (Below w.heap.size w w1) := HB.out.trans (hb1.mono hz)
      have H2 : Hid (Bld w.heap.size w.heap.size pre w1) := bld_keep H1.out hb1
      have hz1 : w.heap.size ≤ w1.heap.size := HB1.out.size
      have hl0 : t.data.toList ≠ [] := fun e => by have := (nil_iff t).1 e; omega
      cases ok with
      | false =>
        have HN : Hid (∀ x, s.data.toList ≠ sh x) := way_stop HW.out hl0 htak
        clear htak hb1
        go_wp2
        go_ret2
        exact ⟨.inr ⟨rfl, HN.out⟩, HB1.out⟩
      | true =>
        have HW2 : Hid (Way s.data.toList (pre ++ p.data.toList) b.data.toList) := way_step HW.out hl0 htak
        clear htak hb1 HW
        go_wp2_with fail
        refine (writeS _ _ pre p _ H2.out (by omega) hz1).mono ?_
        rintro e w3 ⟨rfl, hB3, hb3, ho3⟩
        have HB3 : Hid (Bld w.heap.size w.heap.size (pre ++ p.data.toList) w3) := hB3
        have HW3 : Hid (Below w.heap.size w w3) := HB1.out.trans hb3
        clear hB3 hb3 ho3
        go_wp2
        go_roundw
        case rel => exact ⟨b, pre ++ p.data.toList, rfl, HB3.out, HW3.out, by rw [List.length_append, data_len]; omega, HW2.out⟩
        case measure => show b.size < t.size; exact hbs
    · obtain rfl := empty_of t (by omega)
      have HW2 : Hid (Way s.data.toList pre []) := HW.out
      have hpl : pre.length ≤ 4 * s.size := by omega
      clear HW
      go_wp2_with (go_at_call 17; refine (buildS w.heap.size w.heap.size pre wr H1.out hz).mono ?_; rintro e w2 ⟨rfl, h2, hb2, _⟩; have HB2 : Hid (Below w.heap.size w w2) := HB.out.trans hb2; clear h2 hb2)
      obtain ⟨U, hU⟩ : ∃ U : ByteArray, (⟨pre.toArray⟩ : ByteArray) = U := ⟨_, rfl⟩
      have hUl : U.data.toList = pre := by rw [← hU]
      have hUs : U.size = pre.length := by rw [← hU]; exact size_ba pre
      have hsh := show_any U w2 (by omega) (HE.out.2.below HB2.out hTz)
      rw [hUl] at hsh
      rw [hU]
      have HUL : Hid (U.data.toList = pre) := hUl
      obtain ⟨V, hV⟩ : ∃ V : ByteArray, (⟨(sh pre).toArray⟩ : ByteArray) = V := ⟨_, rfl⟩
      rw [hV] at hsh
      have HV : Hid (V.data.toList = sh pre) := by rw [← hV]; exact list_ba _
      clear hU hUl hV
      go_wp2_with fail
      refine hsh.mono ?_
      clear hsh
      rintro e w3 ⟨rfl, hb3⟩
      have HB3 : Hid (Below w.heap.size w w3) := HB2.out.trans (hb3.mono HB2.out.size)
      clear hb3
      by_cases hv : V = s
      · have HVS : Hid (V = s) := hv
        have hv2 := tl_eq hv
        clear hv
        go_wp2
        go_ret2
        refine ⟨.inl ⟨U, rfl, ?_, by omega, ?_⟩, HB3.out⟩
        · rw [HUL.out, ← HV.out, HVS.out]
        · intro x hx; rw [HUL.out]; exact way_end HW2.out x hx
      · have HVS : Hid (¬ V = s) := hv
        have hv2 := tl_ne hv
        clear hv
        go_wp2
        go_ret2
        exact ⟨.inr ⟨rfl, way_unlike HW2.out (fun e => HVS.out (ba_ext (HV.out.trans e)))⟩, HB3.out⟩
end Go.Proofs.YtobecfeelamlmaaDoor
