/- The walk of munimentlaw04.NamesShown. -/
import Derived.Test.YtobecfeelamlmaaDoorN26
import Derived.Test.YtobecfeelamlmaaDoorN28
import Derived.Test.YtobecfeelamlmaaDoorN29
import Derived.Test.YtobecfeelamlmaaDoorN7
import Derived.Test.YtobecfeelamlmaaDoorN17
namespace Go.Proofs.YtobecfeelamlmaaDoor
open Go.RowKit
set_option linter.unusedSimpArgs false
set_option linter.unusedVariables false
theorem rd_same {s : ByteArray} {e1 e2 : Ending} (h1 : RdE s e1) (h2 : RdE s e2) : e1 = e2 := by
  rcases h1 with ⟨t, rfl, ht, _, hu⟩ | ⟨rfl, hn⟩
  · rcases h2 with ⟨t2, rfl, ht2, _, hu2⟩ | ⟨_, hn2⟩
    · have : t = t2 := ba_ext (hu2 _ ht)
      rw [this]
    · exact absurd ht (hn2 _)
  · rcases h2 with ⟨t2, _, ht2, _, _⟩ | ⟨rfl, _⟩
    · exact absurd ht2 (hn _)
    · rfl
set_option maxHeartbeats 2000000 in
set_option maxRecDepth 100000 in
theorem shown_walk (s t p : ByteArray) (w : World) (hs : s.size ≤ 1048576) (ht : t.size ≤ 1048576) (hp : p.size ≤ 1048576) (hT : U8 w) (hz : Tz w) (hE : Er w) :
    Calls Tryd.prog 3 #[.string s, .string t, .string p] w fun e w' => e = .returned (.bool true) ∧ Below w.heap.size w w' := by
  have hTz : 7 < w.heap.size := hz.2
  have HT : Hid (U8 w ∧ Er w ∧ Tz w) := ⟨hT, hE, hz⟩
  clear hT hE hz
  obtain ⟨V, hV⟩ : ∃ V : ByteArray, (⟨(sh s.data.toList).toArray⟩ : ByteArray) = V := ⟨_, rfl⟩
  obtain ⟨U, hU⟩ : ∃ U : ByteArray, (⟨(sh t.data.toList).toArray⟩ : ByteArray) = U := ⟨_, rfl⟩
  obtain ⟨B, hB⟩ : ∃ B, mtB p.data.toList s.data.toList = B := ⟨_, rfl⟩
  obtain ⟨E, hEE⟩ : ∃ E, mtE p.data.toList s.data.toList = E := ⟨_, rfl⟩
  have c1 := fun W (h : Below w.heap.size w W) => read_any t W (by omega) (HT.out.2.1.below h HT.out.2.1.lt.1 HT.out.2.1.lt.2) (HT.out.2.2.below h hTz)
  have c2 := fun W (h : Below w.heap.size w W) => rRead_any t W ht (HT.out.1.below h) (HT.out.2.2.below h hTz)
  have c3 := fun W (h : Below w.heap.size w W) => match_any p s W (by omega) (by omega) (HT.out.1.below h)
  have c4 := fun W (h : Below w.heap.size w W) => rmatch_any p s W (by omega) (by omega) (HT.out.1.below h)
  have c5 := fun W (h : Below w.heap.size w W) => show_any s W (by omega) (HT.out.2.2.below h hTz)
  have c6 := fun W (h : Below w.heap.size w W) => rShow_any s W (by omega) (HT.out.1.below h) (HT.out.2.2.below h hTz)
  have c7 := fun W (h : Below w.heap.size w W) => show_any t W (by omega) (HT.out.2.2.below h hTz)
  have c8 := fun W (h : Below w.heap.size w W) => rShow_any t W (by omega) (HT.out.1.below h) (HT.out.2.2.below h hTz)
  have c9 := fun W (h : Below w.heap.size w W) => awake4 W (HT.out.1.below h)
  rw [hB, hEE] at c3 c4
  rw [hV] at c5 c6
  rw [hU] at c7 c8
  have C1 : Hid _ := c1
  have C2 : Hid _ := c2
  have C3 : Hid _ := c3
  have C4 : Hid _ := c4
  have C5 : Hid _ := c5
  have C6 : Hid _ := c6
  have C7 : Hid _ := c7
  have C8 : Hid _ := c8
  have C9 : Hid _ := c9
  clear c1 c2 c3 c4 c5 c6 c7 c8 c9 hV hU hB hEE
  have hVV := tl_eq (rfl : V = V)
  have hUU := tl_eq (rfl : U = U)
  go_enter Tryd.func3, Tryd.ntmps3
  go_wp2_with fail
  refine Calls.mono (C1.out _ (Below.refl _ _)) ?_
  rintro e w1 ⟨hA, hb⟩
  have H1 : Hid (Below w.heap.size w w1) := hb
  clear hb
  have HA2 : Hid (∀ e2, RdE t e2 → e2 = e) := fun e2 h2 => rd_same h2 hA
  obtain ⟨X, k, rfl⟩ : ∃ (X : ByteArray) (k : Nat), e = .returned (.tuple #[.string X, .int .i64 (k : Int)]) := by
    rcases hA with ⟨T, h, _⟩ | ⟨h, _⟩
    · exact ⟨T, 0, h⟩
    · exact ⟨⟨#[]⟩, 4, h⟩
  clear hA
  have hXX := tl_eq (rfl : X = X)
  go_wp2_with fail
  refine Calls.mono (C2.out _ H1.out) ?_
  rintro e w2 ⟨hA, hb⟩
  have H2 : Hid (Below w.heap.size w w2) := H1.out.trans (hb.mono H1.out.size)
  obtain rfl := HA2.out e hA
  clear hb hA HA2 H1
  go_wp2_with fail
  refine Calls.mono (C3.out _ H2.out) ?_
  rintro e w3 ⟨rfl, hb⟩
  have H3 : Hid (Below w.heap.size w w3) := H2.out.trans (hb.mono H2.out.size)
  clear hb H2
  go_wp2_with fail
  refine Calls.mono (C4.out _ H3.out) ?_
  rintro e w4 ⟨rfl, hb⟩
  have H4 : Hid (Below w.heap.size w w4) := H3.out.trans (hb.mono H3.out.size)
  clear hb H3
  go_wp2_with fail
  refine Calls.mono (C5.out _ H4.out) ?_
  rintro e w5 ⟨rfl, hb⟩
  have H5 : Hid (Below w.heap.size w w5) := H4.out.trans (hb.mono H4.out.size)
  clear hb H4
  go_wp2_with fail
  refine Calls.mono (C6.out _ H5.out) ?_
  rintro e w6 ⟨rfl, hb⟩
  have H6 : Hid (Below w.heap.size w w6) := H5.out.trans (hb.mono H5.out.size)
  clear hb H5
  go_wp2_with fail
  refine Calls.mono (C7.out _ H6.out) ?_
  rintro e w7 ⟨rfl, hb⟩
  have H7 : Hid (Below w.heap.size w w7) := H6.out.trans (hb.mono H6.out.size)
  clear hb H6
  go_wp2_with fail
  refine Calls.mono (C8.out _ H7.out) ?_
  rintro e w8 ⟨rfl, hb⟩
  have H8 : Hid (Below w.heap.size w w8) := H7.out.trans (hb.mono H7.out.size)
  clear hb H7
  go_wp2_with fail
  refine Calls.mono (C9.out _ H8.out) ?_
  rintro e w9 ⟨rfl, hb⟩
  have H9 : Hid (Below w.heap.size w w9) := H8.out.trans (hb.mono H8.out.size)
  clear hb H8
  go_wp2
  go_ret
  exact ⟨rfl, H9.out⟩
end Go.Proofs.YtobecfeelamlmaaDoor
