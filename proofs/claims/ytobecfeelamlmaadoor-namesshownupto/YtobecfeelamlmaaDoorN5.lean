/- names.isLike. -/
import Derived.Test.YtobecfeelamlmaaDoorN4
import Derived.Deep.LoopGhost
import Derived.WalkMore
namespace Go.Proofs.YtobecfeelamlmaaDoor
open Go.RowKit
set_option linter.unusedSimpArgs false
set_option linter.unusedVariables false
/-- Where the last star stands (nothing: none was met), and what is asked of the rest. -/
def AnewOk (p : List Nat) (ANS : Bool) (s : ByteArray) (st : Option Nat) (rest : ByteArray) : Prop := match st with
  | none => rest = s ∧ like p (rn rest.data.toList) = ANS
  | some k => k < p.length ∧ like (42 :: p.drop (k + 1)) (rn rest.data.toList) = ANS
/-- The first rune of the pattern behind the star. -/
def fst (st : Option Nat) : Nat := match st with | none => 0 | some k => k + 1
def stv (st : Option Nat) : Int := match st with | none => -1 | some k => (k : Int)
def meas (p : List Nat) (s : ByteArray) (st : Option Nat) (rest : ByteArray) : Nat := (p.length + 1 - fst st) * (s.size + 1) + rest.size
theorem drop_cons {p : List Nat} {A c : Nat} (h : p[A]? = some c) : p.drop A = c :: p.drop (A + 1) := by
  obtain ⟨hl, e⟩ := List.getElem?_eq_some_iff.1 h
  rw [← e]
  exact List.drop_eq_getElem_cons hl
theorem drop_split (p : List Nat) (F m : Nat) : p.drop F = (p.drop F).take m ++ p.drop (F + m) := by
  rw [← List.drop_drop, List.take_append_drop]
theorem anew_star {p : List Nat} {ANS : Bool} {s rest : ByteArray} {st : Option Nat} {pre r2 : List Nat} {A : Nat} (h : AnewOk p ANS s st rest) (hr : rn rest.data.toList = pre ++ r2) (hA : A = fst st + pre.length)
    (hp : plainL ((p.drop (fst st)).take pre.length) pre = true) (hc : p[A]? = some 42) : like (42 :: p.drop (A + 1)) r2 = ANS := by
  have e := drop_split p (fst st) pre.length
  rw [← hA, drop_cons hc] at e
  cases st with
  | none =>
    obtain ⟨_, h⟩ := h
    rw [← h, hr]
    rw [show fst none = 0 from rfl, List.drop_zero] at e hp
    conv => rhs; rw [e]
    rw [plainL_app _ _ _ _ hp]
  | some k =>
    obtain ⟨_, h⟩ := h
    rw [← h, hr]
    rw [show fst (some k) = k + 1 from rfl] at e hp
    conv => rhs; rw [e]
    rw [star_next _ _ _ _ hp]
/-- The rune is not what the pattern asks for. -/
def missL (p : List Nat) (A r : Nat) : Prop := ∀ c, p[A]? = some c → c ≠ 42 ∧ oneL c r = false
theorem anew_none {p : List Nat} {ANS : Bool} {s rest : ByteArray} {pre r2 : List Nat} {A r : Nat} (h : AnewOk p ANS s none rest) (hr : rn rest.data.toList = pre ++ r :: r2) (hA : A = pre.length)
    (hp : plainL (p.take pre.length) pre = true) (hm : missL p A r) : ANS = false := by
  obtain ⟨_, h⟩ := h
  have e := List.take_append_drop pre.length p
  rw [← h, hr, ← e, plainL_app _ _ _ _ hp, ← hA]
  cases hc : p[A]? with
  | none => rw [List.drop_eq_nil_of_le (List.getElem?_eq_none_iff.1 hc), like_nil]; rfl
  | some c =>
    obtain ⟨h1, h2⟩ := hm c hc
    rw [drop_cons hc, like_one _ _ _ _ h1]
    unfold oneL at h2
    rw [h2]; rfl
theorem anew_some {p : List Nat} {ANS : Bool} {s rest : ByteArray} {k : Nat} {pre r2 : List Nat} {A r y : Nat} {t : List Nat} (h : AnewOk p ANS s (some k) rest) (hr : rn rest.data.toList = pre ++ r :: r2) (hA : A = k + 1 + pre.length)
    (hp : plainL ((p.drop (k + 1)).take pre.length) pre = true) (hm : missL p A r) (hy : rn rest.data.toList = y :: t) : like (42 :: p.drop (k + 1)) t = ANS := by
  obtain ⟨_, h⟩ := h
  have e := drop_split p (k + 1) pre.length
  rw [← hA] at e
  rw [← h, hr]
  rw [hr] at hy
  cases hc : p[A]? with
  | none =>
    rw [List.drop_eq_nil_of_le (List.getElem?_eq_none_iff.1 hc), List.append_nil] at e
    rw [e, star_past _ _ _ _ hp y t hy]
  | some c =>
    obtain ⟨h1, h2⟩ := hm c hc
    rw [drop_cons hc] at e
    rw [e, star_later _ _ _ _ _ _ hp h1 h2 y t hy]
theorem anew_end {p : List Nat} {ANS : Bool} {s rest : ByteArray} {st : Option Nat} {pre : List Nat} {A : Nat} (h : AnewOk p ANS s st rest) (hr : rn rest.data.toList = pre) (hA : A = fst st + pre.length)
    (hp : plainL ((p.drop (fst st)).take pre.length) pre = true) : stars (p.drop A) = ANS := by
  have e := drop_split p (fst st) pre.length
  rw [← hA] at e
  cases st with
  | none =>
    obtain ⟨_, h⟩ := h
    rw [show fst none = 0 from rfl, List.drop_zero] at e hp
    rw [← h, hr, ← like_stars]
    conv => rhs; rw [e]
    have := plainL_app _ _ (p.drop A) [] hp
    rw [List.append_nil] at this
    rw [this]
  | some k =>
    obtain ⟨_, h⟩ := h
    rw [show fst (some k) = k + 1 from rfl] at e hp
    rw [← h, hr]
    conv => rhs; rw [e]
    rw [star_end _ _ _ hp]
theorem plain_more {p : List Nat} {F c r : Nat} {pre : List Nat} (hp : plainL ((p.drop F).take pre.length) pre = true) (hc : p[F + pre.length]? = some c) (h1 : c ≠ 42) (h2 : oneL c r = true) : plainL ((p.drop F).take (pre ++ [r]).length) (pre ++ [r]) = true := by
  have : (p.drop F).take (pre ++ [r]).length = (p.drop F).take pre.length ++ [c] := by
    rw [List.length_append, List.length_cons, List.length_nil, List.take_add_one, List.getElem?_drop, hc]
    rfl
  rw [this]
  exact plainL_snoc _ _ _ _ hp h1 h2
theorem meas_star {p : List Nat} {s rest rest' : ByteArray} {st : Option Nat} {A : Nat} (hA : fst st ≤ A) (hl : A < p.length) (hr : rest'.size ≤ rest.size) : meas p s (some A) rest' < meas p s st rest := by
  unfold meas
  have : p.length + 1 - fst (some A) + 1 ≤ p.length + 1 - fst st := by show p.length + 1 - (A + 1) + 1 ≤ _; omega
  have h2 := Nat.mul_le_mul_right (s.size + 1) this
  rw [Nat.add_mul, Nat.one_mul] at h2
  omega
theorem meas_later {p : List Nat} {s rest rest' : ByteArray} {st : Option Nat} (hr : rest'.size < rest.size) : meas p s st rest' < meas p s st rest := by
  unfold meas; omega
set_option maxHeartbeats 2000000 in
set_option maxRecDepth 100000 in
theorem isLike_any (a0 : Option Addr) (cap : Nat) (p : List Nat) (s : ByteArray) (w : World) (hL : LieR w a0 p) (hn : p.length ≤ 4611686018427387904) (hcap : p.length ≤ cap) (hs : s.size ≤ 9223372036854775807) (hT : U8 w) :
    Calls Tryd.prog 22 #[.slice a0 p.length cap, .string s] w fun e w' => e = .returned (.bool (like p (rn s.data.toList))) ∧ Below w.heap.size w w' := by
  have HL : Hid (LieR w a0 p) := hL
  have HT : Hid (U8 w) := hT
  obtain ⟨ANS, hA⟩ : ∃ ANS, like p (rn s.data.toList) = ANS := ⟨_, rfl⟩
  rw [hA]
  have HA : Hid (like p (rn s.data.toList) = ANS) := hA
  clear hL hT hA
  go_enter Tryd.func22, Tryd.ntmps22
  go_wp2
  go_step3
  go_wp2
  go_step3
  go_wp2
  go_loopg [5, 6, 7] (meas p s none s + 1) (fun g v5 v6 v7 wr => ∃ (st : Option Nat) (F : Nat) (V : Int) (rest : ByteArray), v5 = .int .i64 (F : Nat) ∧ v6 = .int .i64 V ∧ v7 = .string rest ∧ rest.size ≤ s.size ∧ F ≤ p.length ∧ Hid (F = fst st ∧ V = stv st) ∧ Hid (AnewOk p ANS s st rest) ∧ Hid (Below w.heap.size w wr) ∧ Hid (meas p s st rest < g))
  case atStart => exact ⟨none, 0, -1, s, rfl, rfl, rfl, Nat.le_refl _, Nat.zero_le _, ⟨rfl, rfl⟩, ⟨rfl, HA.out⟩, Below.refl _ _, Nat.lt_succ_self _⟩
  case round =>
    obtain ⟨st, F, V, rest, rfl, rfl, rfl, hrs, hfp, HF, HO, HB, HG⟩ := hrel
    obtain ⟨wo, hwo⟩ : ∃ wo, wo = wr := ⟨_, rfl⟩
    subst hwo
    go_wp2
    have hwz : w.heap.size ≤ wo.heap.size := HB.out.size
    go_loopw [5, 6, 7] (fun v5 v6 v7 wx => ∃ (A pos : Nat) (pre : List Nat), v5 = .int .i64 (A : Nat) ∧ v6 = .int .i64 V ∧ v7 = .string rest ∧ wx.heap[wo.heap.size]? = some (.stringIter rest pos) ∧ Hid (Below wo.heap.size wo wx) ∧ pos ≤ rest.size ∧ A ≤ p.length ∧ Hid (A = F + pre.length) ∧ Hid (rn rest.data.toList = pre ++ rn (rest.data.toList.drop pos)) ∧ Hid (plainL ((p.drop F).take pre.length) pre = true)) (fun _ _ _ wx => rest.size - wx.iterPos wo.heap.size)
    case atStart =>
      refine ⟨F, 0, [], rfl, rfl, rfl, World.iter_heap wo rest 0, (Below.refl _ wo).alloc (Nat.le_refl _) _, Nat.zero_le _, hfp, rfl, rfl, ?_⟩
      rfl
    case round =>
      obtain ⟨A, pos, pre, rfl, rfl, rfl, hit, HBx, hpr, hAp, HA1, HR, HP⟩ := hrel
      have hsz : wo.heap.size < wr.heap.size := (Array.getElem?_eq_some_iff.1 hit).1
      have HW : Hid (Below w.heap.size w wr) := HB.out.trans (HBx.out.mono hwz)
      by_cases hp : pos < rest.size
      · have hnx : ∀ ty, (Instr.next (.pointer (some ⟨wo.heap.size, 0, none⟩)) true ty).run Tryd.prog wr = _ := fun ty => Lib.run_next_any_at wr wo.heap.size rest pos ty hit hp
        have hd := dec_le rest pos hp
        have hra := rn_at rest pos hp
        have hit2 := Lib.iterAt_heap wr wo.heap.size rest pos (pos + (Utf8.decode rest pos).2) hit
        have hb2 := Lib.below_iterAt HBx.out (k := wo.heap.size) (Nat.le_refl _) rest (pos + (Utf8.decode rest pos).2)
        obtain ⟨r, hr⟩ : ∃ r, (Utf8.decode rest pos).1 = r := ⟨_, rfl⟩
        obtain ⟨k, hk⟩ : ∃ k, (Utf8.decode rest pos).2 = k := ⟨_, rfl⟩
        obtain ⟨wn, hwn⟩ : ∃ wn, wr.iterAt wo.heap.size rest (pos + k) = wn := ⟨_, rfl⟩
        simp only [hr, hk, hwn] at hnx hd hra hit2 hb2
        have HB2 : Hid (Below wo.heap.size wo wn) := hb2
        have HRA : Hid (rn rest.data.toList = pre ++ r :: rn (rest.data.toList.drop (pos + k))) := by
          show rn rest.data.toList = _
          rw [HR.out, hra]
        have hpos : wr.iterPos wo.heap.size = pos := by simp only [World.iterPos, hit]
        have hpos2 : wn.iterPos wo.heap.size = pos + k := by simp only [World.iterPos, hit2]
        have HM : Hid (wr.iterPos wo.heap.size = pos ∧ wn.iterPos wo.heap.size = pos + k) := ⟨hpos, hpos2⟩
        have hz2 : wo.heap.size ≤ wn.heap.size := HB2.out.size
        have HWN : Hid (Below w.heap.size w wn) := HB.out.trans (HB2.out.mono hwz)
        clear hra hb2 hwn hr hk hpos hpos2 hit
        have h64 : (pos : Int) ≤ (rest.size : Int) := by omega
        have miss : missL p A r → True := fun _ => trivial
        clear miss
        by_cases hAl : A < p.length
        · obtain ⟨c, hc⟩ : ∃ c, p[A]? = some c := ⟨p[A], List.getElem?_eq_getElem hAl⟩
          obtain ⟨b, off, rfl, hb, hcell⟩ := HL.out A c hc
          have hcn : wn.cell? ⟨b, off + A, none⟩ = some (.int .i32 (c : Int)) := by rw [HWN.out.cell (p := ⟨b, off + A, none⟩) hb]; exact hcell
          have HC : Hid (p[A]? = some c) := hc
          clear hc hcell
          have hAz : (A : Int) < (p.length : Nat) := by omega
          by_cases c42 : c = 42
          · subst c42
            go_wp2
            go_quiet (fail)
            go_wp2
            go_roundg (gk - 1)
            case measure => have := HG.out; omega
            case rel =>
              refine ⟨some A, A + 1, A, rest.extract pos rest.size, by go_num, rfl, rfl, by rw [ByteArray.size_extract]; omega, by omega, ⟨rfl, rfl⟩, ⟨hAl, ?_⟩, ?_, ?_⟩
              · rw [Lib.extract_to_end]
                exact anew_star HO.out HR.out (by rw [← HF.out.1]; exact HA1.out) (by rw [← HF.out.1]; exact HP.out) HC.out
              · exact below_drewNv HWN.out _
              · have h1 := meas_star (p := p) (s := s) (rest := rest) (rest' := rest.extract pos rest.size) (st := st) (A := A) (by rw [← HF.out.1, HA1.out]; omega) hAl (by rw [ByteArray.size_extract]; omega)
                have := HG.out
                show meas p s (some A) (rest.extract pos rest.size) < gk - 1
                omega
          · have c42' : ((c : Int) == 42) = false := by simp; omega
            by_cases c63 : c = 63
            · have c63' : ((c : Int) == 63) = true := by simp [c63]
              go_wp2
              go_roundw
              case rel =>
                refine ⟨A + 1, pos + k, pre ++ [r], by go_num, rfl, rfl, hit2, HB2.out, hd.2, by omega, ?_, ?_, ?_⟩
                · show A + 1 = F + (pre ++ [r]).length
                  rw [HA1.out, List.length_append]; rfl
                · show rn rest.data.toList = (pre ++ [r]) ++ _
                  rw [HRA.out]; simp
                · exact plain_more HP.out (by rw [← HA1.out]; exact HC.out) c42 (by simp [oneL, c63])
              case measure => rw [HM.out.1, HM.out.2]; omega
            · have c63' : ((c : Int) == 63) = false := by simp; omega
              by_cases cr : c = r
              · have cr' : ((c : Int) == (r : Int)) = true := by simp [cr]
                go_wp2
                go_roundw
                case rel =>
                  refine ⟨A + 1, pos + k, pre ++ [r], by go_num, rfl, rfl, hit2, HB2.out, hd.2, by omega, ?_, ?_, ?_⟩
                  · show A + 1 = F + (pre ++ [r]).length
                    rw [HA1.out, List.length_append]; rfl
                  · show rn rest.data.toList = (pre ++ [r]) ++ _
                    rw [HRA.out]; simp
                  · exact plain_more HP.out (by rw [← HA1.out]; exact HC.out) c42 (by simp [oneL, cr])
                case measure => rw [HM.out.1, HM.out.2]; omega
              · have cr' : ((c : Int) == (r : Int)) = false := by simp; omega
                have HMS : Hid (missL p A r) := fun d hd => by
                  have e := HC.out
                  rw [hd] at e
                  obtain rfl := Option.some.inj e
                  exact ⟨c42, by simp [oneL, c63, cr]⟩
                cases st with
                | none =>
                  have hV : V < 0 := by rw [HF.out.2]; decide
                  go_wp2
                  try rw [Exit.noGoto_ret]
                  go_ret
                  refine ⟨?_, HWN.out⟩
                  have : ANS = false := anew_none HO.out HRA.out (by rw [HA1.out, HF.out.1]; show 0 + _ = _; omega) (by have := HP.out; rw [HF.out.1] at this; simpa [fst] using this) HMS.out
                  rw [this]; rfl
                | some j =>
                  have hV : V = (j : Int) := HF.out.2
                  subst hV
                  have hV : ¬ ((j : Int) < 0) := by omega
                  have hjp : j < p.length := HO.out.1
                  have h0 : 0 < rest.size := by omega
                  have hfw := fw_le rest h0
                  have hbh := behind_any rest wn h0 (HT.out.below HWN.out)
                  obtain ⟨rb, hrb⟩ : ∃ rb, rb = rest.extract (fw rest) rest.size := ⟨_, rfl⟩
                  rw [← hrb] at hbh
                  have hrz : rb.size + 1 ≤ rest.size := by rw [hrb, ByteArray.size_extract]; omega
                  have HRB : Hid (rb = rest.extract (fw rest) rest.size) := hrb
                  clear hrb hfw
                  have hwzn : w.heap.size ≤ wn.heap.size := HWN.out.size
                  go_wp2_with (go_at_call 41; refine hbh.mono ?_; rintro e w7 ⟨rfl, hb7⟩; have HB7 : Hid (Below wn.heap.size wn w7) := hb7; clear hb7)
                  go_roundg (gk - 1)
                  case measure => have := HG.out; omega
                  case rel =>
                    refine ⟨some j, j + 1, j, rb, by go_num, rfl, rfl, by omega, by omega, ⟨rfl, rfl⟩, ⟨hjp, ?_⟩, HWN.out.trans (HB7.out.mono hwzn), ?_⟩
                    · rw [HRB.out]
                      exact anew_some HO.out HRA.out (by rw [HA1.out, HF.out.1]; rfl) (by have := HP.out; rw [HF.out.1] at this; exact this) HMS.out (rn_behind rest h0)
                    · have h1 := meas_later (p := p) (s := s) (rest := rest) (rest' := rb) (st := some j) (by omega)
                      have := HG.out
                      show meas p s (some j) rb < gk - 1
                      omega
        · have hAe : A = p.length := by omega
          have hAz : ¬ (A : Int) < (p.length : Nat) := by omega
          have HMS : Hid (missL p A r) := fun d hd => by
            rw [List.getElem?_eq_none (by omega)] at hd; cases hd
          clear hAe
          cases st with
          | none =>
            have hV : V < 0 := by rw [HF.out.2]; decide
            go_wp2
            try rw [Exit.noGoto_ret]
            go_ret
            refine ⟨?_, HWN.out⟩
            have : ANS = false := anew_none HO.out HRA.out (by rw [HA1.out, HF.out.1]; show 0 + _ = _; omega) (by have := HP.out; rw [HF.out.1] at this; simpa [fst] using this) HMS.out
            rw [this]; rfl
          | some j =>
            have hV : V = (j : Int) := HF.out.2
            subst hV
            have hV : ¬ ((j : Int) < 0) := by omega
            have hjp : j < p.length := HO.out.1
            have h0 : 0 < rest.size := by omega
            have hfw := fw_le rest h0
            have hbh := behind_any rest wn h0 (HT.out.below HWN.out)
            obtain ⟨rb, hrb⟩ : ∃ rb, rb = rest.extract (fw rest) rest.size := ⟨_, rfl⟩
            rw [← hrb] at hbh
            have hrz : rb.size + 1 ≤ rest.size := by rw [hrb, ByteArray.size_extract]; omega
            have HRB : Hid (rb = rest.extract (fw rest) rest.size) := hrb
            clear hrb hfw
            have hwzn : w.heap.size ≤ wn.heap.size := HWN.out.size
            go_wp2_with (go_at_call 41; refine hbh.mono ?_; rintro e w7 ⟨rfl, hb7⟩; have HB7 : Hid (Below wn.heap.size wn w7) := hb7; clear hb7)
            go_roundg (gk - 1)
            case measure => have := HG.out; omega
            case rel =>
              refine ⟨some j, j + 1, j, rb, by go_num, rfl, rfl, by omega, by omega, ⟨rfl, rfl⟩, ⟨hjp, ?_⟩, HWN.out.trans (HB7.out.mono hwzn), ?_⟩
              · rw [HRB.out]
                exact anew_some HO.out HRA.out (by rw [HA1.out, HF.out.1]; rfl) (by have := HP.out; rw [HF.out.1] at this; exact this) HMS.out (rn_behind rest h0)
              · have h1 := meas_later (p := p) (s := s) (rest := rest) (rest' := rb) (st := some j) (by omega)
                have := HG.out
                show meas p s (some j) rb < gk - 1
                omega
      · have hnx : ∀ ty, (Instr.next (.pointer (some ⟨wo.heap.size, 0, none⟩)) true ty).run Tryd.prog wr = _ := fun ty => Lib.run_next_end_at wr wo.heap.size rest pos ty hit hp
        have HE : Hid (rn rest.data.toList = pre) := by
          show rn rest.data.toList = pre
          rw [HR.out, rn_end rest pos hp, List.append_nil]
        have hAz : (A : Int) ≤ (cap : Nat) := by omega
        have hAz2 : (A : Int) ≤ (p.length : Nat) := by omega
        have HST : Hid (stars (p.drop A) = ANS) := anew_end HO.out HE.out (by rw [← HF.out.1]; exact HA1.out) (by rw [← HF.out.1]; exact HP.out)
        have hlen : (p.drop A).length = p.length - A := List.length_drop
        have HL1 : Hid (LieR wr (a0.map fun x => x.add A) (p.drop A)) := fun i c hc => by
          rw [List.getElem?_drop] at hc
          obtain ⟨b, off, rfl, hb, hcell⟩ := (HL.out.below HW.out) (A + i) c hc
          refine ⟨b, off + A, by simp [WideShapes.add_plain], hb, ?_⟩
          rw [Nat.add_assoc]; exact hcell
        have HL2 : Hid (cap = A → LieR wr a0 (p.drop A)) := fun e i c hc => by
          rw [List.getElem?_drop, List.getElem?_eq_none (by omega)] at hc; cases hc
        have c1 := stars_any (a0.map fun x => x.add A) (cap - A) (p.drop A) wr HL1.out (by omega)
        have c2 := fun e => stars_any a0 0 (p.drop A) wr (HL2.out e) (by omega)
        rw [hlen, HST.out] at c1
        rw [hlen, HST.out] at c2
        have C2 : Hid (cap = A → Calls Tryd.prog 42 #[.slice a0 (p.length - A) 0] wr fun e w' => e = .returned (.bool ANS) ∧ w' = wr) := c2
        have C1 : Hid (Calls Tryd.prog 42 #[.slice (a0.map fun x => x.add A) (p.length - A) (cap - A)] wr fun e w' => e = .returned (.bool ANS) ∧ w' = wr) := c1
        clear HR hit c1 c2 hlen HL1 HL2 HST
        by_cases hca : cap = A
        · have C3 : Hid (Calls Tryd.prog 42 #[.slice a0 (p.length - A) 0] wr fun e w' => e = .returned (.bool ANS) ∧ w' = wr) := C2.out hca
          clear C1 C2
          go_wp2_with fail
          all_goals first
            | (exfalso; omega)
            | (refine C3.out.mono ?_
               rintro e w8 ⟨rfl, rfl⟩
               go_wp2
               try rw [Exit.noGoto_ret]
               go_ret
               exact ⟨rfl, HW.out⟩)
        · clear C2
          go_wp2_with fail
          all_goals first
            | (exfalso; omega)
            | (refine C1.out.mono ?_
               rintro e w8 ⟨rfl, rfl⟩
               go_wp2
               try rw [Exit.noGoto_ret]
               go_ret
               exact ⟨rfl, HW.out⟩)
end Go.Proofs.YtobecfeelamlmaaDoor
