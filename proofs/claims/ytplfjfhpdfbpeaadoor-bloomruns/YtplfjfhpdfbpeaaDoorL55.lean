/- The walk of BloomAlone. -/
import Derived.Test.YtplfjfhpdfbpeaaDoorBQ7
import Derived.Test.YtplfjfhpdfbpeaaDoorBQ9
import Derived.Test.YtplfjfhpdfbpeaaDoorBQA
import Derived.Deep.Cut
namespace Go.Proofs.YtplfjfhpdfbpeaaDoor
open Go.RowKit
set_option linter.unusedSimpArgs false
set_option linter.unusedVariables false
theorem FlS.other {W W' : World} {f g n k o q m j : Nat} {s t : List UInt8} (h : FlS W o q m j t) (hf : FlS W f g n k s) (hg : W.grownBy W' (some g)) (hne : g ≠ q) : FlS W' o q m j t := by
  obtain ⟨c, ht, _⟩ := h.top
  have := bk_ne_row hf.row ht (by decide)
  exact h.grown hg (by simp; omega) (by simp; omega)
theorem enF_size {n k : Nat} {s : List UInt8} (h : okF n k) (hl : 8 * s.length = n) : (enF n k s).size ≤ 2097200 := by
  have h1 := okF_le h
  have h2 := h.2.2
  unfold enF
  rw [ByteArray.size_append, ByteArray.size_append, ByteArray.size_append, sb_size, sb_size, encS_length, encS_length]
  have a := slen_le n (by omega)
  have b := slen_le k (by omega)
  have c : (⟨s.toArray⟩ : ByteArray).size = s.length := by show s.toArray.size = _; simp
  have d : (⟨#[77, 66, 70, 49]⟩ : ByteArray).size = 4 := rfl
  omega
/-- What was written is read. -/
theorem dec_yes14 {n k : Nat} {s : List UInt8} (h : okF n k) (hl : 8 * s.length = n) (w : World) (hm : MkS w) : Calls Tryd.prog 16 #[.string (enF n k s)] w fun e w' => ∃ f g, NwF w e w' f g n k s := by
  refine (dec_any14 _ w hm (by have := enF_size h hl; unfold maxLen; omega)).mono ?_
  rintro e w' (⟨n', k', s', f, g, h1, h2⟩ | ⟨h1, _⟩)
  · obtain ⟨rfl, rfl, rfl⟩ := h1.one (enF_is h hl)
    exact ⟨f, g, h2⟩
  · exact absurd (enF_is h hl) (h1 n k s)
theorem ok256 : okF 256 3 := ⟨⟨2, by omega, rfl⟩, by omega, by omega⟩
/-- The name of a byte. -/
def tx4 (i : Nat) : ByteArray := ⟨#[0, 0, 0, UInt8.ofNat i]⟩
theorem plc_tx4 (i : Nat) (hi : i < 256) : plc 256 (idF (tx4 i)) 0 = i := by
  have : ∀ i : Fin 256, plc 256 (idF (tx4 i.val)) 0 = i.val := by decide +kernel
  exact this ⟨i, hi⟩
theorem bits_more (s : List UInt8) (i : Nat) (hi : i < 256) (hl : 8 * s.length = 256) (h : ∀ q, q < i → btR s q = true) : ∀ q, q < i + 1 → btR (adK 256 (idF (tx4 i)) 3 s) q = true := by
  intro q hq
  rw [btR_ad 256 _ s q (by omega) hl]
  by_cases e : q = i
  · subst e
    rw [Bool.or_eq_true, isP_iff]
    exact .inr ⟨0, by omega, (plc_tx4 q hi).symm⟩
  · rw [h q (by omega)]; rfl
theorem conv4 (i : Nat) (hi : i < 256) (W : World) : (convert 64 9 (.slice (some ⟨W.heap.size, 0, none⟩) 4 4)).run Tryd.prog (W.alloc (.cells #[.int .u8 0, .int .u8 0, .int .u8 0, .int .u8 (i : Int)] 5)) = .ok (.string (tx4 i)) (W.alloc (.cells #[.int .u8 0, .int .u8 0, .int .u8 0, .int .u8 (i : Int)] 5)) := by
  refine conv_row14 W.heap.size 4 [0, 0, 0, UInt8.ofNat i] _ (fun j hj => ?_)
  simp only [List.length_cons, List.length_nil] at hj
  have h4 : j = 0 ∨ j = 1 ∨ j = 2 ∨ j = 3 := by omega
  rw [(bk_new _ _ _).cell]
  have e : (UInt8.ofNat i).toNat = i := by rw [UInt8.toNat_ofNat']; exact Nat.mod_eq_of_lt hi
  rcases h4 with rfl | rfl | rfl | rfl
  · rfl
  · rfl
  · rfl
  · show some (Value.int .u8 (i : Int)) = some (.int .u8 ((UInt8.ofNat i).toNat : Int))
    rw [e]
/-- Three filters of this law, apart. -/
structure Tri (w : World) (f g : Nat) (s : List UInt8) (o q : Nat) (t : List UInt8) (b r : Nat) (u : List UInt8) (W : World) : Prop where
  one : FlS W f g 256 3 s
  two : FlS W o q 256 3 t
  thr : FlS W b r 256 3 u
  gq : g ≠ q
  gr : g ≠ r
  lg : w.heap.size ≤ g
  bel : Below w.heap.size w W
theorem Tri.below {w : World} {f g : Nat} {s : List UInt8} {o q : Nat} {t : List UInt8} {b r : Nat} {u : List UInt8} {W W' : World} (h : Tri w f g s o q t b r u W) (hb : Below W.heap.size W W') : Tri w f g s o q t b r u W' :=
  ⟨h.one.below hb, h.two.below hb, h.thr.below hb, h.gq, h.gr, h.lg, h.bel.trans (hb.mono h.bel.size)⟩
theorem Tri.first {w : World} {f g : Nat} {s s' : List UInt8} {o q : Nat} {t : List UInt8} {b r : Nat} {u : List UInt8} {W W' : World} (h : Tri w f g s o q t b r u W) (hg : W.grownBy W' (some g)) (h1 : FlS W' f g 256 3 s') : Tri w f g s' o q t b r u W' :=
  ⟨h1, h.two.other h.one hg h.gq, h.thr.other h.one hg h.gr, h.gq, h.gr, h.lg, below_own h.bel h.bel.size hg h.lg⟩
set_option maxHeartbeats 4000000 in
set_option maxRecDepth 100000 in
theorem alone_walk (a : Option Addr) (L c : Nat) (a2 : Option Addr) (L2 c2 : Nat) (xs ys : List ByteArray) (w : World) (hm : MkS w) (hx : TxL w a xs) (nx : xs.length = L) (hL : L ≤ 140737488355328) (hy : TxL w a2 ys) (ny : ys.length = L2) (hL2 : L2 ≤ 140737488355328) :
    Calls Tryd.prog 7 #[.slice a L c, .slice a2 L2 c2] w fun e w' => e = .returned (.bool true) ∧ Below w.heap.size w w' := by
  obtain ⟨s, hs⟩ : ∃ s, mdR 256 3 xs = s := ⟨_, rfl⟩
  obtain ⟨t, ht⟩ : ∃ s, mdR 256 3 ys = s := ⟨_, rfl⟩
  have ls : 8 * s.length = 256 := by rw [← hs, mdR_len]
  have lt : 8 * t.length = 256 := by rw [← ht, mdR_len]
  obtain ⟨S, hS⟩ : ∃ S, enF 256 3 s = S := ⟨_, rfl⟩
  obtain ⟨T, hT⟩ : ∃ S, enF 256 3 t = S := ⟨_, rfl⟩
  have HM : Hid (MkS w) := hm
  have MD1 : Hid (∀ W, Below w.heap.size w W → Calls Tryd.prog 31 #[.int .i64 256, .int .i64 3, .slice a L c] W fun e w' => ∃ f g, e = .returned (.pointer (some ⟨f, 0, none⟩)) ∧ FlS w' f g 256 3 s ∧ Below W.heap.size W w' ∧ W.heap.size ≤ f ∧ W.heap.size ≤ g) := fun W hb => by
    rw [← hs]; exact made_any14 256 3 a L c xs W ok256 (hx.below hb) nx hL
  have MD2 : Hid (∀ W, Below w.heap.size w W → Calls Tryd.prog 31 #[.int .i64 256, .int .i64 3, .slice a2 L2 c2] W fun e w' => ∃ f g, e = .returned (.pointer (some ⟨f, 0, none⟩)) ∧ FlS w' f g 256 3 t ∧ Below W.heap.size W w' ∧ W.heap.size ≤ f ∧ W.heap.size ≤ g) := fun W hb => by
    rw [← ht]; exact made_any14 256 3 a2 L2 c2 ys W ok256 (hy.below hb) ny hL2
  have ES : Hid (∀ W f g, Below w.heap.size w W → FlS W f g 256 3 s → Calls Tryd.prog 15 #[.pointer (some ⟨f, 0, none⟩)] W fun e w' => e = .returned (.tuple #[.string S, .int .i64 0]) ∧ Below W.heap.size W w') := fun W f g hb h => by
    rw [← hS]; exact enc_any14 f g 256 3 s W h (hm.below hb)
  have ET : Hid (∀ W f g, Below w.heap.size w W → FlS W f g 256 3 t → Calls Tryd.prog 15 #[.pointer (some ⟨f, 0, none⟩)] W fun e w' => e = .returned (.tuple #[.string T, .int .i64 0]) ∧ Below W.heap.size W w') := fun W f g hb h => by
    rw [← hT]; exact enc_any14 f g 256 3 t W h (hm.below hb)
  have DS : Hid (∀ W, Below w.heap.size w W → Calls Tryd.prog 16 #[.string S] W fun e w' => ∃ f g, NwF W e w' f g 256 3 s) := fun W hb => by
    rw [← hS]; exact dec_yes14 ok256 ls W (hm.below hb)
  clear hm hx hy nx ny hs ht hS hT
  go_enter Tryd.func7, Tryd.ntmps7
  go_wp2_with fail
  refine (awake14 w).mono ?_
  rintro e w1 ⟨rfl, b1⟩
  have B1 : Hid (Below w.heap.size w w1) := b1
  clear b1
  go_wp2_with fail
  refine (MD1.out _ B1.out).mono ?_
  rintro e w2 ⟨f, g, rfl, f2, b2, lf, lg⟩
  have B2 : Hid (FlS w2 f g 256 3 s ∧ Below w.heap.size w w2 ∧ w.heap.size ≤ g) := ⟨f2, B1.out.trans (b2.mono B1.out.size), Nat.le_trans B1.out.size lg⟩
  clear f2 b2 lf lg B1 MD1
  go_wp2_with fail
  refine (MD2.out _ B2.out.2.1).mono ?_
  rintro e w3 ⟨o, q, rfl, f3, b3, lf, lg⟩
  have B3 : Hid (FlS w3 f g 256 3 s ∧ FlS w3 o q 256 3 t ∧ Below w.heap.size w w3 ∧ w.heap.size ≤ g ∧ g ≠ q) := ⟨B2.out.1.below b3, f3, B2.out.2.1.trans (b3.mono B2.out.2.1.size), B2.out.2.2, by have := B2.out.1.row.lt; omega⟩
  clear f3 b3 lf lg B2 MD2
  go_wp2_with fail
  refine (ES.out _ _ _ B3.out.2.2.1 B3.out.1).mono ?_
  rintro e w4 ⟨rfl, b4⟩
  have B4 : Hid (FlS w4 f g 256 3 s ∧ FlS w4 o q 256 3 t ∧ Below w.heap.size w w4 ∧ w.heap.size ≤ g ∧ g ≠ q) := ⟨B3.out.1.below b4, B3.out.2.1.below b4, B3.out.2.2.1.trans (b4.mono B3.out.2.2.1.size), B3.out.2.2.2⟩
  clear b4 B3
  go_wp2_with fail
  refine (ET.out _ _ _ B4.out.2.2.1 B4.out.2.1).mono ?_
  rintro e w5 ⟨rfl, b5⟩
  have B5 : Hid (FlS w5 f g 256 3 s ∧ FlS w5 o q 256 3 t ∧ Below w.heap.size w w5 ∧ w.heap.size ≤ g ∧ g ≠ q) := ⟨B4.out.1.below b5, B4.out.2.1.below b5, B4.out.2.2.1.trans (b5.mono B4.out.2.2.1.size), B4.out.2.2.2⟩
  clear b5 B4
  go_wp2_with fail
  refine (DS.out _ B5.out.2.2.1).mono ?_
  rintro e w6 ⟨b, r, h6⟩
  obtain rfl := h6.res
  have B6 : Hid (Tri w f g s o q t b r s w6) := ⟨B5.out.1.below h6.bel, B5.out.2.1.below h6.bel, h6.fil, B5.out.2.2.2.2, by have := B5.out.1.row.lt; have := h6.lg; omega, B5.out.2.2.2.1, B5.out.2.2.1.trans (h6.bel.mono B5.out.2.2.1.size)⟩
  clear h6 B5 DS
  go_wp2_with fail
  refine (join_yes14 f g 256 3 s o q t w6 B6.out.one B6.out.two B6.out.gq).mono ?_
  rintro e w7 ⟨rfl, f7, g7⟩
  have B7 : Hid (Tri w f g (jnR s t) o q t b r s w7) := B6.out.first g7 f7
  clear f7 g7 B6
  go_wp2_with fail
  refine (ES.out _ _ _ B7.out.bel B7.out.thr).mono ?_
  rintro e w8 ⟨rfl, b8⟩
  have B8 : Hid (Tri w f g (jnR s t) o q t b r s w8) := B7.out.below b8
  clear b8 B7
  go_wp2_with fail
  refine (ET.out _ _ _ B8.out.bel B8.out.two).mono ?_
  rintro e w9 ⟨rfl, b9⟩
  have B9 : Hid (Tri w f g (jnR s t) o q t b r s w9) := B8.out.below b9
  clear b9 B8
  go_wp2
  go_loopw [17] (fun v wr => ∃ (i : Nat) (s' : List UInt8), i ≤ 256 ∧ v = .int .i64 i ∧ Hid (Tri w f g s' o q t b r s wr ∧ ∀ p, p < i → btR s' p = true)) (fun v _ => 256 - (intOf v).toNat)
  case atStart => exact ⟨0, _, Nat.zero_le _, rfl, B9.out, fun p hp => by omega⟩
  case round =>
    clear B9
    obtain ⟨i, s', hi, rfl, HB⟩ := hrel
    by_cases hlt : i < 256
    · have hcv := conv4 i hlt
      have hw8 : IntKind.u8.wrap (i : Int) = (i : Int) := by rw [IntKind.wrap_u8]; omega
      have hw8e : (i : Int) % 256 = (i : Int) := by omega
      go_wp2_with fail
      refine (id_any14 (tx4 i) _).mono ?_
      rintro e v1 ⟨rfl, c1⟩
      have C1 : Hid (Tri w f g s' o q t b r s v1) := (HB.out.1.below ((Below.refl _ _).alloc (Nat.le_refl _) _)).below c1
      have AD : Hid (Calls Tryd.prog 12 #[.pointer (some ⟨f, 0, none⟩), .agg (idc (idF (tx4 i)))] v1 fun e w' => e = .returned (.int .i64 0) ∧ Hid (Tri w f g (adK 256 (idF (tx4 i)) 3 s') o q t b r s w' ∧ ∀ p, p < i + 1 → btR (adK 256 (idF (tx4 i)) 3 s') p = true)) := by
        refine (add_any14 (idF (tx4 i)) f g 256 3 s' v1 (idF_size _) C1.out.one).mono ?_
        rintro e v2 ⟨rfl, h1, h2⟩
        exact ⟨rfl, C1.out.first h2 h1, bits_more s' i hlt HB.out.1.one.len HB.out.2⟩
      obtain ⟨D, hD⟩ : ∃ D, idc (idF (tx4 i)) = D := ⟨_, rfl⟩
      rw [hD] at AD ⊢
      clear hD c1 hcv
      go_wp2_with fail
      refine AD.out.mono ?_
      rintro e v2 ⟨rfl, C2⟩
      go_wp2
      go_roundw
      case rel => exact ⟨i + 1, _, by omega, by go_num, C2.out⟩
      case measure => simp [intOf]; omega
    · have hik : i = 256 := by omega
      have HK : Hid (onR s' = 256) := by
        have hl := HB.out.1.one.len
        show _ = _
        rw [onR_eq, hl]
        exact smB_all _ _ (fun p hp => HB.out.2 p (by omega))
      have HT : Hid (Tri w f g s' o q t b r s wr) := HB.out.1
      clear HB hik
      go_wp2_with fail
      refine (ES.out _ _ _ HT.out.bel HT.out.thr).mono ?_
      rintro e v1 ⟨rfl, c1⟩
      have C1 : Hid (Tri w f g s' o q t b r s v1) := HT.out.below c1
      clear c1
      go_wp2_with fail
      refine (ET.out _ _ _ C1.out.bel C1.out.two).mono ?_
      rintro e v2 ⟨rfl, c2⟩
      have C2 : Hid (Tri w f g s' o q t b r s v2) := C1.out.below c2
      clear c2
      have ON : Hid (Calls Tryd.prog 21 #[.pointer (some ⟨f, 0, none⟩)] v2 fun e w' => e = .returned (.int .i64 256) ∧ w' = v2) := by
        have := ones_any14 f g 256 3 s' v2 C2.out.one
        rw [HK.out] at this
        exact this
      go_wp2_with fail
      refine ON.out.mono ?_
      rintro e v3 ⟨rfl, hv⟩
      obtain rfl : v2 = v3 := hv.symm
      go_wp2
      go_ret
      exact ⟨rfl, C2.out.bel⟩
end Go.Proofs.YtplfjfhpdfbpeaaDoor
