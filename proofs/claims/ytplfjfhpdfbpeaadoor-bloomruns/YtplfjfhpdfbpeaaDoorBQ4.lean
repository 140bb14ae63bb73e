/- bloom: Add, Has. -/
import Derived.Test.YtplfjfhpdfbpeaaDoorBQ3
namespace Go.Proofs.YtplfjfhpdfbpeaaDoor
open Go.RowKit
set_option linter.unusedSimpArgs false
set_option linter.unusedVariables false
theorem enter_add : ∀ args u, (callFunc 36 args).run Tryd.prog u = .ok (.enter 36 args) u := fun args u => by kernel_rfl
theorem enter_has : ∀ args u, (callFunc 43 args).run Tryd.prog u = .ok (.enter 43 args) u := fun args u => by kernel_rfl
theorem FlS.cells {w : World} {f g n k : Nat} {s : List UInt8} (h : FlS w f g n k s) : w.cell? ⟨f, 0, none⟩ = some (.int .i64 (n : Int)) ∧ w.cell? ⟨f, 1, none⟩ = some (.int .i64 (k : Int)) := by
  obtain ⟨c, ht, _⟩ := h.top
  exact ⟨by rw [ht.cell]; rfl, by rw [ht.cell]; rfl⟩
theorem bk_ne_row {w : World} {g b : Nat} {s : List UInt8} {C : Array Value} {T : TypeId} (h : Rw w g s) (hb : Bk w b C T) (hT : T ≠ 5) : g ≠ b := by
  rintro rfl
  obtain ⟨D, fz, h2, _⟩ := h
  unfold Bk at hb
  rw [hb] at h2
  injection h2 with h2
  injection h2 with _ h2 _
  exact hT h2
/-- While a name is added. -/
structure AdE (w : World) (x : ByteArray) (b f g n k : Nat) (s : List UInt8) (i : Nat) (W : World) : Prop where
  fil : FlS W f g n k (adK n x i s)
  gr : w.grownBy W (some g)
  box : Bk W b #[.pointer (some ⟨f, 0, none⟩)] 23
theorem ep_add (w : World) (x : ByteArray) (b f g n k : Nat) (s : List UInt8) : Ep x f n k 36 #[.pointer (some ⟨b, 0, none⟩)] (AdE w x b f g n k s) where
  enter := enter_add
  alloc := fun W o h => ⟨h.fil.below ((Below.refl _ _).alloc (Nat.le_refl _) _), h.gr.trans (World.grownBy_alloc W o (some g)), h.box.alloc o⟩
  drew := fun i W h => ⟨h.fil.below (Below.refl _ _).drew, Lib.Hx.grownBy_drew h.gr, h.box⟩
  bits := fun i W h => h.fil.cells.1
  hash := fun W h => h.fil.cells.2
  next := fun i W hi h => by
    have hp : plc n x i < n := Nat.mod_lt _ h.fil.pos
    refine (add1_any b f g n k (plc n x i) _ W h.fil hp (by rw [h.box.cell]; rfl)).mono ?_
    rintro e w' ⟨rfl, h1, h2⟩
    exact ⟨rfl, ⟨h1, h.gr.trans h2, h.box.grown h2 (by have := bk_ne_row h.fil.row h.box (by decide); simp; omega)⟩, fun b' C hb => hb.grown h2 (by have := bk_ne_row h.fil.row hb (by decide); simp; omega)⟩
theorem idc_all (x : ByteArray) : (idc x).all (·.oneCell') = true := Array.all_eq_true_iff_forall_mem.2 (by intro v hv; exact bvc_one _ v (by simpa [idc] using hv))
set_option maxHeartbeats 1000000 in
set_option maxRecDepth 100000 in
theorem add_any14 (x : ByteArray) (f g n k : Nat) (s : List UInt8) (w : World) (hx : x.size = 32) (h : FlS w f g n k s) :
    Calls Tryd.prog 12 #[.pointer (some ⟨f, 0, none⟩), .agg (idc x)] w fun e w' => e = .returned (.int .i64 0) ∧ FlS w' f g n k (adK n x k s) ∧ w.grownBy w' (some g) := by
  have hfl := h.lt
  have HC : Hid (Calls Tryd.prog 35 #[.pointer (some ⟨f, 0, none⟩), .agg (idc x), .func (.func 36) #[] #[.pointer (some ⟨w.heap.size, 0, none⟩)]] ((w.alloc (.cells #[.pointer (some ⟨f, 0, none⟩)] 23)).alloc (.cells (idc x) 36)) fun e w' => e = .returned (.tuple #[]) ∧ AdE w x w.heap.size f g n k s k w') :=
    each_any x f n k _ _ _ _ hx h.ok (ep_add w x w.heap.size f g n k s) ⟨h.below (((Below.refl _ _).alloc (Nat.le_refl _) _).alloc (by simp) _), (World.grownBy_alloc w _ (some g)).trans (World.grownBy_alloc _ _ (some g)), (bk_new _ _ _).alloc _⟩
  have HI : Hid ((Tryd.prog.info? 36).map (·.size) = some (idc x).size) := info_32 (by rw [idc_size, hx])
  have HK : Hid (Bk ((w.alloc (.cells #[.pointer (some ⟨f, 0, none⟩)] 23)).alloc (.cells (idc x) 36)) (w.heap.size + 1) (idc x) 36) := by
    have := bk_new (w.alloc (.cells #[.pointer (some ⟨f, 0, none⟩)] 23)) (idc x) 36
    rw [al_size] at this
    exact this
  obtain ⟨D, hD⟩ : ∃ D, idc x = D := ⟨_, rfl⟩
  rw [hD] at HC HI HK ⊢
  clear h hD hx
  go_enter Tryd.func12, Tryd.ntmps12
  go_wp2_with (first
    | (refine wpList_load_row rfl 36 (.tmp 3) rfl (w.heap.size + 1) rfl 36 D (0, 0) _ HK.out Tryd.underlying36 rfl HI.out ?_)
    | (go_at_call 35; refine HC.out.mono ?_; rintro e w1 ⟨rfl, H1⟩))
  go_ret
  exact ⟨rfl, H1.fil, H1.gr⟩
/-- While a name is asked for. -/
structure HaE (w : World) (x : ByteArray) (b y f g n k : Nat) (s : List UInt8) (i : Nat) (W : World) : Prop where
  fil : FlS W f g n k s
  bel : Below w.heap.size w W
  box : Bk W b #[.pointer (some ⟨f, 0, none⟩)] 23
  all : Bk W y #[.bool (haK n x s i)] 4
  ly : w.heap.size ≤ y
theorem ep_has (w : World) (x : ByteArray) (b y f g n k : Nat) (s : List UInt8) : Ep x f n k 43 #[.pointer (some ⟨y, 0, none⟩), .pointer (some ⟨b, 0, none⟩)] (HaE w x b y f g n k s) where
  enter := enter_has
  alloc := fun W o h => ⟨h.fil.below ((Below.refl _ _).alloc (Nat.le_refl _) _), h.bel.alloc h.bel.size _, h.box.alloc o, h.all.alloc o, h.ly⟩
  drew := fun i W h => ⟨h.fil.below (Below.refl _ _).drew, h.bel.drew, h.box, h.all, h.ly⟩
  bits := fun i W h => h.fil.cells.1
  hash := fun W h => h.fil.cells.2
  next := fun i W hi h => by
    have hp : plc n x i < n := Nat.mod_lt _ h.fil.pos
    refine (has1_any b y f g n k (plc n x i) _ s W h.fil hp (by rw [h.box.cell]; rfl) h.all).mono ?_
    rintro e w' ⟨rfl, rfl⟩
    have hg : W.grownBy (W.setCell ⟨y, 0, none⟩ (.bool (haK n x s i && btR s (plc n x i)))) (some y) := Lib.grownBy_setB (World.grownBy.refl W (some y)) 0 _
    have n1 : ∀ b' C T, Bk W b' C T → T ≠ 4 → some y ≠ some b' := fun b' C T hb hT e => by
      injection e with e
      subst e
      have := h.all
      unfold Bk at this hb
      rw [this] at hb
      injection hb with hb
      injection hb with _ hb _
      exact hT hb.symm
    obtain ⟨c, ht, _⟩ := h.fil.top
    refine ⟨rfl, ⟨h.fil.grown hg (n1 _ _ _ ht (by decide)) ?_, below_own h.bel h.bel.size hg h.ly, h.box.grown hg (n1 _ _ _ h.box (by decide)), h.all.set 0 _, h.ly⟩, fun b' C hb => hb.grown hg (n1 _ _ _ hb (by decide))⟩
    intro e
    injection e with e
    exact bk_ne_row h.fil.row h.all (by decide) e.symm
set_option maxHeartbeats 1000000 in
set_option maxRecDepth 100000 in
theorem has_any14 (x : ByteArray) (f g n k : Nat) (s : List UInt8) (w : World) (hx : x.size = 32) (h : FlS w f g n k s) :
    Calls Tryd.prog 19 #[.pointer (some ⟨f, 0, none⟩), .agg (idc x)] w fun e w' => e = .returned (.bool (haK n x s k)) ∧ Below w.heap.size w w' := by
  have hfl := h.lt
  have HC : Hid (Calls Tryd.prog 35 #[.pointer (some ⟨f, 0, none⟩), .agg (idc x), .func (.func 43) #[] #[.pointer (some ⟨w.heap.size + 2, 0, none⟩), .pointer (some ⟨w.heap.size, 0, none⟩)]] (((w.alloc (.cells #[.pointer (some ⟨f, 0, none⟩)] 23)).alloc (.cells (idc x) 36)).alloc (.cells #[.bool true] 4)) fun e w' => e = .returned (.tuple #[]) ∧ HaE w x w.heap.size (w.heap.size + 2) f g n k s k w' ∧ w'.cell? ⟨w.heap.size + 2, 0, none⟩ = some (.bool (haK n x s k))) := by
    have hb := ((((Below.refl _ w).alloc (Nat.le_refl _) (.cells #[.pointer (some ⟨f, 0, none⟩)] 23)).alloc (by simp) (.cells (idc x) 36)).alloc (by simp; omega) (.cells #[.bool true] 4))
    have hy := bk_new ((w.alloc (.cells #[.pointer (some ⟨f, 0, none⟩)] 23)).alloc (.cells (idc x) 36)) #[.bool true] 4
    rw [al_size, al_size] at hy
    refine (each_any x f n k _ _ _ _ hx h.ok (ep_has w x w.heap.size (w.heap.size + 2) f g n k s) ⟨h.below hb, hb, ((bk_new _ _ _).alloc _).alloc _, hy, by omega⟩).mono ?_
    rintro e w' ⟨rfl, h1⟩
    exact ⟨rfl, h1, by rw [h1.all.cell]; rfl⟩
  have HI : Hid ((Tryd.prog.info? 36).map (·.size) = some (idc x).size) := info_32 (by rw [idc_size, hx])
  have HK : Hid (Bk (((w.alloc (.cells #[.pointer (some ⟨f, 0, none⟩)] 23)).alloc (.cells (idc x) 36)).alloc (.cells #[.bool true] 4)) (w.heap.size + 1) (idc x) 36) := by
    have := bk_new (w.alloc (.cells #[.pointer (some ⟨f, 0, none⟩)] 23)) (idc x) 36
    rw [al_size] at this
    exact this.alloc _
  obtain ⟨D, hD⟩ : ∃ D, idc x = D := ⟨_, rfl⟩
  rw [hD] at HC HI HK ⊢
  clear h hD hx
  go_enter Tryd.func19, Tryd.ntmps19
  go_wp2_with (first
    | (refine wpList_load_row rfl 36 (.tmp 3) rfl (w.heap.size + 1) rfl 36 D (0, 0) _ HK.out Tryd.underlying36 rfl HI.out ?_)
    | (go_at_call 35; refine HC.out.mono ?_; rintro e w1 ⟨rfl, H1, c1⟩))
  go_ret
  exact ⟨rfl, H1.bel⟩
end Go.Proofs.YtplfjfhpdfbpeaaDoor
