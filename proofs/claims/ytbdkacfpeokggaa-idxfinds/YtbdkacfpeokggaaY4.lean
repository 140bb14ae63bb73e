import Derived.Test.YtbdkacfpeokggaaY3
import Derived.Test.YtbdkacfpeokggaaChecked
import Derived.Shelf.Strings.Builder1
import Derived.Lib.OthersKept
import Derived.WalkKit
import Derived.BigCall
import Derived.Shelf.Strings.BuilderK
import Derived.OwnWalk
import Derived.Shelf.Strings.Builder2
import Derived.Test.YtbdkacfpeokggaaY2
import Derived.Test.YtbdkacfpeokggaaY1
import Derived.Test.YtbdkacfpeokggaaRows
import Derived.WalkSpells
import Derived.WalkLawsBesides
import Derived.Handy
/- idx.indexOf. -/
namespace Go.Proofs.Ytbdkacfpeokggaa
open Go.RowKit
set_option linter.unusedSimpArgs false
set_option linter.unusedVariables false
set_option maxRecDepth 100000 in
theorem builtIx (a0 a1 a2 a3 a4 a5 a6 a7 a8 a9 a10 a11 a12 a13 a14 a15 a16 a17 a18 a19 a20 a21 a22 a23 a24 a25 a26 a27 a28 a29 a30 a31 : Value) (o : Option Addr) (n c : Nat) : Try.prog.built 63 [(0, .agg #[a0, a1, a2, a3, a4, a5, a6, a7, a8, a9, a10, a11, a12, a13, a14, a15, a16, a17, a18, a19, a20, a21, a22, a23, a24, a25, a26, a27, a28, a29, a30, a31]), (2, .slice o n c)] = some ((([a0, a1, a2, a3, a4, a5, a6, a7, a8, a9, a10, a11, a12, a13, a14, a15, a16, a17, a18, a19, a20, a21, a22, a23, a24, a25, a26, a27, a28, a29, a30, a31] : List Value) ++ (fnC (fun _ => 0) ++ [Value.slice o n c])).toArray) := by kernel_rfl
set_option maxRecDepth 100000 in
theorem build_ix (s : ByteArray) (h : s.size = 32) (o : Option Addr) (n c : Nat) (w : World) : (Instr.build 63 #[(0, .agg (idc s)), (2, .slice o n c)]).run Try.prog w = .ok (.agg (ixC s (fun _ => 0) (.slice o n c))) w := by
  refine run_build w _ _ _ ?_
  obtain ⟨a0, a1, a2, a3, a4, a5, a6, a7, a8, a9, a10, a11, a12, a13, a14, a15, a16, a17, a18, a19, a20, a21, a22, a23, a24, a25, a26, a27, a28, a29, a30, a31, hl⟩ := list32X (idc s).toList (by rw [Array.length_toList, idc_size, h])
  have e1 : idc s = #[a0, a1, a2, a3, a4, a5, a6, a7, a8, a9, a10, a11, a12, a13, a14, a15, a16, a17, a18, a19, a20, a21, a22, a23, a24, a25, a26, a27, a28, a29, a30, a31] := by rw [← Array.toArray_toList (xs := idc s), hl]
  rw [ixC, hl, e1]
  exact builtIx _ _ _ _ _ _ _ _ _ _ _ _ _ _ _ _ _ _ _ _ _ _ _ _ _ _ _ _ _ _ _ _ _ _ _
theorem take_snocX {l : List Xe} {k : Nat} {e : Xe} (h : l[k]? = some e) : l.take (k + 1) = l.take k ++ [e] := by
  rw [List.take_add_one, h, Option.toList_some]
theorem fst8_cell (e : Xe) (h : e.id.size = 32) : (xeC e)[0]? = some (.int .u8 (fst8 e : Int)) := by
  have := xeC_id e h 0 _ (idc_get e.id 0 (by omega))
  rw [Nat.zero_add] at this
  rw [this]
  have q : fst8 e = (e.id[0]'(by omega)).toNat := by
    unfold fst8
    congr 1
    have hl : 0 < (bl e.id).length := by rw [bl_length]; omega
    rw [List.headD_eq_head?_getD, List.head?_eq_getElem?, List.getElem?_eq_getElem hl]
    rfl
  rw [q]
theorem XeL.get {w : World} {a : Option Addr} {l : List Xe} (h : XeL w a l) {i : Nat} {e : Xe} (he : l[i]? = some e) : ∃ g o, a = some ⟨g, o, none⟩ ∧ g < w.heap.size ∧ e.id.size = 32 ∧ ∀ j v, (xeC e)[j]? = some v → w.cell? ⟨g, o + i * 35 + j, none⟩ = some v := by
  obtain ⟨h1, g, o, h2, h3, h4⟩ := h i e he
  exact ⟨g, o, h2, h3, h1, h4⟩
/-- How the counting stands. -/
structure IxW (w : World) (g : Nat) (s : ByteArray) (f : Nat → Nat) (v : Value) (wr : World) : Prop where
  bel : Below w.heap.size w wr
  blk : Bk wr g (ixC s f v) 63
theorem IxW.below {w wr W : World} {g : Nat} {s : ByteArray} {f : Nat → Nat} {v : Value} (h : IxW w g s f v wr) (hb : Below wr.heap.size wr W) : IxW w g s f v W :=
  ⟨h.bel.trans (hb.mono h.bel.size), h.blk.below hb h.blk.lt⟩
theorem IxW.put {w wr : World} {g : Nat} {s : ByteArray} {f : Nat → Nat} {v : Value} (h : IxW w g s f v wr) (hs : s.size = 32) (hg : w.heap.size ≤ g) (j m : Nat) (hj : j < 256) (f' : Nat → Nat) (hf : ∀ b, b < 256 → f' b = if b = j then m else f b) : IxW w g s f' v (wr.setCell ⟨g, 32 + j, none⟩ (.int .i64 (m : Int))) := by
  have hgr : wr.grownBy (wr.setCell ⟨g, 32 + j, none⟩ (.int .i64 (m : Int))) (some g) := Lib.grownBy_setB (World.grownBy.refl _ _) (32 + j) _
  refine ⟨below_own h.bel h.bel.size hgr hg, ?_⟩
  have := h.blk.set (32 + j) (.int .i64 (m : Int))
  rw [ixC_set s f v hs j m hj] at this
  have e : fnC f' = fnC (fun b => if b = j then m else f b) := by
    unfold fnC
    apply List.map_congr_left
    intro b hb
    rw [hf b (List.mem_range.1 hb)]
  unfold ixC at this ⊢
  rw [e]
  exact this
set_option maxHeartbeats 8000000 in
set_option maxRecDepth 100000 in
theorem indexOf_any (s : ByteArray) (l : List Xe) (a : Option Addr) (n c : Nat) (w : World) (hs : s.size = 32) (hX : XeL w a l) (hl : l.length = n) (hc : n ≤ c) (hA : AdS a) (hn : n ≤ 1152921504606846976) :
    Calls Try.prog 20 #[.agg (idc s), .slice a n c] w fun e w' => ∃ g, e = .returned (.pointer (some ⟨g, 0, none⟩)) ∧ w.heap.size ≤ g ∧ IxS w' g s l ∧ Below w.heap.size w w' := by
  have HX : Hid (XeL w a l) := hX
  have HL : Hid (l.length = n) := hl
  have HS : Hid (s.size = 32) := hs
  have HCC : Hid (n ≤ c ∧ AdS a) := ⟨hc, hA⟩
  have HBD : Hid (∀ w, (Instr.build 63 #[(0, .agg (idc s)), (2, .slice a n c)]).run Try.prog w = .ok (.agg (ixC s (fun _ => 0) (.slice a n c))) w) := build_ix s hs a n c
  obtain ⟨D, hD⟩ : ∃ D, idc s = D := ⟨_, rfl⟩
  obtain ⟨Z, hZ⟩ : ∃ Z, ixC s (fun _ => 0) (.slice a n c) = Z := ⟨_, rfl⟩
  have HI : Hid ((Try.prog.info? 30).map (·.size) = some D.size) := info_32 (by rw [← hD, idc_size, hs])
  have HZ : Hid (ixC s (fun _ => 0) (.slice a n c) = Z) := hZ
  rw [hD, hZ] at HBD
  rw [hD]
  have HB0 : Hid (Bk (w.alloc (.cells D 30)) w.heap.size D 30) := bk_new _ _ _
  clear hX hl hs hD hZ hc hA
  go_enter Try.func20, Try.ntmps20
  go_wp2_with (first
    | (refine wpList_get rfl 30 (.tmp 2) rfl w.heap.size 0 D D 30 _ rfl HB0.out (fun j v hv => by rw [Nat.zero_add]; exact hv) Try.underlying30 rfl HI.out ?_)
    | (refine wpList_bdX2 rfl 63 0 2 (.tmp 9) (.tmp 10) rfl (.agg D) (.slice a n c) (.agg Z) rfl rfl (HBD.out _) ?_))
  have I0 : Hid (IxW w (w.heap.size + 1) s (cnt8 (l.take 0)) (.slice a n c) ((w.alloc (.cells D 30)).alloc (.cells Z 63))) := by
    refine ⟨((Below.refl _ _).alloc (Nat.le_refl _) _).alloc (by rw [al_size]; omega) _, ?_⟩
    have h := bk_new (w.alloc (.cells D 30)) Z 63
    rw [al_size] at h
    have e : ixC s (cnt8 (l.take 0)) (.slice a n c) = Z := HZ.out
    rw [e]
    exact h
  obtain ⟨W0, hW0⟩ : ∃ W, (w.alloc (.cells D 30)).alloc (.cells Z 63) = W := ⟨_, rfl⟩
  obtain ⟨G, hG⟩ : ∃ G, w.heap.size + 1 = G := ⟨_, rfl⟩
  have hGG : w.heap.size ≤ G := by omega
  rw [hW0] at I0 ⊢
  rw [hG] at I0 ⊢
  clear hW0 hG HBD HI HB0 HZ
  go_loopw [15] (fun v wr => ∃ k : Nat, v = .int .i64 k ∧ k ≤ n ∧ Hid (IxW w G s (cnt8 (l.take k)) (.slice a n c) wr)) (fun v _ => n - (intOf v).toNat)
  case atStart => exact ⟨0, rfl, Nat.zero_le _, I0.out⟩
  case round =>
    obtain ⟨k, rfl, hk, HR⟩ := hrel
    clear I0
    by_cases hlt : k < n
    · have hkz : (k : Int) < (n : Nat) := by omega
      obtain ⟨e, he⟩ : ∃ e, l[k]? = some e := ⟨l[k]'(by rw [HL.out]; exact hlt), List.getElem?_eq_getElem _⟩
      obtain ⟨ga, oa, rfl, hga, h32, hcells⟩ := (HX.out.below HR.out.bel).get he
      have HT : Hid (l.take (k + 1) = l.take k ++ [e]) := take_snocX he
      obtain ⟨X, hX⟩ : ∃ X, xeC e = X := ⟨_, rfl⟩
      obtain ⟨F, hF⟩ : ∃ F, fst8 e = F := ⟨_, rfl⟩
      have hF256 : F < 256 := by rw [← hF]; exact fst8_lt e
      have hc0 := fst8_cell e h32
      rw [hX, hF] at hc0
      rw [hX] at hcells
      have HF : Hid (fst8 e = F) := hF
      have HCE : Hid (∀ j v, X[j]? = some v → wr.cell? ⟨ga, oa + k * 35 + j, none⟩ = some v) := hcells
      have HIX : Hid ((Try.prog.info? 38).map (·.size) = some X.toList.length ∧ X.all (·.oneCell') = true ∧ X.size = 35) := by rw [← hX]; exact ⟨by rw [inf_xe35, Array.length_toList, xeC_size e h32], xeC_all e, xeC_size e h32⟩
      clear hcells hX he h32 hF
      have B1 : Hid (Bk (wr.alloc (.cells X 38)) wr.heap.size X 38) := bk_new _ _ _
      have R1 : Hid (IxW w G s (cnt8 (l.take k)) (.slice (some ⟨ga, oa, none⟩) n c) (wr.alloc (.cells X 38))) := HR.out.below ((Below.refl _ _).alloc (Nat.le_refl _) _)
      obtain ⟨cn, hcn⟩ : ∃ cn, cnt8 (l.take k) F = cn := ⟨_, rfl⟩
      have hq1 : (wr.alloc (.cells X 38)).cell? ⟨wr.heap.size, 0, none⟩ = some (.int .u8 (F : Int)) := by rw [B1.out.cell]; exact hc0
      have hq2 : (wr.alloc (.cells X 38)).cell? ⟨G, 32 + F, none⟩ = some (.int .i64 (cn : Int)) := by rw [R1.out.blk.cell, ixC_fan s _ _ HS.out F hF256, hcn]
      have hq3 : (wr.alloc (.cells X 38)).frozen? ⟨G, 32 + F, none⟩ = false := R1.out.blk.frozen _
      have hcl : cn ≤ n := by
        rw [← hcn]
        refine Nat.le_trans List.countP_le_length ?_
        rw [List.length_take]; omega
      have HCN : Hid (cnt8 (l.take k) F = cn) := hcn
      clear hcn hc0
      go_wp2_with (first
        | (refine wpList_load_mid rfl 38 (.tmp 17) rfl ga (oa + k * 35) rfl X.toList _ (fun j v hv => HCE.out j v (by rwa [Array.getElem?_toList] at hv)) Try.underlying38 rfl HIX.out.1 ?_)
        | (refine wpList_store_new rfl 38 (.tmp 7) (.tmp 18) rfl X _ 38 wr.heap.size rfl rfl rfl (info_xe HIX.out.2.2) (by rw [HIX.out.2.2]; rfl) HIX.out.2.1 ?_))
      have HNX : Hid (∀ W, IxW w G s (cnt8 (l.take k)) (.slice (some ⟨ga, oa, none⟩) n c) W → IxW w G s (cnt8 (l.take (k + 1))) (.slice (some ⟨ga, oa, none⟩) n c) (W.setCell ⟨G, 32 + F, none⟩ (.int .i64 ((cn + 1 : Nat) : Int)))) := fun W hW => hW.put HS.out hGG F (cn + 1) hF256 _ (fun b hb => by
        rw [HT.out, cnt8_snoc, HF.out]
        by_cases q : b = F
        · rw [if_pos q, if_pos q, q, HCN.out]
        · rw [if_neg q, if_neg q])
      obtain ⟨W2, hW2⟩ : ∃ W, wr.alloc (.cells X 38) = W := ⟨_, rfl⟩
      obtain ⟨gb, hgb⟩ : ∃ g, wr.heap.size = g := ⟨_, rfl⟩
      rw [hW2] at hq1 hq2 hq3 R1 ⊢
      rw [hgb] at hq1 ⊢
      clear hW2 hgb B1 HCE HIX HT HF HCN HR
      have hf1 : (0 : Int) ≤ F := by omega
      have hf2 : (F : Int) < 256 := by omega
      have hcw : IntKind.i64.wrap ((cn : Int) + 1) = (cn : Int) + 1 := by rw [IntKind.wrap_i64]; omega
      have hzk : IntKind.i64.wrap ((k : Int) + 1) = (k : Int) + 1 := by rw [IntKind.wrap_i64]; omega
      go_region
      go_wp2
      go_roundw
      case rel => exact ⟨k + 1, by go_num, by omega, (by have h := HNX.out _ R1.out; push_cast at h; exact h.below (Below.refl _ _).drew)⟩
      case measure => simp [intOf]; omega
    · have hkz : ¬ (k : Int) < (n : Nat) := by omega
      obtain rfl : k = n := by omega
      have hxs : l.take k = l := List.take_of_length_le (by rw [HL.out]; omega)
      rw [hxs] at HR
      clear hxs
      go_wp2
      go_loopw [8] (fun v wr => ∃ b : Nat, v = .int .i64 b ∧ 1 ≤ b ∧ b ≤ 256 ∧ Hid (IxW w G s (fun j => if j < b then fanL l j else cnt8 l j) (.slice a k c) wr)) (fun v _ => 256 - (intOf v).toNat)
      case atStart => exact ⟨1, rfl, by omega, by omega, HR.out.bel, by
        have h := HR.out.blk
        have e : fnC (fun j => if j < 1 then fanL l j else cnt8 l j) = fnC (cnt8 l) := by
          unfold fnC
          apply List.map_congr_left
          intro j _
          by_cases q : j < 1
          · have : j = 0 := by omega
            subst this
            simp [fanL_zero]
          · simp [q]
        unfold ixC at h ⊢
        rw [e]; exact h⟩
      case round =>
        obtain ⟨b, rfl, hb1, hb2, HQ⟩ := hrel
        clear HR
        by_cases hlt : b < 256
        · have hbz : (b : Int) < 256 := by omega
          obtain ⟨c1, hc1⟩ : ∃ c1, cnt8 l b = c1 := ⟨_, rfl⟩
          obtain ⟨c2, hc2⟩ : ∃ c2, fanL l (b - 1) = c2 := ⟨_, rfl⟩
          obtain ⟨d, hd⟩ : ∃ d, b - 1 = d := ⟨_, rfl⟩
          have hq1 : wr.cell? ⟨G, 32 + b, none⟩ = some (.int .i64 (c1 : Int)) := by rw [HQ.out.blk.cell, ixC_fan s _ _ HS.out b hlt, if_neg (by omega), hc1]
          have hq2 : wr.cell? ⟨G, 32 + d, none⟩ = some (.int .i64 (c2 : Int)) := by rw [HQ.out.blk.cell, ixC_fan s _ _ HS.out d (by omega), if_pos (by omega), ← hd, hc2]
          have hq3 : wr.frozen? ⟨G, 32 + b, none⟩ = false := HQ.out.blk.frozen _
          have hl1 : c1 ≤ k := by rw [← hc1, ← HL.out]; exact List.countP_le_length
          have hl2 : c2 ≤ k := by rw [← hc2, ← HL.out]; exact List.countP_le_length
          have HNX : Hid (∀ W, IxW w G s (fun j => if j < b then fanL l j else cnt8 l j) (.slice a k c) W → IxW w G s (fun j => if j < b + 1 then fanL l j else cnt8 l j) (.slice a k c) (W.setCell ⟨G, 32 + b, none⟩ (.int .i64 ((c1 + c2 : Nat) : Int)))) := fun W hW => hW.put HS.out hGG b (c1 + c2) hlt _ (fun j hj => by
            by_cases q : j = b
            · subst q
              rw [if_pos rfl, if_pos (by omega)]
              obtain ⟨t, rfl⟩ : ∃ t, j = t + 1 := ⟨j - 1, by omega⟩
              rw [fanL_step, hc1, ← hc2]; rfl
            · rw [if_neg q]
              by_cases q2 : j < b
              · rw [if_pos q2, if_pos (by omega)]
              · rw [if_neg q2, if_neg (by omega)])
          have hb0 : (0 : Int) ≤ b := by omega
          have hdz : (b : Int) - 1 = d := by omega
          have hd0 : (0 : Int) ≤ d := by omega
          have hd2 : (d : Int) < 256 := by omega
          have hcw : IntKind.i64.wrap ((c1 : Int) + c2) = (c1 : Int) + c2 := by rw [IntKind.wrap_i64]; omega
          have hdw : IntKind.i64.wrap (d : Int) = (d : Int) := by rw [IntKind.wrap_i64]; omega
          have HD : Hid (b - 1 = d) := hd
          clear hc1 hc2 hd
          go_wp2
          go_region
          go_wp2
          go_roundw
          case rel => exact ⟨b + 1, by go_num, by omega, by omega, (by have h := HNX.out _ HQ.out; push_cast at h; exact h.below (Below.refl _ _).drew)⟩
          case measure => simp [intOf]; omega
        · have hbz : ¬ (b : Int) < 256 := by omega
          obtain rfl : b = 256 := by omega
          have IX : Hid (IxS wr G s l) := by
            have h := HQ.out.blk
            have e : fnC (fun j => if j < 256 then fanL l j else cnt8 l j) = fnC (fanL l) := by
              unfold fnC
              apply List.map_congr_left
              intro j hj
              have q := List.mem_range.1 hj
              simp [q]
            refine ⟨⟨a, k, c, ?_, HX.out.below HQ.out.bel, HL.out, HCC.out.1, HCC.out.2⟩, HS.out⟩
            unfold ixC at h ⊢
            rw [e] at h; exact h
          go_wp2
          go_ret
          exact ⟨G, rfl, hGG, IX.out, HQ.out.bel⟩
end Go.Proofs.Ytbdkacfpeokggaa
/- The layings of strings.Builder. -/
namespace Go.Proofs.Ytbdkacfpeokggaa
open Go.Shelf
def lays169_ren : Go.Shelf.Ren := ⟨fun | 169 => 35 | n => n, fun | 70 => 71 | 9 => 9 | 0 => 0 | 72 => 73 | 37 => 67 | 127 => 98 | 3 => 3 | 5 => 5 | n => n, fun | n => n⟩
theorem lays169 : Go.Proofs.Lays.n169 Try.prog lays169_ren := {
  mixed := by kernel_rfl
  f169 := Try.func35.trans (congrArg some (by kernel_rfl))
  t0 := Try.underlying0
  a0 := Try.isAgg0
  z0 := Try.sizeOf0
  v0 := Try.zeroValue0
  t3 := Try.underlying3
  a3 := Try.isAgg3
  z3 := Try.sizeOf3
  v3 := Try.zeroValue3
  t9 := Try.underlying9
  a9 := Try.isAgg9
  z9 := Try.sizeOf9
  v9 := Try.zeroValue9
  t37 := Try.underlying67
  a37 := Try.isAgg67
  z37 := Try.sizeOf67
  v37 := Try.zeroValue67
  t70 := Try.underlying71
  a70 := Try.isAgg71
  z70 := Try.sizeOf71
  v70 := Try.zeroValue71
  t72 := Try.underlying73
  a72 := Try.isAgg73
  z72 := Try.sizeOf73
  v72 := Try.zeroValue73
  t127 := Try.underlying98
  a127 := Try.isAgg98
  z127 := Try.sizeOf98
  v127 := Try.zeroValue98 }
def lays166_ren : Go.Shelf.Ren := ⟨fun | 166 => 32 | 240 => 50 | 276 => 60 | n => n, fun | 0 => 0 | 3 => 3 | 4 => 4 | 5 => 5 | 9 => 9 | 20 => 20 | 37 => 67 | 70 => 71 | 72 => 73 | 75 => 78 | 164 => 110 | 80 => 57 | n => n, fun | n => n⟩
theorem lays166 : Go.Proofs.Lays.n166 Try.prog lays166_ren := {
  mixed := by kernel_rfl
  f166 := Try.func32.trans (congrArg some (by kernel_rfl))
  f240 := Try.func50.trans (congrArg some (by kernel_rfl))
  f276 := Try.func60.trans (congrArg some (by kernel_rfl))
  t0 := Try.underlying0
  a0 := Try.isAgg0
  z0 := Try.sizeOf0
  v0 := Try.zeroValue0
  t3 := Try.underlying3
  a3 := Try.isAgg3
  z3 := Try.sizeOf3
  v3 := Try.zeroValue3
  t4 := Try.underlying4
  a4 := Try.isAgg4
  z4 := Try.sizeOf4
  v4 := Try.zeroValue4
  t9 := Try.underlying9
  a9 := Try.isAgg9
  z9 := Try.sizeOf9
  v9 := Try.zeroValue9
  t20 := Try.underlying20
  a20 := Try.isAgg20
  z20 := Try.sizeOf20
  v20 := Try.zeroValue20
  t37 := Try.underlying67
  a37 := Try.isAgg67
  z37 := Try.sizeOf67
  v37 := Try.zeroValue67
  t70 := Try.underlying71
  a70 := Try.isAgg71
  z70 := Try.sizeOf71
  v70 := Try.zeroValue71
  t72 := Try.underlying73
  a72 := Try.isAgg73
  z72 := Try.sizeOf73
  v72 := Try.zeroValue73
  t75 := Try.underlying78
  a75 := Try.isAgg78
  z75 := Try.sizeOf78
  v75 := Try.zeroValue78
  t164 := Try.underlying110
  a164 := Try.isAgg110
  z164 := Try.sizeOf110
  v164 := Try.zeroValue110 }
theorem extra166 : Builder.Extra Try.prog lays166_ren := {
  sizeBuilder := by kernel_rfl
  liesBuilder := by kernel_rfl
  t5 := Try.underlying5
  a5 := Try.isAgg5
  z5 := Try.sizeOf5
  v5 := Try.zeroValue5
  infoByte := by kernel_rfl
  cellsByte := by kernel_rfl
  sizeByte := by kernel_rfl
  neB5 := by decide }
theorem extra169 : Builder.Extra Try.prog lays169_ren := {
  sizeBuilder := by kernel_rfl
  liesBuilder := by kernel_rfl
  t5 := Try.underlying5
  a5 := Try.isAgg5
  z5 := Try.sizeOf5
  v5 := Try.zeroValue5
  infoByte := by kernel_rfl
  cellsByte := by kernel_rfl
  sizeByte := by kernel_rfl
  neB5 := by decide }
end Go.Proofs.Ytbdkacfpeokggaa
/- strings.Builder, all but WriteByte. -/
namespace Go.Proofs.Ytbdkacfpeokggaa
open Go.RowKit
set_option linter.unusedSimpArgs false
set_option linter.unusedVariables false
/-- A builder that holds these bytes. -/
abbrev Bld (B b : Nat) (l : List UInt8) (w : World) : Prop := Lib.IsBuilderF 73 5 B b (Lib.byteCells l) w
abbrev Oth (b : Nat) (w w' : World) : Prop := Lib.OthersKept 5 (some b) w w'
theorem str_cells (s : ByteArray) : Lib.strCells s = Lib.byteCells s.data.toList := by
  unfold Lib.strCells Lib.byteCells
  rfl
theorem writeS (B b : Nat) (l : List UInt8) (s : ByteArray) (w : World) (h : Bld B b l w) (hlen : l.length + s.size ≤ 140737488355328) (hBw : B ≤ w.heap.size) :
    Calls Try.prog 32 #[.pointer (some ⟨b, 0, none⟩), .string s] w fun e w' => e = .returned (.tuple #[.int .i64 s.size, .nilIface]) ∧ Bld B b (l ++ s.data.toList) w' ∧ Below B w w' ∧ Oth b w w' :=
  (Any.Builder_WriteString_k lays166 extra166 B b (Lib.byteCells l) s w h (by rw [Lib.byteCells_length]; exact hlen) hBw).mono fun e w' ⟨he, h1, h2, h3⟩ =>
    ⟨he, by rw [Bld, Lib.byteCells_append, ← str_cells]; exact Or.inr h1, h2, h3⟩
theorem buildS (B b : Nat) (l : List UInt8) (w : World) (h : Bld B b l w) (hBw : B ≤ w.heap.size) :
    Calls Try.prog 35 #[.pointer (some ⟨b, 0, none⟩)] w fun e w' => e = .returned (.string ⟨l.toArray⟩) ∧ Bld B b l w' ∧ Below B w w' ∧ Oth b w w' :=
  Any.Builder_String_any_k lays169 extra169 B b l w h hBw
theorem fresh_bld (w : World) : Bld w.heap.size w.heap.size [] (w.alloc (.cells #[.pointer none, .slice none 0 0] 73)) := Lib.IsBuilderF.of (Lib.fresh_isBuilder _ _ w)
end Go.Proofs.Ytbdkacfpeokggaa
/- The laying of strings.Builder.Grow. -/
namespace Go.Proofs.Ytbdkacfpeokggaa
open Go.Shelf
def lays165_ren : Go.Shelf.Ren := ⟨fun | 165 => 29 | 240 => 50 | 241 => 51 | 276 => 60 | 277 => 61 | n => n, fun | 70 => 71 | 3 => 3 | 0 => 0 | 4 => 4 | 9 => 9 | 20 => 20 | 72 => 73 | 37 => 67 | 164 => 110 | 5 => 5 | n => n, fun | n => n⟩
theorem lays165 : Go.Proofs.Lays.n165 Try.prog lays165_ren := {
  mixed := by kernel_rfl
  f165 := Try.func29.trans (congrArg some (by kernel_rfl))
  f240 := Try.func50.trans (congrArg some (by kernel_rfl))
  f241 := Try.func51.trans (congrArg some (by kernel_rfl))
  f276 := Try.func60.trans (congrArg some (by kernel_rfl))
  f277 := Try.func61.trans (congrArg some (by kernel_rfl))
  t0 := Try.underlying0
  a0 := Try.isAgg0
  z0 := Try.sizeOf0
  v0 := Try.zeroValue0
  t3 := Try.underlying3
  a3 := Try.isAgg3
  z3 := Try.sizeOf3
  v3 := Try.zeroValue3
  t4 := Try.underlying4
  a4 := Try.isAgg4
  z4 := Try.sizeOf4
  v4 := Try.zeroValue4
  t9 := Try.underlying9
  a9 := Try.isAgg9
  z9 := Try.sizeOf9
  v9 := Try.zeroValue9
  t20 := Try.underlying20
  a20 := Try.isAgg20
  z20 := Try.sizeOf20
  v20 := Try.zeroValue20
  t37 := Try.underlying67
  a37 := Try.isAgg67
  z37 := Try.sizeOf67
  v37 := Try.zeroValue67
  t70 := Try.underlying71
  a70 := Try.isAgg71
  z70 := Try.sizeOf71
  v70 := Try.zeroValue71
  t72 := Try.underlying73
  a72 := Try.isAgg73
  z72 := Try.sizeOf73
  v72 := Try.zeroValue73
  t164 := Try.underlying110
  a164 := Try.isAgg110
  z164 := Try.sizeOf110
  v164 := Try.zeroValue110 }
end Go.Proofs.Ytbdkacfpeokggaa
/- strings.Builder: Write of bytes that lie somewhere, Grow of a fresh one. -/
namespace Go.Proofs.Ytbdkacfpeokggaa
open Go.RowKit
set_option linter.unusedSimpArgs false
set_option linter.unusedVariables false
set_option maxHeartbeats 2000000 in
set_option maxRecDepth 100000 in
theorem writeV (B b : Nat) (l L : List UInt8) (g o n c : Nat) (C : Array Value) (T : TypeId) (w : World) (h : Bld B b l w) (hB0 : Bk w g C T) (hT : T ≠ 5) (hgb : g ≠ b) (hL : L.length = n) (hc : ∀ j u, (Lib.byteCells L)[j]? = some u → C[o + j]? = some u) (hlen : l.length + n ≤ 140737488355328) (hBw : B ≤ w.heap.size) :
    Calls Try.prog 33 #[.pointer (some ⟨b, 0, none⟩), .slice (some ⟨g, o, none⟩) n c] w fun e w' => e = .returned (.tuple #[.int .i64 n, .nilIface]) ∧ Bld B b (l ++ L) w' ∧ Below B w w' ∧ Oth b w w' := by
  obtain ⟨i0, hi, hz0, hz1, hz2⟩ := info_parts extra166.infoByte
  have hi' : Try.prog.info? 5 = some i0 := hi
  have e240 : ∀ args w, (callFunc 50 args).run Try.prog w = .ok (.enter 50 args) w := enters_of Try.func50 (by kernel_rfl) rfl
  have HCK : Hid (Calls Try.prog 50 #[.pointer (some ⟨b, 0, none⟩)] w fun e w' => e = .returned (.tuple #[]) ∧ (Lib.BuilderAtF 73 5 B b (.pointer (some ⟨b, 0, none⟩)) (Lib.byteCells l) w' ∧ Below B w w' ∧ Lib.OthersKept 5 (some b) w w')) := Any.Builder_copyCheck_k { lays166 with } extra166.toX72 B b (Lib.byteCells l) w h
  have HB0 : Hid (Bk w g C T) := hB0
  have HC : Hid (∀ j u, (Lib.byteCells L)[j]? = some u → C[o + j]? = some u) := hc
  have HLL : Hid (L.length = n) := hL
  clear h hB0 hc hi
  have hbl := Lib.byteCells_length l
  have hbL := Lib.byteCells_length L
  go_enter Try.func33, Try.ntmps33
  go_wp2_with fail
  refine HCK.out.mono ?_
  rintro e w1 ⟨rfl, h1, hb1, hk1⟩
  obtain ⟨hB, v, hbk, hown, hne⟩ := h1
  have c0 : w1.cell? ⟨b, 0, none⟩ = some (.pointer (some ⟨b, 0, none⟩)) := by rw [Lib.cell_of_heap hbk]; rfl
  have c1 : w1.cell? ⟨b, 1, none⟩ = some v := by rw [Lib.cell_of_heap hbk]; rfl
  have HB1 : Hid (Bk w1 g C T) := hk1 g _ HB0.out (fun e => hgb (Option.some.inj e)) (fun c' fz e => by injection e with _ e2; exact hT e2)
  go_wp2_with (at_builtin; refine wpList_append_ownF _ rfl _ _ 67 rfl B 5 i0 (.int .u8 0) 1 1 Try.underlying67 hi' hz0 hz1 hz2 rfl (by decide) _ _ _ rfl hown ⟨g, o, none⟩ n c (Lib.byteCells L) rfl ?c0 ?c1 ?c2 ?c3 ?c4 ?c5 ?_)
  case c0 => rw [hbL, HLL.out, Nat.mul_one]
  case c1 =>
    intro j u hj
    rw [WideShapes.add_plain, HB1.out.cell]
    exact HC.out j u hj
  case c2 => exact Lib.byteCells_one L
  case c3 => rw [hbl]; unfold maxLen; omega
  case c4 => rw [hbl]; omega
  case c5 => have := hb1.size; omega
  intro v' w2 hown' hgrow _
  have hlt : b < w1.heap.size := by
    rcases Nat.lt_or_ge b w1.heap.size with h' | h'
    · exact h'
    · simp [Array.getElem?_eq_none h'] at hbk
  have hb2 : w2.heap[b]? = some (.cells #[.pointer (some ⟨b, 0, none⟩), v] 73 (0, 0)) := by
    rw [hgrow.block b hlt (fun e => hne e.symm)]
    exact hbk
  have d0 : w2.cell? ⟨b, 0, none⟩ = some (.pointer (some ⟨b, 0, none⟩)) := by rw [Lib.cell_of_heap hb2]; rfl
  have d1 : w2.cell? ⟨b, 1, none⟩ = some v := by rw [Lib.cell_of_heap hb2]; rfl
  have f1 : w2.frozen? ⟨b, 1, none⟩ = false := Lib.frozen_of_heap hb2 1
  obtain ⟨ao, n', cap, rfl⟩ : ∃ ao n' cap, v' = .slice ao n' cap := by
    rcases hown'.2 with ⟨hv, _⟩ | ⟨g, cap, cur, fz, hv, _⟩
    · exact ⟨_, _, _, hv⟩
    · exact ⟨_, _, _, hv⟩
  have HE : Hid (Bld B b (l ++ L) (w2.setCell ⟨b, 1, none⟩ (.slice ao n' cap)) ∧ Below B w (w2.setCell ⟨b, 1, none⟩ (.slice ao n' cap)) ∧ Oth b w (w2.setCell ⟨b, 1, none⟩ (.slice ao n' cap))) := by
    refine ⟨Or.inr ?_, ?_, (hk1.grown hgrow (Lib.ownsRowF_kind hown)).setCell ⟨b, 1, none⟩ rfl _⟩
    · rw [Lib.byteCells_append]
      exact Lib.BuilderAtF.put (T := 73) (e := 5) hB hb2 (bs' := Lib.byteCells l ++ Lib.byteCells L) (by rw [List.length_append, hbL, hbl, HLL.out]; exact hown') extra166.neB5
    · exact (hb1.grown hgrow (by have := hb1.size; omega) (fun k hk => (hown.lt k hk).1)).setCell (p := ⟨b, 1, none⟩) hB _
  clear hown hown' hgrow hk1 hb1 hbk hb2 hne
  go_wp2
  go_ret2
  exact ⟨rfl, HE.out⟩
theorem extra165 : Builder.Extra Try.prog lays165_ren := {
  sizeBuilder := by kernel_rfl
  liesBuilder := by kernel_rfl
  t5 := Try.underlying5
  a5 := Try.isAgg5
  z5 := Try.sizeOf5
  v5 := Try.zeroValue5
  infoByte := by kernel_rfl
  cellsByte := by kernel_rfl
  sizeByte := by kernel_rfl
  neB5 := by decide }
/-- Grow of a builder that was just made. -/
theorem growB (n : Nat) (w : World) (hn : n ≤ 281474976710656) :
    Calls Try.prog 29 #[.pointer (some ⟨w.heap.size, 0, none⟩), .int .i64 n] (w.alloc (.cells #[.pointer none, .slice none 0 0] 73)) fun e w' => e = .returned (.tuple #[]) ∧ Bld w.heap.size w.heap.size [] w' ∧ Below w.heap.size w w' := by
  refine (Any.Builder_Grow_fresh lays165 extra165 w.heap.size w.heap.size n (w.alloc (.cells #[.pointer none, .slice none 0 0] 73)) (Nat.le_refl _) (bk_new _ _ _) (by rw [al_size]; omega) hn).mono ?_
  rintro e w' ⟨he, h1, h2⟩
  exact ⟨he, .inr (Lib.BuilderAtF.of h1), ((Below.refl _ _).alloc (Nat.le_refl _) _).trans h2⟩
end Go.Proofs.Ytbdkacfpeokggaa
/- The laying of strings.Builder.WriteByte. -/
namespace Go.Proofs.Ytbdkacfpeokggaa
open Go.Shelf
def lays167_ren : Go.Shelf.Ren := ⟨fun | 167 => 34 | 240 => 50 | 276 => 60 | n => n, fun | 0 => 0 | 3 => 3 | 4 => 4 | 5 => 5 | 9 => 9 | 20 => 20 | 37 => 67 | 70 => 71 | 72 => 73 | 75 => 78 | 164 => 110 | 80 => 57 | n => n, fun | n => n⟩
theorem lays167 : Go.Proofs.Lays.n167 Try.prog lays167_ren := {
  mixed := by kernel_rfl
  f167 := Try.func34.trans (congrArg some (by kernel_rfl))
  f240 := Try.func50.trans (congrArg some (by kernel_rfl))
  f276 := Try.func60.trans (congrArg some (by kernel_rfl))
  t0 := Try.underlying0
  a0 := Try.isAgg0
  z0 := Try.sizeOf0
  v0 := Try.zeroValue0
  t4 := Try.underlying4
  a4 := Try.isAgg4
  z4 := Try.sizeOf4
  v4 := Try.zeroValue4
  t5 := Try.underlying5
  a5 := Try.isAgg5
  z5 := Try.sizeOf5
  v5 := Try.zeroValue5
  t9 := Try.underlying9
  a9 := Try.isAgg9
  z9 := Try.sizeOf9
  v9 := Try.zeroValue9
  t20 := Try.underlying20
  a20 := Try.isAgg20
  z20 := Try.sizeOf20
  v20 := Try.zeroValue20
  t37 := Try.underlying67
  a37 := Try.isAgg67
  z37 := Try.sizeOf67
  v37 := Try.zeroValue67
  t70 := Try.underlying71
  a70 := Try.isAgg71
  z70 := Try.sizeOf71
  v70 := Try.zeroValue71
  t72 := Try.underlying73
  a72 := Try.isAgg73
  z72 := Try.sizeOf73
  v72 := Try.zeroValue73
  t75 := Try.underlying78
  a75 := Try.isAgg78
  z75 := Try.sizeOf78
  v75 := Try.zeroValue78
  t164 := Try.underlying110
  a164 := Try.isAgg110
  z164 := Try.sizeOf110
  v164 := Try.zeroValue110 }
theorem extra167 : Builder.Extra Try.prog lays167_ren := {
  sizeBuilder := by kernel_rfl
  liesBuilder := by kernel_rfl
  t5 := Try.underlying5
  a5 := Try.isAgg5
  z5 := Try.sizeOf5
  v5 := Try.zeroValue5
  infoByte := by kernel_rfl
  cellsByte := by kernel_rfl
  sizeByte := by kernel_rfl
  neB5 := by decide }
end Go.Proofs.Ytbdkacfpeokggaa
/- strings.Builder. -/
namespace Go.Proofs.Ytbdkacfpeokggaa
open Go.RowKit
set_option linter.unusedSimpArgs false
set_option linter.unusedVariables false
theorem writeB (B b : Nat) (l : List UInt8) (c : UInt8) (w : World) (h : Bld B b l w) (hlen : l.length + 1 ≤ 140737488355328) (hBw : B ≤ w.heap.size) :
    Calls Try.prog 34 #[.pointer (some ⟨b, 0, none⟩), .int .u8 (c.toNat : Int)] w fun e w' => e = .returned .nilIface ∧ Bld B b (l ++ [c]) w' ∧ Below B w w' ∧ Oth b w w' :=
  (Any.Builder_WriteByte_k lays167 extra167 B b (Lib.byteCells l) (c.toNat : Int) w h (by rw [Lib.byteCells_length]; exact hlen) hBw).mono fun e w' ⟨he, h1, h2, h3⟩ =>
    ⟨he, by rw [Bld, Lib.byteCells_append]; exact Or.inr h1, h2, h3⟩
end Go.Proofs.Ytbdkacfpeokggaa
/- strings.Builder: what is kept. -/
namespace Go.Proofs.Ytbdkacfpeokggaa
open Go.RowKit
set_option linter.unusedSimpArgs false
set_option linter.unusedVariables false
theorem oth_bk11 {b k : Nat} {w w' : World} {C : Array Value} {T : TypeId} (h : Oth b w w') (hb : Bk w k C T) (hk : k ≠ b) (hT : T ≠ 5) : Bk w' k C T :=
  h k _ hb (by simpa using hk) (fun c fz e => hT (by injection e))
theorem grn_keep11 {w w' : World} (h : Below w.heap.size w w') : w.grownBy w' none := ⟨h.os, h.tape, h.output, h.size, fun i hi _ => h.block i hi⟩
theorem bldAt_keep11 {B b : Nat} {p : Value} {l : List Value} {w w' : World} (h : Lib.BuilderAtF 73 5 B b p l w) (hb : Below w.heap.size w w') : Lib.BuilderAtF 73 5 B b p l w' := by
  obtain ⟨h1, v, h2, h3, h4⟩ := h
  have hlt : b < w.heap.size := (Array.getElem?_eq_some_iff.1 h2).1
  exact ⟨h1, v, (hb.block b hlt).trans h2, h3.kept (grn_keep11 hb) (by cases v.ownBlock <;> simp), h4⟩
theorem bld_keep11 {B b : Nat} {l : List UInt8} {w w' : World} (h : Bld B b l w) (hb : Below w.heap.size w w') : Bld B b l w' := by
  rcases h with h | h
  · exact .inl (bldAt_keep11 h hb)
  · exact .inr (bldAt_keep11 h hb)
/-- A map's block is turned, or one of another type: the builder stays. -/
theorem bldAt_apart {B b m : Nat} {p : Value} {l : List Value} {w w' : World} (h : Lib.BuilderAtF 73 5 B b p l w) (hg : w.grownBy w' (some m)) (hm : ∀ C T F, w.heap[m]? = some (.cells C T F) → T ≠ 5 ∧ T ≠ 73) : Lib.BuilderAtF 73 5 B b p l w' := by
  obtain ⟨h1, v, h2, h3, h4⟩ := h
  have hlt : b < w.heap.size := (Array.getElem?_eq_some_iff.1 h2).1
  refine ⟨h1, v, (hg.block b hlt (fun e => by injection e with e; subst e; exact (hm _ _ _ h2).2 rfl)).trans h2, h3.kept hg ?_, h4⟩
  rcases h3.2 with ⟨rfl, _⟩ | ⟨g, cap, cur, fz, rfl, hb, hgg, _⟩
  · exact .inl rfl
  · refine .inr ?_
    simp only [Value.ownBlock]
    intro e
    injection e with e
    subst e
    exact (hm _ _ _ hgg).1 rfl
theorem bld_apart {B b m : Nat} {l : List UInt8} {w w' : World} (h : Bld B b l w) (hg : w.grownBy w' (some m)) (hm : ∀ C T F, w.heap[m]? = some (.cells C T F) → T ≠ 5 ∧ T ≠ 73) : Bld B b l w' := by
  rcases h with h | h
  · exact .inl (bldAt_apart h hg hm)
  · exact .inr (bldAt_apart h hg hm)
theorem bld_lt {B b : Nat} {l : List UInt8} {w : World} (h : Bld B b l w) : B ≤ b ∧ b < w.heap.size := by
  rcases h with ⟨h1, v, h2, _⟩ | ⟨h1, v, h2, _⟩ <;> exact ⟨h1, (Array.getElem?_eq_some_iff.1 h2).1⟩
/-- What a builder's cells are. -/
theorem bld_cells {B b : Nat} {l : List UInt8} {w : World} (h : Bld B b l w) : ∃ p a c, Bk w b #[p, .slice a l.length c] 73 := by
  have key : ∀ p, Lib.BuilderAtF 73 5 B b p (Lib.byteCells l) w → ∃ p a c, Bk w b #[p, .slice a l.length c] 73 := by
    rintro p ⟨h1, v, h2, h3, h4⟩
    rw [Lib.byteCells_length] at h3
    rcases h3.2 with ⟨rfl, h0⟩ | ⟨g, cap, cur, fz, rfl, hb, hgg, _⟩
    · have hl : l.length = 0 := h0
      exact ⟨p, none, 0, by rw [hl]; exact h2⟩
    · exact ⟨_, _, _, h2⟩
  rcases h with h | h
  · exact key _ h
  · exact key _ h
end Go.Proofs.Ytbdkacfpeokggaa
/- The leaf walks of package wire: isWidth, bits.Len64, Len: what each call returns, the world as it was. -/
namespace Go.Proofs.Ytbdkacfpeokggaa
open Go.RowKit
set_option linter.unusedSimpArgs false
set_option linter.unusedVariables false
theorem ret_int {k : IntKind} {a b : Int} (h : a = b) : Ending.returned (.int k a) = .returned (.int k b) := by rw [h]
theorem len8_get (i : Nat) (h : i < Lib.len8tab.size) : ((Lib.len8tab[i]'h).toNat : Int) = (Lib.bitLen i : Int) := by
  have hz := Lib.len8tab_size
  have e := Lib.len8_eq ⟨i, by omega⟩
  simp only [Lib.len8, Int.toNat_natCast] at e
  rw [← e]
  simp [h]
theorem bitLen_le8n (i : Nat) (h : i < 256) : Lib.bitLen i ≤ 8 := Lib.bitLen_le8 ⟨i, h⟩
theorem len64_fin (x i : Nat) (k : Nat) (b : Int) (hi : i = x / 2 ^ k) (hk : k ≤ 56) (hx : x < 2 ^ 64) (h8 : i < 256) (hb : b = (Lib.bitLen i : Int)) (hsh : k = 0 ∨ 2 ^ k ≤ x) :
    wrap64 ((k : Int) + wrap64 b) = (Lib.bitLen x : Int) := by
  have l := bitLen_le8n i h8
  have e : Lib.bitLen x = k + Lib.bitLen i := by
    rcases hsh with h | h
    · subst h; simp at hi; subst hi; simp
    · rw [hi]; exact Lib.bitLen_shift k x h hx
  subst hb
  unfold wrap64
  omega
theorem len64_fin0 (x : Nat) (b : Int) (h8 : x < 256) (hb : b = (Lib.bitLen x : Int)) : wrap64 (wrap64 b) = (Lib.bitLen x : Int) := by
  have l := bitLen_le8n x h8
  subst hb
  unfold wrap64
  omega
set_option maxHeartbeats 400000 in
set_option maxRecDepth 100000 in
theorem len64_any (x : Int) (w : World) (h0 : 0 ≤ x) (h1 : x ≤ 18446744073709551615) :
    Calls Try.prog 49 #[.int .u64 x] w fun e w' => e = .returned (.int .i64 (Lib.bitLen x.toNat)) ∧ w' = w := by
  have hz := Lib.len8tab_size
  go_enter Try.func49, Try.ntmps49
  go_wp2
  all_goals first | (exfalso; omega) | skip
  all_goals go_ret
  all_goals refine ⟨ret_int ?_, rfl⟩
  · exact len64_fin x.toNat (x / 4294967296 / 65536 / 256).toNat 56 _ (by omega) (by omega) (by omega) (by omega) (len8_get _ _) (by omega)
  · exact len64_fin x.toNat (x / 4294967296 / 65536).toNat 48 _ (by omega) (by omega) (by omega) (by omega) (len8_get _ _) (by omega)
  · exact len64_fin x.toNat (x / 4294967296 / 256).toNat 40 _ (by omega) (by omega) (by omega) (by omega) (len8_get _ _) (by omega)
  · exact len64_fin x.toNat (x / 4294967296).toNat 32 _ (by omega) (by omega) (by omega) (by omega) (len8_get _ _) (by omega)
  · exact len64_fin x.toNat (x / 65536 / 256).toNat 24 _ (by omega) (by omega) (by omega) (by omega) (len8_get _ _) (by omega)
  · exact len64_fin x.toNat (x / 65536).toNat 16 _ (by omega) (by omega) (by omega) (by omega) (len8_get _ _) (by omega)
  · exact len64_fin x.toNat (x / 256).toNat 8 _ (by omega) (by omega) (by omega) (by omega) (len8_get _ _) (by omega)
  · exact len64_fin0 x.toNat _ (by omega) (len8_get _ _)
/-- Whether a number is a width. -/
def isW (n : Int) : Bool := decide (1 ≤ n ∧ n ≤ 8)
theorem isW_yes {n : Int} (h1 : 1 ≤ n) (h2 : n ≤ 8) : isW n = true := decide_eq_true ⟨h1, h2⟩
theorem isW_no {n : Int} (h : n < 1 ∨ 8 < n) : isW n = false := decide_eq_false (by omega)
theorem isW_iff {n : Int} : isW n = true ↔ 1 ≤ n ∧ n ≤ 8 := by unfold isW; simp
theorem ret_bool {a b : Bool} (h : a = b) : Ending.returned (.bool a) = .returned (.bool b) := by rw [h]
set_option maxHeartbeats 400000 in
theorem isWidth_any (n : Int) (w : World) :
    Calls Try.prog 52 #[.int .i64 n] w fun e w' => e = .returned (.bool (isW n)) ∧ w' = w := by
  by_cases h1 : 1 ≤ n
  · by_cases h2 : n ≤ 8
    · go_enter Try.func52, Try.ntmps52
      go_wp2
      go_ret
      exact ⟨ret_bool (isW_yes h1 h2).symm, rfl⟩
    · go_enter Try.func52, Try.ntmps52
      go_wp2
      go_ret
      exact ⟨ret_bool (isW_no (by omega)).symm, rfl⟩
  · go_enter Try.func52, Try.ntmps52
    go_wp2
    go_ret
    exact ⟨ret_bool (isW_no (by omega)).symm, rfl⟩
theorem sizeOf_u8 (w : World) : (sizeOf 5).run Try.prog w = .ok 1 w := by kernel_rfl
theorem ret_str {a b : ByteArray} (h : a = b) : Ending.returned (.string a) = .returned (.string b) := by rw [h]
theorem append_size (a b : ByteArray) : (a ++ b).size = a.size + b.size := by simp
end Go.Proofs.Ytbdkacfpeokggaa
/- The walk of wire.PutFixed. -/
namespace Go.Proofs.Ytbdkacfpeokggaa
open Go.RowKit
set_option linter.unusedSimpArgs false
set_option linter.unusedVariables false
theorem ret_se {a b : ByteArray} {k : IntKind} {c : Int} (h : a = b) : Ending.returned (.tuple #[.string a, .int k c]) = .returned (.tuple #[.string b, .int k c]) := by rw [h]
theorem slice8 (a : Addr) (h : Int) (h0 : 0 ≤ h) (h2 : h ≤ 8) (w : World) :
    (Instr.sliceAt 97 (.pointer (some a)) none (some (.int .i64 h)) none).run Try.prog w = .ok (.slice (some a) h.toNat 8) w := by
  have e1 : Try.prog.elem 97 = 5 := by kernel_rfl
  have e2 : Try.prog.arrayLen 97 = 8 := by kernel_rfl
  have e0 : Try.prog.underlying 97 = some (.array (Try.prog.arrayLen 97) (Try.prog.elem 97)) := by kernel_rfl
  rw [run_sliceAt_array_h (P := Try.prog) w 97 a e0 .i64 h h0 (by rw [e2]; exact h2)]
  rw [e1, e2, sizeOf_u8]
  simp [slicedAt, Result.andThen, Addr.add]
theorem fix_next (n k d : Nat) (arr : Array Value) (b : Int) (hk : k < d) (hd : d ≤ 8) (hsz : arr.size = 8) (hall : ∀ j, j < 8 → ∃ z, arr[j]? = some (.int .u8 z))
    (harr : ∀ j, j < k → arr[d - 1 - j]? = some (.int .u8 (n / 256 ^ j % 256 : Nat))) (hb : b = (n / 256 ^ k % 256 : Nat)) :
    (arr.setIfInBounds (d - 1 - k) (.int .u8 b)).size = 8 ∧ (∀ j, j < 8 → ∃ z, (arr.setIfInBounds (d - 1 - k) (.int .u8 b))[j]? = some (.int .u8 z)) ∧
      ∀ j, j < k + 1 → (arr.setIfInBounds (d - 1 - k) (.int .u8 b))[d - 1 - j]? = some (.int .u8 (n / 256 ^ j % 256 : Nat)) := by
  refine ⟨by simp [hsz], fun j hj => ?_, fun j hj => ?_⟩
  · rw [Array.getElem?_setIfInBounds]
    split
    · exact ⟨b, by simp [hsz]; omega⟩
    · exact hall j hj
  · rw [Array.getElem?_setIfInBounds]
    split
    · rename_i e; have e : k = j := by omega
      subst e; rw [if_pos (by omega), hb]
    · exact harr j (by omega)
theorem fix_conv (n d : Nat) (arr : Array Value) (w : World) (T : TypeId) (hd : d ≤ 8) (hsz : arr.size = 8)
    (harr : ∀ j, j < d → arr[d - 1 - j]? = some (.int .u8 (n / 256 ^ j % 256 : Nat))) :
    (convert 67 9 (.slice (some ⟨w.heap.size, 0, none⟩) d 8)).run Try.prog (w.alloc (.cells arr T)) = .ok (.string (sb (fixN d n))) (w.alloc (.cells arr T)) := by
  rw [← sb_nums]
  refine run_convert_bytes_arg _ 67 5 Try.underlying67 Try.underlying5 _ 0 d 8 _ (by simp [fixN_length]) (fun i hi => ?_) 9 Try.underlying9
  rw [Nat.zero_add, World.cell?_alloc_new, List.getD, List.getElem?_map]
  have e1 := harr (d - 1 - i) (by omega)
  have e2 := fixN_get d n (d - 1 - i) (by omega)
  rw [show d - 1 - (d - 1 - i) = i from by omega] at e1 e2
  rw [e1, e2]
  rfl
set_option maxHeartbeats 400000 in
theorem putFixed_ok (s : ByteArray) (x : Int) (d : Nat) (w : World) (h0 : 0 ≤ x) (h1 : x ≤ 18446744073709551615) (hd1 : 1 ≤ d) (hd2 : d ≤ 8) (hfit : x.toNat < 256 ^ d) (hs : s.size ≤ 4611686018427387904) :
    Calls Try.prog 31 #[.string s, .int .u64 x, .int .i64 d] w fun e w' => e = .returned (.tuple #[.string (s ++ sb (fixN d x.toNat)), .int .i64 0]) ∧ Below w.heap.size w w' := by
  have hbl : (Lib.bitLen x.toNat : Int) ≤ 8 * (d : Int) := by have := (bitLen_fits x.toNat d (by omega)).2 hfit; omega
  have hiw : isW (d : Int) = true := isW_yes (by omega) (by omega)
  obtain ⟨n, hn⟩ : ∃ n, n = x.toNat := ⟨_, rfl⟩
  have HN : Hid (n = x.toNat) := hn
  clear hn hfit
  go_enter Try.func31, Try.ntmps31
  go_wp2_with (first | (go_at_call 52; refine (isWidth_any _ _).mono ?_; rintro e w' ⟨rfl, rfl⟩; rw [hiw]) | (go_at_call 49; refine (len64_any x _ h0 h1).mono ?_; rintro e w' ⟨rfl, rfl⟩))
  go_loopw [1, 21] (fun v i wr => ∃ (k y : Nat) (arr : Array Value), k ≤ d ∧ i = .int .i64 k ∧ v = .int .u64 y ∧ y < 2 ^ 64 ∧ wr = w'.alloc (.cells arr 97) ∧ Hid (y = n / 256 ^ k ∧ arr.size = 8 ∧ (∀ j, j < 8 → ∃ z, arr[j]? = some (.int .u8 z)) ∧ ∀ j, j < k → arr[d - 1 - j]? = some (.int .u8 (n / 256 ^ j % 256 : Nat)))) (fun _ i _ => 10 - (intOf i).toNat)
  case atStart =>
    refine ⟨0, x.toNat, _, Nat.zero_le _, rfl, by go_num, by omega, rfl, ⟨by simp [HN.out], by simp, fun j hj => ?_, fun j hj => by omega⟩⟩
    refine ⟨0, ?_⟩
    rw [show (#[Value.int .u8 0, Value.int .u8 0, Value.int .u8 0, Value.int .u8 0, Value.int .u8 0, Value.int .u8 0, Value.int .u8 0, Value.int .u8 0] : Array Value) = Array.replicate 8 (Value.int .u8 0) from rfl]
    simp [hj]
  case round =>
    obtain ⟨k, y, arr, hk, rfl, rfl, hy, rfl, HR⟩ := hrel
    by_cases hlt : k < d
    · obtain ⟨z, hz⟩ := HR.out.2.2.1 (d - 1 - k) (by omega)
      have hz' : arr[((d : Int) - 1 - k).toNat]? = some (.int .u8 z) := by rw [show ((d : Int) - 1 - k).toNat = d - 1 - k from by omega]; exact hz
      go_wp2
      go_roundw
      case rel => 
        obtain ⟨hy, a1, a2, a3⟩ := HR.out
        refine ⟨k + 1, y / 256, _, by omega, by go_num, by go_num, by omega, rfl, ⟨?_, ?_⟩⟩
        · rw [hy, Nat.div_div_eq_div_mul, Nat.pow_succ]
        · exact fix_next n k d arr _ (by omega) (by omega) a1 a2 a3 (by rw [← hy]; omega)
      case measure => simp [intOf]; omega
    · obtain ⟨z, hz⟩ := HR.out.2.2.1 (d - 1) (by omega)
      have hke : k = d := by omega
      subst hke
      have hc := fix_conv n k arr w' 97 (by omega) HR.out.2.1 HR.out.2.2.2
      have hsl := slice8 ⟨w'.heap.size, 0, none⟩ (k : Int) (by omega) (by omega)
      have hsb : (sb (fixN k n)).size ≤ 10 := by rw [sb_size, fixN_length]; omega
      go_wp2
      go_ret2
      exact ⟨ret_se (by rw [HN.out]), by go_grown⟩
set_option maxHeartbeats 400000 in
theorem putFixed_no (s : ByteArray) (x d : Int) (w : World) (h0 : 0 ≤ x) (h1 : x ≤ 18446744073709551615) (hno : isW d = true → 256 ^ d.toNat ≤ x.toNat) :
    Calls Try.prog 31 #[.string s, .int .u64 x, .int .i64 d] w fun e w' => e = .returned (.tuple #[.string ⟨#[]⟩, .int .i64 1]) ∧ w' = w := by
  have H : Hid (isW d = true → 256 ^ d.toNat ≤ x.toNat) := hno
  clear hno
  cases hiw : isW d
  · clear H
    go_enter Try.func31, Try.ntmps31
    go_wp2_with (go_at_call 52; refine (isWidth_any _ _).mono ?_; rintro e w' ⟨rfl, rfl⟩; rw [hiw])
    go_ret2
    exact ⟨rfl, rfl⟩
  · have hd := isW_iff.1 hiw
    have hb : 8 * d < (Lib.bitLen x.toNat : Int) := by
      have := bitLen_fits x.toNat d.toNat (by omega)
      have := H.out hiw
      omega
    clear H
    go_enter Try.func31, Try.ntmps31
    go_wp2_with (first | (go_at_call 52; refine (isWidth_any _ _).mono ?_; rintro e w' ⟨rfl, rfl⟩; rw [hiw]) | (go_at_call 49; refine (len64_any x _ h0 h1).mono ?_; rintro e w' ⟨rfl, rfl⟩))
    go_ret2
    exact ⟨rfl, rfl⟩
end Go.Proofs.Ytbdkacfpeokggaa
