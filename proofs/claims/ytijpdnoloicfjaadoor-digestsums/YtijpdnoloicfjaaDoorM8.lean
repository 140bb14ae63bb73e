import Derived.Test.YtijpdnoloicfjaaDoorM7
import Derived.Test.YtijpdnoloicfjaaDoorM3
import Derived.Test.YtijpdnoloicfjaaDoorM5
/- The document's own sum: how it begins: the message filled up. -/
namespace Go.Proofs.YtijpdnoloicfjaaDoor
open Go.RowKit
set_option linter.unusedSimpArgs false
set_option linter.unusedVariables false
/-- The rounds' constants as cells. -/
def kcs : Array Value := (KL.map c32).toArray
theorem kcs_get (t : Nat) (ht : t < 64) : kcs[t]? = some (c32 (KT t)) := by
  have hl : KL.length = 64 := rfl
  unfold kcs KT
  rw [List.getElem?_toArray, List.getElem?_map, List.getD, List.getElem?_eq_getElem (by omega)]
  rfl
/-- The world behind the parameters' boxes and the result's. -/
abbrev sumW (w : World) : World := ((w.alloc (.cells (v8c H0) 39)).alloc (.cells kcs 49)).alloc (.cells z32c 23)
/-- What stands while blocks are taken: the eight numbers, the constants, the result's box. -/
structure Su (w : World) (n0 : Nat) (h : V8) (wr : World) : Prop where
  st : Blk wr n0 (v8c h) 39
  k : Blk wr (n0 + 1) kcs 49
  res : Blk wr (n0 + 2) z32c 23
  below : Below n0 w wr
theorem Su.start (w : World) : Su w w.heap.size H0 (sumW w) := by
  have z1 := alloc_size w (.cells (v8c H0) 39)
  have z2 := alloc_size (w.alloc (.cells (v8c H0) 39)) (.cells kcs 49)
  have g2 := World.grownBy_alloc (w.alloc (.cells (v8c H0) 39)) (.cells kcs 49) none
  have g3 := World.grownBy_alloc ((w.alloc (.cells (v8c H0) 39)).alloc (.cells kcs 49)) (.cells z32c 23) none
  refine ⟨Blk.grown (Blk.grown (blk_new _ _) g2 (by simp)) g3 (by simp), ?_, ?_, (((Below.refl _ _).alloc (Nat.le_refl _) _).alloc (by omega) _).alloc (by omega) _⟩
  · have e := blk_new (w.alloc (.cells (v8c H0) 39)) (.cells kcs 49)
    rw [z1] at e
    exact Blk.grown e g3 (by simp)
  · have e := blk_new ((w.alloc (.cells (v8c H0) 39)).alloc (.cells kcs 49)) (.cells z32c 23)
    rw [z2, z1] at e
    exact e
theorem sumW_size (w : World) : (sumW w).heap.size = w.heap.size + 3 := by rw [alloc_size, alloc_size, alloc_size]
theorem Su.more {w : World} {n0 : Nat} {h : V8} {wr wr' : World} (H : Su w n0 h wr) (hb : Below (n0 + 3) wr wr') : Su w n0 h wr' := by
  refine ⟨?_, ?_, ?_, H.below.trans (hb.mono (by omega))⟩
  · unfold Blk; rw [hb.block n0 (by omega)]; exact H.st
  · unfold Blk; rw [hb.block (n0 + 1) (by omega)]; exact H.k
  · unfold Blk; rw [hb.block (n0 + 2) (by omega)]; exact H.res
theorem cells_byl (s : ByteArray) : Lib.strCells s = bvc (byl s) := by
  simp [Lib.strCells, bvc, byl]
theorem bvc_append (a b : List Nat) : bvc (a ++ b) = bvc a ++ bvc b := by simp [bvc]
theorem bvc_length (a : List Nat) : (bvc a).length = a.length := by simp [bvc]
theorem byl_app (a b : ByteArray) : byl (a ++ b) = byl a ++ byl b := by simp [byl]
theorem free_below {B : Nat} {w wr w' : World} {v : Value} (hb : Below B w wr) (hz : B ≤ wr.heap.size) (hg : wr.grownBy w' v.ownBlock) (hv : ∀ k, v.ownBlock = some k → B ≤ k) : Below B w w' :=
  hb.grown hg hz (fun k hk => hv k hk)
/-- The message, filled up to k noughts. -/
def padTo (m : List Nat) (k : Nat) : List Nat := m ++ [128] ++ List.replicate k 0
theorem padTo_succ (m : List Nat) (k : Nat) : padTo m (k + 1) = padTo m k ++ [0] := by
  simp [padTo, List.replicate_succ']
theorem padTo_length (m : List Nat) (k : Nat) : (padTo m k).length = m.length + 1 + k := by simp [padTo]; omega
def slLen : Value → Nat
  | .slice _ n _ => n
  | _ => 0
theorem fix_cells (n : Nat) (h : n < 18446744073709551616) : Lib.strCells ((⟨#[]⟩ : ByteArray) ++ sb (fixN 8 n)) = bvc (fixN 8 n) := by
  rw [show ((⟨#[]⟩ : ByteArray) ++ sb (fixN 8 n)) = sb (fixN 8 n) from ByteArray.empty_append, cells_byl, byl_sb _ (fixN_lt 8 n)]
theorem fix_size (n : Nat) : ((⟨#[]⟩ : ByteArray) ++ sb (fixN 8 n)).size = 8 := by
  rw [show ((⟨#[]⟩ : ByteArray) ++ sb (fixN 8 n)) = sb (fixN 8 n) from ByteArray.empty_append, sb_size, fixN_length]
/-- What stands while blocks are taken: i of them are. -/
structure Sv (w : World) (n0 g : Nat) (pm : List Nat) (i : Nat) (wr : World) : Prop where
  su : Su w n0 (hs pm i) wr
  m : ∀ j, j < pm.length → wr.cell? ⟨g, j, none⟩ = some (.int .u8 (pm.getD j 0 : Nat))
  ge : n0 + 3 ≤ g
  lt : g < wr.heap.size
theorem bvc_getD (m : List Nat) (j : Nat) (h : j < m.length) : (bvc m)[j]? = some (.int .u8 (m.getD j 0 : Nat)) := by
  rw [bvc, List.getElem?_map, List.getD, List.getElem?_eq_getElem h]; rfl
theorem blk_getD (pm : List Nat) (i j : Nat) (hj : j < 64) : (blk pm i).getD j 0 = pm.getD (64 * i + j) 0 := by
  simp only [blk, List.getD]
  rw [List.getElem?_take_of_lt hj, List.getElem?_drop]
theorem Sv.next {w wr w8 w9 : World} {n0 g i : Nat} {pm : List Nat} (H : Sv w n0 g pm i wr) (h8 : Below wr.heap.size wr w8) (h9 : w8.grownBy w9 (some n0)) (hst : Blk w9 n0 (v8c (hs pm (i + 1))) 39) : Sv w n0 g pm (i + 1) w9 := by
  have hlt := H.lt
  have hge := H.ge
  have hz8 := h8.size
  have hz9 := h9.size
  have blk : ∀ b, b < wr.heap.size → b ≠ n0 → w9.heap[b]? = wr.heap[b]? := fun b hb hn => by
    rw [h9.block b (by omega) (by simpa using hn), h8.block b hb]
  refine ⟨⟨hst, ?_, ?_, ?_⟩, fun j hj => ?_, hge, by omega⟩
  · unfold Blk; rw [blk (n0 + 1) (by omega) (by omega)]; exact H.su.k
  · unfold Blk; rw [blk (n0 + 2) (by omega) (by omega)]; exact H.su.res
  · exact (H.su.below.trans (h8.mono (by omega))).grown h9 (by omega) (fun k hk => by cases hk; exact Nat.le_refl _)
  · have e : w9.cell? ⟨g, j, none⟩ = wr.cell? ⟨g, j, none⟩ := by
      simp only [World.cell?, blk g hlt (by omega)]
    rw [e]; exact H.m j hj
theorem below_blk {w w' : World} {B b : Nat} {C : Array Value} {T : TypeId} (hb : Below B w w') (h : Blk w b C T) (hlt : b < B) : Blk w' b C T := by
  unfold Blk; rw [hb.block b hlt]; exact h
theorem z32c_rep : z32c = Array.replicate 32 (Value.int .u8 0) := rfl
end Go.Proofs.YtijpdnoloicfjaaDoor
/- The walk of the document's own sum (munimentref02.sum). -/
namespace Go.Proofs.YtijpdnoloicfjaaDoor
open Go.RowKit
set_option linter.unusedSimpArgs false
set_option linter.unusedVariables false
set_option maxHeartbeats 4000000 in
set_option maxRecDepth 100000 in
theorem rsum_any (s : ByteArray) (w : World) (hsz : s.size ≤ 20000) :
    Calls Tryd.prog 23 #[.string s, .agg (v8c H0), .agg kcs] w fun e w' => e = .returned (.agg (shc (byl s))) ∧ Below w.heap.size w w' := by
  go_enter Tryd.func23, Tryd.ntmps23
  iterate 13 (first | go_values | go_skip | go_guarded | go_step | go_upon | go_back)
  show Exit.then _ _ Exit.normal _ (sumW w)
  obtain ⟨n0, hn0⟩ : ∃ n0, n0 = w.heap.size := ⟨_, rfl⟩
  obtain ⟨w1, hw1⟩ : ∃ w1, w1 = sumW w := ⟨_, rfl⟩
  have HS1 : Hid (Su w n0 H0 w1) := by rw [hn0, hw1]; exact Su.start w
  have hz1 : w1.heap.size = n0 + 3 := by rw [hn0, hw1]; exact sumW_size w
  rw [← hw1, ← hn0]
  have HN : Hid (n0 = w.heap.size) := hn0
  clear hw1 hn0
  obtain ⟨v1, w2, hcv, hb2, hF2⟩ := Fre.of_conv (s ++ ⟨#[128]⟩) w1 (by rw [append_size, show (⟨#[128]⟩ : ByteArray).size = 1 from rfl]; omega)
  rw [hz1] at hF2 hb2
  have HB2 : Hid (Below (n0 + 3) w1 w2) := hb2
  obtain ⟨msg, hmsg⟩ : ∃ m, m = byl s := ⟨_, rfl⟩
  have HM : Hid (msg = byl s) := hmsg
  have hml : msg.length = s.size := by rw [hmsg, byl_length]
  have HML : Hid (msg.length = s.size) := hml
  have hF0 : Fre w2 (n0 + 3) v1 (bvc (padTo msg 0)) := by
    have e : Lib.strCells (s ++ ⟨#[128]⟩) = bvc (padTo msg 0) := by
      rw [cells_byl, byl_app, padTo, hmsg]; simp; rfl
    rw [← e]; exact hF2
  have HF0 : Hid (Fre w2 (n0 + 3) v1 (bvc (padTo msg 0))) := hF0
  have z2 : n0 + 3 ≤ w2.heap.size := by have := hb2.size; omega
  clear hF0 hF2 hb2 hmsg hml
  go_wp2
  go_loopw [7] (fun v wr => ∃ (k : Nat), k ≤ pads s.size ∧ Hid (Fre wr (n0 + 3) v (bvc (padTo msg k)) ∧ Below (n0 + 3) w1 wr)) (fun v _ => s.size + 70 - slLen v)
  case atStart => exact ⟨0, by omega, HF0.out, HB2.out⟩
  case round =>
    obtain ⟨k, hk, HR⟩ := hrel
    have hL : (bvc (padTo msg k)).length = s.size + 1 + k := by rw [bvc_length, padTo_length, HML.out]
    have hpl := pads_le s.size
    have zr : n0 + 3 ≤ wr.heap.size := by have := HR.out.2.size; omega
    by_cases hlt : k < pads s.size
    · obtain ⟨g, cap, hv, hgB, hgc, hcm, hcl⟩ := HR.out.1.cell
      rw [hL] at hv
      have ht : ((((s.size : Int) + 1 + k) % 64) != 56) = true := by
        have := pads_first s.size k hlt
        rw [bne_iff_ne]; omega
      have HF : Hid (Fre wr (n0 + 3) (.slice (some ⟨g, 0, none⟩) (s.size + 1 + k) cap) (bvc (padTo msg k)) ∧ Below (n0 + 3) w1 wr) := by rw [← hv]; exact HR.out
      subst hv
      clear HR hcl hgB
      have HL : Hid ((bvc (padTo msg k)).length = s.size + 1 + k) := hL
      clear hL
      go_wp2_with (at_builtin; refine wpList_free_byte rfl _ _ rfl (n0 + 3) _ (bvc (padTo msg k)) rfl (HF.out.1.kept (World.grownBy_alloc wr _ none) (by simp)) (by rw [alloc_size]; omega) ⟨wr.heap.size, 0, none⟩ 1 0 rfl (by rw [World.cell?_alloc_new]; rfl) (by rw [HL.out]; omega) ?_)
      intro v' w7 hF7 hg7 hob
      have HF7 : Hid (Fre w7 (n0 + 3) v' (bvc (padTo msg (k + 1))) ∧ Below (n0 + 3) w1 w7) := by
        refine ⟨?_, ?_⟩
        · rw [padTo_succ, bvc_append]; exact hF7
        · exact free_below (HF.out.2.alloc zr _) (by rw [alloc_size]; omega) hg7 hob
      have hl7 : slLen v' = s.size + 1 + (k + 1) := by
        obtain ⟨g', cap', e', _⟩ := HF7.out.1.cell
        rw [e', slLen, bvc_length, padTo_length, HML.out]
      clear hF7 hg7 hob HF
      go_wp2
      go_roundw
      case rel => exact ⟨k + 1, by omega, HF7.out⟩
      case measure => rw [hl7]; simp [slLen]; omega
    · have hke : k = pads s.size := by omega
      obtain ⟨g, cap, hv, hgB, hgc, hcm, hcl⟩ := HR.out.1.cell
      rw [hL] at hv
      have ht : ((((s.size : Int) + 1 + k) % 64) != 56) = false := by
        have := pads_at s.size
        rw [← hke] at this
        rw [bne_eq_false_iff_eq]; omega
      have HF : Hid (Fre wr (n0 + 3) (.slice (some ⟨g, 0, none⟩) (s.size + 1 + k) cap) (bvc (padTo msg k)) ∧ Below (n0 + 3) w1 wr) := by rw [← hv]; exact HR.out
      have HKE : Hid (k = pads s.size) := hke
      subst hv
      have HL : Hid ((bvc (padTo msg k)).length = s.size + 1 + k) := hL
      clear HR hcl hgB hke hL hlt
      go_wp2_with fail
      have hfx := rfix_any (8 * s.size) 8 wr (by omega) (by omega) (by omega) (by omega)
      rw [show ((8 * s.size : Nat) : Int) = 8 * (s.size : Int) from by omega] at hfx
      refine hfx.mono ?_
      clear hfx
      rintro e w3 ⟨rfl, hb3⟩
      obtain ⟨fx, hfx⟩ : ∃ fx, fx = (⟨#[]⟩ : ByteArray) ++ sb (fixN 8 (8 * s.size)) := ⟨_, rfl⟩
      rw [← hfx]
      have HFX : Hid (Lib.strCells fx = bvc (fixN 8 (8 * s.size))) := by rw [hfx]; exact fix_cells _ (by omega)
      have hfz : fx.size ≤ 8 := by rw [hfx, fix_size]; omega
      have HF3 : Hid (Fre w3 (n0 + 3) (.slice (some ⟨g, 0, none⟩) (s.size + 1 + k) cap) (bvc (padTo msg k)) ∧ Below (n0 + 3) w1 w3) := ⟨HF.out.1.kept (grown_of_below hb3 none) (by simp), HF.out.2.trans (hb3.mono zr)⟩
      have z3 : n0 + 3 ≤ w3.heap.size := by have := hb3.size; omega
      clear hfx hb3 HF
      go_wp2_with (at_builtin; refine wpList_free_text rfl _ _ rfl (n0 + 3) _ (bvc (padTo msg k)) rfl HF3.out.1 z3 fx rfl (by omega) (by rw [HL.out]; omega) ?_)
      intro v' w4 hF4 hg4 hob
      obtain ⟨pm, hpm⟩ : ∃ pm, pm = padded msg := ⟨_, rfl⟩
      have hcells : bvc (padTo msg k) ++ Lib.strCells fx = bvc pm := by rw [HFX.out, ← bvc_append, hpm, padded, padTo, HML.out, HKE.out]
      rw [hcells] at hF4
      have hb4 : Below (n0 + 3) w1 w4 := free_below HF3.out.2 z3 hg4 hob
      obtain ⟨g2, cap2, hv2, hg2, hgc2, hcm2, hcl2⟩ := hF4.cell
      have hmod := padded_mod msg
      have hpl2 := padded_length msg
      rw [← hpm] at hmod hpl2
      rw [HML.out] at hpl2
      rw [bvc_length] at hv2 hgc2 hcl2
      obtain ⟨M, hM⟩ : ∃ M, M = pm.length := ⟨_, rfl⟩
      rw [← hM] at hv2 hgc2 hcl2 hmod hpl2
      have hMb : M ≤ 20200 := by omega
      have hS4 : Sv w n0 g2 pm 0 w4 := by
        obtain ⟨gq, _, cur, _, eq, _, hq, _⟩ := hF4
        refine ⟨HS1.out.more hb4, fun j hj => ?_, hg2, ?_⟩
        · rw [hcl2 j (by omega), bvc_getD _ _ hj]
        · rw [hv2] at eq
          simp at eq
          rw [eq.1]; exact blk_lt hq
      have HS4 : Hid (Sv w n0 g2 pm 0 w4) := hS4
      have HPM : Hid (pm = padded msg) := hpm
      have HMM : Hid (M = pm.length) := hM
      have HMD : Hid (M % 64 = 0) := hmod
      have hm64 : 64 * (M / 64) = M := by omega
      have HM64 : Hid (64 * (M / 64) = M) := hm64
      subst hv2
      have hcap2 : cap2 ≤ 9223372036854775807 := by unfold maxLen at hcm2; omega
      clear hS4 hpm hM hmod hpl2 hm64 hcells hF4 hg4 hob hb4 hcl2 HF3 HFX HL HKE hcm2 hcm hgc ht hfz z3 HF0 HB2 hcv z2 hk hpl zr
      go_wp2
      go_loopw [8] (fun v wr => ∃ (i at_ : Nat), i ≤ M / 64 ∧ v = .int .i64 (at_ : Int) ∧ Hid (at_ = 64 * i) ∧ Hid (Sv w n0 g2 pm i wr)) (fun v _ => 20300 - (intOf v).toNat)
      case atStart => exact ⟨0, 0, by omega, rfl, rfl, HS4⟩
      case round =>
        clear HS4
        obtain ⟨i, at_, hi, rfl, HAT, HR⟩ := hrel
        have zr : g2 < wr.heap.size := HR.out.lt
        have hge := HR.out.ge
        by_cases hlt : i < M / 64
        · have hiM : at_ + 64 ≤ M := by have := HM64.out; have := HAT.out; omega
          obtain ⟨X, hX⟩ : ∃ X, X = wr.heap.size := ⟨_, rfl⟩
          have HXX : Hid (X = wr.heap.size) := hX
          go_wp2
          rw [← hX]
          have hc3 : ∀ j, j < 64 → (wr.alloc (.cells (Array.replicate 64 (c32 0)) 49)).cell? ⟨g2, at_ + j, none⟩ = some (.int .u8 ((blk pm i).getD j 0 : Nat)) := fun j hj => by
            rw [World.cell?_alloc_past _ _ _ zr, HR.out.m (at_ + j) (by rw [← HMM.out]; omega), blk_getD _ _ _ hj, HAT.out]
          have hB3 : Blk (wr.alloc (.cells (Array.replicate 64 (c32 0)) 49)) X (Array.replicate 64 (c32 0)) 49 := by rw [hX]; exact blk_new _ _
          clear hX
          refine loop3 _ g2 M cap2 at_ X (blk pm i) (Array.replicate 64 (c32 0)) (wr.alloc (.cells (Array.replicate 64 (c32 0)) 49)) _ _ _ _ _ _ _ _ _ _ _ _ _ _ _ _ _ _ _ _ _ _ _ _ _ _ _ _ _ _ _ _ _ _ _ _ _ _ _ _ _ _ _ _ _ _ _ _ _ _ _ _ _ _ _ _ _ _ _ _ _ _ _ _ _ _ _ _ _ _ _ _ _ _ _ _ _ _ _ _ _ _ _ _ _ _ _ _ _ _ _ _ _ _ _ _ _ _ _ _ _ _ _ _ _ _ _ _ _ _ _ _ _ _ _ _ _ _ _ _ _ _ _ _ _ _ _ _ _ _ _ _ _ _ _ _ _ _ _ _ _ _ _ _ _ _ _ _ _ _ _ _ _ _ _ _ _ _ _ _ _ _ _ _ _ _ _ _ _ _ _ _ _ _ _ _ _ _ _ _ _ _ _ _ _ _ _ _ _ _ _ _ _ _ _ _ _ _ _ _ _ _ _ _ _ _ _ _ _ _ _ _ _ _ _ _ _ _ _ _ _ _ _ _ _ _ _ _ _ _ _ hgc2 hcap2 hiM (by rw [HXX.out]; omega) hc3 rfl hB3 ?_
          intro a10 a11 a47 a48 a49 a50 a51 a52 a53 a54 a55 a56 a57 a58 a59 a60 a61 a62 a63 a64 a65 a66 a67 a68 a69 a70 a71 a72 a73 a74 a75 a76 a77 a78 a79 a80 C3 w5 hSq3
          clear hc3 hB3
          have H3 : Hid (Sq (wr.alloc (.cells (Array.replicate 64 (c32 0)) 49)) X (blk pm i) 16 C3 w5) := hSq3
          clear hSq3
          go_wp2
          refine loop4 _ X (blk pm i) C3 (wr.alloc (.cells (Array.replicate 64 (c32 0)) 49)) w5 _ _ _ _ _ _ _ _ _ _ _ _ _ _ _ _ _ _ _ _ _ _ _ _ _ _ _ _ _ _ _ _ _ _ _ _ _ _ _ _ _ _ _ _ _ _ _ _ _ _ _ _ _ _ _ _ _ _ _ _ _ _ _ _ _ _ _ _ _ _ _ _ _ _ _ _ _ _ _ _ _ _ _ _ _ _ _ _ _ _ _ _ _ _ _ _ _ _ _ _ _ _ _ _ _ _ _ _ _ _ _ _ _ _ _ _ _ _ _ _ _ _ _ _ _ _ _ _ _ _ _ _ _ _ _ _ _ _ _ _ _ _ _ _ _ _ _ _ _ _ _ _ _ _ _ _ _ _ _ _ _ _ _ _ _ _ _ _ _ _ _ _ _ _ _ _ _ _ _ _ _ _ _ _ _ _ _ _ _ _ _ _ _ _ _ _ _ _ _ _ _ _ _ _ _ _ _ _ _ _ _ _ _ _ _ _ _ _ _ _ _ _ _ _ _ _ _ _ _ _ _ _ _ H3.out ?_
          intro b12 b13 b14 b81 b82 b83 b84 b85 b86 b87 b88 b89 b90 b91 b92 b93 b94 b95 b96 b97 b98 b99 b100 b101 b102 b103 b104 b105 b106 b107 b108 b109 b110 b111 b112 b113 b114 b115 b116 b117 b118 b119 b120 b121 C4 w6 hSq4
          have hb6 : Below wr.heap.size wr w6 := by
            refine ((Below.refl wr.heap.size wr).alloc (Nat.le_refl _) _).grown hSq4.grown (by rw [alloc_size]; omega) (fun k hk => by cases hk; rw [HXX.out]; exact Nat.le_refl _)
          have HB6 : Hid (Below wr.heap.size wr w6) := hb6
          have hz6 : wr.heap.size ≤ w6.heap.size := hb6.size
          have HX6 : Hid (Blk w6 X (w64c (blk pm i)) 49) := by have e := hSq4.whole; rw [← e]; exact hSq4.blk
          have hX6 : X < w6.heap.size := blk_lt hSq4.blk
          obtain ⟨h, hh⟩ : ∃ h, h = hs pm i := ⟨_, rfl⟩
          have HHH : Hid (h = hs pm i) := hh
          have HN6 : Hid (Blk w6 n0 (v8c h) 39) := by rw [hh]; exact below_blk hb6 HR.out.su.st (by omega)
          have HK6 : Hid (Blk w6 (n0 + 1) kcs 49) := below_blk hb6 HR.out.su.k (by omega)
          clear hSq4 H3 hb6 hh
          go_wp2_with (first
            | (refine wpList_load_v8 rfl (.tmp 4) rfl n0 0 rfl h (fun j hj => by rw [HN6.out.cell, Nat.zero_add, v8c_get _ _ hj]) ?_)
            | (refine wpList_store_abs rfl 39 (.tmp 15) (.tmp 122) rfl (v8c h) _ 39 w6.heap.size rfl rfl rfl info_8 rfl (v8c_one h) ?_; intro w7 HBv HGv hsz7))
          have hKc : ∀ t, t < 64 → w7.cell? ⟨n0 + 1, t, none⟩ = some (c32 (KT t)) := fun t ht => by
            rw [(HK6.out.grown HGv.out (by simp)).cell, kcs_get t ht]
          refine loop5 _ (n0 + 1) X w6.heap.size (blk pm i) h w7 _ _ _ _ _ _ _ _ _ _ _ _ _ _ _ _ _ _ _ _ _ _ _ _ _ _ _ _ _ _ _ _ _ _ _ _ _ _ _ _ _ _ _ _ _ _ _ _ _ _ _ _ _ _ _ _ _ _ _ _ _ _ _ _ _ _ _ _ _ _ _ _ _ _ _ _ _ _ _ _ _ _ _ _ _ _ _ _ _ _ _ _ _ _ _ _ _ _ _ _ _ _ _ _ _ _ _ _ _ _ _ _ _ _ _ _ _ _ _ _ _ _ _ _ _ _ _ _ _ _ _ _ _ _ _ _ _ _ _ _ _ _ _ _ _ _ _ _ _ _ _ _ _ _ _ _ _ _ _ _ _ _ _ _ _ _ _ _ _ _ _ _ _ _ _ _ _ _ _ _ _ _ _ _ _ _ _ _ _ _ _ _ _ _ _ _ _ _ _ _ _ _ _ _ _ _ _ _ _ _ _ _ _ _ _ _ _ _ _ _ _ _ _ _ _ _ _ _ _ _ _ HBv.out (HX6.out.grown HGv.out (by simp)) hKc (by omega) (by omega) ?_
          intro e16 e17 e18 e19 e20 e123 e124 e125 e126 e127 e128 e129 e130 e131 e132 e133 e134 e135 e136 e137 e138 e139 e140 e141 e142 e143 e144 e145 e146 e147 e148 e149 e150 e151 e152 e153 e154 e155 e156 e157 e158 e159 e160 e161 e162 e163 e164 e165 e166 e167 e168 e169 e170 e171 e172 e173 e174 e175 e176 e177 e178 e179 e180 e181 e182 e183 e184 e185 e186 e187 e188 e189 e190 e191 e192 e193 e194 e195 e196 e197 e198 e199 e200 e201 e202 e203 e204 w8 h8
          have HV8 : Hid (Blk w8 w6.heap.size (v8c (rds (blk pm i) h 64)) 39) := h8.1
          have hb8 : Below wr.heap.size wr w8 := by
            have z6 := HB6.out.size
            refine (HB6.out.grown HGv.out z6 (fun k hk => by cases hk)).grown h8.2 (by omega) (fun k hk => by cases hk; exact z6)
          have HB8 : Hid (Below wr.heap.size wr w8) := hb8
          have HN8 : Hid (Blk w8 n0 (v8c h) 39) := by rw [HHH.out]; exact below_blk hb8 HR.out.su.st (by omega)
          clear hKc h8 hb8 HBv HGv hsz7 HX6 HK6 HN6
          go_wp2
          refine loop6 _ n0 w6.heap.size h (rds (blk pm i) h 64) w8 _ _ _ _ _ _ _ _ _ _ _ _ _ _ _ _ _ _ _ _ _ _ _ _ _ _ _ _ _ _ _ _ _ _ _ _ _ _ _ _ _ _ _ _ _ _ _ _ _ _ _ _ _ _ _ _ _ _ _ _ _ _ _ _ _ _ _ _ _ _ _ _ _ _ _ _ _ _ _ _ _ _ _ _ _ _ _ _ _ _ _ _ _ _ _ _ _ _ _ _ _ _ _ _ _ _ _ _ _ _ _ _ _ _ _ _ _ _ _ _ _ _ _ _ _ _ _ _ _ _ _ _ _ _ _ _ _ _ _ _ _ _ _ _ _ _ _ _ _ _ _ _ _ _ _ _ _ _ _ _ _ _ _ _ _ _ _ _ _ _ _ _ _ _ _ _ _ _ _ _ _ _ _ _ _ _ _ _ _ _ _ _ _ _ _ _ _ _ _ _ _ _ _ _ _ _ _ _ _ _ _ _ _ _ _ _ _ _ _ _ _ _ _ _ _ _ _ _ _ _ _ _ HN8.out HV8.out (by omega) ?_
          intro f21 f205 f206 f207 f208 f209 f210 f211 f212 f213 f214 f215 f216 f217 w9 h9
          have HS9 : Hid (Sv w n0 g2 pm (i + 1) w9) := by
            refine HR.out.next HB8.out h9.2 ?_
            have e : hs pm (i + 1) = h.add (rds (blk pm i) h 64) := by rw [HHH.out]; rfl
            rw [e]; exact h9.1
          clear h9 HR HB8 HV8 HN8 HB6
          go_wp2
          go_roundw
          case rel => exact ⟨i + 1, at_ + 64, by omega, by go_num, by show at_ + 64 = 64 * (i + 1); rw [HAT.out]; omega, HS9.out⟩
          case measure => simp [intOf]; omega
        · have hie : i = M / 64 := by omega
          have hatM : at_ = M := by rw [HAT.out, hie]; exact HM64.out
          have hatm : ¬ at_ < M := by omega
          obtain ⟨h, hh⟩ : ∃ h, h = hs pm (M / 64) := ⟨_, rfl⟩
          have HHH : Hid (h = hs pm (M / 64)) := hh
          have HSU : Hid (Su w n0 h wr) := by rw [hh, ← hie]; exact HR.out.su
          obtain ⟨D, hD⟩ : ∃ D, D = wr.heap.size := ⟨_, rfl⟩
          have HDD : Hid (D = wr.heap.size) := hD
          have hDn : n0 + 3 < D := by omega
          clear hie hatM hh hD HAT hi hlt
          go_wp2
          rw [← HDD.out]
          have hH7 : Blk (wr.alloc (.cells z32c 23)) n0 (v8c h) 39 := Blk.grown HSU.out.st (World.grownBy_alloc _ _ none) (by simp)
          have hD7 : Blk (wr.alloc (.cells z32c 23)) D z32c 23 := by rw [HDD.out]; exact blk_new _ _
          refine loop7 _ n0 D h z32c (wr.alloc (.cells z32c 23)) _ _ _ _ _ _ _ _ _ _ _ _ _ _ _ _ _ _ _ _ _ _ _ _ _ _ _ _ _ _ _ _ _ _ _ _ _ _ _ _ _ _ _ _ _ _ _ _ _ _ _ _ _ _ _ _ _ _ _ _ _ _ _ _ _ _ _ _ _ _ _ _ _ _ _ _ _ _ _ _ _ _ _ _ _ _ _ _ _ _ _ _ _ _ _ _ _ _ _ _ _ _ _ _ _ _ _ _ _ _ _ _ _ _ _ _ _ _ _ _ _ _ _ _ _ _ _ _ _ _ _ _ _ _ _ _ _ _ _ _ _ _ _ _ _ _ _ _ _ _ _ _ _ _ _ _ _ _ _ _ _ _ _ _ _ _ _ _ _ _ _ _ _ _ _ _ _ _ _ _ _ _ _ _ _ _ _ _ _ _ _ _ _ _ _ _ _ _ _ _ _ _ _ _ _ _ _ _ _ _ _ _ _ _ _ _ _ _ _ _ _ _ _ _ _ _ _ _ _ _ _ _ hH7 z32c_rep hD7 (by omega) ?_
          intro r23 r218 r219 r220 r221 r222 r223 r224 r225 r226 r227 r228 r229 r230 r231 r232 r233 w9 h9
          have HD9 : Hid (Blk w9 D (bvc (outB h)).toArray 23) := h9.1
          have hb9 : Below D wr w9 := by
            refine ((Below.refl D wr).alloc (by rw [HDD.out]; exact Nat.le_refl _) _).grown h9.2 (by rw [alloc_size]; rw [HDD.out]; omega) (fun k hk => by cases hk; exact Nat.le_refl _)
          have HR9 : Hid (Blk w9 (n0 + 1 + 1) z32c 23) := below_blk hb9 HSU.out.res (by omega)
          have HB9 : Hid (Below w.heap.size w w9) := by rw [← HN.out]; exact HSU.out.below.trans (hb9.mono (by omega))
          have HI : Hid ((Tryd.prog.info? 23).map (·.size) = some (bvc (outB h)).toArray.size) := by
            show _ = some (bvc (outB h)).toArray.size
            rw [info_id]; simp [bvc_length, outB_length]
          have HO : Hid ((bvc (outB h)).toArray.all (·.oneCell') = true) := by
            show Array.all _ _ = true
            simp [bvc, List.all_eq_true, Value.oneCell']
          have HZ : Hid (z32c.size = (bvc (outB h)).toArray.size) := by show z32c.size = _; rw [z32c_size]; simp [bvc_length, outB_length]
          have HOUT : Hid ((bvc (outB h)).toArray = shc (byl s)) := by
            show (bvc (outB h)).toArray = _
            rw [shc, sha, shaV, ← HM.out, ← HPM.out, ← HMM.out, HHH.out]
          clear h9 hb9 hH7 hD7 HR HSU
          go_wp2_with (first
            | (refine wpList_load_row rfl 23 (.tmp 22) rfl D rfl 23 (bvc (outB h)).toArray (0, 0) _ HD9.out Tryd.underlying23 rfl HI.out ?_)
            | (refine wpList_store_row rfl 23 (.tmp 6) (.tmp 234) rfl (n0 + 1 + 1) (bvc (outB h)).toArray rfl rfl 23 z32c HR9.out HI.out HZ.out HO.out ?_))
          refine bodyPost_ret (results_cell_row rfl _ _ (n0 + 1 + 1) 23 (bvc (outB h)).toArray (0, 0) _ rfl (setRow_heap _ _ _ _ _ _ HR9.out) Tryd.underlying23 rfl HI.out) rfl ⟨by rw [HOUT.out], ?_⟩
          exact below_setRow HB9.out (by rw [← HN.out]; omega) _
end Go.Proofs.YtijpdnoloicfjaaDoor
/- digest.Of. -/
namespace Go.Proofs.YtijpdnoloicfjaaDoor
open Go.RowKit
set_option linter.unusedSimpArgs false
set_option linter.unusedVariables false
set_option maxHeartbeats 400000 in
set_option maxRecDepth 100000 in
theorem of_any (k : Nat) (p : ByteArray) (w : World) (hk : k < 256) (hp : p.size ≤ 2000) (hL : Lst w) :
    Calls Tryd.prog 9 #[.int .u8 (k : Int), .string p] w fun e w' => e = .returned (.agg (shc (whl k p))) ∧ Below w.heap.size w w' := by
  have HL : Hid (Lst w) := hL
  have hlt := hL.lt
  have hz := (zero_of_info zero_state).1
  have c1 := fun o => conv1s w o (k : Int)
  have hsz := one_size (k : Int)
  have hwr : IntKind.u64.wrap (p.size : Int) = (p.size : Int) := wrap64s _ (by omega)
  have hw9 : (whl k p).length < 288230376151711744 := by simp [whl, fixN_length, byl_length]; omega
  have hp9 : (byl (sb (k :: fixN 8 p.size))).length = 9 := by rw [byl_pre k _ hk]; simp [fixN_length]
  have HP9 : Hid ((byl (sb (k :: fixN 8 p.size))).length = 9) := hp9
  have HPE : Hid (byl (sb (k :: fixN 8 p.size)) ++ byl p = whl k p) := by show _ = _; rw [byl_pre k _ hk]; rfl
  have HPS : Hid ((sb (k :: fixN 8 p.size)).size = 9) := by show _ = _; rw [sb_size]; simp [fixN_length]
  have hpe := pre_eq k p.size
  clear hL hp9
  go_enter Tryd.func9, Tryd.ntmps9
  go_wp2_with (first
    | (go_at_call 25; refine (putFixed_ok _ _ 8 _ (by omega) (by omega) (by omega) (by omega) (by omega) (by rw [hsz]; omega)).mono ?_; rintro e w0 ⟨rfl, hb0⟩; have HB0 : Hid (Below ((w.alloc (.cells z32c 23)).alloc (.cells #[.int .u8 (k : Int)] 5)).heap.size ((w.alloc (.cells z32c 23)).alloc (.cells #[.int .u8 (k : Int)] 5)) w0) := hb0; clear hb0; have hz0 : w.heap.size + 2 ≤ w0.heap.size := by { have := HB0.out.size; rw [alloc_size, alloc_size] at this; exact this })
    | (go_at_call 18; refine (begin_any _ (((HL.out.alloc _).alloc _).below HB0.out).h).mono ?_; rintro e w1 ⟨rfl, hb1⟩; have HB1 : Hid (Below w0.heap.size w0 w1) := hb1; clear hb1; have hz1 := HB1.out.size)
    | (refine wpList_store_abs rfl 43 (.tmp 7) (.tmp 18) rfl (stc H0 z64 0) _ 43 w1.heap.size rfl rfl rfl (info_st _ _ _ rfl) (by exact zst_st) (stc_one _ _ _) ?_; intro w1' HBk HG1 hsz1; have HL1 : Hid (Lst w1') := ((((HL.out.alloc _).alloc _).below HB0.out).below HB1.out).grown HG1.out (by simp); have HZ1 : Hid (Blk w1' w.heap.size z32c 23 ∧ w.grownBy w1' none) := ⟨Blk.grown (Blk.grown (Blk.grown (Blk.grown (blk_new w (.cells z32c 23)) (World.grownBy_alloc _ _ none) (by simp)) (grown_of_below HB0.out none) (by simp)) (grown_of_below HB1.out none) (by simp)) HG1.out (by simp), ((((World.grownBy_alloc w _ none).trans (World.grownBy_alloc _ _ none)).trans (grown_of_below HB0.out none)).trans (grown_of_below HB1.out none)).trans HG1.out⟩)
    | (go_at_call 19; refine (take_any _ m2 p w1.heap.size 43 w2 HS2.out HL2.out.k (by omega) (by rw [HP9.out]; omega)).mono ?_; rintro e w3 ⟨rfl, ⟨m3, hs3⟩, hg3⟩; rw [HPE.out] at hs3; have HS3 : Hid (Stt w3 w1.heap.size 43 (whl k p) m3) := hs3; have HG3 : Hid (w2.grownBy w3 (some w1.heap.size)) := hg3; have HL3 : Hid (Lst w3) := HL2.out.grown hg3 (by intro j hj; simp at hj; omega); clear hs3 hg3)
    | (go_at_call 19; refine (take_any [] z64 (sb (k :: fixN 8 p.size)) w1.heap.size 43 w1' (new_stt HBk.out) HL1.out.k (by omega) (by rw [HPS.out]; simp)).mono ?_; rintro e w2 ⟨rfl, ⟨m2, hs2⟩, hg2⟩; rw [List.nil_append] at hs2; have HS2 : Hid (Stt w2 w1.heap.size 43 (byl (sb (k :: fixN 8 p.size))) m2) := hs2; have HG2 : Hid (w1'.grownBy w2 (some w1.heap.size)) := hg2; have HL2 : Hid (Lst w2) := HL1.out.grown hg2 (by intro j hj; simp at hj; omega); clear hs2 hg2)
    | (refine wpList_load_row rfl 43 (.tmp 7) rfl w1.heap.size rfl 43 _ (0, 0) _ HS3.out.blk Tryd.underlying43 rfl (info_st _ _ _ HS3.out.sta.len) ?_)
    | (go_at_call 20; refine (end_sh HS3.out HL3.out.k hw9).mono ?_; rintro e w4 ⟨rfl, hb4⟩; have HZ : Hid (Blk w4 w.heap.size z32c 23) := Blk.grown (Blk.grown (Blk.grown HZ1.out.1 HG2.out (by simp; omega)) HG3.out (by simp; omega)) (grown_of_below hb4 none) (by simp); have HB4 : Hid (Below w3.heap.size w3 w4) := hb4; clear hb4)
    | (refine wpList_store_row rfl 23 (.tmp 4) (.tmp 24) rfl w.heap.size (shc (whl k p)) rfl rfl 23 z32c HZ.out (info_sh _) (by rw [z32c_size, shc_size]) (shc_one _) ?_))
  refine bodyPost_ret (results_cell_row rfl _ _ w.heap.size 23 (shc (whl k p)) (0, 0) _ rfl (setRow_heap _ _ _ _ _ _ HZ.out) Tryd.underlying23 rfl (info_sh _)) rfl ⟨rfl, ?_⟩
  refine below_setRow (below_of_grown ?_) (Nat.le_refl _) _
  exact ((HZ1.out.2.andThen HG2.out (fun j hj => by left; simp at hj; omega)).andThen HG3.out (fun j hj => by left; simp at hj; omega)).trans (grown_of_below HB4.out none)
end Go.Proofs.YtijpdnoloicfjaaDoor
/- digest.Parse, the law's awake. -/
namespace Go.Proofs.YtijpdnoloicfjaaDoor
open Go.RowKit
set_option linter.unusedSimpArgs false
set_option linter.unusedVariables false
theorem sum_id (s : ByteArray) (w : World) (hL : Lst w) (hlen : s.size < 288230376151711744) :
    Calls Tryd.prog 6 #[.string s] w fun e w' => e = .returned (.agg (idc (sb (sha (byl s))))) ∧ Below w.heap.size w w' := by
  rw [← shc_idc]; exact sum_any s w hL hlen
theorem of_id (k : Nat) (p : ByteArray) (w : World) (hk : k < 256) (hp : p.size ≤ 2000) (hL : Lst w) :
    Calls Tryd.prog 9 #[.int .u8 (k : Int), .string p] w fun e w' => e = .returned (.agg (idc (sb (sha (whl k p))))) ∧ Below w.heap.size w w' := by
  rw [← shc_idc]; exact of_any k p w hk hp hL
theorem sha_size (m : List Nat) : (sb (sha m)).size = 32 := by rw [sb_size, sha_length]
theorem abc_text : sb (hexL (bl (sb (sha (byl ⟨#[97, 98, 99]⟩))))) = ⟨#[98, 97, 55, 56, 49, 54, 98, 102, 56, 102, 48, 49, 99, 102, 101, 97, 52, 49, 52, 49, 52, 48, 100, 101, 53, 100, 97, 101, 50, 50, 50, 51, 98, 48, 48, 51, 54, 49, 97, 51, 57, 54, 49, 55, 55, 97, 57, 99, 98, 52, 49, 48, 102, 102, 54, 49, 102, 50, 48, 48, 49, 53, 97, 100]⟩ := by
  rw [show byl ⟨#[97, 98, 99]⟩ = [97, 98, 99] from by decide, sha_abc]
  decide +kernel
theorem nil_text : sb (hexL (bl (sb (sha (byl ⟨#[]⟩))))) = ⟨#[101, 51, 98, 48, 99, 52, 52, 50, 57, 56, 102, 99, 49, 99, 49, 52, 57, 97, 102, 98, 102, 52, 99, 56, 57, 57, 54, 102, 98, 57, 50, 52, 50, 55, 97, 101, 52, 49, 101, 52, 54, 52, 57, 98, 57, 51, 52, 99, 97, 52, 57, 53, 57, 57, 49, 98, 55, 56, 53, 50, 98, 56, 53, 53]⟩ := by
  rw [show byl ⟨#[]⟩ = [] from by decide, sha_nil]
  decide +kernel
set_option maxHeartbeats 400000 in
set_option maxRecDepth 100000 in
theorem awake_any (w : World) (hA : All w) :
    Calls Tryd.prog 15 #[] w fun e w' => e = .returned (.bool true) ∧ Below w.heap.size w w' := by
  have HA : Hid (All w) := hA
  clear hA
  have h1 := abc_text
  go_enter Tryd.func15, Tryd.ntmps15
  go_wp2_with (first
    | (go_at_call 6; refine (sum_id ⟨#[97, 98, 99]⟩ _ HA.out.l (by decide)).mono ?_; rintro e w1 ⟨rfl, hb1⟩; have HB1 : Hid (Below w.heap.size w w1) := hb1; clear hb1)
    | (go_at_call 11; refine (text_any _ _ (sha_size _) (HA.out.below HB1.out)).mono ?_; rintro e w2 ⟨rfl, hb2⟩; have HB2 : Hid (Below w1.heap.size w1 w2) := hb2; clear hb2))
  go_ret
  exact ⟨rfl, HB1.out.trans (HB2.out.mono HB1.out.size)⟩
/-- The name that digits say, as its cells. -/
def pid (t : ByteArray) : Array Value := putA z32c 0 (bvc ((byl (uhS t)).take (Nat.min (uhS t).size 32)))
theorem putA_size : ∀ (vs : List Value) (o : Nat) (C : Array Value), (putA C o vs).size = C.size
  | [], _, _ => rfl
  | v :: r, o, C => by rw [putA, putA_size r, Array.size_setIfInBounds]
theorem pid_size (t : ByteArray) : (pid t).size = 32 := by rw [pid, putA_size, z32c_size]
theorem putA_one : ∀ (vs : List Value) (o : Nat) (C : Array Value), (∀ v ∈ vs, v.oneCell' = true) → (∀ v ∈ C, v.oneCell' = true) → ∀ v ∈ putA C o vs, v.oneCell' = true
  | [], _, _, _, h => h
  | u :: r, o, C, h1, h2 => by
    rw [putA]
    refine putA_one r (o + 1) _ (fun v hv => h1 v (List.mem_cons_of_mem _ hv)) (fun v hv => ?_)
    rcases Array.mem_or_eq_of_mem_setIfInBounds hv with h | h
    · exact h2 v h
    · rw [h]; exact h1 u (List.mem_cons_self ..)
theorem bvc_one (l : List Nat) : ∀ v ∈ bvc l, v.oneCell' = true := by
  intro v hv
  simp only [bvc, List.mem_map] at hv
  obtain ⟨x, _, rfl⟩ := hv
  rfl
theorem pid_one (t : ByteArray) : (pid t).all (·.oneCell') = true :=
  Array.all_eq_true_iff_forall_mem.2 (putA_one _ _ _ (bvc_one _) (by intro v hv; exact bvc_one _ v (by simpa [z32c] using hv)))
theorem info_32 {C : Array Value} (h : C.size = 32) : (Tryd.prog.info? 23).map (·.size) = some C.size := by rw [h]; exact info_id
theorem pid_ok (t : ByteArray) (h : (uhS t).size = 32) : pid t = idc (uhS t) := by
  have hl : (bvc ((byl (uhS t)).take 32)).length = 32 := by simp [bvc, byl_length, h]
  rw [pid, h]
  apply Array.ext_getElem?
  intro i
  show (putA z32c 0 (bvc ((byl (uhS t)).take 32)))[i]? = _
  rw [putA_get _ _ _ _ (by rw [z32c_size, hl]; omega), hl]
  by_cases hi : i < 32
  · rw [if_pos (by omega), Nat.sub_zero, idc, List.getElem?_toArray, List.take_of_length_le (by rw [byl_length, h]; omega)]
  · rw [if_neg (by omega), Array.getElem?_eq_none (by rw [z32c_size]; omega), Array.getElem?_eq_none (by rw [idc_size, h]; omega)]
theorem pid_none (t : ByteArray) (h : uhS t = ⟨#[]⟩) : pid t = z32c := by rw [pid, h]; rfl
theorem copy32 {w : World} {g : Nat} {T : TypeId} (hB : Blk w g z32c T) (s : ByteArray) (ty : TypeId) :
    (Builtin.copy_ #[37, 9] ty #[.slice (some ⟨g, 0, none⟩) 32 32, .string s]).run Tryd.prog w = .ok (goInt (Nat.min s.size 32)) (w.setCells g 0 (bvc ((byl s).take (Nat.min s.size 32)))) := by
  have hi : (Tryd.prog.info? 5).map (·.size) = some 1 := by kernel_rfl
  refine copy_str w 37 9 ty 5 g 0 _ _ s Tryd.underlying37 hi (fun j hj => ?_) (fun j hj => hB.frozen _)
  have hj2 := Nat.lt_of_lt_of_le hj (Nat.min_le_right _ _)
  rw [hB.cell, Nat.zero_add, z32c_get j (by omega)]; rfl
theorem z32c_one : z32c.all (·.oneCell') = true := Array.all_eq_true_iff_forall_mem.2 (by intro v hv; exact bvc_one _ v (by simpa [z32c] using hv))
theorem zero_id : ∀ w, (zeroValue 23).run Tryd.prog w = .ok (.agg z32c) w :=
  (zero_of_info (n := 32) (by kernel_rfl)).1
theorem par_res {w w1 : World} {cs : List Value} (h : Below ((w.alloc (.cells z32c 23)).alloc (.cells z32c 23)).heap.size ((w.alloc (.cells z32c 23)).alloc (.cells z32c 23)) w1) : Blk (w1.setCells (w.heap.size + 1) 0 cs) w.heap.size z32c 23 :=
  Blk.grown (Blk.grown (Blk.grown (blk_new w (.cells z32c 23)) (World.grownBy_alloc _ _ none) (by simp)) (grown_of_below h none) (by simp)) (grown_puts (w.heap.size + 1) cs 0 (World.grownBy.refl w1 _)) (by simp)
theorem par_grown {w w1 : World} {cs : List Value} (h : Below ((w.alloc (.cells z32c 23)).alloc (.cells z32c 23)).heap.size ((w.alloc (.cells z32c 23)).alloc (.cells z32c 23)) w1) : w.grownBy (w1.setCells (w.heap.size + 1) 0 cs) none :=
  (((World.grownBy_alloc w _ none).trans (World.grownBy_alloc _ _ none)).trans (grown_of_below h none)).andThen (grown_puts (w.heap.size + 1) cs 0 (World.grownBy.refl w1 _)) (fun j hj => by left; simp at hj; omega)
set_option maxHeartbeats 400000 in
set_option maxRecDepth 100000 in
theorem parse_64 (t : ByteArray) (w : World) (ht : t.size = 64) (hA : All w) :
    Calls Tryd.prog 4 #[.string t] w fun e w' => e = .returned (.tuple #[.agg (pid t), .int .i64 (uhE t)]) ∧ Below w.heap.size w w' := by
  have HA : Hid (All w) := hA
  have hlt := hA.lt
  clear hA
  have h1 := slice32 (w.heap.size + 1)
  go_enter Tryd.func4, Tryd.ntmps4
  go_wp2_with (first
    | (go_at_call 16; refine (unhex_even t _ 32 (by omega) (by omega) ((HA.out.alloc _).alloc _).t (by rw [alloc_size, alloc_size]; omega)).mono ?_; rintro e w1 ⟨rfl, hb1⟩; have HB1 : Hid (Below (((w.alloc (.cells z32c 23)).alloc (.cells z32c 23))).heap.size ((w.alloc (.cells z32c 23)).alloc (.cells z32c 23)) w1) := hb1; clear hb1; have HI : Hid (Blk w1 (w.heap.size + 1) z32c 23) := Blk.grown (by { have e := blk_new (w.alloc (.cells z32c 23)) (.cells z32c 23); rw [alloc_size] at e; exact e }) (grown_of_below HB1.out none) (by simp); have hcp := copy32 HI.out (uhS t))
    | (refine wpList_load_row rfl 23 (.tmp 4) rfl (w.heap.size + 1) rfl 23 (pid t) (0, 0) _ (Blk.puts _ 0 _ _ HI.out) Tryd.underlying23 rfl (info_32 (pid_size t)) ?_)
    | (refine wpList_store_row rfl 23 (.tmp 2) (.tmp 19) rfl w.heap.size (pid t) rfl rfl 23 z32c (par_res HB1.out) (info_32 (pid_size t)) (by rw [z32c_size, pid_size]) (pid_one t) ?_))
  refine bodyPost_ret (results_cell_tmp_row rfl _ _ w.heap.size 23 (pid t) (0, 0) _ rfl (setRow_heap _ _ _ _ _ _ (par_res HB1.out)) Tryd.underlying23 rfl (info_32 (pid_size t))) rfl ⟨rfl, ?_⟩
  exact below_setRow (below_of_grown (par_grown HB1.out)) (Nat.le_refl _) _
set_option maxHeartbeats 400000 in
set_option maxRecDepth 100000 in
theorem parse_bad (t : ByteArray) (w : World) (ht : t.size ≠ 64) (hm : t.size ≤ 140737488351232) :
    Calls Tryd.prog 4 #[.string t] w fun e w' => e = .returned (.tuple #[.agg z32c, .int .i64 4]) ∧ Below w.heap.size w w' := by
  have hne : ¬ (t.size : Int) = 64 := by omega
  have hz := zero_id
  go_enter Tryd.func4, Tryd.ntmps4
  go_wp2_with (refine wpList_store_row rfl 23 (.tmp 2) (.tmp 10) rfl w.heap.size z32c rfl rfl 23 z32c (Blk.grown (blk_new w _) (World.grownBy_alloc _ _ none) (by simp)) (info_32 z32c_size) rfl z32c_one ?_)
  refine bodyPost_ret (results_cell_tmp_row rfl _ _ w.heap.size 23 z32c (0, 0) _ rfl (setRow_heap _ _ _ _ _ _ (Blk.grown (blk_new w (.cells z32c 23)) (World.grownBy_alloc _ _ none) (by simp))) Tryd.underlying23 rfl (info_32 z32c_size)) rfl ⟨rfl, ?_⟩
  exact below_setRow (below_of_grown ((World.grownBy_alloc w _ none).trans (World.grownBy_alloc _ _ none))) (Nat.le_refl _) _
end Go.Proofs.YtijpdnoloicfjaaDoor
