import Derived.Test.YtpfknjnigcefgaaGreatDoorY32
import Derived.Test.YtpfknjnigcefgaaGreatDoorY7
import Derived.Test.YtpfknjnigcefgaaGreatDoorY26
import Derived.Test.YtpfknjnigcefgaaGreatDoorY30
/- The walk of the document's own sum (munimentref02.sum). -/
namespace Go.Proofs.YtpfknjnigcefgaaGreatDoor
open Go.RowKit
set_option linter.unusedSimpArgs false
set_option linter.unusedVariables false
set_option maxHeartbeats 4000000 in
set_option maxRecDepth 100000 in
theorem rsum_any (s : ByteArray) (w : World) (hsz : s.size ≤ 140737488351232) :
    Calls Tryz.prog 47 #[.string s, .agg (v8c H0), .agg kcs] w fun e w' => e = .returned (.agg (shc (byl s))) ∧ Below w.heap.size w w' := by
  go_enter Tryz.func47, Tryz.ntmps47
  iterate 13 (first | go_values | go_skip | go_guarded | go_step | go_upon | go_back)
  show Exit.then _ _ Exit.normal _ (sumW w)
  obtain ⟨n0, hn0⟩ : ∃ n0, n0 = w.heap.size := ⟨_, rfl⟩
  obtain ⟨w1, hw1⟩ : ∃ w1, w1 = sumW w := ⟨_, rfl⟩
  have HS1 : Hid (Su w n0 H0 w1) := by rw [hn0, hw1]; exact Su.start w
  have hz1 : w1.heap.size = n0 + 3 := by rw [hn0, hw1]; exact sumW_size w
  rw [← hw1, ← hn0]
  have HN : Hid (n0 = w.heap.size) := hn0
  clear hw1 hn0
  obtain ⟨v1, w2, hcv, hb2, hF2⟩ := Fre.of_conv (s ++ ⟨#[128]⟩) w1 (by rw [append_size, show (⟨#[128]⟩ : ByteArray).size = 1 from rfl]; omega)
  rw [hz1] at hF2 hb2
  have HB2 : Hid (Below (n0 + 3) w1 w2) := hb2
  obtain ⟨msg, hmsg⟩ : ∃ m, m = byl s := ⟨_, rfl⟩
  have HM : Hid (msg = byl s) := hmsg
  have hml : msg.length = s.size := by rw [hmsg, byl_length]
  have HML : Hid (msg.length = s.size) := hml
  have hF0 : Fre w2 (n0 + 3) v1 (bvc (padTo msg 0)) := by
    have e : Lib.strCells (s ++ ⟨#[128]⟩) = bvc (padTo msg 0) := by
      rw [cells_byl, byl_app, padTo, hmsg]; simp; rfl
    rw [← e]; exact hF2
  have HF0 : Hid (Fre w2 (n0 + 3) v1 (bvc (padTo msg 0))) := hF0
  have z2 : n0 + 3 ≤ w2.heap.size := by have := hb2.size; omega
  clear hF0 hF2 hb2 hmsg hml
  go_wp2
  go_loopw [7] (fun v wr => ∃ (k : Nat), k ≤ pads s.size ∧ Hid (Fre wr (n0 + 3) v (bvc (padTo msg k)) ∧ Below (n0 + 3) w1 wr)) (fun v _ => s.size + 70 - slLen v)
  case atStart => exact ⟨0, by omega, HF0.out, HB2.out⟩
  case round =>
    obtain ⟨k, hk, HR⟩ := hrel
    have hL : (bvc (padTo msg k)).length = s.size + 1 + k := by rw [bvc_length, padTo_length, HML.out]
    have hpl := pads_le s.size
    have zr : n0 + 3 ≤ wr.heap.size := by have := HR.out.2.size; omega
    by_cases hlt : k < pads s.size
    · obtain ⟨g, cap, hv, hgB, hgc, hcm, hcl⟩ := HR.out.1.cell
      rw [hL] at hv
      have ht : ((((s.size : Int) + 1 + k) % 64) != 56) = true := by
        have := pads_first s.size k hlt
        rw [bne_iff_ne]; omega
      have HF : Hid (Fre wr (n0 + 3) (.slice (some ⟨g, 0, none⟩) (s.size + 1 + k) cap) (bvc (padTo msg k)) ∧ Below (n0 + 3) w1 wr) := by rw [← hv]; exact HR.out
      subst hv
      clear HR hcl hgB
      have HL : Hid ((bvc (padTo msg k)).length = s.size + 1 + k) := hL
      clear hL
      go_wp2_with (at_builtin; refine wpList_free_byte rfl _ _ rfl (n0 + 3) _ (bvc (padTo msg k)) rfl (HF.out.1.kept (World.grownBy_alloc wr _ none) (by simp)) (by rw [alloc_size]; omega) ⟨wr.heap.size, 0, none⟩ 1 0 rfl (by rw [World.cell?_alloc_new]; rfl) (by rw [HL.out]; omega) ?_)
      intro v' w7 hF7 hg7 hob
      have HF7 : Hid (Fre w7 (n0 + 3) v' (bvc (padTo msg (k + 1))) ∧ Below (n0 + 3) w1 w7) := by
        refine ⟨?_, ?_⟩
        · rw [padTo_succ, bvc_append]; exact hF7
        · exact free_below (HF.out.2.alloc zr _) (by rw [alloc_size]; omega) hg7 hob
      have hl7 : slLen v' = s.size + 1 + (k + 1) := by
        obtain ⟨g', cap', e', _⟩ := HF7.out.1.cell
        rw [e', slLen, bvc_length, padTo_length, HML.out]
      clear hF7 hg7 hob HF
      go_wp2
      go_roundw
      case rel => exact ⟨k + 1, by omega, HF7.out⟩
      case measure => rw [hl7]; simp [slLen]; omega
    · have hke : k = pads s.size := by omega
      obtain ⟨g, cap, hv, hgB, hgc, hcm, hcl⟩ := HR.out.1.cell
      rw [hL] at hv
      have ht : ((((s.size : Int) + 1 + k) % 64) != 56) = false := by
        have := pads_at s.size
        rw [← hke] at this
        rw [bne_eq_false_iff_eq]; omega
      have HF : Hid (Fre wr (n0 + 3) (.slice (some ⟨g, 0, none⟩) (s.size + 1 + k) cap) (bvc (padTo msg k)) ∧ Below (n0 + 3) w1 wr) := by rw [← hv]; exact HR.out
      have HKE : Hid (k = pads s.size) := hke
      subst hv
      have HL : Hid ((bvc (padTo msg k)).length = s.size + 1 + k) := hL
      clear HR hcl hgB hke hL hlt
      go_wp2_with fail
      have hfx := rfix_any (8 * s.size) 8 wr (by omega) (by omega) (by omega) (by omega)
      rw [show ((8 * s.size : Nat) : Int) = 8 * (s.size : Int) from by omega] at hfx
      refine hfx.mono ?_
      clear hfx
      rintro e w3 ⟨rfl, hb3⟩
      obtain ⟨fx, hfx⟩ : ∃ fx, fx = (⟨#[]⟩ : ByteArray) ++ sb (fixN 8 (8 * s.size)) := ⟨_, rfl⟩
      rw [← hfx]
      have HFX : Hid (Lib.strCells fx = bvc (fixN 8 (8 * s.size))) := by rw [hfx]; exact fix_cells _ (by omega)
      have hfz : fx.size ≤ 8 := by rw [hfx, fix_size]; omega
      have HF3 : Hid (Fre w3 (n0 + 3) (.slice (some ⟨g, 0, none⟩) (s.size + 1 + k) cap) (bvc (padTo msg k)) ∧ Below (n0 + 3) w1 w3) := ⟨HF.out.1.kept (grown_of_below hb3 none) (by simp), HF.out.2.trans (hb3.mono zr)⟩
      have z3 : n0 + 3 ≤ w3.heap.size := by have := hb3.size; omega
      clear hfx hb3 HF
      go_wp2_with (at_builtin; refine wpList_free_text rfl _ _ rfl (n0 + 3) _ (bvc (padTo msg k)) rfl HF3.out.1 z3 fx rfl (by omega) (by rw [HL.out]; omega) ?_)
      intro v' w4 hF4 hg4 hob
      obtain ⟨pm, hpm⟩ : ∃ pm, pm = padded msg := ⟨_, rfl⟩
      have hcells : bvc (padTo msg k) ++ Lib.strCells fx = bvc pm := by rw [HFX.out, ← bvc_append, hpm, padded, padTo, HML.out, HKE.out]
      rw [hcells] at hF4
      have hb4 : Below (n0 + 3) w1 w4 := free_below HF3.out.2 z3 hg4 hob
      obtain ⟨g2, cap2, hv2, hg2, hgc2, hcm2, hcl2⟩ := hF4.cell
      have hmod := padded_mod msg
      have hpl2 := padded_length msg
      rw [← hpm] at hmod hpl2
      rw [HML.out] at hpl2
      rw [bvc_length] at hv2 hgc2 hcl2
      obtain ⟨M, hM⟩ : ∃ M, M = pm.length := ⟨_, rfl⟩
      rw [← hM] at hv2 hgc2 hcl2 hmod hpl2
      have hMb : M ≤ 140737488352000 := by omega
      have hS4 : Sv w n0 g2 pm 0 w4 := by
        obtain ⟨gq, _, cur, _, eq, _, hq, _⟩ := hF4
        refine ⟨HS1.out.more hb4, fun j hj => ?_, hg2, ?_⟩
        · rw [hcl2 j (by omega), bvc_getD _ _ hj]
        · rw [hv2] at eq
          simp at eq
          rw [eq.1]; exact blk_lt hq
      have HS4 : Hid (Sv w n0 g2 pm 0 w4) := hS4
      have HPM : Hid (pm = padded msg) := hpm
      have HMM : Hid (M = pm.length) := hM
      have HMD : Hid (M % 64 = 0) := hmod
      have hm64 : 64 * (M / 64) = M := by omega
      have HM64 : Hid (64 * (M / 64) = M) := hm64
      subst hv2
      have hcap2 : cap2 ≤ 9223372036854775807 := by unfold maxLen at hcm2; omega
      clear hS4 hpm hM hmod hpl2 hm64 hcells hF4 hg4 hob hb4 hcl2 HF3 HFX HL HKE hcm2 hcm hgc ht hfz z3 HF0 HB2 hcv z2 hk hpl zr
      go_wp2
      go_loopw [8] (fun v wr => ∃ (i at_ : Nat), i ≤ M / 64 ∧ v = .int .i64 (at_ : Int) ∧ Hid (at_ = 64 * i) ∧ Hid (Sv w n0 g2 pm i wr)) (fun v _ => 140737488353000 - (intOf v).toNat)
      case atStart => exact ⟨0, 0, by omega, rfl, rfl, HS4⟩
      case round =>
        clear HS4
        obtain ⟨i, at_, hi, rfl, HAT, HR⟩ := hrel
        have zr : g2 < wr.heap.size := HR.out.lt
        have hge := HR.out.ge
        by_cases hlt : i < M / 64
        · have hiM : at_ + 64 ≤ M := by have := HM64.out; have := HAT.out; omega
          obtain ⟨X, hX⟩ : ∃ X, X = wr.heap.size := ⟨_, rfl⟩
          have HXX : Hid (X = wr.heap.size) := hX
          go_wp2
          rw [← hX]
          have hc3 : ∀ j, j < 64 → (wr.alloc (.cells (Array.replicate 64 (c32 0)) 100)).cell? ⟨g2, at_ + j, none⟩ = some (.int .u8 ((blk pm i).getD j 0 : Nat)) := fun j hj => by
            rw [World.cell?_alloc_past _ _ _ zr, HR.out.m (at_ + j) (by rw [← HMM.out]; omega), blk_getD _ _ _ hj, HAT.out]
          have hB3 : Blk (wr.alloc (.cells (Array.replicate 64 (c32 0)) 100)) X (Array.replicate 64 (c32 0)) 100 := by rw [hX]; exact blk_new _ _
          clear hX
          refine loop3 _ g2 M cap2 at_ X (blk pm i) (Array.replicate 64 (c32 0)) (wr.alloc (.cells (Array.replicate 64 (c32 0)) 100)) _ _ _ _ _ _ _ _ _ _ _ _ _ _ _ _ _ _ _ _ _ _ _ _ _ _ _ _ _ _ _ _ _ _ _ _ _ _ _ _ _ _ _ _ _ _ _ _ _ _ _ _ _ _ _ _ _ _ _ _ _ _ _ _ _ _ _ _ _ _ _ _ _ _ _ _ _ _ _ _ _ _ _ _ _ _ _ _ _ _ _ _ _ _ _ _ _ _ _ _ _ _ _ _ _ _ _ _ _ _ _ _ _ _ _ _ _ _ _ _ _ _ _ _ _ _ _ _ _ _ _ _ _ _ _ _ _ _ _ _ _ _ _ _ _ _ _ _ _ _ _ _ _ _ _ _ _ _ _ _ _ _ _ _ _ _ _ _ _ _ _ _ _ _ _ _ _ _ _ _ _ _ _ _ _ _ _ _ _ _ _ _ _ _ _ _ _ _ _ _ _ _ _ _ _ _ _ _ _ _ _ _ _ _ _ _ _ _ _ _ _ _ _ _ _ _ _ _ _ _ _ hgc2 hcap2 hiM (by rw [HXX.out]; omega) hc3 rfl hB3 ?_
          intro a10 a11 a47 a48 a49 a50 a51 a52 a53 a54 a55 a56 a57 a58 a59 a60 a61 a62 a63 a64 a65 a66 a67 a68 a69 a70 a71 a72 a73 a74 a75 a76 a77 a78 a79 a80 C3 w5 hSq3
          clear hc3 hB3
          have H3 : Hid (Sq (wr.alloc (.cells (Array.replicate 64 (c32 0)) 100)) X (blk pm i) 16 C3 w5) := hSq3
          clear hSq3
          go_wp2
          refine loop4 _ X (blk pm i) C3 (wr.alloc (.cells (Array.replicate 64 (c32 0)) 100)) w5 _ _ _ _ _ _ _ _ _ _ _ _ _ _ _ _ _ _ _ _ _ _ _ _ _ _ _ _ _ _ _ _ _ _ _ _ _ _ _ _ _ _ _ _ _ _ _ _ _ _ _ _ _ _ _ _ _ _ _ _ _ _ _ _ _ _ _ _ _ _ _ _ _ _ _ _ _ _ _ _ _ _ _ _ _ _ _ _ _ _ _ _ _ _ _ _ _ _ _ _ _ _ _ _ _ _ _ _ _ _ _ _ _ _ _ _ _ _ _ _ _ _ _ _ _ _ _ _ _ _ _ _ _ _ _ _ _ _ _ _ _ _ _ _ _ _ _ _ _ _ _ _ _ _ _ _ _ _ _ _ _ _ _ _ _ _ _ _ _ _ _ _ _ _ _ _ _ _ _ _ _ _ _ _ _ _ _ _ _ _ _ _ _ _ _ _ _ _ _ _ _ _ _ _ _ _ _ _ _ _ _ _ _ _ _ _ _ _ _ _ _ _ _ _ _ _ _ _ _ _ _ _ _ H3.out ?_
          intro b12 b13 b14 b81 b82 b83 b84 b85 b86 b87 b88 b89 b90 b91 b92 b93 b94 b95 b96 b97 b98 b99 b100 b101 b102 b103 b104 b105 b106 b107 b108 b109 b110 b111 b112 b113 b114 b115 b116 b117 b118 b119 b120 b121 C4 w6 hSq4
          have hb6 : Below wr.heap.size wr w6 := by
            refine ((Below.refl wr.heap.size wr).alloc (Nat.le_refl _) _).grown hSq4.grown (by rw [alloc_size]; omega) (fun k hk => by cases hk; rw [HXX.out]; exact Nat.le_refl _)
          have HB6 : Hid (Below wr.heap.size wr w6) := hb6
          have hz6 : wr.heap.size ≤ w6.heap.size := hb6.size
          have HX6 : Hid (Blk w6 X (w64c (blk pm i)) 100) := by have e := hSq4.whole; rw [← e]; exact hSq4.blk
          have hX6 : X < w6.heap.size := blk_lt hSq4.blk
          obtain ⟨h, hh⟩ : ∃ h, h = hs pm i := ⟨_, rfl⟩
          have HHH : Hid (h = hs pm i) := hh
          have HN6 : Hid (Blk w6 n0 (v8c h) 98) := by rw [hh]; exact below_blk hb6 HR.out.su.st (by omega)
          have HK6 : Hid (Blk w6 (n0 + 1) kcs 100) := below_blk hb6 HR.out.su.k (by omega)
          clear hSq4 H3 hb6 hh
          go_wp2_with (first
            | (refine wpList_load_v8 rfl (.tmp 4) rfl n0 0 rfl h (fun j hj => by rw [HN6.out.cell, Nat.zero_add, v8c_get _ _ hj]) ?_)
            | (refine wpList_store_abs rfl 98 (.tmp 15) (.tmp 122) rfl (v8c h) _ 98 w6.heap.size rfl rfl rfl info_8 rfl (v8c_one h) ?_; intro w7 HBv HGv hsz7))
          have hKc : ∀ t, t < 64 → w7.cell? ⟨n0 + 1, t, none⟩ = some (c32 (KT t)) := fun t ht => by
            rw [(HK6.out.grown HGv.out (by simp)).cell, kcs_get t ht]
          refine loop5 _ (n0 + 1) X w6.heap.size (blk pm i) h w7 _ _ _ _ _ _ _ _ _ _ _ _ _ _ _ _ _ _ _ _ _ _ _ _ _ _ _ _ _ _ _ _ _ _ _ _ _ _ _ _ _ _ _ _ _ _ _ _ _ _ _ _ _ _ _ _ _ _ _ _ _ _ _ _ _ _ _ _ _ _ _ _ _ _ _ _ _ _ _ _ _ _ _ _ _ _ _ _ _ _ _ _ _ _ _ _ _ _ _ _ _ _ _ _ _ _ _ _ _ _ _ _ _ _ _ _ _ _ _ _ _ _ _ _ _ _ _ _ _ _ _ _ _ _ _ _ _ _ _ _ _ _ _ _ _ _ _ _ _ _ _ _ _ _ _ _ _ _ _ _ _ _ _ _ _ _ _ _ _ _ _ _ _ _ _ _ _ _ _ _ _ _ _ _ _ _ _ _ _ _ _ _ _ _ _ _ _ _ _ _ _ _ _ _ _ _ _ _ _ _ _ _ _ _ _ _ _ _ _ _ _ _ _ _ _ _ _ _ _ _ _ HBv.out (HX6.out.grown HGv.out (by simp)) hKc (by omega) (by omega) ?_
          intro e16 e17 e18 e19 e20 e123 e124 e125 e126 e127 e128 e129 e130 e131 e132 e133 e134 e135 e136 e137 e138 e139 e140 e141 e142 e143 e144 e145 e146 e147 e148 e149 e150 e151 e152 e153 e154 e155 e156 e157 e158 e159 e160 e161 e162 e163 e164 e165 e166 e167 e168 e169 e170 e171 e172 e173 e174 e175 e176 e177 e178 e179 e180 e181 e182 e183 e184 e185 e186 e187 e188 e189 e190 e191 e192 e193 e194 e195 e196 e197 e198 e199 e200 e201 e202 e203 e204 w8 h8
          have HV8 : Hid (Blk w8 w6.heap.size (v8c (rds (blk pm i) h 64)) 98) := h8.1
          have hb8 : Below wr.heap.size wr w8 := by
            have z6 := HB6.out.size
            refine (HB6.out.grown HGv.out z6 (fun k hk => by cases hk)).grown h8.2 (by omega) (fun k hk => by cases hk; exact z6)
          have HB8 : Hid (Below wr.heap.size wr w8) := hb8
          have HN8 : Hid (Blk w8 n0 (v8c h) 98) := by rw [HHH.out]; exact below_blk hb8 HR.out.su.st (by omega)
          clear hKc h8 hb8 HBv HGv hsz7 HX6 HK6 HN6
          go_wp2
          refine loop6 _ n0 w6.heap.size h (rds (blk pm i) h 64) w8 _ _ _ _ _ _ _ _ _ _ _ _ _ _ _ _ _ _ _ _ _ _ _ _ _ _ _ _ _ _ _ _ _ _ _ _ _ _ _ _ _ _ _ _ _ _ _ _ _ _ _ _ _ _ _ _ _ _ _ _ _ _ _ _ _ _ _ _ _ _ _ _ _ _ _ _ _ _ _ _ _ _ _ _ _ _ _ _ _ _ _ _ _ _ _ _ _ _ _ _ _ _ _ _ _ _ _ _ _ _ _ _ _ _ _ _ _ _ _ _ _ _ _ _ _ _ _ _ _ _ _ _ _ _ _ _ _ _ _ _ _ _ _ _ _ _ _ _ _ _ _ _ _ _ _ _ _ _ _ _ _ _ _ _ _ _ _ _ _ _ _ _ _ _ _ _ _ _ _ _ _ _ _ _ _ _ _ _ _ _ _ _ _ _ _ _ _ _ _ _ _ _ _ _ _ _ _ _ _ _ _ _ _ _ _ _ _ _ _ _ _ _ _ _ _ _ _ _ _ _ _ _ HN8.out HV8.out (by omega) ?_
          intro f21 f205 f206 f207 f208 f209 f210 f211 f212 f213 f214 f215 f216 f217 w9 h9
          have HS9 : Hid (Sv w n0 g2 pm (i + 1) w9) := by
            refine HR.out.next HB8.out h9.2 ?_
            have e : hs pm (i + 1) = h.add (rds (blk pm i) h 64) := by rw [HHH.out]; rfl
            rw [e]; exact h9.1
          clear h9 HR HB8 HV8 HN8 HB6
          go_wp2
          go_roundw
          case rel => exact ⟨i + 1, at_ + 64, by omega, by go_num, by show at_ + 64 = 64 * (i + 1); rw [HAT.out]; omega, HS9.out⟩
          case measure => simp [intOf]; omega
        · have hie : i = M / 64 := by omega
          have hatM : at_ = M := by rw [HAT.out, hie]; exact HM64.out
          have hatm : ¬ at_ < M := by omega
          obtain ⟨h, hh⟩ : ∃ h, h = hs pm (M / 64) := ⟨_, rfl⟩
          have HHH : Hid (h = hs pm (M / 64)) := hh
          have HSU : Hid (Su w n0 h wr) := by rw [hh, ← hie]; exact HR.out.su
          obtain ⟨D, hD⟩ : ∃ D, D = wr.heap.size := ⟨_, rfl⟩
          have HDD : Hid (D = wr.heap.size) := hD
          have hDn : n0 + 3 < D := by omega
          clear hie hatM hh hD HAT hi hlt
          go_wp2
          rw [← HDD.out]
          have hH7 : Blk (wr.alloc (.cells z32c 23)) n0 (v8c h) 98 := Blk.grown HSU.out.st (World.grownBy_alloc _ _ none) (by simp)
          have hD7 : Blk (wr.alloc (.cells z32c 23)) D z32c 23 := by rw [HDD.out]; exact blk_new _ _
          refine loop7 _ n0 D h z32c (wr.alloc (.cells z32c 23)) _ _ _ _ _ _ _ _ _ _ _ _ _ _ _ _ _ _ _ _ _ _ _ _ _ _ _ _ _ _ _ _ _ _ _ _ _ _ _ _ _ _ _ _ _ _ _ _ _ _ _ _ _ _ _ _ _ _ _ _ _ _ _ _ _ _ _ _ _ _ _ _ _ _ _ _ _ _ _ _ _ _ _ _ _ _ _ _ _ _ _ _ _ _ _ _ _ _ _ _ _ _ _ _ _ _ _ _ _ _ _ _ _ _ _ _ _ _ _ _ _ _ _ _ _ _ _ _ _ _ _ _ _ _ _ _ _ _ _ _ _ _ _ _ _ _ _ _ _ _ _ _ _ _ _ _ _ _ _ _ _ _ _ _ _ _ _ _ _ _ _ _ _ _ _ _ _ _ _ _ _ _ _ _ _ _ _ _ _ _ _ _ _ _ _ _ _ _ _ _ _ _ _ _ _ _ _ _ _ _ _ _ _ _ _ _ _ _ _ _ _ _ _ _ _ _ _ _ _ _ _ _ hH7 z32c_rep hD7 (by omega) ?_
          intro r23 r218 r219 r220 r221 r222 r223 r224 r225 r226 r227 r228 r229 r230 r231 r232 r233 w9 h9
          have HD9 : Hid (Blk w9 D (bvc (outB h)).toArray 23) := h9.1
          have hb9 : Below D wr w9 := by
            refine ((Below.refl D wr).alloc (by rw [HDD.out]; exact Nat.le_refl _) _).grown h9.2 (by rw [alloc_size]; rw [HDD.out]; omega) (fun k hk => by cases hk; exact Nat.le_refl _)
          have HR9 : Hid (Blk w9 (n0 + 1 + 1) z32c 23) := below_blk hb9 HSU.out.res (by omega)
          have HB9 : Hid (Below w.heap.size w w9) := by rw [← HN.out]; exact HSU.out.below.trans (hb9.mono (by omega))
          have HI : Hid ((Tryz.prog.info? 23).map (·.size) = some (bvc (outB h)).toArray.size) := by
            show _ = some (bvc (outB h)).toArray.size
            rw [info_id]; simp [bvc_length, outB_length]
          have HO : Hid ((bvc (outB h)).toArray.all (·.oneCell') = true) := by
            show Array.all _ _ = true
            simp [bvc, List.all_eq_true, Value.oneCell']
          have HZ : Hid (z32c.size = (bvc (outB h)).toArray.size) := by show z32c.size = _; rw [z32c_size]; simp [bvc_length, outB_length]
          have HOUT : Hid ((bvc (outB h)).toArray = shc (byl s)) := by
            show (bvc (outB h)).toArray = _
            rw [shc, sha, shaV, ← HM.out, ← HPM.out, ← HMM.out, HHH.out]
          clear h9 hb9 hH7 hD7 HR HSU
          go_wp2_with (first
            | (refine wpList_load_row rfl 23 (.tmp 22) rfl D rfl 23 (bvc (outB h)).toArray (0, 0) _ HD9.out Tryz.underlying23 rfl HI.out ?_)
            | (refine wpList_store_row rfl 23 (.tmp 6) (.tmp 234) rfl (n0 + 1 + 1) (bvc (outB h)).toArray rfl rfl 23 z32c HR9.out HI.out HZ.out HO.out ?_))
          refine bodyPost_ret (results_cell_row rfl _ _ (n0 + 1 + 1) 23 (bvc (outB h)).toArray (0, 0) _ rfl (setRow_heap _ _ _ _ _ _ HR9.out) Tryz.underlying23 rfl HI.out) rfl ⟨by rw [HOUT.out], ?_⟩
          exact below_setRow HB9.out (by rw [← HN.out]; omega) _
end Go.Proofs.YtpfknjnigcefgaaGreatDoor
/- The document's own constants (munimentref02). -/
namespace Go.Proofs.YtpfknjnigcefgaaGreatDoor
open Go.RowKit
set_option linter.unusedSimpArgs false
set_option linter.unusedVariables false
theorem kcs_size : kcs.size = 64 := rfl
theorem kcs_one : kcs.all (·.oneCell') = true := by decide +kernel
theorem info_k : (Tryz.prog.info? 100).map (·.size) = some kcs.size := info_64 kcs kcs_size
set_option maxHeartbeats 1000000 in
set_option maxRecDepth 100000 in
theorem constants_any (w : World) : Calls Tryz.prog 48 #[] w fun e w' => e = .returned (.agg kcs) ∧ Below w.heap.size w w' := by
  go_enter Tryz.func48, Tryz.ntmps48
  go_wp2_with (refine wpList_store_abs rfl 100 (.tmp 0) (.tmp 1) rfl kcs _ 100 w.heap.size rfl rfl rfl info_k rfl kcs_one ?_; intro w1 HB HG hz)
  refine bodyPost_ret (results_cell_row rfl _ _ w.heap.size 100 kcs (0, 0) _ rfl HB.out Tryz.underlying100 rfl info_k) rfl ⟨rfl, below_of_grown HG.out⟩
end Go.Proofs.YtpfknjnigcefgaaGreatDoor
/- The document's own Quick (munimentref02). -/
namespace Go.Proofs.YtpfknjnigcefgaaGreatDoor
open Go.RowKit
set_option linter.unusedSimpArgs false
set_option linter.unusedVariables false
theorem info_8l : (Tryz.prog.info? 98).map (·.size) = some 8 := by kernel_rfl
/-- What Quick's last line reads, wherever it stands. -/
abbrev SQ (w : World) (W : World) : Prop := Blk W w.heap.size z32c 23 ∧ Blk W (w.heap.size + 1) (v8c H0) 98 ∧ Below w.heap.size w W
theorem SQ.below {w W W' : World} (h : SQ w W) (hb : Below W.heap.size W W') : SQ w W' :=
  ⟨h.1.grown (grown_of_below hb none) (by simp), h.2.1.grown (grown_of_below hb none) (by simp), h.2.2.trans (hb.mono h.2.2.size)⟩
theorem quiet_v8 {o : Oper} {a : Act} {C : World → Prop} {K : Act → Prop} (v : V8) (x : Operand) (ho : o.op = .load 98 x) (g : Nat) (hx : a.eval x = .pointer (some ⟨g, 0, none⟩))
    (hr : ∀ w, C w → Blk w g (v8c v) 98) (hn : K (a.put o.dst (.agg (v8c v)))) : o.quiet Tryz.prog a C K :=
  quiet_valE (.agg (v8c v)) (fun w hw => by
    have h := run_loadAt_mid (P := Tryz.prog) w g 0 98 (v8c v).toList _ (fun j u hj => by rw [(hr w hw).cell, Nat.zero_add, ← hj, Array.getElem?_toList]) Tryz.underlying98 rfl (by rw [Array.length_toList]; exact info_8)
    unfold execOp
    simp only [ho, hx, h, Sem.run_bind, Result.andThen_ok]
    rfl) hn
theorem h0_lit : (#[Value.int .u32 1779033703, Value.int .u32 3144134277, Value.int .u32 1013904242, Value.int .u32 2773480762, Value.int .u32 1359893119, Value.int .u32 2600822924, Value.int .u32 528734635, Value.int .u32 1541459225] : Array Value) = v8c H0 := by kernel_rfl
theorem info_shc (m : List Nat) : (Tryz.prog.info? 23).map (·.size) = some (shc m).size := by rw [info_id, shc_size]
set_option maxHeartbeats 1000000 in
set_option maxRecDepth 100000 in
theorem quick_any (s : ByteArray) (w : World) (hs : s.size ≤ 140737488351232) :
    Calls Tryz.prog 19 #[.string s] w fun e w' => e = .returned (.agg (shc (byl s))) ∧ Below w.heap.size w w' := by
  go_enter Tryz.func19, Tryz.ntmps19
  go_wp2
  rw [h0_lit]
  show Code.wp _ _ _ _ ((w.alloc (.cells z32c 23)).alloc (.cells (v8c H0) 98))
  obtain ⟨w1, hw1⟩ : ∃ w1, w1 = (w.alloc (.cells z32c 23)).alloc (.cells (v8c H0) 98) := ⟨_, rfl⟩
  rw [← hw1]
  have hS : SQ w w1 := by
    have g2 := World.grownBy_alloc (w.alloc (.cells z32c 23)) (.cells (v8c H0) 98) none
    have e := blk_new (w.alloc (.cells z32c 23)) (.cells (v8c H0) 98)
    rw [alloc_size] at e
    rw [hw1]
    exact ⟨Blk.grown (blk_new w (.cells z32c 23)) g2 (by simp), e, ((Below.refl _ _).alloc (Nat.le_refl _) _).alloc (by rw [alloc_size]; omega) _⟩
  clear hw1
  refine wp_region_tail (SQ w) 4 (by kernel_rfl) (by kernel_rfl) ⟨hS.1, hS.2.1, hS.2.2.drew⟩ ?_
  simp only [List.take_succ_cons, List.take_zero, List.drop_succ_cons, List.drop_zero]
  go_big_quiet_want
  go_big_quiet_op
  go_big_quiet_on
  go_big_quiet_want
  refine quiet_v8 H0 _ rfl (w.heap.size + 1) rfl (fun _ h => h.2.1) ?_
  go_big_quiet_on; simp only [Act.put, List.setIfInBounds_toArray, List.set_cons_zero, List.set_cons_succ]
  go_big_quiet_want
  refine quiet_callE (.agg kcs) 48 #[] ?_ ?_ ?_
  · intro W hW; go_simp; done
  · intro W hW; exact (constants_any W).mono (fun _ _ h => ⟨h.1, SQ.below hW h.2⟩)
  go_big_quiet_on; simp only [Act.put, List.setIfInBounds_toArray, List.set_cons_zero, List.set_cons_succ]
  go_big_quiet_want
  refine quiet_callE (.agg (shc (byl s))) 47 #[.string s, .agg (v8c H0), .agg kcs] ?_ ?_ ?_
  · intro W hW; go_simp; done
  · intro W hW; exact (rsum_any s W hs).mono (fun _ _ h => ⟨h.1, SQ.below hW h.2⟩)
  go_big_quiet_on; simp only [Act.put, List.setIfInBounds_toArray, List.set_cons_zero, List.set_cons_succ]
  refine wpQuiet_nil ?_
  intro w9 hw9
  have HR9 : Hid (Blk w9 w.heap.size z32c 23) := hw9.1
  have HB9 : Hid (Below w.heap.size w w9) := hw9.2.2
  clear hw9 hS
  go_wp2_with (refine wpList_store_row rfl 23 (.tmp 2) (.tmp 8) rfl w.heap.size (shc (byl s)) rfl rfl 23 z32c HR9.out (info_shc _) (by rw [z32c_size, shc_size]) (shc_one _) ?_)
  refine bodyPost_ret (results_cell_row rfl _ _ w.heap.size 23 (shc (byl s)) (0, 0) _ rfl (setRow_heap _ _ _ _ _ _ HR9.out) Tryz.underlying23 rfl (info_shc _)) rfl ⟨rfl, ?_⟩
  exact below_setRow HB9.out (Nat.le_refl _) _
end Go.Proofs.YtpfknjnigcefgaaGreatDoor
/- The document's own Whole and Of, of payloads of whatever length. -/
namespace Go.Proofs.YtpfknjnigcefgaaGreatDoor
open Go.RowKit
set_option linter.unusedSimpArgs false
set_option linter.unusedVariables false
set_option maxHeartbeats 400000 in
set_option maxRecDepth 100000 in
theorem whole_big (k : Nat) (p : ByteArray) (w : World) (hk : k < 256) (hp : p.size ≤ 140737488351232) :
    Calls Tryz.prog 140 #[.int .u8 (k : Int), .string p] w fun e w' => e = .returned (.string (sb (whl k p))) ∧ Below w.heap.size w w' := by
  have c1 := fun w => conv1 w (k : Int)
  have c2 := fun (W : World) (h : W.cell? ⟨w.heap.size, 0, none⟩ = some (.int .u8 (k : Int))) => conv_any W w.heap.size (k : Int) h
  have c3 := conv_any (w.alloc (.cells #[.int .u8 (k : Int)] 5)).drew w.heap.size (k : Int) (by show (w.alloc (.cells #[.int .u8 (k : Int)] 5)).cell? _ = _; rw [World.cell?_alloc_new]; rfl)
  have hz := one_size (k : Int)
  have hwr : IntKind.u64.wrap (p.size : Int) = (p.size : Int) := wrap64s _ (by omega)
  have hl8 := lenstr p.size
  go_enter Tryz.func140, Tryz.ntmps140
  go_wp2
  go_region_with (go_at_call 67; refine (rfixed_any p.size _ (by omega)).mono ?_; rintro e w1 ⟨rfl, hb1⟩; obtain ⟨hc, hf⟩ := bcellD hb1)
  all_goals go_wp2
  all_goals go_ret
  all_goals refine ⟨ret_str (whole_eq k p hk), ?_⟩
  all_goals first
    | exact (((Below.refl _ _).alloc (Nat.le_refl _) _).drew).trans (hb1.mono (by show w.heap.size ≤ (w.alloc _).heap.size; rw [alloc_size]; omega))
    | exact (((Below.refl _ _).drew).trans hb1).alloc hb1.size _
theorem whl_bytes11 (k : Nat) (p : ByteArray) (hk : k < 256) : byl (sb (whl k p)) = whl k p := byl_sb _ (by
  intro x hx
  simp only [whl, List.mem_cons, List.mem_append] at hx
  rcases hx with rfl | h | h
  · exact hk
  · exact fixN_lt _ _ _ h
  · exact byl_lt _ _ h)
set_option maxHeartbeats 1000000 in
set_option maxRecDepth 100000 in
theorem rOf_big (k : Nat) (p : ByteArray) (w : World) (hk : k < 256) (hp : p.size ≤ 140737488351000) :
    Calls Tryz.prog 113 #[.int .u8 (k : Int), .string p] w fun e w' => e = .returned (.agg (shc (whl k p))) ∧ Below w.heap.size w w' := by
  go_enter Tryz.func113, Tryz.ntmps113
  go_wp2_with fail
  refine Calls.mono (whole_big k p (w.alloc (.cells z32c 23)) hk (by omega)) ?_
  rintro e w1 ⟨rfl, hb⟩
  rw [alloc_size] at hb
  have HZ : Hid (Blk w1 w.heap.size z32c 23) := Blk.grown (blk_new w (.cells z32c 23)) (grown_of_below (by rw [alloc_size]; exact hb) none) (by simp)
  have HB : Hid (Below w.heap.size w w1) := ((Below.refl _ _).alloc (Nat.le_refl _) _).trans (hb.mono (by omega))
  have hz : (sb (whl k p)).size ≤ 140737488351232 := by rw [sb_size]; simp [whl, fixN_length, byl_length]; omega
  clear hb
  go_wp2_with fail
  refine Calls.mono (quick_any (sb (whl k p)) _ hz) ?_
  rintro e w4 ⟨rfl, hb4⟩
  rw [whl_bytes11 k p hk]
  have HZ4 : Hid (Blk w4 w.heap.size z32c 23) := HZ.out.grown (grown_of_below hb4 none) (by simp)
  have HB4 : Hid (Below w.heap.size w w4) := HB.out.trans (hb4.mono HB.out.size)
  clear hb4 HZ HB
  go_wp2_with (refine wpList_store_row rfl 23 (.tmp 4) (.tmp 8) rfl w.heap.size (shc (whl k p)) rfl rfl 23 z32c HZ4.out (info_shc _) (by rw [z32c_size, shc_size]) (shc_one _) ?_)
  refine bodyPost_ret (results_cell_row rfl _ _ w.heap.size 23 (shc (whl k p)) (0, 0) _ rfl (setRow_heap _ _ _ _ _ _ HZ4.out) Tryz.underlying23 rfl (info_shc _)) rfl ⟨rfl, ?_⟩
  exact below_setRow HB4.out (Nat.le_refl _) _
end Go.Proofs.YtpfknjnigcefgaaGreatDoor
/- The document's own Check, record, trailer. -/
namespace Go.Proofs.YtpfknjnigcefgaaGreatDoor
open Go.RowKit
set_option linter.unusedSimpArgs false
set_option linter.unusedVariables false
set_option maxHeartbeats 400000 in
theorem rcheck11 (o : Ob) (w : World) (hm : o.p.size ≤ maxLen) :
    Calls Tryz.prog 139 #[.agg #[.int .u8 (o.k.toNat : Int), .string o.p]] w fun e w' => e = .returned (.int .i64 (ckO o)) ∧ Below w.heap.size w w' := by
  unfold maxLen at hm
  have hr : Below w.heap.size w (w.alloc (.cells #[.int .u8 (o.k.toNat : Int), .string o.p] 163)) := (Below.refl _ _).alloc (Nat.le_refl _) _
  have HR : Hid (Below w.heap.size w (w.alloc (.cells #[.int .u8 (o.k.toNat : Int), .string o.p] 163))) := hr
  obtain ⟨k, p⟩ := o
  simp only at hm hr HR ⊢
  clear hr
  have HC : Hid (∀ b : Int, ((1 ≤ k.toNat ∧ k.toNat ≤ 5 ∧ p.size ≤ 2097152) → b = 0) → (¬ (1 ≤ k.toNat ∧ k.toNat ≤ 5 ∧ p.size ≤ 2097152) → b = 1) → ckO ⟨k, p⟩ = b) := by
    intro b h1 h2
    unfold ckO
    split
    · rename_i h; exact (h1 ((okO_iff _).1 h)).symm
    · rename_i h; exact (h2 (fun h3 => h ((okO_iff _).2 h3))).symm
  have hk := k.toNat_lt
  generalize k.toNat = n at HR HC hk ⊢
  by_cases h1 : n < 1
  · have hz : n = 0 := by omega
    subst hz
    go_enter Tryz.func139, Tryz.ntmps139
    go_wp2
    go_ret
    exact ⟨ret_i11 (HC.out _ (by omega) (by omega)), HR.out⟩
  have g1 : ¬ (n : Int) < 1 := by omega
  by_cases h2 : 5 < n
  · have g2 : (5 : Int) < n := by omega
    go_enter Tryz.func139, Tryz.ntmps139
    go_wp2
    go_ret
    exact ⟨ret_i11 (HC.out _ (by omega) (by omega)), HR.out⟩
  have g2 : ¬ (5 : Int) < n := by omega
  by_cases h3 : 2097152 < p.size
  · have g3 : (2097152 : Int) < p.size := by omega
    go_enter Tryz.func139, Tryz.ntmps139
    go_wp2
    go_ret
    exact ⟨ret_i11 (HC.out _ (by omega) (by omega)), HR.out⟩
  have g3 : ¬ (2097152 : Int) < p.size := by omega
  go_enter Tryz.func139, Tryz.ntmps139
  go_wp2
  go_ret
  exact ⟨ret_i11 (HC.out _ (by omega) (by omega)), HR.out⟩
set_option maxHeartbeats 400000 in
theorem rtrailer (n : Nat) (w : World) (hn : n < 9223372036854775808) :
    Calls Tryz.prog 77 #[.int .i64 (n : Int)] w fun e w' => e = .returned (.string (trl n)) ∧ Below w.heap.size w w' := by
  have hw : IntKind.u64.wrap (n : Int) = (n : Int) := by
    simp [IntKind.wrap, IntKind.bits, IntKind.signed]; omega
  go_enter Tryz.func77, Tryz.ntmps77
  go_wp2_with fail
  refine (rput_any ⟨#[0]⟩ (n : Int) _ (by omega) (by omega) (by decide)).mono ?_
  rintro e w1 ⟨rfl, hb⟩
  rw [Int.toNat_natCast]
  have HB : Hid (Below w.heap.size w w1) := hb
  clear hb
  obtain ⟨q, hq⟩ : ∃ q, q = trB n := ⟨_, rfl⟩
  have e1 : (⟨#[0]⟩ : ByteArray) ++ sb (encS n) = q := by rw [hq]; rfl
  rw [e1]
  clear e1
  have hz : q.size ≤ 67108864 := by rw [hq, trB_size]; have := encS_le n (by omega); omega
  have HQ : Hid (q = trB n) := hq
  clear hq
  go_wp2_with fail
  refine (laid_any q _ hz).mono ?_
  rintro e w2 ⟨rfl, hb2⟩
  go_wp2
  go_ret
  refine ⟨?_, HB.out.trans (hb2.mono HB.out.size)⟩
  rw [HQ.out]; rfl
theorem rof_nm (o : Ob) (w : World) (hp : o.p.size ≤ 140737488351000) :
    Calls Tryz.prog 113 #[.int .u8 (o.k.toNat : Int), .string o.p] w fun e w' => e = .returned (.agg (idc (nmO o))) ∧ Below w.heap.size w w' := by
  have := rOf_big o.k.toNat o.p w o.k.toNat_lt hp
  rw [shc_idc] at this
  exact this
end Go.Proofs.YtpfknjnigcefgaaGreatDoor
