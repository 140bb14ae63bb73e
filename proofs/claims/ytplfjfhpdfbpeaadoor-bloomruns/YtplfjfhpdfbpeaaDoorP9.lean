/- Plain facts: a sum under way, piece by piece. -/
import Derived.Test.YtplfjfhpdfbpeaaDoorP8
namespace Go.Proofs.YtplfjfhpdfbpeaaDoor
set_option linter.unusedSimpArgs false
set_option linter.unusedVariables false
/-- A string's bytes as numbers. -/
def byl (s : ByteArray) : List Nat := s.data.toList.map UInt8.toNat
theorem byl_length (s : ByteArray) : (byl s).length = s.size := by rw [byl, List.length_map, Array.length_toList]; rfl
theorem byl_lt (s : ByteArray) : ∀ x ∈ byl s, x < 256 := by
  intro x hx
  simp only [byl, List.mem_map] at hx
  obtain ⟨y, _, rfl⟩ := hx
  exact y.toNat_lt
theorem byl_drop (s : ByteArray) (n : Nat) : byl (s.extract n s.size) = (byl s).drop n := by
  have e : (s.extract n s.size).data.toList = s.data.toList.drop n := by
    rw [ByteArray.data_extract, Array.toList_extract]
    rw [List.extract_eq_take_drop, List.take_of_length_le (by rw [List.length_drop, Array.length_toList]; exact Nat.le_refl _)]
  simp only [byl, e, List.map_drop]
theorem sb_byl (s : ByteArray) : sb (byl s) = s := by
  have e : ((byl s).map UInt8.ofNat) = s.data.toList := by
    simp only [byl, List.map_map]
    have : (UInt8.ofNat ∘ UInt8.toNat) = id := by funext x; simp
    rw [this, List.map_id]
  unfold sb
  rw [e]
theorem byl_sb (l : List Nat) (h : ∀ x ∈ l, x < 256) : byl (sb l) = l := by
  simp only [byl, sb, List.map_map]
  have : l.map (UInt8.toNat ∘ UInt8.ofNat) = l.map id := by
    apply List.map_congr_left
    intro x hx
    simp [Nat.mod_eq_of_lt (h x hx)]
  simp [this]
/-- Bytes laid over others from a place on. -/
def putL (m : List Nat) (r : Nat) (xs : List Nat) : List Nat := m.take r ++ xs ++ m.drop (r + xs.length)
theorem putL_length (m : List Nat) (r : Nat) (xs : List Nat) (h : r + xs.length ≤ m.length) : (putL m r xs).length = m.length := by
  simp [putL]; omega
theorem putL_getD (m : List Nat) (r : Nat) (xs : List Nat) (h : r + xs.length ≤ m.length) (j : Nat) :
    (putL m r xs).getD j 0 = if j < r then m.getD j 0 else if j < r + xs.length then xs.getD (j - r) 0 else m.getD j 0 := by
  unfold putL
  simp only [List.getD]
  split
  · rw [List.append_assoc, List.getElem?_append_left (by simp; omega), List.getElem?_take_of_lt (by assumption)]
  · split
    · rw [List.append_assoc, List.getElem?_append_right (by simp; omega), List.getElem?_append_left (by simp; omega)]
      congr 2
      simp; omega
    · rw [List.getElem?_append_right (by simp; omega), List.getElem?_drop]
      congr 2
      simp; omega
theorem putL_lt (m : List Nat) (r : Nat) (xs : List Nat) (hm : ∀ x ∈ m, x < 256) (hx : ∀ x ∈ xs, x < 256) : ∀ x ∈ putL m r xs, x < 256 := by
  intro x h
  simp only [putL, List.mem_append] at h
  rcases h with (h | h) | h
  · exact hm x (List.mem_of_mem_take h)
  · exact hx x h
  · exact hm x (List.mem_of_mem_drop h)
theorem list_ext_getD (a b : List Nat) (h : a.length = b.length) (hj : ∀ j, j < a.length → a.getD j 0 = b.getD j 0) : a = b := by
  apply List.ext_getElem? 
  intro i
  by_cases hi : i < a.length
  · have := hj i hi
    simp only [List.getD, List.getElem?_eq_getElem hi, List.getElem?_eq_getElem (h ▸ hi), Option.getD_some] at this
    rw [List.getElem?_eq_getElem hi, List.getElem?_eq_getElem (h ▸ hi), this]
  · rw [List.getElem?_eq_none (by omega), List.getElem?_eq_none (by omega)]
/-- A sum under way: its numbers and its block are those of all that was written. -/
structure Sta (msg : List Nat) (h : V8) (m : List Nat) : Prop where
  len : m.length = 64
  lt : ∀ x ∈ m, x < 256
  num : h = hs msg (msg.length / 64)
  part : ∀ j, j < msg.length % 64 → m.getD j 0 = msg.getD (64 * (msg.length / 64) + j) 0
theorem Sta.part' {msg : List Nat} {h : V8} {m : List Nat} (S : Sta msg h m) (xs : List Nat) (hx : xs.length ≤ 64 - msg.length % 64) (j : Nat) (hj : j < msg.length % 64 + xs.length) :
    (putL m (msg.length % 64) xs).getD j 0 = (msg ++ xs).getD (64 * (msg.length / 64) + j) 0 := by
  rw [putL_getD _ _ _ (by rw [S.len]; omega)]
  by_cases e : j < msg.length % 64
  · rw [if_pos e, S.part j e]
    simp only [List.getD]
    rw [List.getElem?_append_left (by omega)]
  · rw [if_neg e, if_pos hj]
    simp only [List.getD]
    rw [List.getElem?_append_right (by omega)]
    congr 2
    omega
theorem Sta.more {msg : List Nat} {h : V8} {m : List Nat} (S : Sta msg h m) (xs : List Nat) (hb : ∀ x ∈ xs, x < 256) (hx : xs.length < 64 - msg.length % 64) :
    Sta (msg ++ xs) h (putL m (msg.length % 64) xs) := by
  have e1 : (msg.length + xs.length) / 64 = msg.length / 64 := by omega
  have e2 : (msg.length + xs.length) % 64 = msg.length % 64 + xs.length := by omega
  refine ⟨by rw [putL_length _ _ _ (by rw [S.len]; omega), S.len], putL_lt _ _ _ S.lt hb, ?_, fun j hj => ?_⟩
  · rw [List.length_append, e1, hs_append _ _ _ (by omega), S.num]
  · rw [List.length_append, e2] at hj
    rw [List.length_append, e1, S.part' xs (by omega) j hj]
theorem Sta.full {msg : List Nat} {h : V8} {m : List Nat} (S : Sta msg h m) (xs : List Nat) (hb : ∀ x ∈ xs, x < 256) (hx : xs.length = 64 - msg.length % 64) :
    Sta (msg ++ xs) (comp (putL m (msg.length % 64) xs) h) (putL m (msg.length % 64) xs) := by
  have e1 : (msg.length + xs.length) / 64 = msg.length / 64 + 1 := by omega
  have e2 : (msg.length + xs.length) % 64 = 0 := by omega
  refine ⟨by rw [putL_length _ _ _ (by rw [S.len]; omega), S.len], putL_lt _ _ _ S.lt hb, ?_, fun j hj => ?_⟩
  · rw [List.length_append, e1, hs, hs_append _ _ _ (by omega), ← S.num]
    congr 1
    apply list_ext_getD
    · rw [putL_length _ _ _ (by rw [S.len]; omega), S.len, blk]; simp; omega
    · intro j hj
      rw [putL_length _ _ _ (by rw [S.len]; omega), S.len] at hj
      rw [S.part' xs (by omega) j (by omega)]
      simp only [blk, List.getD]
      rw [List.getElem?_take_of_lt hj, List.getElem?_drop]
  · rw [List.length_append, e2] at hj; omega
theorem Sta.zero (m : List Nat) (hl : m.length = 64) (hm : ∀ x ∈ m, x < 256) : Sta [] H0 m := ⟨hl, hm, rfl, fun j hj => by simp at hj⟩
end Go.Proofs.YtplfjfhpdfbpeaaDoor
