/-
  Texts parted at a byte: what the parts are, as the model's l00Cut and the library's Cut and Split have them.
  Conditions: none.
-/
import Derived.Test.YteckhdkghfidiaaDoorNum
import Derived.Lib.SplitLaws
namespace Go.Proofs.YteckhdkghfidiaaDoor
set_option linter.unusedVariables false
open Go.RowKit

/-- A text parted at each of a byte. -/
def cutL (c : UInt8) : List UInt8 → List (List UInt8)
  | [] => [[]]
  | x :: l => if x = c then [] :: cutL c l else (cutL c l).modifyHead (x :: ·)
theorem cutL_hit (c : UInt8) : ∀ (a b : List UInt8), c ∉ a → cutL c (a ++ c :: b) = a :: cutL c b
  | [], b, _ => by rw [List.nil_append, cutL, if_pos rfl]
  | x :: a, b, h => by
    have hx : x ≠ c := fun e => h (by simp [e])
    have ih := cutL_hit c a b (fun e => h (by simp [e]))
    rw [List.cons_append, cutL, if_neg hx, ih]; rfl
theorem cutL_miss (c : UInt8) : ∀ (a : List UInt8), c ∉ a → cutL c a = [a]
  | [], _ => rfl
  | x :: a, h => by
    have hx : x ≠ c := fun e => h (by simp [e])
    have ih := cutL_miss c a (fun e => h (by simp [e]))
    rw [cutL, if_neg hx, ih]; rfl
theorem part_at (c : UInt8) : ∀ (s : List UInt8), c ∉ s ∨ ∃ a b, c ∉ a ∧ s = a ++ c :: b
  | [] => .inl (by simp)
  | x :: l => by
    by_cases hx : x = c
    · subst hx; exact .inr ⟨[], l, by simp, rfl⟩
    · rcases part_at c l with h | ⟨a, b, h, e⟩
      · exact .inl (by simp [h, Ne.symm hx])
      · exact .inr ⟨x :: a, b, by simp [h, Ne.symm hx], by rw [e]; rfl⟩
theorem cutL_pos (c : UInt8) (s : List UInt8) : 1 ≤ (cutL c s).length := by
  rcases part_at c s with h | ⟨a, b, h, e⟩
  · rw [cutL_miss c s h]; simp
  · rw [e, cutL_hit c a b h]; simp
theorem cutL_one {c : UInt8} {s : List UInt8} (h : (cutL c s).length = 1) : c ∉ s := by
  rcases part_at c s with h1 | ⟨a, b, h1, e⟩
  · exact h1
  · rw [e, cutL_hit c a b h1] at h
    have := cutL_pos c b
    simp only [List.length_cons] at h
    omega
theorem cutL_two {c : UInt8} {s : List UInt8} (h : (cutL c s).length = 2) : ∃ a b, cutL c s = [a, b] ∧ s = a ++ c :: b ∧ c ∉ a ∧ c ∉ b := by
  rcases part_at c s with h1 | ⟨a, b, h1, e⟩
  · rw [cutL_miss c s h1] at h; simp at h
  · have h2 := cutL_hit c a b h1
    rw [e, h2] at h
    have h3 : c ∉ b := cutL_one (by simpa using h)
    exact ⟨a, b, by rw [e, h2, cutL_miss c b h3], e, h1, h3⟩
theorem cutL_mem {c x : UInt8} (hx : x ≠ c) : ∀ {s : List UInt8}, x ∈ s → ∃ p ∈ cutL c s, x ∈ p
  | [], h => by simp at h
  | y :: l, h => by
    by_cases hy : y = c
    · subst hy
      have h2 : x ∈ l := by
        rcases List.mem_cons.1 h with e | e
        · exact absurd e hx
        · exact e
      obtain ⟨p, hp, hxp⟩ := cutL_mem hx h2
      exact ⟨p, by rw [cutL, if_pos rfl]; exact List.mem_cons_of_mem _ hp, hxp⟩
    · rw [cutL, if_neg hy]
      rcases hc : cutL c l with _ | ⟨q, qs⟩
      · have := cutL_pos c l; rw [hc] at this; simp at this
      · rcases List.mem_cons.1 h with e | e
        · exact ⟨y :: q, by simp, by simp [e]⟩
        · obtain ⟨p, hp, hxp⟩ := cutL_mem hx e
          rw [hc] at hp
          rcases List.mem_cons.1 hp with rfl | hp
          · exact ⟨y :: p, by simp, by simp [hxp]⟩
          · exact ⟨p, by simp [hp], hxp⟩
theorem cutL_size (c : UInt8) : ∀ (s : List UInt8), (cutL c s).length ≤ s.length + 1
  | [] => by simp [cutL]
  | x :: l => by
    have := cutL_size c l
    rw [cutL]
    split
    · simp; omega
    · simp; omega
theorem cutL_part {c : UInt8} {s p : List UInt8} (h : p ∈ cutL c s) : p.length ≤ s.length := by
  induction s generalizing p with
  | nil => simp [cutL] at h; subst h; simp
  | cons x l ih =>
    rw [cutL] at h
    split at h
    · rcases List.mem_cons.1 h with rfl | h
      · simp
      · have := ih h; simp; omega
    · rcases hc : cutL c l with _ | ⟨q, qs⟩
      · rw [hc] at h; simp at h
      · rw [hc] at h
        simp only [List.modifyHead_cons, List.mem_cons] at h
        rcases h with rfl | h
        · have := ih (p := q) (by rw [hc]; simp); simp; omega
        · have := ih (p := p) (by rw [hc]; simp [h]); simp; omega

theorem index_cons_ne {b c : UInt8} {l : List UInt8} (h : b ≠ c) : Lib.index (b :: l) [c] = if Lib.index l [c] == -1 then -1 else Lib.index l [c] + 1 := by
  have hp : ([c] : List UInt8).isPrefixOf (b :: l) = false := by simp [List.isPrefixOf, Ne.symm h]
  rw [Lib.index, hp]; simp
theorem index_cons_eq (c : UInt8) (l : List UInt8) : Lib.index (c :: l) [c] = 0 := by rw [Lib.index]; simp [List.isPrefixOf]
theorem index_miss {c : UInt8} : ∀ {s : List UInt8}, c ∉ s → Lib.index s [c] = -1
  | [], _ => rfl
  | x :: l, h => by
    have hx : x ≠ c := fun e => h (by simp [e])
    rw [index_cons_ne hx, index_miss (fun e => h (by simp [e]))]; rfl
theorem index_hit {c : UInt8} : ∀ {a b : List UInt8}, c ∉ a → Lib.index (a ++ c :: b) [c] = a.length
  | [], b, _ => index_cons_eq c b
  | x :: a, b, h => by
    have hx : x ≠ c := fun e => h (by simp [e])
    have ih := index_hit (c := c) (a := a) (b := b) (fun e => h (by simp [e]))
    rw [List.cons_append, index_cons_ne hx, ih, if_neg (by simp)]
    simp
theorem cut_miss {c : UInt8} {s : List UInt8} (h : c ∉ s) : Lib.cut s [c] = (s, [], false) := by
  unfold Lib.cut; rw [index_miss h]; rfl
theorem cut_hit {c : UInt8} {a b : List UInt8} (h : c ∉ a) : Lib.cut (a ++ c :: b) [c] = (a, b, true) := by
  unfold Lib.cut
  rw [index_hit h, if_pos (by omega)]
  have e : (a ++ c :: b).drop (a.length + 1) = b := by
    rw [show a ++ c :: b = (a ++ [c]) ++ b by simp, List.drop_left' (by simp)]
  simp [e]
theorem splitK_cutL (c : UInt8) : ∀ l : List UInt8, Lib.splitK [c] 0 (l.count c) l = cutL c l
  | [] => rfl
  | x :: l => by
    have ih := splitK_cutL c l
    by_cases hx : x = c
    · subst hx
      rw [List.count_cons_self, Lib.splitK, index_cons_eq, if_neg (by decide), cutL, if_pos rfl, ← ih]; rfl
    · rw [List.count_cons_of_ne (by simpa using hx), cutL, if_neg hx, ← ih]
      have hi := index_cons_ne (l := l) hx
      cases hk : l.count c with
      | zero => rfl
      | succ k =>
        rw [Lib.splitK, Lib.splitK, hi]
        have hge := Lib.index_ge l [c]
        by_cases hm : Lib.index l [c] = -1
        · rw [hm]; rfl
        · obtain ⟨j, hj⟩ : ∃ j : Nat, Lib.index l [c] = j := ⟨(Lib.index l [c]).toNat, by omega⟩
          have h1 : ((j : Int) == -1) = false := by rw [beq_eq_false_iff_ne]; omega
          have h2 : ((j : Int) + 1 == -1) = false := by rw [beq_eq_false_iff_ne]; omega
          have h3 : ((j : Int) + 1).toNat = j + 1 := by omega
          rw [hj, h1]
          simp [h2, h3]

def baL (l : List UInt8) : ByteArray := ⟨l.toArray⟩
theorem baL_list (l : List UInt8) : (baL l).data.toList = l := rfl
theorem baL_self (s : ByteArray) : baL s.data.toList = s := rfl
theorem baL_size (l : List UInt8) : (baL l).size = l.length := by simp [baL, ByteArray.size]
/-- The parts as texts. -/
def cutB (c : UInt8) (t : ByteArray) : List ByteArray := (cutL c t.data.toList).map baL
theorem cutB_len (c : UInt8) (t : ByteArray) : (cutB c t).length = (cutL c t.data.toList).length := by unfold cutB; simp
theorem cutB_split (c : UInt8) (t : ByteArray) : Lib.splitB ⟨#[c]⟩ 0 (Lib.countB t ⟨#[c]⟩) t = cutB c t := by
  have h := Lib.splitB_data ⟨#[c]⟩ 0 (Lib.countB t ⟨#[c]⟩) t
  have h2 : Lib.countB t ⟨#[c]⟩ = t.data.toList.count c := Lib.count_one c t.data.toList
  rw [h2] at h ⊢
  have h3 : Lib.splitK (⟨#[c]⟩ : ByteArray).data.toList 0 (t.data.toList.count c) t.data.toList = cutL c t.data.toList := splitK_cutL c _
  rw [h3] at h
  unfold cutB
  rw [← h, List.map_map]
  conv => lhs; rw [← List.map_id (Lib.splitB ⟨#[c]⟩ 0 (t.data.toList.count c) t)]
  exact List.map_congr_left fun x _ => rfl
theorem cutB_count (c : UInt8) (t : ByteArray) : Lib.countB t ⟨#[c]⟩ + 1 = (cutB c t).length := by
  rw [← cutB_split, Lib.splitB_all ⟨#[c]⟩ (by simp [ByteArray.size]) 0 _ t rfl]
theorem cutB_part {c : UInt8} {t : ByteArray} (k : Nat) : ((cutB c t).getD k ByteArray.empty).size ≤ t.size := by
  by_cases hk : k < (cutL c t.data.toList).length
  · unfold cutB
    rw [List.getD_eq_getElem?_getD, List.getElem?_map, List.getElem?_eq_getElem hk, Option.map_some, Option.getD_some, baL_size, ba_size]
    exact cutL_part (List.getElem_mem _)
  · rw [List.getD_eq_getElem?_getD, List.getElem?_eq_none (by rw [cutB_len]; omega)]
    exact Nat.zero_le _
end Go.Proofs.YteckhdkghfidiaaDoor
