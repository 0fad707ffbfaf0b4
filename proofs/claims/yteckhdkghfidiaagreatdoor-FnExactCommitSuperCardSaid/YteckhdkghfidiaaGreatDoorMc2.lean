/-
  Texts of the proof, put together in their order: Cut, Nmo, Nms, Opn, Opf, Opi.
  Conditions: those of each.
-/
import Derived.Test.YteckhdkghfidiaaGreatDoorMc1
import Derived.Lib.SplitLaws
import Derived.Lib.SmallJoins
import Derived.ChangeSame
import Derived.Deep.Fields
import Derived.Deep.Slices
/- Texts parted at a byte: what the parts are, as the model's l00Cut and the library's Cut and Split have them. Conditions: none. -/
namespace Go.Proofs.YteckhdkghfidiaaGreatDoor
set_option linter.unusedVariables false
open Go.RowKit

/-- A text parted at each of a byte. -/
def cutL (c : UInt8) : List UInt8 → List (List UInt8)
  | [] => [[]]
  | x :: l => if x = c then [] :: cutL c l else (cutL c l).modifyHead (x :: ·)
theorem cutL_hit (c : UInt8) : ∀ (a b : List UInt8), c ∉ a → cutL c (a ++ c :: b) = a :: cutL c b
  | [], b, _ => by rw [List.nil_append, cutL, if_pos rfl]
  | x :: a, b, h => by
    have hx : x ≠ c := fun e => h (by simp [e])
    have ih := cutL_hit c a b (fun e => h (by simp [e]))
    rw [List.cons_append, cutL, if_neg hx, ih]; rfl
theorem cutL_miss (c : UInt8) : ∀ (a : List UInt8), c ∉ a → cutL c a = [a]
  | [], _ => rfl
  | x :: a, h => by
    have hx : x ≠ c := fun e => h (by simp [e])
    have ih := cutL_miss c a (fun e => h (by simp [e]))
    rw [cutL, if_neg hx, ih]; rfl
theorem part_at (c : UInt8) : ∀ (s : List UInt8), c ∉ s ∨ ∃ a b, c ∉ a ∧ s = a ++ c :: b
  | [] => .inl (by simp)
  | x :: l => by
    by_cases hx : x = c
    · subst hx; exact .inr ⟨[], l, by simp, rfl⟩
    · rcases part_at c l with h | ⟨a, b, h, e⟩
      · exact .inl (by simp [h, Ne.symm hx])
      · exact .inr ⟨x :: a, b, by simp [h, Ne.symm hx], by rw [e]; rfl⟩
theorem cutL_pos (c : UInt8) (s : List UInt8) : 1 ≤ (cutL c s).length := by
  rcases part_at c s with h | ⟨a, b, h, e⟩
  · rw [cutL_miss c s h]; simp
  · rw [e, cutL_hit c a b h]; simp
theorem cutL_one {c : UInt8} {s : List UInt8} (h : (cutL c s).length = 1) : c ∉ s := by
  rcases part_at c s with h1 | ⟨a, b, h1, e⟩
  · exact h1
  · rw [e, cutL_hit c a b h1] at h
    have := cutL_pos c b
    simp only [List.length_cons] at h
    omega
theorem cutL_two {c : UInt8} {s : List UInt8} (h : (cutL c s).length = 2) : ∃ a b, cutL c s = [a, b] ∧ s = a ++ c :: b ∧ c ∉ a ∧ c ∉ b := by
  rcases part_at c s with h1 | ⟨a, b, h1, e⟩
  · rw [cutL_miss c s h1] at h; simp at h
  · have h2 := cutL_hit c a b h1
    rw [e, h2] at h
    have h3 : c ∉ b := cutL_one (by simpa using h)
    exact ⟨a, b, by rw [e, h2, cutL_miss c b h3], e, h1, h3⟩
theorem cutL_mem {c x : UInt8} (hx : x ≠ c) : ∀ {s : List UInt8}, x ∈ s → ∃ p ∈ cutL c s, x ∈ p
  | [], h => by simp at h
  | y :: l, h => by
    by_cases hy : y = c
    · subst hy
      have h2 : x ∈ l := by
        rcases List.mem_cons.1 h with e | e
        · exact absurd e hx
        · exact e
      obtain ⟨p, hp, hxp⟩ := cutL_mem hx h2
      exact ⟨p, by rw [cutL, if_pos rfl]; exact List.mem_cons_of_mem _ hp, hxp⟩
    · rw [cutL, if_neg hy]
      rcases hc : cutL c l with _ | ⟨q, qs⟩
      · have := cutL_pos c l; rw [hc] at this; simp at this
      · rcases List.mem_cons.1 h with e | e
        · exact ⟨y :: q, by simp, by simp [e]⟩
        · obtain ⟨p, hp, hxp⟩ := cutL_mem hx e
          rw [hc] at hp
          rcases List.mem_cons.1 hp with rfl | hp
          · exact ⟨y :: p, by simp, by simp [hxp]⟩
          · exact ⟨p, by simp [hp], hxp⟩
theorem cutL_size (c : UInt8) : ∀ (s : List UInt8), (cutL c s).length ≤ s.length + 1
  | [] => by simp [cutL]
  | x :: l => by
    have := cutL_size c l
    rw [cutL]
    split
    · simp; omega
    · simp; omega
theorem cutL_part {c : UInt8} {s p : List UInt8} (h : p ∈ cutL c s) : p.length ≤ s.length := by
  induction s generalizing p with
  | nil => simp [cutL] at h; subst h; simp
  | cons x l ih =>
    rw [cutL] at h
    split at h
    · rcases List.mem_cons.1 h with rfl | h
      · simp
      · have := ih h; simp; omega
    · rcases hc : cutL c l with _ | ⟨q, qs⟩
      · rw [hc] at h; simp at h
      · rw [hc] at h
        simp only [List.modifyHead_cons, List.mem_cons] at h
        rcases h with rfl | h
        · have := ih (p := q) (by rw [hc]; simp); simp; omega
        · have := ih (p := p) (by rw [hc]; simp [h]); simp; omega

theorem index_cons_ne {b c : UInt8} {l : List UInt8} (h : b ≠ c) : Lib.index (b :: l) [c] = if Lib.index l [c] == -1 then -1 else Lib.index l [c] + 1 := by
  have hp : ([c] : List UInt8).isPrefixOf (b :: l) = false := by simp [List.isPrefixOf, Ne.symm h]
  rw [Lib.index, hp]; simp
theorem index_cons_eq (c : UInt8) (l : List UInt8) : Lib.index (c :: l) [c] = 0 := by rw [Lib.index]; simp [List.isPrefixOf]
theorem index_miss {c : UInt8} : ∀ {s : List UInt8}, c ∉ s → Lib.index s [c] = -1
  | [], _ => rfl
  | x :: l, h => by
    have hx : x ≠ c := fun e => h (by simp [e])
    rw [index_cons_ne hx, index_miss (fun e => h (by simp [e]))]; rfl
theorem index_hit {c : UInt8} : ∀ {a b : List UInt8}, c ∉ a → Lib.index (a ++ c :: b) [c] = a.length
  | [], b, _ => index_cons_eq c b
  | x :: a, b, h => by
    have hx : x ≠ c := fun e => h (by simp [e])
    have ih := index_hit (c := c) (a := a) (b := b) (fun e => h (by simp [e]))
    rw [List.cons_append, index_cons_ne hx, ih, if_neg (by simp)]
    simp
theorem cut_miss {c : UInt8} {s : List UInt8} (h : c ∉ s) : Lib.cut s [c] = (s, [], false) := by
  unfold Lib.cut; rw [index_miss h]; rfl
theorem cut_hit {c : UInt8} {a b : List UInt8} (h : c ∉ a) : Lib.cut (a ++ c :: b) [c] = (a, b, true) := by
  unfold Lib.cut
  rw [index_hit h, if_pos (by omega)]
  have e : (a ++ c :: b).drop (a.length + 1) = b := by
    rw [show a ++ c :: b = (a ++ [c]) ++ b by simp, List.drop_left' (by simp)]
  simp [e]
theorem splitK_cutL (c : UInt8) : ∀ l : List UInt8, Lib.splitK [c] 0 (l.count c) l = cutL c l
  | [] => rfl
  | x :: l => by
    have ih := splitK_cutL c l
    by_cases hx : x = c
    · subst hx
      rw [List.count_cons_self, Lib.splitK, index_cons_eq, if_neg (by decide), cutL, if_pos rfl, ← ih]; rfl
    · rw [List.count_cons_of_ne (by simpa using hx), cutL, if_neg hx, ← ih]
      have hi := index_cons_ne (l := l) hx
      cases hk : l.count c with
      | zero => rfl
      | succ k =>
        rw [Lib.splitK, Lib.splitK, hi]
        have hge := Lib.index_ge l [c]
        by_cases hm : Lib.index l [c] = -1
        · rw [hm]; rfl
        · obtain ⟨j, hj⟩ : ∃ j : Nat, Lib.index l [c] = j := ⟨(Lib.index l [c]).toNat, by omega⟩
          have h1 : ((j : Int) == -1) = false := by rw [beq_eq_false_iff_ne]; omega
          have h2 : ((j : Int) + 1 == -1) = false := by rw [beq_eq_false_iff_ne]; omega
          have h3 : ((j : Int) + 1).toNat = j + 1 := by omega
          rw [hj, h1]
          simp [h2, h3]

def baL (l : List UInt8) : ByteArray := ⟨l.toArray⟩
theorem baL_list (l : List UInt8) : (baL l).data.toList = l := rfl
theorem baL_self (s : ByteArray) : baL s.data.toList = s := rfl
theorem baL_size (l : List UInt8) : (baL l).size = l.length := by simp [baL, ByteArray.size]
/-- The parts as texts. -/
def cutB (c : UInt8) (t : ByteArray) : List ByteArray := (cutL c t.data.toList).map baL
theorem cutB_len (c : UInt8) (t : ByteArray) : (cutB c t).length = (cutL c t.data.toList).length := by unfold cutB; simp
theorem cutB_split (c : UInt8) (t : ByteArray) : Lib.splitB ⟨#[c]⟩ 0 (Lib.countB t ⟨#[c]⟩) t = cutB c t := by
  have h := Lib.splitB_data ⟨#[c]⟩ 0 (Lib.countB t ⟨#[c]⟩) t
  have h2 : Lib.countB t ⟨#[c]⟩ = t.data.toList.count c := Lib.count_one c t.data.toList
  rw [h2] at h ⊢
  have h3 : Lib.splitK (⟨#[c]⟩ : ByteArray).data.toList 0 (t.data.toList.count c) t.data.toList = cutL c t.data.toList := splitK_cutL c _
  rw [h3] at h
  unfold cutB
  rw [← h, List.map_map]
  conv => lhs; rw [← List.map_id (Lib.splitB ⟨#[c]⟩ 0 (t.data.toList.count c) t)]
  exact List.map_congr_left fun x _ => rfl
theorem cutB_count (c : UInt8) (t : ByteArray) : Lib.countB t ⟨#[c]⟩ + 1 = (cutB c t).length := by
  rw [← cutB_split, Lib.splitB_all ⟨#[c]⟩ (by simp [ByteArray.size]) 0 _ t rfl]
theorem cutB_part {c : UInt8} {t : ByteArray} (k : Nat) : ((cutB c t).getD k ByteArray.empty).size ≤ t.size := by
  by_cases hk : k < (cutL c t.data.toList).length
  · unfold cutB
    rw [List.getD_eq_getElem?_getD, List.getElem?_map, List.getElem?_eq_getElem hk, Option.map_some, Option.getD_some, baL_size, ba_size]
    exact cutL_part (List.getElem_mem _)
  · rw [List.getD_eq_getElem?_getD, List.getElem?_eq_none (by rw [cutB_len]; omega)]
    exact Nat.zero_le _
end Go.Proofs.YteckhdkghfidiaaGreatDoor
/- Contracts of the program's numbersOf and of the model's l02Numbers: the numbers of a text of digits. Conditions: texts of at most 65536 bytes; the package's errors are known. -/
namespace Go.Proofs.YteckhdkghfidiaaGreatDoor
set_option linter.unusedVariables false
open Go.RowKit

def chunk (l : List UInt8) (j : Nat) : List UInt8 := (l.drop (6 * j)).take 6
def numsOf (l : List UInt8) (k : Nat) : List Nat := (List.range k).map fun j => valL (chunk l j)
theorem numsOf_len (l : List UInt8) (k : Nat) : (numsOf l k).length = k := by simp [numsOf]
theorem numsOf_succ (l : List UInt8) (k : Nat) : numsOf l (k + 1) = numsOf l k ++ [valL (chunk l k)] := by simp [numsOf, List.range_succ]
/-- The numbers of a text, if it is one of numbers. -/
def numsO (l : List UInt8) : Option (List Nat) := if l.length % 6 = 0 ∧ digL l = true then some (numsOf l (l.length / 6)) else none
theorem numsO_yes {l : List UInt8} (h1 : l.length % 6 = 0) (h2 : digL l = true) : numsO l = some (numsOf l (l.length / 6)) := by unfold numsO; rw [if_pos ⟨h1, h2⟩]
theorem numsO_no {l : List UInt8} (h : l.length % 6 ≠ 0 ∨ digL l = false) : numsO l = none := by
  unfold numsO; rw [if_neg]; rintro ⟨h1, h2⟩
  rcases h with h | h
  · exact h h1
  · rw [h] at h2; cases h2
theorem chunk_all {l : List UInt8} (h : digL l = true) (j : Nat) : digL (chunk l j) = true := by
  unfold digL at *
  rw [List.all_eq_true] at *
  exact fun x hx => h x (List.mem_of_mem_drop (List.mem_of_mem_take hx))
theorem chunk_no {l : List UInt8} {j : Nat} (h : digL (chunk l j) = false) : digL l = false := by
  cases h2 : digL l with
  | false => rfl
  | true => rw [chunk_all h2 j] at h; cases h
theorem chunk_bd {l : List UInt8} (h : digL l = true) (j : Nat) : valL (chunk l j) ≤ 999999 := by
  have h1 := valL_bd _ rfl (chunk_all h j)
  have h2 : (chunk l j).length ≤ 6 := List.length_take_le _ _
  have h3 : 10 ^ (chunk l j).length ≤ 10 ^ 6 := Nat.pow_le_pow_right (by omega) h2
  omega
theorem numsO_all {l : List UInt8} {ns : List Nat} (h : numsO l = some ns) : All6 ns := by
  unfold numsO at h
  by_cases hc : l.length % 6 = 0 ∧ digL l = true
  · rw [if_pos hc] at h
    injection h with h
    subst h
    intro k hk
    rw [numsOf_len] at hk
    unfold numsOf
    rw [List.getD_eq_getElem?_getD, List.getElem?_map, List.getElem?_range hk]
    exact chunk_bd hc.2 k
  · rw [if_neg hc] at h; cases h
def RetNums (w : World) (o : Option (List Nat)) (a0 : Addr) (e : Ending) (w' : World) : Prop :=
  Nx w w' ∧ (o = none → e = .returned (.tuple #[.slice none 0 0, .iface 225 (.pointer (some a0))])) ∧
  ∀ ns, o = some ns → ∃ A c, e = .returned (.tuple #[.slice A ns.length c, .nilIface]) ∧ Row w' w'.heap.size A ns.length (intAt ns) ∧ ns.length ≤ c
theorem RetNums.no {w w' : World} {o : Option (List Nat)} {a0 : Addr} (h : o = none) (hn : Nx w w') : RetNums w o a0 (.returned (.tuple #[.slice none 0 0, .iface 225 (.pointer (some a0))])) w' :=
  ⟨hn, fun _ => rfl, fun ns h2 => by rw [h] at h2; cases h2⟩
theorem RetNums.yes {w w' : World} {o : Option (List Nat)} {a0 : Addr} {ns : List Nat} {A : Option Addr} {c : Nat} (h : o = some ns) (hr : Row w' w'.heap.size A ns.length (intAt ns)) (hc : ns.length ≤ c) (hn : Nx w w') : RetNums w o a0 (.returned (.tuple #[.slice A ns.length c, .nilIface])) w' :=
  ⟨hn, (fun h2 => by rw [h] at h2; cases h2), fun ns' h2 => by rw [h] at h2; injection h2 with h2; subst h2; exact ⟨A, c, rfl, hr, hc⟩⟩
theorem owns_row0 {w : World} {B : Nat} {ns : List Nat} {v : Value} (h : w.ownsRow B 3 1 v ns.length (ns.map vI)) :
    ∃ A c, v = .slice A ns.length c ∧ Row w w.heap.size A ns.length (intAt ns) ∧ ns.length ≤ c := by
  rcases Nat.eq_zero_or_pos ns.length with h0 | hp
  · rcases h.2 with ⟨rfl, _⟩ | ⟨g, cap, cur, rfl, _⟩
    · exact ⟨none, 0, by rw [h0], (fun hn => by omega), by omega⟩
    · exact ⟨_, cap, rfl, (fun hn => by omega), by omega⟩
  · obtain ⟨A, c, e, hr⟩ := owns_row h hp
    refine ⟨A, c, e, hr, ?_⟩
    rcases h.2 with ⟨rfl, _⟩ | ⟨g, cap, cur, rfl, _, _, hnc, _⟩
    · injection e with _ e2 e3
      omega
    · injection e with _ e2 e3
      omega
theorem Own.new1 (w : World) (t : TypeId) (a : Value) : Own (w.alloc (.cells #[a] t)) w.heap.size t 1 (fun _ => a) :=
  ⟨_, heap_alloc_new w _, by simp, fun i hi => by obtain rfl : i = 0 := by omega
                                                  rfl⟩
theorem news1 (w : World) (t : TypeId) (x : Value) : ∀ j u, [x][j]? = some u → (w.alloc (.cells #[x] t)).cell? ((Addr.mk w.heap.size 0 none).add j) = some u := fun j u hj => by
  rcases j with _ | j
  · injection hj with hj; subst hj; exact ((Own.new1 w t x).cell (i := 0) (by omega))
  · simp at hj

set_option maxRecDepth 100000 in
set_option maxHeartbeats 2000000 in
theorem numbersOf_c (s : ByteArray) (w : World) (a0 a1 : Addr) (hs : s.size ≤ 65536) (hE : Er w a0 a1) :
    Calls Tryz.prog 89 #[.string s] w (RetNums w (numsO s.data.toList) a0) := by
  obtain ⟨i0, hi0, hz0, hz1, hz2⟩ := info_parts info_int
  by_cases h6 : s.size % 6 = 0
  case neg =>
    have hne : ((s.size : Int) % 6 != 0) = true := by rw [bne_iff_ne]; omega
    have HN := Lib.hid (numsO_no (l := s.data.toList) (.inl (by rw [← ba_size]; exact h6)))
    obtain ⟨c0, _⟩ := hE
    go_enter Tryz.func89, Tryz.ntmps89
    go_wp2
    go_quiet (fail)
    go_wp2
    go_ret2
    exact RetNums.no HN.out ((Nx.refl _).drewN _)
  have hne : ((s.size : Int) % 6 != 0) = false := by rw [bne_eq_false_iff_eq]; omega
  obtain ⟨N, hN⟩ : ∃ N, s.size = 6 * N := ⟨s.size / 6, by omega⟩
  have HN := Lib.hid hN
  clear hN h6
  go_enter Tryz.func89, Tryz.ntmps89
  go_wp2
  go_loopw [4, 5] (fun z i wr => ∃ (k p : Nat) (v : Value), p ≤ s.size ∧ Hid (p = 6 * k) ∧ i = .int .i64 p ∧ v = z ∧ wr.ownsRow w.heap.size 3 1 v k ((numsOf s.data.toList k).map vI) ∧ Hid (∀ j, j < k → digL (chunk s.data.toList j) = true) ∧ Nx w wr) (fun _ i _ => s.size - (intOf i).toNat)
  case atStart => exact ⟨0, 0, _, Nat.zero_le _, Lib.hid rfl, rfl, rfl, ⟨rfl, .inl ⟨rfl, rfl⟩⟩, Lib.hid (fun j hj => by omega), Nx.refl _⟩
  case round =>
    obtain ⟨k, p, v, hp, HP, rfl, rfl, hw, HD, hnx⟩ := hrel
    have hEr := hE.nx hnx
    by_cases hlt : p < s.size
    · have hp6 : p + 6 ≤ s.size := by have := HP.out; have := HN.out; omega
      have hp7 : (p : Int) + 6 ≤ (s.size : Int) := by omega
      have hcs : (s.extract p (p + 6)).data.toList = chunk s.data.toList k := by
        rw [Lib.extract_data, HP.out, show 6 * k + 6 - 6 * k = 6 by omega]; rfl
      have hcz : (s.extract p (p + 6)).size = 6 := by
        rw [ba_size, hcs]; unfold chunk; rw [List.length_take, List.length_drop, ← ba_size]; have := HP.out; omega
      have HCS := Lib.hid hcs
      have HCZ := Lib.hid hcz
      have hk9 : k ≤ 10923 := by have := HP.out; omega
      clear hcs hcz
      cases hdc : digL (chunk s.data.toList k) with
      | false =>
        have HF := Lib.hid (numsO_no (l := s.data.toList) (.inr (chunk_no hdc)))
        have HDC := Lib.hid hdc
        clear hdc
        go_wp2_with fail
        refine (numberOf_c (s.extract p (p + 6)) _ a0 a1 HCZ.out hEr).mono ?_
        rintro e w1 ⟨rfl, hnx1⟩
        rw [← numV_no (by rw [HCS.out]; exact HDC.out)]
        go_wp2
        go_ret2
        exact RetNums.no HF.out (hnx.trans hnx1)
      | true =>
        have HDC := Lib.hid hdc
        have hx9 := valL_bd _ rfl hdc
        clear hdc
        obtain ⟨x, Hx⟩ : ∃ x, Hid (valL (chunk s.data.toList k) = x) := ⟨_, rfl⟩
        clear hx9
        go_wp2_with fail
        refine (numberOf_c (s.extract p (p + 6)) _ a0 a1 HCZ.out hEr).mono ?_
        rintro e w1 ⟨rfl, hnx1⟩
        rw [← numV_yes (by rw [HCS.out]; exact HDC.out), HCS.out, Hx.out]
        have hx1 := (hnx.trans hnx1).alloc (.cells #[.int .i64 x] 3)
        have hw1 := (owns_nx hw hnx1).alloc (.cells #[.int .i64 x] 3)
        have HNW := Lib.hid (news1 w1 3 (.int .i64 x))
        have HO : Hid (∀ u ∈ [Value.int .i64 (x : Int)], u.oneCell' = true) := Lib.hid (fun u hu => by simp only [List.mem_cons, List.not_mem_nil, or_false] at hu; subst hu; rfl)
        go_wp2_with (at_builtin; refine wpList_append_own _ rfl _ _ 23 rfl w.heap.size 3 i0 _ 1 8 Tryz.underlying23 hi0 hz0 hz1 hz2 rfl (by omega) v k _ rfl hw1 ⟨w1.heap.size, 0, none⟩ 1 1 [.int .i64 x] rfl rfl HNW.out HO.out ?c3 ?c4 ?c5 ?_)
        case c3 => unfold maxLen; omega
        case c4 => omega
        case c5 => have := hx1.size; simp only [World.size_alloc] at this ⊢; omega
        intro v2 w2 hw2 hg2 _
        have hx2 : Nx w w2 := Below.grown hx1 hg2 hx1.size (fun k hk => (hw1.lt k hk).1)
        go_wp2
        go_roundw
        case rel =>
          refine ⟨k + 1, p + 6, v2, by omega, Lib.hid (by have := HP.out; omega), by go_num, rfl, ?_, Lib.hid ?_, hx2⟩
          · rw [numsOf_succ, List.map_append, Hx.out]; exact hw2
          · intro j hj
            rcases Nat.lt_or_ge j k with hlt | hge
            · exact HD.out j hlt
            · obtain rfl : j = k := by omega
              exact HDC.out
        case measure => simp [intOf]; omega
    · obtain rfl : p = s.size := by omega
      obtain rfl : k = N := by have := HP.out; have := HN.out; omega
      have hlen := numsOf_len s.data.toList k
      have hw' : wr.ownsRow w.heap.size 3 1 v (numsOf s.data.toList k).length ((numsOf s.data.toList k).map vI) := by rw [hlen]; exact hw
      obtain ⟨A, c, rfl, hrow, hcp⟩ := owns_row0 hw'
      have HCP := Lib.hid hcp
      clear hcp
      have hall : digL s.data.toList = true := by
        unfold digL
        rw [List.all_eq_true]
        intro x hx
        obtain ⟨i, hi, rfl⟩ := List.mem_iff_getElem.1 hx
        have hi' : i < s.size := by rw [ba_size]; exact hi
        have h1 := HD.out (i / 6) (by have := HP.out; omega)
        unfold digL at h1
        rw [List.all_eq_true] at h1
        apply h1
        unfold chunk
        rw [List.mem_iff_getElem]
        refine ⟨i % 6, by rw [List.length_take, List.length_drop]; omega, ?_⟩
        rw [List.getElem_take, List.getElem_drop]
        congr 1
        omega
      have HO := Lib.hid (numsO_yes (l := s.data.toList) (by rw [← ba_size]; have := HP.out; omega) hall)
      have hdiv : s.data.toList.length / 6 = k := by rw [← ba_size]; have := HP.out; omega
      rw [hdiv] at HO
      clear hw hw' hall hlen hdiv
      go_wp2
      go_ret2
      exact RetNums.yes HO.out hrow HCP.out hnx
end Go.Proofs.YteckhdkghfidiaaGreatDoor
/- Contract of the model's l02Numbers: the numbers of a text of digits. Conditions: texts of at most 65536 bytes. -/
namespace Go.Proofs.YteckhdkghfidiaaGreatDoor
set_option linter.unusedVariables false
open Go.RowKit

def RetNB (w : World) (o : Option (List Nat)) (e : Ending) (w' : World) : Prop :=
  ∃ A n c, e = .returned (.tuple #[.slice A n c, .bool o.isSome]) ∧ (∀ ns, o = some ns → n = ns.length ∧ Row w' w'.heap.size A n (intAt ns) ∧ n ≤ c) ∧ Nx w w'
theorem owns_new0 (w : World) (t : TypeId) {B : Nat} (hB : B ≤ w.heap.size) : (w.alloc (.cells #[] t)).ownsRow B t 1 (.slice (some ⟨w.heap.size, 0, none⟩) 0 0) 0 [] :=
  ⟨rfl, .inr ⟨_, 0, #[], rfl, hB, heap_alloc_new w _, by omega, by unfold maxLen; omega, rfl, rfl⟩⟩
def valFrom (s : ByteArray) (p j : Nat) : Nat := valL ((s.data.toList.drop p).take j)
theorem valFrom_zero (s : ByteArray) (p : Nat) : valFrom s p 0 = 0 := rfl
theorem valFrom_succ (s : ByteArray) (p j : Nat) (h : p + j < s.size) : valFrom s p (j + 1) = 10 * valFrom s p j + (s[p + j].toNat - 48) := by
  unfold valFrom
  have hl : j < (s.data.toList.drop p).length := by rw [List.length_drop, ← ba_size]; omega
  rw [List.take_succ_eq_append_getElem hl, valL_snoc]
  simp only [List.getElem_drop]
  rfl
theorem valFrom_bd {s : ByteArray} {p j : Nat} (hj : j ≤ 6) (h : digL s.data.toList = true) : valFrom s p j < 1000000 := by
  have h0 : digL ((s.data.toList.drop p).take j) = true := by
    unfold digL at *
    rw [List.all_eq_true] at *
    exact fun x hx => h x (List.mem_of_mem_drop (List.mem_of_mem_take hx))
  have h1 := valL_bd _ rfl h0
  have h2 : ((s.data.toList.drop p).take j).length ≤ 6 := Nat.le_trans (List.length_take_le _ _) hj
  have h3 : 10 ^ ((s.data.toList.drop p).take j).length ≤ 10 ^ 6 := Nat.pow_le_pow_right (by omega) h2
  unfold valFrom
  omega
theorem dig_at {s : ByteArray} (h : digL s.data.toList = true) (k : Nat) (hk : k < s.size) : 48 ≤ (s[k].toNat : Int) ∧ (s[k].toNat : Int) ≤ 57 :=
  digI_yes (show digC s[k] = true by rw [← getL s k hk]; exact digL_yes h _)

set_option maxRecDepth 100000 in
set_option maxHeartbeats 4000000 in
theorem l02Numbers_c (s : ByteArray) (w : World) (hs : s.size ≤ 65536) :
    Calls Tryz.prog 139 #[.string s] w (RetNB w (numsO s.data.toList)) := by
  obtain ⟨i0, hi0, hz0, hz1, hz2⟩ := info_parts info_int
  have hw0 := owns_new0 w 3 (Nat.le_refl _)
  have hn0 := (Nx.refl w).alloc (.cells #[] 3)
  go_enter Tryz.func139, Tryz.ntmps139
  go_wp2
  go_loop [5] (fun i => ∃ k : Nat, k ≤ s.size ∧ i = .int .i64 k ∧ Hid (digL (s.data.toList.take k) = true)) (fun i => s.size - (intOf i).toNat)
  case atStart => exact ⟨0, Nat.zero_le _, rfl, Lib.hid rfl⟩
  case round =>
    obtain ⟨k, hk, rfl, HD⟩ := hrel
    by_cases hlt : k < s.size
    · have HT := Lib.hid (take_snoc s k hlt)
      cases hC : digI (s[k].toNat : Int) with
      | true =>
        have HC := Lib.hid hC
        clear hC
        go_wp2_with (go_at_call 149; refine (l00Digit_c _ _).mono ?_; rintro e w' ⟨rfl, rfl⟩; rw [HC.out])
        go_round
        case rel => exact ⟨k + 1, by omega, by go_num, Lib.hid (by rw [HT.out, digL_snoc, HD.out]; exact HC.out)⟩
        case measure => simp [intOf]; omega
      | false =>
        have HC := Lib.hid hC
        have HF := Lib.hid (numsO_no (.inr (digL_no (l := s.data.toList) (k := k) (by simpa using hlt) (by rw [getL s k hlt]; exact hC))))
        clear hC
        go_wp2_with (go_at_call 149; refine (l00Digit_c _ _).mono ?_; rintro e w' ⟨rfl, rfl⟩; rw [HC.out])
        go_ret2
        rw [HF.out]
        exact ⟨_, _, _, rfl, (fun ns h => by cases h), hn0.alloc _⟩
    · obtain rfl : k = s.size := by omega
      have hall : digL s.data.toList = true := by
        have := HD.out
        rwa [List.take_of_length_le (by simp)] at this
      have HA := Lib.hid hall
      clear HD hall
      generalize w.alloc (.cells #[] 3) = W at *
      go_wp2
      go_loopw [4, 6] (fun z i wr => ∃ (k p : Nat) (v : Value), p ≤ s.size ∧ Hid (p = 6 * k) ∧ i = .int .i64 p ∧ v = z ∧ wr.ownsRow w.heap.size 3 1 v k ((numsOf s.data.toList k).map vI) ∧ Nx w wr) (fun _ i _ => s.size - (intOf i).toNat)
      case atStart => exact ⟨0, 0, _, Nat.zero_le _, Lib.hid rfl, rfl, rfl, hw0, hn0⟩
      case round =>
        obtain ⟨k, p, v, hp, HP, rfl, rfl, hw, hnx⟩ := hrel
        clear hw0 hn0
        by_cases hlt : p + 6 ≤ s.size
        · have hd6 : decide ((p : Int) + 6 ≤ (s.size : Int)) = true := by simp; omega
          have hk9 : k ≤ 10923 := by have := HP.out; omega
          go_wp2
          go_loop [7, 8] (fun n i => ∃ j : Nat, j ≤ 6 ∧ i = .int .i64 ((p + j : Nat) : Int) ∧ n = .int .i64 ((valFrom s p j : Nat) : Int)) (fun _ i => p + 6 - (intOf i).toNat)
          case atStart => exact ⟨0, by omega, rfl, rfl⟩
          case round =>
            obtain ⟨j, hj, rfl, rfl⟩ := hrel
            have hbd := valFrom_bd (s := s) (p := p) hj HA.out
            by_cases hj6 : j < 6
            · have hpj : p + j < s.size := by omega
              obtain ⟨d1, d2⟩ := dig_at HA.out (p + j) hpj
              have HV := Lib.hid (valFrom_succ s p j hpj)
              obtain ⟨m, Hm⟩ : ∃ m, Hid (valFrom s p j = m) := ⟨_, rfl⟩
              rw [Hm.out] at hbd HV ⊢
              obtain ⟨q, Hq⟩ : ∃ q, Hid (p + j = q) := ⟨_, rfl⟩
              have hq1 : q < p + 6 := by have := Hq.out; omega
              have hdq : decide ((q : Int) < (p : Int) + 6) = true := by simp; omega
              simp only [Hq.out] at hpj d1 d2 HV ⊢
              go_wp2
              go_round
              case rel => exact ⟨j + 1, by omega, by rw [show p + (j + 1) = q + 1 by have := Hq.out; omega]; go_num, by rw [HV.out, num_step d1]⟩
              case measure => simp [intOf]; omega
            · obtain rfl : j = 6 := by omega
              have hdq : decide (((p + 6 : Nat) : Int) < (p : Int) + 6) = false := by simp
              have hxe : valFrom s p 6 = valL (chunk s.data.toList k) := by unfold valFrom chunk; rw [HP.out]
              obtain ⟨x, Hx⟩ : ∃ x, Hid (valFrom s p 6 = x) := ⟨_, rfl⟩
              rw [Hx.out] at hbd hxe ⊢
              have HXE := Lib.hid hxe
              clear hxe
              have hx1 := hnx.alloc (.cells #[.int .i64 x] 3)
              have hw1 := hw.alloc (.cells #[.int .i64 x] 3)
              have HNW := Lib.hid (news1 wr 3 (.int .i64 x))
              have HO : Hid (∀ u ∈ [Value.int .i64 (x : Int)], u.oneCell' = true) := Lib.hid (fun u hu => by simp only [List.mem_cons, List.not_mem_nil, or_false] at hu; subst hu; rfl)
              go_wp2_with (at_builtin; refine wpList_append_own _ rfl _ _ 23 rfl w.heap.size 3 i0 _ 1 8 Tryz.underlying23 hi0 hz0 hz1 hz2 rfl (by omega) v k _ rfl hw1 ⟨wr.heap.size, 0, none⟩ 1 1 [.int .i64 x] rfl rfl HNW.out HO.out ?c3 ?c4 ?c5 ?_)
              case c3 => unfold maxLen; omega
              case c4 => omega
              case c5 => have := hx1.size; simp only [World.size_alloc] at this ⊢; omega
              intro v2 w2 hw2 hg2 _
              have hx2 : Nx w w2 := Below.grown hx1 hg2 hx1.size (fun k hk => (hw1.lt k hk).1)
              go_wp2
              go_roundw
              case rel =>
                refine ⟨k + 1, p + 6, v2, by omega, Lib.hid (by have := HP.out; omega), by go_num, rfl, ?_, hx2⟩
                rw [numsOf_succ, List.map_append, ← HXE.out]; exact hw2
              case measure => simp [intOf]; omega
        · have hd6 : decide ((p : Int) + 6 ≤ (s.size : Int)) = false := by simp; omega
          have hlen := numsOf_len s.data.toList k
          have hw' : wr.ownsRow w.heap.size 3 1 v (numsOf s.data.toList k).length ((numsOf s.data.toList k).map vI) := by rw [hlen]; exact hw
          obtain ⟨A, c, rfl, hrow, hcp⟩ := owns_row0 hw'
          have HCP := Lib.hid hcp
          clear hcp
          have HL := Lib.hid hlen
          clear hw hw' hlen
          by_cases h6 : s.size % 6 = 0
          · have hz : ((s.size : Int) % 6 == 0) = true := beq_iff_eq.2 (by omega)
            have hdiv : s.data.toList.length / 6 = k := by rw [← ba_size]; have := HP.out; omega
            have HO := Lib.hid (numsO_yes (l := s.data.toList) (by rw [← ba_size]; exact h6) HA.out)
            rw [hdiv] at HO
            clear hdiv h6
            go_wp2
            go_ret2
            rw [HO.out]
            exact ⟨_, _, _, rfl, (fun ns h => by injection h with h; subst h; exact ⟨rfl, hrow, HCP.out⟩), hnx⟩
          · have hz : ((s.size : Int) % 6 == 0) = false := beq_eq_false_iff_ne.2 (by omega)
            have HO := Lib.hid (numsO_no (l := s.data.toList) (.inl (by rw [← ba_size]; exact h6)))
            clear h6
            go_wp2
            go_ret2
            rw [HO.out]
            exact ⟨_, _, _, rfl, (fun ns h => by cases h), hnx⟩
end Go.Proofs.YteckhdkghfidiaaGreatDoor
/- Contracts of the program's unsealed and sealedNumbers, and of the model's l02Open: texts whose sum is right. Conditions: texts of at most 1048576 bytes; the package's errors are known. -/
namespace Go.Proofs.YteckhdkghfidiaaGreatDoor
set_option linter.unusedVariables false
open Go.RowKit

def bodyOf (t : ByteArray) : ByteArray := t.extract 0 (t.size - 3)
theorem bodyOf_size (t : ByteArray) : (bodyOf t).size ≤ t.size := by
  unfold bodyOf; rw [ba_size, Lib.extract_data, ba_size t, List.length_take, List.length_drop]; omega
def sealB (t : ByteArray) : Bool := (sealS (bodyOf t)).toList == t.toList
def opensB (t : ByteArray) : Bool := decide (3 ≤ t.size) && sealB t
/-- The numbers of a text with a sum, if it is one. -/
def rdN (t : ByteArray) : Option (List Nat) := if opensB t then numsO (bodyOf t).data.toList else none
theorem opensB_short {t : ByteArray} (h : t.size < 3) : opensB t = false := by unfold opensB; rw [decide_eq_false (by omega)]; rfl
theorem opensB_of {t : ByteArray} (h : 3 ≤ t.size) : opensB t = sealB t := by unfold opensB; rw [decide_eq_true h]; rfl
theorem rdN_no {t : ByteArray} (h : opensB t = false) : rdN t = none := by unfold rdN; rw [h]; rfl
theorem rdN_yes {t : ByteArray} (h : opensB t = true) : rdN t = numsO (bodyOf t).data.toList := by unfold rdN; rw [h]; rfl
theorem rdN_all {t : ByteArray} {ns : List Nat} (h : rdN t = some ns) : All6 ns := by
  unfold rdN at h
  cases ho : opensB t with
  | true => rw [ho] at h; exact numsO_all h
  | false => rw [ho] at h; cases h
theorem l02Seal_s (s : ByteArray) (w : World) (hs : s.size ≤ 1048576) : Calls Tryz.prog 84 #[.string s] w fun e w' => e = .returned (.string (sealS s)) ∧ Nx w w' := l02Seal_c s w hs

def RetO (w : World) (t : ByteArray) (e : Ending) (w' : World) : Prop :=
  ∃ x : ByteArray, e = .returned (.tuple #[.string x, .bool (opensB t)]) ∧ x.size ≤ t.size ∧ (opensB t = true → x = bodyOf t) ∧ Nx w w'
set_option maxHeartbeats 1000000 in
theorem l02Open_c (t : ByteArray) (w : World) (ht : t.size ≤ 1048576) : Calls Tryz.prog 137 #[.string t] w (RetO w t) := by
  by_cases h3 : t.size < 3
  · have hd : decide ((t.size : Int) < 3) = true := by simp; omega
    have HO := Lib.hid (opensB_short h3)
    go_enter Tryz.func137, Tryz.ntmps137
    go_wp2
    go_ret2
    unfold RetO
    rw [HO.out]
    exact ⟨⟨#[]⟩, rfl, Nat.zero_le _, (fun h => by cases h), Nx.refl _⟩
  · have hd : decide ((t.size : Int) < 3) = false := by simp; omega
    have HO := Lib.hid (opensB_of (t := t) (by omega))
    have hb1 : 0 ≤ (t.size : Int) - 3 := by omega
    have hb2 : (t.size : Int) - 3 ≤ (t.size : Int) := by omega
    have hb3 : ((t.size : Int) - 3).toNat = t.size - 3 := by omega
    go_enter Tryz.func137, Tryz.ntmps137
    go_wp2_with fail
    refine (l02Seal_s (bodyOf t) _ (Nat.le_trans (bodyOf_size t) ht)).mono ?_
    rintro e w1 ⟨rfl, hnx1⟩
    obtain ⟨b, Hb⟩ : ∃ b, Hid (sealB t = b) := ⟨_, rfl⟩
    have hb : ((sealS (bodyOf t)).toList == t.toList) = b := Hb.out
    go_wp2
    go_ret2
    refine ⟨bodyOf t, ?_, bodyOf_size t, fun _ => rfl, hnx1⟩
    rw [HO.out, Hb.out]
    rfl

/-- What is answered of a text that is too long. -/
def RetUn (w : World) (t : ByteArray) (a0 : Addr) (e : Ending) (w' : World) : Prop :=
  Nx w w' ∧ (opensB t = false → e = .returned (.tuple #[.string ⟨#[]⟩, .iface 225 (.pointer (some a0))])) ∧ (opensB t = true → e = .returned (.tuple #[.string (bodyOf t), .nilIface]))
set_option maxRecDepth 100000 in
set_option maxHeartbeats 1000000 in
theorem unsealed_c (t : ByteArray) (w : World) (a0 a1 : Addr) (ht : t.size ≤ 65536) (hE : Er w a0 a1) : Calls Tryz.prog 87 #[.string t] w (RetUn w t a0) := by
  have hd0 : decide (65536 < (t.size : Int)) = false := by simp; omega
  by_cases h3 : t.size < 3
  · have hd : decide ((t.size : Int) < 3) = true := by simp; omega
    have HO := Lib.hid (opensB_short h3)
    obtain ⟨c0, _⟩ := hE
    go_enter Tryz.func87, Tryz.ntmps87
    go_wp2
    go_quiet (fail)
    go_wp2
    go_ret2
    exact ⟨(Nx.refl _).drewN _, fun _ => rfl, fun h => by rw [HO.out] at h; cases h⟩
  · have hd : decide ((t.size : Int) < 3) = false := by simp; omega
    have HO := Lib.hid (opensB_of (t := t) (by omega))
    have hb1 : 0 ≤ (t.size : Int) - 3 := by omega
    have hb2 : (t.size : Int) - 3 ≤ (t.size : Int) := by omega
    have hb3 : ((t.size : Int) - 3).toNat = t.size - 3 := by omega
    cases hb : sealB t with
    | false =>
      have HB := Lib.hid hb
      clear hb
      go_enter Tryz.func87, Tryz.ntmps87
      go_wp2_with fail
      refine (sealed_c (bodyOf t) _ (Nat.le_trans (bodyOf_size t) ht)).mono ?_
      rintro e w1 ⟨rfl, hnx1⟩
      have hb : ((sealS (bodyOf t)).toList == t.toList) = false := HB.out
      have hb' : ((sealS (bodyOf t)).toList != t.toList) = true := by rw [bne, hb]; rfl
      obtain ⟨c0, _⟩ := hE.nx hnx1
      go_wp2
      go_quiet (fail)
      go_wp2
      go_ret2
      exact ⟨hnx1.drewN _, fun _ => rfl, fun h => by rw [HO.out, HB.out] at h; cases h⟩
    | true =>
      have HB := Lib.hid hb
      clear hb
      go_enter Tryz.func87, Tryz.ntmps87
      go_wp2_with fail
      refine (sealed_c (bodyOf t) _ (Nat.le_trans (bodyOf_size t) ht)).mono ?_
      rintro e w1 ⟨rfl, hnx1⟩
      have hb : ((sealS (bodyOf t)).toList == t.toList) = true := HB.out
      have hb' : ((sealS (bodyOf t)).toList != t.toList) = false := by rw [bne, hb]; rfl
      go_wp2
      go_ret2
      exact ⟨hnx1, (fun h => by rw [HO.out, HB.out] at h; cases h), fun _ => rfl⟩
set_option maxRecDepth 100000 in
set_option maxHeartbeats 1000000 in
theorem unsealedLong_c (t : ByteArray) (w : World) (a0 a1 : Addr) (ht : 65536 < t.size) (hE : Er w a0 a1) :
    Calls Tryz.prog 87 #[.string t] w fun e w' => e = .returned (.tuple #[.string ⟨#[]⟩, .iface 225 (.pointer (some a1))]) ∧ Nx w w' := by
  have hd0 : decide (65536 < (t.size : Int)) = true := by simp; omega
  obtain ⟨_, c1, _⟩ := hE
  go_enter Tryz.func87, Tryz.ntmps87
  go_wp2
  go_quiet (fail)
  go_wp2
  go_ret2
  exact ⟨rfl, (Nx.refl _).drewN _⟩

end Go.Proofs.YteckhdkghfidiaaGreatDoor
/- A frame that comes in, opened. Conditions: none. -/
namespace Go.Proofs.YteckhdkghfidiaaGreatDoor
set_option linter.unusedVariables false
open Go.Joins Go.ChangeShapes Go.WideShapes Go.RowKit Go.Deep
theorem ci_ : Tryz.prog.cellsOf 3 = 1 := by kernel_rfl
section
variable {H : Type} {enc : TypeId × Value → H} {w : World} {base : Nat} {spare : Nat → Bool} {held : Bool}
theorem one_int {fuel : Nat} {v : Value} {x : DataW H × List MemPlace} (h : DataW.trod enc Tryz.prog w base spare held fuel 3 [v] = some x) : ∃ q, v = .int .i64 q ∧ (Lit.int .i64 q).wf = true := by
  obtain ⟨q, e, _, hw⟩ := DataW.trod_int (k := .i64) Tryz.underlying3 h
  exact ⟨q, by simpa using e, hw⟩
end
end Go.Proofs.YteckhdkghfidiaaGreatDoor
/- A list of ints that comes in, opened. Conditions: none. -/
namespace Go.Proofs.YteckhdkghfidiaaGreatDoor
set_option linter.unusedVariables false
set_option maxRecDepth 100000
open Go.Joins Go.ChangeShapes Go.WideShapes Go.RowKit Go.Deep
theorem addr_plain_i {w : World} {a : Addr} {v : Value} (h : w.cell? (a.add 0) = some v) : ∃ b off, a = ⟨b, off, none⟩ ∧ b < w.heap.size := by
  have h' : w.cell? a = some v := by simpa [Addr.add] using h
  have hs := World.cell?_spot h'
  obtain ⟨b, off, sp⟩ := a
  simp only at hs
  subst hs
  exact ⟨b, off, rfl, World.block_lt_of_cell? w _ h'⟩
theorem addr_add_i (b off i : Nat) : (Addr.mk b off none).add i = ⟨b, off + i, none⟩ := by
  unfold Addr.add
  by_cases h : i = 0
  · subst h; simp
  · simp [h]
theorem open_ints {H : Type} {enc : TypeId × Value → H} {w : World} {base : Nat} {spare : Nat → Bool} {held : Bool} {r : Reach} {b0 : Nat} {v : Value} {d : DataW H} {p : List MemPlace}
    (hv : Value.okWide Tryz.prog w r b0 23 v) (h : DataW.Trod enc Tryz.prog w base spare held 23 v d p) :
    ∃ (A : Option Addr) (c : Nat) (xs : List Int), v = .slice A xs.length c ∧ Ins w w.heap.size A xs ∧ (∀ k, k < xs.length → (Lit.int .i64 (xs.getD k 0)).wf = true) ∧ xs.length ≤ 2 ^ 63 - 1 := by
  obtain ⟨a0, len0, cap0, rfl⟩ := okWide_slice Tryz.underlying23 hv
  obtain ⟨fuel, hf⟩ := h
  rcases open_slice Tryz.underlying23 hf with ⟨hcs, _⟩ | ⟨a, len, cap, m, n, D, Pl, hcs, _, hl, hm, hmm, _, hi⟩
  · simp [Value.cells] at hcs
    obtain ⟨rfl, rfl, rfl⟩ := hcs
    exact ⟨none, 0, [], rfl, fun hn => absurd hn (by simp), fun k hk => absurd hk (by simp), by simp⟩
  · simp [Value.cells] at hcs
    obtain ⟨rfl, rfl, rfl⟩ := hcs
    have hle : len0 ≤ m := by rw [hmm]; split <;> omega
    unfold maxLen at hm
    have key : ∀ i, ∃ q : Int, i < m → w.cell? (a.add i) = some (.int .i64 q) ∧ (Lit.int .i64 q).wf = true := by
      intro i
      by_cases him : i < m
      · obtain ⟨cs', hc, ht⟩ := hi i him
        rw [ci_, Nat.mul_one] at hc
        obtain ⟨_, hcl, hat⟩ := World.cells?_some hc
        obtain ⟨q, e, _, hw⟩ := DataW.trod_int (k := .i64) Tryz.underlying3 ht
        subst e
        refine ⟨q, fun _ => ⟨?_, hw⟩⟩
        have := hat 0 (by omega)
        simpa [Addr.add] using this
      · exact ⟨0, fun h => absurd h him⟩
    obtain ⟨g, hg⟩ := Classical.skolem.1 key
    have hget : ∀ k, k < len0 → ((List.range len0).map g).getD k 0 = g k := by
      intro k hk
      rw [List.getD_eq_getElem?_getD, List.getElem?_map, List.getElem?_range hk]; rfl
    have hlen : ((List.range len0).map g).length = len0 := by simp
    refine ⟨some a, cap0, (List.range len0).map g, by rw [hlen], fun hn => ?_, fun k hk => ?_, by simp; omega⟩
    · rw [hlen] at hn
      obtain ⟨b, off, rfl, hb⟩ := addr_plain_i (hg 0 (by omega)).1
      refine ⟨b, off, rfl, hb, fun i hi => ?_⟩
      rw [hlen] at hi
      have h1 := (hg i (by omega)).1
      rw [addr_add_i] at h1
      rw [h1]
      unfold inAt
      rw [hget i hi]
    · rw [hlen] at hk
      rw [hget k hk]
      exact (hg k (by omega)).2
end Go.Proofs.YteckhdkghfidiaaGreatDoor
