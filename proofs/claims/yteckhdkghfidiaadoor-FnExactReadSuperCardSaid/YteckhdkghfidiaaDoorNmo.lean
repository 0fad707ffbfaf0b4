/-
  Contracts of the program's numbersOf and of the model's l02Numbers: the numbers of a text of digits.
  Conditions: texts of at most 65536 bytes; the package's errors are known.
-/
import Derived.Test.YteckhdkghfidiaaDoorNum
namespace Go.Proofs.YteckhdkghfidiaaDoor
set_option linter.unusedVariables false
open Go.RowKit

def chunk (l : List UInt8) (j : Nat) : List UInt8 := (l.drop (6 * j)).take 6
def numsOf (l : List UInt8) (k : Nat) : List Nat := (List.range k).map fun j => valL (chunk l j)
theorem numsOf_len (l : List UInt8) (k : Nat) : (numsOf l k).length = k := by simp [numsOf]
theorem numsOf_succ (l : List UInt8) (k : Nat) : numsOf l (k + 1) = numsOf l k ++ [valL (chunk l k)] := by simp [numsOf, List.range_succ]
/-- The numbers of a text, if it is one of numbers. -/
def numsO (l : List UInt8) : Option (List Nat) := if l.length % 6 = 0 ∧ digL l = true then some (numsOf l (l.length / 6)) else none
theorem numsO_yes {l : List UInt8} (h1 : l.length % 6 = 0) (h2 : digL l = true) : numsO l = some (numsOf l (l.length / 6)) := by unfold numsO; rw [if_pos ⟨h1, h2⟩]
theorem numsO_no {l : List UInt8} (h : l.length % 6 ≠ 0 ∨ digL l = false) : numsO l = none := by
  unfold numsO; rw [if_neg]; rintro ⟨h1, h2⟩
  rcases h with h | h
  · exact h h1
  · rw [h] at h2; cases h2
theorem chunk_all {l : List UInt8} (h : digL l = true) (j : Nat) : digL (chunk l j) = true := by
  unfold digL at *
  rw [List.all_eq_true] at *
  exact fun x hx => h x (List.mem_of_mem_drop (List.mem_of_mem_take hx))
theorem chunk_no {l : List UInt8} {j : Nat} (h : digL (chunk l j) = false) : digL l = false := by
  cases h2 : digL l with
  | false => rfl
  | true => rw [chunk_all h2 j] at h; cases h
theorem chunk_bd {l : List UInt8} (h : digL l = true) (j : Nat) : valL (chunk l j) ≤ 999999 := by
  have h1 := valL_bd _ rfl (chunk_all h j)
  have h2 : (chunk l j).length ≤ 6 := List.length_take_le _ _
  have h3 : 10 ^ (chunk l j).length ≤ 10 ^ 6 := Nat.pow_le_pow_right (by omega) h2
  omega
theorem numsO_all {l : List UInt8} {ns : List Nat} (h : numsO l = some ns) : All6 ns := by
  unfold numsO at h
  by_cases hc : l.length % 6 = 0 ∧ digL l = true
  · rw [if_pos hc] at h
    injection h with h
    subst h
    intro k hk
    rw [numsOf_len] at hk
    unfold numsOf
    rw [List.getD_eq_getElem?_getD, List.getElem?_map, List.getElem?_range hk]
    exact chunk_bd hc.2 k
  · rw [if_neg hc] at h; cases h
def RetNums (w : World) (o : Option (List Nat)) (a0 : Addr) (e : Ending) (w' : World) : Prop :=
  Nx w w' ∧ (o = none → e = .returned (.tuple #[.slice none 0 0, .iface 150 (.pointer (some a0))])) ∧
  ∀ ns, o = some ns → ∃ A c, e = .returned (.tuple #[.slice A ns.length c, .nilIface]) ∧ Row w' w'.heap.size A ns.length (intAt ns) ∧ ns.length ≤ c
theorem RetNums.no {w w' : World} {o : Option (List Nat)} {a0 : Addr} (h : o = none) (hn : Nx w w') : RetNums w o a0 (.returned (.tuple #[.slice none 0 0, .iface 150 (.pointer (some a0))])) w' :=
  ⟨hn, fun _ => rfl, fun ns h2 => by rw [h] at h2; cases h2⟩
theorem RetNums.yes {w w' : World} {o : Option (List Nat)} {a0 : Addr} {ns : List Nat} {A : Option Addr} {c : Nat} (h : o = some ns) (hr : Row w' w'.heap.size A ns.length (intAt ns)) (hc : ns.length ≤ c) (hn : Nx w w') : RetNums w o a0 (.returned (.tuple #[.slice A ns.length c, .nilIface])) w' :=
  ⟨hn, (fun h2 => by rw [h] at h2; cases h2), fun ns' h2 => by rw [h] at h2; injection h2 with h2; subst h2; exact ⟨A, c, rfl, hr, hc⟩⟩
theorem owns_row0 {w : World} {B : Nat} {ns : List Nat} {v : Value} (h : w.ownsRow B 3 1 v ns.length (ns.map vI)) :
    ∃ A c, v = .slice A ns.length c ∧ Row w w.heap.size A ns.length (intAt ns) ∧ ns.length ≤ c := by
  rcases Nat.eq_zero_or_pos ns.length with h0 | hp
  · rcases h.2 with ⟨rfl, _⟩ | ⟨g, cap, cur, rfl, _⟩
    · exact ⟨none, 0, by rw [h0], (fun hn => by omega), by omega⟩
    · exact ⟨_, cap, rfl, (fun hn => by omega), by omega⟩
  · obtain ⟨A, c, e, hr⟩ := owns_row h hp
    refine ⟨A, c, e, hr, ?_⟩
    rcases h.2 with ⟨rfl, _⟩ | ⟨g, cap, cur, rfl, _, _, hnc, _⟩
    · injection e with _ e2 e3
      omega
    · injection e with _ e2 e3
      omega
theorem Own.new1 (w : World) (t : TypeId) (a : Value) : Own (w.alloc (.cells #[a] t)) w.heap.size t 1 (fun _ => a) :=
  ⟨_, heap_alloc_new w _, by simp, fun i hi => by obtain rfl : i = 0 := by omega
                                                  rfl⟩
theorem news1 (w : World) (t : TypeId) (x : Value) : ∀ j u, [x][j]? = some u → (w.alloc (.cells #[x] t)).cell? ((Addr.mk w.heap.size 0 none).add j) = some u := fun j u hj => by
  rcases j with _ | j
  · injection hj with hj; subst hj; exact ((Own.new1 w t x).cell (i := 0) (by omega))
  · simp at hj

set_option maxRecDepth 100000 in
set_option maxHeartbeats 2000000 in
theorem numbersOf_c (s : ByteArray) (w : World) (a0 a1 : Addr) (hs : s.size ≤ 65536) (hE : Er w a0 a1) :
    Calls Tryd.prog 54 #[.string s] w (RetNums w (numsO s.data.toList) a0) := by
  obtain ⟨i0, hi0, hz0, hz1, hz2⟩ := info_parts info_int
  by_cases h6 : s.size % 6 = 0
  case neg =>
    have hne : ((s.size : Int) % 6 != 0) = true := by rw [bne_iff_ne]; omega
    have HN := Lib.hid (numsO_no (l := s.data.toList) (.inl (by rw [← ba_size]; exact h6)))
    obtain ⟨c0, _⟩ := hE
    go_enter Tryd.func54, Tryd.ntmps54
    go_wp2
    go_quiet (fail)
    go_wp2
    go_ret2
    exact RetNums.no HN.out ((Nx.refl _).drewN _)
  have hne : ((s.size : Int) % 6 != 0) = false := by rw [bne_eq_false_iff_eq]; omega
  obtain ⟨N, hN⟩ : ∃ N, s.size = 6 * N := ⟨s.size / 6, by omega⟩
  have HN := Lib.hid hN
  clear hN h6
  go_enter Tryd.func54, Tryd.ntmps54
  go_wp2
  go_loopw [4, 5] (fun z i wr => ∃ (k p : Nat) (v : Value), p ≤ s.size ∧ Hid (p = 6 * k) ∧ i = .int .i64 p ∧ v = z ∧ wr.ownsRow w.heap.size 3 1 v k ((numsOf s.data.toList k).map vI) ∧ Hid (∀ j, j < k → digL (chunk s.data.toList j) = true) ∧ Nx w wr) (fun _ i _ => s.size - (intOf i).toNat)
  case atStart => exact ⟨0, 0, _, Nat.zero_le _, Lib.hid rfl, rfl, rfl, ⟨rfl, .inl ⟨rfl, rfl⟩⟩, Lib.hid (fun j hj => by omega), Nx.refl _⟩
  case round =>
    obtain ⟨k, p, v, hp, HP, rfl, rfl, hw, HD, hnx⟩ := hrel
    have hEr := hE.nx hnx
    by_cases hlt : p < s.size
    · have hp6 : p + 6 ≤ s.size := by have := HP.out; have := HN.out; omega
      have hp7 : (p : Int) + 6 ≤ (s.size : Int) := by omega
      have hcs : (s.extract p (p + 6)).data.toList = chunk s.data.toList k := by
        rw [Lib.extract_data, HP.out, show 6 * k + 6 - 6 * k = 6 by omega]; rfl
      have hcz : (s.extract p (p + 6)).size = 6 := by
        rw [ba_size, hcs]; unfold chunk; rw [List.length_take, List.length_drop, ← ba_size]; have := HP.out; omega
      have HCS := Lib.hid hcs
      have HCZ := Lib.hid hcz
      have hk9 : k ≤ 10923 := by have := HP.out; omega
      clear hcs hcz
      cases hdc : digL (chunk s.data.toList k) with
      | false =>
        have HF := Lib.hid (numsO_no (l := s.data.toList) (.inr (chunk_no hdc)))
        have HDC := Lib.hid hdc
        clear hdc
        go_wp2_with fail
        refine (numberOf_c (s.extract p (p + 6)) _ a0 a1 HCZ.out hEr).mono ?_
        rintro e w1 ⟨rfl, hnx1⟩
        rw [← numV_no (by rw [HCS.out]; exact HDC.out)]
        go_wp2
        go_ret2
        exact RetNums.no HF.out (hnx.trans hnx1)
      | true =>
        have HDC := Lib.hid hdc
        have hx9 := valL_bd _ rfl hdc
        clear hdc
        obtain ⟨x, Hx⟩ : ∃ x, Hid (valL (chunk s.data.toList k) = x) := ⟨_, rfl⟩
        clear hx9
        go_wp2_with fail
        refine (numberOf_c (s.extract p (p + 6)) _ a0 a1 HCZ.out hEr).mono ?_
        rintro e w1 ⟨rfl, hnx1⟩
        rw [← numV_yes (by rw [HCS.out]; exact HDC.out), HCS.out, Hx.out]
        have hx1 := (hnx.trans hnx1).alloc (.cells #[.int .i64 x] 3)
        have hw1 := (owns_nx hw hnx1).alloc (.cells #[.int .i64 x] 3)
        have HNW := Lib.hid (news1 w1 3 (.int .i64 x))
        have HO : Hid (∀ u ∈ [Value.int .i64 (x : Int)], u.oneCell' = true) := Lib.hid (fun u hu => by simp only [List.mem_cons, List.not_mem_nil, or_false] at hu; subst hu; rfl)
        go_wp2_with (at_builtin; refine wpList_append_own _ rfl _ _ 22 rfl w.heap.size 3 i0 _ 1 8 Tryd.underlying22 hi0 hz0 hz1 hz2 rfl (by omega) v k _ rfl hw1 ⟨w1.heap.size, 0, none⟩ 1 1 [.int .i64 x] rfl rfl HNW.out HO.out ?c3 ?c4 ?c5 ?_)
        case c3 => unfold maxLen; omega
        case c4 => omega
        case c5 => have := hx1.size; simp only [World.size_alloc] at this ⊢; omega
        intro v2 w2 hw2 hg2 _
        have hx2 : Nx w w2 := Below.grown hx1 hg2 hx1.size (fun k hk => (hw1.lt k hk).1)
        go_wp2
        go_roundw
        case rel =>
          refine ⟨k + 1, p + 6, v2, by omega, Lib.hid (by have := HP.out; omega), by go_num, rfl, ?_, Lib.hid ?_, hx2⟩
          · rw [numsOf_succ, List.map_append, Hx.out]; exact hw2
          · intro j hj
            rcases Nat.lt_or_ge j k with hlt | hge
            · exact HD.out j hlt
            · obtain rfl : j = k := by omega
              exact HDC.out
        case measure => simp [intOf]; omega
    · obtain rfl : p = s.size := by omega
      obtain rfl : k = N := by have := HP.out; have := HN.out; omega
      have hlen := numsOf_len s.data.toList k
      have hw' : wr.ownsRow w.heap.size 3 1 v (numsOf s.data.toList k).length ((numsOf s.data.toList k).map vI) := by rw [hlen]; exact hw
      obtain ⟨A, c, rfl, hrow, hcp⟩ := owns_row0 hw'
      have HCP := Lib.hid hcp
      clear hcp
      have hall : digL s.data.toList = true := by
        unfold digL
        rw [List.all_eq_true]
        intro x hx
        obtain ⟨i, hi, rfl⟩ := List.mem_iff_getElem.1 hx
        have hi' : i < s.size := by rw [ba_size]; exact hi
        have h1 := HD.out (i / 6) (by have := HP.out; omega)
        unfold digL at h1
        rw [List.all_eq_true] at h1
        apply h1
        unfold chunk
        rw [List.mem_iff_getElem]
        refine ⟨i % 6, by rw [List.length_take, List.length_drop]; omega, ?_⟩
        rw [List.getElem_take, List.getElem_drop]
        congr 1
        omega
      have HO := Lib.hid (numsO_yes (l := s.data.toList) (by rw [← ba_size]; have := HP.out; omega) hall)
      have hdiv : s.data.toList.length / 6 = k := by rw [← ba_size]; have := HP.out; omega
      rw [hdiv] at HO
      clear hw hw' hall hlen hdiv
      go_wp2
      go_ret2
      exact RetNums.yes HO.out hrow HCP.out hnx
end Go.Proofs.YteckhdkghfidiaaDoor
