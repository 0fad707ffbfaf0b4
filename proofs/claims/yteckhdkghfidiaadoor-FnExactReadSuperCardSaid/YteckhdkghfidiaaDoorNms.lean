/-
  Contract of the model's l02Numbers: the numbers of a text of digits.
  Conditions: texts of at most 65536 bytes.
-/
import Derived.Test.YteckhdkghfidiaaDoorNmo
namespace Go.Proofs.YteckhdkghfidiaaDoor
set_option linter.unusedVariables false
open Go.RowKit

def RetNB (w : World) (o : Option (List Nat)) (e : Ending) (w' : World) : Prop :=
  ∃ A n c, e = .returned (.tuple #[.slice A n c, .bool o.isSome]) ∧ (∀ ns, o = some ns → n = ns.length ∧ Row w' w'.heap.size A n (intAt ns) ∧ n ≤ c) ∧ Nx w w'
theorem owns_new0 (w : World) (t : TypeId) {B : Nat} (hB : B ≤ w.heap.size) : (w.alloc (.cells #[] t)).ownsRow B t 1 (.slice (some ⟨w.heap.size, 0, none⟩) 0 0) 0 [] :=
  ⟨rfl, .inr ⟨_, 0, #[], rfl, hB, heap_alloc_new w _, by omega, by unfold maxLen; omega, rfl, rfl⟩⟩
def valFrom (s : ByteArray) (p j : Nat) : Nat := valL ((s.data.toList.drop p).take j)
theorem valFrom_zero (s : ByteArray) (p : Nat) : valFrom s p 0 = 0 := rfl
theorem valFrom_succ (s : ByteArray) (p j : Nat) (h : p + j < s.size) : valFrom s p (j + 1) = 10 * valFrom s p j + (s[p + j].toNat - 48) := by
  unfold valFrom
  have hl : j < (s.data.toList.drop p).length := by rw [List.length_drop, ← ba_size]; omega
  rw [List.take_succ_eq_append_getElem hl, valL_snoc]
  simp only [List.getElem_drop]
  rfl
theorem valFrom_bd {s : ByteArray} {p j : Nat} (hj : j ≤ 6) (h : digL s.data.toList = true) : valFrom s p j < 1000000 := by
  have h0 : digL ((s.data.toList.drop p).take j) = true := by
    unfold digL at *
    rw [List.all_eq_true] at *
    exact fun x hx => h x (List.mem_of_mem_drop (List.mem_of_mem_take hx))
  have h1 := valL_bd _ rfl h0
  have h2 : ((s.data.toList.drop p).take j).length ≤ 6 := Nat.le_trans (List.length_take_le _ _) hj
  have h3 : 10 ^ ((s.data.toList.drop p).take j).length ≤ 10 ^ 6 := Nat.pow_le_pow_right (by omega) h2
  unfold valFrom
  omega
theorem dig_at {s : ByteArray} (h : digL s.data.toList = true) (k : Nat) (hk : k < s.size) : 48 ≤ (s[k].toNat : Int) ∧ (s[k].toNat : Int) ≤ 57 :=
  digI_yes (show digC s[k] = true by rw [← getL s k hk]; exact digL_yes h _)

set_option maxRecDepth 100000 in
set_option maxHeartbeats 4000000 in
theorem l02Numbers_c (s : ByteArray) (w : World) (hs : s.size ≤ 65536) :
    Calls Tryd.prog 50 #[.string s] w (RetNB w (numsO s.data.toList)) := by
  obtain ⟨i0, hi0, hz0, hz1, hz2⟩ := info_parts info_int
  have hw0 := owns_new0 w 3 (Nat.le_refl _)
  have hn0 := (Nx.refl w).alloc (.cells #[] 3)
  go_enter Tryd.func50, Tryd.ntmps50
  go_wp2
  go_loop [5] (fun i => ∃ k : Nat, k ≤ s.size ∧ i = .int .i64 k ∧ Hid (digL (s.data.toList.take k) = true)) (fun i => s.size - (intOf i).toNat)
  case atStart => exact ⟨0, Nat.zero_le _, rfl, Lib.hid rfl⟩
  case round =>
    obtain ⟨k, hk, rfl, HD⟩ := hrel
    by_cases hlt : k < s.size
    · have HT := Lib.hid (take_snoc s k hlt)
      cases hC : digI (s[k].toNat : Int) with
      | true =>
        have HC := Lib.hid hC
        clear hC
        go_wp2_with (go_at_call 69; refine (l00Digit_c _ _).mono ?_; rintro e w' ⟨rfl, rfl⟩; rw [HC.out])
        go_round
        case rel => exact ⟨k + 1, by omega, by go_num, Lib.hid (by rw [HT.out, digL_snoc, HD.out]; exact HC.out)⟩
        case measure => simp [intOf]; omega
      | false =>
        have HC := Lib.hid hC
        have HF := Lib.hid (numsO_no (.inr (digL_no (l := s.data.toList) (k := k) (by simpa using hlt) (by rw [getL s k hlt]; exact hC))))
        clear hC
        go_wp2_with (go_at_call 69; refine (l00Digit_c _ _).mono ?_; rintro e w' ⟨rfl, rfl⟩; rw [HC.out])
        go_ret2
        rw [HF.out]
        exact ⟨_, _, _, rfl, (fun ns h => by cases h), hn0.alloc _⟩
    · obtain rfl : k = s.size := by omega
      have hall : digL s.data.toList = true := by
        have := HD.out
        rwa [List.take_of_length_le (by simp)] at this
      have HA := Lib.hid hall
      clear HD hall
      generalize w.alloc (.cells #[] 3) = W at *
      go_wp2
      go_loopw [4, 6] (fun z i wr => ∃ (k p : Nat) (v : Value), p ≤ s.size ∧ Hid (p = 6 * k) ∧ i = .int .i64 p ∧ v = z ∧ wr.ownsRow w.heap.size 3 1 v k ((numsOf s.data.toList k).map vI) ∧ Nx w wr) (fun _ i _ => s.size - (intOf i).toNat)
      case atStart => exact ⟨0, 0, _, Nat.zero_le _, Lib.hid rfl, rfl, rfl, hw0, hn0⟩
      case round =>
        obtain ⟨k, p, v, hp, HP, rfl, rfl, hw, hnx⟩ := hrel
        clear hw0 hn0
        by_cases hlt : p + 6 ≤ s.size
        · have hd6 : decide ((p : Int) + 6 ≤ (s.size : Int)) = true := by simp; omega
          have hk9 : k ≤ 10923 := by have := HP.out; omega
          go_wp2
          go_loop [7, 8] (fun n i => ∃ j : Nat, j ≤ 6 ∧ i = .int .i64 ((p + j : Nat) : Int) ∧ n = .int .i64 ((valFrom s p j : Nat) : Int)) (fun _ i => p + 6 - (intOf i).toNat)
          case atStart => exact ⟨0, by omega, rfl, rfl⟩
          case round =>
            obtain ⟨j, hj, rfl, rfl⟩ := hrel
            have hbd := valFrom_bd (s := s) (p := p) hj HA.out
            by_cases hj6 : j < 6
            · have hpj : p + j < s.size := by omega
              obtain ⟨d1, d2⟩ := dig_at HA.out (p + j) hpj
              have HV := Lib.hid (valFrom_succ s p j hpj)
              obtain ⟨m, Hm⟩ : ∃ m, Hid (valFrom s p j = m) := ⟨_, rfl⟩
              rw [Hm.out] at hbd HV ⊢
              obtain ⟨q, Hq⟩ : ∃ q, Hid (p + j = q) := ⟨_, rfl⟩
              have hq1 : q < p + 6 := by have := Hq.out; omega
              have hdq : decide ((q : Int) < (p : Int) + 6) = true := by simp; omega
              simp only [Hq.out] at hpj d1 d2 HV ⊢
              go_wp2
              go_round
              case rel => exact ⟨j + 1, by omega, by rw [show p + (j + 1) = q + 1 by have := Hq.out; omega]; go_num, by rw [HV.out, num_step d1]⟩
              case measure => simp [intOf]; omega
            · obtain rfl : j = 6 := by omega
              have hdq : decide (((p + 6 : Nat) : Int) < (p : Int) + 6) = false := by simp
              have hxe : valFrom s p 6 = valL (chunk s.data.toList k) := by unfold valFrom chunk; rw [HP.out]
              obtain ⟨x, Hx⟩ : ∃ x, Hid (valFrom s p 6 = x) := ⟨_, rfl⟩
              rw [Hx.out] at hbd hxe ⊢
              have HXE := Lib.hid hxe
              clear hxe
              have hx1 := hnx.alloc (.cells #[.int .i64 x] 3)
              have hw1 := hw.alloc (.cells #[.int .i64 x] 3)
              have HNW := Lib.hid (news1 wr 3 (.int .i64 x))
              have HO : Hid (∀ u ∈ [Value.int .i64 (x : Int)], u.oneCell' = true) := Lib.hid (fun u hu => by simp only [List.mem_cons, List.not_mem_nil, or_false] at hu; subst hu; rfl)
              go_wp2_with (at_builtin; refine wpList_append_own _ rfl _ _ 22 rfl w.heap.size 3 i0 _ 1 8 Tryd.underlying22 hi0 hz0 hz1 hz2 rfl (by omega) v k _ rfl hw1 ⟨wr.heap.size, 0, none⟩ 1 1 [.int .i64 x] rfl rfl HNW.out HO.out ?c3 ?c4 ?c5 ?_)
              case c3 => unfold maxLen; omega
              case c4 => omega
              case c5 => have := hx1.size; simp only [World.size_alloc] at this ⊢; omega
              intro v2 w2 hw2 hg2 _
              have hx2 : Nx w w2 := Below.grown hx1 hg2 hx1.size (fun k hk => (hw1.lt k hk).1)
              go_wp2
              go_roundw
              case rel =>
                refine ⟨k + 1, p + 6, v2, by omega, Lib.hid (by have := HP.out; omega), by go_num, rfl, ?_, hx2⟩
                rw [numsOf_succ, List.map_append, ← HXE.out]; exact hw2
              case measure => simp [intOf]; omega
        · have hd6 : decide ((p : Int) + 6 ≤ (s.size : Int)) = false := by simp; omega
          have hlen := numsOf_len s.data.toList k
          have hw' : wr.ownsRow w.heap.size 3 1 v (numsOf s.data.toList k).length ((numsOf s.data.toList k).map vI) := by rw [hlen]; exact hw
          obtain ⟨A, c, rfl, hrow, hcp⟩ := owns_row0 hw'
          have HCP := Lib.hid hcp
          clear hcp
          have HL := Lib.hid hlen
          clear hw hw' hlen
          by_cases h6 : s.size % 6 = 0
          · have hz : ((s.size : Int) % 6 == 0) = true := beq_iff_eq.2 (by omega)
            have hdiv : s.data.toList.length / 6 = k := by rw [← ba_size]; have := HP.out; omega
            have HO := Lib.hid (numsO_yes (l := s.data.toList) (by rw [← ba_size]; exact h6) HA.out)
            rw [hdiv] at HO
            clear hdiv h6
            go_wp2
            go_ret2
            rw [HO.out]
            exact ⟨_, _, _, rfl, (fun ns h => by injection h with h; subst h; exact ⟨rfl, hrow, HCP.out⟩), hnx⟩
          · have hz : ((s.size : Int) % 6 == 0) = false := beq_eq_false_iff_ne.2 (by omega)
            have HO := Lib.hid (numsO_no (l := s.data.toList) (.inl (by rw [← ba_size]; exact h6)))
            clear h6
            go_wp2
            go_ret2
            rw [HO.out]
            exact ⟨_, _, _, rfl, (fun ns h => by cases h), hnx⟩
end Go.Proofs.YteckhdkghfidiaaDoor
