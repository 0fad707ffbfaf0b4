/-
  Texts of the proof, in their order.
  Conditions: those of each.
-/
import Derived.Test.YtieoiailjjnnoaaGreatDoorMs3
namespace Go.Proofs.YtieoiailjjnnoaaGreatDoor
set_option linter.unusedVariables false
set_option maxRecDepth 100000
set_option maxHeartbeats 16000000
open Go.RowKit
def chunk (l : List UInt8) (j : Nat) : List UInt8 := (l.drop (6 * j)).take 6
def numsOf (l : List UInt8) (k : Nat) : List Nat := (List.range k).map fun j => valL (chunk l j)
theorem numsOf_len (l : List UInt8) (k : Nat) : (numsOf l k).length = k := by simp [numsOf]
theorem numsOf_succ (l : List UInt8) (k : Nat) : numsOf l (k + 1) = numsOf l k ++ [valL (chunk l k)] := by simp [numsOf, List.range_succ]
def numsO (l : List UInt8) : Option (List Nat) := if l.length % 6 = 0 ∧ digL l = true then some (numsOf l (l.length / 6)) else none
theorem numsO_yes {l : List UInt8} (h1 : l.length % 6 = 0) (h2 : digL l = true) : numsO l = some (numsOf l (l.length / 6)) := by unfold numsO; rw [if_pos ⟨h1, h2⟩]
theorem numsO_no {l : List UInt8} (h : l.length % 6 ≠ 0 ∨ digL l = false) : numsO l = none := by
 unfold numsO; rw [if_neg]; rintro ⟨h1, h2⟩
 rcases h with h | h
 · exact h h1
 · rw [h] at h2; cases h2
theorem chunk_all {l : List UInt8} (h : digL l = true) (j : Nat) : digL (chunk l j) = true := by
 unfold digL at *
 rw [List.all_eq_true] at *
 exact fun x hx => h x (List.mem_of_mem_drop (List.mem_of_mem_take hx))
theorem chunk_no {l : List UInt8} {j : Nat} (h : digL (chunk l j) = false) : digL l = false := by
 cases h2 : digL l with
 | false => rfl
 | true => rw [chunk_all h2 j] at h; cases h
def RetNums (w : World) (o : Option (List Nat)) (a0 : Addr) (e : Ending) (w' : World) : Prop :=
 Nx w w' ∧ (o = none → e = .returned (.tuple #[nsl, .iface 290 (.pointer (some a0))])) ∧
 ∀ ns, o = some ns → ∃ A c, e = .returned (.tuple #[.slice A ns.length c, .nilIface]) ∧ Row w' w'.heap.size A ns.length (intAt ns) ∧ ns.length ≤ c
theorem RetNums.no {w w' : World} {o : Option (List Nat)} {a0 : Addr} (h : o = none) (hn : Nx w w') : RetNums w o a0 (.returned (.tuple #[nsl, .iface 290 (.pointer (some a0))])) w' :=
 ⟨hn, fun _ => rfl, fun ns h2 => by rw [h] at h2; cases h2⟩
theorem RetNums.yes {w w' : World} {o : Option (List Nat)} {a0 : Addr} {ns : List Nat} {A : Option Addr} {c : Nat} (h : o = some ns) (hr : Row w' w'.heap.size A ns.length (intAt ns)) (hc : ns.length ≤ c) (hn : Nx w w') : RetNums w o a0 (.returned (.tuple #[.slice A ns.length c, .nilIface])) w' :=
 ⟨hn, (fun h2 => by rw [h] at h2; cases h2), fun ns' h2 => by rw [h] at h2; injection h2 with h2; subst h2; exact ⟨A, c, rfl, hr, hc⟩⟩
theorem owns_row0 {w : World} {B : Nat} {ns : List Nat} {v : Value} (h : w.ownsRow B 3 1 v ns.length (ns.map vI)) :
 ∃ A c, v = .slice A ns.length c ∧ Row w w.heap.size A ns.length (intAt ns) ∧ ns.length ≤ c := by
 rcases Nat.eq_zero_or_pos ns.length with h0 | hp
 · rcases h.2 with ⟨rfl, _⟩ | ⟨g, cap, cur, rfl, _⟩
   · exact ⟨none, 0, by rw [h0], (fun hn => by omega), by omega⟩
   · exact ⟨_, cap, rfl, (fun hn => by omega), by omega⟩
 · obtain ⟨A, c, e, hr⟩ := owns_row h hp
   refine ⟨A, c, e, hr, ?_⟩
   rcases h.2 with ⟨rfl, _⟩ | ⟨g, cap, cur, rfl, _, _, hnc, _⟩
   · injection e with _ e2 e3
     omega
   · injection e with _ e2 e3
     omega
theorem Own.new1 (w : World) (t : TypeId) (a : Value) : Own (w.alloc (.cells #[a] t)) w.heap.size t 1 (fun _ => a) :=
 ⟨_, heap_alloc_new w _, by simp, fun i hi => by obtain rfl : i = 0 := by omega
                                                 rfl⟩
theorem news1 (w : World) (t : TypeId) (x : Value) : ∀ j u, [x][j]? = some u → (w.alloc (.cells #[x] t)).cell? ((Addr.mk w.heap.size 0 none).add j) = some u := fun j u hj => by
 rcases j with _ | j
 · injection hj with hj; subst hj; exact ((Own.new1 w t x).cell (i := 0) (by omega))
 · simp at hj
theorem numbersOf_c (s : BA) (w : World) (a0 a1 : Addr) (hs : s.size ≤ 65536) (hE : Er w a0 a1) :
 Calls Tryz.prog 114 #[.string s] w (RetNums w (numsO s.data.toList) a0) := by
 obtain ⟨i0, hi0, hz0, hz1, hz2⟩ := info_parts info_int
 by_cases h6 : s.size % 6 = 0
 case neg =>
  have hne : ((s.size : Int) % 6 != 0) = true := by rw [bne_iff_ne]; omega
  have HN := qh (numsO_no (l := s.data.toList) (.inl (by rw [← ba_size]; exact h6)))
  obtain ⟨c0, _⟩ := hE
  go_enter Tryz.func114, Tryz.ntmps114
  go_wp2
  go_quiet (fail)
  go_wp2
  go_ret2
  exact RetNums.no HN.out ((Nx.refl _).drewN _)
 have hne : ((s.size : Int) % 6 != 0) = false := by rw [bne_eq_false_iff_eq]; omega
 obtain ⟨N, hN⟩ : ∃ N, s.size = 6 * N := ⟨s.size / 6, by omega⟩
 have HN := qh hN
 clear hN h6
 go_enter Tryz.func114, Tryz.ntmps114
 go_wp2
 go_loopw [4, 5] (fun z i wr => ∃ (k p : Nat) (v : Value), p ≤ s.size ∧ Hid (p = 6 * k) ∧ i = ii p ∧ v = z ∧ wr.ownsRow w.heap.size 3 1 v k ((numsOf s.data.toList k).map vI) ∧ Hid (∀ j, j < k → digL (chunk s.data.toList j) = true) ∧ Nx w wr) (fun _ i _ => s.size - (intOf i).toNat)
 case atStart => exact ⟨0, 0, _, Nat.zero_le _, qh rfl, rfl, rfl, ⟨rfl, .inl ⟨rfl, rfl⟩⟩, qh (fun j hj => by omega), Nx.refl _⟩
 case round =>
  obtain ⟨k, p, v, hp, HP, rfl, rfl, hw, HD, hnx⟩ := hrel
  have hEr := hE.nx hnx
  by_cases hlt : p < s.size
  · have hp6 : p + 6 ≤ s.size := by have := HP.out; have := HN.out; omega
    have hp7 : (p : Int) + 6 ≤ (s.size : Int) := by omega
    have hcs : (s.extract p (p + 6)).data.toList = chunk s.data.toList k := by
     rw [Lib.extract_data, HP.out, show 6 * k + 6 - 6 * k = 6 by omega]; rfl
    have hcz : (s.extract p (p + 6)).size = 6 := by
     rw [ba_size, hcs]; unfold chunk; rw [List.length_take, List.length_drop, ← ba_size]; have := HP.out; omega
    have HCS := qh hcs
    have HCZ := qh hcz
    have hk9 : k ≤ 10923 := by have := HP.out; omega
    clear hcs hcz
    cases hdc : digL (chunk s.data.toList k) with
    | false =>
      have HF := qh (numsO_no (l := s.data.toList) (.inr (chunk_no hdc)))
      have HDC := qh hdc
      clear hdc
      go_wp2_with fail
      refine (numberOf_c (s.extract p (p + 6)) _ a0 a1 HCZ.out hEr).mono ?_
      rintro e w1 ⟨rfl, hnx1⟩
      rw [← numV_no (by rw [HCS.out]; exact HDC.out)]
      go_wp2
      go_ret2
      exact RetNums.no HF.out (hnx.trans hnx1)
    | true =>
      have HDC := qh hdc
      have hx9 := valL_bd _ rfl hdc
      clear hdc
      obtain ⟨x, Hx⟩ : ∃ x, Hid (valL (chunk s.data.toList k) = x) := ⟨_, rfl⟩
      clear hx9
      go_wp2_with fail
      refine (numberOf_c (s.extract p (p + 6)) _ a0 a1 HCZ.out hEr).mono ?_
      rintro e w1 ⟨rfl, hnx1⟩
      rw [← numV_yes (by rw [HCS.out]; exact HDC.out), HCS.out, Hx.out]
      have hx1 := (hnx.trans hnx1).alloc (.cells #[ii x] 3)
      have hw1 := (owns_nx hw hnx1).alloc (.cells #[ii x] 3)
      have HNW := qh (news1 w1 3 (ii x))
      have HO : Hid (∀ u ∈ [Value.int .i64 (x : Int)], u.oneCell' = true) := qh (fun u hu => by simp only [List.mem_cons, List.not_mem_nil, or_false] at hu; subst hu; rfl)
      go_wp2_with (at_builtin; refine wpList_append_own _ rfl _ _ 23 rfl w.heap.size 3 i0 _ 1 8 Tryz.underlying23 hi0 hz0 hz1 hz2 rfl (by omega) v k _ rfl hw1 ⟨w1.heap.size, 0, none⟩ 1 1 [ii x] rfl rfl HNW.out HO.out ?c3 ?c4 ?c5 ?_)
      case c3 => unfold maxLen; omega
      case c4 => omega
      case c5 => have := hx1.size; simp only [World.size_alloc] at this ⊢; omega
      intro v2 w2 hw2 hg2 _
      have hx2 : Nx w w2 := Below.grown hx1 hg2 hx1.size (fun k hk => (hw1.lt k hk).1)
      go_wp2
      go_roundw
      case rel =>
       refine ⟨k + 1, p + 6, v2, by omega, qh (by have := HP.out; omega), by go_num, rfl, ?_, qh ?_, hx2⟩
       · rw [numsOf_succ, List.map_append, Hx.out]; exact hw2
       · intro j hj
         rcases Nat.lt_or_ge j k with hlt | hge
         · exact HD.out j hlt
         · obtain rfl : j = k := by omega
           exact HDC.out
      case measure => simp [intOf]; omega
  · obtain rfl : p = s.size := by omega
    obtain rfl : k = N := by have := HP.out; have := HN.out; omega
    have hlen := numsOf_len s.data.toList k
    have hw' : wr.ownsRow w.heap.size 3 1 v (numsOf s.data.toList k).length ((numsOf s.data.toList k).map vI) := by rw [hlen]; exact hw
    obtain ⟨A, c, rfl, hrow, hcp⟩ := owns_row0 hw'
    have HCP := qh hcp
    clear hcp
    have hall : digL s.data.toList = true := by
     unfold digL
     rw [List.all_eq_true]
     intro x hx
     obtain ⟨i, hi, rfl⟩ := List.mem_iff_getElem.1 hx
     have hi' : i < s.size := by rw [ba_size]; exact hi
     have h1 := HD.out (i / 6) (by have := HP.out; omega)
     unfold digL at h1
     rw [List.all_eq_true] at h1
     apply h1
     unfold chunk
     rw [List.mem_iff_getElem]
     refine ⟨i % 6, by rw [List.length_take, List.length_drop]; omega, ?_⟩
     rw [List.getElem_take, List.getElem_drop]
     congr 1
     omega
    have HO := qh (numsO_yes (l := s.data.toList) (by rw [← ba_size]; have := HP.out; omega) hall)
    have hdiv : s.data.toList.length / 6 = k := by rw [← ba_size]; have := HP.out; omega
    rw [hdiv] at HO
    clear hw hw' hall hlen hdiv
    go_wp2
    go_ret2
    exact RetNums.yes HO.out hrow HCP.out hnx
def RetNB (w : World) (o : Option (List Nat)) (e : Ending) (w' : World) : Prop :=
 ∃ A n c, e = .returned (.tuple #[.slice A n c, .bool o.isSome]) ∧ (∀ ns, o = some ns → n = ns.length ∧ Row w' w'.heap.size A n (intAt ns) ∧ n ≤ c) ∧ Nx w w'
theorem owns_new0 (w : World) (t : TypeId) {B : Nat} (hB : B ≤ w.heap.size) : (w.alloc (.cells #[] t)).ownsRow B t 1 (.slice (some ⟨w.heap.size, 0, none⟩) 0 0) 0 [] :=
 ⟨rfl, .inr ⟨_, 0, #[], rfl, hB, heap_alloc_new w _, by omega, by unfold maxLen; omega, rfl, rfl⟩⟩
def valFrom (s : BA) (p j : Nat) : Nat := valL ((s.data.toList.drop p).take j)
theorem valFrom_succ (s : BA) (p j : Nat) (h : p + j < s.size) : valFrom s p (j + 1) = 10 * valFrom s p j + (s[p + j].toNat - 48) := by
 unfold valFrom
 have hl : j < (s.data.toList.drop p).length := by rw [List.length_drop, ← ba_size]; omega
 rw [List.take_succ_eq_append_getElem hl, valL_snoc]
 simp only [List.getElem_drop]
 rfl
theorem valFrom_bd {s : BA} {p j : Nat} (hj : j ≤ 6) (h : digL s.data.toList = true) : valFrom s p j < 1000000 := by
 have h0 : digL ((s.data.toList.drop p).take j) = true := by
  unfold digL at *
  rw [List.all_eq_true] at *
  exact fun x hx => h x (List.mem_of_mem_drop (List.mem_of_mem_take hx))
 have h1 := valL_bd _ rfl h0
 have h2 : ((s.data.toList.drop p).take j).length ≤ 6 := ntr (List.length_take_le _ _) hj
 have h3 : 10 ^ ((s.data.toList.drop p).take j).length ≤ 10 ^ 6 := Nat.pow_le_pow_right (by omega) h2
 unfold valFrom
 omega
theorem dig_at {s : BA} (h : digL s.data.toList = true) (k : Nat) (hk : k < s.size) : 48 ≤ (s[k].toNat : Int) ∧ (s[k].toNat : Int) ≤ 57 :=
 digI_yes (show digC s[k] = true by rw [← getL s k hk]; exact digL_yes h _)
theorem l02Numbers_c (s : BA) (w : World) (hs : s.size ≤ 65536) :
 Calls Tryz.prog 194 #[.string s] w (RetNB w (numsO s.data.toList)) := by
 obtain ⟨i0, hi0, hz0, hz1, hz2⟩ := info_parts info_int
 have hw0 := owns_new0 w 3 nle
 have hn0 := (Nx.refl w).alloc (.cells #[] 3)
 go_enter Tryz.func194, Tryz.ntmps194
 go_wp2
 go_loop [5] (fun i => ∃ k : Nat, k ≤ s.size ∧ i = ii k ∧ Hid (digL (s.data.toList.take k) = true)) (fun i => s.size - (intOf i).toNat)
 case atStart => exact ⟨0, Nat.zero_le _, rfl, qh rfl⟩
 case round =>
  obtain ⟨k, hk, rfl, HD⟩ := hrel
  by_cases hlt : k < s.size
  · have HT := qh (take_snoc s k hlt)
    cases hC : digI (s[k].toNat : Int) with
    | true =>
      have HC := qh hC
      clear hC
      go_wp2_with (go_at_call 219; refine (l00Digit_c _ _).mono ?_; rintro e w' ⟨rfl, rfl⟩; rw [HC.out])
      go_round
      case rel => exact ⟨k + 1, by omega, by go_num, qh (by rw [HT.out, digL_snoc, HD.out]; exact HC.out)⟩
      case measure => simp [intOf]; omega
    | false =>
      have HC := qh hC
      have HF := qh (numsO_no (.inr (digL_no (l := s.data.toList) (k := k) (by simpa using hlt) (by rw [getL s k hlt]; exact hC))))
      clear hC
      go_wp2_with (go_at_call 219; refine (l00Digit_c _ _).mono ?_; rintro e w' ⟨rfl, rfl⟩; rw [HC.out])
      go_ret2
      rw [HF.out]
      exact ⟨_, _, _, rfl, (fun ns h => by cases h), hn0.alloc _⟩
  · obtain rfl : k = s.size := by omega
    have hall : digL s.data.toList = true := by
     have := HD.out
     rwa [List.take_of_length_le (by simp)] at this
    have HA := qh hall
    clear HD hall
    generalize w.alloc (.cells #[] 3) = W at *
    go_wp2
    go_loopw [4, 6] (fun z i wr => ∃ (k p : Nat) (v : Value), p ≤ s.size ∧ Hid (p = 6 * k) ∧ i = ii p ∧ v = z ∧ wr.ownsRow w.heap.size 3 1 v k ((numsOf s.data.toList k).map vI) ∧ Nx w wr) (fun _ i _ => s.size - (intOf i).toNat)
    case atStart => exact ⟨0, 0, _, Nat.zero_le _, qh rfl, rfl, rfl, hw0, hn0⟩
    case round =>
     obtain ⟨k, p, v, hp, HP, rfl, rfl, hw, hnx⟩ := hrel
     clear hw0 hn0
     by_cases hlt : p + 6 ≤ s.size
     · have hd6 : decide ((p : Int) + 6 ≤ (s.size : Int)) = true := by simp; omega
       have hk9 : k ≤ 10923 := by have := HP.out; omega
       go_wp2
       go_loop [7, 8] (fun n i => ∃ j : Nat, j ≤ 6 ∧ i = ii ((p + j : Nat) : Int) ∧ n = ii ((valFrom s p j : Nat) : Int)) (fun _ i => p + 6 - (intOf i).toNat)
       case atStart => exact ⟨0, by omega, rfl, rfl⟩
       case round =>
        obtain ⟨j, hj, rfl, rfl⟩ := hrel
        have hbd := valFrom_bd (s := s) (p := p) hj HA.out
        by_cases hj6 : j < 6
        · have hpj : p + j < s.size := by omega
          obtain ⟨d1, d2⟩ := dig_at HA.out (p + j) hpj
          have HV := qh (valFrom_succ s p j hpj)
          obtain ⟨m, Hm⟩ : ∃ m, Hid (valFrom s p j = m) := ⟨_, rfl⟩
          rw [Hm.out] at hbd HV ⊢
          obtain ⟨q, Hq⟩ : ∃ q, Hid (p + j = q) := ⟨_, rfl⟩
          have hq1 : q < p + 6 := by have := Hq.out; omega
          have hdq : decide ((q : Int) < (p : Int) + 6) = true := by simp; omega
          simp only [Hq.out] at hpj d1 d2 HV ⊢
          go_wp2
          go_round
          case rel => exact ⟨j + 1, by omega, by rw [show p + (j + 1) = q + 1 by have := Hq.out; omega]; go_num, by rw [HV.out, num_step d1]⟩
          case measure => simp [intOf]; omega
        · obtain rfl : j = 6 := by omega
          have hdq : decide (((p + 6 : Nat) : Int) < (p : Int) + 6) = false := by simp
          have hxe : valFrom s p 6 = valL (chunk s.data.toList k) := by unfold valFrom chunk; rw [HP.out]
          obtain ⟨x, Hx⟩ : ∃ x, Hid (valFrom s p 6 = x) := ⟨_, rfl⟩
          rw [Hx.out] at hbd hxe ⊢
          have HXE := qh hxe
          clear hxe
          have hx1 := hnx.alloc (.cells #[ii x] 3)
          have hw1 := hw.alloc (.cells #[ii x] 3)
          have HNW := qh (news1 wr 3 (ii x))
          have HO : Hid (∀ u ∈ [Value.int .i64 (x : Int)], u.oneCell' = true) := qh (fun u hu => by simp only [List.mem_cons, List.not_mem_nil, or_false] at hu; subst hu; rfl)
          go_wp2_with (at_builtin; refine wpList_append_own _ rfl _ _ 23 rfl w.heap.size 3 i0 _ 1 8 Tryz.underlying23 hi0 hz0 hz1 hz2 rfl (by omega) v k _ rfl hw1 ⟨wr.heap.size, 0, none⟩ 1 1 [ii x] rfl rfl HNW.out HO.out ?c3 ?c4 ?c5 ?_)
          case c3 => unfold maxLen; omega
          case c4 => omega
          case c5 => have := hx1.size; simp only [World.size_alloc] at this ⊢; omega
          intro v2 w2 hw2 hg2 _
          have hx2 : Nx w w2 := Below.grown hx1 hg2 hx1.size (fun k hk => (hw1.lt k hk).1)
          go_wp2
          go_roundw
          case rel =>
           refine ⟨k + 1, p + 6, v2, by omega, qh (by have := HP.out; omega), by go_num, rfl, ?_, hx2⟩
           rw [numsOf_succ, List.map_append, ← HXE.out]; exact hw2
          case measure => simp [intOf]; omega
     · have hd6 : decide ((p : Int) + 6 ≤ (s.size : Int)) = false := by simp; omega
       have hlen := numsOf_len s.data.toList k
       have hw' : wr.ownsRow w.heap.size 3 1 v (numsOf s.data.toList k).length ((numsOf s.data.toList k).map vI) := by rw [hlen]; exact hw
       obtain ⟨A, c, rfl, hrow, hcp⟩ := owns_row0 hw'
       have HCP := qh hcp
       clear hcp
       have HL := qh hlen
       clear hw hw' hlen
       by_cases h6 : s.size % 6 = 0
       · have hz : ((s.size : Int) % 6 == 0) = true := beq_iff_eq.2 (by omega)
         have hdiv : s.data.toList.length / 6 = k := by rw [← ba_size]; have := HP.out; omega
         have HO := qh (numsO_yes (l := s.data.toList) (by rw [← ba_size]; exact h6) HA.out)
         rw [hdiv] at HO
         clear hdiv h6
         go_wp2
         go_ret2
         rw [HO.out]
         exact ⟨_, _, _, rfl, (fun ns h => by injection h with h; subst h; exact ⟨rfl, hrow, HCP.out⟩), hnx⟩
       · have hz : ((s.size : Int) % 6 == 0) = false := beq_eq_false_iff_ne.2 (by omega)
         have HO := qh (numsO_no (l := s.data.toList) (.inl (by rw [← ba_size]; exact h6)))
         clear h6
         go_wp2
         go_ret2
         rw [HO.out]
         exact ⟨_, _, _, rfl, (fun ns h => by cases h), hnx⟩
def bodyOf (t : BA) : BA := t.extract 0 (t.size - 3)
theorem bodyOf_size (t : BA) : (bodyOf t).size ≤ t.size := by
 unfold bodyOf; rw [ba_size, Lib.extract_data, ba_size t, List.length_take, List.length_drop]; omega
def sealB (t : BA) : Bool := (sealS (bodyOf t)).toList == t.toList
def opensB (t : BA) : Bool := decide (3 ≤ t.size) && sealB t
def rdN (t : BA) : Option (List Nat) := if opensB t then numsO (bodyOf t).data.toList else none
theorem opensB_short {t : BA} (h : t.size < 3) : opensB t = false := by unfold opensB; rw [decide_eq_false (by omega)]; rfl
theorem opensB_of {t : BA} (h : 3 ≤ t.size) : opensB t = sealB t := by unfold opensB; rw [decide_eq_true h]; rfl
theorem rdN_yes {t : BA} (h : opensB t = true) : rdN t = numsO (bodyOf t).data.toList := by unfold rdN; rw [h]; rfl
theorem l02Seal_s (s : BA) (w : World) (hs : s.size ≤ 1048576) : Calls Tryz.prog 109 #[.string s] w fun e w' => e = .returned (.string (sealS s)) ∧ Nx w w' := l02Seal_c s w hs
def RetO (w : World) (t : BA) (e : Ending) (w' : World) : Prop :=
 ∃ x : BA, e = .returned (.tuple #[.string x, .bool (opensB t)]) ∧ x.size ≤ t.size ∧ (opensB t = true → x = bodyOf t) ∧ Nx w w'
theorem l02Open_c (t : BA) (w : World) (ht : t.size ≤ 1048576) : Calls Tryz.prog 192 #[.string t] w (RetO w t) := by
 by_cases h3 : t.size < 3
 · have hd : decide ((t.size : Int) < 3) = true := by simp; omega
   have HO := qh (opensB_short h3)
   go_enter Tryz.func192, Tryz.ntmps192
   go_wp2
   go_ret2
   unfold RetO
   rw [HO.out]
   exact ⟨⟨#[]⟩, rfl, Nat.zero_le _, (fun h => by cases h), Nx.refl _⟩
 · have hd : decide ((t.size : Int) < 3) = false := by simp; omega
   have HO := qh (opensB_of (t := t) (by omega))
   have hb1 : 0 ≤ (t.size : Int) - 3 := by omega
   have hb2 : (t.size : Int) - 3 ≤ (t.size : Int) := by omega
   have hb3 : ((t.size : Int) - 3).toNat = t.size - 3 := by omega
   go_enter Tryz.func192, Tryz.ntmps192
   go_wp2_with fail
   refine (l02Seal_s (bodyOf t) _ (ntr (bodyOf_size t) ht)).mono ?_
   rintro e w1 ⟨rfl, hnx1⟩
   obtain ⟨b, Hb⟩ : ∃ b, Hid (sealB t = b) := ⟨_, rfl⟩
   have hb : ((sealS (bodyOf t)).toList == t.toList) = b := Hb.out
   go_wp2
   go_ret2
   refine ⟨bodyOf t, ?_, bodyOf_size t, fun _ => rfl, hnx1⟩
   rw [HO.out, Hb.out]
   rfl
def RetUn (w : World) (t : BA) (a0 : Addr) (e : Ending) (w' : World) : Prop :=
 Nx w w' ∧ (opensB t = false → e = .returned (.tuple #[.string ⟨#[]⟩, .iface 290 (.pointer (some a0))])) ∧ (opensB t = true → e = .returned (.tuple #[.string (bodyOf t), .nilIface]))
theorem unsealed_c (t : BA) (w : World) (a0 a1 : Addr) (ht : t.size ≤ 65536) (hE : Er w a0 a1) : Calls Tryz.prog 112 #[.string t] w (RetUn w t a0) := by
 have hd0 : decide (65536 < (t.size : Int)) = false := by simp; omega
 by_cases h3 : t.size < 3
 · have hd : decide ((t.size : Int) < 3) = true := by simp; omega
   have HO := qh (opensB_short h3)
   obtain ⟨c0, _⟩ := hE
   go_enter Tryz.func112, Tryz.ntmps112
   go_wp2
   go_quiet (fail)
   go_wp2
   go_ret2
   exact ⟨(Nx.refl _).drewN _, fun _ => rfl, fun h => by rw [HO.out] at h; cases h⟩
 · have hd : decide ((t.size : Int) < 3) = false := by simp; omega
   have HO := qh (opensB_of (t := t) (by omega))
   have hb1 : 0 ≤ (t.size : Int) - 3 := by omega
   have hb2 : (t.size : Int) - 3 ≤ (t.size : Int) := by omega
   have hb3 : ((t.size : Int) - 3).toNat = t.size - 3 := by omega
   cases hb : sealB t with
   | false =>
     have HB := qh hb
     clear hb
     go_enter Tryz.func112, Tryz.ntmps112
     go_wp2_with fail
     refine (sealed_c (bodyOf t) _ (ntr (bodyOf_size t) ht)).mono ?_
     rintro e w1 ⟨rfl, hnx1⟩
     have hb : ((sealS (bodyOf t)).toList == t.toList) = false := HB.out
     have hb' : ((sealS (bodyOf t)).toList != t.toList) = true := by rw [bne, hb]; rfl
     obtain ⟨c0, _⟩ := hE.nx hnx1
     go_wp2
     go_quiet (fail)
     go_wp2
     go_ret2
     exact ⟨hnx1.drewN _, fun _ => rfl, fun h => by rw [HO.out, HB.out] at h; cases h⟩
   | true =>
     have HB := qh hb
     clear hb
     go_enter Tryz.func112, Tryz.ntmps112
     go_wp2_with fail
     refine (sealed_c (bodyOf t) _ (ntr (bodyOf_size t) ht)).mono ?_
     rintro e w1 ⟨rfl, hnx1⟩
     have hb : ((sealS (bodyOf t)).toList == t.toList) = true := HB.out
     have hb' : ((sealS (bodyOf t)).toList != t.toList) = false := by rw [bne, hb]; rfl
     go_wp2
     go_ret2
     exact ⟨hnx1, (fun h => by rw [HO.out, HB.out] at h; cases h), fun _ => rfl⟩
theorem unsealedLong_c (t : BA) (w : World) (a0 a1 : Addr) (ht : 65536 < t.size) (hE : Er w a0 a1) :
 Calls Tryz.prog 112 #[.string t] w fun e w' => e = .returned (.tuple #[.string ⟨#[]⟩, .iface 290 (.pointer (some a1))]) ∧ Nx w w' := by
 have hd0 : decide (65536 < (t.size : Int)) = true := by simp; omega
 obtain ⟨_, c1, _⟩ := hE
 go_enter Tryz.func112, Tryz.ntmps112
 go_wp2
 go_quiet (fail)
 go_wp2
 go_ret2
 exact ⟨rfl, (Nx.refl _).drewN _⟩
def plainB (l : List UInt8) : Bool := decide (1 ≤ l.length) && decide (l.length ≤ 18) && (decide (l.length = 1) || decide (l.head? ≠ some 48)) && digL l
theorem plainB_dig {l : List UInt8} (h : plainB l = true) : digL l = true := by
 unfold plainB at h; simp only [Bool.and_eq_true] at h; exact h.2
theorem plainB_no {l : List UInt8} (h : digL l = false) : plainB l = false := by unfold plainB; rw [h]; simp
theorem plainB_len {l : List UInt8} (h : plainB l = true) : 1 ≤ l.length ∧ l.length ≤ 18 := by
 unfold plainB at h; simp only [Bool.and_eq_true, decide_eq_true_eq] at h; exact h.1.1
theorem plainB_head {l : List UInt8} (h : plainB l = true) : l.length = 1 ∨ l.head? ≠ some 48 := by
 unfold plainB at h; simp only [Bool.and_eq_true, Bool.or_eq_true, decide_eq_true_eq] at h; exact h.1.2
theorem plainB_mk {l : List UInt8} (h1 : 1 ≤ l.length) (h2 : l.length ≤ 18) (h3 : l.length = 1 ∨ l.head? ≠ some 48) : plainB l = digL l := by
 unfold plainB
 rw [decide_eq_true h1, decide_eq_true h2]
 rcases h3 with h | h
 · rw [decide_eq_true h]; simp
 · rw [decide_eq_true h]; simp
theorem plainB_size {l : List UInt8} (h : l.length = 0 ∨ 18 < l.length) : plainB l = false := by
 unfold plainB
 rcases h with h | h
 · rw [decide_eq_false (show ¬ 1 ≤ l.length by omega)]; rfl
 · rw [decide_eq_false (show ¬ l.length ≤ 18 by omega)]; simp
theorem plainB_nought {l : List UInt8} (h : 1 < l.length) (h2 : l.head? = some 48) : plainB l = false := by
 unfold plainB
 rw [decide_eq_false (show ¬ l.length = 1 by omega), decide_eq_false (show ¬ l.head? ≠ some 48 by simp [h2])]; simp
theorem digL_mem {l : List UInt8} (h : digL l = true) {x : UInt8} (hx : x ∈ l) : digC x = true := List.all_eq_true.1 h x hx
def wordM (l : List UInt8) : Option Mrk :=
 if (Lib.cut l [61]).2.2 && plainB (Lib.cut l [61]).2.1 then some (baL (Lib.cut l [61]).1, ((valL (Lib.cut l [61]).2.1 : Nat) : Int)) else none
theorem wordM_miss {l : List UInt8} (h : 61 ∉ l) : wordM l = none := by unfold wordM; rw [cut_miss h]; rfl
theorem wordM_hit {a b : List UInt8} (h : 61 ∉ a) : wordM (a ++ 61 :: b) = if plainB b then some (baL a, ((valL b : Nat) : Int)) else none := by
 unfold wordM; rw [cut_hit h]; simp
theorem wordM_two {l a b : List UInt8} (h : cutL 61 l = [a, b]) : wordM l = if plainB b then some (baL a, ((valL b : Nat) : Int)) else none := by
 obtain ⟨a', b', h1, h2, h3, _⟩ := cutL_two (c := 61) (s := l) (by rw [h]; rfl)
 rw [h] at h1
 injection h1 with e1 h1
 injection h1 with e2 _
 subst e1 e2
 rw [h2, wordM_hit h3]
theorem wordM_more {l : List UInt8} (h : (cutL 61 l).length ≠ 2) : wordM l = none := by
 rcases part_at 61 l with h1 | ⟨a, b, h1, e⟩
 · exact wordM_miss h1
 · rw [e, wordM_hit h1]
   have hb : 61 ∈ b := by
    by_cases hb : (61 : UInt8) ∈ b
    · exact hb
    · exact absurd (by rw [e, cutL_hit 61 a b h1, cutL_miss 61 b hb]; rfl) h
   rw [if_neg]
   intro hp
   have := digL_mem (plainB_dig hp) hb
   revert this; decide
def marksL : List (List UInt8) → Option (List Mrk)
 | [] => some []
 | w :: ws => (wordM w).bind fun m => (marksL ws).map (m :: ·)
theorem marksL_snoc : ∀ (ws : List (List UInt8)) (w : List UInt8), marksL (ws ++ [w]) = (marksL ws).bind fun ms => (wordM w).map fun m => ms ++ [m]
 | [], w => by
   show (wordM w).bind (fun m => (marksL []).map (m :: ·)) = _
   simp only [marksL, Option.map_some, Option.bind_some]
   cases wordM w <;> rfl
 | x :: ws, w => by
   have ih := marksL_snoc ws w
   rw [List.cons_append, marksL, marksL, ih]
   cases wordM x with
   | none => rfl
   | some m =>
     cases marksL ws with
     | none => rfl
     | some ms => cases wordM w <;> rfl
theorem marksL_len : ∀ {ws : List (List UInt8)} {ms : List Mrk}, marksL ws = some ms → ms.length = ws.length
 | [], ms, h => by simp only [marksL, Option.some.injEq] at h; subst h; rfl
 | x :: ws, ms, h => by
   rw [marksL] at h
   cases hx : wordM x with
   | none => rw [hx] at h; cases h
   | some m =>
     rw [hx, Option.bind_some] at h
     cases hw : marksL ws with
     | none => rw [hw] at h; cases h
     | some ns =>
       rw [hw, Option.map_some, Option.some.injEq] at h
       subst h
       simp [marksL_len hw]
theorem marksL_no : ∀ {ws : List (List UInt8)} {w : List UInt8}, w ∈ ws → wordM w = none → marksL ws = none
 | [], w, h, _ => by simp at h
 | x :: ws, w, h, hn => by
   rw [marksL]
   rcases List.mem_cons.1 h with rfl | h
   · rw [hn]; rfl
   · rw [marksL_no h hn]
     cases wordM x <;> rfl
theorem marksL_all : ∀ {ws : List (List UInt8)} {ms : List Mrk} {w : List UInt8}, marksL ws = some ms → w ∈ ws → ∃ m ∈ ms, wordM w = some m
 | [], _, _, _, h => by simp at h
 | x :: ws, ms, w, hm, h => by
   rw [marksL] at hm
   cases hx : wordM x with
   | none => rw [hx] at hm; cases hm
   | some m =>
     rw [hx, Option.bind_some] at hm
     cases hw : marksL ws with
     | none => rw [hw] at hm; cases hm
     | some ns =>
       rw [hw, Option.map_some, Option.some.injEq] at hm
       subst hm
       rcases List.mem_cons.1 h with rfl | h
       · exact ⟨m, by simp, hx⟩
       · obtain ⟨q, hq, e⟩ := marksL_all hw h
         exact ⟨q, by simp [hq], e⟩
def wordB (x : BA) : Option Mrk := wordM x.data.toList
def marksB (ws : List BA) : Option (List Mrk) := marksL (ws.map (·.data.toList))
theorem marksB_succ {ws : List BA} {k : Nat} {ms : List Mrk} {m : Mrk} (hk : k < ws.length) (h : marksB (ws.take k) = some ms) (hm : wordB (ws.getD k ByteArray.empty) = some m) : marksB (ws.take (k + 1)) = some (ms ++ [m]) := by
 unfold marksB wordB at *
 rw [List.take_succ_eq_append_getElem hk, List.map_append, List.map_cons, List.map_nil, marksL_snoc, h]
 rw [gdE, List.getElem?_eq_getElem hk, Option.getD_some] at hm
 rw [hm]; rfl
theorem marksB_no {ws : List BA} {k : Nat} (hk : k < ws.length) (h : wordB (ws.getD k ByteArray.empty) = none) : marksB ws = none := by
 unfold marksB
 rw [gdE, List.getElem?_eq_getElem hk, Option.getD_some] at h
 exact marksL_no (List.mem_map_of_mem (List.getElem_mem hk)) h
theorem marksB_len {ws : List BA} {ms : List Mrk} (h : marksB ws = some ms) : ms.length = ws.length := by
 rw [marksL_len h]; simp
def marksO (l : List UInt8) : Option (List Mrk) := if l.length = 0 then some [] else marksL (cutL 44 l)
theorem marksO_nil {s : BA} (h : s.size = 0) : marksO s.data.toList = some [] := by unfold marksO; rw [if_pos (by rw [← ba_size]; exact h)]
theorem marksO_cut {s : BA} (h : s.size ≠ 0) : marksO s.data.toList = marksB (cutB 44 s) := by
 unfold marksO marksB cutB
 rw [if_neg (by rw [← ba_size]; exact h), List.map_map]
 congr 1
 conv => lhs; rw [← List.map_id (cutL 44 s.data.toList)]
 exact List.map_congr_left fun x _ => rfl
abbrev U6 := Int × Int × Int × Int × List Int × List Mrk
def intsN (ns : List Nat) : List Int := ns.map fun (n : Nat) => (n : Int)
theorem intsN_len (ns : List Nat) : (intsN ns).length = ns.length := by unfold intsN; simp
theorem intsN_at (ns : List Nat) (i : Nat) (h : i < ns.length) : inAt (intsN ns) i = intAt ns i := by
 unfold inAt intAt intsN
 rw [gdE, List.getElem?_map, List.getElem?_eq_getElem h, gdE, List.getElem?_eq_getElem h]; rfl
def supOf (ns : List Nat) (ms : List Mrk) : Option U6 :=
 if superB (ns.getD 0 0) (ns.getD 1 0) (ns.getD 2 0) (ns.getD 3 0) (intsN (ns.drop 4)) ms then some (((ns.getD 0 0 : Nat) : Int), ((ns.getD 1 0 : Nat) : Int), ((ns.getD 2 0 : Nat) : Int), ((ns.getD 3 0 : Nat) : Int), intsN (ns.drop 4), ms) else none
theorem supOf_no {ns : List Nat} {ms : List Mrk} (h : superB (ns.getD 0 0) (ns.getD 1 0) (ns.getD 2 0) (ns.getD 3 0) (intsN (ns.drop 4)) ms = false) : supOf ns ms = none := by unfold supOf; rw [h]; rfl
theorem supOf_yes {ns : List Nat} {ms : List Mrk} (h : superB (ns.getD 0 0) (ns.getD 1 0) (ns.getD 2 0) (ns.getD 3 0) (intsN (ns.drop 4)) ms = true) : supOf ns ms = some (((ns.getD 0 0 : Nat) : Int), ((ns.getD 1 0 : Nat) : Int), ((ns.getD 2 0 : Nat) : Int), ((ns.getD 3 0 : Nat) : Int), intsN (ns.drop 4), ms) := by unfold supOf; rw [h]; rfl
theorem supOf_super {ns : List Nat} {ms : List Mrk} {g b p t : Int} {xs : List Int} {ms' : List Mrk} (h : supOf ns ms = some (g, b, p, t, xs, ms')) : superB g b p t xs ms' = true := by
 unfold supOf at h
 split at h
 · rename_i hs
   injection h with h
   injection h with h0 h
   injection h with h1 h
   injection h with h2 h
   injection h with h3 h
   injection h with h4 h5
   subst h0 h1 h2 h3 h4 h5
   exact hs
 · cases h
def partU (h m : List UInt8) : Option U6 := (numsO h).bind fun ns => if 4 ≤ ns.length then (marksO m).bind (supOf ns) else none
theorem partU_nums {h m : List UInt8} (e : numsO h = none) : partU h m = none := by unfold partU; rw [e]; rfl
theorem partU_few {h m : List UInt8} {ns : List Nat} (e : numsO h = some ns) (hl : ns.length < 4) : partU h m = none := by
 unfold partU; rw [e, Option.bind_some, if_neg (by omega)]
theorem partU_marks {h m : List UInt8} {ns : List Nat} (e : numsO h = some ns) (hm : marksO m = none) : partU h m = none := by
 unfold partU; rw [e, Option.bind_some, hm]; simp
theorem partU_yes {h m : List UInt8} {ns : List Nat} {ms : List Mrk} (e : numsO h = some ns) (hl : 4 ≤ ns.length) (hm : marksO m = some ms) : partU h m = supOf ns ms := by
 unfold partU; rw [e, Option.bind_some, if_pos hl, hm]; rfl
theorem partU_super {h m : List UInt8} {g b p t : Int} {xs : List Int} {ms : List Mrk} (e : partU h m = some (g, b, p, t, xs, ms)) : superB g b p t xs ms = true := by
 unfold partU at e
 cases hn : numsO h with
 | none => rw [hn] at e; cases e
 | some ns =>
   rw [hn, Option.bind_some] at e
   split at e
   · cases hm : marksO m with
     | none => rw [hm] at e; cases e
     | some ms' => rw [hm, Option.bind_some] at e; exact supOf_super e
   · cases e
theorem letB_bar {s : BA} (h : 124 ∈ s.data.toList) : nmB s = false := by
 obtain ⟨k, hk, e⟩ := List.getElem_of_mem h
 have hk' : k < s.size := by rw [ba_size]; exact hk
 refine nmB_no hk' ?_
 unfold letB
 rw [gdE, List.getElem?_eq_getElem hk, e]
 decide
theorem superB_marks {g b p t : Int} {xs : List Int} {ms : List Mrk} {m : Mrk} (hm : m ∈ ms) (h : nmB m.1 = false) : superB g b p t xs ms = false := by
 obtain ⟨k, hk, e⟩ := List.getElem_of_mem hm
 have hms : msB ms = false := by
  unfold msB
  rw [show (List.range ms.length).all (okMk ms) = false from List.all_eq_false.2 ⟨k, by simpa using hk, ?_⟩]
  · simp
  · unfold okMk mkB
    rw [gdE, List.getElem?_eq_getElem hk, Option.getD_some, e, h]; simp
 unfold superB; rw [hms]; simp
theorem partU_bar {h m : List UInt8} (hb : 124 ∈ m) : partU h m = none := by
 cases hn : numsO h with
 | none => exact partU_nums hn
 | some ns =>
   by_cases hl : 4 ≤ ns.length
   case neg => exact partU_few hn (by omega)
   cases hm : marksO m with
   | none => exact partU_marks hn hm
   | some ms =>
     rw [partU_yes hn hl hm]
     refine supOf_no ?_
     have hne : ¬ m.length = 0 := fun e => by rw [List.length_eq_zero_iff] at e; subst e; simp at hb
     unfold marksO at hm
     rw [if_neg hne] at hm
     obtain ⟨w, hw, hbw⟩ := cutL_mem (c := 44) (x := 124) (by decide) hb
     obtain ⟨q, hq, e⟩ := marksL_all hm hw
     refine superB_marks hq ?_
     rcases part_at 61 w with h1 | ⟨a, b, h1, e1⟩
     · rw [wordM_miss h1] at e; cases e
     · rw [e1, wordM_hit h1] at e
       split at e
       · rename_i hp
         injection e with e
         subst e
         rw [e1] at hbw
         have hba : 124 ∈ a := by
          rcases List.mem_append.1 hbw with h2 | h2
          · exact h2
          · rcases List.mem_cons.1 h2 with h3 | h3
            · exact absurd h3 (by decide)
            · exact absurd (digL_mem (plainB_dig hp) h3) (by decide)
         exact letB_bar (by rw [baL_list]; exact hba)
       · cases e
def rdU (t : BA) : Option U6 :=
 if opensB t && (Lib.cut (bodyOf t).data.toList [124]).2.2 then partU (Lib.cut (bodyOf t).data.toList [124]).1 (Lib.cut (bodyOf t).data.toList [124]).2.1 else none
theorem rdU_shut {t : BA} (h : opensB t = false) : rdU t = none := by unfold rdU; rw [h]; rfl
theorem rdU_miss {t : BA} (h : 124 ∉ (bodyOf t).data.toList) : rdU t = none := by unfold rdU; rw [cut_miss h]; simp
theorem rdU_hit {t : BA} {a b : List UInt8} (h : opensB t = true) (h2 : 124 ∉ a) (e : (bodyOf t).data.toList = a ++ 124 :: b) : rdU t = partU a b := by
 unfold rdU; rw [h, e, cut_hit h2]; rfl
theorem rdU_two {t : BA} {a b : List UInt8} (h : opensB t = true) (e : cutL 124 (bodyOf t).data.toList = [a, b]) : rdU t = partU a b := by
 obtain ⟨a', b', h1, h2, h3, _⟩ := cutL_two (c := 124) (s := (bodyOf t).data.toList) (by rw [e]; rfl)
 rw [e] at h1
 injection h1 with e1 h1
 injection h1 with e2 _
 subst e1 e2
 exact rdU_hit h h3 h2
theorem rdU_more {t : BA} (h : (cutL 124 (bodyOf t).data.toList).length ≠ 2) : rdU t = none := by
 cases ho : opensB t with
 | false => exact rdU_shut ho
 | true =>
   rcases part_at 124 (bodyOf t).data.toList with h1 | ⟨a, b, h1, e⟩
   · exact rdU_miss h1
   · rw [rdU_hit ho h1 e]
     refine partU_bar ?_
     by_cases hb : (124 : UInt8) ∈ b
     · exact hb
     · exact absurd (by rw [e, cutL_hit 124 a b h1, cutL_miss 124 b hb]; rfl) h
theorem rdU_super {t : BA} {g b p q : Int} {xs : List Int} {ms : List Mrk} (e : rdU t = some (g, b, p, q, xs, ms)) : superB g b p q xs ms = true := by
 unfold rdU at e
 split at e
 · exact partU_super e
 · cases e
def zU : U6 := (0, 0, 0, 0, [], [])
def suA (t : BA) : U6 := if t.size ≤ 65536 then (rdU t).getD zU else zU
def suC (t : BA) : Int := if t.size ≤ 65536 then (if (rdU t).isSome then 0 else 3) else 2
theorem suA_long {t : BA} (h : ¬ t.size ≤ 65536) : suA t = zU ∧ suC t = 2 := by unfold suA suC; rw [if_neg h, if_neg h]; exact ⟨rfl, rfl⟩
theorem suA_none {t : BA} (h : t.size ≤ 65536) (hr : rdU t = none) : suA t = zU ∧ suC t = 3 := by unfold suA suC; rw [if_pos h, if_pos h, hr]; exact ⟨rfl, rfl⟩
theorem suA_some {t : BA} {q : U6} (h : t.size ≤ 65536) (hr : rdU t = some q) : suA t = q ∧ suC t = 0 := by unfold suA suC; rw [if_pos h, if_pos h, hr]; exact ⟨rfl, rfl⟩
theorem bl_asym : ∀ a b : List UInt8, Op.bytesLess a b = true → Op.bytesLess b a = false
 | _, [], h => by simp [Op.bytesLess] at h
 | [], _ :: _, _ => by simp [Op.bytesLess]
 | x :: a, y :: b, h => by
   simp only [Op.bytesLess, Bool.or_eq_true, Bool.and_eq_true, decide_eq_true_eq, beq_iff_eq] at h
   simp only [Op.bytesLess, Bool.or_eq_false_iff, Bool.and_eq_false_iff, decide_eq_false_iff_not, beq_eq_false_iff_ne]
   rcases h with h | ⟨rfl, h⟩
   · have h' : x.toNat < y.toNat := h
     refine ⟨fun h2 => ?_, .inl fun e => ?_⟩
     · have h2' : y.toNat < x.toNat := h2
       omega
     · subst e; omega
   · refine ⟨fun h2 => ?_, .inr (bl_asym a b h)⟩
     have h2' : x.toNat < x.toNat := h2
     omega
theorem bl_irr : ∀ a : List UInt8, Op.bytesLess a a = false
 | [] => by simp [Op.bytesLess]
 | x :: a => by
   simp only [Op.bytesLess, Bool.or_eq_false_iff, Bool.and_eq_false_iff, decide_eq_false_iff_not]
   refine ⟨fun h2 => ?_, .inr (bl_irr a)⟩
   have h2' : x.toNat < x.toNat := h2
   omega
theorem bl_ne (a b : List UInt8) (h : Op.bytesLess a b = true) : (b == a) = false := by
 rw [beq_eq_false_iff_ne]
 rintro rfl
 rw [bl_irr] at h
 cases h
theorem bl_total : ∀ a b : List UInt8, Op.bytesLess a b = false → (Op.bytesLess b a || b == a) = true
 | [], [], _ => by simp
 | _ :: _, [], _ => by simp [Op.bytesLess]
 | [], _ :: _, h => by simp [Op.bytesLess] at h
 | x :: a, y :: b, h => by
   simp only [Op.bytesLess, Bool.or_eq_false_iff, Bool.and_eq_false_iff, decide_eq_false_iff_not, beq_eq_false_iff_ne] at h
   obtain ⟨h1, h2⟩ := h
   have h1' : ¬ x.toNat < y.toNat := h1
   by_cases e : x = y
   · subst e
     have h3 := bl_total a b (by rcases h2 with h2 | h2; exact absurd rfl h2; exact h2)
     simp only [Op.bytesLess, Bool.or_eq_true, Bool.and_eq_true, decide_eq_true_eq, beq_iff_eq, List.cons.injEq, true_and] at h3 ⊢
     rcases h3 with h3 | h3
     · exact .inl (.inr h3)
     · exact .inr h3
   · have hne : x.toNat ≠ y.toNat := fun h => e (UInt8.toNat_inj.1 h)
     have h4 : y < x := (show y.toNat < x.toNat by omega)
     simp [Op.bytesLess, h4]
theorem isTable_c (A : Option Addr) (c B : Nat) (xs : List Int) (w : World) (h : Ins w B A xs) (hn : xs.length ≤ 1048576) (hc : xs.length ≤ c) :
 Calls Tryz.prog 101 #[.slice A xs.length c] w fun e w' => e = .returned (.bool (tbB xs)) ∧ w = w' := by
 by_cases hl : xs.length ≤ 20
 case neg =>
  have hd : decide (20 < (xs.length : Int)) = true := by simp; omega
  have HR := qh (tbB_len (xs := xs) (by omega)).symm
  go_enter Tryz.func101, Tryz.ntmps101
  go_wp2
  go_ret
  exact ⟨ret_bool HR.out, rfl⟩
 have hd : decide (20 < (xs.length : Int)) = false := by simp; omega
 go_enter Tryz.func101, Tryz.ntmps101
 go_wp2
 go_loop [10] (fun i => ∃ k : Nat, k ≤ xs.length ∧ i = ii k ∧ TbTo xs k) (fun i => xs.length - (intOf i).toNat)
 case atStart => exact ⟨0, Nat.zero_le _, rfl, TbTo.zero _⟩
 case round =>
  obtain ⟨k, hk, rfl, hto⟩ := hrel
  by_cases hlt : k < xs.length
  · obtain ⟨bb, off, rfl, hb, k0⟩ := h.at_ hlt
    obtain ⟨q, Hq⟩ : ∃ q, Hid (xs.getD k 0 = q) := ⟨_, rfl⟩
    rw [Hq.out] at k0
    have hkc : (k : Int) ≤ (c : Int) := by omega
    cases hin : inB 10 63 q with
    | false =>
      have HC := qh hin
      have HR := qh (tbB_no hlt (by unfold tbOk; rw [Hq.out, hin]; rfl)).symm
      clear hin
      go_wp2_with (go_at_call 99; refine (isWithin_c _ _ _ _).mono ?_; rintro e w' ⟨rfl, rfl⟩; rw [HC.out])
      go_ret
      exact ⟨ret_bool HR.out, rfl⟩
    | true =>
      have HC := qh hin
      clear hin
      cases hh : hasB xs k q with
      | true =>
        have HX := qh hh
        have HR := qh (tbB_no hlt (by unfold tbOk; rw [Hq.out, hh]; simp)).symm
        clear hh
        go_wp2_with (first | (go_at_call 99; refine (isWithin_c _ _ _ _).mono ?_; rintro e w' ⟨rfl, rfl⟩; rw [HC.out]) | (go_at_call 132; refine (contains_c (some ⟨bb, off, none⟩) k c B xs q _ h (by omega) hn).mono ?_; rintro e w' ⟨rfl, rfl⟩; rw [HX.out]))
        go_ret
        exact ⟨ret_bool HR.out, rfl⟩
      | false =>
        have HX := qh hh
        have HT := qh (hto.succ (by unfold tbOk; rw [Hq.out, HC.out, hh]; rfl))
        clear hh
        go_wp2_with (first | (go_at_call 99; refine (isWithin_c _ _ _ _).mono ?_; rintro e w' ⟨rfl, rfl⟩; rw [HC.out]) | (go_at_call 132; refine (contains_c (some ⟨bb, off, none⟩) k c B xs q _ h (by omega) hn).mono ?_; rintro e w' ⟨rfl, rfl⟩; rw [HX.out]))
        go_round
        case rel => exact ⟨k + 1, by omega, by go_num, HT.out⟩
        case measure => simp [intOf]; omega
  · obtain rfl : k = xs.length := by omega
    have HR := qh (tbB_mk hl hto).symm
    go_wp2
    go_ret
    exact ⟨ret_bool HR.out, rfl⟩
theorem areMarks_c (A2 : Option Addr) (c2 B : Nat) (ms : List Mrk) (w : World) (h2 : Mks w B A2 ms) (hB : B ≤ w.heap.size) (hn : ms.length ≤ 1048576) (hm : AllM ms) :
 Calls Tryz.prog 102 #[.slice A2 ms.length c2] w fun e w' => e = .returned (.bool (msB ms)) ∧ Nx w w' := by
 by_cases hl : ms.length ≤ 4
 case neg =>
  have hd : decide (4 < (ms.length : Int)) = true := by simp; omega
  have HR := qh (msB_len (ms := ms) (by omega)).symm
  go_enter Tryz.func102, Tryz.ntmps102
  go_wp2
  go_ret
  exact ⟨ret_bool HR.out, Nx.refl _⟩
 have hd : decide (4 < (ms.length : Int)) = false := by simp; omega
 go_enter Tryz.func102, Tryz.ntmps102
 go_wp2
 go_loopw [10] (fun i wr => ∃ k : Nat, k ≤ ms.length ∧ i = ii k ∧ MkTo ms k ∧ Nx w wr) (fun i _ => ms.length - (intOf i).toNat)
 case atStart => exact ⟨0, Nat.zero_le _, rfl, MkTo.zero _, Nx.refl _⟩
 case round =>
  obtain ⟨k, hk, rfl, hto, hnx⟩ := hrel
  by_cases hlt : k < ms.length
  · obtain ⟨bb, off, rfl, hb, k0, k1⟩ := (h2.below hnx hB).at_ hlt
    have hsz := hm k
    obtain ⟨⟨q0, q1⟩, Hq⟩ : ∃ q, Hid (ms.getD k mrZ = q) := ⟨_, rfl⟩
    rw [Hq.out] at k0 k1 hsz
    go_wp2_with fail
    have bq := Box.new wr 136 #[.string q0, ii q1]
    have hnxq := hnx.alloc (.cells #[.string q0, ii q1] 136)
    have hMq := h2.below hnxq hB
    generalize wr.alloc (.cells #[.string q0, ii q1] 136) = wq at *
    clear k0 k1
    have k0 := bq.c0
    have k1 := bq.c1
    cases hnm : nmB q0 with
    | false =>
      have HN := qh hnm
      have HR := qh (msB_no hlt (by unfold okMk mkB; rw [Hq.out]; simp [hnm])).symm
      clear hnm
      refine wp_lexA [ff, ff, true, ff, ff, ff, ff, ff, ff, ff, ff, ff, ff, ff, ff, ff, ff, ff, ff, ff, ff, ff, ff, ff, ff] (fun w' => w'.cell? ⟨wr.heap.size, 0, none⟩ = some (.string q0) ∧ w'.cell? ⟨wr.heap.size, 1, none⟩ = some (ii q1)) (by exact ⟨k0, k1⟩) ?_
      repeat ((first | refine HL.tk ?_ | refine HL.sk ?_); try simp only [Act.put, qqA, qqB, qqC])
      refine hLc fun K hK => ?_
      go_simp
      refine (isMarkName_c q0 _ hsz).mono ?_; rintro e w' ⟨rfl, rfl⟩; rw [HN.out]
      go_wp2_with fail
      refine hK.out _ _ (by exact ⟨k0, k1⟩) ?_
      clear hK K
      try simp only [Act.put, qqA, qqB, qqC]
      repeat ((first | refine HL.tk ?_ | refine HL.sk ?_); try simp only [Act.put, qqA, qqB, qqC])
      refine HL.done ?_
      go_wp2
      go_ret
      exact ⟨ret_bool HR.out, hnxq.drew⟩
    | true =>
      have HN := qh hnm
      clear hnm
      cases hps : inB 0 999999 q1 with
      | false =>
        have HP := qh hps
        have HR := qh (msB_no hlt (by unfold okMk mkB; rw [Hq.out]; simp [hps])).symm
        clear hps
        refine wp_lexA [ff, ff, true, ff, ff, ff, ff, true, ff, ff, ff, ff, ff, ff, ff, ff, ff, ff, ff, ff, ff, ff, ff, ff, ff] (fun w' => w'.cell? ⟨wr.heap.size, 0, none⟩ = some (.string q0) ∧ w'.cell? ⟨wr.heap.size, 1, none⟩ = some (ii q1)) (by exact ⟨k0, k1⟩) ?_
        repeat ((first | refine HL.tk ?_ | refine HL.sk ?_); try simp only [Act.put, qqA, qqB, qqC])
        refine hLc fun K hK => ?_
        go_simp
        refine (isMarkName_c q0 _ hsz).mono ?_; rintro e w' ⟨rfl, rfl⟩; rw [HN.out]
        go_wp2_with fail
        refine hK.out _ _ (by exact ⟨k0, k1⟩) ?_
        clear hK K
        try simp only [Act.put, qqA, qqB, qqC]
        repeat ((first | refine HL.tk ?_ | refine HL.sk ?_); try simp only [Act.put, qqA, qqB, qqC])
        refine hLc fun K hK => ?_
        go_simp
        refine (isPosition_c q1 _).mono ?_; rintro e w' ⟨rfl, rfl⟩; rw [HP.out]
        go_wp2_with fail
        refine hK.out _ _ (by exact ⟨k0, k1⟩) ?_
        clear hK K
        try simp only [Act.put, qqA, qqB, qqC]
        repeat ((first | refine HL.tk ?_ | refine HL.sk ?_); try simp only [Act.put, qqA, qqB, qqC])
        refine HL.done ?_
        go_wp2
        go_ret
        exact ⟨ret_bool HR.out, hnxq.drew⟩
      | true =>
        have HP := qh hps
        clear hps
        by_cases hk0 : k = 0
        · have hd0 : decide (0 < (k : Int)) = false := by simp; omega
          have hd1 : decide (0 < k) = false := by simp; omega
          have HO := qh (hto.succ (by unfold okMk mkB; rw [Hq.out, HN.out, HP.out, hk0]; rfl))
          clear hk0
          refine wp_lexA [ff, ff, true, ff, ff, ff, ff, true, ff, ff, ff, ff, ff, ff, ff, ff, ff, ff, ff, ff, ff, ff, ff, ff, ff] (fun w' => w'.cell? ⟨wr.heap.size, 0, none⟩ = some (.string q0) ∧ w'.cell? ⟨wr.heap.size, 1, none⟩ = some (ii q1)) (by exact ⟨k0, k1⟩) ?_
          repeat ((first | refine HL.tk ?_ | refine HL.sk ?_); try simp only [Act.put, qqA, qqB, qqC])
          refine hLc fun K hK => ?_
          go_simp
          refine (isMarkName_c q0 _ hsz).mono ?_; rintro e w' ⟨rfl, rfl⟩; rw [HN.out]
          go_wp2_with fail
          refine hK.out _ _ (by exact ⟨k0, k1⟩) ?_
          clear hK K
          try simp only [Act.put, qqA, qqB, qqC]
          repeat ((first | refine HL.tk ?_ | refine HL.sk ?_); try simp only [Act.put, qqA, qqB, qqC])
          refine hLc fun K hK => ?_
          go_simp
          refine (isPosition_c q1 _).mono ?_; rintro e w' ⟨rfl, rfl⟩; rw [HP.out]
          go_wp2_with fail
          refine hK.out _ _ (by exact ⟨k0, k1⟩) ?_
          clear hK K
          try simp only [Act.put, qqA, qqB, qqC]
          repeat ((first | refine HL.tk ?_ | refine HL.sk ?_); try simp only [Act.put, qqA, qqB, qqC])
          refine HL.done ?_
          go_wp2
          go_roundw
          case rel => exact ⟨k + 1, by omega, by go_num, HO.out, hnxq.drew⟩
          case measure => simp [intOf]; omega
        · obtain ⟨j, rfl⟩ : ∃ j, k = j + 1 := ⟨k - 1, by omega⟩
          obtain ⟨b', off', he, _, m0, _⟩ := hMq.at_ (k := j) (by omega)
          obtain ⟨rfl, rfl⟩ : bb = b' ∧ off = off' := by simpa using he
          clear he
          obtain ⟨⟨r0, r1⟩, Hr⟩ : ∃ q, Hid (ms.getD j mrZ = q) := ⟨_, rfl⟩
          rw [Hr.out] at m0
          have hd0 : decide (0 < ((j : Int) + 1)) = true := by simp
          have hd1 : decide (0 < j + 1) = true := by simp
          have hi1 : (0 : Int) ≤ (j : Int) + 1 := by omega
          have hi2 : (j : Int) + 1 < (ms.length : Int) := by omega
          have hi4 : (j : Int) < (ms.length : Int) := by omega
          have hi5 : j < ms.length := by omega
          have hi3 : ((j : Int) + 1).toNat = j + 1 := by omega
          have hw1 : IntKind.i64.wrap ((j : Int) + 1 - 1) = (j : Int) := by rw [Int.add_sub_cancel]; exact IntWalk.i64_in _ (by omega)
          have hw2 : IntKind.i64.wrap (j : Int) = (j : Int) := IntWalk.i64_in _ (by omega)
          have hi6 : (0 : Int) ≤ (j : Int) := by omega
          cases hlt2 : Op.bytesLess r0.toList q0.toList with
          | true =>
            have HO := qh (hto.succ (by unfold okMk mkB; rw [Hq.out, HN.out, HP.out, Nat.add_sub_cancel, Hr.out, hlt2]; simp))
            have hg1 : Op.bytesLess q0.toList r0.toList = false := bl_asym _ _ hlt2
            have hg2 : (q0.toList == r0.toList) = false := bl_ne _ _ hlt2
            clear hlt2
            refine wp_lexA [ff, ff, true, ff, ff, ff, ff, true, ff, ff, ff, ff, ff, ff, ff, ff, ff, ff, ff, ff, ff, ff, ff, ff, ff] (fun w' => w'.cell? ⟨wr.heap.size, 0, none⟩ = some (.string q0) ∧ w'.cell? ⟨wr.heap.size, 1, none⟩ = some (ii q1) ∧ w'.cell? ⟨bb, off + j * 2, none⟩ = some (.string r0)) (by exact ⟨k0, k1, m0⟩) ?_
            repeat ((first | refine HL.tk ?_ | refine HL.sk ?_); try simp only [Act.put, qqA, qqB, qqC])
            refine hLc fun K hK => ?_
            go_simp
            refine (isMarkName_c q0 _ hsz).mono ?_; rintro e w' ⟨rfl, rfl⟩; rw [HN.out]
            go_wp2_with fail
            refine hK.out _ _ (by exact ⟨k0, k1, m0⟩) ?_
            clear hK K
            try simp only [Act.put, qqA, qqB, qqC]
            repeat ((first | refine HL.tk ?_ | refine HL.sk ?_); try simp only [Act.put, qqA, qqB, qqC])
            refine hLc fun K hK => ?_
            go_simp
            refine (isPosition_c q1 _).mono ?_; rintro e w' ⟨rfl, rfl⟩; rw [HP.out]
            go_wp2_with fail
            refine hK.out _ _ (by exact ⟨k0, k1, m0⟩) ?_
            clear hK K
            try simp only [Act.put, qqA, qqB, qqC]
            repeat ((first | refine HL.tk ?_ | refine HL.sk ?_); try simp only [Act.put, qqA, qqB, qqC])
            refine HL.done ?_
            clear hw1 hw2 hi6 hi1 hi2 hi3 hi4 hi5
            go_wp2
            go_roundw
            case rel => exact ⟨j + 1 + 1, by omega, by go_num, HO.out, hnxq.drew⟩
            case measure => simp [intOf]; omega
          | false =>
            have HR := qh (msB_no hlt (by unfold okMk mkB; rw [Hq.out]; rw [Nat.add_sub_cancel, Hr.out, hlt2]; simp)).symm
            have hg : (Op.bytesLess q0.toList r0.toList || q0.toList == r0.toList) = true := bl_total _ _ hlt2
            clear hlt2
            cases hg1 : Op.bytesLess q0.toList r0.toList with
            | true =>
              clear hg
              refine wp_lexA [ff, ff, true, ff, ff, ff, ff, true, ff, ff, ff, ff, ff, ff, ff, ff, ff, ff, ff, ff, ff, ff, ff, ff, ff] (fun w' => w'.cell? ⟨wr.heap.size, 0, none⟩ = some (.string q0) ∧ w'.cell? ⟨wr.heap.size, 1, none⟩ = some (ii q1) ∧ w'.cell? ⟨bb, off + j * 2, none⟩ = some (.string r0)) (by exact ⟨k0, k1, m0⟩) ?_
              repeat ((first | refine HL.tk ?_ | refine HL.sk ?_); try simp only [Act.put, qqA, qqB, qqC])
              refine hLc fun K hK => ?_
              go_simp
              refine (isMarkName_c q0 _ hsz).mono ?_; rintro e w' ⟨rfl, rfl⟩; rw [HN.out]
              go_wp2_with fail
              refine hK.out _ _ (by exact ⟨k0, k1, m0⟩) ?_
              clear hK K
              try simp only [Act.put, qqA, qqB, qqC]
              repeat ((first | refine HL.tk ?_ | refine HL.sk ?_); try simp only [Act.put, qqA, qqB, qqC])
              refine hLc fun K hK => ?_
              go_simp
              refine (isPosition_c q1 _).mono ?_; rintro e w' ⟨rfl, rfl⟩; rw [HP.out]
              go_wp2_with fail
              refine hK.out _ _ (by exact ⟨k0, k1, m0⟩) ?_
              clear hK K
              try simp only [Act.put, qqA, qqB, qqC]
              repeat ((first | refine HL.tk ?_ | refine HL.sk ?_); try simp only [Act.put, qqA, qqB, qqC])
              refine HL.done ?_
              clear hw1 hw2 hi6 hi1 hi2 hi3 hi4 hi5
              go_wp2
              go_ret
              exact ⟨ret_bool HR.out, hnxq.drew⟩
            | false =>
              rw [hg1, Bool.false_or] at hg
              refine wp_lexA [ff, ff, true, ff, ff, ff, ff, true, ff, ff, ff, ff, ff, ff, ff, ff, ff, ff, ff, ff, ff, ff, ff, ff, ff] (fun w' => w'.cell? ⟨wr.heap.size, 0, none⟩ = some (.string q0) ∧ w'.cell? ⟨wr.heap.size, 1, none⟩ = some (ii q1) ∧ w'.cell? ⟨bb, off + j * 2, none⟩ = some (.string r0)) (by exact ⟨k0, k1, m0⟩) ?_
              repeat ((first | refine HL.tk ?_ | refine HL.sk ?_); try simp only [Act.put, qqA, qqB, qqC])
              refine hLc fun K hK => ?_
              go_simp
              refine (isMarkName_c q0 _ hsz).mono ?_; rintro e w' ⟨rfl, rfl⟩; rw [HN.out]
              go_wp2_with fail
              refine hK.out _ _ (by exact ⟨k0, k1, m0⟩) ?_
              clear hK K
              try simp only [Act.put, qqA, qqB, qqC]
              repeat ((first | refine HL.tk ?_ | refine HL.sk ?_); try simp only [Act.put, qqA, qqB, qqC])
              refine hLc fun K hK => ?_
              go_simp
              refine (isPosition_c q1 _).mono ?_; rintro e w' ⟨rfl, rfl⟩; rw [HP.out]
              go_wp2_with fail
              refine hK.out _ _ (by exact ⟨k0, k1, m0⟩) ?_
              clear hK K
              try simp only [Act.put, qqA, qqB, qqC]
              repeat ((first | refine HL.tk ?_ | refine HL.sk ?_); try simp only [Act.put, qqA, qqB, qqC])
              refine HL.done ?_
              clear hw1 hw2 hi6 hi1 hi2 hi3 hi4 hi5
              go_wp2
              go_ret
              exact ⟨ret_bool HR.out, hnxq.drew⟩
  · obtain rfl : k = ms.length := by omega
    have HR := qh (msB_mk hl hto).symm
    go_wp2
    go_ret
    exact ⟨ret_bool HR.out, hnx⟩
theorem superRight_c (g b p t : Int) (A A2 : Option Addr) (c c2 B : Nat) (xs : List Int) (ms : List Mrk) (w : World) (h : Ins w B A xs) (h2 : Mks w B A2 ms) (hB : B ≤ w.heap.size) (hn : xs.length ≤ 1048576) (hn2 : ms.length ≤ 1048576) (hc : xs.length ≤ c) (hm : AllM ms) :
 Calls Tryz.prog 44 #[.agg #[ii g, ii b, ii p, ii t, .slice A xs.length c, .slice A2 ms.length c2]] w fun e w' => e = .returned (.bool (superB g b p t xs ms)) ∧ Nx w w' := by
 cases x0 : inB 1 999999 g with
 | false =>
   have H0 := qh x0
   clear x0
   have HR := qh (superB_no (g := g) (b := b) (p := p) (t := t) (xs := xs) (ms := ms) (by simp [H0.out])).symm
   go_enter Tryz.func44, Tryz.ntmps44
   go_wp2_with (first | (go_at_call 99; refine (isWithin_c _ _ _ _).mono ?_; rintro e w' ⟨rfl, rfl⟩; first | rw [H0.out]))
   go_ret
   exact ⟨ret_bool HR.out, (Nx.refl _).alloc _⟩
 | true =>
 have H0 := qh x0
 clear x0
 cases x1 : inB 0 999999 b with
 | false =>
   have H1 := qh x1
   clear x1
   have HR := qh (superB_no (g := g) (b := b) (p := p) (t := t) (xs := xs) (ms := ms) (by simp [H1.out])).symm
   go_enter Tryz.func44, Tryz.ntmps44
   go_wp2_with (first | (go_at_call 99; refine (isWithin_c _ _ _ _).mono ?_; rintro e w' ⟨rfl, rfl⟩; first | rw [H0.out]) | (go_at_call 100; refine (isPosition_c _ _).mono ?_; rintro e w' ⟨rfl, rfl⟩; rw [H1.out]))
   go_ret
   exact ⟨ret_bool HR.out, (Nx.refl _).alloc _⟩
 | true =>
 have H1 := qh x1
 clear x1
 cases x2 : inB b 999999 p with
 | false =>
   have H2 := qh x2
   clear x2
   have HR := qh (superB_no (g := g) (b := b) (p := p) (t := t) (xs := xs) (ms := ms) (by simp [H2.out])).symm
   go_enter Tryz.func44, Tryz.ntmps44
   go_wp2_with (first | (go_at_call 99; refine (isWithin_c _ _ _ _).mono ?_; rintro e w' ⟨rfl, rfl⟩; first | rw [H0.out] | rw [H2.out]) | (go_at_call 100; refine (isPosition_c _ _).mono ?_; rintro e w' ⟨rfl, rfl⟩; rw [H1.out]))
   go_ret
   exact ⟨ret_bool HR.out, (Nx.refl _).alloc _⟩
 | true =>
 have H2 := qh x2
 clear x2
 cases x3 : inB b 999999 t with
 | false =>
   have H3 := qh x3
   clear x3
   have HR := qh (superB_no (g := g) (b := b) (p := p) (t := t) (xs := xs) (ms := ms) (by simp [H3.out])).symm
   go_enter Tryz.func44, Tryz.ntmps44
   go_wp2_with (first | (go_at_call 99; refine (isWithin_c _ _ _ _).mono ?_; rintro e w' ⟨rfl, rfl⟩; first | rw [H0.out] | rw [H2.out] | rw [H3.out]) | (go_at_call 100; refine (isPosition_c _ _).mono ?_; rintro e w' ⟨rfl, rfl⟩; rw [H1.out]))
   go_ret
   exact ⟨ret_bool HR.out, (Nx.refl _).alloc _⟩
 | true =>
 have H3 := qh x3
 clear x3
 cases x4 : tbB xs with
 | false =>
   have H4 := qh x4
   clear x4
   have HR := qh (superB_no (g := g) (b := b) (p := p) (t := t) (xs := xs) (ms := ms) (by simp [H4.out])).symm
   go_enter Tryz.func44, Tryz.ntmps44
   go_wp2_with (first | (go_at_call 99; refine (isWithin_c _ _ _ _).mono ?_; rintro e w' ⟨rfl, rfl⟩; first | rw [H0.out] | rw [H2.out] | rw [H3.out]) | (go_at_call 100; refine (isPosition_c _ _).mono ?_; rintro e w' ⟨rfl, rfl⟩; rw [H1.out]) | (go_at_call 101; refine (isTable_c A c B xs _ (h.below ((Nx.refl w).alloc _) hB) hn hc).mono ?_; rintro e w' ⟨rfl, rfl⟩; rw [H4.out]))
   go_ret
   exact ⟨ret_bool HR.out, (Nx.refl _).alloc _⟩
 | true =>
 have H4 := qh x4
 clear x4
 have HR := qh (show msB ms = superB g b p t xs ms by unfold superB; rw [H0.out, H1.out, H2.out, H3.out, H4.out]; rfl)
 go_enter Tryz.func44, Tryz.ntmps44
 go_wp2_with (first | (go_at_call 99; refine (isWithin_c _ _ _ _).mono ?_; rintro e w' ⟨rfl, rfl⟩; first | rw [H0.out] | rw [H2.out] | rw [H3.out]) | (go_at_call 100; refine (isPosition_c _ _).mono ?_; rintro e w' ⟨rfl, rfl⟩; rw [H1.out]) | (go_at_call 101; refine (isTable_c A c B xs _ (h.below ((Nx.refl w).alloc _) hB) hn hc).mono ?_; rintro e w' ⟨rfl, rfl⟩; rw [H4.out]))
 have hx0 := (Nx.refl w).alloc (.cells #[ii g, ii b, ii p, ii t, .slice A xs.length c, .slice A2 ms.length c2] 26)
 refine (areMarks_c A2 c2 B ms _ (h2.below hx0 hB) (ntr hB hx0.size) hn2 hm).mono ?_
 rintro e w1 ⟨rfl, hnx1⟩
 go_wp2
 go_ret
 exact ⟨ret_bool HR.out, hx0.trans hnx1⟩
theorem implSuperOK_c (g b p t : Int) (A A2 : Option Addr) (c c2 B : Nat) (xs : List Int) (ms : List Mrk) (w : World) (h : Ins w B A xs) (h2 : Mks w B A2 ms) (hB : B ≤ w.heap.size) (hn : xs.length ≤ 1048576) (hn2 : ms.length ≤ 1048576) (hc : xs.length ≤ c) (hm : AllM ms) :
 Calls Tryz.prog 17 #[.agg #[ii g, ii b, ii p, ii t, .slice A xs.length c, .slice A2 ms.length c2]] w fun e w' => e = .returned (.bool (superB g b p t xs ms)) ∧ Nx w w' := by
 have hx0 := (Nx.refl w).alloc (.cells #[ii g, ii b, ii p, ii t, .slice A xs.length c, .slice A2 ms.length c2] 26)
 go_enter Tryz.func17, Tryz.ntmps17
 go_wp2_with fail
 refine (superRight_c g b p t A A2 c c2 B xs ms _ (h.below hx0 hB) (h2.below hx0 hB) (ntr hB hx0.size) hn hn2 hc hm).mono ?_
 rintro e w1 ⟨rfl, hnx⟩
 go_wp2
 go_ret
 exact ⟨rfl, hx0.trans hnx⟩
end Go.Proofs.YtieoiailjjnnoaaGreatDoor
