/-
  Texts of the proof, put together in their order: Nmo, Nms, Opn, Rdf, Lex, Rff.
  Conditions: those of each.
-/
import Derived.Test.YtehahodomfbpjaaDoorMc2
import Derived.Deep.RegionHeld3
/- Contracts of the program's numbersOf and of the model's l02Numbers: the numbers of a text of digits. Conditions: texts of at most 65536 bytes; the package's errors are known. -/
namespace Go.Proofs.YtehahodomfbpjaaDoor
set_option linter.unusedVariables false
set_option maxRecDepth 100000
open Go.RowKit

def chunk (l : List UInt8) (j : Nat) : List UInt8 := (l.drop (6 * j)).take 6
def numsOf (l : List UInt8) (k : Nat) : List Nat := (List.range k).map fun j => valL (chunk l j)
theorem numsOf_len (l : List UInt8) (k : Nat) : (numsOf l k).length = k := by simp [numsOf]
theorem numsOf_succ (l : List UInt8) (k : Nat) : numsOf l (k + 1) = numsOf l k ++ [valL (chunk l k)] := by simp [numsOf, List.range_succ]
/-- The numbers of a text, if it is one of numbers. -/
def numsO (l : List UInt8) : Option (List Nat) := if l.length % 6 = 0 ∧ digL l = true then some (numsOf l (l.length / 6)) else none
theorem numsO_yes {l : List UInt8} (h1 : l.length % 6 = 0) (h2 : digL l = true) : numsO l = some (numsOf l (l.length / 6)) := by unfold numsO; rw [if_pos ⟨h1, h2⟩]
theorem numsO_no {l : List UInt8} (h : l.length % 6 ≠ 0 ∨ digL l = false) : numsO l = none := by
  unfold numsO; rw [if_neg]; rintro ⟨h1, h2⟩
  rcases h with h | h
  · exact h h1
  · rw [h] at h2; cases h2
theorem chunk_all {l : List UInt8} (h : digL l = true) (j : Nat) : digL (chunk l j) = true := by
  unfold digL at *
  rw [List.all_eq_true] at *
  exact fun x hx => h x (List.mem_of_mem_drop (List.mem_of_mem_take hx))
theorem chunk_no {l : List UInt8} {j : Nat} (h : digL (chunk l j) = false) : digL l = false := by
  cases h2 : digL l with
  | false => rfl
  | true => rw [chunk_all h2 j] at h; cases h
def RetNums (w : World) (o : Option (List Nat)) (a0 : Addr) (e : Ending) (w' : World) : Prop :=
  Nx w w' ∧ (o = none → e = .returned (.tuple #[.slice none 0 0, .iface 152 (.pointer (some a0))])) ∧
  ∀ ns, o = some ns → ∃ A c, e = .returned (.tuple #[.slice A ns.length c, .nilIface]) ∧ Row w' w'.heap.size A ns.length (intAt ns) ∧ ns.length ≤ c
theorem RetNums.no {w w' : World} {o : Option (List Nat)} {a0 : Addr} (h : o = none) (hn : Nx w w') : RetNums w o a0 (.returned (.tuple #[.slice none 0 0, .iface 152 (.pointer (some a0))])) w' :=
  ⟨hn, fun _ => rfl, fun ns h2 => by rw [h] at h2; cases h2⟩
theorem RetNums.yes {w w' : World} {o : Option (List Nat)} {a0 : Addr} {ns : List Nat} {A : Option Addr} {c : Nat} (h : o = some ns) (hr : Row w' w'.heap.size A ns.length (intAt ns)) (hc : ns.length ≤ c) (hn : Nx w w') : RetNums w o a0 (.returned (.tuple #[.slice A ns.length c, .nilIface])) w' :=
  ⟨hn, (fun h2 => by rw [h] at h2; cases h2), fun ns' h2 => by rw [h] at h2; injection h2 with h2; subst h2; exact ⟨A, c, rfl, hr, hc⟩⟩
theorem owns_row0 {w : World} {B : Nat} {ns : List Nat} {v : Value} (h : w.ownsRow B 3 1 v ns.length (ns.map vI)) :
    ∃ A c, v = .slice A ns.length c ∧ Row w w.heap.size A ns.length (intAt ns) ∧ ns.length ≤ c := by
  rcases Nat.eq_zero_or_pos ns.length with h0 | hp
  · rcases h.2 with ⟨rfl, _⟩ | ⟨g, cap, cur, rfl, _⟩
    · exact ⟨none, 0, by rw [h0], (fun hn => by omega), by omega⟩
    · exact ⟨_, cap, rfl, (fun hn => by omega), by omega⟩
  · obtain ⟨A, c, e, hr⟩ := owns_row h hp
    refine ⟨A, c, e, hr, ?_⟩
    rcases h.2 with ⟨rfl, _⟩ | ⟨g, cap, cur, rfl, _, _, hnc, _⟩
    · injection e with _ e2 e3
      omega
    · injection e with _ e2 e3
      omega
theorem Own.new1 (w : World) (t : TypeId) (a : Value) : Own (w.alloc (.cells #[a] t)) w.heap.size t 1 (fun _ => a) :=
  ⟨_, heap_alloc_new w _, by simp, fun i hi => by obtain rfl : i = 0 := by omega
                                                  rfl⟩
theorem news1 (w : World) (t : TypeId) (x : Value) : ∀ j u, [x][j]? = some u → (w.alloc (.cells #[x] t)).cell? ((Addr.mk w.heap.size 0 none).add j) = some u := fun j u hj => by
  rcases j with _ | j
  · injection hj with hj; subst hj; exact ((Own.new1 w t x).cell (i := 0) (by omega))
  · simp at hj

set_option maxRecDepth 100000 in
set_option maxHeartbeats 2000000 in
theorem numbersOf_c (s : ByteArray) (w : World) (a0 a1 : Addr) (hs : s.size ≤ 65536) (hE : Er w a0 a1) :
    Calls Tryd.prog 87 #[.string s] w (RetNums w (numsO s.data.toList) a0) := by
  obtain ⟨i0, hi0, hz0, hz1, hz2⟩ := info_parts info_int
  by_cases h6 : s.size % 6 = 0
  case neg =>
    have hne : ((s.size : Int) % 6 != 0) = true := by rw [bne_iff_ne]; omega
    have HN := Lib.hid (numsO_no (l := s.data.toList) (.inl (by rw [← ba_size]; exact h6)))
    obtain ⟨c0, _⟩ := hE
    go_enter Tryd.func87, Tryd.ntmps87
    go_wp2
    go_quiet (fail)
    go_wp2
    go_ret2
    exact RetNums.no HN.out ((Nx.refl _).drewN _)
  have hne : ((s.size : Int) % 6 != 0) = false := by rw [bne_eq_false_iff_eq]; omega
  obtain ⟨N, hN⟩ : ∃ N, s.size = 6 * N := ⟨s.size / 6, by omega⟩
  have HN := Lib.hid hN
  clear hN h6
  go_enter Tryd.func87, Tryd.ntmps87
  go_wp2
  go_loopw [4, 5] (fun z i wr => ∃ (k p : Nat) (v : Value), p ≤ s.size ∧ Hid (p = 6 * k) ∧ i = .int .i64 p ∧ v = z ∧ wr.ownsRow w.heap.size 3 1 v k ((numsOf s.data.toList k).map vI) ∧ Hid (∀ j, j < k → digL (chunk s.data.toList j) = true) ∧ Nx w wr) (fun _ i _ => s.size - (intOf i).toNat)
  case atStart => exact ⟨0, 0, _, Nat.zero_le _, Lib.hid rfl, rfl, rfl, ⟨rfl, .inl ⟨rfl, rfl⟩⟩, Lib.hid (fun j hj => by omega), Nx.refl _⟩
  case round =>
    obtain ⟨k, p, v, hp, HP, rfl, rfl, hw, HD, hnx⟩ := hrel
    have hEr := hE.nx hnx
    by_cases hlt : p < s.size
    · have hp6 : p + 6 ≤ s.size := by have := HP.out; have := HN.out; omega
      have hp7 : (p : Int) + 6 ≤ (s.size : Int) := by omega
      have hcs : (s.extract p (p + 6)).data.toList = chunk s.data.toList k := by
        rw [Lib.extract_data, HP.out, show 6 * k + 6 - 6 * k = 6 by omega]; rfl
      have hcz : (s.extract p (p + 6)).size = 6 := by
        rw [ba_size, hcs]; unfold chunk; rw [List.length_take, List.length_drop, ← ba_size]; have := HP.out; omega
      have HCS := Lib.hid hcs
      have HCZ := Lib.hid hcz
      have hk9 : k ≤ 10923 := by have := HP.out; omega
      clear hcs hcz
      cases hdc : digL (chunk s.data.toList k) with
      | false =>
        have HF := Lib.hid (numsO_no (l := s.data.toList) (.inr (chunk_no hdc)))
        have HDC := Lib.hid hdc
        clear hdc
        go_wp2_with fail
        refine (numberOf_c (s.extract p (p + 6)) _ a0 a1 HCZ.out hEr).mono ?_
        rintro e w1 ⟨rfl, hnx1⟩
        rw [← numV_no (by rw [HCS.out]; exact HDC.out)]
        go_wp2
        go_ret2
        exact RetNums.no HF.out (hnx.trans hnx1)
      | true =>
        have HDC := Lib.hid hdc
        have hx9 := valL_bd _ rfl hdc
        clear hdc
        obtain ⟨x, Hx⟩ : ∃ x, Hid (valL (chunk s.data.toList k) = x) := ⟨_, rfl⟩
        clear hx9
        go_wp2_with fail
        refine (numberOf_c (s.extract p (p + 6)) _ a0 a1 HCZ.out hEr).mono ?_
        rintro e w1 ⟨rfl, hnx1⟩
        rw [← numV_yes (by rw [HCS.out]; exact HDC.out), HCS.out, Hx.out]
        have hx1 := (hnx.trans hnx1).alloc (.cells #[.int .i64 x] 3)
        have hw1 := (owns_nx hw hnx1).alloc (.cells #[.int .i64 x] 3)
        have HNW := Lib.hid (news1 w1 3 (.int .i64 x))
        have HO : Hid (∀ u ∈ [Value.int .i64 (x : Int)], u.oneCell' = true) := Lib.hid (fun u hu => by simp only [List.mem_cons, List.not_mem_nil, or_false] at hu; subst hu; rfl)
        go_wp2_with (at_builtin; refine wpList_append_own _ rfl _ _ 22 rfl w.heap.size 3 i0 _ 1 8 Tryd.underlying22 hi0 hz0 hz1 hz2 rfl (by omega) v k _ rfl hw1 ⟨w1.heap.size, 0, none⟩ 1 1 [.int .i64 x] rfl rfl HNW.out HO.out ?c3 ?c4 ?c5 ?_)
        case c3 => unfold maxLen; omega
        case c4 => omega
        case c5 => have := hx1.size; simp only [World.size_alloc] at this ⊢; omega
        intro v2 w2 hw2 hg2 _
        have hx2 : Nx w w2 := Below.grown hx1 hg2 hx1.size (fun k hk => (hw1.lt k hk).1)
        go_wp2
        go_roundw
        case rel =>
          refine ⟨k + 1, p + 6, v2, by omega, Lib.hid (by have := HP.out; omega), by go_num, rfl, ?_, Lib.hid ?_, hx2⟩
          · rw [numsOf_succ, List.map_append, Hx.out]; exact hw2
          · intro j hj
            rcases Nat.lt_or_ge j k with hlt | hge
            · exact HD.out j hlt
            · obtain rfl : j = k := by omega
              exact HDC.out
        case measure => simp [intOf]; omega
    · obtain rfl : p = s.size := by omega
      obtain rfl : k = N := by have := HP.out; have := HN.out; omega
      have hlen := numsOf_len s.data.toList k
      have hw' : wr.ownsRow w.heap.size 3 1 v (numsOf s.data.toList k).length ((numsOf s.data.toList k).map vI) := by rw [hlen]; exact hw
      obtain ⟨A, c, rfl, hrow, hcp⟩ := owns_row0 hw'
      have HCP := Lib.hid hcp
      clear hcp
      have hall : digL s.data.toList = true := by
        unfold digL
        rw [List.all_eq_true]
        intro x hx
        obtain ⟨i, hi, rfl⟩ := List.mem_iff_getElem.1 hx
        have hi' : i < s.size := by rw [ba_size]; exact hi
        have h1 := HD.out (i / 6) (by have := HP.out; omega)
        unfold digL at h1
        rw [List.all_eq_true] at h1
        apply h1
        unfold chunk
        rw [List.mem_iff_getElem]
        refine ⟨i % 6, by rw [List.length_take, List.length_drop]; omega, ?_⟩
        rw [List.getElem_take, List.getElem_drop]
        congr 1
        omega
      have HO := Lib.hid (numsO_yes (l := s.data.toList) (by rw [← ba_size]; have := HP.out; omega) hall)
      have hdiv : s.data.toList.length / 6 = k := by rw [← ba_size]; have := HP.out; omega
      rw [hdiv] at HO
      clear hw hw' hall hlen hdiv
      go_wp2
      go_ret2
      exact RetNums.yes HO.out hrow HCP.out hnx
end Go.Proofs.YtehahodomfbpjaaDoor
/- Contract of the model's l02Numbers: the numbers of a text of digits. Conditions: texts of at most 65536 bytes. -/
namespace Go.Proofs.YtehahodomfbpjaaDoor
set_option linter.unusedVariables false
set_option maxRecDepth 100000
open Go.RowKit

def valFrom (s : ByteArray) (p j : Nat) : Nat := valL ((s.data.toList.drop p).take j)
theorem valFrom_succ (s : ByteArray) (p j : Nat) (h : p + j < s.size) : valFrom s p (j + 1) = 10 * valFrom s p j + (s[p + j].toNat - 48) := by
  unfold valFrom
  have hl : j < (s.data.toList.drop p).length := by rw [List.length_drop, ← ba_size]; omega
  rw [List.take_succ_eq_append_getElem hl, valL_snoc]
  simp only [List.getElem_drop]
  rfl
end Go.Proofs.YtehahodomfbpjaaDoor
/- Contracts of the program's unsealed and sealedNumbers, and of the model's l02Open: texts whose sum is right. Conditions: texts of at most 1048576 bytes; the package's errors are known. -/
namespace Go.Proofs.YtehahodomfbpjaaDoor
set_option linter.unusedVariables false
set_option maxRecDepth 100000
open Go.RowKit

def bodyOf (t : ByteArray) : ByteArray := t.extract 0 (t.size - 3)
theorem bodyOf_size (t : ByteArray) : (bodyOf t).size ≤ t.size := by
  unfold bodyOf; rw [ba_size, Lib.extract_data, ba_size t, List.length_take, List.length_drop]; omega
def sealB (t : ByteArray) : Bool := (sealS (bodyOf t)).toList == t.toList
def opensB (t : ByteArray) : Bool := decide (3 ≤ t.size) && sealB t
/-- The numbers of a text with a sum, if it is one. -/
def rdN (t : ByteArray) : Option (List Nat) := if opensB t then numsO (bodyOf t).data.toList else none
theorem opensB_short {t : ByteArray} (h : t.size < 3) : opensB t = false := by unfold opensB; rw [decide_eq_false (by omega)]; rfl
theorem opensB_of {t : ByteArray} (h : 3 ≤ t.size) : opensB t = sealB t := by unfold opensB; rw [decide_eq_true h]; rfl
theorem rdN_no {t : ByteArray} (h : opensB t = false) : rdN t = none := by unfold rdN; rw [h]; rfl
theorem rdN_yes {t : ByteArray} (h : opensB t = true) : rdN t = numsO (bodyOf t).data.toList := by unfold rdN; rw [h]; rfl
/-- What is answered of a text that is too long. -/
def RetUn (w : World) (t : ByteArray) (a0 : Addr) (e : Ending) (w' : World) : Prop :=
  Nx w w' ∧ (opensB t = false → e = .returned (.tuple #[.string ⟨#[]⟩, .iface 152 (.pointer (some a0))])) ∧ (opensB t = true → e = .returned (.tuple #[.string (bodyOf t), .nilIface]))
set_option maxRecDepth 100000 in
set_option maxHeartbeats 1000000 in
theorem unsealed_c (t : ByteArray) (w : World) (a0 a1 : Addr) (ht : t.size ≤ 65536) (hE : Er w a0 a1) : Calls Tryd.prog 86 #[.string t] w (RetUn w t a0) := by
  have hd0 : decide (65536 < (t.size : Int)) = false := by simp; omega
  by_cases h3 : t.size < 3
  · have hd : decide ((t.size : Int) < 3) = true := by simp; omega
    have HO := Lib.hid (opensB_short h3)
    obtain ⟨c0, _⟩ := hE
    go_enter Tryd.func86, Tryd.ntmps86
    go_wp2
    go_quiet (fail)
    go_wp2
    go_ret2
    exact ⟨(Nx.refl _).drewN _, fun _ => rfl, fun h => by rw [HO.out] at h; cases h⟩
  · have hd : decide ((t.size : Int) < 3) = false := by simp; omega
    have HO := Lib.hid (opensB_of (t := t) (by omega))
    have hb1 : 0 ≤ (t.size : Int) - 3 := by omega
    have hb2 : (t.size : Int) - 3 ≤ (t.size : Int) := by omega
    have hb3 : ((t.size : Int) - 3).toNat = t.size - 3 := by omega
    cases hb : sealB t with
    | false =>
      have HB := Lib.hid hb
      clear hb
      go_enter Tryd.func86, Tryd.ntmps86
      go_wp2_with fail
      refine (sealed_c (bodyOf t) _ (Nat.le_trans (bodyOf_size t) ht)).mono ?_
      rintro e w1 ⟨rfl, hnx1⟩
      have hb : ((sealS (bodyOf t)).toList == t.toList) = false := HB.out
      have hb' : ((sealS (bodyOf t)).toList != t.toList) = true := by rw [bne, hb]; rfl
      obtain ⟨c0, _⟩ := hE.nx hnx1
      go_wp2
      go_quiet (fail)
      go_wp2
      go_ret2
      exact ⟨hnx1.drewN _, fun _ => rfl, fun h => by rw [HO.out, HB.out] at h; cases h⟩
    | true =>
      have HB := Lib.hid hb
      clear hb
      go_enter Tryd.func86, Tryd.ntmps86
      go_wp2_with fail
      refine (sealed_c (bodyOf t) _ (Nat.le_trans (bodyOf_size t) ht)).mono ?_
      rintro e w1 ⟨rfl, hnx1⟩
      have hb : ((sealS (bodyOf t)).toList == t.toList) = true := HB.out
      have hb' : ((sealS (bodyOf t)).toList != t.toList) = false := by rw [bne, hb]; rfl
      go_wp2
      go_ret2
      exact ⟨hnx1, (fun h => by rw [HO.out, HB.out] at h; cases h), fun _ => rfl⟩
set_option maxRecDepth 100000 in
set_option maxHeartbeats 1000000 in
theorem unsealedLong_c (t : ByteArray) (w : World) (a0 a1 : Addr) (ht : 65536 < t.size) (hE : Er w a0 a1) :
    Calls Tryd.prog 86 #[.string t] w fun e w' => e = .returned (.tuple #[.string ⟨#[]⟩, .iface 152 (.pointer (some a1))]) ∧ Nx w w' := by
  have hd0 : decide (65536 < (t.size : Int)) = true := by simp; omega
  obtain ⟨_, c1, _⟩ := hE
  go_enter Tryd.func86, Tryd.ntmps86
  go_wp2
  go_quiet (fail)
  go_wp2
  go_ret2
  exact ⟨rfl, (Nx.refl _).drewN _⟩

set_option maxHeartbeats 1000000 in
theorem sealedNumbers_c (t : ByteArray) (w : World) (a0 a1 : Addr) (ht : t.size ≤ 65536) (hE : Er w a0 a1) : Calls Tryd.prog 75 #[.string t] w (RetNums w (rdN t) a0) := by
  cases ho : opensB t with
  | false =>
    have HO := Lib.hid ho
    have HR := Lib.hid (rdN_no ho)
    clear ho
    go_enter Tryd.func75, Tryd.ntmps75
    go_wp2_with fail
    refine (unsealed_c t _ a0 a1 ht hE).mono ?_
    rintro e w1 ⟨hnx1, h1, _⟩
    obtain rfl := h1 HO.out
    clear h1
    go_wp2
    go_ret2
    exact RetNums.no HR.out hnx1
  | true =>
    have HO := Lib.hid ho
    have HR := Lib.hid (rdN_yes ho)
    clear ho
    go_enter Tryd.func75, Tryd.ntmps75
    go_wp2_with fail
    refine (unsealed_c t _ a0 a1 ht hE).mono ?_
    rintro e w1 ⟨hnx1, _, h1⟩
    obtain rfl := h1 HO.out
    clear h1
    go_wp2_with fail
    refine (numbersOf_c (bodyOf t) _ a0 a1 (Nat.le_trans (bodyOf_size t) ht) (hE.nx hnx1)).mono ?_
    rintro e w2 ⟨hnx2, h1, h2⟩
    rw [← HR.out] at h1 h2
    cases hr : rdN t with
    | none =>
      obtain rfl := h1 hr
      have HRN := Lib.hid hr
      clear h1 h2 hr
      go_wp2
      go_ret2
      exact RetNums.no HRN.out (hnx1.trans hnx2)
    | some ns =>
      obtain ⟨A, c, rfl, hrow, hcp⟩ := h2 ns hr
      have HCP := Lib.hid hcp
      clear hcp
      have HRS := Lib.hid hr
      clear h1 h2 hr
      go_wp2
      go_ret2
      exact RetNums.yes HRS.out hrow HCP.out (hnx1.trans hnx2)
set_option maxHeartbeats 1000000 in
theorem sealedNumbersLong_c (t : ByteArray) (w : World) (a0 a1 : Addr) (ht : 65536 < t.size) (hE : Er w a0 a1) :
    Calls Tryd.prog 75 #[.string t] w fun e w' => e = .returned (.tuple #[.slice none 0 0, .iface 152 (.pointer (some a1))]) ∧ Nx w w' := by
  go_enter Tryd.func75, Tryd.ntmps75
  go_wp2_with fail
  refine (unsealedLong_c t _ a0 a1 ht hE).mono ?_
  rintro e w1 ⟨rfl, hnx1⟩
  go_wp2
  go_ret2
  exact ⟨rfl, hnx1⟩
end Go.Proofs.YtehahodomfbpjaaDoor
/- Contracts of ReadFrame, as the model and as the program have it: both answer the same frame and code. Conditions: texts of at most 1048576 bytes; the package's errors are known. -/
namespace Go.Proofs.YtehahodomfbpjaaDoor
set_option linter.unusedVariables false
set_option maxRecDepth 100000
open Go.RowKit

abbrev F4 := Nat × Nat × Nat × Nat
def frOf : List Nat → Option F4
  | [p, b, v, t] => if frameB p b v t then some (p, b, v, t) else none
  | _ => none
/-- The frame of a text. -/
def rdF (t : ByteArray) : Option F4 := (rdN t).bind frOf
def zF : F4 := (0, 0, 0, 0)
def vF (q : F4) : Value := .agg #[.int .i64 q.1, .int .i64 q.2.1, .int .i64 q.2.2.1, .int .i64 q.2.2.2]
theorem rdF_none {t : ByteArray} (h : rdN t = none) : rdF t = none := by unfold rdF; rw [h]; rfl
theorem rdF_len {t : ByteArray} {ns : List Nat} (h : rdN t = some ns) (hl : ns.length ≠ 4) : rdF t = none := by
  unfold rdF; rw [h]
  match ns, hl with
  | [], _ => rfl
  | [_], _ => rfl
  | [_, _], _ => rfl
  | [_, _, _], _ => rfl
  | [_, _, _, _], hl => exact absurd rfl hl
  | _ :: _ :: _ :: _ :: _ :: _, _ => rfl
theorem rdF_four {t : ByteArray} {n0 n1 n2 n3 : Nat} (h : rdN t = some [n0, n1, n2, n3]) : rdF t = if frameB n0 n1 n2 n3 then some (n0, n1, n2, n3) else none := by
  unfold rdF; rw [h]; rfl
theorem four {ns : List Nat} (h : ns.length = 4) : ∃ a b c d, ns = [a, b, c, d] := by
  match ns, h with
  | [a, b, c, d], _ => exact ⟨a, b, c, d, rfl⟩
theorem Row.four {w : World} {B : Nat} {A : Option Addr} {n0 n1 n2 n3 : Nat} (h : Row w B A 4 (intAt [n0, n1, n2, n3])) :
    ∃ b off, A = some ⟨b, off, none⟩ ∧ b < B ∧ w.cell? ⟨b, off, none⟩ = some (.int .i64 n0) ∧ w.cell? ⟨b, off + 1, none⟩ = some (.int .i64 n1) ∧ w.cell? ⟨b, off + 2, none⟩ = some (.int .i64 n2) ∧ w.cell? ⟨b, off + 3, none⟩ = some (.int .i64 n3) := by
  obtain ⟨b, off, e, hb, hc⟩ := h (by omega)
  exact ⟨b, off, e, hb, hc 0 (by omega), hc 1 (by omega), hc 2 (by omega), hc 3 (by omega)⟩

end Go.Proofs.YtehahodomfbpjaaDoor
/- A region that draws its order, walked once, in the order of its text: what only reads cells that stay as they are (S) is taken first, a call comes up when nothing else may. Conditions: those of each theorem. -/
namespace Go.Proofs.YtehahodomfbpjaaDoor
set_option linter.unusedVariables false
set_option maxRecDepth 100000
open Go.RowKit
section
variable {P : Program} {ops : Array Oper} {Q : Exit → Act → World → Prop} {S : World → Prop}
/-- The walk: of each operation a mark: true: a call that is met by its contract. -/
def HL (P : Program) (ops : Array Oper) (Q : Exit → Act → World → Prop) (S : World → Prop) : List Bool → List Oper → Act → World → Prop
  | false :: cs, o :: l, a, w => ∃ v, YieldsIf P ops S o v a ∧ HL P ops Q S cs l (a.put o.dst v) w
  | true :: cs, o :: l, a, w => Region.wanted o (yielded ops a.tmps) = true ∧ ∀ K : Act → World → Prop, Hid (∀ a' w', S w' → HL P ops Q S cs l a' w' → K a' w') → o.wp P a w K Q
  | _, _, a, w => Q .normal a w
/-- What is asked of the region's edges alone. -/
def lexB (md : Region.Mode) (ops : Array Oper) : List Bool → Nat → Array Bool → Bool
  | [], _, listed => Region.ready md ops listed == []
  | false :: cs, k, listed => (Region.ready md ops listed).contains k && Region.free md ops listed k && lexB md ops cs (k + 1) (listed.setIfInBounds k true)
  | true :: cs, k, listed => (Region.ready md ops listed == [k]) && lexB md ops cs (k + 1) (listed.setIfInBounds k true)
theorem HL.take {cs : List Bool} {o : Oper} {l : List Oper} {a : Act} {w : World} {v : Value} (hw : Region.wanted o (yielded ops a.tmps) = true) (h : ∀ w, S w → (execOp a.eval o).run P w = .ok (.value v) w)
    (hr : HL P ops Q S cs l (a.put o.dst v) w) : HL P ops Q S (false :: cs) (o :: l) a w := ⟨v, .inl ⟨hw, h⟩, hr⟩
theorem HL.skip {cs : List Bool} {o : Oper} {l : List Oper} {a : Act} {w : World} (hw : Region.wanted o (yielded ops a.tmps) = false) (hr : HL P ops Q S cs l (a.put o.dst undef) w) : HL P ops Q S (false :: cs) (o :: l) a w :=
  ⟨undef, .inr ⟨hw, rfl⟩, hr⟩
theorem HL.call {cs : List Bool} {o : Oper} {l : List Oper} {a : Act} {w : World} (hw : Region.wanted o (yielded ops a.tmps) = true)
    (h : ∀ K : Act → World → Prop, Hid (∀ a' w', S w' → HL P ops Q S cs l a' w' → K a' w') → o.wp P a w K Q) : HL P ops Q S (true :: cs) (o :: l) a w := ⟨hw, h⟩
theorem HL.done {a : Act} {w : World} (h : Q .normal a w) : HL P ops Q S [] [] a w := h
theorem HL.any {md : Region.Mode} (hs : Region.noSelect ops = true) (hQ : ∀ c a d v w, Q (.panic c) (Act.put a d v) w → Q (.panic c) a w) :
    ∀ (cs : List Bool) (l : List Oper) (k : Nat) (listed : Array Bool) (a : Act) (w : World), (∀ j, j < l.length → ops[k + j]? = l[j]?) → l.length = cs.length → lexB md ops cs k listed = true → S w →
      HL P ops Q S cs l a w → wpAnyH P md ops Q S cs.length listed a w
  | [], [], k, listed, a, w, _, _, hB, _, h => by
    refine wpAnyH_done ?_ h _
    simpa [lexB] using hB
  | [], _ :: _, _, _, _, _, _, hl, _, _, _ => by simp at hl
  | _ :: _, [], _, _, _, _, _, hl, _, _, _ => by simp at hl
  | c :: cs, o :: l, k, listed, a, w, ho, hl, hB, hS, h => by
    have h0 : ops[k]? = some o := by simpa using ho 0 (by simp)
    have ho' : ∀ j, j < l.length → ops[k + 1 + j]? = l[j]? := fun j hj => by
      have := ho (j + 1) (by simp; omega)
      rw [show k + 1 + j = k + (j + 1) by omega, this]; simp
    have hl' : l.length = cs.length := by simpa using hl
    cases c with
    | false =>
      simp only [lexB, Bool.and_eq_true] at hB
      obtain ⟨⟨hr, hf⟩, hB'⟩ := hB
      obtain ⟨v, hy, hK⟩ := h
      exact wpAnyH_take h0 hs hf hr (fun c a w => hQ c a _ _ w) hy hS (HL.any hs hQ cs l (k + 1) _ _ w ho' hl' hB' hS hK)
    | true =>
      simp only [lexB, Bool.and_eq_true, beq_iff_eq] at hB
      obtain ⟨hr, hB'⟩ := hB
      obtain ⟨hw, hK⟩ := h
      refine wpAnyH_all hr (by simp) fun i hi => ?_
      obtain rfl : i = k := by simpa using hi
      unfold wpOp
      simp only [h0, hw, if_true]
      exact .inl (hK _ (Lib.hid fun a' w' hS' h' => ⟨hS', HL.any hs hQ cs l (i + 1) _ a' w' ho' hl' hB' hS' h'⟩))
/-- The region. -/
theorem wp_region_lex {id : Nat} {a : Act} {w : World} {l : List Oper} (cs : List Bool) (S : World → Prop) (hm : P.follows .mixedOrders = true) (hs : Region.noSelect l.toArray = true) (hl : l.length = cs.length)
    (hB : lexB .any l.toArray cs 0 (Array.replicate l.toArray.size false) = true) (hQ : ∀ c a d v w, Q (.panic c) (Act.put a d v) w → Q (.panic c) a w) (hS : S w.drew)
    (h : HL P l.toArray Q S cs l a w.drew) : (Code.region id l.toArray true).wp P Q a w := by
  refine wp_region_held_drew (S := S) hm hS fun _ => ?_
  have := HL.any (md := .any) hs hQ cs l 0 (Array.replicate l.toArray.size false) a w.drew (fun j hj => by simp) hl hB hS h
  have e : l.toArray.size = cs.length := by simpa using hl
  rw [e]
  rw [e] at this
  exact this
end
end Go.Proofs.YtehahodomfbpjaaDoor
/- Contracts of ReadFrame, as the model and as the program have it: both answer the same frame and code. Conditions: texts of at most 1048576 bytes; the package's errors are known. -/
namespace Go.Proofs.YtehahodomfbpjaaDoor
set_option linter.unusedVariables false
set_option maxRecDepth 100000
open Go.RowKit

theorem Box.far4 {w : World} {g g' : Nat} {t : TypeId} {cs : Array Value} (h : Box w g t cs) (hg : g ≠ g') (v0 v1 v2 v3 : Value) : Box (put4 w g' v0 v1 v2 v3) g t cs :=
  (((h.far (p := ⟨g', 0, none⟩) hg v0).far (p := ⟨g', 1, none⟩) hg v1).far (p := ⟨g', 2, none⟩) hg v2).far (p := ⟨g', 3, none⟩) hg v3

/-- The frame and the code that a text has. -/
def frA (t : ByteArray) : F4 := if t.size ≤ 65536 then (rdF t).getD zF else zF
def frC (t : ByteArray) : Int := if t.size ≤ 65536 then (if (rdF t).isSome then 0 else 3) else 2
theorem frA_long {t : ByteArray} (h : ¬ t.size ≤ 65536) : Ending.returned (.tuple #[vF zF, .int .i64 2]) = .returned (.tuple #[vF (frA t), .int .i64 (frC t)]) := by unfold frA frC; rw [if_neg h, if_neg h]
theorem frA_none {t : ByteArray} (h : t.size ≤ 65536) (hr : rdF t = none) : Ending.returned (.tuple #[vF zF, .int .i64 3]) = .returned (.tuple #[vF (frA t), .int .i64 (frC t)]) := by unfold frA frC; rw [if_pos h, if_pos h, hr]; rfl
theorem frA_some {t : ByteArray} {q : F4} (h : t.size ≤ 65536) (hr : rdF t = some q) : Ending.returned (.tuple #[vF q, .int .i64 0]) = .returned (.tuple #[vF (frA t), .int .i64 (frC t)]) := by unfold frA frC; rw [if_pos h, if_pos h, hr]; rfl
def RetRF (w : World) (t : ByteArray) (e : Ending) (w' : World) : Prop := e = .returned (.tuple #[vF (frA t), .int .i64 (frC t)]) ∧ Nx w w'

def erV (a0 : Addr) (o : Option F4) : Value := if o.isSome then .nilIface else .iface 152 (.pointer (some a0))
def RetFT (w : World) (o : Option F4) (a0 : Addr) (e : Ending) (w' : World) : Prop := e = .returned (.tuple #[vF (o.getD zF), erV a0 o]) ∧ Nx w w'
set_option maxRecDepth 100000 in
set_option maxHeartbeats 4000000 in
theorem frameOfText_c (t : ByteArray) (w : World) (a0 a1 : Addr) (ht : t.size ≤ 65536) (hE : Er w a0 a1) : Calls Tryd.prog 53 #[.string t] w (RetFT w (rdF t) a0) := by
  have e0 := hE.1
  have hg0 : 0 < w.heap.size := World.block_lt_of_cell? w _ e0
  have b0 := Box.new w 41 #[.int .i64 0, .int .i64 0, .int .i64 0, .int .i64 0]
  have hx0 := (Nx.refl w).alloc (.cells #[.int .i64 0, .int .i64 0, .int .i64 0, .int .i64 0] 41)
  go_enter Tryd.func53, Tryd.ntmps53
  go_wp2_with fail
  generalize w.alloc (.cells #[.int .i64 0, .int .i64 0, .int .i64 0, .int .i64 0] 41) = W at *
  refine (sealedNumbers_c t _ a0 a1 ht (hE.nx hx0)).mono ?_
  rintro e w1 ⟨hnx1, h1, h2⟩
  have b1 := b0.nx hnx1
  have hx1 := hx0.trans hnx1
  clear b0 hx0 hnx1
  cases hr : rdN t with
  | none =>
    obtain rfl := h1 hr
    have HF := Lib.hid (rdF_none hr)
    clear h1 h2 hr
    obtain ⟨c0, c1, c2, c3⟩ := b1.d4
    have f0 := b1.frozen 0
    have f1 := b1.frozen 1
    have f2 := b1.frozen 2
    have f3 := b1.frozen 3
    go_wp2
    have q := (put4_box b1 (.int .i64 0) (.int .i64 0) (.int .i64 0) (.int .i64 0))
    have hnf := (put4_nx hx1 (Nat.le_refl w.heap.size) (.int .i64 0) (.int .i64 0) (.int .i64 0) (.int .i64 0))
    change bodyPost _ _ _ _ _ (put4 w1 w.heap.size (.int .i64 0) (.int .i64 0) (.int .i64 0) (.int .i64 0))
    change Box (put4 w1 w.heap.size (.int .i64 0) (.int .i64 0) (.int .i64 0) (.int .i64 0)) _ _ _ at q
    generalize put4 w1 w.heap.size (.int .i64 0) (.int .i64 0) (.int .i64 0) (.int .i64 0) = Wf at *
    obtain ⟨g0, g1, g2, g3⟩ := q.d4
    exact bodyPost_ret (v := .tuple #[.agg #[.int .i64 0, .int .i64 0, .int .i64 0, .int .i64 0], .iface 152 (.pointer (some a0))]) (by simp [results, Tryd.results53, go_sem, g0, g1, g2, g3]) rfl ⟨by rw [HF.out]; rfl, hnf⟩
  | some ns =>
    obtain ⟨A, c, rfl, hrow, _⟩ := h2 ns hr
    have HN := Lib.hid hr
    clear h1 h2 hr
    by_cases hl : ns.length = 4
    case neg =>
      have hl' : ((ns.length : Int) != 4) = true := by rw [bne_iff_ne]; omega
      have HF := Lib.hid (rdF_len HN.out hl)
      obtain ⟨c0, c1, c2, c3⟩ := b1.d4
      have f0 := b1.frozen 0
      have f1 := b1.frozen 1
      have f2 := b1.frozen 2
      have f3 := b1.frozen 3
      have hlt := b1.lt
      go_wp2_with fail
      refine wp_region_lex [false, false, true, false] (fun w' => w'.cell? ⟨0, 0, none⟩ = some (.iface 152 (.pointer (some a0)))) (by kernel_rfl) (by kernel_rfl) rfl (by kernel_rfl) (fun _ _ d _ _ h => by cases d <;> exact h) (by exact ((hx1.drew).cell (p := ⟨0, 0, none⟩) hg0).trans e0) ?_
      repeat (first | (refine HL.take (v := ?_) (by rfl) ?_ ?_; rotate_left; (· (intro w hSw; (try dsimp only at hSw); go_simp; try with_reducible rfl)); (try simp only [Act.put, List.setIfInBounds_toArray, List.set_cons_zero, List.set_cons_succ])) | (refine HL.skip (by rfl) ?_; (try simp only [Act.put, List.setIfInBounds_toArray, List.set_cons_zero, List.set_cons_succ])))
      refine HL.call (by rfl) (fun K hK => ?_)
      go_simp
      refine hK.out _ _ (by exact (put4_nx hx1.drew (Nat.le_refl w.heap.size) (.int .i64 0) (.int .i64 0) (.int .i64 0) (.int .i64 0)).cell (p := ⟨0, 0, none⟩) hg0 |>.trans e0) ?_
      clear hK K
      try simp only [Act.put, List.setIfInBounds_toArray, List.set_cons_zero, List.set_cons_succ]
      repeat (first | (refine HL.take (v := ?_) (by rfl) ?_ ?_; rotate_left; (· (intro w hSw; (try dsimp only at hSw); go_simp; try with_reducible rfl)); (try simp only [Act.put, List.setIfInBounds_toArray, List.set_cons_zero, List.set_cons_succ])) | (refine HL.skip (by rfl) ?_; (try simp only [Act.put, List.setIfInBounds_toArray, List.set_cons_zero, List.set_cons_succ])))
      refine HL.done ?_
      clear c0 c1 c2 c3 f0 f1 f2 f3
      go_wp2
      have q := (put4_box b1 (.int .i64 0) (.int .i64 0) (.int .i64 0) (.int .i64 0))
      have hnf := (put4_nx hx1 (Nat.le_refl w.heap.size) (.int .i64 0) (.int .i64 0) (.int .i64 0) (.int .i64 0)).drew
      change bodyPost _ _ _ _ _ (World.drew (put4 w1 w.heap.size (.int .i64 0) (.int .i64 0) (.int .i64 0) (.int .i64 0)))
      change Box (World.drew (put4 w1 w.heap.size (.int .i64 0) (.int .i64 0) (.int .i64 0) (.int .i64 0))) _ _ _ at q
      generalize World.drew (put4 w1 w.heap.size (.int .i64 0) (.int .i64 0) (.int .i64 0) (.int .i64 0)) = Wf at *
      obtain ⟨g0, g1, g2, g3⟩ := q.d4
      exact bodyPost_ret (v := .tuple #[.agg #[.int .i64 0, .int .i64 0, .int .i64 0, .int .i64 0], .iface 152 (.pointer (some a0))]) (by simp [results, Tryd.results53, go_sem, g0, g1, g2, g3]) rfl ⟨by rw [HF.out]; rfl, hnf⟩
    case pos =>
      obtain ⟨n0, n1, n2, n3, rfl⟩ := four hl
      clear hl
      simp only [List.length_cons, List.length_nil] at hrow ⊢
      obtain ⟨b, off, rfl, hb, k0, k1, k2, k3⟩ := Row.four hrow
      have HF := Lib.hid (rdF_four HN.out)
      go_wp2_with fail
      refine wp_region_lex [false, false, false, false, false, false, false, false, false, false, false, false, false, true, true] (fun w' => w'.cell? ⟨b, off, none⟩ = some (.int .i64 n0) ∧ w'.cell? ⟨b, off + 1, none⟩ = some (.int .i64 n1) ∧ w'.cell? ⟨b, off + 2, none⟩ = some (.int .i64 n2) ∧ w'.cell? ⟨b, off + 3, none⟩ = some (.int .i64 n3)) (by kernel_rfl) (by kernel_rfl) rfl (by kernel_rfl) (fun _ _ d _ _ h => by cases d <;> exact h) (by exact ⟨k0, k1, k2, k3⟩) ?_
      repeat (first | (refine HL.take (v := ?_) (by rfl) ?_ ?_; rotate_left; (· (intro w hSw; (try dsimp only at hSw); go_simp; try with_reducible rfl)); (try simp only [Act.put, List.setIfInBounds_toArray, List.set_cons_zero, List.set_cons_succ])) | (refine HL.skip (by rfl) ?_; (try simp only [Act.put, List.setIfInBounds_toArray, List.set_cons_zero, List.set_cons_succ])))
      refine HL.call (by rfl) (fun K hK => ?_)
      go_simp
      refine hK.out _ _ (by exact ⟨(((Nx.refl w1).alloc _).cell (p := ⟨b, off, none⟩) hb).trans k0, (((Nx.refl w1).alloc _).cell (p := ⟨b, off + 1, none⟩) hb).trans k1, (((Nx.refl w1).alloc _).cell (p := ⟨b, off + 2, none⟩) hb).trans k2, (((Nx.refl w1).alloc _).cell (p := ⟨b, off + 3, none⟩) hb).trans k3⟩) ?_
      clear hK K
      try simp only [Act.put, List.setIfInBounds_toArray, List.set_cons_zero, List.set_cons_succ]
      refine HL.call (by rfl) (fun K hK => ?_)
      go_simp
      refine hK.out _ _ (by exact ⟨(((Nx.refl w1).alloc _).cell (p := ⟨b, off, none⟩) hb).trans k0, (((Nx.refl w1).alloc _).cell (p := ⟨b, off + 1, none⟩) hb).trans k1, (((Nx.refl w1).alloc _).cell (p := ⟨b, off + 2, none⟩) hb).trans k2, (((Nx.refl w1).alloc _).cell (p := ⟨b, off + 3, none⟩) hb).trans k3⟩) ?_
      clear hK K
      try simp only [Act.put, List.setIfInBounds_toArray, List.set_cons_zero, List.set_cons_succ]
      refine HL.done ?_
      clear k0 k1 k2 k3
      have b3 := b1.alloc (.cells #[.int .i64 n0, .int .i64 n1, .int .i64 n2, .int .i64 n3] 41)
      have bx := Box.new w1 41 #[.int .i64 n0, .int .i64 n1, .int .i64 n2, .int .i64 n3]
      have hx3 := (hx1.alloc (.cells #[.int .i64 n0, .int .i64 n1, .int .i64 n2, .int .i64 n3] 41)).drew
      change Exit.then _ _ _ _ (World.drew (w1.alloc (.cells #[.int .i64 n0, .int .i64 n1, .int .i64 n2, .int .i64 n3] 41)))
      change Box (World.drew (w1.alloc (.cells #[.int .i64 n0, .int .i64 n1, .int .i64 n2, .int .i64 n3] 41))) _ _ _ at b3 bx
      generalize World.drew (w1.alloc (.cells #[.int .i64 n0, .int .i64 n1, .int .i64 n2, .int .i64 n3] 41)) = w3 at *
      obtain ⟨x0, x1, x2, x3⟩ := bx.d4
      go_wp2_with fail
      refine (frameRight_c n0 n1 n2 n3 _).mono ?_
      rintro e w4 ⟨rfl, hnx4⟩
      have b4 := b3.nx hnx4
      have bx4 := bx.nx hnx4
      have hx4 := hx3.trans hnx4
      clear x0 x1 x2 x3
      obtain ⟨x0, x1, x2, x3⟩ := bx4.d4
      cases hf : frameB n0 n1 n2 n3 with
      | false =>
        rw [hf] at HF
        clear hf
        obtain ⟨c0, c1, c2, c3⟩ := b4.d4
        have f0 := b4.frozen 0
        have f1 := b4.frozen 1
        have f2 := b4.frozen 2
        have f3 := b4.frozen 3
        have hlt := b4.lt
        go_wp2_with fail
        refine wp_region_lex [false, false, true, false] (fun w' => w'.cell? ⟨0, 0, none⟩ = some (.iface 152 (.pointer (some a0)))) (by kernel_rfl) (by kernel_rfl) rfl (by kernel_rfl) (fun _ _ d _ _ h => by cases d <;> exact h) (by exact ((hx4.drew).cell (p := ⟨0, 0, none⟩) hg0).trans e0) ?_
        repeat (first | (refine HL.take (v := ?_) (by rfl) ?_ ?_; rotate_left; (· (intro w hSw; (try dsimp only at hSw); go_simp; try with_reducible rfl)); (try simp only [Act.put, List.setIfInBounds_toArray, List.set_cons_zero, List.set_cons_succ])) | (refine HL.skip (by rfl) ?_; (try simp only [Act.put, List.setIfInBounds_toArray, List.set_cons_zero, List.set_cons_succ])))
        refine HL.call (by rfl) (fun K hK => ?_)
        go_simp
        refine hK.out _ _ (by exact (put4_nx hx4.drew (Nat.le_refl w.heap.size) (.int .i64 0) (.int .i64 0) (.int .i64 0) (.int .i64 0)).cell (p := ⟨0, 0, none⟩) hg0 |>.trans e0) ?_
        clear hK K
        try simp only [Act.put, List.setIfInBounds_toArray, List.set_cons_zero, List.set_cons_succ]
        repeat (first | (refine HL.take (v := ?_) (by rfl) ?_ ?_; rotate_left; (· (intro w hSw; (try dsimp only at hSw); go_simp; try with_reducible rfl)); (try simp only [Act.put, List.setIfInBounds_toArray, List.set_cons_zero, List.set_cons_succ])) | (refine HL.skip (by rfl) ?_; (try simp only [Act.put, List.setIfInBounds_toArray, List.set_cons_zero, List.set_cons_succ])))
        refine HL.done ?_
        clear c0 c1 c2 c3 f0 f1 f2 f3
        go_wp2
        have q := (put4_box b4 (.int .i64 0) (.int .i64 0) (.int .i64 0) (.int .i64 0))
        have hnf := (put4_nx hx4 (Nat.le_refl w.heap.size) (.int .i64 0) (.int .i64 0) (.int .i64 0) (.int .i64 0)).drew
        change bodyPost _ _ _ _ _ (World.drew (put4 w4 w.heap.size (.int .i64 0) (.int .i64 0) (.int .i64 0) (.int .i64 0)))
        change Box (World.drew (put4 w4 w.heap.size (.int .i64 0) (.int .i64 0) (.int .i64 0) (.int .i64 0))) _ _ _ at q
        generalize World.drew (put4 w4 w.heap.size (.int .i64 0) (.int .i64 0) (.int .i64 0) (.int .i64 0)) = Wf at *
        obtain ⟨g0, g1, g2, g3⟩ := q.d4
        exact bodyPost_ret (v := .tuple #[.agg #[.int .i64 0, .int .i64 0, .int .i64 0, .int .i64 0], .iface 152 (.pointer (some a0))]) (by simp [results, Tryd.results53, go_sem, g0, g1, g2, g3]) rfl ⟨by rw [HF.out]; rfl, hnf⟩
      | true =>
        rw [hf] at HF
        clear hf
        obtain ⟨c0, c1, c2, c3⟩ := b4.d4
        have f0 := b4.frozen 0
        have f1 := b4.frozen 1
        have f2 := b4.frozen 2
        have f3 := b4.frozen 3
        go_wp2
        have q := (put4_box b4 (.int .i64 n0) (.int .i64 n1) (.int .i64 n2) (.int .i64 n3))
        have hnf := (put4_nx hx4 (Nat.le_refl w.heap.size) (.int .i64 n0) (.int .i64 n1) (.int .i64 n2) (.int .i64 n3))
        change bodyPost _ _ _ _ _ (put4 w4 w.heap.size (.int .i64 n0) (.int .i64 n1) (.int .i64 n2) (.int .i64 n3))
        change Box (put4 w4 w.heap.size (.int .i64 n0) (.int .i64 n1) (.int .i64 n2) (.int .i64 n3)) _ _ _ at q
        generalize put4 w4 w.heap.size (.int .i64 n0) (.int .i64 n1) (.int .i64 n2) (.int .i64 n3) = Wf at *
        obtain ⟨g0, g1, g2, g3⟩ := q.d4
        exact bodyPost_ret (v := .tuple #[.agg #[.int .i64 n0, .int .i64 n1, .int .i64 n2, .int .i64 n3], .nilIface]) (by simp [results, Tryd.results53, go_sem, g0, g1, g2, g3]) rfl ⟨by rw [HF.out]; rfl, hnf⟩

end Go.Proofs.YtehahodomfbpjaaDoor
