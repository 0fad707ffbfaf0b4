/-
  Texts of the proof, put together in their order: Rdv, Sio, Sta, Shc, Ctm, Plm, Rwm.
  Conditions: those of each.
-/
import Derived.Test.YtehahodomfbpjaaGreatDoorMl4
import Derived.Lib.Join
import Derived.Shelf.Strings.Cut
import Derived.Shelf.Strings.Split
import Derived.Test.YtehahodomfbpjaaGreatDoorProg
import Derived.Deep.AppendLies
/- The super of a text: its words, its marks, as the model has it and as the program has it (values alone). Conditions: none. -/
namespace Go.Proofs.YtehahodomfbpjaaGreatDoor
set_option linter.unusedVariables false
set_option maxRecDepth 100000
open Go.RowKit

/-- Digits, at most 18 of them, none needless ahead. -/
def plainB (l : List UInt8) : Bool := decide (1 ≤ l.length) && decide (l.length ≤ 18) && (decide (l.length = 1) || decide (l.head? ≠ some 48)) && digL l
theorem plainB_dig {l : List UInt8} (h : plainB l = true) : digL l = true := by
  unfold plainB at h; simp only [Bool.and_eq_true] at h; exact h.2
theorem plainB_no {l : List UInt8} (h : digL l = false) : plainB l = false := by unfold plainB; rw [h]; simp
theorem plainB_len {l : List UInt8} (h : plainB l = true) : 1 ≤ l.length ∧ l.length ≤ 18 := by
  unfold plainB at h; simp only [Bool.and_eq_true, decide_eq_true_eq] at h; exact h.1.1
theorem plainB_head {l : List UInt8} (h : plainB l = true) : l.length = 1 ∨ l.head? ≠ some 48 := by
  unfold plainB at h; simp only [Bool.and_eq_true, Bool.or_eq_true, decide_eq_true_eq] at h; exact h.1.2
theorem plainB_mk {l : List UInt8} (h1 : 1 ≤ l.length) (h2 : l.length ≤ 18) (h3 : l.length = 1 ∨ l.head? ≠ some 48) : plainB l = digL l := by
  unfold plainB
  rw [decide_eq_true h1, decide_eq_true h2]
  rcases h3 with h | h
  · rw [decide_eq_true h]; simp
  · rw [decide_eq_true h]; simp
theorem plainB_size {l : List UInt8} (h : l.length = 0 ∨ 18 < l.length) : plainB l = false := by
  unfold plainB
  rcases h with h | h
  · rw [decide_eq_false (show ¬ 1 ≤ l.length by omega)]; rfl
  · rw [decide_eq_false (show ¬ l.length ≤ 18 by omega)]; simp
theorem plainB_nought {l : List UInt8} (h : 1 < l.length) (h2 : l.head? = some 48) : plainB l = false := by
  unfold plainB
  rw [decide_eq_false (show ¬ l.length = 1 by omega), decide_eq_false (show ¬ l.head? ≠ some 48 by simp [h2])]; simp
theorem digL_mem {l : List UInt8} (h : digL l = true) {x : UInt8} (hx : x ∈ l) : digC x = true := List.all_eq_true.1 h x hx

/-- The mark of a word. -/
def wordM (l : List UInt8) : Option Mrk :=
  if (Lib.cut l [61]).2.2 && plainB (Lib.cut l [61]).2.1 then some (baL (Lib.cut l [61]).1, ((valL (Lib.cut l [61]).2.1 : Nat) : Int)) else none
theorem wordM_miss {l : List UInt8} (h : 61 ∉ l) : wordM l = none := by unfold wordM; rw [cut_miss h]; rfl
theorem wordM_hit {a b : List UInt8} (h : 61 ∉ a) : wordM (a ++ 61 :: b) = if plainB b then some (baL a, ((valL b : Nat) : Int)) else none := by
  unfold wordM; rw [cut_hit h]; simp
theorem wordM_two {l a b : List UInt8} (h : cutL 61 l = [a, b]) : wordM l = if plainB b then some (baL a, ((valL b : Nat) : Int)) else none := by
  obtain ⟨a', b', h1, h2, h3, _⟩ := cutL_two (c := 61) (s := l) (by rw [h]; rfl)
  rw [h] at h1
  injection h1 with e1 h1
  injection h1 with e2 _
  subst e1 e2
  rw [h2, wordM_hit h3]
theorem wordM_more {l : List UInt8} (h : (cutL 61 l).length ≠ 2) : wordM l = none := by
  rcases part_at 61 l with h1 | ⟨a, b, h1, e⟩
  · exact wordM_miss h1
  · rw [e, wordM_hit h1]
    have hb : 61 ∈ b := by
      by_cases hb : (61 : UInt8) ∈ b
      · exact hb
      · exact absurd (by rw [e, cutL_hit 61 a b h1, cutL_miss 61 b hb]; rfl) h
    rw [if_neg]
    intro hp
    have := digL_mem (plainB_dig hp) hb
    revert this; decide

/-- The marks of words. -/
def marksL : List (List UInt8) → Option (List Mrk)
  | [] => some []
  | w :: ws => (wordM w).bind fun m => (marksL ws).map (m :: ·)
theorem marksL_snoc : ∀ (ws : List (List UInt8)) (w : List UInt8), marksL (ws ++ [w]) = (marksL ws).bind fun ms => (wordM w).map fun m => ms ++ [m]
  | [], w => by
    show (wordM w).bind (fun m => (marksL []).map (m :: ·)) = _
    simp only [marksL, Option.map_some, Option.bind_some]
    cases wordM w <;> rfl
  | x :: ws, w => by
    have ih := marksL_snoc ws w
    rw [List.cons_append, marksL, marksL, ih]
    cases wordM x with
    | none => rfl
    | some m =>
      cases marksL ws with
      | none => rfl
      | some ms => cases wordM w <;> rfl
theorem marksL_len : ∀ {ws : List (List UInt8)} {ms : List Mrk}, marksL ws = some ms → ms.length = ws.length
  | [], ms, h => by simp only [marksL, Option.some.injEq] at h; subst h; rfl
  | x :: ws, ms, h => by
    rw [marksL] at h
    cases hx : wordM x with
    | none => rw [hx] at h; cases h
    | some m =>
      rw [hx, Option.bind_some] at h
      cases hw : marksL ws with
      | none => rw [hw] at h; cases h
      | some ns =>
        rw [hw, Option.map_some, Option.some.injEq] at h
        subst h
        simp [marksL_len hw]
theorem marksL_no : ∀ {ws : List (List UInt8)} {w : List UInt8}, w ∈ ws → wordM w = none → marksL ws = none
  | [], w, h, _ => by simp at h
  | x :: ws, w, h, hn => by
    rw [marksL]
    rcases List.mem_cons.1 h with rfl | h
    · rw [hn]; rfl
    · rw [marksL_no h hn]
      cases wordM x <;> rfl
theorem marksL_all : ∀ {ws : List (List UInt8)} {ms : List Mrk} {w : List UInt8}, marksL ws = some ms → w ∈ ws → ∃ m ∈ ms, wordM w = some m
  | [], _, _, _, h => by simp at h
  | x :: ws, ms, w, hm, h => by
    rw [marksL] at hm
    cases hx : wordM x with
    | none => rw [hx] at hm; cases hm
    | some m =>
      rw [hx, Option.bind_some] at hm
      cases hw : marksL ws with
      | none => rw [hw] at hm; cases hm
      | some ns =>
        rw [hw, Option.map_some, Option.some.injEq] at hm
        subst hm
        rcases List.mem_cons.1 h with rfl | h
        · exact ⟨m, by simp, hx⟩
        · obtain ⟨q, hq, e⟩ := marksL_all hw h
          exact ⟨q, by simp [hq], e⟩
/-- The words' marks, over texts. -/
def wordB (x : ByteArray) : Option Mrk := wordM x.data.toList
def marksB (ws : List ByteArray) : Option (List Mrk) := marksL (ws.map (·.data.toList))
theorem marksB_succ {ws : List ByteArray} {k : Nat} {ms : List Mrk} {m : Mrk} (hk : k < ws.length) (h : marksB (ws.take k) = some ms) (hm : wordB (ws.getD k ByteArray.empty) = some m) : marksB (ws.take (k + 1)) = some (ms ++ [m]) := by
  unfold marksB wordB at *
  rw [List.take_succ_eq_append_getElem hk, List.map_append, List.map_cons, List.map_nil, marksL_snoc, h]
  rw [List.getD_eq_getElem?_getD, List.getElem?_eq_getElem hk, Option.getD_some] at hm
  rw [hm]; rfl
theorem marksB_no {ws : List ByteArray} {k : Nat} (hk : k < ws.length) (h : wordB (ws.getD k ByteArray.empty) = none) : marksB ws = none := by
  unfold marksB
  rw [List.getD_eq_getElem?_getD, List.getElem?_eq_getElem hk, Option.getD_some] at h
  exact marksL_no (List.mem_map_of_mem (List.getElem_mem hk)) h
theorem marksB_len {ws : List ByteArray} {ms : List Mrk} (h : marksB ws = some ms) : ms.length = ws.length := by
  rw [marksL_len h]; simp
/-- The marks of a text. -/
def marksO (l : List UInt8) : Option (List Mrk) := if l.length = 0 then some [] else marksL (cutL 44 l)
theorem marksO_nil {s : ByteArray} (h : s.size = 0) : marksO s.data.toList = some [] := by unfold marksO; rw [if_pos (by rw [← ba_size]; exact h)]
theorem marksO_cut {s : ByteArray} (h : s.size ≠ 0) : marksO s.data.toList = marksB (cutB 44 s) := by
  unfold marksO marksB cutB
  rw [if_neg (by rw [← ba_size]; exact h), List.map_map]
  congr 1
  conv => lhs; rw [← List.map_id (cutL 44 s.data.toList)]
  exact List.map_congr_left fun x _ => rfl

/-- A super: its four numbers, its table, its marks. -/
abbrev U6 := Int × Int × Int × Int × List Int × List Mrk
def intsN (ns : List Nat) : List Int := ns.map fun (n : Nat) => (n : Int)
theorem intsN_len (ns : List Nat) : (intsN ns).length = ns.length := by unfold intsN; simp
theorem intsN_at (ns : List Nat) (i : Nat) (h : i < ns.length) : inAt (intsN ns) i = intAt ns i := by
  unfold inAt intAt intsN
  rw [List.getD_eq_getElem?_getD, List.getElem?_map, List.getElem?_eq_getElem h, List.getD_eq_getElem?_getD, List.getElem?_eq_getElem h]; rfl
def supOf (ns : List Nat) (ms : List Mrk) : Option U6 :=
  if superB (ns.getD 0 0) (ns.getD 1 0) (ns.getD 2 0) (ns.getD 3 0) (intsN (ns.drop 4)) ms then some (((ns.getD 0 0 : Nat) : Int), ((ns.getD 1 0 : Nat) : Int), ((ns.getD 2 0 : Nat) : Int), ((ns.getD 3 0 : Nat) : Int), intsN (ns.drop 4), ms) else none
theorem supOf_no {ns : List Nat} {ms : List Mrk} (h : superB (ns.getD 0 0) (ns.getD 1 0) (ns.getD 2 0) (ns.getD 3 0) (intsN (ns.drop 4)) ms = false) : supOf ns ms = none := by unfold supOf; rw [h]; rfl
theorem supOf_yes {ns : List Nat} {ms : List Mrk} (h : superB (ns.getD 0 0) (ns.getD 1 0) (ns.getD 2 0) (ns.getD 3 0) (intsN (ns.drop 4)) ms = true) : supOf ns ms = some (((ns.getD 0 0 : Nat) : Int), ((ns.getD 1 0 : Nat) : Int), ((ns.getD 2 0 : Nat) : Int), ((ns.getD 3 0 : Nat) : Int), intsN (ns.drop 4), ms) := by unfold supOf; rw [h]; rfl
theorem supOf_super {ns : List Nat} {ms : List Mrk} {g b p t : Int} {xs : List Int} {ms' : List Mrk} (h : supOf ns ms = some (g, b, p, t, xs, ms')) : superB g b p t xs ms' = true := by
  unfold supOf at h
  split at h
  · rename_i hs
    injection h with h
    injection h with h0 h
    injection h with h1 h
    injection h with h2 h
    injection h with h3 h
    injection h with h4 h5
    subst h0 h1 h2 h3 h4 h5
    exact hs
  · cases h
/-- The super of a head and a tail. -/
def partU (h m : List UInt8) : Option U6 := (numsO h).bind fun ns => if 4 ≤ ns.length then (marksO m).bind (supOf ns) else none
theorem partU_nums {h m : List UInt8} (e : numsO h = none) : partU h m = none := by unfold partU; rw [e]; rfl
theorem partU_few {h m : List UInt8} {ns : List Nat} (e : numsO h = some ns) (hl : ns.length < 4) : partU h m = none := by
  unfold partU; rw [e, Option.bind_some, if_neg (by omega)]
theorem partU_marks {h m : List UInt8} {ns : List Nat} (e : numsO h = some ns) (hm : marksO m = none) : partU h m = none := by
  unfold partU; rw [e, Option.bind_some, hm]; simp
theorem partU_yes {h m : List UInt8} {ns : List Nat} {ms : List Mrk} (e : numsO h = some ns) (hl : 4 ≤ ns.length) (hm : marksO m = some ms) : partU h m = supOf ns ms := by
  unfold partU; rw [e, Option.bind_some, if_pos hl, hm]; rfl
theorem partU_super {h m : List UInt8} {g b p t : Int} {xs : List Int} {ms : List Mrk} (e : partU h m = some (g, b, p, t, xs, ms)) : superB g b p t xs ms = true := by
  unfold partU at e
  cases hn : numsO h with
  | none => rw [hn] at e; cases e
  | some ns =>
    rw [hn, Option.bind_some] at e
    split at e
    · cases hm : marksO m with
      | none => rw [hm] at e; cases e
      | some ms' => rw [hm, Option.bind_some] at e; exact supOf_super e
    · cases e
theorem letB_bar {s : ByteArray} (h : 124 ∈ s.data.toList) : nmB s = false := by
  obtain ⟨k, hk, e⟩ := List.getElem_of_mem h
  have hk' : k < s.size := by rw [ba_size]; exact hk
  refine nmB_no hk' ?_
  unfold letB
  rw [List.getD_eq_getElem?_getD, List.getElem?_eq_getElem hk, e]
  decide
theorem superB_marks {g b p t : Int} {xs : List Int} {ms : List Mrk} {m : Mrk} (hm : m ∈ ms) (h : nmB m.1 = false) : superB g b p t xs ms = false := by
  obtain ⟨k, hk, e⟩ := List.getElem_of_mem hm
  have hms : msB ms = false := by
    unfold msB
    rw [show (List.range ms.length).all (okMk ms) = false from List.all_eq_false.2 ⟨k, by simpa using hk, ?_⟩]
    · simp
    · unfold okMk mkB
      rw [List.getD_eq_getElem?_getD, List.getElem?_eq_getElem hk, Option.getD_some, e, h]; simp
  unfold superB; rw [hms]; simp
theorem partU_bar {h m : List UInt8} (hb : 124 ∈ m) : partU h m = none := by
  cases hn : numsO h with
  | none => exact partU_nums hn
  | some ns =>
    by_cases hl : 4 ≤ ns.length
    case neg => exact partU_few hn (by omega)
    cases hm : marksO m with
    | none => exact partU_marks hn hm
    | some ms =>
      rw [partU_yes hn hl hm]
      refine supOf_no ?_
      have hne : ¬ m.length = 0 := fun e => by rw [List.length_eq_zero_iff] at e; subst e; simp at hb
      unfold marksO at hm
      rw [if_neg hne] at hm
      obtain ⟨w, hw, hbw⟩ := cutL_mem (c := 44) (x := 124) (by decide) hb
      obtain ⟨q, hq, e⟩ := marksL_all hm hw
      refine superB_marks hq ?_
      rcases part_at 61 w with h1 | ⟨a, b, h1, e1⟩
      · rw [wordM_miss h1] at e; cases e
      · rw [e1, wordM_hit h1] at e
        split at e
        · rename_i hp
          injection e with e
          subst e
          rw [e1] at hbw
          have hba : 124 ∈ a := by
            rcases List.mem_append.1 hbw with h2 | h2
            · exact h2
            · rcases List.mem_cons.1 h2 with h3 | h3
              · exact absurd h3 (by decide)
              · exact absurd (digL_mem (plainB_dig hp) h3) (by decide)
          exact letB_bar (by rw [baL_list]; exact hba)
        · cases e

/-- The super of a text, if it is one. -/
def rdU (t : ByteArray) : Option U6 :=
  if opensB t && (Lib.cut (bodyOf t).data.toList [124]).2.2 then partU (Lib.cut (bodyOf t).data.toList [124]).1 (Lib.cut (bodyOf t).data.toList [124]).2.1 else none
theorem rdU_shut {t : ByteArray} (h : opensB t = false) : rdU t = none := by unfold rdU; rw [h]; rfl
theorem rdU_miss {t : ByteArray} (h : 124 ∉ (bodyOf t).data.toList) : rdU t = none := by unfold rdU; rw [cut_miss h]; simp
theorem rdU_hit {t : ByteArray} {a b : List UInt8} (h : opensB t = true) (h2 : 124 ∉ a) (e : (bodyOf t).data.toList = a ++ 124 :: b) : rdU t = partU a b := by
  unfold rdU; rw [h, e, cut_hit h2]; rfl
theorem rdU_two {t : ByteArray} {a b : List UInt8} (h : opensB t = true) (e : cutL 124 (bodyOf t).data.toList = [a, b]) : rdU t = partU a b := by
  obtain ⟨a', b', h1, h2, h3, _⟩ := cutL_two (c := 124) (s := (bodyOf t).data.toList) (by rw [e]; rfl)
  rw [e] at h1
  injection h1 with e1 h1
  injection h1 with e2 _
  subst e1 e2
  exact rdU_hit h h3 h2
theorem rdU_more {t : ByteArray} (h : (cutL 124 (bodyOf t).data.toList).length ≠ 2) : rdU t = none := by
  cases ho : opensB t with
  | false => exact rdU_shut ho
  | true =>
    rcases part_at 124 (bodyOf t).data.toList with h1 | ⟨a, b, h1, e⟩
    · exact rdU_miss h1
    · rw [rdU_hit ho h1 e]
      refine partU_bar ?_
      by_cases hb : (124 : UInt8) ∈ b
      · exact hb
      · exact absurd (by rw [e, cutL_hit 124 a b h1, cutL_miss 124 b hb]; rfl) h
theorem rdU_super {t : ByteArray} {g b p q : Int} {xs : List Int} {ms : List Mrk} (e : rdU t = some (g, b, p, q, xs, ms)) : superB g b p q xs ms = true := by
  unfold rdU at e
  split at e
  · exact partU_super e
  · cases e
/-- The super and the code that a text has. -/
def zU : U6 := (0, 0, 0, 0, [], [])
def suA (t : ByteArray) : U6 := if t.size ≤ 65536 then (rdU t).getD zU else zU
def suC (t : ByteArray) : Int := if t.size ≤ 65536 then (if (rdU t).isSome then 0 else 3) else 2
end Go.Proofs.YtehahodomfbpjaaGreatDoor
/- Contracts of SuperOK, as the program has it. Conditions: the super can be read, and holds at most 1048576 elements of a kind; its table is no longer than its capacity. -/
namespace Go.Proofs.YtehahodomfbpjaaGreatDoor
set_option linter.unusedVariables false
set_option maxRecDepth 100000
open Go.RowKit

theorem bl_asym : ∀ a b : List UInt8, Op.bytesLess a b = true → Op.bytesLess b a = false
  | _, [], h => by simp [Op.bytesLess] at h
  | [], _ :: _, _ => by simp [Op.bytesLess]
  | x :: a, y :: b, h => by
    simp only [Op.bytesLess, Bool.or_eq_true, Bool.and_eq_true, decide_eq_true_eq, beq_iff_eq] at h
    simp only [Op.bytesLess, Bool.or_eq_false_iff, Bool.and_eq_false_iff, decide_eq_false_iff_not, beq_eq_false_iff_ne]
    rcases h with h | ⟨rfl, h⟩
    · have h' : x.toNat < y.toNat := h
      refine ⟨fun h2 => ?_, .inl fun e => ?_⟩
      · have h2' : y.toNat < x.toNat := h2
        omega
      · subst e; omega
    · refine ⟨fun h2 => ?_, .inr (bl_asym a b h)⟩
      have h2' : x.toNat < x.toNat := h2
      omega
theorem bl_irr : ∀ a : List UInt8, Op.bytesLess a a = false
  | [] => by simp [Op.bytesLess]
  | x :: a => by
    simp only [Op.bytesLess, Bool.or_eq_false_iff, Bool.and_eq_false_iff, decide_eq_false_iff_not]
    refine ⟨fun h2 => ?_, .inr (bl_irr a)⟩
    have h2' : x.toNat < x.toNat := h2
    omega
theorem bl_ne (a b : List UInt8) (h : Op.bytesLess a b = true) : (b == a) = false := by
  rw [beq_eq_false_iff_ne]
  rintro rfl
  rw [bl_irr] at h
  cases h
theorem bl_total : ∀ a b : List UInt8, Op.bytesLess a b = false → (Op.bytesLess b a || b == a) = true
  | [], [], _ => by simp
  | _ :: _, [], _ => by simp [Op.bytesLess]
  | [], _ :: _, h => by simp [Op.bytesLess] at h
  | x :: a, y :: b, h => by
    simp only [Op.bytesLess, Bool.or_eq_false_iff, Bool.and_eq_false_iff, decide_eq_false_iff_not, beq_eq_false_iff_ne] at h
    obtain ⟨h1, h2⟩ := h
    have h1' : ¬ x.toNat < y.toNat := h1
    by_cases e : x = y
    · subst e
      have h3 := bl_total a b (by rcases h2 with h2 | h2; exact absurd rfl h2; exact h2)
      simp only [Op.bytesLess, Bool.or_eq_true, Bool.and_eq_true, decide_eq_true_eq, beq_iff_eq, List.cons.injEq, true_and] at h3 ⊢
      rcases h3 with h3 | h3
      · exact .inl (.inr h3)
      · exact .inr h3
    · have hne : x.toNat ≠ y.toNat := fun h => e (UInt8.toNat_inj.1 h)
      have h4 : y < x := (show y.toNat < x.toNat by omega)
      simp [Op.bytesLess, h4]
set_option maxHeartbeats 2000000 in
theorem isTable_c (A : Option Addr) (c B : Nat) (xs : List Int) (w : World) (h : Ins w B A xs) (hn : xs.length ≤ 1048576) (hc : xs.length ≤ c) :
    Calls Tryz.prog 189 #[.slice A xs.length c] w fun e w' => e = .returned (.bool (tbB xs)) ∧ w = w' := by
  by_cases hl : xs.length ≤ 20
  case neg =>
    have hd : decide (20 < (xs.length : Int)) = true := by simp; omega
    have HR := Lib.hid (tbB_len (xs := xs) (by omega)).symm
    go_enter Tryz.func189, Tryz.ntmps189
    go_wp2
    go_ret
    exact ⟨ret_bool HR.out, rfl⟩
  have hd : decide (20 < (xs.length : Int)) = false := by simp; omega
  go_enter Tryz.func189, Tryz.ntmps189
  go_wp2
  go_loop [10] (fun i => ∃ k : Nat, k ≤ xs.length ∧ i = .int .i64 k ∧ TbTo xs k) (fun i => xs.length - (intOf i).toNat)
  case atStart => exact ⟨0, Nat.zero_le _, rfl, TbTo.zero _⟩
  case round =>
    obtain ⟨k, hk, rfl, hto⟩ := hrel
    by_cases hlt : k < xs.length
    · obtain ⟨bb, off, rfl, hb, k0⟩ := h.at_ hlt
      obtain ⟨q, Hq⟩ : ∃ q, Hid (xs.getD k 0 = q) := ⟨_, rfl⟩
      rw [Hq.out] at k0
      have hkc : (k : Int) ≤ (c : Int) := by omega
      cases hin : inB 10 63 q with
      | false =>
        have HC := Lib.hid hin
        have HR := Lib.hid (tbB_no hlt (by unfold tbOk; rw [Hq.out, hin]; rfl)).symm
        clear hin
        go_wp2_with (go_at_call 188; refine (isWithin_c _ _ _ _).mono ?_; rintro e w' ⟨rfl, rfl⟩; rw [HC.out])
        go_ret
        exact ⟨ret_bool HR.out, rfl⟩
      | true =>
        have HC := Lib.hid hin
        clear hin
        cases hh : hasB xs k q with
        | true =>
          have HX := Lib.hid hh
          have HR := Lib.hid (tbB_no hlt (by unfold tbOk; rw [Hq.out, hh]; simp)).symm
          clear hh
          go_wp2_with (first | (go_at_call 188; refine (isWithin_c _ _ _ _).mono ?_; rintro e w' ⟨rfl, rfl⟩; rw [HC.out]) | (go_at_call 175; refine (contains_c (some ⟨bb, off, none⟩) k c B xs q _ h (by omega) hn).mono ?_; rintro e w' ⟨rfl, rfl⟩; rw [HX.out]))
          go_ret
          exact ⟨ret_bool HR.out, rfl⟩
        | false =>
          have HX := Lib.hid hh
          have HT := Lib.hid (hto.succ (by unfold tbOk; rw [Hq.out, HC.out, hh]; rfl))
          clear hh
          go_wp2_with (first | (go_at_call 188; refine (isWithin_c _ _ _ _).mono ?_; rintro e w' ⟨rfl, rfl⟩; rw [HC.out]) | (go_at_call 175; refine (contains_c (some ⟨bb, off, none⟩) k c B xs q _ h (by omega) hn).mono ?_; rintro e w' ⟨rfl, rfl⟩; rw [HX.out]))
          go_round
          case rel => exact ⟨k + 1, by omega, by go_num, HT.out⟩
          case measure => simp [intOf]; omega
    · obtain rfl : k = xs.length := by omega
      have HR := Lib.hid (tbB_mk hl hto).symm
      go_wp2
      go_ret
      exact ⟨ret_bool HR.out, rfl⟩
set_option maxHeartbeats 4000000 in
theorem areMarks_c (A2 : Option Addr) (c2 B : Nat) (ms : List Mrk) (w : World) (h2 : Mks w B A2 ms) (hB : B ≤ w.heap.size) (hn : ms.length ≤ 1048576) (hm : AllM ms) :
    Calls Tryz.prog 190 #[.slice A2 ms.length c2] w fun e w' => e = .returned (.bool (msB ms)) ∧ Nx w w' := by
  by_cases hl : ms.length ≤ 4
  case neg =>
    have hd : decide (4 < (ms.length : Int)) = true := by simp; omega
    have HR := Lib.hid (msB_len (ms := ms) (by omega)).symm
    go_enter Tryz.func190, Tryz.ntmps190
    go_wp2
    go_ret
    exact ⟨ret_bool HR.out, Nx.refl _⟩
  have hd : decide (4 < (ms.length : Int)) = false := by simp; omega
  go_enter Tryz.func190, Tryz.ntmps190
  go_wp2
  go_loopw [10] (fun i wr => ∃ k : Nat, k ≤ ms.length ∧ i = .int .i64 k ∧ MkTo ms k ∧ Nx w wr) (fun i _ => ms.length - (intOf i).toNat)
  case atStart => exact ⟨0, Nat.zero_le _, rfl, MkTo.zero _, Nx.refl _⟩
  case round =>
    obtain ⟨k, hk, rfl, hto, hnx⟩ := hrel
    by_cases hlt : k < ms.length
    · obtain ⟨bb, off, rfl, hb, k0, k1⟩ := (h2.below hnx hB).at_ hlt
      have hsz := hm k
      obtain ⟨⟨q0, q1⟩, Hq⟩ : ∃ q, Hid (ms.getD k mrZ = q) := ⟨_, rfl⟩
      rw [Hq.out] at k0 k1 hsz
      go_wp2_with fail
      have bq := Box.new wr 199 #[.string q0, .int .i64 q1]
      have hnxq := hnx.alloc (.cells #[.string q0, .int .i64 q1] 199)
      have hMq := h2.below hnxq hB
      generalize wr.alloc (.cells #[.string q0, .int .i64 q1] 199) = wq at *
      clear k0 k1
      have k0 := bq.c0
      have k1 := bq.c1
      cases hnm : nmB q0 with
      | false =>
        have HN := Lib.hid hnm
        have HR := Lib.hid (msB_no hlt (by unfold okMk mkB; rw [Hq.out]; simp [hnm])).symm
        clear hnm
        refine wp_region_lex [false, false, true, false, false, false, false, false, false, false, false, false, false, false, false, false, false, false, false, false, false, false, false, false, false] (fun w' => w'.cell? ⟨wr.heap.size, 0, none⟩ = some (.string q0) ∧ w'.cell? ⟨wr.heap.size, 1, none⟩ = some (.int .i64 q1)) (by kernel_rfl) (by kernel_rfl) rfl (by kernel_rfl) (fun _ _ d _ _ h => by cases d <;> exact h) (by exact ⟨k0, k1⟩) ?_
        repeat (first | (refine HL.take (v := ?_) (by rfl) ?_ ?_; rotate_left; (· (intro w hSw; (try dsimp only at hSw); go_simp; try with_reducible rfl)); (try simp only [Act.put, List.setIfInBounds_toArray, List.set_cons_zero, List.set_cons_succ])) | (refine HL.skip (by rfl) ?_; (try simp only [Act.put, List.setIfInBounds_toArray, List.set_cons_zero, List.set_cons_succ])))
        refine HL.call (by rfl) (fun K hK => ?_)
        go_simp
        refine (isMarkName_c q0 _ hsz).mono ?_; rintro e w' ⟨rfl, rfl⟩; rw [HN.out]
        go_wp2_with fail
        refine hK.out _ _ (by exact ⟨k0, k1⟩) ?_
        clear hK K
        try simp only [Act.put, List.setIfInBounds_toArray, List.set_cons_zero, List.set_cons_succ]
        repeat (first | (refine HL.take (v := ?_) (by rfl) ?_ ?_; rotate_left; (· (intro w hSw; (try dsimp only at hSw); go_simp; try with_reducible rfl)); (try simp only [Act.put, List.setIfInBounds_toArray, List.set_cons_zero, List.set_cons_succ])) | (refine HL.skip (by rfl) ?_; (try simp only [Act.put, List.setIfInBounds_toArray, List.set_cons_zero, List.set_cons_succ])))
        refine HL.done ?_
        go_wp2
        go_ret
        exact ⟨ret_bool HR.out, hnxq.drew⟩
      | true =>
        have HN := Lib.hid hnm
        clear hnm
        cases hps : inB 0 999999 q1 with
        | false =>
          have HP := Lib.hid hps
          have HR := Lib.hid (msB_no hlt (by unfold okMk mkB; rw [Hq.out]; simp [hps])).symm
          clear hps
          refine wp_region_lex [false, false, true, false, false, false, false, true, false, false, false, false, false, false, false, false, false, false, false, false, false, false, false, false, false] (fun w' => w'.cell? ⟨wr.heap.size, 0, none⟩ = some (.string q0) ∧ w'.cell? ⟨wr.heap.size, 1, none⟩ = some (.int .i64 q1)) (by kernel_rfl) (by kernel_rfl) rfl (by kernel_rfl) (fun _ _ d _ _ h => by cases d <;> exact h) (by exact ⟨k0, k1⟩) ?_
          repeat (first | (refine HL.take (v := ?_) (by rfl) ?_ ?_; rotate_left; (· (intro w hSw; (try dsimp only at hSw); go_simp; try with_reducible rfl)); (try simp only [Act.put, List.setIfInBounds_toArray, List.set_cons_zero, List.set_cons_succ])) | (refine HL.skip (by rfl) ?_; (try simp only [Act.put, List.setIfInBounds_toArray, List.set_cons_zero, List.set_cons_succ])))
          refine HL.call (by rfl) (fun K hK => ?_)
          go_simp
          refine (isMarkName_c q0 _ hsz).mono ?_; rintro e w' ⟨rfl, rfl⟩; rw [HN.out]
          go_wp2_with fail
          refine hK.out _ _ (by exact ⟨k0, k1⟩) ?_
          clear hK K
          try simp only [Act.put, List.setIfInBounds_toArray, List.set_cons_zero, List.set_cons_succ]
          repeat (first | (refine HL.take (v := ?_) (by rfl) ?_ ?_; rotate_left; (· (intro w hSw; (try dsimp only at hSw); go_simp; try with_reducible rfl)); (try simp only [Act.put, List.setIfInBounds_toArray, List.set_cons_zero, List.set_cons_succ])) | (refine HL.skip (by rfl) ?_; (try simp only [Act.put, List.setIfInBounds_toArray, List.set_cons_zero, List.set_cons_succ])))
          refine HL.call (by rfl) (fun K hK => ?_)
          go_simp
          refine (isPosition_c q1 _).mono ?_; rintro e w' ⟨rfl, rfl⟩; rw [HP.out]
          go_wp2_with fail
          refine hK.out _ _ (by exact ⟨k0, k1⟩) ?_
          clear hK K
          try simp only [Act.put, List.setIfInBounds_toArray, List.set_cons_zero, List.set_cons_succ]
          repeat (first | (refine HL.take (v := ?_) (by rfl) ?_ ?_; rotate_left; (· (intro w hSw; (try dsimp only at hSw); go_simp; try with_reducible rfl)); (try simp only [Act.put, List.setIfInBounds_toArray, List.set_cons_zero, List.set_cons_succ])) | (refine HL.skip (by rfl) ?_; (try simp only [Act.put, List.setIfInBounds_toArray, List.set_cons_zero, List.set_cons_succ])))
          refine HL.done ?_
          go_wp2
          go_ret
          exact ⟨ret_bool HR.out, hnxq.drew⟩
        | true =>
          have HP := Lib.hid hps
          clear hps
          by_cases hk0 : k = 0
          · have hd0 : decide (0 < (k : Int)) = false := by simp; omega
            have hd1 : decide (0 < k) = false := by simp; omega
            have HO := Lib.hid (hto.succ (by unfold okMk mkB; rw [Hq.out, HN.out, HP.out, hk0]; rfl))
            clear hk0
            refine wp_region_lex [false, false, true, false, false, false, false, true, false, false, false, false, false, false, false, false, false, false, false, false, false, false, false, false, false] (fun w' => w'.cell? ⟨wr.heap.size, 0, none⟩ = some (.string q0) ∧ w'.cell? ⟨wr.heap.size, 1, none⟩ = some (.int .i64 q1)) (by kernel_rfl) (by kernel_rfl) rfl (by kernel_rfl) (fun _ _ d _ _ h => by cases d <;> exact h) (by exact ⟨k0, k1⟩) ?_
            repeat (first | (refine HL.take (v := ?_) (by rfl) ?_ ?_; rotate_left; (· (intro w hSw; (try dsimp only at hSw); go_simp; try with_reducible rfl)); (try simp only [Act.put, List.setIfInBounds_toArray, List.set_cons_zero, List.set_cons_succ])) | (refine HL.skip (by rfl) ?_; (try simp only [Act.put, List.setIfInBounds_toArray, List.set_cons_zero, List.set_cons_succ])))
            refine HL.call (by rfl) (fun K hK => ?_)
            go_simp
            refine (isMarkName_c q0 _ hsz).mono ?_; rintro e w' ⟨rfl, rfl⟩; rw [HN.out]
            go_wp2_with fail
            refine hK.out _ _ (by exact ⟨k0, k1⟩) ?_
            clear hK K
            try simp only [Act.put, List.setIfInBounds_toArray, List.set_cons_zero, List.set_cons_succ]
            repeat (first | (refine HL.take (v := ?_) (by rfl) ?_ ?_; rotate_left; (· (intro w hSw; (try dsimp only at hSw); go_simp; try with_reducible rfl)); (try simp only [Act.put, List.setIfInBounds_toArray, List.set_cons_zero, List.set_cons_succ])) | (refine HL.skip (by rfl) ?_; (try simp only [Act.put, List.setIfInBounds_toArray, List.set_cons_zero, List.set_cons_succ])))
            refine HL.call (by rfl) (fun K hK => ?_)
            go_simp
            refine (isPosition_c q1 _).mono ?_; rintro e w' ⟨rfl, rfl⟩; rw [HP.out]
            go_wp2_with fail
            refine hK.out _ _ (by exact ⟨k0, k1⟩) ?_
            clear hK K
            try simp only [Act.put, List.setIfInBounds_toArray, List.set_cons_zero, List.set_cons_succ]
            repeat (first | (refine HL.take (v := ?_) (by rfl) ?_ ?_; rotate_left; (· (intro w hSw; (try dsimp only at hSw); go_simp; try with_reducible rfl)); (try simp only [Act.put, List.setIfInBounds_toArray, List.set_cons_zero, List.set_cons_succ])) | (refine HL.skip (by rfl) ?_; (try simp only [Act.put, List.setIfInBounds_toArray, List.set_cons_zero, List.set_cons_succ])))
            refine HL.done ?_
            go_wp2
            go_roundw
            case rel => exact ⟨k + 1, by omega, by go_num, HO.out, hnxq.drew⟩
            case measure => simp [intOf]; omega
          · obtain ⟨j, rfl⟩ : ∃ j, k = j + 1 := ⟨k - 1, by omega⟩
            obtain ⟨b', off', he, _, m0, _⟩ := hMq.at_ (k := j) (by omega)
            obtain ⟨rfl, rfl⟩ : bb = b' ∧ off = off' := by simpa using he
            clear he
            obtain ⟨⟨r0, r1⟩, Hr⟩ : ∃ q, Hid (ms.getD j mrZ = q) := ⟨_, rfl⟩
            rw [Hr.out] at m0
            have hd0 : decide (0 < ((j : Int) + 1)) = true := by simp
            have hd1 : decide (0 < j + 1) = true := by simp
            have hi1 : (0 : Int) ≤ (j : Int) + 1 := by omega
            have hi2 : (j : Int) + 1 < (ms.length : Int) := by omega
            have hi4 : (j : Int) < (ms.length : Int) := by omega
            have hi5 : j < ms.length := by omega
            have hi3 : ((j : Int) + 1).toNat = j + 1 := by omega
            have hw1 : IntKind.i64.wrap ((j : Int) + 1 - 1) = (j : Int) := by rw [Int.add_sub_cancel]; exact IntWalk.i64_in _ (by omega)
            have hw2 : IntKind.i64.wrap (j : Int) = (j : Int) := IntWalk.i64_in _ (by omega)
            have hi6 : (0 : Int) ≤ (j : Int) := by omega
            cases hlt2 : Op.bytesLess r0.toList q0.toList with
            | true =>
              have HO := Lib.hid (hto.succ (by unfold okMk mkB; rw [Hq.out, HN.out, HP.out, Nat.add_sub_cancel, Hr.out, hlt2]; simp))
              have hg1 : Op.bytesLess q0.toList r0.toList = false := bl_asym _ _ hlt2
              have hg2 : (q0.toList == r0.toList) = false := bl_ne _ _ hlt2
              clear hlt2
              refine wp_region_lex [false, false, true, false, false, false, false, true, false, false, false, false, false, false, false, false, false, false, false, false, false, false, false, false, false] (fun w' => w'.cell? ⟨wr.heap.size, 0, none⟩ = some (.string q0) ∧ w'.cell? ⟨wr.heap.size, 1, none⟩ = some (.int .i64 q1) ∧ w'.cell? ⟨bb, off + j * 2, none⟩ = some (.string r0)) (by kernel_rfl) (by kernel_rfl) rfl (by kernel_rfl) (fun _ _ d _ _ h => by cases d <;> exact h) (by exact ⟨k0, k1, m0⟩) ?_
              repeat (first | (refine HL.take (v := ?_) (by rfl) ?_ ?_; rotate_left; (· (intro w hSw; (try dsimp only at hSw); go_simp; try with_reducible rfl)); (try simp only [Act.put, List.setIfInBounds_toArray, List.set_cons_zero, List.set_cons_succ])) | (refine HL.skip (by rfl) ?_; (try simp only [Act.put, List.setIfInBounds_toArray, List.set_cons_zero, List.set_cons_succ])))
              refine HL.call (by rfl) (fun K hK => ?_)
              go_simp
              refine (isMarkName_c q0 _ hsz).mono ?_; rintro e w' ⟨rfl, rfl⟩; rw [HN.out]
              go_wp2_with fail
              refine hK.out _ _ (by exact ⟨k0, k1, m0⟩) ?_
              clear hK K
              try simp only [Act.put, List.setIfInBounds_toArray, List.set_cons_zero, List.set_cons_succ]
              repeat (first | (refine HL.take (v := ?_) (by rfl) ?_ ?_; rotate_left; (· (intro w hSw; (try dsimp only at hSw); go_simp; try with_reducible rfl)); (try simp only [Act.put, List.setIfInBounds_toArray, List.set_cons_zero, List.set_cons_succ])) | (refine HL.skip (by rfl) ?_; (try simp only [Act.put, List.setIfInBounds_toArray, List.set_cons_zero, List.set_cons_succ])))
              refine HL.call (by rfl) (fun K hK => ?_)
              go_simp
              refine (isPosition_c q1 _).mono ?_; rintro e w' ⟨rfl, rfl⟩; rw [HP.out]
              go_wp2_with fail
              refine hK.out _ _ (by exact ⟨k0, k1, m0⟩) ?_
              clear hK K
              try simp only [Act.put, List.setIfInBounds_toArray, List.set_cons_zero, List.set_cons_succ]
              repeat (first | (refine HL.take (v := ?_) (by rfl) ?_ ?_; rotate_left; (· (intro w hSw; (try dsimp only at hSw); go_simp; try with_reducible rfl)); (try simp only [Act.put, List.setIfInBounds_toArray, List.set_cons_zero, List.set_cons_succ])) | (refine HL.skip (by rfl) ?_; (try simp only [Act.put, List.setIfInBounds_toArray, List.set_cons_zero, List.set_cons_succ])))
              refine HL.done ?_
              clear hw1 hw2 hi6 hi1 hi2 hi3 hi4 hi5
              go_wp2
              go_roundw
              case rel => exact ⟨j + 1 + 1, by omega, by go_num, HO.out, hnxq.drew⟩
              case measure => simp [intOf]; omega
            | false =>
              have HR := Lib.hid (msB_no hlt (by unfold okMk mkB; rw [Hq.out]; rw [Nat.add_sub_cancel, Hr.out, hlt2]; simp)).symm
              have hg : (Op.bytesLess q0.toList r0.toList || q0.toList == r0.toList) = true := bl_total _ _ hlt2
              clear hlt2
              cases hg1 : Op.bytesLess q0.toList r0.toList with
              | true =>
                clear hg
                refine wp_region_lex [false, false, true, false, false, false, false, true, false, false, false, false, false, false, false, false, false, false, false, false, false, false, false, false, false] (fun w' => w'.cell? ⟨wr.heap.size, 0, none⟩ = some (.string q0) ∧ w'.cell? ⟨wr.heap.size, 1, none⟩ = some (.int .i64 q1) ∧ w'.cell? ⟨bb, off + j * 2, none⟩ = some (.string r0)) (by kernel_rfl) (by kernel_rfl) rfl (by kernel_rfl) (fun _ _ d _ _ h => by cases d <;> exact h) (by exact ⟨k0, k1, m0⟩) ?_
                repeat (first | (refine HL.take (v := ?_) (by rfl) ?_ ?_; rotate_left; (· (intro w hSw; (try dsimp only at hSw); go_simp; try with_reducible rfl)); (try simp only [Act.put, List.setIfInBounds_toArray, List.set_cons_zero, List.set_cons_succ])) | (refine HL.skip (by rfl) ?_; (try simp only [Act.put, List.setIfInBounds_toArray, List.set_cons_zero, List.set_cons_succ])))
                refine HL.call (by rfl) (fun K hK => ?_)
                go_simp
                refine (isMarkName_c q0 _ hsz).mono ?_; rintro e w' ⟨rfl, rfl⟩; rw [HN.out]
                go_wp2_with fail
                refine hK.out _ _ (by exact ⟨k0, k1, m0⟩) ?_
                clear hK K
                try simp only [Act.put, List.setIfInBounds_toArray, List.set_cons_zero, List.set_cons_succ]
                repeat (first | (refine HL.take (v := ?_) (by rfl) ?_ ?_; rotate_left; (· (intro w hSw; (try dsimp only at hSw); go_simp; try with_reducible rfl)); (try simp only [Act.put, List.setIfInBounds_toArray, List.set_cons_zero, List.set_cons_succ])) | (refine HL.skip (by rfl) ?_; (try simp only [Act.put, List.setIfInBounds_toArray, List.set_cons_zero, List.set_cons_succ])))
                refine HL.call (by rfl) (fun K hK => ?_)
                go_simp
                refine (isPosition_c q1 _).mono ?_; rintro e w' ⟨rfl, rfl⟩; rw [HP.out]
                go_wp2_with fail
                refine hK.out _ _ (by exact ⟨k0, k1, m0⟩) ?_
                clear hK K
                try simp only [Act.put, List.setIfInBounds_toArray, List.set_cons_zero, List.set_cons_succ]
                repeat (first | (refine HL.take (v := ?_) (by rfl) ?_ ?_; rotate_left; (· (intro w hSw; (try dsimp only at hSw); go_simp; try with_reducible rfl)); (try simp only [Act.put, List.setIfInBounds_toArray, List.set_cons_zero, List.set_cons_succ])) | (refine HL.skip (by rfl) ?_; (try simp only [Act.put, List.setIfInBounds_toArray, List.set_cons_zero, List.set_cons_succ])))
                refine HL.done ?_
                clear hw1 hw2 hi6 hi1 hi2 hi3 hi4 hi5
                go_wp2
                go_ret
                exact ⟨ret_bool HR.out, hnxq.drew⟩
              | false =>
                rw [hg1, Bool.false_or] at hg
                refine wp_region_lex [false, false, true, false, false, false, false, true, false, false, false, false, false, false, false, false, false, false, false, false, false, false, false, false, false] (fun w' => w'.cell? ⟨wr.heap.size, 0, none⟩ = some (.string q0) ∧ w'.cell? ⟨wr.heap.size, 1, none⟩ = some (.int .i64 q1) ∧ w'.cell? ⟨bb, off + j * 2, none⟩ = some (.string r0)) (by kernel_rfl) (by kernel_rfl) rfl (by kernel_rfl) (fun _ _ d _ _ h => by cases d <;> exact h) (by exact ⟨k0, k1, m0⟩) ?_
                repeat (first | (refine HL.take (v := ?_) (by rfl) ?_ ?_; rotate_left; (· (intro w hSw; (try dsimp only at hSw); go_simp; try with_reducible rfl)); (try simp only [Act.put, List.setIfInBounds_toArray, List.set_cons_zero, List.set_cons_succ])) | (refine HL.skip (by rfl) ?_; (try simp only [Act.put, List.setIfInBounds_toArray, List.set_cons_zero, List.set_cons_succ])))
                refine HL.call (by rfl) (fun K hK => ?_)
                go_simp
                refine (isMarkName_c q0 _ hsz).mono ?_; rintro e w' ⟨rfl, rfl⟩; rw [HN.out]
                go_wp2_with fail
                refine hK.out _ _ (by exact ⟨k0, k1, m0⟩) ?_
                clear hK K
                try simp only [Act.put, List.setIfInBounds_toArray, List.set_cons_zero, List.set_cons_succ]
                repeat (first | (refine HL.take (v := ?_) (by rfl) ?_ ?_; rotate_left; (· (intro w hSw; (try dsimp only at hSw); go_simp; try with_reducible rfl)); (try simp only [Act.put, List.setIfInBounds_toArray, List.set_cons_zero, List.set_cons_succ])) | (refine HL.skip (by rfl) ?_; (try simp only [Act.put, List.setIfInBounds_toArray, List.set_cons_zero, List.set_cons_succ])))
                refine HL.call (by rfl) (fun K hK => ?_)
                go_simp
                refine (isPosition_c q1 _).mono ?_; rintro e w' ⟨rfl, rfl⟩; rw [HP.out]
                go_wp2_with fail
                refine hK.out _ _ (by exact ⟨k0, k1, m0⟩) ?_
                clear hK K
                try simp only [Act.put, List.setIfInBounds_toArray, List.set_cons_zero, List.set_cons_succ]
                repeat (first | (refine HL.take (v := ?_) (by rfl) ?_ ?_; rotate_left; (· (intro w hSw; (try dsimp only at hSw); go_simp; try with_reducible rfl)); (try simp only [Act.put, List.setIfInBounds_toArray, List.set_cons_zero, List.set_cons_succ])) | (refine HL.skip (by rfl) ?_; (try simp only [Act.put, List.setIfInBounds_toArray, List.set_cons_zero, List.set_cons_succ])))
                refine HL.done ?_
                clear hw1 hw2 hi6 hi1 hi2 hi3 hi4 hi5
                go_wp2
                go_ret
                exact ⟨ret_bool HR.out, hnxq.drew⟩
    · obtain rfl : k = ms.length := by omega
      have HR := Lib.hid (msB_mk hl hto).symm
      go_wp2
      go_ret
      exact ⟨ret_bool HR.out, hnx⟩
set_option maxHeartbeats 4000000 in
theorem superRight_c (g b p t : Int) (A A2 : Option Addr) (c c2 B : Nat) (xs : List Int) (ms : List Mrk) (w : World) (h : Ins w B A xs) (h2 : Mks w B A2 ms) (hB : B ≤ w.heap.size) (hn : xs.length ≤ 1048576) (hn2 : ms.length ≤ 1048576) (hc : xs.length ≤ c) (hm : AllM ms) :
    Calls Tryz.prog 110 #[.agg #[.int .i64 g, .int .i64 b, .int .i64 p, .int .i64 t, .slice A xs.length c, .slice A2 ms.length c2]] w fun e w' => e = .returned (.bool (superB g b p t xs ms)) ∧ Nx w w' := by
  cases x0 : inB 1 999999 g with
  | false =>
    have H0 := Lib.hid x0
    clear x0
    have HR := Lib.hid (superB_no (g := g) (b := b) (p := p) (t := t) (xs := xs) (ms := ms) (by simp [H0.out])).symm
    go_enter Tryz.func110, Tryz.ntmps110
    go_wp2_with (first | (go_at_call 188; refine (isWithin_c _ _ _ _).mono ?_; rintro e w' ⟨rfl, rfl⟩; first | rw [H0.out]))
    go_ret
    exact ⟨ret_bool HR.out, (Nx.refl _).alloc _⟩
  | true =>
  have H0 := Lib.hid x0
  clear x0
  cases x1 : inB 0 999999 b with
  | false =>
    have H1 := Lib.hid x1
    clear x1
    have HR := Lib.hid (superB_no (g := g) (b := b) (p := p) (t := t) (xs := xs) (ms := ms) (by simp [H1.out])).symm
    go_enter Tryz.func110, Tryz.ntmps110
    go_wp2_with (first | (go_at_call 188; refine (isWithin_c _ _ _ _).mono ?_; rintro e w' ⟨rfl, rfl⟩; first | rw [H0.out]) | (go_at_call 149; refine (isPosition_c _ _).mono ?_; rintro e w' ⟨rfl, rfl⟩; rw [H1.out]))
    go_ret
    exact ⟨ret_bool HR.out, (Nx.refl _).alloc _⟩
  | true =>
  have H1 := Lib.hid x1
  clear x1
  cases x2 : inB b 999999 p with
  | false =>
    have H2 := Lib.hid x2
    clear x2
    have HR := Lib.hid (superB_no (g := g) (b := b) (p := p) (t := t) (xs := xs) (ms := ms) (by simp [H2.out])).symm
    go_enter Tryz.func110, Tryz.ntmps110
    go_wp2_with (first | (go_at_call 188; refine (isWithin_c _ _ _ _).mono ?_; rintro e w' ⟨rfl, rfl⟩; first | rw [H0.out] | rw [H2.out]) | (go_at_call 149; refine (isPosition_c _ _).mono ?_; rintro e w' ⟨rfl, rfl⟩; rw [H1.out]))
    go_ret
    exact ⟨ret_bool HR.out, (Nx.refl _).alloc _⟩
  | true =>
  have H2 := Lib.hid x2
  clear x2
  cases x3 : inB b 999999 t with
  | false =>
    have H3 := Lib.hid x3
    clear x3
    have HR := Lib.hid (superB_no (g := g) (b := b) (p := p) (t := t) (xs := xs) (ms := ms) (by simp [H3.out])).symm
    go_enter Tryz.func110, Tryz.ntmps110
    go_wp2_with (first | (go_at_call 188; refine (isWithin_c _ _ _ _).mono ?_; rintro e w' ⟨rfl, rfl⟩; first | rw [H0.out] | rw [H2.out] | rw [H3.out]) | (go_at_call 149; refine (isPosition_c _ _).mono ?_; rintro e w' ⟨rfl, rfl⟩; rw [H1.out]))
    go_ret
    exact ⟨ret_bool HR.out, (Nx.refl _).alloc _⟩
  | true =>
  have H3 := Lib.hid x3
  clear x3
  cases x4 : tbB xs with
  | false =>
    have H4 := Lib.hid x4
    clear x4
    have HR := Lib.hid (superB_no (g := g) (b := b) (p := p) (t := t) (xs := xs) (ms := ms) (by simp [H4.out])).symm
    go_enter Tryz.func110, Tryz.ntmps110
    go_wp2_with (first | (go_at_call 188; refine (isWithin_c _ _ _ _).mono ?_; rintro e w' ⟨rfl, rfl⟩; first | rw [H0.out] | rw [H2.out] | rw [H3.out]) | (go_at_call 149; refine (isPosition_c _ _).mono ?_; rintro e w' ⟨rfl, rfl⟩; rw [H1.out]) | (go_at_call 189; refine (isTable_c A c B xs _ (h.below ((Nx.refl w).alloc _) hB) hn hc).mono ?_; rintro e w' ⟨rfl, rfl⟩; rw [H4.out]))
    go_ret
    exact ⟨ret_bool HR.out, (Nx.refl _).alloc _⟩
  | true =>
  have H4 := Lib.hid x4
  clear x4
  have HR := Lib.hid (show msB ms = superB g b p t xs ms by unfold superB; rw [H0.out, H1.out, H2.out, H3.out, H4.out]; rfl)
  go_enter Tryz.func110, Tryz.ntmps110
  go_wp2_with (first | (go_at_call 188; refine (isWithin_c _ _ _ _).mono ?_; rintro e w' ⟨rfl, rfl⟩; first | rw [H0.out] | rw [H2.out] | rw [H3.out]) | (go_at_call 149; refine (isPosition_c _ _).mono ?_; rintro e w' ⟨rfl, rfl⟩; rw [H1.out]) | (go_at_call 189; refine (isTable_c A c B xs _ (h.below ((Nx.refl w).alloc _) hB) hn hc).mono ?_; rintro e w' ⟨rfl, rfl⟩; rw [H4.out]))
  have hx0 := (Nx.refl w).alloc (.cells #[.int .i64 g, .int .i64 b, .int .i64 p, .int .i64 t, .slice A xs.length c, .slice A2 ms.length c2] 30)
  refine (areMarks_c A2 c2 B ms _ (h2.below hx0 hB) (Nat.le_trans hB hx0.size) hn2 hm).mono ?_
  rintro e w1 ⟨rfl, hnx1⟩
  go_wp2
  go_ret
  exact ⟨ret_bool HR.out, hx0.trans hnx1⟩
end Go.Proofs.YtehahodomfbpjaaGreatDoor
/- What the text of a super is: its numbers, its words; laws on lists of words; append of a whole list of ints onto four; rows of words that grow. Conditions: what is read can be read. -/
namespace Go.Proofs.YtehahodomfbpjaaGreatDoor
set_option linter.unusedVariables false
set_option maxRecDepth 100000
open Go.RowKit

theorem superB_yes {g b p t : Int} {xs : List Int} {ms : List Mrk} (h : superB g b p t xs ms = true) :
    (1 ≤ g ∧ g ≤ 999999) ∧ (0 ≤ b ∧ b ≤ 999999) ∧ (b ≤ p ∧ p ≤ 999999) ∧ (b ≤ t ∧ t ≤ 999999) ∧ tbB xs = true ∧ msB ms = true := by
  unfold superB at h
  simp only [Bool.and_eq_true] at h
  exact ⟨inB_yes h.1.1.1.1.1, inB_yes h.1.1.1.1.2, inB_yes h.1.1.1.2, inB_yes h.1.1.2, h.1.2, h.2⟩
theorem tbB_in {xs : List Int} (h : tbB xs = true) {x : Int} (hx : x ∈ xs) : 10 ≤ x ∧ x ≤ 63 := by
  obtain ⟨_, hto⟩ := tbB_yes h
  obtain ⟨i, hi, rfl⟩ := List.getElem_of_mem hx
  have h1 := hto i hi
  unfold tbOk at h1
  rw [Bool.and_eq_true] at h1
  have h2 := inB_yes h1.1
  rwa [List.getD_eq_getElem?_getD, List.getElem?_eq_getElem hi, Option.getD_some] at h2
def wdAt (ws : List ByteArray) (i : Nat) : Value := .string (ws.getD i ByteArray.empty)
theorem iV_one' (xs : List Int) : ∀ u ∈ iV xs, u.oneCell' = true := fun u hu => by
  unfold iV at hu
  obtain ⟨x, _, rfl⟩ := List.mem_map.1 hu
  rfl
theorem iV_len' (xs : List Int) : (iV xs).length = xs.length := by unfold iV; simp
theorem grewT_refl' (t : TypeId) (B : Nat) (w : World) : GrewT t B w w := ⟨fun _ h _ => h, fun _ _ _ h _ => h, fun _ _ _ _ h => h, Nat.le_refl _⟩
theorem grewT_of' {w w' : World} {B : Nat} {v : Value} {xs : List Int} (hown : RowI w B v xs) (hg' : w.grownBy w' v.ownBlock) : GrewT 3 B w w' := by
  have hrow : ∀ k, Value.ownBlock v = some k → B ≤ k := fun k hk => (World.ownsRow.lt hown k hk).1
  refine ⟨fun b hb hbB => Below.grown hb hg' hb.size (fun k hk => Nat.le_trans hbB (hrow k hk)), fun lo hi b hb hbB => ?_, fun g t xs' ht hbg => hbg.grown hg' (hown.ne hbg ht), hg'.size⟩
  refine ⟨hg'.os.trans hb.os, hg'.tape.trans hb.tape, hg'.output.trans hb.output, Nat.le_trans hb.size hg'.size, fun k hk hr => (hg'.block k (Nat.lt_of_lt_of_le hk hb.size) fun e => ?_).trans (hb.block k hk hr)⟩
  have := hrow k e.symm
  omega
/-- Words as values; a row of words that grows. -/
def wV (ws : List ByteArray) : List Value := ws.map .string
theorem infoS : (Tryz.prog.info? 9).map (fun i => (i.zero, i.size, i.bytes)) = some (some (.string ByteArray.empty), 1, 16) := by kernel_rfl
def RowW (w : World) (B : Nat) (v : Value) (ws : List ByteArray) : Prop := w.ownsRow B 9 1 v ws.length (wV ws)
theorem RowW.new (w : World) {B : Nat} (hB : B ≤ w.heap.size) : RowW (w.alloc (.cells #[] 9)) B (.slice (some ⟨w.heap.size, 0, none⟩) 0 0) [] :=
  ⟨rfl, .inr ⟨_, 0, #[], rfl, hB, heap_alloc_new w _, by simp, by unfold maxLen; omega, rfl, rfl⟩⟩
theorem RowW.nx {w w' : World} {B : Nat} {v : Value} {ws : List ByteArray} (h : RowW w B v ws) (hb : Nx w w') : RowW w' B v ws := by
  refine World.ownsRow.kept (row := none) h ⟨hb.os, hb.tape, hb.output, hb.size, fun i hi _ => hb.block i hi⟩ ?_
  cases hv : v.ownBlock with
  | none => exact .inl rfl
  | some g => exact .inr (by simp)
theorem wV_get (ws : List ByteArray) (i : Nat) (h : i < ws.length) : (wV ws)[i]? = some (wdAt ws i) := by
  unfold wV wdAt
  rw [List.getElem?_map, List.getElem?_eq_getElem h, List.getD_eq_getElem?_getD, List.getElem?_eq_getElem h]; rfl
theorem RowW.sl {w : World} {B : Nat} {v : Value} {ws : List ByteArray} (h : RowW w B v ws) : ∃ A c, v = .slice A ws.length c ∧ Sl w B A 9 ws.length (wdAt ws) := by
  rcases h.2 with ⟨rfl, h0⟩ | ⟨g, cap, cur, rfl, hb, hg, hnc, _, hcs, htk⟩
  · exact ⟨none, 0, by rw [h0], fun hn => by omega⟩
  · refine ⟨_, cap, rfl, Sl.own ⟨cur, hg, by omega, fun i hi => ?_⟩ hb⟩
    have h1 : (cur.toList.take (ws.length * 1))[i]? = some (wdAt ws i) := by rw [htk]; exact wV_get ws i hi
    rw [List.getElem?_take_of_lt (by omega)] at h1
    simpa using h1

end Go.Proofs.YtehahodomfbpjaaGreatDoor
/- The library contracts of strings.Cut and strings.Split at this program (the laying alone, printed by the command that lays them). Conditions: none. -/
namespace Go.Proofs
open Go.Shelf
def Tryz.lays145_ren : Go.Shelf.Ren := ⟨fun | 145 => 196 | 220 => 235 | 219 => 254 | 217 => 262 | 225 => 263 | 224 => 264 | 267 => 265 | 266 => 274 | 314 => 275 | n => n, fun | 9 => 9 | 4 => 4 | 59 => 208 | 3 => 3 | 5 => 5 | 46 => 279 | 146 => 289 | 51 => 288 | n => n, fun | 1 => 3 | n => n⟩
theorem Tryz.lays145 : Go.Proofs.Lays.n145 Tryz.prog Tryz.lays145_ren := {
  mixed := by kernel_rfl
  f145 := Tryz.func196.trans (congrArg some (by kernel_rfl))
  f217 := Tryz.func262.trans (congrArg some (by kernel_rfl))
  f219 := Tryz.func254.trans (congrArg some (by kernel_rfl))
  f220 := Tryz.func235.trans (congrArg some (by kernel_rfl))
  f224 := Tryz.func264.trans (congrArg some (by kernel_rfl))
  f225 := Tryz.func263.trans (congrArg some (by kernel_rfl))
  f266 := Tryz.func274.trans (congrArg some (by kernel_rfl))
  f267 := Tryz.func265.trans (congrArg some (by kernel_rfl))
  f314 := Tryz.func275.trans (congrArg some (by kernel_rfl))
  t3 := Tryz.underlying3
  a3 := Tryz.isAgg3
  z3 := Tryz.sizeOf3
  v3 := Tryz.zeroValue3
  t4 := Tryz.underlying4
  a4 := Tryz.isAgg4
  z4 := Tryz.sizeOf4
  v4 := Tryz.zeroValue4
  t5 := Tryz.underlying5
  a5 := Tryz.isAgg5
  z5 := Tryz.sizeOf5
  v5 := Tryz.zeroValue5
  t9 := Tryz.underlying9
  a9 := Tryz.isAgg9
  z9 := Tryz.sizeOf9
  v9 := Tryz.zeroValue9
  t46 := Tryz.underlying279
  a46 := Tryz.isAgg279
  z46 := Tryz.sizeOf279
  v46 := Tryz.zeroValue279
  t51 := Tryz.underlying288
  a51 := Tryz.isAgg288
  z51 := Tryz.sizeOf288
  v51 := Tryz.zeroValue288
  t59 := Tryz.underlying208
  a59 := Tryz.isAgg208
  z59 := Tryz.sizeOf208
  v59 := Tryz.zeroValue208
  t146 := Tryz.underlying289
  a146 := Tryz.isAgg289
  z146 := Tryz.sizeOf289
  v146 := Tryz.zeroValue289
  g1 := by kernel_rfl }
def Tryz.lays146_ren : Go.Shelf.Ren := ⟨fun | 146 => 237 | 221 => 256 | 268 => 266 | 138 => 267 | 143 => 268 | 195 => 276 | 197 => 277 | 218 => 278 | 219 => 254 | 260 => 284 | 217 => 262 | 225 => 263 | 224 => 264 | 267 => 265 | 266 => 274 | 314 => 275 | n => n, fun | 9 => 9 | 31 => 22 | 3 => 3 | 4 => 4 | 0 => 0 | 105 => 291 | 21 => 21 | 5 => 5 | 46 => 279 | 119 => 298 | 139 => 301 | 138 => 300 | 146 => 289 | 51 => 288 | n => n, fun | 1 => 3 | 3 => 5 | 4 => 6 | n => n⟩
theorem Tryz.lays146 : Go.Proofs.Lays.n146 Tryz.prog Tryz.lays146_ren := {
  mixed := by kernel_rfl
  f138 := Tryz.func267.trans (congrArg some (by kernel_rfl))
  f143 := Tryz.func268.trans (congrArg some (by kernel_rfl))
  f146 := Tryz.func237.trans (congrArg some (by kernel_rfl))
  f195 := Tryz.func276.trans (congrArg some (by kernel_rfl))
  f197 := Tryz.func277.trans (congrArg some (by kernel_rfl))
  f217 := Tryz.func262.trans (congrArg some (by kernel_rfl))
  f218 := Tryz.func278.trans (congrArg some (by kernel_rfl))
  f219 := Tryz.func254.trans (congrArg some (by kernel_rfl))
  f221 := Tryz.func256.trans (congrArg some (by kernel_rfl))
  f224 := Tryz.func264.trans (congrArg some (by kernel_rfl))
  f225 := Tryz.func263.trans (congrArg some (by kernel_rfl))
  f260 := Tryz.func284.trans (congrArg some (by kernel_rfl))
  f266 := Tryz.func274.trans (congrArg some (by kernel_rfl))
  f267 := Tryz.func265.trans (congrArg some (by kernel_rfl))
  f268 := Tryz.func266.trans (congrArg some (by kernel_rfl))
  f314 := Tryz.func275.trans (congrArg some (by kernel_rfl))
  t0 := Tryz.underlying0
  a0 := Tryz.isAgg0
  z0 := Tryz.sizeOf0
  v0 := Tryz.zeroValue0
  t3 := Tryz.underlying3
  a3 := Tryz.isAgg3
  z3 := Tryz.sizeOf3
  v3 := Tryz.zeroValue3
  t4 := Tryz.underlying4
  a4 := Tryz.isAgg4
  z4 := Tryz.sizeOf4
  v4 := Tryz.zeroValue4
  t5 := Tryz.underlying5
  a5 := Tryz.isAgg5
  z5 := Tryz.sizeOf5
  v5 := Tryz.zeroValue5
  t9 := Tryz.underlying9
  a9 := Tryz.isAgg9
  z9 := Tryz.sizeOf9
  v9 := Tryz.zeroValue9
  t21 := Tryz.underlying21
  a21 := Tryz.isAgg21
  z21 := Tryz.sizeOf21
  v21 := Tryz.zeroValue21
  t31 := Tryz.underlying22
  a31 := Tryz.isAgg22
  z31 := Tryz.sizeOf22
  v31 := Tryz.zeroValue22
  t46 := Tryz.underlying279
  a46 := Tryz.isAgg279
  z46 := Tryz.sizeOf279
  v46 := Tryz.zeroValue279
  t51 := Tryz.underlying288
  a51 := Tryz.isAgg288
  z51 := Tryz.sizeOf288
  v51 := Tryz.zeroValue288
  t105 := Tryz.underlying291
  a105 := Tryz.isAgg291
  z105 := Tryz.sizeOf291
  v105 := Tryz.zeroValue291
  t119 := Tryz.underlying298
  a119 := Tryz.isAgg298
  z119 := Tryz.sizeOf298
  t138 := Tryz.underlying300
  a138 := Tryz.isAgg300
  z138 := Tryz.sizeOf300
  v138 := Tryz.zeroValue300
  t139 := Tryz.underlying301
  a139 := Tryz.isAgg301
  z139 := Tryz.sizeOf301
  v139 := Tryz.zeroValue301
  t146 := Tryz.underlying289
  a146 := Tryz.isAgg289
  z146 := Tryz.sizeOf289
  v146 := Tryz.zeroValue289
  g1 := by kernel_rfl
  g3 := by kernel_rfl
  g4 := by kernel_rfl }
end Go.Proofs
/- Contracts of the model's l00Cut and of the library's strings.Cut and strings.Split at a byte. Conditions: texts of at most 65536 bytes; for the library: its variable MaxLen holds a number. -/
namespace Go.Proofs.YtehahodomfbpjaaGreatDoor
set_option linter.unusedVariables false
set_option maxRecDepth 100000
open Go.RowKit

/-- The library's MaxLen holds a number. -/
def Mx (w : World) : Prop := ∃ m : Int, w.cell? ⟨3, 0, none⟩ = some (.int .i64 m)
theorem Mx.nx {w w' : World} (h : Mx w) (hb : Nx w w') : Mx w' := by
  obtain ⟨m, h⟩ := h
  exact ⟨m, (hb.cell (World.block_lt_of_cell? w _ h)).trans h⟩
/-- strings.Cut at a byte. -/
theorem cut_c (s : ByteArray) (c : UInt8) (w : World) (hs : s.size ≤ 65536) (hm : Mx w) :
    Calls Tryz.prog 196 #[.string s, .string ⟨#[c]⟩] w fun e w' => e = .returned (.tuple #[.string (baL (Lib.cut s.data.toList [c]).1), .string (baL (Lib.cut s.data.toList [c]).2.1), .bool (Lib.cut s.data.toList [c]).2.2]) ∧ Nx w w' := by
  obtain ⟨m, hm⟩ := hm
  refine (Any.strings_Cut Tryz.lays145 s ⟨#[c]⟩ m w (by omega) hm).mono ?_
  rintro e w' ⟨he, n, rfl⟩
  exact ⟨he, (Nx.refl w).drewN n⟩
/-- A list of words in new memory. -/
def RetWs (w : World) (ws : List ByteArray) (e : Ending) (w' : World) : Prop := ∃ (A : Option Addr) (c : Nat), e = .returned (.slice A ws.length c) ∧ Sl w' w.heap.size A 9 ws.length (wdAt ws) ∧ Nx w w'
/-- strings.Split at a byte. -/
theorem split_c (s : ByteArray) (c : UInt8) (w : World) (hs : s.size ≤ 65536) (hm : Mx w) :
    Calls Tryz.prog 237 #[.string s, .string ⟨#[c]⟩] w (RetWs w (cutB c s)) := by
  obtain ⟨m, hm⟩ := hm
  refine (Any.strings_Split Tryz.lays146 infoS s ⟨#[c]⟩ m w (by omega) hm (by simp [ByteArray.size])).mono ?_
  rintro e w' ⟨he, rfl⟩
  rw [cutB_count] at he
  refine ⟨_, _, he, ?_, (Nx.refl w).alloc _⟩
  rw [cutB_split]
  refine Sl.own ⟨_, heap_alloc_new w _, by simp, fun i hi => ?_⟩ (Nat.le_refl _)
  rw [List.getElem?_toArray]
  exact wV_get _ i hi

theorem drop_hit {c : UInt8} {l : List UInt8} {f i : Nat} (hfi : f ≤ i) (hi : i < l.length) (hc : l[i] = c) (hn : c ∉ (l.drop f).take (i - f)) : cutL c (l.drop f) = (l.drop f).take (i - f) :: cutL c (l.drop (i + 1)) := by
  have e : l.drop f = (l.drop f).take (i - f) ++ c :: l.drop (i + 1) := by
    conv => lhs; rw [← List.take_append_drop (i - f) (l.drop f)]
    rw [List.drop_drop, show f + (i - f) = i by omega, List.drop_eq_getElem_cons hi, hc]
  conv => lhs; rw [e]
  exact cutL_hit c _ _ hn
theorem take_grow {l : List UInt8} {f i : Nat} (hfi : f ≤ i) (hi : i < l.length) : (l.drop f).take (i + 1 - f) = (l.drop f).take (i - f) ++ [l[i]] := by
  rw [show i + 1 - f = (i - f) + 1 by omega, List.take_succ_eq_append_getElem (by rw [List.length_drop]; omega), List.getElem_drop]
  simp only [show f + (i - f) = i by omega]
theorem ext_baL (s : ByteArray) (f i : Nat) : s.extract f i = baL ((s.data.toList.drop f).take (i - f)) := by
  rw [ba_eq (Lib.extract_data s f i)]; rfl
theorem wV_app (ws : List ByteArray) (x : ByteArray) : wV (ws ++ [x]) = wV ws ++ [.string x] := by unfold wV; simp
theorem Own.newS (w : World) (x : ByteArray) : Hid (∀ j u, [Value.string x][j]? = some u → (w.alloc (.cells #[.string x] 9)).cell? ((Addr.mk w.heap.size 0 none).add j) = some u) := Lib.hid (news1 w 9 (.string x))

set_option maxHeartbeats 4000000 in
theorem l00Cut_c (s : ByteArray) (c : UInt8) (w : World) (hs : s.size ≤ 65536) : Calls Tryz.prog 245 #[.string s, .int .u8 (c.toNat : Int)] w (RetWs w (cutB c s)) := by
  obtain ⟨i0, hi0, hz0, hz1, hz2⟩ := info_parts infoS
  have hw0 := RowW.new w (B := w.heap.size) (Nat.le_refl _)
  have hn0 := (Nx.refl w).alloc (.cells #[] 9)
  go_enter Tryz.func245, Tryz.ntmps245
  go_wp2
  go_loopw [5, 6, 7] (fun o f i wr => ∃ (k q : Nat) (v : Value) (ws : List ByteArray), q ≤ k ∧ k ≤ s.size ∧ i = .int .i64 k ∧ f = .int .i64 q ∧ v = o ∧ ws.length ≤ k ∧ RowW wr w.heap.size v ws ∧ Hid (cutB c s = ws ++ (cutL c (s.data.toList.drop q)).map baL ∧ c ∉ (s.data.toList.drop q).take (k - q)) ∧ Nx w wr) (fun _ _ i _ => s.size - (intOf i).toNat)
  case atStart => exact ⟨0, 0, _, [], Nat.le_refl _, Nat.zero_le _, rfl, rfl, rfl, Nat.le_refl _, hw0, Lib.hid ⟨rfl, by simp⟩, hn0⟩
  case round =>
    obtain ⟨k, q, v, ws, hqk, hk, rfl, rfl, rfl, hwl, hw, HR, hnx⟩ := hrel
    clear hw0 hn0
    by_cases hlt : k < s.size
    · have hlt' : k < s.data.toList.length := by rw [← ba_size]; exact hlt
      have Hlt := Lib.hid hlt'
      clear hlt'
      by_cases hc : s[k] = c
      · have hcd : ((s[k].toNat : Int) == (c.toNat : Int)) = true := by rw [hc]; simp
        have HH := Lib.hid (drop_hit (f := q) hqk Hlt.out (by rw [getL s k hlt]; exact hc) HR.out.2)
        have hb1 : (0 : Int) ≤ (q : Int) := by omega
        have hb2 : (q : Int) ≤ (k : Int) := by omega
        have hb3 : (k : Int) ≤ (s.size : Int) := by omega
        obtain ⟨x, hx⟩ : ∃ x, s.extract q k = x := ⟨_, rfl⟩
        have HX := Lib.hid ((ext_baL s q k).symm.trans hx)
        clear hc
        have hw1 := hw.nx ((Nx.refl wr).alloc (.cells #[.string x] 9))
        have hx1 := hnx.alloc (.cells #[.string x] 9)
        have HNW := Own.newS wr x
        have HO : Hid (∀ u ∈ [Value.string x], u.oneCell' = true) := Lib.hid (fun u hu => by simp only [List.mem_cons, List.not_mem_nil, or_false] at hu; subst hu; rfl)
        unfold RowW at hw1
        go_wp2_with (at_builtin; refine wpList_append_own _ rfl _ _ 22 rfl w.heap.size 9 i0 _ 1 16 Tryz.underlying22 hi0 hz0 hz1 hz2 rfl (by omega) v ws.length _ rfl hw1 ⟨wr.heap.size, 0, none⟩ 1 1 [.string x] rfl rfl HNW.out HO.out ?c3 ?c4 ?c5 ?_)
        case c3 => unfold maxLen; omega
        case c4 => omega
        case c5 => have := hx1.size; simp only [World.size_alloc] at this ⊢; omega
        intro v2 w2 hw2 hg2 _
        have hx2 : Nx w w2 := Below.grown hx1 hg2 hx1.size (fun k hk => (hw1.lt k hk).1)
        go_wp2
        go_roundw
        case rel =>
          refine ⟨k + 1, k + 1, v2, ws ++ [x], Nat.le_refl _, by omega, by go_num, by go_num, rfl, by simp; omega, ?_, Lib.hid ⟨?_, by simp⟩, hx2⟩
          · unfold RowW; rw [wV_app, List.length_append]; exact hw2
          · rw [HR.out.1, HH.out, List.map_cons, HX.out]; simp
        case measure => simp [intOf]; omega
      · have hcd : ((s[k].toNat : Int) == (c.toNat : Int)) = false := by
          rw [beq_eq_false_iff_ne]; intro h; exact hc (UInt8.toNat_inj.1 (by omega))
        have HC := Lib.hid hc
        clear hc
        go_wp2
        go_roundw
        case rel =>
          refine ⟨k + 1, q, v, ws, by omega, by omega, by go_num, rfl, rfl, by omega, hw, Lib.hid ⟨HR.out.1, ?_⟩, hnx⟩
          rw [take_grow hqk Hlt.out, List.mem_append, not_or]
          refine ⟨HR.out.2, fun h => HC.out ?_⟩
          rw [List.mem_singleton] at h
          exact (getL s k hlt).symm.trans h.symm
        case measure => simp [intOf]; omega
    · obtain rfl : k = s.size := by omega
      have hb2 : (q : Int) ≤ (s.size : Int) := by omega
      have hb1 : (0 : Int) ≤ (q : Int) := by omega
      obtain ⟨x, hx⟩ : ∃ x, s.extract q s.size = x := ⟨_, rfl⟩
      have HX := Lib.hid ((ext_baL s q s.size).symm.trans hx)
      have hw1 := hw.nx ((Nx.refl wr).alloc (.cells #[.string x] 9))
      have hx1 := hnx.alloc (.cells #[.string x] 9)
      have HNW := Own.newS wr x
      have HO : Hid (∀ u ∈ [Value.string x], u.oneCell' = true) := Lib.hid (fun u hu => by simp only [List.mem_cons, List.not_mem_nil, or_false] at hu; subst hu; rfl)
      unfold RowW at hw1
      go_wp2_with (at_builtin; refine wpList_append_own _ rfl _ _ 22 rfl w.heap.size 9 i0 _ 1 16 Tryz.underlying22 hi0 hz0 hz1 hz2 rfl (by omega) v ws.length _ rfl hw1 ⟨wr.heap.size, 0, none⟩ 1 1 [.string x] rfl rfl HNW.out HO.out ?c3 ?c4 ?c5 ?_)
      case c3 => unfold maxLen; omega
      case c4 => omega
      case c5 => have := hx1.size; simp only [World.size_alloc] at this ⊢; omega
      intro v2 w2 hw2 hg2 _
      have hx2 : Nx w w2 := Below.grown hx1 hg2 hx1.size (fun k hk => (hw1.lt k hk).1)
      have HE : Hid (cutB c s = ws ++ [x]) := Lib.hid (by
        have e : (s.data.toList.drop q).take (s.size - q) = s.data.toList.drop q := List.take_of_length_le (by rw [List.length_drop, ← ba_size]; omega)
        have h2 := HR.out.2
        rw [e] at h2
        have h3 := HX.out
        rw [e] at h3
        rw [HR.out.1, cutL_miss c _ h2, List.map_cons, List.map_nil, h3])
      have hR2 : RowW w2 w.heap.size v2 (cutB c s) := by
        rw [HE.out]; unfold RowW; rw [wV_app, List.length_append]; exact hw2
      obtain ⟨A, cp, rfl, hS⟩ := hR2.sl
      go_wp2
      go_ret
      exact ⟨A, cp, rfl, hS, hx2⟩
end Go.Proofs.YtehahodomfbpjaaGreatDoor
/- Plain numbers: digits with none needless ahead. Contracts of the program's numberOf and plainNumberOf, and of the model's l00Digits, l00Number and l04Number. Conditions: numbers of at most 18 digits; texts of at most 65536 bytes; the package's errors are known. -/
namespace Go.Proofs.YtehahodomfbpjaaGreatDoor
set_option linter.unusedVariables false
set_option maxRecDepth 100000
open Go.RowKit

theorem valTo_bd17 {s : ByteArray} {k : Nat} (hk : k ≤ 17) (h : digL (s.data.toList.take k) = true) : valTo s k < 100000000000000000 := by
  have h1 := valL_bd _ rfl h
  have h2 : (s.data.toList.take k).length ≤ 17 := Nat.le_trans (List.length_take_le _ _) hk
  have h3 : 10 ^ (s.data.toList.take k).length ≤ 10 ^ 17 := Nat.pow_le_pow_right (by omega) h2
  unfold valTo
  omega
theorem valL_bd18 {l : List UInt8} (hk : l.length ≤ 18) (h : digL l = true) : valL l < 1000000000000000000 := by
  have h1 := valL_bd _ rfl h
  have h3 : 10 ^ l.length ≤ 10 ^ 18 := Nat.pow_le_pow_right (by omega) hk
  omega
theorem digs_len18 {n : Nat} (h : n < 1000000000000000000) : 1 ≤ (digs n).length ∧ (digs n).length ≤ 18 := by
  refine ⟨?_, (digs_pad 17 n (by omega)).1⟩
  by_cases h' : n < 10
  · rw [digs_lt h']; simp
  · rw [digs_ge h']; simp
theorem valL_pos : ∀ (n : Nat) {l : List UInt8}, l.length = n → digL l = true → l ≠ [] → l.head? ≠ some 48 → 1 ≤ valL l := by
  intro n
  induction n with
  | zero => intro l hl _ hne _; exact absurd (List.length_eq_zero_iff.1 hl) hne
  | succ n ih =>
    intro l hl h hne hh
    rcases List.eq_nil_or_concat l with rfl | ⟨l', c, rfl⟩
    · exact absurd rfl hne
    · rw [List.concat_eq_append] at hl h hh ⊢
      rw [digL_snoc, Bool.and_eq_true] at h
      rw [valL_snoc]
      rcases l' with _ | ⟨x, l'⟩
      · have h2 := digI_yes (show digI (c.toNat : Int) = true from h.2)
        have hc : c.toNat ≠ 48 := fun e => hh (by simp only [List.nil_append, List.head?_cons, Option.some.injEq]; exact UInt8.toNat_inj.1 e)
        simp only [valL, List.foldl_nil]
        omega
      · have := ih (l := x :: l') (by simpa using hl) h.1 (by simp) (by simpa using hh)
        omega
theorem digs_valL : ∀ (n : Nat) {l : List UInt8}, l.length = n → digL l = true → l ≠ [] → (l.length = 1 ∨ l.head? ≠ some 48) → digs (valL l) = l := by
  intro n
  induction n with
  | zero => intro l hl _ hne _; exact absurd (List.length_eq_zero_iff.1 hl) hne
  | succ n ih =>
    intro l hl h hne hh
    rcases List.eq_nil_or_concat l with rfl | ⟨l', c, rfl⟩
    · exact absurd rfl hne
    · rw [List.concat_eq_append] at hl h hh ⊢
      rw [digL_snoc, Bool.and_eq_true] at h
      have h2 := digI_yes (show digI (c.toNat : Int) = true from h.2)
      have hc : UInt8.ofNat (48 + (c.toNat - 48)) = c := by
        rw [show 48 + (c.toNat - 48) = c.toNat by omega]; simp
      rw [valL_snoc]
      rcases l' with _ | ⟨x, l'⟩
      · simp only [valL, List.foldl_nil, Nat.mul_zero, Nat.zero_add, List.nil_append]
        rw [digs_lt (by omega), hc]
      · have hx : (x :: l').head? ≠ some 48 := by
          rcases hh with hh | hh
          · simp at hh
          · simpa using hh
        have h1 := valL_pos _ rfl h.1 (by simp) hx
        have h3 := ih (l := x :: l') (by simpa using hl) h.1 (by simp) (.inr hx)
        have e1 : (10 * valL (x :: l') + (c.toNat - 48)) / 10 = valL (x :: l') := by omega
        have e2 : (10 * valL (x :: l') + (c.toNat - 48)) % 10 = c.toNat - 48 := by omega
        rw [digs_ge (by omega), e1, e2, h3, hc]
theorem plain_digs {l : List UInt8} (h : plainB l = true) : digs (valL l) = l :=
  digs_valL _ rfl (plainB_dig h) (fun e => by have := (plainB_len h).1; rw [e] at this; simp at this) (plainB_head h)

set_option maxHeartbeats 1000000 in
theorem numberOf18_c (s : ByteArray) (w : World) (a0 a1 : Addr) (hs : s.size ≤ 18) (hE : Er w a0 a1) :
    Calls Tryz.prog 236 #[.string s] w (RetN w (numV s a0)) := by
  obtain ⟨c0, _⟩ := hE
  go_enter Tryz.func236, Tryz.ntmps236
  go_wp2
  go_loop [4, 5] (fun n i => ∃ k : Nat, k ≤ s.size ∧ i = .int .i64 k ∧ digL (s.data.toList.take k) = true ∧ n = .int .i64 ((valTo s k : Nat) : Int)) (fun _ i => s.size - (intOf i).toNat)
  case atStart => exact ⟨0, Nat.zero_le _, rfl, rfl, rfl⟩
  case round =>
    obtain ⟨k, hk, rfl, hd, rfl⟩ := hrel
    have HD := Lib.hid hd
    clear hd
    by_cases hlt : k < s.size
    · have hbd := valTo_bd17 (s := s) (k := k) (by omega) HD.out
      have HV := Lib.hid (valTo_succ s k hlt)
      have HT := Lib.hid (take_snoc s k hlt)
      obtain ⟨m, Hm⟩ : ∃ m, Hid (valTo s k = m) := ⟨_, rfl⟩
      rw [Hm.out] at hbd HV ⊢
      cases hC : digI (s[k].toNat : Int) with
      | true =>
        obtain ⟨h1, h2⟩ := digI_yes hC
        have HC := Lib.hid hC
        clear hC
        go_wp2_with (go_at_call 255; refine (isDigit_c _ _).mono ?_; rintro e w' ⟨rfl, rfl⟩; rw [HC.out])
        go_round
        case rel => exact ⟨k + 1, by omega, by go_num, by rw [HT.out, digL_snoc, HD.out]; exact HC.out, by rw [HV.out, num_step h1]⟩
        case measure => simp [intOf]; omega
      | false =>
        have HC := Lib.hid hC
        have HF := Lib.hid (digL_no (l := s.data.toList) (k := k) (by simpa using hlt) (by rw [getL s k hlt]; exact hC))
        clear hC
        go_wp2_with (go_at_call 255; refine (isDigit_c _ _).mono ?_; rintro e w' ⟨rfl, rfl⟩; rw [HC.out])
        go_quiet (fail)
        go_wp2
        go_ret2
        exact ⟨congrArg Ending.returned (numV_no HF.out), (Nx.refl _).drewN _⟩
    · obtain rfl : k = s.size := by omega
      have e : s.data.toList.take s.size = s.data.toList := List.take_of_length_le (by simp)
      rw [e] at HD
      have HV := Lib.hid (show valTo s s.size = valL s.data.toList by unfold valTo; rw [e])
      rw [HV.out]
      clear e
      go_wp2
      go_ret2
      exact ⟨congrArg Ending.returned (numV_yes HD.out), Nx.refl _⟩

/-- What reading a plain number leaves. -/
def plainV (s : ByteArray) (a0 : Addr) : Value := if plainB s.data.toList then .tuple #[.int .i64 ((valL s.data.toList : Nat) : Int), .nilIface] else .tuple #[.int .i64 0, .iface 304 (.pointer (some a0))]
theorem plainV_no {s : ByteArray} {a0 : Addr} (h : plainB s.data.toList = false) : .tuple #[.int .i64 0, .iface 304 (.pointer (some a0))] = plainV s a0 := by unfold plainV; rw [h]; rfl
theorem plainV_yes {s : ByteArray} {a0 : Addr} (h : plainB s.data.toList = true) : .tuple #[.int .i64 ((valL s.data.toList : Nat) : Int), .nilIface] = plainV s a0 := by unfold plainV; rw [h]; rfl
theorem plainV_num {s : ByteArray} {a0 : Addr} (h : plainB s.data.toList = digL s.data.toList) : numV s a0 = plainV s a0 := by unfold plainV numV; rw [h]
theorem head_at {s : ByteArray} (h : 0 < s.size) : s.data.toList.head? = some s[0] := by
  have h' : 0 < s.data.toList.length := by rw [← ba_size]; exact h
  rw [List.head?_eq_getElem?, List.getElem?_eq_getElem h', getL s 0 h]
theorem toNat48 {c : UInt8} (h : (c.toNat : Int) = 48) : c = 48 := UInt8.toNat_inj.1 (by simpa using (by omega : c.toNat = 48))
set_option maxHeartbeats 1000000 in
theorem plainNumberOf_c (s : ByteArray) (w : World) (a0 a1 : Addr) (hs : s.size ≤ 65536) (hE : Er w a0 a1) :
    Calls Tryz.prog 238 #[.string s] w (RetN w (plainV s a0)) := by
  have c0 := hE.1
  have HE := Lib.hid hE
  clear hE
  by_cases h0 : s.size = 0
  · have hd : ((s.size : Int) == 0) = true := beq_iff_eq.2 (by omega)
    have HF := Lib.hid (plainV_no (a0 := a0) (plainB_size (l := s.data.toList) (.inl (by rw [← ba_size]; exact h0))))
    go_enter Tryz.func238, Tryz.ntmps238
    go_wp2
    go_quiet (fail)
    go_wp2
    go_ret2
    exact ⟨congrArg Ending.returned HF.out, (Nx.refl _).drewN _⟩
  have hd : ((s.size : Int) == 0) = false := beq_eq_false_iff_ne.2 (by omega)
  by_cases h18 : 18 < s.size
  · have hd2 : decide (18 < (s.size : Int)) = true := by simp; omega
    have HF := Lib.hid (plainV_no (a0 := a0) (plainB_size (l := s.data.toList) (.inr (by rw [← ba_size]; exact h18))))
    go_enter Tryz.func238, Tryz.ntmps238
    go_wp2
    go_quiet (fail)
    go_wp2
    go_ret2
    exact ⟨congrArg Ending.returned HF.out, (Nx.refl _).drewN _⟩
  have hd2 : decide (18 < (s.size : Int)) = false := by simp; omega
  have hp : 0 < s.size := by omega
  by_cases h1 : 1 < s.size
  · have hd3 : decide (1 < (s.size : Int)) = true := by simp; omega
    by_cases h48 : (s[0].toNat : Int) = 48
    · have hd4 : ((s[0].toNat : Int) == 48) = true := beq_iff_eq.2 h48
      have HF := Lib.hid (plainV_no (a0 := a0) (plainB_nought (l := s.data.toList) (by rw [← ba_size]; exact h1) (by rw [head_at hp, toNat48 h48])))
      clear h48
      go_enter Tryz.func238, Tryz.ntmps238
      go_wp2
      go_quiet (fail)
      go_wp2
      go_ret2
      exact ⟨congrArg Ending.returned HF.out, (Nx.refl _).drewN _⟩
    · have hd4 : ((s[0].toNat : Int) == 48) = false := beq_eq_false_iff_ne.2 h48
      have HF := Lib.hid (plainV_num (a0 := a0) (plainB_mk (l := s.data.toList) (by rw [← ba_size]; omega) (by rw [← ba_size]; omega) (.inr (by rw [head_at hp]; intro e; injection e with e; rw [e] at h48; exact h48 rfl))))
      clear h48
      go_enter Tryz.func238, Tryz.ntmps238
      go_wp2_with fail
      refine (numberOf18_c s _ a0 a1 (by omega) HE.out).mono ?_
      rintro e w1 ⟨he, hnx⟩
      cases hpp : plainB s.data.toList with
      | true =>
        have HQ := Lib.hid (plainV_yes (a0 := a0) hpp)
        rw [HF.out, ← HQ.out] at he
        subst he
        clear hpp
        go_wp2
        go_ret2
        exact ⟨congrArg Ending.returned HQ.out, hnx⟩
      | false =>
        have HQ := Lib.hid (plainV_no (a0 := a0) hpp)
        rw [HF.out, ← HQ.out] at he
        subst he
        clear hpp
        go_wp2
        go_ret2
        exact ⟨congrArg Ending.returned HQ.out, hnx⟩
  · have hd3 : decide (1 < (s.size : Int)) = false := by simp; omega
    have HF := Lib.hid (plainV_num (a0 := a0) (plainB_mk (l := s.data.toList) (by rw [← ba_size]; omega) (by rw [← ba_size]; omega) (.inl (by rw [← ba_size]; omega))))
    go_enter Tryz.func238, Tryz.ntmps238
    go_wp2_with fail
    refine (numberOf18_c s _ a0 a1 (by omega) HE.out).mono ?_
    rintro e w1 ⟨he, hnx⟩
    cases hpp : plainB s.data.toList with
    | true =>
      have HQ := Lib.hid (plainV_yes (a0 := a0) hpp)
      rw [HF.out, ← HQ.out] at he
      subst he
      clear hpp
      go_wp2
      go_ret2
      exact ⟨congrArg Ending.returned HQ.out, hnx⟩
    | false =>
      have HQ := Lib.hid (plainV_no (a0 := a0) hpp)
      rw [HF.out, ← HQ.out] at he
      subst he
      clear hpp
      go_wp2
      go_ret2
      exact ⟨congrArg Ending.returned HQ.out, hnx⟩

set_option maxHeartbeats 1000000 in
theorem l00Digits18_c : ∀ (n : Nat) (w : World), n < 1000000000000000000 → Calls Tryz.prog 192 #[.int .i64 n] w fun e w' => e = .returned (.string ⟨(digs n).toArray⟩) ∧ Nx w w' := by
  intro n
  induction n using Nat.strongRecOn with
  | ind n ih =>
    intro w hn
    by_cases h' : n < 10
    · have hd : decide ((n : Int) < 10) = true := by simp; omega
      have hz : ((n : Int) == -9223372036854775808) = false := beq_eq_false_iff_ne.2 (by omega)
      have HD := Lib.hid (digs_lt h')
      have hcv := cv_one (48 + n) (by omega) (by omega)
      go_enter Tryz.func192, Tryz.ntmps192
      go_wp2
      go_ret
      refine ⟨ret_str ?_, (Nx.refl _).alloc _⟩
      rw [HD.out]
    · have hd : decide ((n : Int) < 10) = false := by simp; omega
      have hz : ((n : Int) == -9223372036854775808) = false := beq_eq_false_iff_ne.2 (by omega)
      have HD := Lib.hid (digs_ge h')
      obtain ⟨q, hq⟩ : ∃ q, n / 10 = q := ⟨_, rfl⟩
      obtain ⟨d, hd'⟩ : ∃ d, n % 10 = d := ⟨_, rfl⟩
      rw [hq, hd'] at HD
      have hd10 : d < 10 := by omega
      have ihq := ih q (by omega)
      have hq6 : q < 1000000000000000000 := by omega
      obtain ⟨hl1, hl2⟩ := digs_len18 hq6
      have hcv := cv_one (48 + d) (by omega) (by omega)
      have e1 : IntKind.i64.wrap ((n : Int) / 10) = (q : Int) := by
        rw [show (n : Int) / 10 = (q : Int) by omega]; exact IntWalk.i64_in _ (by omega)
      have e3 : (n : Int).tmod 10 = (d : Int) := by rw [Int.tmod_eq_emod_of_nonneg (by omega)]; omega
      have e4 : IntKind.i64.wrap (48 + (d : Int)) = 48 + d := IntWalk.i64_in _ (by omega)
      have e5 : IntKind.u8.wrap (48 + (d : Int)) = 48 + d := IntWalk.u8_in _ (by omega)
      clear hq hd' ih
      go_enter Tryz.func192, Tryz.ntmps192
      go_wp2_with fail
      go_region_with (go_at_call 192; refine (ihq _ hq6).mono ?_; rintro e w1 ⟨rfl, hnx1⟩; have hcl := hnx1.cells)
      all_goals
        clear e1 e3 e4 e5 hcv ihq hcl
        go_wp2
        go_ret
        refine ⟨ret_str ?_, ?_⟩
        · rw [HD.out, ByteArray.mk_append_mk]; simp
        · first
            | exact (Nx.drew_r hnx1).alloc _
            | exact ((Nx.refl w).alloc _).drew.trans hnx1
            | exact (((Nx.refl w).alloc _).drew.trans hnx1).drew
end Go.Proofs.YtehahodomfbpjaaGreatDoor
/- Rows of marks of the call's own that grow by one; what rows of ints and rows of marks are behind a store into another block. Conditions: at most 1048576 elements. -/
namespace Go.Proofs.YtehahodomfbpjaaGreatDoor
set_option linter.unusedVariables false
set_option maxRecDepth 100000
open Go.RowKit

def mV (ms : List Mrk) : List Value := ms.flatMap fun m => [.string m.1, .int .i64 m.2]
theorem mV_snoc (ms : List Mrk) (m : Mrk) : mV (ms ++ [m]) = mV ms ++ [.string m.1, .int .i64 m.2] := by
  unfold mV; rw [List.flatMap_append]; simp
theorem mV_get : ∀ (ms : List Mrk) (i : Nat), i < ms.length * 2 → (mV ms)[i]? = some (mrAt ms i)
  | [], i, h => by simp at h
  | m :: ms, i, h => by
    show ([_, _] ++ mV ms)[i]? = _
    by_cases hi : i < 2
    · rw [List.getElem?_append_left (by simpa using hi)]
      match i, hi with
      | 0, _ => rfl
      | 1, _ => rfl
    · rw [List.getElem?_append_right (by simpa using hi)]
      show (mV ms)[i - 2]? = _
      rw [mV_get ms (i - 2) (by simp at h; omega)]
      have e1 : (i - 2) % 2 = i % 2 := by omega
      have e2 : i / 2 = (i - 2) / 2 + 1 := by omega
      unfold mrAt
      rw [e1, e2, List.getD_cons_succ]
/-- A row of marks of the call's own, from block B on. -/
def RowM (w : World) (B : Nat) (v : Value) (ms : List Mrk) : Prop := w.ownsRow B 199 2 v ms.length (mV ms)
theorem RowM.new (w : World) {B : Nat} (hB : B ≤ w.heap.size) : RowM (w.alloc (.cells #[] 199)) B (.slice (some ⟨w.heap.size, 0, none⟩) 0 0) [] :=
  ⟨rfl, .inr ⟨_, 0, #[], rfl, hB, heap_alloc_new w _, by simp, by unfold maxLen; omega, rfl, rfl⟩⟩
theorem RowM.nil (w : World) (B : Nat) : RowM w B (.slice none 0 0) [] := World.ownsRow_nil w B _ 2
theorem RowM.slc {w : World} {B : Nat} {v : Value} {ms : List Mrk} (h : RowM w B v ms) : ∃ A c, v = .slice A ms.length c ∧ ms.length ≤ c ∧ SlM w B A ms := by
  rcases h.2 with ⟨rfl, h0⟩ | ⟨g, cap, cur, rfl, hb, hg, hnc, _, hcs, htk⟩
  · exact ⟨none, 0, by rw [h0], by omega, fun hn => by omega⟩
  · refine ⟨_, cap, rfl, by omega, Sl.own ⟨cur, hg, by have := Nat.mul_le_mul_right 2 hnc; omega, fun i hi => ?_⟩ hb⟩
    have h1 : (cur.toList.take (ms.length * 2))[i]? = some (mrAt ms i) := by rw [htk]; exact mV_get ms i hi
    rw [List.getElem?_take_of_lt hi] at h1
    simpa using h1
section
variable {w w' : World} {B : Nat} {v : Value} {ms : List Mrk} {xs : List Int}
theorem RowM.nx (h : RowM w B v ms) (hb : Nx w w') : RowM w' B v ms := by
  refine World.ownsRow.kept (row := none) h ⟨hb.os, hb.tape, hb.output, hb.size, fun i hi _ => hb.block i hi⟩ ?_
  cases hv : v.ownBlock with
  | none => exact .inl rfl
  | some g => exact .inr (by simp)
theorem RowM.rg {lo hi : Nat} (h : RowM w B v ms) (hr : Rg lo hi w w') (hh : hi ≤ B) : RowM w' B v ms := by
  rcases h.2 with ⟨rfl, h0⟩ | ⟨g, cap, cur, rfl, hb, hg, r⟩
  · exact ⟨h.1, .inl ⟨rfl, h0⟩⟩
  · have hlt := (World.ownsRow.lt h g rfl).2
    exact ⟨h.1, .inr ⟨g, cap, cur, rfl, hb, (hr.block g hlt (.inr (by omega))).trans hg, r⟩⟩
theorem RowM.ne {g : Nat} {t : TypeId} {ys : Array Value} (h : RowM w B v ms) (hb : Box w g t ys) (ht : t ≠ 199) : some g ≠ v.ownBlock := by
  intro he
  rcases h.2 with ⟨rfl, _⟩ | ⟨g', cap, cur, rfl, _, hg, _⟩
  · simp [Value.ownBlock] at he
  · obtain rfl : g = g' := by simpa [Value.ownBlock] using he
    unfold Box at hb
    rw [hg] at hb
    injection hb with hb
    injection hb with _ hb
    exact ht hb.symm
theorem RowM.far {p : Addr} {t : TypeId} {ys : Array Value} (h : RowM w B v ms) (hb : Box w p.block t ys) (ht : t ≠ 199) (u : Value) : RowM (w.setCell p u) B v ms := by
  have hne := h.ne hb ht
  rcases h.2 with ⟨rfl, h0⟩ | ⟨g, cap, cur, rfl, hb', hg, r⟩
  · exact ⟨h.1, .inl ⟨rfl, h0⟩⟩
  · exact ⟨h.1, .inr ⟨g, cap, cur, rfl, hb', (Below.heap_setCell w p u g (fun e => hne (by rw [e]; rfl))).trans hg, r⟩⟩
theorem RowI.far {p : Addr} {t : TypeId} {ys : Array Value} (h : RowI w B v xs) (hb : Box w p.block t ys) (ht : t ≠ 3) (u : Value) : RowI (w.setCell p u) B v xs := by
  have hne := h.ne hb ht
  rcases h.2 with ⟨rfl, h0⟩ | ⟨g, cap, cur, rfl, hb', hg, r⟩
  · exact ⟨h.1, .inl ⟨rfl, h0⟩⟩
  · exact ⟨h.1, .inr ⟨g, cap, cur, rfl, hb', (Below.heap_setCell w p u g (fun e => hne (by rw [e]; rfl))).trans hg, r⟩⟩
theorem RowM.grew {t : TypeId} {B' : Nat} (h : RowM w B v ms) (hg : GrewT t B' w w') (ht : t ≠ 199) : RowM w' B v ms := by
  rcases h.2 with ⟨rfl, h0⟩ | ⟨g, cap, cur, rfl, hb', hgc, r⟩
  · exact ⟨h.1, .inl ⟨rfl, h0⟩⟩
  · exact ⟨h.1, .inr ⟨g, cap, cur, rfl, hb', hg.box g _ cur (fun e => ht e.symm) hgc, r⟩⟩
theorem RowI.grew {t : TypeId} {B' : Nat} (h : RowI w B v xs) (hg : GrewT t B' w w') (ht : t ≠ 3) : RowI w' B v xs := by
  rcases h.2 with ⟨rfl, h0⟩ | ⟨g, cap, cur, rfl, hb', hgc, r⟩
  · exact ⟨h.1, .inl ⟨rfl, h0⟩⟩
  · exact ⟨h.1, .inr ⟨g, cap, cur, rfl, hb', hg.box g _ cur (fun e => ht e.symm) hgc, r⟩⟩
end
set_option maxHeartbeats 1000000 in
/-- append of one mark, at one operation of a drawn region. -/
theorem wp_addM {w : World} {o : Oper} {a : Act} {K : Act → World → Prop} {Q : Exit → Act → World → Prop}
    (s x : Operand) (ho : o.op = .call { callee := .builtin .append, args := #[s, x], argTypes := #[28, 28] })
    (B gd : Nat) (v : Value) (ms : List Mrk) (m : Mrk) (hs : a.eval s = v) (hx : a.eval x = .slice (some ⟨gd, 0, none⟩) 1 1) (hown : RowM w B v ms) (hbx : Box w gd 199 #[.string m.1, .int .i64 m.2])
    (hl : ms.length ≤ 1048576) (hB : B ≤ w.heap.size)
    (hK : ∀ A' k' w', RowM w' B (.slice A' (ms.length + 1) k') (ms ++ [m]) → GrewT 199 B w w' → K (a.put o.dst (.slice A' (ms.length + 1) k')) w') :
    o.wp Tryz.prog a w K Q := by
  obtain ⟨i0, hi0, hz0, hz1, hz2⟩ := info_parts info_mk
  refine wp_append_own w s x 28 ho B 199 i0 _ 2 24 Tryz.underlying28 hi0 hz0 hz1 hz2 rfl (by omega) v ms.length _ hs hown ⟨gd, 0, none⟩ 1 1 [.string m.1, .int .i64 m.2] hx rfl (fun j u hj => ?_) (fun u hu => by simp only [List.mem_cons, List.not_mem_nil, or_false] at hu; rcases hu with rfl | rfl <;> rfl) (by unfold maxLen; omega) (by omega) hB ?_
  · rw [addr_add', Nat.zero_add, hbx.cell j]
    rw [← hj]
    rcases j with _ | _ | j <;> simp
  · intro v' w' hw' hg' _
    have hr : RowM w' B v' (ms ++ [m]) := by
      unfold RowM
      rw [mV_snoc, List.length_append]
      exact hw'
    obtain ⟨A', k', rfl, _⟩ := hr.slc
    rw [List.length_append] at hr ⊢
    have hrow : ∀ k, Value.ownBlock v = some k → B ≤ k := fun k hk => (World.ownsRow.lt hown k hk).1
    refine hK A' k' w' hr ⟨fun b hb hbB => Below.grown hb hg' hb.size (fun k hk => Nat.le_trans hbB (hrow k hk)), fun lo hi b hb hbB => ?_, fun g t xs' ht hbg => hbg.grown hg' (hown.ne hbg ht), hg'.size⟩
    refine ⟨hg'.os.trans hb.os, hg'.tape.trans hb.tape, hg'.output.trans hb.output, Nat.le_trans hb.size hg'.size, fun k hk hr => (hg'.block k (Nat.lt_of_lt_of_le hk hb.size) fun e => ?_).trans (hb.block k hk hr)⟩
    have := hrow k e.symm
    omega
end Go.Proofs.YtehahodomfbpjaaGreatDoor
