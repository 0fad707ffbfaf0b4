/-
  Texts of the proof, put together in their order: Rdv.
  Conditions: those of each.
-/
import Derived.Test.YteckhdkghfidiaaGreatDoorMc5
/- The super of a text: its words, its marks, as the model has it and as the program has it (values alone). Conditions: none. -/
namespace Go.Proofs.YteckhdkghfidiaaGreatDoor
set_option linter.unusedVariables false
open Go.RowKit

/-- Digits, at most 18 of them, none needless ahead. -/
def plainB (l : List UInt8) : Bool := decide (1 ≤ l.length) && decide (l.length ≤ 18) && (decide (l.length = 1) || decide (l.head? ≠ some 48)) && digL l
theorem plainB_dig {l : List UInt8} (h : plainB l = true) : digL l = true := by
  unfold plainB at h; simp only [Bool.and_eq_true] at h; exact h.2
theorem plainB_no {l : List UInt8} (h : digL l = false) : plainB l = false := by unfold plainB; rw [h]; simp
theorem plainB_len {l : List UInt8} (h : plainB l = true) : 1 ≤ l.length ∧ l.length ≤ 18 := by
  unfold plainB at h; simp only [Bool.and_eq_true, decide_eq_true_eq] at h; exact h.1.1
theorem plainB_head {l : List UInt8} (h : plainB l = true) : l.length = 1 ∨ l.head? ≠ some 48 := by
  unfold plainB at h; simp only [Bool.and_eq_true, Bool.or_eq_true, decide_eq_true_eq] at h; exact h.1.2
theorem plainB_mk {l : List UInt8} (h1 : 1 ≤ l.length) (h2 : l.length ≤ 18) (h3 : l.length = 1 ∨ l.head? ≠ some 48) : plainB l = digL l := by
  unfold plainB
  rw [decide_eq_true h1, decide_eq_true h2]
  rcases h3 with h | h
  · rw [decide_eq_true h]; simp
  · rw [decide_eq_true h]; simp
theorem plainB_size {l : List UInt8} (h : l.length = 0 ∨ 18 < l.length) : plainB l = false := by
  unfold plainB
  rcases h with h | h
  · rw [decide_eq_false (show ¬ 1 ≤ l.length by omega)]; rfl
  · rw [decide_eq_false (show ¬ l.length ≤ 18 by omega)]; simp
theorem plainB_nought {l : List UInt8} (h : 1 < l.length) (h2 : l.head? = some 48) : plainB l = false := by
  unfold plainB
  rw [decide_eq_false (show ¬ l.length = 1 by omega), decide_eq_false (show ¬ l.head? ≠ some 48 by simp [h2])]; simp
theorem digL_mem {l : List UInt8} (h : digL l = true) {x : UInt8} (hx : x ∈ l) : digC x = true := List.all_eq_true.1 h x hx

/-- The mark of a word. -/
def wordM (l : List UInt8) : Option Mrk :=
  if (Lib.cut l [61]).2.2 && plainB (Lib.cut l [61]).2.1 then some (baL (Lib.cut l [61]).1, ((valL (Lib.cut l [61]).2.1 : Nat) : Int)) else none
theorem wordM_miss {l : List UInt8} (h : 61 ∉ l) : wordM l = none := by unfold wordM; rw [cut_miss h]; rfl
theorem wordM_hit {a b : List UInt8} (h : 61 ∉ a) : wordM (a ++ 61 :: b) = if plainB b then some (baL a, ((valL b : Nat) : Int)) else none := by
  unfold wordM; rw [cut_hit h]; simp
theorem wordM_two {l a b : List UInt8} (h : cutL 61 l = [a, b]) : wordM l = if plainB b then some (baL a, ((valL b : Nat) : Int)) else none := by
  obtain ⟨a', b', h1, h2, h3, _⟩ := cutL_two (c := 61) (s := l) (by rw [h]; rfl)
  rw [h] at h1
  injection h1 with e1 h1
  injection h1 with e2 _
  subst e1 e2
  rw [h2, wordM_hit h3]
theorem wordM_more {l : List UInt8} (h : (cutL 61 l).length ≠ 2) : wordM l = none := by
  rcases part_at 61 l with h1 | ⟨a, b, h1, e⟩
  · exact wordM_miss h1
  · rw [e, wordM_hit h1]
    have hb : 61 ∈ b := by
      by_cases hb : (61 : UInt8) ∈ b
      · exact hb
      · exact absurd (by rw [e, cutL_hit 61 a b h1, cutL_miss 61 b hb]; rfl) h
    rw [if_neg]
    intro hp
    have := digL_mem (plainB_dig hp) hb
    revert this; decide

/-- The marks of words. -/
def marksL : List (List UInt8) → Option (List Mrk)
  | [] => some []
  | w :: ws => (wordM w).bind fun m => (marksL ws).map (m :: ·)
theorem marksL_snoc : ∀ (ws : List (List UInt8)) (w : List UInt8), marksL (ws ++ [w]) = (marksL ws).bind fun ms => (wordM w).map fun m => ms ++ [m]
  | [], w => by
    show (wordM w).bind (fun m => (marksL []).map (m :: ·)) = _
    simp only [marksL, Option.map_some, Option.bind_some]
    cases wordM w <;> rfl
  | x :: ws, w => by
    have ih := marksL_snoc ws w
    rw [List.cons_append, marksL, marksL, ih]
    cases wordM x with
    | none => rfl
    | some m =>
      cases marksL ws with
      | none => rfl
      | some ms => cases wordM w <;> rfl
theorem marksL_len : ∀ {ws : List (List UInt8)} {ms : List Mrk}, marksL ws = some ms → ms.length = ws.length
  | [], ms, h => by simp only [marksL, Option.some.injEq] at h; subst h; rfl
  | x :: ws, ms, h => by
    rw [marksL] at h
    cases hx : wordM x with
    | none => rw [hx] at h; cases h
    | some m =>
      rw [hx, Option.bind_some] at h
      cases hw : marksL ws with
      | none => rw [hw] at h; cases h
      | some ns =>
        rw [hw, Option.map_some, Option.some.injEq] at h
        subst h
        simp [marksL_len hw]
theorem marksL_no : ∀ {ws : List (List UInt8)} {w : List UInt8}, w ∈ ws → wordM w = none → marksL ws = none
  | [], w, h, _ => by simp at h
  | x :: ws, w, h, hn => by
    rw [marksL]
    rcases List.mem_cons.1 h with rfl | h
    · rw [hn]; rfl
    · rw [marksL_no h hn]
      cases wordM x <;> rfl
theorem marksL_all : ∀ {ws : List (List UInt8)} {ms : List Mrk} {w : List UInt8}, marksL ws = some ms → w ∈ ws → ∃ m ∈ ms, wordM w = some m
  | [], _, _, _, h => by simp at h
  | x :: ws, ms, w, hm, h => by
    rw [marksL] at hm
    cases hx : wordM x with
    | none => rw [hx] at hm; cases hm
    | some m =>
      rw [hx, Option.bind_some] at hm
      cases hw : marksL ws with
      | none => rw [hw] at hm; cases hm
      | some ns =>
        rw [hw, Option.map_some, Option.some.injEq] at hm
        subst hm
        rcases List.mem_cons.1 h with rfl | h
        · exact ⟨m, by simp, hx⟩
        · obtain ⟨q, hq, e⟩ := marksL_all hw h
          exact ⟨q, by simp [hq], e⟩
/-- The words' marks, over texts. -/
def wordB (x : ByteArray) : Option Mrk := wordM x.data.toList
def marksB (ws : List ByteArray) : Option (List Mrk) := marksL (ws.map (·.data.toList))
theorem marksB_succ {ws : List ByteArray} {k : Nat} {ms : List Mrk} {m : Mrk} (hk : k < ws.length) (h : marksB (ws.take k) = some ms) (hm : wordB (ws.getD k ByteArray.empty) = some m) : marksB (ws.take (k + 1)) = some (ms ++ [m]) := by
  unfold marksB wordB at *
  rw [List.take_succ_eq_append_getElem hk, List.map_append, List.map_cons, List.map_nil, marksL_snoc, h]
  rw [List.getD_eq_getElem?_getD, List.getElem?_eq_getElem hk, Option.getD_some] at hm
  rw [hm]; rfl
theorem marksB_no {ws : List ByteArray} {k : Nat} (hk : k < ws.length) (h : wordB (ws.getD k ByteArray.empty) = none) : marksB ws = none := by
  unfold marksB
  rw [List.getD_eq_getElem?_getD, List.getElem?_eq_getElem hk, Option.getD_some] at h
  exact marksL_no (List.mem_map_of_mem (List.getElem_mem hk)) h
theorem marksB_len {ws : List ByteArray} {ms : List Mrk} (h : marksB ws = some ms) : ms.length = ws.length := by
  rw [marksL_len h]; simp
/-- The marks of a text. -/
def marksO (l : List UInt8) : Option (List Mrk) := if l.length = 0 then some [] else marksL (cutL 44 l)
theorem marksO_nil {s : ByteArray} (h : s.size = 0) : marksO s.data.toList = some [] := by unfold marksO; rw [if_pos (by rw [← ba_size]; exact h)]
theorem marksO_cut {s : ByteArray} (h : s.size ≠ 0) : marksO s.data.toList = marksB (cutB 44 s) := by
  unfold marksO marksB cutB
  rw [if_neg (by rw [← ba_size]; exact h), List.map_map]
  congr 1
  conv => lhs; rw [← List.map_id (cutL 44 s.data.toList)]
  exact List.map_congr_left fun x _ => rfl

/-- A super: its four numbers, its table, its marks. -/
abbrev U6 := Int × Int × Int × Int × List Int × List Mrk
def intsN (ns : List Nat) : List Int := ns.map fun (n : Nat) => (n : Int)
theorem intsN_len (ns : List Nat) : (intsN ns).length = ns.length := by unfold intsN; simp
theorem intsN_at (ns : List Nat) (i : Nat) (h : i < ns.length) : inAt (intsN ns) i = intAt ns i := by
  unfold inAt intAt intsN
  rw [List.getD_eq_getElem?_getD, List.getElem?_map, List.getElem?_eq_getElem h, List.getD_eq_getElem?_getD, List.getElem?_eq_getElem h]; rfl
def supOf (ns : List Nat) (ms : List Mrk) : Option U6 :=
  if superB (ns.getD 0 0) (ns.getD 1 0) (ns.getD 2 0) (ns.getD 3 0) (intsN (ns.drop 4)) ms then some (((ns.getD 0 0 : Nat) : Int), ((ns.getD 1 0 : Nat) : Int), ((ns.getD 2 0 : Nat) : Int), ((ns.getD 3 0 : Nat) : Int), intsN (ns.drop 4), ms) else none
theorem supOf_no {ns : List Nat} {ms : List Mrk} (h : superB (ns.getD 0 0) (ns.getD 1 0) (ns.getD 2 0) (ns.getD 3 0) (intsN (ns.drop 4)) ms = false) : supOf ns ms = none := by unfold supOf; rw [h]; rfl
theorem supOf_yes {ns : List Nat} {ms : List Mrk} (h : superB (ns.getD 0 0) (ns.getD 1 0) (ns.getD 2 0) (ns.getD 3 0) (intsN (ns.drop 4)) ms = true) : supOf ns ms = some (((ns.getD 0 0 : Nat) : Int), ((ns.getD 1 0 : Nat) : Int), ((ns.getD 2 0 : Nat) : Int), ((ns.getD 3 0 : Nat) : Int), intsN (ns.drop 4), ms) := by unfold supOf; rw [h]; rfl
theorem supOf_super {ns : List Nat} {ms : List Mrk} {g b p t : Int} {xs : List Int} {ms' : List Mrk} (h : supOf ns ms = some (g, b, p, t, xs, ms')) : superB g b p t xs ms' = true := by
  unfold supOf at h
  split at h
  · rename_i hs
    injection h with h
    injection h with h0 h
    injection h with h1 h
    injection h with h2 h
    injection h with h3 h
    injection h with h4 h5
    subst h0 h1 h2 h3 h4 h5
    exact hs
  · cases h
/-- The super of a head and a tail. -/
def partU (h m : List UInt8) : Option U6 := (numsO h).bind fun ns => if 4 ≤ ns.length then (marksO m).bind (supOf ns) else none
theorem partU_nums {h m : List UInt8} (e : numsO h = none) : partU h m = none := by unfold partU; rw [e]; rfl
theorem partU_few {h m : List UInt8} {ns : List Nat} (e : numsO h = some ns) (hl : ns.length < 4) : partU h m = none := by
  unfold partU; rw [e, Option.bind_some, if_neg (by omega)]
theorem partU_marks {h m : List UInt8} {ns : List Nat} (e : numsO h = some ns) (hm : marksO m = none) : partU h m = none := by
  unfold partU; rw [e, Option.bind_some, hm]; simp
theorem partU_yes {h m : List UInt8} {ns : List Nat} {ms : List Mrk} (e : numsO h = some ns) (hl : 4 ≤ ns.length) (hm : marksO m = some ms) : partU h m = supOf ns ms := by
  unfold partU; rw [e, Option.bind_some, if_pos hl, hm]; rfl
theorem partU_super {h m : List UInt8} {g b p t : Int} {xs : List Int} {ms : List Mrk} (e : partU h m = some (g, b, p, t, xs, ms)) : superB g b p t xs ms = true := by
  unfold partU at e
  cases hn : numsO h with
  | none => rw [hn] at e; cases e
  | some ns =>
    rw [hn, Option.bind_some] at e
    split at e
    · cases hm : marksO m with
      | none => rw [hm] at e; cases e
      | some ms' => rw [hm, Option.bind_some] at e; exact supOf_super e
    · cases e
theorem letB_bar {s : ByteArray} (h : 124 ∈ s.data.toList) : nmB s = false := by
  obtain ⟨k, hk, e⟩ := List.getElem_of_mem h
  have hk' : k < s.size := by rw [ba_size]; exact hk
  refine nmB_no hk' ?_
  unfold letB
  rw [List.getD_eq_getElem?_getD, List.getElem?_eq_getElem hk, e]
  decide
theorem superB_marks {g b p t : Int} {xs : List Int} {ms : List Mrk} {m : Mrk} (hm : m ∈ ms) (h : nmB m.1 = false) : superB g b p t xs ms = false := by
  obtain ⟨k, hk, e⟩ := List.getElem_of_mem hm
  have hms : msB ms = false := by
    unfold msB
    rw [show (List.range ms.length).all (okMk ms) = false from List.all_eq_false.2 ⟨k, by simpa using hk, ?_⟩]
    · simp
    · unfold okMk mkB
      rw [List.getD_eq_getElem?_getD, List.getElem?_eq_getElem hk, Option.getD_some, e, h]; simp
  unfold superB; rw [hms]; simp
theorem partU_bar {h m : List UInt8} (hb : 124 ∈ m) : partU h m = none := by
  cases hn : numsO h with
  | none => exact partU_nums hn
  | some ns =>
    by_cases hl : 4 ≤ ns.length
    case neg => exact partU_few hn (by omega)
    cases hm : marksO m with
    | none => exact partU_marks hn hm
    | some ms =>
      rw [partU_yes hn hl hm]
      refine supOf_no ?_
      have hne : ¬ m.length = 0 := fun e => by rw [List.length_eq_zero_iff] at e; subst e; simp at hb
      unfold marksO at hm
      rw [if_neg hne] at hm
      obtain ⟨w, hw, hbw⟩ := cutL_mem (c := 44) (x := 124) (by decide) hb
      obtain ⟨q, hq, e⟩ := marksL_all hm hw
      refine superB_marks hq ?_
      rcases part_at 61 w with h1 | ⟨a, b, h1, e1⟩
      · rw [wordM_miss h1] at e; cases e
      · rw [e1, wordM_hit h1] at e
        split at e
        · rename_i hp
          injection e with e
          subst e
          rw [e1] at hbw
          have hba : 124 ∈ a := by
            rcases List.mem_append.1 hbw with h2 | h2
            · exact h2
            · rcases List.mem_cons.1 h2 with h3 | h3
              · exact absurd h3 (by decide)
              · exact absurd (digL_mem (plainB_dig hp) h3) (by decide)
          exact letB_bar (by rw [baL_list]; exact hba)
        · cases e

/-- The super of a text, if it is one. -/
def rdU (t : ByteArray) : Option U6 :=
  if opensB t && (Lib.cut (bodyOf t).data.toList [124]).2.2 then partU (Lib.cut (bodyOf t).data.toList [124]).1 (Lib.cut (bodyOf t).data.toList [124]).2.1 else none
theorem rdU_shut {t : ByteArray} (h : opensB t = false) : rdU t = none := by unfold rdU; rw [h]; rfl
theorem rdU_miss {t : ByteArray} (h : 124 ∉ (bodyOf t).data.toList) : rdU t = none := by unfold rdU; rw [cut_miss h]; simp
theorem rdU_hit {t : ByteArray} {a b : List UInt8} (h : opensB t = true) (h2 : 124 ∉ a) (e : (bodyOf t).data.toList = a ++ 124 :: b) : rdU t = partU a b := by
  unfold rdU; rw [h, e, cut_hit h2]; rfl
theorem rdU_two {t : ByteArray} {a b : List UInt8} (h : opensB t = true) (e : cutL 124 (bodyOf t).data.toList = [a, b]) : rdU t = partU a b := by
  obtain ⟨a', b', h1, h2, h3, _⟩ := cutL_two (c := 124) (s := (bodyOf t).data.toList) (by rw [e]; rfl)
  rw [e] at h1
  injection h1 with e1 h1
  injection h1 with e2 _
  subst e1 e2
  exact rdU_hit h h3 h2
theorem rdU_more {t : ByteArray} (h : (cutL 124 (bodyOf t).data.toList).length ≠ 2) : rdU t = none := by
  cases ho : opensB t with
  | false => exact rdU_shut ho
  | true =>
    rcases part_at 124 (bodyOf t).data.toList with h1 | ⟨a, b, h1, e⟩
    · exact rdU_miss h1
    · rw [rdU_hit ho h1 e]
      refine partU_bar ?_
      by_cases hb : (124 : UInt8) ∈ b
      · exact hb
      · exact absurd (by rw [e, cutL_hit 124 a b h1, cutL_miss 124 b hb]; rfl) h
theorem rdU_super {t : ByteArray} {g b p q : Int} {xs : List Int} {ms : List Mrk} (e : rdU t = some (g, b, p, q, xs, ms)) : superB g b p q xs ms = true := by
  unfold rdU at e
  split at e
  · exact partU_super e
  · cases e
/-- The super and the code that a text has. -/
def zU : U6 := (0, 0, 0, 0, [], [])
def suA (t : ByteArray) : U6 := if t.size ≤ 65536 then (rdU t).getD zU else zU
def suC (t : ByteArray) : Int := if t.size ≤ 65536 then (if (rdU t).isSome then 0 else 3) else 2
theorem suA_long {t : ByteArray} (h : ¬ t.size ≤ 65536) : suA t = zU ∧ suC t = 2 := by unfold suA suC; rw [if_neg h, if_neg h]; exact ⟨rfl, rfl⟩
theorem suA_none {t : ByteArray} (h : t.size ≤ 65536) (hr : rdU t = none) : suA t = zU ∧ suC t = 3 := by unfold suA suC; rw [if_pos h, if_pos h, hr]; exact ⟨rfl, rfl⟩
theorem suA_some {t : ByteArray} {q : U6} (h : t.size ≤ 65536) (hr : rdU t = some q) : suA t = q ∧ suC t = 0 := by unfold suA suC; rw [if_pos h, if_pos h, hr]; exact ⟨rfl, rfl⟩
end Go.Proofs.YteckhdkghfidiaaGreatDoor
