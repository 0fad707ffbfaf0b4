/-
  Texts of the proof, put together in their order: Sup, Sok, Rdv, Rbk.
  Conditions: those of each.
-/
import Derived.Test.YtehahodomfbpjaaGreatDoorMm3
import Derived.IntWalk
import Derived.Laws.Cover1
/- Contracts of the laws' functions that make and compare supers; a super that comes in, opened; what a super is, and contracts of names of marks and of looking a number up in a list. Conditions: what is read can be read, and holds at most 1048576 elements of a kind. -/
namespace Go.Proofs.YtehahodomfbpjaaGreatDoor
set_option linter.unusedVariables false
set_option maxRecDepth 100000
open Go.Joins Go.ChangeShapes Go.WideShapes Go.RowKit Go.Deep

def RetIc (w : World) (xs : List Int) (e : Ending) (w' : World) : Prop := ∃ (A : Option Addr) (c : Nat), e = .returned (.slice A xs.length c) ∧ xs.length ≤ c ∧ SlI w' w.heap.size A xs ∧ Nx w w'
section
variable {H : Type} {enc : TypeId × Value → H} {w : World} {base : Nat} {spare : Nat → Bool} {held : Bool}
end

/-! What a super is. -/
def letB (s : ByteArray) (k : Nat) : Bool := decide (97 ≤ (s.data.toList.getD k 0).toNat) && decide ((s.data.toList.getD k 0).toNat ≤ 122)
/-- A mark's name. -/
def nmB (s : ByteArray) : Bool := inB 1 6 s.size && (List.range s.size).all (letB s)
def LetTo (s : ByteArray) (k : Nat) : Prop := ∀ j, j < k → letB s j = true
theorem LetTo.zero (s : ByteArray) : LetTo s 0 := fun j h => absurd h (by omega)
theorem LetTo.succ {s : ByteArray} {k : Nat} (h : LetTo s k) (hk : letB s k = true) : LetTo s (k + 1) := fun j hj => by
  rcases Nat.lt_or_ge j k with hlt | hge
  · exact h j hlt
  · obtain rfl : j = k := by omega
    exact hk
theorem letB_at {s : ByteArray} {k : Nat} (hk : k < s.size) : letB s k = (decide (97 ≤ s[k].toNat) && decide (s[k].toNat ≤ 122)) := by
  unfold letB
  rw [List.getD_eq_getElem?_getD, List.getElem?_eq_getElem (by simpa using hk)]; rfl
theorem nmB_all {s : ByteArray} (h : LetTo s s.size) : (List.range s.size).all (letB s) = true := List.all_eq_true.2 fun j hj => h j (by simpa using hj)
theorem nmB_no {s : ByteArray} {k : Nat} (hk : k < s.size) (h : letB s k = false) : nmB s = false := by
  unfold nmB
  rw [show (List.range s.size).all (letB s) = false from List.all_eq_false.2 ⟨k, by simpa using hk, by simp [h]⟩]; simp
theorem nmB_size {s : ByteArray} (h : inB 1 6 s.size = false) : nmB s = false := by unfold nmB; rw [h]; rfl
theorem nmB_mk {s : ByteArray} (h : inB 1 6 s.size = true) (h2 : LetTo s s.size) : nmB s = true := by unfold nmB; rw [h, nmB_all h2]; rfl
set_option maxHeartbeats 1000000 in
theorem isMarkName_c (s : ByteArray) (w : World) (hs : s.size ≤ 2 ^ 63 - 1) : Calls Tryz.prog 234 #[.string s] w fun e w' => e = .returned (.bool (nmB s)) ∧ w = w' := by
  by_cases h0 : s.size = 0
  · have hd : ((s.size : Int) == 0) = true := by rw [beq_iff_eq]; omega
    have HR := Lib.hid (nmB_size (s := s) (inB_no (by omega))).symm
    go_enter Tryz.func234, Tryz.ntmps234
    go_wp2
    go_ret
    exact ⟨ret_bool HR.out, rfl⟩
  have hd : ((s.size : Int) == 0) = false := by rw [beq_eq_false_iff_ne]; omega
  by_cases h6 : 6 < s.size
  · have hd6 : decide (6 < (s.size : Int)) = true := by simp; omega
    have HR := Lib.hid (nmB_size (s := s) (inB_no (by omega))).symm
    go_enter Tryz.func234, Tryz.ntmps234
    go_wp2
    go_ret
    exact ⟨ret_bool HR.out, rfl⟩
  have hd6 : decide (6 < (s.size : Int)) = false := by simp; omega
  have HS := Lib.hid (inB_mk (lo := 1) (hi := 6) (a := s.size) (by omega) (by omega))
  go_enter Tryz.func234, Tryz.ntmps234
  go_wp2
  go_loop [3] (fun i => ∃ k : Nat, k ≤ s.size ∧ i = .int .i64 k ∧ LetTo s k) (fun i => s.size - (intOf i).toNat)
  case atStart => exact ⟨0, Nat.zero_le _, rfl, LetTo.zero _⟩
  case round =>
    obtain ⟨k, hk, rfl, hto⟩ := hrel
    by_cases hlt : k < s.size
    · have HL := Lib.hid (letB_at hlt)
      have hc1 : (s[k].toNat : Int) ≤ 255 := by have := s[k].toNat_lt; omega
      by_cases ha : s[k].toNat < 97
      · have hda : decide ((s[k].toNat : Int) < 97) = true := by simp; omega
        have HR := Lib.hid (nmB_no hlt (by rw [HL.out]; simp; omega)).symm
        go_wp2
        go_ret
        exact ⟨ret_bool HR.out, rfl⟩
      have hda : decide ((s[k].toNat : Int) < 97) = false := by simp; omega
      by_cases hz : 122 < s[k].toNat
      · have hdz : decide (122 < (s[k].toNat : Int)) = true := by simp; omega
        have HR := Lib.hid (nmB_no hlt (by rw [HL.out]; simp; omega)).symm
        go_wp2
        go_ret
        exact ⟨ret_bool HR.out, rfl⟩
      have hdz : decide (122 < (s[k].toNat : Int)) = false := by simp; omega
      go_wp2
      go_round
      case rel => exact ⟨k + 1, by omega, by go_num, hto.succ (by rw [HL.out]; simp; omega)⟩
      case measure => simp [intOf]; omega
    · obtain rfl : k = s.size := by omega
      have HR := Lib.hid (nmB_mk HS.out hto).symm
      go_wp2
      go_ret
      exact ⟨ret_bool HR.out, rfl⟩
/-! A number that is looked up in the first n of a list. -/
def hasB (xs : List Int) (n : Nat) (x : Int) : Bool := (xs.take n).contains x
def NotTo (xs : List Int) (k : Nat) (x : Int) : Prop := ∀ j, j < k → xs.getD j 0 ≠ x
theorem NotTo.zero (xs : List Int) (x : Int) : NotTo xs 0 x := fun j h => absurd h (by omega)
theorem NotTo.succ {xs : List Int} {k : Nat} {x : Int} (h : NotTo xs k x) (hk : xs.getD k 0 ≠ x) : NotTo xs (k + 1) x := fun j hj => by
  rcases Nat.lt_or_ge j k with hlt | hge
  · exact h j hlt
  · obtain rfl : j = k := by omega
    exact hk
theorem hasB_yes {xs : List Int} {n k : Nat} {x : Int} (hk : k < n) (hl : k < xs.length) (h : xs.getD k 0 = x) : hasB xs n x = true := by
  unfold hasB
  rw [List.contains_iff_mem]
  rw [List.getD_eq_getElem?_getD, List.getElem?_eq_getElem hl] at h
  rw [List.mem_take_iff_getElem]
  exact ⟨k, by omega, h⟩
theorem hasB_no {xs : List Int} {n : Nat} {x : Int} (h : NotTo xs n x) : hasB xs n x = false := by
  unfold hasB
  rw [Bool.eq_false_iff]
  intro hc
  rw [List.contains_iff_mem, List.mem_take_iff_getElem] at hc
  obtain ⟨k, hk, e⟩ := hc
  have hk2 : k < xs.length := by omega
  refine h k (by omega) ?_
  rw [List.getD_eq_getElem?_getD, List.getElem?_eq_getElem hk2]; exact e
set_option maxHeartbeats 1000000 in
theorem index_c (A : Option Addr) (n c B : Nat) (xs : List Int) (x : Int) (w : World) (h : Ins w B A xs) (hnl : n ≤ xs.length) (hn : xs.length ≤ 1048576) :
    Calls Tryz.prog 231 #[.slice A n c, .int .i64 x] w fun e w' => (∃ k : Int, e = .returned (.int .i64 k) ∧ decide (0 ≤ k) = hasB xs n x ∧ -1 ≤ k ∧ k ≤ 1048576) ∧ w = w' := by
  go_enter Tryz.func231, Tryz.ntmps231
  go_wp2
  go_loop [8] (fun i => ∃ k : Nat, k ≤ n ∧ i = .int .i64 k ∧ NotTo xs k x) (fun i => n - (intOf i).toNat)
  case atStart => exact ⟨0, Nat.zero_le _, rfl, NotTo.zero _ _⟩
  case round =>
    obtain ⟨k, hk, rfl, hto⟩ := hrel
    by_cases hlt : k < n
    · obtain ⟨b, off, rfl, hb, hc⟩ := h.at_ (k := k) (by omega)
      obtain ⟨y, Hy⟩ : ∃ y, Hid (xs.getD k 0 = y) := ⟨_, rfl⟩
      rw [Hy.out] at hc
      by_cases he : y = x
      · have hd : (x == y) = true := by simp [he]
        have HR := Lib.hid (hasB_yes hlt (by omega) (Hy.out.trans he)).symm
        clear he
        go_wp2
        go_ret
        exact ⟨⟨_, rfl, by rw [← HR.out]; simp, by omega, by omega⟩, rfl⟩
      · have hd : (x == y) = false := by rw [beq_eq_false_iff_ne]; exact fun h => he h.symm
        have HT := Lib.hid (hto.succ (by rw [Hy.out]; exact he))
        clear he
        go_wp2
        go_round
        case rel => exact ⟨k + 1, by omega, by go_num, HT.out⟩
        case measure => simp [intOf]; omega
    · obtain rfl : k = n := by omega
      have HR := Lib.hid (hasB_no hto).symm
      go_wp2
      go_ret
      exact ⟨⟨_, rfl, by rw [← HR.out]; decide, by omega, by omega⟩, rfl⟩
set_option maxHeartbeats 1000000 in
theorem contains_c (A : Option Addr) (n c B : Nat) (xs : List Int) (x : Int) (w : World) (h : Ins w B A xs) (hnl : n ≤ xs.length) (hn : xs.length ≤ 1048576) :
    Calls Tryz.prog 175 #[.slice A n c, .int .i64 x] w fun e w' => e = .returned (.bool (hasB xs n x)) ∧ w = w' := by
  go_enter Tryz.func175, Tryz.ntmps175
  go_wp2_with fail
  refine (index_c A n c B xs x _ h hnl hn).mono ?_
  rintro e w' ⟨⟨k, rfl, hk, h1, h2⟩, rfl⟩
  have HK := Lib.hid hk
  clear hk
  go_wp2
  go_ret
  exact ⟨ret_bool HK.out, rfl⟩
end Go.Proofs.YtehahodomfbpjaaGreatDoor
/- What a super is; contracts of SuperOK, as the model has it. Conditions: the super can be read, and holds at most 1048576 elements of a kind; its table is no longer than its capacity. -/
namespace Go.Proofs.YtehahodomfbpjaaGreatDoor
set_option linter.unusedVariables false
set_option maxRecDepth 100000
open Go.RowKit

def tbOk (xs : List Int) (k : Nat) : Bool := inB 10 63 (xs.getD k 0) && !hasB xs k (xs.getD k 0)
def tbB (xs : List Int) : Bool := decide (xs.length ≤ 20) && (List.range xs.length).all (tbOk xs)
def TbTo (xs : List Int) (k : Nat) : Prop := ∀ j, j < k → tbOk xs j = true
theorem TbTo.zero (xs : List Int) : TbTo xs 0 := fun j h => absurd h (by omega)
theorem TbTo.succ {xs : List Int} {k : Nat} (h : TbTo xs k) (hk : tbOk xs k = true) : TbTo xs (k + 1) := fun j hj => by
  rcases Nat.lt_or_ge j k with hlt | hge
  · exact h j hlt
  · obtain rfl : j = k := by omega
    exact hk
theorem tbB_no {xs : List Int} {k : Nat} (hk : k < xs.length) (h : tbOk xs k = false) : tbB xs = false := by
  unfold tbB
  rw [show (List.range xs.length).all (tbOk xs) = false from List.all_eq_false.2 ⟨k, by simpa using hk, by simp [h]⟩]; simp
theorem tbB_len {xs : List Int} (h : 20 < xs.length) : tbB xs = false := by unfold tbB; rw [decide_eq_false (by omega)]; rfl
theorem tbB_mk {xs : List Int} (h : xs.length ≤ 20) (h2 : TbTo xs xs.length) : tbB xs = true := by
  unfold tbB
  rw [decide_eq_true h, show (List.range xs.length).all (tbOk xs) = true from List.all_eq_true.2 fun j hj => h2 j (by simpa using hj)]; rfl
theorem tbB_yes {xs : List Int} (h : tbB xs = true) : xs.length ≤ 20 ∧ TbTo xs xs.length := by
  unfold tbB at h
  simp only [Bool.and_eq_true, decide_eq_true_eq] at h
  exact ⟨h.1, fun j hj => List.all_eq_true.1 h.2 j (by simpa using hj)⟩
def mkB (m : Mrk) : Bool := nmB m.1 && inB 0 999999 m.2
def okMk (ms : List Mrk) (k : Nat) : Bool := mkB (ms.getD k mrZ) && (k == 0 || Op.bytesLess (ms.getD (k - 1) mrZ).1.toList (ms.getD k mrZ).1.toList)
def msB (ms : List Mrk) : Bool := decide (ms.length ≤ 4) && (List.range ms.length).all (okMk ms)
def MkTo (ms : List Mrk) (k : Nat) : Prop := ∀ j, j < k → okMk ms j = true
theorem MkTo.zero (ms : List Mrk) : MkTo ms 0 := fun j h => absurd h (by omega)
theorem MkTo.succ {ms : List Mrk} {k : Nat} (h : MkTo ms k) (hk : okMk ms k = true) : MkTo ms (k + 1) := fun j hj => by
  rcases Nat.lt_or_ge j k with hlt | hge
  · exact h j hlt
  · obtain rfl : j = k := by omega
    exact hk
theorem msB_no {ms : List Mrk} {k : Nat} (hk : k < ms.length) (h : okMk ms k = false) : msB ms = false := by
  unfold msB
  rw [show (List.range ms.length).all (okMk ms) = false from List.all_eq_false.2 ⟨k, by simpa using hk, by simp [h]⟩]; simp
theorem msB_len {ms : List Mrk} (h : 4 < ms.length) : msB ms = false := by unfold msB; rw [decide_eq_false (by omega)]; rfl
theorem msB_mk {ms : List Mrk} (h : ms.length ≤ 4) (h2 : MkTo ms ms.length) : msB ms = true := by
  unfold msB
  rw [decide_eq_true h, show (List.range ms.length).all (okMk ms) = true from List.all_eq_true.2 fun j hj => h2 j (by simpa using hj)]; rfl
theorem msB_yes {ms : List Mrk} (h : msB ms = true) : ms.length ≤ 4 ∧ MkTo ms ms.length := by
  unfold msB at h
  simp only [Bool.and_eq_true, decide_eq_true_eq] at h
  exact ⟨h.1, fun j hj => List.all_eq_true.1 h.2 j (by simpa using hj)⟩
/-- What a super is. -/
def superB (g b p t : Int) (xs : List Int) (ms : List Mrk) : Bool := inB 1 999999 g && inB 0 999999 b && inB b 999999 p && inB b 999999 t && tbB xs && msB ms
theorem superB_no {g b p t : Int} {xs : List Int} {ms : List Mrk} (h : (inB 1 999999 g && inB 0 999999 b && inB b 999999 p && inB b 999999 t && tbB xs && msB ms) = false) : superB g b p t xs ms = false := h
end Go.Proofs.YtehahodomfbpjaaGreatDoor
/- The super of a text: its words, its marks, as the model has it and as the program has it (values alone). Conditions: none. -/
namespace Go.Proofs.YtehahodomfbpjaaGreatDoor
set_option linter.unusedVariables false
set_option maxRecDepth 100000
open Go.RowKit

/-- Digits, at most 18 of them, none needless ahead. -/
def plainB (l : List UInt8) : Bool := decide (1 ≤ l.length) && decide (l.length ≤ 18) && (decide (l.length = 1) || decide (l.head? ≠ some 48)) && digL l
theorem plainB_mk {l : List UInt8} (h1 : 1 ≤ l.length) (h2 : l.length ≤ 18) (h3 : l.length = 1 ∨ l.head? ≠ some 48) : plainB l = digL l := by
  unfold plainB
  rw [decide_eq_true h1, decide_eq_true h2]
  rcases h3 with h | h
  · rw [decide_eq_true h]; simp
  · rw [decide_eq_true h]; simp
theorem plainB_size {l : List UInt8} (h : l.length = 0 ∨ 18 < l.length) : plainB l = false := by
  unfold plainB
  rcases h with h | h
  · rw [decide_eq_false (show ¬ 1 ≤ l.length by omega)]; rfl
  · rw [decide_eq_false (show ¬ l.length ≤ 18 by omega)]; simp
theorem plainB_nought {l : List UInt8} (h : 1 < l.length) (h2 : l.head? = some 48) : plainB l = false := by
  unfold plainB
  rw [decide_eq_false (show ¬ l.length = 1 by omega), decide_eq_false (show ¬ l.head? ≠ some 48 by simp [h2])]; simp
theorem digL_mem {l : List UInt8} (h : digL l = true) {x : UInt8} (hx : x ∈ l) : digC x = true := List.all_eq_true.1 h x hx

/-- The mark of a word. -/
def wordM (l : List UInt8) : Option Mrk :=
  if (Lib.cut l [61]).2.2 && plainB (Lib.cut l [61]).2.1 then some (baL (Lib.cut l [61]).1, ((valL (Lib.cut l [61]).2.1 : Nat) : Int)) else none
theorem wordM_hit {a b : List UInt8} (h : 61 ∉ a) : wordM (a ++ 61 :: b) = if plainB b then some (baL a, ((valL b : Nat) : Int)) else none := by
  unfold wordM; rw [cut_hit h]; simp
/-- The marks of words. -/
def marksL : List (List UInt8) → Option (List Mrk)
  | [] => some []
  | w :: ws => (wordM w).bind fun m => (marksL ws).map (m :: ·)
theorem marksL_snoc : ∀ (ws : List (List UInt8)) (w : List UInt8), marksL (ws ++ [w]) = (marksL ws).bind fun ms => (wordM w).map fun m => ms ++ [m]
  | [], w => by
    show (wordM w).bind (fun m => (marksL []).map (m :: ·)) = _
    simp only [marksL, Option.map_some, Option.bind_some]
    cases wordM w <;> rfl
  | x :: ws, w => by
    have ih := marksL_snoc ws w
    rw [List.cons_append, marksL, marksL, ih]
    cases wordM x with
    | none => rfl
    | some m =>
      cases marksL ws with
      | none => rfl
      | some ms => cases wordM w <;> rfl
theorem marksL_len : ∀ {ws : List (List UInt8)} {ms : List Mrk}, marksL ws = some ms → ms.length = ws.length
  | [], ms, h => by simp only [marksL, Option.some.injEq] at h; subst h; rfl
  | x :: ws, ms, h => by
    rw [marksL] at h
    cases hx : wordM x with
    | none => rw [hx] at h; cases h
    | some m =>
      rw [hx, Option.bind_some] at h
      cases hw : marksL ws with
      | none => rw [hw] at h; cases h
      | some ns =>
        rw [hw, Option.map_some, Option.some.injEq] at h
        subst h
        simp [marksL_len hw]
theorem marksL_no : ∀ {ws : List (List UInt8)} {w : List UInt8}, w ∈ ws → wordM w = none → marksL ws = none
  | [], w, h, _ => by simp at h
  | x :: ws, w, h, hn => by
    rw [marksL]
    rcases List.mem_cons.1 h with rfl | h
    · rw [hn]; rfl
    · rw [marksL_no h hn]
      cases wordM x <;> rfl
/-- The words' marks, over texts. -/
def wordB (x : ByteArray) : Option Mrk := wordM x.data.toList
def marksB (ws : List ByteArray) : Option (List Mrk) := marksL (ws.map (·.data.toList))
theorem marksB_succ {ws : List ByteArray} {k : Nat} {ms : List Mrk} {m : Mrk} (hk : k < ws.length) (h : marksB (ws.take k) = some ms) (hm : wordB (ws.getD k ByteArray.empty) = some m) : marksB (ws.take (k + 1)) = some (ms ++ [m]) := by
  unfold marksB wordB at *
  rw [List.take_succ_eq_append_getElem hk, List.map_append, List.map_cons, List.map_nil, marksL_snoc, h]
  rw [List.getD_eq_getElem?_getD, List.getElem?_eq_getElem hk, Option.getD_some] at hm
  rw [hm]; rfl
theorem marksB_no {ws : List ByteArray} {k : Nat} (hk : k < ws.length) (h : wordB (ws.getD k ByteArray.empty) = none) : marksB ws = none := by
  unfold marksB
  rw [List.getD_eq_getElem?_getD, List.getElem?_eq_getElem hk, Option.getD_some] at h
  exact marksL_no (List.mem_map_of_mem (List.getElem_mem hk)) h
theorem marksB_len {ws : List ByteArray} {ms : List Mrk} (h : marksB ws = some ms) : ms.length = ws.length := by
  rw [marksL_len h]; simp
/-- The marks of a text. -/
def marksO (l : List UInt8) : Option (List Mrk) := if l.length = 0 then some [] else marksL (cutL 44 l)
theorem marksO_nil {s : ByteArray} (h : s.size = 0) : marksO s.data.toList = some [] := by unfold marksO; rw [if_pos (by rw [← ba_size]; exact h)]
theorem marksO_cut {s : ByteArray} (h : s.size ≠ 0) : marksO s.data.toList = marksB (cutB 44 s) := by
  unfold marksO marksB cutB
  rw [if_neg (by rw [← ba_size]; exact h), List.map_map]
  congr 1
  conv => lhs; rw [← List.map_id (cutL 44 s.data.toList)]
  exact List.map_congr_left fun x _ => rfl

/-- A super: its four numbers, its table, its marks. -/
abbrev U6 := Int × Int × Int × Int × List Int × List Mrk
def intsN (ns : List Nat) : List Int := ns.map fun (n : Nat) => (n : Int)
theorem intsN_len (ns : List Nat) : (intsN ns).length = ns.length := by unfold intsN; simp
theorem intsN_at (ns : List Nat) (i : Nat) (h : i < ns.length) : inAt (intsN ns) i = intAt ns i := by
  unfold inAt intAt intsN
  rw [List.getD_eq_getElem?_getD, List.getElem?_map, List.getElem?_eq_getElem h, List.getD_eq_getElem?_getD, List.getElem?_eq_getElem h]; rfl
def supOf (ns : List Nat) (ms : List Mrk) : Option U6 :=
  if superB (ns.getD 0 0) (ns.getD 1 0) (ns.getD 2 0) (ns.getD 3 0) (intsN (ns.drop 4)) ms then some (((ns.getD 0 0 : Nat) : Int), ((ns.getD 1 0 : Nat) : Int), ((ns.getD 2 0 : Nat) : Int), ((ns.getD 3 0 : Nat) : Int), intsN (ns.drop 4), ms) else none
theorem supOf_no {ns : List Nat} {ms : List Mrk} (h : superB (ns.getD 0 0) (ns.getD 1 0) (ns.getD 2 0) (ns.getD 3 0) (intsN (ns.drop 4)) ms = false) : supOf ns ms = none := by unfold supOf; rw [h]; rfl
theorem supOf_yes {ns : List Nat} {ms : List Mrk} (h : superB (ns.getD 0 0) (ns.getD 1 0) (ns.getD 2 0) (ns.getD 3 0) (intsN (ns.drop 4)) ms = true) : supOf ns ms = some (((ns.getD 0 0 : Nat) : Int), ((ns.getD 1 0 : Nat) : Int), ((ns.getD 2 0 : Nat) : Int), ((ns.getD 3 0 : Nat) : Int), intsN (ns.drop 4), ms) := by unfold supOf; rw [h]; rfl
theorem supOf_super {ns : List Nat} {ms : List Mrk} {g b p t : Int} {xs : List Int} {ms' : List Mrk} (h : supOf ns ms = some (g, b, p, t, xs, ms')) : superB g b p t xs ms' = true := by
  unfold supOf at h
  split at h
  · rename_i hs
    injection h with h
    injection h with h0 h
    injection h with h1 h
    injection h with h2 h
    injection h with h3 h
    injection h with h4 h5
    subst h0 h1 h2 h3 h4 h5
    exact hs
  · cases h
/-- The super of a head and a tail. -/
def partU (h m : List UInt8) : Option U6 := (numsO h).bind fun ns => if 4 ≤ ns.length then (marksO m).bind (supOf ns) else none
theorem partU_nums {h m : List UInt8} (e : numsO h = none) : partU h m = none := by unfold partU; rw [e]; rfl
theorem partU_few {h m : List UInt8} {ns : List Nat} (e : numsO h = some ns) (hl : ns.length < 4) : partU h m = none := by
  unfold partU; rw [e, Option.bind_some, if_neg (by omega)]
theorem partU_marks {h m : List UInt8} {ns : List Nat} (e : numsO h = some ns) (hm : marksO m = none) : partU h m = none := by
  unfold partU; rw [e, Option.bind_some, hm]; simp
theorem partU_yes {h m : List UInt8} {ns : List Nat} {ms : List Mrk} (e : numsO h = some ns) (hl : 4 ≤ ns.length) (hm : marksO m = some ms) : partU h m = supOf ns ms := by
  unfold partU; rw [e, Option.bind_some, if_pos hl, hm]; rfl
theorem partU_super {h m : List UInt8} {g b p t : Int} {xs : List Int} {ms : List Mrk} (e : partU h m = some (g, b, p, t, xs, ms)) : superB g b p t xs ms = true := by
  unfold partU at e
  cases hn : numsO h with
  | none => rw [hn] at e; cases e
  | some ns =>
    rw [hn, Option.bind_some] at e
    split at e
    · cases hm : marksO m with
      | none => rw [hm] at e; cases e
      | some ms' => rw [hm, Option.bind_some] at e; exact supOf_super e
    · cases e
/-- The super of a text, if it is one. -/
def rdU (t : ByteArray) : Option U6 :=
  if opensB t && (Lib.cut (bodyOf t).data.toList [124]).2.2 then partU (Lib.cut (bodyOf t).data.toList [124]).1 (Lib.cut (bodyOf t).data.toList [124]).2.1 else none
theorem rdU_shut {t : ByteArray} (h : opensB t = false) : rdU t = none := by unfold rdU; rw [h]; rfl
theorem rdU_miss {t : ByteArray} (h : 124 ∉ (bodyOf t).data.toList) : rdU t = none := by unfold rdU; rw [cut_miss h]; simp
theorem rdU_hit {t : ByteArray} {a b : List UInt8} (h : opensB t = true) (h2 : 124 ∉ a) (e : (bodyOf t).data.toList = a ++ 124 :: b) : rdU t = partU a b := by
  unfold rdU; rw [h, e, cut_hit h2]; rfl
theorem rdU_super {t : ByteArray} {g b p q : Int} {xs : List Int} {ms : List Mrk} (e : rdU t = some (g, b, p, q, xs, ms)) : superB g b p q xs ms = true := by
  unfold rdU at e
  split at e
  · exact partU_super e
  · cases e
/-- The super and the code that a text has. -/
def zU : U6 := (0, 0, 0, 0, [], [])
def suA (t : ByteArray) : U6 := if t.size ≤ 65536 then (rdU t).getD zU else zU
def suC (t : ByteArray) : Int := if t.size ≤ 65536 then (if (rdU t).isSome then 0 else 3) else 2
end Go.Proofs.YtehahodomfbpjaaGreatDoor
/- A text with its sum is read back: the numbers of the text of numbers are those numbers. Conditions: none. -/
namespace Go.Proofs.YtehahodomfbpjaaGreatDoor
set_option linter.unusedVariables false
set_option maxRecDepth 100000
open Go.RowKit

theorem dig_ch (n : Nat) : (UInt8.ofNat (48 + n % 10)).toNat = 48 + n % 10 := by
  have : n % 10 < 10 := Nat.mod_lt _ (by decide)
  simp only [UInt8.toNat_ofNat']
  omega
theorem digL_pad : ∀ k n, digL (pad k n) = true
  | 0, n => rfl
  | k + 1, n => by
    show digL (pad k (n / 10) ++ [UInt8.ofNat (48 + n % 10)]) = true
    have : n % 10 < 10 := Nat.mod_lt _ (by decide)
    rw [digL_snoc, digL_pad k (n / 10)]
    unfold digC digI
    rw [dig_ch]
    simp
    omega
theorem valL_pad : ∀ k n, valL (pad k n) = n % 10 ^ k
  | 0, n => by show 0 = n % 1; omega
  | k + 1, n => by
    show valL (pad k (n / 10) ++ [UInt8.ofNat (48 + n % 10)]) = _
    rw [valL_snoc, valL_pad k (n / 10), dig_ch, show 10 ^ (k + 1) = 10 * 10 ^ k by rw [Nat.pow_succ]; omega, Nat.mod_mul]
    omega
theorem digL_app (a b : List UInt8) : digL (a ++ b) = (digL a && digL b) := by unfold digL; rw [List.all_append]
theorem digL_padAll : ∀ ns, digL (padAll ns) = true
  | [] => rfl
  | n :: ns => by
    show digL (pad 6 n ++ padAll ns) = true
    rw [digL_app, digL_pad, digL_padAll ns]; rfl
theorem chunk_padAll : ∀ (ns : List Nat) (j : Nat), j < ns.length → chunk (padAll ns) j = pad 6 (ns.getD j 0)
  | [], j, h => by simp at h
  | n :: ns, 0, h => by
    show ((pad 6 n ++ padAll ns).drop (6 * 0)).take 6 = pad 6 n
    simp only [Nat.mul_zero, List.drop_zero]
    exact List.take_left' (pad_len 6 n)
  | n :: ns, j + 1, h => by
    show ((pad 6 n ++ padAll ns).drop (6 * (j + 1))).take 6 = pad 6 (ns.getD j 0)
    rw [← chunk_padAll ns j (by simpa using h)]
    unfold chunk
    refine congrArg (List.take 6) ?_
    rw [show 6 * (j + 1) = (pad 6 n).length + 6 * j by rw [pad_len]; omega, List.drop_append, List.drop_eq_nil_of_le (by omega), Nat.add_sub_cancel_left, List.nil_append]
theorem numsO_padAll (ns : List Nat) (h : All6 ns) : numsO (padAll ns) = some ns := by
  have hl := padAll_len ns
  rw [numsO_yes (by rw [hl]; omega) (digL_padAll ns), hl, Nat.mul_div_cancel _ (by decide)]
  congr 1
  unfold numsOf
  apply List.ext_getElem (by simp)
  intro j h1 h2
  have h3 := h j h2
  rw [List.getElem_map, List.getElem_range, chunk_padAll ns j h2, valL_pad, Nat.mod_eq_of_lt (by omega)]
  rw [List.getD_eq_getElem?_getD, List.getElem?_eq_getElem h2]; rfl
theorem sumD_len (s : ByteArray) : (sumD s).length = 3 := pad_len _ _
theorem sealS_list (s : ByteArray) : (sealS s).data.toList = s.data.toList ++ sumD s := by unfold sealS; rw [ba_app]
theorem sealS_size (s : ByteArray) : (sealS s).size = s.size + 3 := by rw [ba_size, sealS_list, List.length_append, sumD_len, ← ba_size]
theorem bodyOf_list (t : ByteArray) : (bodyOf t).data.toList = t.data.toList.take (t.size - 3) := by
  unfold bodyOf
  rw [ByteArray.data_extract]
  simp
theorem ba_ext {a b : ByteArray} (h : a.data.toList = b.data.toList) : a = b := by rw [ba_eq h]
theorem bodyOf_seal (s : ByteArray) : bodyOf (sealS s) = s := by
  apply ba_ext
  rw [bodyOf_list, sealS_size, sealS_list, show s.size + 3 - 3 = s.size by omega]
  exact List.take_left' (ba_size s).symm
theorem opensB_seal (s : ByteArray) : opensB (sealS s) = true := by
  rw [opensB_of (by rw [sealS_size]; omega)]
  unfold sealB
  rw [bodyOf_seal]
  exact beq_self_eq_true _
/-- The text of numbers is read back. -/
theorem rdN_seal (ns : List Nat) (h : All6 ns) : rdN (sealS (numsS ns)) = some ns := by
  rw [rdN_yes (opensB_seal _), bodyOf_seal]
  exact numsO_padAll ns h
end Go.Proofs.YtehahodomfbpjaaGreatDoor
