/-
  Texts of the proof, put together in their order: Bld, Frt, Nmt, Ins, Nat, Num.
  Conditions: those of each.
-/
import Derived.Test.YtehahodomfbpjaaDoorMc1
import Derived.Lib.Builder
import Derived.Lib.AppendStr
import Derived.Lib.UnsafeStr
import Derived.Laws.Externs
import Derived.RegionTactic
import Derived.Shelf.Strings.Builder1
import Derived.Deep.QuietTactic
import Derived.BigQuiet
import Derived.Deep.AppendLies
/- Contracts of strings.Builder's WriteString and String on a builder of the call's own. Conditions: at most 100000 bytes are written. -/
namespace Go.Proofs.YtehahodomfbpjaaDoor
set_option linter.unusedVariables false
set_option maxRecDepth 100000
open Go.RowKit

theorem bldSize : (Tryd.prog.info? 94).map (·.size) = some 2 := by kernel_rfl
theorem bldLies : liesAt Tryd.prog Tryd.prog.depth 94 (2 / Tryd.prog.cellsOf 94) 0 94 1 = true := by kernel_rfl
theorem bldByte : (Tryd.prog.info? 5).map (fun i => (i.zero, i.size, i.bytes)) = some (some (.int .u8 0), 1, 1) := by kernel_rfl
theorem bldCells : Tryd.prog.cellsOf 5 = 1 := by kernel_rfl

set_option maxRecDepth 100000 in
set_option maxHeartbeats 1000000 in
/-- The check that a builder has not been copied: one that was written stays as it is. -/
theorem copyUsed_c (b : Nat) (w : World) (h0 : w.cell? ⟨b, 0, none⟩ = some (.pointer (some ⟨b, 0, none⟩))) :
    Calls Tryd.prog 83 #[.pointer (some ⟨b, 0, none⟩)] w fun e w' => e = .returned (.tuple #[]) ∧ w = w' := by
  obtain ⟨j, hj, _⟩ := Option.map_eq_some_iff.1 bldSize
  go_enter Tryd.func83, Tryd.ntmps83
  go_wp2
  rw [Lib.run_neq_ptr_same w _ Tryd.underlying92 hj]
  go_wp2
  go_end0
  exact ⟨rfl, rfl⟩
set_option maxRecDepth 100000 in
set_option maxHeartbeats 1000000 in
/-- .. a new one keeps its own address from then on. -/
theorem copyNew_c (b : Nat) (w : World) (h0 : w.cell? ⟨b, 0, none⟩ = some (.pointer none)) (hsh : w.shape? b = some (94, 2)) (hfz : w.frozen? ⟨b, 0, none⟩ = false) :
    Calls Tryd.prog 83 #[.pointer (some ⟨b, 0, none⟩)] w fun e w' => e = .returned (.tuple #[]) ∧ w.setCell ⟨b, 0, none⟩ (.pointer (some ⟨b, 0, none⟩)) = w' := by
  obtain ⟨j, hj, hjs⟩ := Option.map_eq_some_iff.1 bldSize
  go_enter Tryd.func83, Tryd.ntmps83
  go_wp2
  rw [Lib.run_to_unsafe w ⟨b, 0, none⟩ Tryd.underlying92 Tryd.underlying121 hj (by rw [hjs]; decide) hsh (Nat.zero_lt_succ 1)]
  simp only [Result.andThen]
  rw [Oper.upon_value]
  go_wp2
  rw [run_callFunc_extern Tryd.func92 (by kernel_rfl) (by kernel_rfl) (by kernel_rfl) (e := Extern.AbiNoEscape.same) (by kernel_rfl)]
  rw [Lib.run_noEscape]
  simp only [Result.andThen]
  rw [Oper.upon_value]
  go_wp2
  rw [Lib.run_from_unsafe w ⟨b, 0, none⟩ Tryd.underlying121 Tryd.underlying92 hj hsh bldLies]
  simp only [Result.andThen]
  rw [Oper.upon_value]
  go_wp2
  go_end0
  exact ⟨rfl, rfl⟩

/-- A builder of the call's own that holds the bytes l: its struct is block b, its row lies above b. -/
def Bd (w : World) (b : Nat) (l : List UInt8) : Prop := Lib.IsBuilder 94 5 b b (Lib.byteCells l) w
theorem BuilderAt.nx {T e : TypeId} {B b : Nat} {p : Value} {bs : List Value} {w w' : World} (h : Lib.BuilderAt T e B b p bs w) (hb : Nx w w') : Lib.BuilderAt T e B b p bs w' := by
  have hlt := h.lt
  obtain ⟨hB, v, h1, h2, h3⟩ := h
  refine ⟨hB, v, (hb.block b hlt).trans h1, ?_, h3⟩
  refine h2.kept (row := none) ⟨hb.os, hb.tape, hb.output, hb.size, fun i hi _ => hb.block i hi⟩ ?_
  cases hv : v.ownBlock with
  | none => exact .inl rfl
  | some g => exact .inr (by simp)
theorem Bd.nx {w w' : World} {b : Nat} {l : List UInt8} (h : Bd w b l) (hb : Nx w w') : Bd w' b l := h.imp (fun h => BuilderAt.nx h hb) (fun h => BuilderAt.nx h hb)
theorem Bd.new (w : World) : Bd (w.alloc (.cells #[.pointer none, .slice none 0 0] 94)) w.heap.size [] :=
  .inl ⟨Nat.le_refl _, _, heap_alloc_new w _, ⟨rfl, .inl ⟨rfl, rfl⟩⟩, by simp [Value.ownBlock]⟩
theorem byteCells_append (a b : List UInt8) : Lib.byteCells (a ++ b) = Lib.byteCells a ++ Lib.byteCells b := by simp [Lib.byteCells]

set_option maxRecDepth 100000 in
set_option maxHeartbeats 2000000 in
theorem writeUsed_c (b : Nat) (bs : List Value) (s : ByteArray) (w : World) (h : Lib.BuilderAt 94 5 b b (.pointer (some ⟨b, 0, none⟩)) bs w) (hlen : bs.length + s.size ≤ 100000) (W : World)
    (hW : Calls Tryd.prog 83 #[.pointer (some ⟨b, 0, none⟩)] W fun e w' => e = .returned (.tuple #[]) ∧ w = w') (hb1 : Below b W w) :
    Calls Tryd.prog 63 #[.pointer (some ⟨b, 0, none⟩), .string s] W fun e w' => e = .returned (.tuple #[.int .i64 s.size, .nilIface]) ∧
      Lib.BuilderAt 94 5 b b (.pointer (some ⟨b, 0, none⟩)) (bs ++ Lib.strCells s) w' ∧ Below b W w' := by
  obtain ⟨i0, hi, hz0, hz1, hz2⟩ := info_parts bldByte
  have hlt := h.lt
  obtain ⟨hB, v, hbk, hown, hne⟩ := h
  have c0 : w.cell? ⟨b, 0, none⟩ = some (.pointer (some ⟨b, 0, none⟩)) := by rw [Lib.cell_of_heap hbk]; rfl
  have c1 : w.cell? ⟨b, 1, none⟩ = some v := by rw [Lib.cell_of_heap hbk]; rfl
  go_enter Tryd.func63, Tryd.ntmps63
  go_wp2_with fail
  refine hW.mono ?_
  rintro e w1 ⟨rfl, rfl⟩
  go_wp2_with (at_builtin; refine Lib.wpList_append_own_string _ rfl _ _ 35 9 rfl b 5 i0 Tryd.underlying35 Tryd.underlying9 hi hz0 hz1 hz2 _ _ _ rfl hown s rfl ?c3 ?c4 ?c5 ?_)
  case c3 => unfold maxLen; omega
  case c4 => omega
  case c5 => omega
  intro v' w2 hown' hgrow _
  have hb2 : w2.heap[b]? = some (.cells #[.pointer (some ⟨b, 0, none⟩), v] 94 (0, 0)) := by
    rw [hgrow.block b hlt (fun e => hne e.symm)]
    exact hbk
  have d0 : w2.cell? ⟨b, 0, none⟩ = some (.pointer (some ⟨b, 0, none⟩)) := by rw [Lib.cell_of_heap hb2]; rfl
  have d1 : w2.cell? ⟨b, 1, none⟩ = some v := by rw [Lib.cell_of_heap hb2]; rfl
  have f1 : w2.frozen? ⟨b, 1, none⟩ = false := Lib.frozen_of_heap hb2 1
  obtain ⟨ao, n', cap, rfl⟩ : ∃ ao n' cap, v' = .slice ao n' cap := by
    rcases hown'.2 with ⟨hv, _⟩ | ⟨g, cap, cur, hv, _⟩
    · exact ⟨_, _, _, hv⟩
    · exact ⟨_, _, _, hv⟩
  go_wp2
  go_ret2
  refine ⟨rfl, ?_, ?_⟩
  · exact Lib.BuilderAt.put (T := 94) (e := 5) hB hb2 (bs' := bs ++ Lib.strCells s) (by simpa [Lib.strCells_length] using hown') (by decide)
  · exact (hb1.grown hgrow (by have := hb1.size; omega) (fun k hk => (hown.lt k hk).1)).setCell (p := ⟨b, 1, none⟩) hB _
theorem strCells_bytes (s : ByteArray) : Lib.strCells s = Lib.byteCells s.data.toList := by simp [Lib.strCells, Lib.byteCells]
set_option maxHeartbeats 1000000 in
/-- WriteString: the bytes stand behind the others. -/
theorem writeString_c (b : Nat) (l : List UInt8) (s : ByteArray) (w : World) (h : Bd w b l) (hlen : l.length + s.size ≤ 100000) :
    Calls Tryd.prog 63 #[.pointer (some ⟨b, 0, none⟩), .string s] w fun e w' => e = .returned (.tuple #[.int .i64 s.size, .nilIface]) ∧ Bd w' b (l ++ s.data.toList) ∧ Below b w w' := by
  rcases h with h | h
  · have hlt := h.lt
    have hsh := h.shape
    have h0 := h.cell0
    obtain ⟨hB, v, hbk, hown, hne⟩ := h
    have hfz : w.frozen? ⟨b, 0, none⟩ = false := Lib.frozen_of_heap hbk 0
    have hk := copyNew_c b w h0 hsh hfz
    have hw2 : Lib.BuilderAt 94 5 b b (.pointer (some ⟨b, 0, none⟩)) (Lib.byteCells l) (w.setCell ⟨b, 0, none⟩ (.pointer (some ⟨b, 0, none⟩))) := by
      refine ⟨hB, v, ?_, ?_, hne⟩
      · have hx : Box w b 94 #[.pointer none, v] := hbk
        exact hx.set0 _
      · refine hown.kept (row := some b) ⟨rfl, rfl, rfl, by simp [World.setCell], fun i hi hn => Below.heap_setCell _ _ _ _ (fun e => hn (by rw [e]))⟩ (.inr hne)
    refine (writeUsed_c b (Lib.byteCells l) s _ hw2 (by rw [Lib.byteCells_length]; exact hlen) w hk ((Below.refl b w).setCell (p := ⟨b, 0, none⟩) (Nat.le_refl _) _)).mono ?_
    rintro e w1 ⟨rfl, h1, h2⟩
    refine ⟨rfl, .inr ?_, h2⟩
    rw [byteCells_append, ← strCells_bytes]; exact h1
  · refine (writeUsed_c b (Lib.byteCells l) s _ h (by rw [Lib.byteCells_length]; exact hlen) w (copyUsed_c b w h.cell0) (Below.refl b w)).mono ?_
    rintro e w1 ⟨rfl, h1, h2⟩
    refine ⟨rfl, .inr ?_, h2⟩
    rw [byteCells_append, ← strCells_bytes]; exact h1
set_option maxRecDepth 100000 in
set_option maxHeartbeats 1000000 in
/-- String: the bytes. -/
theorem string_c (b : Nat) (l : List UInt8) (w : World) (h : Bd w b l) (h0 : l ≠ []) :
    Calls Tryd.prog 64 #[.pointer (some ⟨b, 0, none⟩)] w fun e w' => e = .returned (.string ⟨l.toArray⟩) ∧ Below b w w' := by
  obtain ⟨p, hB, v, hbk, hown, hne⟩ : ∃ p, Lib.BuilderAt 94 5 b b p (Lib.byteCells l) w := by
    rcases h with h | h
    · exact ⟨_, h⟩
    · exact ⟨_, h⟩
  have hl0 : l.length ≠ 0 := by simpa using h0
  rw [Lib.byteCells_length] at hown
  obtain ⟨g, cap, cur, rfl, hbg, hg, hnc, hcm, hcs, htake⟩ : ∃ g cap cur, v = .slice (some ⟨g, 0, none⟩) l.length cap ∧ b ≤ g ∧ w.heap[g]? = some (.cells cur 5 (0, 0)) ∧ l.length ≤ cap ∧ cap ≤ maxLen ∧ cur.size = cap * 1 ∧ cur.toList.take (l.length * 1) = Lib.byteCells l := by
    rcases hown.2 with ⟨_, hz⟩ | ⟨g, cap, cur, hv, r⟩
    · exact absurd hz hl0
    · exact ⟨g, cap, cur, hv, r⟩
  have hg' : w.drew.heap[g]? = some (.cells cur 5 (0, 0)) := hg
  have c1 : w.drew.cell? ⟨b, 1, none⟩ = some (.slice (some ⟨g, 0, none⟩) l.length cap) := by
    have : w.drew.heap[b]? = some (.cells #[p, .slice (some ⟨g, 0, none⟩) l.length cap] 94 (0, 0)) := hbk
    rw [Lib.cell_of_heap this]; rfl
  have hSD : (Builtin.unsafeSliceData_ #[35] 112 #[.slice (some ⟨g, 0, none⟩) l.length cap]).run Tryd.prog w.drew = .ok (.pointer (some ⟨g, 0, none⟩)) w.drew :=
    Lib.run_unsafeSliceData_row _ _ _ _ _ _ (by omega)
  have hUS : (Builtin.unsafeString_ #[112, 3] 9 #[.pointer (some ⟨g, 0, none⟩), .int .i64 l.length]).run Tryd.prog w.drew = .ok (.string ⟨l.toArray⟩) (w.drew.freeze ⟨g, 0, none⟩ l.length) := by
    refine Lib.run_unsafeString_row w.drew 112 3 9 5 Tryd.underlying112 bldCells g cur.size (by simp [World.shape?, hg']) l h0 (by omega) (by unfold maxLen at hcm; omega) ?_
    intro j x hx
    exact hown.cells (g := g) rfl j (.int .u8 x.toNat) (by simp [Lib.byteCells, hx])
  go_enter Tryd.func64, Tryd.ntmps64
  go_wp2
  go_region
  all_goals (go_wp2; go_ret; exact ⟨rfl, Lib.below_freeze (Below.drew (Below.refl b w)) (p := ⟨g, 0, none⟩) hbg _⟩)
end Go.Proofs.YtehahodomfbpjaaDoor
/- Contracts of FrameText, as the model has it. Conditions: none. -/
namespace Go.Proofs.YtehahodomfbpjaaDoor
set_option linter.unusedVariables false
set_option maxRecDepth 100000
open Go.RowKit

/-- A text with its sum. -/
def sealS (s : ByteArray) : ByteArray := s ++ ⟨(sumD s).toArray⟩
def numsS (ns : List Nat) : ByteArray := ⟨(padAll ns).toArray⟩
theorem numsS_size (ns : List Nat) : (numsS ns).size = ns.length * 6 := by rw [ba_size]; exact padAll_len ns
def frameS (p b v t : Int) : ByteArray := if frameB p b v t then sealS (numsS [p.toNat, b.toNat, v.toNat, t.toNat]) else ⟨#[]⟩
def codeB (ok : Bool) (c : Int) : Int := if ok then 0 else c
theorem frameB_yes {p b v t : Int} (h : frameB p b v t = true) : (1 ≤ p ∧ p ≤ 999999) ∧ (0 ≤ b ∧ b ≤ 7) ∧ (0 ≤ v ∧ v ≤ 999999) ∧ (0 ≤ t ∧ t ≤ 999999) := by
  unfold frameB at h
  simp only [Bool.and_eq_true] at h
  exact ⟨inB_yes h.1.1.1, inB_yes h.1.1.2, inB_yes h.1.2, inB_yes h.2⟩
theorem ret_tup {a b : ByteArray} {c d : Int} (h : a = b) (k : c = d) : Ending.returned (.tuple #[.string a, .int .i64 c]) = .returned (.tuple #[.string b, .int .i64 d]) := by rw [h, k]

theorem Own.new4 (w : World) (t : TypeId) (a b c d : Value) : Own (w.alloc (.cells #[a, b, c, d] t)) w.heap.size t 4 (fun i => #[a, b, c, d].getD i undef) :=
  ⟨_, heap_alloc_new w _, by simp, fun i hi => by
    match i, hi with
    | 0, _ => rfl
    | 1, _ => rfl
    | 2, _ => rfl
    | 3, _ => rfl⟩
theorem int4 (p b v t : Nat) : ∀ i, i < 4 → (#[Value.int .i64 (p : Int), .int .i64 (b : Int), .int .i64 (v : Int), .int .i64 (t : Int)].getD i undef) = intAt [p, b, v, t] i := fun i hi => by
  match i, hi with
  | 0, _ => rfl
  | 1, _ => rfl
  | 2, _ => rfl
  | 3, _ => rfl
theorem all4 {p b v t : Nat} (h1 : p ≤ 999999) (h2 : b ≤ 999999) (h3 : v ≤ 999999) (h4 : t ≤ 999999) : All6 [p, b, v, t] := fun i hi => by
  match i, hi with
  | 0, _ => exact h1
  | 1, _ => exact h2
  | 2, _ => exact h3
  | 3, _ => exact h4
set_option maxHeartbeats 1000000 in
theorem l02FrameText_c (p b v t : Nat) (w : World) (h1 : p ≤ 999999) (h2 : b ≤ 999999) (h3 : v ≤ 999999) (h4 : t ≤ 999999) :
    Calls Tryd.prog 52 #[.agg #[.int .i64 p, .int .i64 b, .int .i64 v, .int .i64 t]] w fun e w' => e = .returned (.string (sealS (numsS [p, b, v, t]))) ∧ Nx w w' := by
  go_enter Tryd.func52, Tryd.ntmps52
  go_wp2_with fail
  have hx0 := ((Nx.refl w).alloc (.cells #[.int .i64 p, .int .i64 b, .int .i64 v, .int .i64 t] 41)).alloc (.cells #[.int .i64 p, .int .i64 b, .int .i64 v, .int .i64 t] 3)
  have ho := (Own.new4 (w.alloc (.cells #[.int .i64 p, .int .i64 b, .int .i64 v, .int .i64 t] 41)) 3 (.int .i64 p) (.int .i64 b) (.int .i64 v) (.int .i64 t)).congr (int4 p b v t)
  simp only [World.size_alloc] at ho
  generalize (w.alloc (.cells #[.int .i64 p, .int .i64 b, .int .i64 v, .int .i64 t] 41)).alloc (.cells #[.int .i64 p, .int .i64 b, .int .i64 v, .int .i64 t] 3) = W at *
  refine (l02Join_c _ 4 _ [p, b, v, t] _ (ho.row ho.lt) (Nat.le_refl _) (all4 h1 h2 h3 h4) (by simp)).mono ?_
  rintro e w1 ⟨rfl, hnx1⟩
  go_wp2_with fail
  refine (l02Seal_c (numsS [p, b, v, t]) _ (by rw [numsS_size]; simp)).mono ?_
  rintro e w2 ⟨rfl, hnx2⟩
  go_wp2
  go_ret
  exact ⟨rfl, (hx0.trans hnx1).trans hnx2⟩
set_option maxHeartbeats 1000000 in
theorem specFrameText_c (p b v t : Int) (w : World) :
    Calls Tryd.prog 19 #[.agg #[.int .i64 p, .int .i64 b, .int .i64 v, .int .i64 t]] w fun e w' => e = .returned (.tuple #[.string (frameS p b v t), .int .i64 (codeB (frameB p b v t) 1)]) ∧ Nx w w' := by
  cases hf : frameB p b v t with
  | false =>
    have HF := Lib.hid hf
    have HS := Lib.hid (show (⟨#[]⟩ : ByteArray) = frameS p b v t by unfold frameS; rw [hf]; rfl)
    clear hf
    go_enter Tryd.func19, Tryd.ntmps19
    go_wp2_with fail
    refine (specFrameOK_c p b v t _).mono ?_
    rintro e w1 ⟨rfl, hnx1⟩
    rw [HF.out]
    go_wp2
    go_ret2
    exact ⟨ret_tup HS.out rfl, ((Nx.refl w).alloc _).trans hnx1⟩
  | true =>
    obtain ⟨⟨p1, p2⟩, ⟨b1, b2⟩, ⟨v1, v2⟩, ⟨t1, t2⟩⟩ := frameB_yes hf
    obtain ⟨p, rfl⟩ := Int.eq_ofNat_of_zero_le (show 0 ≤ p by omega)
    obtain ⟨b, rfl⟩ := Int.eq_ofNat_of_zero_le b1
    obtain ⟨v, rfl⟩ := Int.eq_ofNat_of_zero_le v1
    obtain ⟨t, rfl⟩ := Int.eq_ofNat_of_zero_le t1
    have HF := Lib.hid hf
    have HS := Lib.hid (show sealS (numsS [p, b, v, t]) = frameS p b v t by unfold frameS; rw [hf]; rfl)
    clear hf
    go_enter Tryd.func19, Tryd.ntmps19
    go_wp2_with fail
    have b0 := Box.new w 41 #[.int .i64 p, .int .i64 b, .int .i64 v, .int .i64 t]
    have hx0 := (Nx.refl w).alloc (.cells #[.int .i64 p, .int .i64 b, .int .i64 v, .int .i64 t] 41)
    generalize w.alloc (.cells #[.int .i64 p, .int .i64 b, .int .i64 v, .int .i64 t] 41) = W at *
    refine (specFrameOK_c p b v t _).mono ?_
    rintro e w1 ⟨rfl, hnx1⟩
    rw [HF.out]
    obtain ⟨c0, c1, c2, c3⟩ := (b0.nx hnx1).d4
    go_wp2_with fail
    refine (l02FrameText_c p b v t _ (by omega) (by omega) (by omega) (by omega)).mono ?_
    rintro e w2 ⟨rfl, hnx2⟩
    go_wp2
    go_ret2
    exact ⟨ret_tup HS.out rfl, (hx0.trans hnx1).trans hnx2⟩
end Go.Proofs.YtehahodomfbpjaaDoor
/- Contracts of the program's numbersText and sealed. Conditions: the numbers are from 0 to 999999, at least one and at most 1000; a text of at most 65536 bytes is sealed. -/
namespace Go.Proofs.YtehahodomfbpjaaDoor
set_option linter.unusedVariables false
set_option maxRecDepth 100000
open Go.RowKit

theorem Nx.of_below {a w w' : World} {b : Nat} (h : Nx a w) (k : Below b w w') (hb : a.heap.size ≤ b) : Nx a w' := Below.trans h (Below.mono k hb)
set_option maxHeartbeats 1000000 in
theorem numbersText_c (A : Option Addr) (c B : Nat) (ns : List Nat) (w : World) (h : Row w B A ns.length (intAt ns)) (hB : B ≤ w.heap.size) (h6 : All6 ns) (hn0 : 1 ≤ ns.length) (hn : ns.length ≤ 1000) :
    Calls Tryd.prog 35 #[.slice A ns.length c] w fun e w' => e = .returned (.string (numsS ns)) ∧ Nx w w' := by
  have hbd := Bd.new w
  go_enter Tryd.func35, Tryd.ntmps35
  go_wp2
  go_loopw [8] (fun i wr => ∃ k : Nat, k ≤ ns.length ∧ i = .int .i64 k ∧ Bd wr w.heap.size (padTo ns k) ∧ Nx w wr) (fun i _ => ns.length - (intOf i).toNat)
  case atStart => exact ⟨0, Nat.zero_le _, rfl, hbd, (Nx.refl _).alloc _⟩
  case round =>
    obtain ⟨k, hk, rfl, hb, hnx⟩ := hrel
    clear hbd
    by_cases hlt : k < ns.length
    · obtain ⟨b, off, rfl, hb2, hc0⟩ := (h.below hnx hB) (by omega)
      have hc := hc0 k hlt
      have hn6 := h6 k hlt
      have HP := Lib.hid (padTo_succ ns k hlt)
      have hL := padTo_len ns k hk
      clear hc0
      unfold intAt at hc
      obtain ⟨x, Hx⟩ : ∃ x, Hid (ns.getD k 0 = x) := ⟨_, rfl⟩
      rw [Hx.out] at hc hn6 HP
      have HL := Lib.hid hL
      clear hL
      go_wp2_with fail
      refine (padded_c x 6 _ hn6 (by omega) (by omega)).mono ?_
      rintro e w1 ⟨rfl, hnx1⟩
      go_wp2_with fail
      refine (writeString_c w.heap.size (padTo ns k) _ _ (hb.nx hnx1) (by rw [HL.out]; simp [ByteArray.size, pad_len]; omega)).mono ?_
      rintro e w2 ⟨rfl, hbd2, hbl⟩
      clear hc
      go_wp2
      go_roundw
      case rel => exact ⟨k + 1, by omega, by go_num, by rw [HP.out]; exact hbd2, (hnx.trans hnx1).of_below hbl (Nat.le_refl _)⟩
      case measure => simp [intOf]; omega
    · obtain rfl : k = ns.length := by omega
      have hne : padTo ns ns.length ≠ [] := fun e => by
        have := padTo_len ns ns.length (Nat.le_refl _)
        rw [e] at this
        simp at this
        omega
      go_wp2_with fail
      refine (string_c w.heap.size (padTo ns ns.length) _ hb hne).mono ?_
      rintro e w1 ⟨rfl, hbl⟩
      go_wp2
      go_ret
      exact ⟨ret_str (by rw [padTo_all]; rfl), hnx.of_below hbl (Nat.le_refl _)⟩

set_option maxHeartbeats 1000000 in
theorem sealed_c (s : ByteArray) (w : World) (hs : s.size ≤ 65536) : Calls Tryd.prog 34 #[.string s] w fun e w' => e = .returned (.string (sealS s)) ∧ Nx w w' := by
  obtain ⟨h0, h1⟩ := sumL_bd s.data.toList
  obtain ⟨q, hq⟩ : ∃ q : Nat, sumS s = (q : Int) := ⟨(sumS s).toNat, by have : 0 ≤ sumS s := h0; omega⟩
  have hq6 : q ≤ 996 := by have : sumS s ≤ 996 := h1; omega
  have HD := Lib.hid (show pad 3 q = sumD s by unfold sumD; rw [hq]; rfl)
  have HQ := Lib.hid hq
  clear hq
  go_enter Tryd.func34, Tryd.ntmps34
  go_wp2_with fail
  refine (implSumOf_c s _ (by unfold maxLen; omega)).mono ?_
  rintro e w1 ⟨rfl, rfl⟩
  rw [← sumOfS_yes hs, HQ.out]
  go_wp2_with fail
  refine (padded_c q 3 _ (by omega) (by omega) (by omega)).mono ?_
  rintro e w1 ⟨rfl, hnx1⟩
  obtain ⟨d, Hd⟩ : ∃ d : ByteArray, Hid ((⟨(pad 3 q).toArray⟩ : ByteArray) = d) := ⟨_, rfl⟩
  have hd6 : d.size ≤ 3 := by rw [← Hd.out]; simp [ByteArray.size, pad_len]
  rw [Hd.out]
  go_wp2
  go_ret
  exact ⟨ret_str (by unfold sealS; rw [← HD.out, Hd.out]), hnx1⟩
set_option maxHeartbeats 1000000 in
theorem implFrameText_c (p b v t : Int) (w : World) :
    Calls Tryd.prog 18 #[.agg #[.int .i64 p, .int .i64 b, .int .i64 v, .int .i64 t]] w fun e w' => e = .returned (.tuple #[.string (frameS p b v t), .int .i64 (codeB (frameB p b v t) 1)]) ∧ Nx w w' := by
  cases hf : frameB p b v t with
  | false =>
    have HF := Lib.hid hf
    have HS := Lib.hid (show (⟨#[]⟩ : ByteArray) = frameS p b v t by unfold frameS; rw [hf]; rfl)
    clear hf
    go_enter Tryd.func18, Tryd.ntmps18
    go_wp2_with fail
    refine (frameRight_c p b v t _).mono ?_
    rintro e w1 ⟨rfl, hnx1⟩
    rw [HF.out]
    go_wp2
    go_ret2
    exact ⟨ret_tup HS.out rfl, ((Nx.refl w).alloc _).trans hnx1⟩
  | true =>
    obtain ⟨⟨p1, p2⟩, ⟨b1, b2⟩, ⟨v1, v2⟩, ⟨t1, t2⟩⟩ := frameB_yes hf
    obtain ⟨p, rfl⟩ := Int.eq_ofNat_of_zero_le (show 0 ≤ p by omega)
    obtain ⟨b, rfl⟩ := Int.eq_ofNat_of_zero_le b1
    obtain ⟨v, rfl⟩ := Int.eq_ofNat_of_zero_le v1
    obtain ⟨t, rfl⟩ := Int.eq_ofNat_of_zero_le t1
    have HF := Lib.hid hf
    have HS := Lib.hid (show sealS (numsS [p, b, v, t]) = frameS p b v t by unfold frameS; rw [hf]; rfl)
    clear hf
    go_enter Tryd.func18, Tryd.ntmps18
    go_wp2_with fail
    have b0 := Box.new w 41 #[.int .i64 p, .int .i64 b, .int .i64 v, .int .i64 t]
    have hx0 := (Nx.refl w).alloc (.cells #[.int .i64 p, .int .i64 b, .int .i64 v, .int .i64 t] 41)
    generalize w.alloc (.cells #[.int .i64 p, .int .i64 b, .int .i64 v, .int .i64 t] 41) = W at *
    refine (frameRight_c p b v t _).mono ?_
    rintro e w1 ⟨rfl, hnx1⟩
    rw [HF.out]
    obtain ⟨c0, c1, c2, c3⟩ := (b0.nx hnx1).d4
    have hx1 := hx0.trans hnx1
    go_wp2_with fail
    have ho := (Own.new4 w1 3 (.int .i64 p) (.int .i64 b) (.int .i64 v) (.int .i64 t)).congr (int4 p b v t)
    have hx2 := hx1.alloc (.cells #[.int .i64 p, .int .i64 b, .int .i64 v, .int .i64 t] 3)
    generalize w1.alloc (.cells #[.int .i64 p, .int .i64 b, .int .i64 v, .int .i64 t] 3) = W1 at *
    refine (numbersText_c _ 4 _ [p, b, v, t] _ (ho.row ho.lt) (Nat.le_refl _) (all4 (by omega) (by omega) (by omega) (by omega)) (by simp) (by simp)).mono ?_
    rintro e w2 ⟨rfl, hnx2⟩
    go_wp2_with fail
    refine (sealed_c (numsS [p, b, v, t]) _ (by rw [numsS_size]; simp)).mono ?_
    rintro e w3 ⟨rfl, hnx3⟩
    go_wp2
    go_ret2
    exact ⟨ret_tup HS.out rfl, (hx2.trans hnx2).trans hnx3⟩
end Go.Proofs.YtehahodomfbpjaaDoor
/- Words on lists of ints in memory; contracts of the laws' functions on lists of ints, and of ContentOK, as the model and as the program have it. Conditions: what is read can be read, and holds at most 1048576 elements. -/
namespace Go.Proofs.YtehahodomfbpjaaDoor
set_option linter.unusedVariables false
set_option maxRecDepth 100000
open Go.RowKit

def inAt (xs : List Int) (i : Nat) : Value := .int .i64 (xs.getD i 0)
/-- A list of ints that is read. -/
def Ins (w : World) (B : Nat) (A : Option Addr) (xs : List Int) : Prop := Row w B A xs.length (inAt xs)
theorem Ins.below {w w' : World} {B B' : Nat} {A : Option Addr} {xs : List Int} (h : Ins w B A xs) (hb : Below B' w w') (hB : B ≤ B') : Ins w' B A xs := Row.below h hb hB
theorem Ins.more {w : World} {B B' : Nat} {A : Option Addr} {xs : List Int} (h : Ins w B A xs) (hB : B ≤ B') : Ins w B' A xs := Row.more h hB
theorem Ins.at_ {w : World} {B k : Nat} {A : Option Addr} {xs : List Int} (h : Ins w B A xs) (hk : k < xs.length) :
    ∃ b off, A = some ⟨b, off, none⟩ ∧ b < B ∧ w.cell? ⟨b, off + k, none⟩ = some (.int .i64 (xs.getD k 0)) := by
  obtain ⟨b, off, e, hb, hc⟩ := h (by omega)
  exact ⟨b, off, e, hb, hc k hk⟩
theorem info_int : (Tryd.prog.info? 3).map (fun i => (i.zero, i.size, i.bytes)) = some (some (.int .i64 0), 1, 8) := by kernel_rfl

def InTo (xs : List Int) (k : Nat) : Prop := ∀ j, j < k → inB 0 999999 (xs.getD j 0) = true
theorem InTo.zero (xs : List Int) : InTo xs 0 := fun j h => absurd h (by omega)
theorem InTo.succ {xs : List Int} {k : Nat} (h : InTo xs k) (hk : inB 0 999999 (xs.getD k 0) = true) : InTo xs (k + 1) := fun j hj => by
  rcases Nat.lt_or_ge j k with hlt | hge
  · exact h j hlt
  · obtain rfl : j = k := by omega
    exact hk
theorem InTo.all {xs : List Int} (h : InTo xs xs.length) : xs.all (inB 0 999999) = true := List.all_eq_true.2 fun x hx => by
  obtain ⟨j, hj, rfl⟩ := List.mem_iff_getElem.1 hx
  have := h j hj
  rwa [List.getD_eq_getElem?_getD, List.getElem?_eq_getElem hj] at this
end Go.Proofs.YtehahodomfbpjaaDoor
/- Rows of numbers that grow, as values and in memory. Conditions: none. -/
namespace Go.Proofs.YtehahodomfbpjaaDoor
set_option linter.unusedVariables false
set_option maxRecDepth 100000
open Go.RowKit

def vI (n : Nat) : Value := .int .i64 (n : Int)
theorem vI_toNat {a : Int} (h : 0 ≤ a) : vI a.toNat = .int .i64 a := by unfold vI; rw [Int.toNat_of_nonneg h]
theorem Nx.of_two {a w u : World} (h : Nx a w) (k : Nx a u) : ∀ p : Addr, p.block < a.heap.size → w.cell? p = u.cell? p := fun p hp => (h.cell hp).trans (k.cell hp).symm
theorem owns_nx {w w' : World} {B : Nat} {e : TypeId} {v : Value} {n : Nat} {xs : List Value} (h : w.ownsRow B e 1 v n xs) (hb : Nx w w') : w'.ownsRow B e 1 v n xs := by
  refine h.kept (row := none) ⟨hb.os, hb.tape, hb.output, hb.size, fun i hi _ => hb.block i hi⟩ ?_
  cases hv : v.ownBlock with
  | none => exact .inl rfl
  | some g => exact .inr (by simp)
theorem owns_row {w : World} {B : Nat} {ns : List Nat} {v : Value} (h : w.ownsRow B 3 1 v ns.length (ns.map vI)) (hn : 0 < ns.length) :
    ∃ A c, v = .slice A ns.length c ∧ Row w w.heap.size A ns.length (intAt ns) := by
  obtain ⟨g, cap, rfl, _, hlt⟩ := h.form hn
  refine ⟨_, cap, rfl, fun _ => ⟨g, 0, rfl, hlt, fun i hi => ?_⟩⟩
  rw [Nat.zero_add, h.cellAt i (by omega), List.getElem?_map, List.getElem?_eq_getElem hi]
  unfold intAt vI
  rw [List.getD_eq_getElem?_getD, List.getElem?_eq_getElem hi]; rfl

end Go.Proofs.YtehahodomfbpjaaDoor
/- Numbers read back from digits: what they are, and the contracts of the program's numberOf and numbersOf, and of the model's l02Numbers. Conditions: texts of at most 65536 bytes; the package's errors are known. -/
namespace Go.Proofs.YtehahodomfbpjaaDoor
set_option linter.unusedVariables false
set_option maxRecDepth 100000
open Go.RowKit

/-- The package's two errors: a0 of a text that is none, a1 of one that is too long. -/
def Er (w : World) (a0 a1 : Addr) : Prop :=
  w.cell? ⟨0, 0, none⟩ = some (.iface 152 (.pointer (some a0))) ∧ w.cell? ⟨1, 0, none⟩ = some (.iface 152 (.pointer (some a1))) ∧ a0 ≠ a1 ∧
  (∃ ca ta, w.heap[a0.block]? = some (.cells ca ta (0, 0))) ∧ ∃ ca ta, w.heap[a1.block]? = some (.cells ca ta (0, 0))
theorem lt_of_heap {w : World} {g : Nat} {o : Obj} (h : w.heap[g]? = some o) : g < w.heap.size := by
  rcases Nat.lt_or_ge g w.heap.size with hlt | hge
  · exact hlt
  · rw [Array.getElem?_eq_none hge] at h; cases h
theorem Er.nx {w w' : World} {a0 a1 : Addr} (h : Er w a0 a1) (hb : Nx w w') : Er w' a0 a1 := by
  obtain ⟨h0, h1, hne, ⟨ca, ta, e0⟩, cb, tb, e1⟩ := h
  exact ⟨(hb.cell (p := ⟨0, 0, none⟩) (World.block_lt_of_cell? w _ h0)).trans h0, (hb.cell (p := ⟨1, 0, none⟩) (World.block_lt_of_cell? w _ h1)).trans h1, hne,
    ⟨ca, ta, (hb.block _ (lt_of_heap e0)).trans e0⟩, cb, tb, (hb.block _ (lt_of_heap e1)).trans e1⟩

def digI (c : Int) : Bool := decide (48 ≤ c) && decide (c ≤ 57)
def digC (c : UInt8) : Bool := digI (c.toNat : Int)
def digL (l : List UInt8) : Bool := l.all digC
def valL (l : List UInt8) : Nat := l.foldl (fun n c => 10 * n + (c.toNat - 48)) 0
theorem digI_yes {c : Int} (h : digI c = true) : 48 ≤ c ∧ c ≤ 57 := by unfold digI at h; simpa using h
theorem valL_snoc (l : List UInt8) (c : UInt8) : valL (l ++ [c]) = 10 * valL l + (c.toNat - 48) := by unfold valL; rw [List.foldl_append]; rfl
theorem digL_snoc (l : List UInt8) (c : UInt8) : digL (l ++ [c]) = (digL l && digC c) := by unfold digL; rw [List.all_append]; simp
theorem valL_bd : ∀ (n : Nat) {l : List UInt8}, l.length = n → digL l = true → valL l < 10 ^ n := by
  intro n
  induction n with
  | zero => intro l hl _; rw [List.length_eq_zero_iff.1 hl]; decide
  | succ n ih =>
    intro l hl h
    rcases List.eq_nil_or_concat l with rfl | ⟨l', c, rfl⟩
    · simp at hl
    · rw [List.concat_eq_append] at hl h ⊢
      rw [digL_snoc, Bool.and_eq_true] at h
      have h1 := ih (by simpa using hl) h.1
      have h2 := digI_yes (show digI (c.toNat : Int) = true from h.2)
      rw [valL_snoc, Nat.pow_succ]
      omega
theorem digL_no {l : List UInt8} {k : Nat} (hk : k < l.length) (h : digC l[k] = false) : digL l = false := by
  unfold digL
  rw [List.all_eq_false]
  exact ⟨l[k], List.getElem_mem hk, by rw [h]; simp⟩
theorem getL (s : ByteArray) (k : Nat) (hk : k < s.size) : s.data.toList[k]'(by simpa using hk) = s[k] := rfl
theorem digL_yes {l : List UInt8} {k : Nat} (h : digL l = true) (hk : k < l.length) : digC l[k] = true := List.all_eq_true.1 h _ (List.getElem_mem hk)

set_option maxHeartbeats 1000000 in
theorem isDigit_c (c : Int) (w : World) : Calls Tryd.prog 96 #[.int .u8 c] w fun e w' => e = .returned (.bool (digI c)) ∧ w = w' := by
  go_enter Tryd.func96, Tryd.ntmps96
  go_wp2
  all_goals (go_ret; refine ⟨ret_bool ?_, rfl⟩; unfold digI; rw [Bool.eq_iff_iff]; simp; try omega)
def valTo (s : ByteArray) (k : Nat) : Nat := valL (s.data.toList.take k)
theorem valTo_succ (s : ByteArray) (k : Nat) (h : k < s.size) : valTo s (k + 1) = 10 * valTo s k + (s[k].toNat - 48) := by
  unfold valTo; rw [take_snoc s k h, valL_snoc]
theorem valTo_bd {s : ByteArray} {k : Nat} (hk : k ≤ 6) (h : digL (s.data.toList.take k) = true) : valTo s k < 1000000 := by
  have h1 := valL_bd _ rfl h
  have h2 : (s.data.toList.take k).length ≤ 6 := Nat.le_trans (List.length_take_le _ _) hk
  have h3 : 10 ^ (s.data.toList.take k).length ≤ 10 ^ 6 := Nat.pow_le_pow_right (by omega) h2
  unfold valTo
  omega
theorem num_step {n : Nat} {c : UInt8} (h1 : 48 ≤ (c.toNat : Int)) : 10 * (n : Int) + ((c.toNat : Int) - 48) = ((10 * n + (c.toNat - 48) : Nat) : Int) := by omega

def numV (s : ByteArray) (a0 : Addr) : Value := if digL s.data.toList then .tuple #[.int .i64 ((valL s.data.toList : Nat) : Int), .nilIface] else .tuple #[.int .i64 0, .iface 152 (.pointer (some a0))]
theorem numV_yes {s : ByteArray} {a0 : Addr} (h : digL s.data.toList = true) : .tuple #[.int .i64 ((valL s.data.toList : Nat) : Int), .nilIface] = numV s a0 := by unfold numV; rw [h]; rfl
theorem numV_no {s : ByteArray} {a0 : Addr} (h : digL s.data.toList = false) : .tuple #[.int .i64 0, .iface 152 (.pointer (some a0))] = numV s a0 := by unfold numV; rw [h]; rfl
def RetN (w : World) (v : Value) (e : Ending) (w' : World) : Prop := e = .returned v ∧ Nx w w'
set_option maxRecDepth 100000 in
set_option maxHeartbeats 1000000 in
theorem numberOf_c (s : ByteArray) (w : World) (a0 a1 : Addr) (hs : s.size = 6) (hE : Er w a0 a1) :
    Calls Tryd.prog 93 #[.string s] w (RetN w (numV s a0)) := by
  obtain ⟨c0, _⟩ := hE
  have hs6 : s.size ≤ 6 := by omega
  have Hs := Lib.hid hs
  clear hs
  go_enter Tryd.func93, Tryd.ntmps93
  go_wp2
  go_loop [4, 5] (fun n i => ∃ k : Nat, k ≤ s.size ∧ i = .int .i64 k ∧ digL (s.data.toList.take k) = true ∧ n = .int .i64 ((valTo s k : Nat) : Int)) (fun _ i => s.size - (intOf i).toNat)
  case atStart => exact ⟨0, Nat.zero_le _, rfl, rfl, rfl⟩
  case round =>
    obtain ⟨k, hk, rfl, hd, rfl⟩ := hrel
    have HD := Lib.hid hd
    clear hd
    by_cases hlt : k < s.size
    · have hbd := valTo_bd (s := s) (k := k) (by omega) HD.out
      have HV := Lib.hid (valTo_succ s k hlt)
      have HT := Lib.hid (take_snoc s k hlt)
      obtain ⟨m, Hm⟩ : ∃ m, Hid (valTo s k = m) := ⟨_, rfl⟩
      rw [Hm.out] at hbd HV ⊢
      cases hC : digI (s[k].toNat : Int) with
      | true =>
        obtain ⟨h1, h2⟩ := digI_yes hC
        have HC := Lib.hid hC
        clear hC
        go_wp2_with (go_at_call 96; refine (isDigit_c _ _).mono ?_; rintro e w' ⟨rfl, rfl⟩; rw [HC.out])
        go_round
        case rel => exact ⟨k + 1, by omega, by go_num, by rw [HT.out, digL_snoc, HD.out]; exact HC.out, by rw [HV.out, num_step h1]⟩
        case measure => simp [intOf]; omega
      | false =>
        have HC := Lib.hid hC
        have HF := Lib.hid (digL_no (l := s.data.toList) (k := k) (by simpa using hlt) (by rw [getL s k hlt]; exact hC))
        clear hC
        go_wp2_with (go_at_call 96; refine (isDigit_c _ _).mono ?_; rintro e w' ⟨rfl, rfl⟩; rw [HC.out])
        go_quiet (fail)
        go_wp2
        go_ret2
        exact ⟨congrArg Ending.returned (numV_no HF.out), (Nx.refl _).drewN _⟩
    · obtain rfl : k = s.size := by omega
      have e : s.data.toList.take s.size = s.data.toList := List.take_of_length_le (by simp)
      rw [e] at HD
      have HV := Lib.hid (show valTo s s.size = valL s.data.toList by unfold valTo; rw [e])
      rw [HV.out]
      clear e
      go_wp2
      go_ret2
      exact ⟨congrArg Ending.returned (numV_yes HD.out), Nx.refl _⟩
end Go.Proofs.YtehahodomfbpjaaDoor
