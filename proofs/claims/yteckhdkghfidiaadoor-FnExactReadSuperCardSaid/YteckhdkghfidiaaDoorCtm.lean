/-
  Contracts of the model's l00Cut and of the library's strings.Cut and strings.Split at a byte.
  Conditions: texts of at most 65536 bytes; for the library: its variable MaxLen holds a number.
-/
import Derived.Test.YteckhdkghfidiaaDoorRdv
import Derived.Test.YteckhdkghfidiaaDoorSta
import Derived.Test.YteckhdkghfidiaaDoorShc
import Derived.Deep.AppendLies
namespace Go.Proofs.YteckhdkghfidiaaDoor
set_option linter.unusedVariables false
set_option maxRecDepth 100000
open Go.RowKit

/-- The library's MaxLen holds a number. -/
def Mx (w : World) : Prop := ∃ m : Int, w.cell? ⟨2, 0, none⟩ = some (.int .i64 m)
theorem Mx.nx {w w' : World} (h : Mx w) (hb : Nx w w') : Mx w' := by
  obtain ⟨m, h⟩ := h
  exact ⟨m, (hb.cell (World.block_lt_of_cell? w _ h)).trans h⟩
/-- strings.Cut at a byte. -/
theorem cut_c (s : ByteArray) (c : UInt8) (w : World) (hs : s.size ≤ 65536) (hm : Mx w) :
    Calls Tryd.prog 53 #[.string s, .string ⟨#[c]⟩] w fun e w' => e = .returned (.tuple #[.string (baL (Lib.cut s.data.toList [c]).1), .string (baL (Lib.cut s.data.toList [c]).2.1), .bool (Lib.cut s.data.toList [c]).2.2]) ∧ Nx w w' := by
  obtain ⟨m, hm⟩ := hm
  refine (Any.strings_Cut Tryd.lays145 s ⟨#[c]⟩ m w (by omega) hm).mono ?_
  rintro e w' ⟨he, n, rfl⟩
  exact ⟨he, (Nx.refl w).drewN n⟩
/-- A list of words in new memory. -/
def RetWs (w : World) (ws : List ByteArray) (e : Ending) (w' : World) : Prop := ∃ (A : Option Addr) (c : Nat), e = .returned (.slice A ws.length c) ∧ Sl w' w.heap.size A 9 ws.length (wdAt ws) ∧ Nx w w'
/-- strings.Split at a byte. -/
theorem split_c (s : ByteArray) (c : UInt8) (w : World) (hs : s.size ≤ 65536) (hm : Mx w) :
    Calls Tryd.prog 73 #[.string s, .string ⟨#[c]⟩] w (RetWs w (cutB c s)) := by
  obtain ⟨m, hm⟩ := hm
  refine (Any.strings_Split Tryd.lays146 infoS s ⟨#[c]⟩ m w (by omega) hm (by simp [ByteArray.size])).mono ?_
  rintro e w' ⟨he, rfl⟩
  rw [cutB_count] at he
  refine ⟨_, _, he, ?_, (Nx.refl w).alloc _⟩
  rw [cutB_split]
  refine Sl.own ⟨_, heap_alloc_new w _, by simp, fun i hi => ?_⟩ (Nat.le_refl _)
  rw [List.getElem?_toArray]
  exact wV_get _ i hi

theorem drop_hit {c : UInt8} {l : List UInt8} {f i : Nat} (hfi : f ≤ i) (hi : i < l.length) (hc : l[i] = c) (hn : c ∉ (l.drop f).take (i - f)) : cutL c (l.drop f) = (l.drop f).take (i - f) :: cutL c (l.drop (i + 1)) := by
  have e : l.drop f = (l.drop f).take (i - f) ++ c :: l.drop (i + 1) := by
    conv => lhs; rw [← List.take_append_drop (i - f) (l.drop f)]
    rw [List.drop_drop, show f + (i - f) = i by omega, List.drop_eq_getElem_cons hi, hc]
  conv => lhs; rw [e]
  exact cutL_hit c _ _ hn
theorem take_grow {l : List UInt8} {f i : Nat} (hfi : f ≤ i) (hi : i < l.length) : (l.drop f).take (i + 1 - f) = (l.drop f).take (i - f) ++ [l[i]] := by
  rw [show i + 1 - f = (i - f) + 1 by omega, List.take_succ_eq_append_getElem (by rw [List.length_drop]; omega), List.getElem_drop]
  simp only [show f + (i - f) = i by omega]
theorem ext_baL (s : ByteArray) (f i : Nat) : s.extract f i = baL ((s.data.toList.drop f).take (i - f)) := by
  rw [ba_eq (Lib.extract_data s f i)]; rfl
theorem baL_data (l : List UInt8) : (baL l).data.toList = l := rfl
theorem wV_app (ws : List ByteArray) (x : ByteArray) : wV (ws ++ [x]) = wV ws ++ [.string x] := by unfold wV; simp
theorem Own.newS (w : World) (x : ByteArray) : Hid (∀ j u, [Value.string x][j]? = some u → (w.alloc (.cells #[.string x] 9)).cell? ((Addr.mk w.heap.size 0 none).add j) = some u) := Lib.hid (news1 w 9 (.string x))

set_option maxHeartbeats 4000000 in
theorem l00Cut_c (s : ByteArray) (c : UInt8) (w : World) (hs : s.size ≤ 65536) : Calls Tryd.prog 49 #[.string s, .int .u8 (c.toNat : Int)] w (RetWs w (cutB c s)) := by
  obtain ⟨i0, hi0, hz0, hz1, hz2⟩ := info_parts infoS
  have hw0 := RowW.new w (B := w.heap.size) (Nat.le_refl _)
  have hn0 := (Nx.refl w).alloc (.cells #[] 9)
  go_enter Tryd.func49, Tryd.ntmps49
  go_wp2
  go_loopw [5, 6, 7] (fun o f i wr => ∃ (k q : Nat) (v : Value) (ws : List ByteArray), q ≤ k ∧ k ≤ s.size ∧ i = .int .i64 k ∧ f = .int .i64 q ∧ v = o ∧ ws.length ≤ k ∧ RowW wr w.heap.size v ws ∧ Hid (cutB c s = ws ++ (cutL c (s.data.toList.drop q)).map baL ∧ c ∉ (s.data.toList.drop q).take (k - q)) ∧ Nx w wr) (fun _ _ i _ => s.size - (intOf i).toNat)
  case atStart => exact ⟨0, 0, _, [], Nat.le_refl _, Nat.zero_le _, rfl, rfl, rfl, Nat.le_refl _, hw0, Lib.hid ⟨rfl, by simp⟩, hn0⟩
  case round =>
    obtain ⟨k, q, v, ws, hqk, hk, rfl, rfl, rfl, hwl, hw, HR, hnx⟩ := hrel
    clear hw0 hn0
    by_cases hlt : k < s.size
    · have hlt' : k < s.data.toList.length := by rw [← ba_size]; exact hlt
      have Hlt := Lib.hid hlt'
      clear hlt'
      by_cases hc : s[k] = c
      · have hcd : ((s[k].toNat : Int) == (c.toNat : Int)) = true := by rw [hc]; simp
        have HH := Lib.hid (drop_hit (f := q) hqk Hlt.out (by rw [getL s k hlt]; exact hc) HR.out.2)
        have hb1 : (0 : Int) ≤ (q : Int) := by omega
        have hb2 : (q : Int) ≤ (k : Int) := by omega
        have hb3 : (k : Int) ≤ (s.size : Int) := by omega
        obtain ⟨x, hx⟩ : ∃ x, s.extract q k = x := ⟨_, rfl⟩
        have HX := Lib.hid ((ext_baL s q k).symm.trans hx)
        clear hc
        have hw1 := hw.nx ((Nx.refl wr).alloc (.cells #[.string x] 9))
        have hx1 := hnx.alloc (.cells #[.string x] 9)
        have HNW := Own.newS wr x
        have HO : Hid (∀ u ∈ [Value.string x], u.oneCell' = true) := Lib.hid (fun u hu => by simp only [List.mem_cons, List.not_mem_nil, or_false] at hu; subst hu; rfl)
        unfold RowW at hw1
        go_wp2_with (at_builtin; refine wpList_append_own _ rfl _ _ 64 rfl w.heap.size 9 i0 _ 1 16 Tryd.underlying64 hi0 hz0 hz1 hz2 rfl (by omega) v ws.length _ rfl hw1 ⟨wr.heap.size, 0, none⟩ 1 1 [.string x] rfl rfl HNW.out HO.out ?c3 ?c4 ?c5 ?_)
        case c3 => unfold maxLen; omega
        case c4 => omega
        case c5 => have := hx1.size; simp only [World.size_alloc] at this ⊢; omega
        intro v2 w2 hw2 hg2 _
        have hx2 : Nx w w2 := Below.grown hx1 hg2 hx1.size (fun k hk => (hw1.lt k hk).1)
        go_wp2
        go_roundw
        case rel =>
          refine ⟨k + 1, k + 1, v2, ws ++ [x], Nat.le_refl _, by omega, by go_num, by go_num, rfl, by simp; omega, ?_, Lib.hid ⟨?_, by simp⟩, hx2⟩
          · unfold RowW; rw [wV_app, List.length_append]; exact hw2
          · rw [HR.out.1, HH.out, List.map_cons, HX.out]; simp
        case measure => simp [intOf]; omega
      · have hcd : ((s[k].toNat : Int) == (c.toNat : Int)) = false := by
          rw [beq_eq_false_iff_ne]; intro h; exact hc (UInt8.toNat_inj.1 (by omega))
        have HC := Lib.hid hc
        clear hc
        go_wp2
        go_roundw
        case rel =>
          refine ⟨k + 1, q, v, ws, by omega, by omega, by go_num, rfl, rfl, by omega, hw, Lib.hid ⟨HR.out.1, ?_⟩, hnx⟩
          rw [take_grow hqk Hlt.out, List.mem_append, not_or]
          refine ⟨HR.out.2, fun h => HC.out ?_⟩
          rw [List.mem_singleton] at h
          exact (getL s k hlt).symm.trans h.symm
        case measure => simp [intOf]; omega
    · obtain rfl : k = s.size := by omega
      have hb2 : (q : Int) ≤ (s.size : Int) := by omega
      have hb1 : (0 : Int) ≤ (q : Int) := by omega
      obtain ⟨x, hx⟩ : ∃ x, s.extract q s.size = x := ⟨_, rfl⟩
      have HX := Lib.hid ((ext_baL s q s.size).symm.trans hx)
      have hw1 := hw.nx ((Nx.refl wr).alloc (.cells #[.string x] 9))
      have hx1 := hnx.alloc (.cells #[.string x] 9)
      have HNW := Own.newS wr x
      have HO : Hid (∀ u ∈ [Value.string x], u.oneCell' = true) := Lib.hid (fun u hu => by simp only [List.mem_cons, List.not_mem_nil, or_false] at hu; subst hu; rfl)
      unfold RowW at hw1
      go_wp2_with (at_builtin; refine wpList_append_own _ rfl _ _ 64 rfl w.heap.size 9 i0 _ 1 16 Tryd.underlying64 hi0 hz0 hz1 hz2 rfl (by omega) v ws.length _ rfl hw1 ⟨wr.heap.size, 0, none⟩ 1 1 [.string x] rfl rfl HNW.out HO.out ?c3 ?c4 ?c5 ?_)
      case c3 => unfold maxLen; omega
      case c4 => omega
      case c5 => have := hx1.size; simp only [World.size_alloc] at this ⊢; omega
      intro v2 w2 hw2 hg2 _
      have hx2 : Nx w w2 := Below.grown hx1 hg2 hx1.size (fun k hk => (hw1.lt k hk).1)
      have HE : Hid (cutB c s = ws ++ [x]) := Lib.hid (by
        have e : (s.data.toList.drop q).take (s.size - q) = s.data.toList.drop q := List.take_of_length_le (by rw [List.length_drop, ← ba_size]; omega)
        have h2 := HR.out.2
        rw [e] at h2
        have h3 := HX.out
        rw [e] at h3
        rw [HR.out.1, cutL_miss c _ h2, List.map_cons, List.map_nil, h3])
      have hR2 : RowW w2 w.heap.size v2 (cutB c s) := by
        rw [HE.out]; unfold RowW; rw [wV_app, List.length_append]; exact hw2
      obtain ⟨A, cp, rfl, hS⟩ := hR2.sl
      go_wp2
      go_ret
      exact ⟨A, cp, rfl, hS, hx2⟩
end Go.Proofs.YteckhdkghfidiaaDoor
