/-
  Contract of the program's marksOf: the marks of a text.
  Conditions: texts of at most 65536 bytes; the package's errors are known; the library's variable MaxLen holds a number.
-/
import Derived.Test.YteckhdkghfidiaaDoorCtm
import Derived.Test.YteckhdkghfidiaaDoorPlm
import Derived.Test.YteckhdkghfidiaaDoorRwm
namespace Go.Proofs.YteckhdkghfidiaaDoor
set_option linter.unusedVariables false
set_option maxRecDepth 100000
open Go.RowKit

/-- What reading marks leaves: an error, or the marks in new memory. -/
def RetMk (w : World) (o : Option (List Mrk)) (a0 : Addr) (e : Ending) (w' : World) : Prop :=
  Nx w w' ∧ (o = none → e = .returned (.tuple #[.slice none 0 0, .iface 150 (.pointer (some a0))])) ∧
  ∀ ms, o = some ms → ∃ A c, e = .returned (.tuple #[.slice A ms.length c, .nilIface]) ∧ SlM w' w.heap.size A ms
theorem RetMk.no {w w' : World} {o : Option (List Mrk)} {a0 : Addr} (h : o = none) (hn : Nx w w') : RetMk w o a0 (.returned (.tuple #[.slice none 0 0, .iface 150 (.pointer (some a0))])) w' :=
  ⟨hn, fun _ => rfl, fun ns h2 => by rw [h] at h2; cases h2⟩
theorem RetMk.yes {w w' : World} {o : Option (List Mrk)} {a0 : Addr} {ms : List Mrk} {A : Option Addr} {c : Nat} (h : o = some ms) (hr : SlM w' w.heap.size A ms) (hn : Nx w w') : RetMk w o a0 (.returned (.tuple #[.slice A ms.length c, .nilIface])) w' :=
  ⟨hn, (fun h2 => by rw [h] at h2; cases h2), fun ns' h2 => by rw [h] at h2; injection h2 with h2; subst h2; exact ⟨A, c, rfl, hr⟩⟩
theorem wordB_cut {x : ByteArray} {f : Bool} {a b : ByteArray} (hf : (Lib.cut x.data.toList [61]).2.2 = f) (ha : baL (Lib.cut x.data.toList [61]).1 = a) (hb : baL (Lib.cut x.data.toList [61]).2.1 = b) :
    wordB x = if f && plainB b.data.toList then some (a, ((valL b.data.toList : Nat) : Int)) else none := by
  unfold wordB wordM
  rw [← hb, baL_list, hf, ha]
theorem cut_len (l : List UInt8) (c : UInt8) : (Lib.cut l [c]).1.length ≤ l.length ∧ (Lib.cut l [c]).2.1.length ≤ l.length := by
  rcases part_at c l with h | ⟨a, b, h, e⟩
  · rw [cut_miss h]; simp
  · rw [e, cut_hit h]; simp; omega
theorem mV_len (ms : List Mrk) : (mV ms).length = ms.length * 2 := by
  unfold mV
  induction ms with
  | nil => rfl
  | cons m ms ih => simp only [List.flatMap_cons, List.length_append, ih, List.length_cons, List.length_nil]; omega
theorem newM (w : World) (a : ByteArray) (n : Int) : Hid (∀ j u, [Value.string a, .int .i64 n][j]? = some u → (w.alloc (.cells #[.string a, .int .i64 n] 63)).cell? ((Addr.mk w.heap.size 0 none).add j) = some u) := Lib.hid (fun j u hj => by
  have b := Box.new w 63 #[.string a, .int .i64 n]
  rw [addr_add', Nat.zero_add, b.cell j, ← hj]
  rcases j with _ | _ | j <;> simp)
set_option maxHeartbeats 4000000 in
theorem marksOf_c (s : ByteArray) (w : World) (a0 a1 : Addr) (hs : s.size ≤ 65536) (hE : Er w a0 a1) (hM : Mx w) : Calls Tryd.prog 55 #[.string s] w (RetMk w (marksO s.data.toList) a0) := by
  obtain ⟨i0, hi0, hz0, hz1, hz2⟩ := info_parts info_mk
  by_cases h0 : s.size = 0
  · have hd : (s.toList == []) = true := by
      rw [beq_iff_eq, ByteArray.toList_eq]; exact List.eq_nil_of_length_eq_zero (by rw [← ba_size]; exact h0)
    have HF := Lib.hid (marksO_nil h0)
    go_enter Tryd.func55, Tryd.ntmps55
    go_wp2
    go_ret2
    exact RetMk.yes (ms := []) HF.out (Sl.none_ _ _ _ _ _) (Nx.refl _)
  have hd : (s.toList == []) = false := by
    rw [beq_eq_false_iff_ne, ByteArray.toList_eq]; intro h; exact h0 (by rw [ba_size, h]; rfl)
  have HO := Lib.hid (marksO_cut h0)
  go_enter Tryd.func55, Tryd.ntmps55
  go_wp2_with fail
  refine (split_c s 44 _ hs hM).mono ?_
  rintro e w1 ⟨A, cp, rfl, hS, hnx1⟩
  have hl9 : (cutB 44 s).length ≤ 65537 := by rw [cutB_len]; have := cutL_size 44 s.data.toList; rw [← ba_size] at this; omega
  have HPt := Lib.hid (fun k => cutB_part (c := 44) (t := s) k)
  obtain ⟨ws, Hws⟩ : ∃ ws, Hid (cutB 44 s = ws) := ⟨_, rfl⟩
  rw [Hws.out] at hS HO hl9 HPt ⊢
  go_wp2
  go_loopw [4, 17] (fun o i wr => ∃ (k : Nat) (v : Value) (ms : List Mrk), k ≤ ws.length ∧ i = .int .i64 k ∧ v = o ∧ RowM wr w1.heap.size v ms ∧ Hid (marksB (ws.take k) = some ms) ∧ Nx w1 wr) (fun _ i _ => ws.length - (intOf i).toNat)
  case atStart => exact ⟨0, _, [], Nat.zero_le _, rfl, rfl, RowM.nil _ _, Lib.hid rfl, Nx.refl _⟩
  case round =>
    obtain ⟨k, v, ms, hk, rfl, rfl, hw, HM, hnx⟩ := hrel
    by_cases hlt : k < ws.length
    · obtain ⟨b, off, rfl, hb, hc0⟩ := (hS.row.below hnx (Nat.le_refl _)) (by omega)
      have hc := hc0 k hlt
      clear hc0
      unfold wdAt at hc
      have hsz := HPt.out k
      have HNo := Lib.hid (fun h => HO.out.trans (marksB_no hlt h))
      have HYes := Lib.hid (fun m (h : wordB (ws.getD k ByteArray.empty) = some m) => marksB_succ hlt HM.out h)
      have hml : ms.length = k := by rw [marksB_len HM.out, List.length_take]; omega
      have Hml := Lib.hid hml
      obtain ⟨x, Hx⟩ : ∃ x, Hid (ws.getD k ByteArray.empty = x) := ⟨_, rfl⟩
      rw [Hx.out] at hc hsz HNo HYes
      clear hml
      go_wp2_with fail
      refine (cut_c x 61 _ (by omega) ((hM.nx hnx1).nx hnx)).mono ?_
      rintro e w2 ⟨he, hnx2⟩
      have hcl := cut_len x.data.toList 61
      obtain ⟨a, Ha⟩ : ∃ a, Hid (baL (Lib.cut x.data.toList [61]).1 = a) := ⟨_, rfl⟩
      obtain ⟨bb, Hb⟩ : ∃ a, Hid (baL (Lib.cut x.data.toList [61]).2.1 = a) := ⟨_, rfl⟩
      have hbs : bb.size ≤ 65536 := by rw [← Hb.out, baL_size]; have := hcl.2; rw [← ba_size] at this; omega
      clear hcl
      have hx2 := hnx.trans hnx2
      have hE2 := hE.nx (hnx1.trans hx2)
      have hw2 := hw.nx hnx2
      rw [Ha.out, Hb.out] at he
      cases hf : (Lib.cut x.data.toList [61]).2.2 with
      | false =>
        have HF := Lib.hid (HNo.out (by rw [wordB_cut hf Ha.out Hb.out]; rfl))
        rw [hf] at he
        subst he
        clear hf HNo HYes
        obtain ⟨c0, _⟩ := hE2
        go_wp2
        go_quiet (fail)
        go_wp2
        go_ret2
        exact RetMk.no HF.out ((hnx1.trans hx2).drewN _)
      | true =>
        have HWd := Lib.hid (wordB_cut hf Ha.out Hb.out)
        rw [hf] at he
        subst he
        clear hf
        go_wp2_with fail
        refine (plainNumberOf_c bb _ a0 a1 hbs hE2).mono ?_
        rintro e w3 ⟨he3, hnx3⟩
        have hx3 := hx2.trans hnx3
        have hw3 := hw2.nx hnx3
        cases hp : plainB bb.data.toList with
        | false =>
          have HF := Lib.hid (HNo.out (by rw [HWd.out, hp]; rfl))
          rw [← plainV_no hp] at he3
          subst he3
          clear hp HNo HYes
          go_wp2
          go_ret2
          exact RetMk.no HF.out (hnx1.trans hx3)
        | true =>
          have HY := Lib.hid (HYes.out (a, ((valL bb.data.toList : Nat) : Int)) (by rw [HWd.out, hp]; rfl))
          rw [← plainV_yes hp] at he3
          subst he3
          clear hp HNo HYes
          obtain ⟨m, Hm⟩ : ∃ m : Int, Hid (((valL bb.data.toList : Nat) : Int) = m) := ⟨_, rfl⟩
          rw [Hm.out] at HY ⊢
          have hw4 := hw3.nx ((Nx.refl w3).alloc (.cells #[.string a, .int .i64 m] 63))
          have hx4 := hx3.alloc (.cells #[.string a, .int .i64 m] 63)
          have HNW := newM w3 a m
          have HOc : Hid (∀ u ∈ [Value.string a, .int .i64 m], u.oneCell' = true) := Lib.hid (fun u hu => by simp only [List.mem_cons, List.not_mem_nil, or_false] at hu; rcases hu with rfl | rfl <;> rfl)
          unfold RowM at hw4
          go_wp2_with (at_builtin; refine wpList_append_own _ rfl _ _ 29 rfl w1.heap.size 63 i0 _ 2 24 Tryd.underlying29 hi0 hz0 hz1 hz2 rfl (by omega) v ms.length _ rfl hw4 ⟨w3.heap.size, 0, none⟩ 1 1 [.string a, .int .i64 m] rfl rfl HNW.out HOc.out ?c3 ?c4 ?c5 ?_)
          case c3 => unfold maxLen; have := Hml.out; omega
          case c4 => have := Hml.out; omega
          case c5 => have := hx4.size; simp only [World.size_alloc] at this ⊢; omega
          intro v2 w5 hw5 hg5 _
          have hx5 : Nx w1 w5 := Below.grown hx4 hg5 hx4.size (fun k hk => (hw4.lt k hk).1)
          go_wp2
          go_roundw
          case rel =>
            refine ⟨k + 1, v2, ms ++ [(a, m)], by omega, by go_num, rfl, ?_, HY, hx5⟩
            unfold RowM; rw [mV_snoc, List.length_append]; exact hw5
          case measure => simp [intOf]; omega
    · obtain rfl : k = ws.length := by omega
      have HR := Lib.hid (show marksO s.data.toList = some ms by rw [HO.out, ← HM.out, List.take_length])
      obtain ⟨A2, c2, rfl, _, hS2⟩ := hw.slc
      go_wp2
      go_ret2
      exact RetMk.yes HR.out (hS2.low hnx1.size) (hnx1.trans hnx)
end Go.Proofs.YteckhdkghfidiaaDoor
