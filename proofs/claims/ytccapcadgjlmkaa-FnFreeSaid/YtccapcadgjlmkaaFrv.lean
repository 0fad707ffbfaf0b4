/-
  What is free: a number from 10 to 63 is free or in the table; beside a short table something is free; appends of a whole list of ints, and of two ints, at one operation of a drawn region.
  Conditions: those of each theorem.
-/
import Derived.Test.YtccapcadgjlmkaaFre
namespace Go.Proofs.Ytccapcadgjlmkaa
set_option linter.unusedVariables false
set_option maxRecDepth 100000
open Go.RowKit

theorem hasB_all (xs : List Int) (x : Int) : hasB xs xs.length x = xs.contains x := by unfold hasB; rw [List.take_length]
theorem free_has {xs : List Int} {k : Nat} (hk : k < 54) : hasB (freeTo xs 54) (freeTo xs 54).length ((k : Int) + 10) = !hasB xs xs.length ((k : Int) + 10) := by
  rw [hasB_all]
  rw [Bool.eq_iff_iff, List.contains_iff_mem]
  unfold freeTo
  rw [List.mem_filter, List.mem_map]
  constructor
  · rintro ⟨_, h⟩; exact h
  · intro h; exact ⟨⟨k, by simpa using hk, rfl⟩, h⟩
theorem filter_ne_len {y : Int} : ∀ {M : List Int}, M.Nodup → M.length ≤ (M.filter fun x => !(x == y)).length + 1
  | [], _ => by simp
  | x :: M, h => by
    obtain ⟨h1, h2⟩ := List.nodup_cons.1 h
    by_cases e : x = y
    · subst e
      have : M.filter (fun z => !(z == x)) = M := List.filter_eq_self.2 fun z hz => by
        simp only [Bool.not_eq_true', beq_eq_false_iff_ne]
        rintro rfl
        exact h1 hz
      simp [this]
    · have := filter_ne_len (y := y) h2
      simp [e]; simpa using this
theorem filter_len {L : List Int} (hL : L.Nodup) : ∀ xs : List Int, L.length ≤ (L.filter fun x => !xs.contains x).length + xs.length
  | [] => by
    have : L.filter (fun x => !([] : List Int).contains x) = L := List.filter_eq_self.2 fun z hz => by simp
    rw [this]; simp
  | y :: xs => by
    have h1 := filter_len hL xs
    have h2 := filter_ne_len (y := y) (hL.filter (fun x => !xs.contains x))
    rw [List.filter_filter] at h2
    have e : (L.filter fun x => !(y :: xs).contains x) = L.filter (fun a => !(a == y) && !xs.contains a) := List.filter_congr fun z _ => by rw [List.contains_cons, Bool.not_or]
    rw [e, List.length_cons]
    omega
theorem nodup_map_add (k : Nat) : ((List.range k).map fun i : Nat => (i : Int) + 10).Nodup := by
  rw [List.nodup_iff_pairwise_ne, List.pairwise_map]
  exact (List.nodup_range (n := k)).imp fun h e => h (by omega)
theorem free_some {xs : List Int} (h : xs.length ≤ 5) : ∃ f fs, freeTo xs 54 = f :: fs := by
  have h1 := filter_len (nodup_map_add 54) xs
  have h2 : (freeTo xs 54) = ((List.range 54).map fun i : Nat => (i : Int) + 10).filter fun x => !xs.contains x := by
    unfold freeTo
    exact List.filter_congr fun z _ => by rw [hasB_all]
  rw [← h2] at h1
  simp only [List.length_map, List.length_range] at h1
  match hF : freeTo xs 54 with
  | [] => rw [hF] at h1; simp at h1; omega
  | f :: fs => exact ⟨f, fs, rfl⟩
theorem tb_twice {xs : List Int} {f : Int} : tbB (xs ++ [f, f]) = false := by
  refine tbB_no (k := xs.length + 1) (by simp) ?_
  have h1 : (xs ++ [f, f]).getD (xs.length + 1) 0 = f := by rw [List.getD_eq_getElem?_getD, List.getElem?_append_right (by omega)]; simp
  unfold tbOk hasB
  rw [h1]
  have h2 : ((xs ++ [f, f]).take (xs.length + 1)).contains f = true := by
    rw [List.contains_iff_mem, List.take_append]
    simp
  rw [h2]; simp
set_option maxHeartbeats 1000000 in
theorem within_c (A : Option Addr) (n c B : Nat) (xs : List Int) (x : Int) (w : World) (h : Ins w B A xs) (hnl : n ≤ xs.length) (hn : xs.length ≤ 1048576) :
    Calls Try.prog 26 #[.slice A n c, .int .i64 x] w fun e w' => e = .returned (.bool (hasB xs n x)) ∧ w = w' := by
  go_enter Try.func26, Try.ntmps26
  go_wp2
  go_loop [5] (fun i => ∃ k : Nat, k ≤ n ∧ i = .int .i64 k ∧ NotTo xs k x) (fun i => n - (intOf i).toNat)
  case atStart => exact ⟨0, Nat.zero_le _, rfl, NotTo.zero _ _⟩
  case round =>
    obtain ⟨k, hk, rfl, hto⟩ := hrel
    by_cases hlt : k < n
    · obtain ⟨b, off, rfl, hb, hc⟩ := h.at_ (k := k) (by omega)
      obtain ⟨y, Hy⟩ : ∃ y, Hid (xs.getD k 0 = y) := ⟨_, rfl⟩
      rw [Hy.out] at hc
      by_cases he : y = x
      · have hd : (y == x) = true := by simp [he]
        have HR := Lib.hid (hasB_yes hlt (by omega) (Hy.out.trans he)).symm
        clear he
        go_wp2
        go_ret
        exact ⟨ret_bool HR.out, rfl⟩
      · have hd : (y == x) = false := by simp [he]
        have HT := Lib.hid (hto.succ (by rw [Hy.out]; exact he))
        clear he
        go_wp2
        go_round
        case rel => exact ⟨k + 1, by omega, by go_num, HT.out⟩
        case measure => simp [intOf]; omega
    · obtain rfl : k = n := by omega
      have HR := Lib.hid (hasB_no hto).symm
      go_wp2
      go_ret
      exact ⟨ret_bool HR.out, rfl⟩
theorem GrewT.refl (t : TypeId) (B : Nat) (w : World) : GrewT t B w w := ⟨fun _ h _ => h, fun _ _ _ h _ => h, fun _ _ _ _ h => h, Nat.le_refl _⟩
theorem grewT_of {w w' : World} {B : Nat} {v : Value} {xs : List Int} (hown : RowI w B v xs) (hg' : w.grownBy w' v.ownBlock) : GrewT 3 B w w' := by
  have hrow : ∀ k, Value.ownBlock v = some k → B ≤ k := fun k hk => (World.ownsRow.lt hown k hk).1
  refine ⟨fun b hb hbB => Below.grown hb hg' hb.size (fun k hk => Nat.le_trans hbB (hrow k hk)), fun lo hi b hb hbB => ?_, fun g t xs' ht hbg => hbg.grown hg' (hown.ne hbg ht), hg'.size⟩
  refine ⟨hg'.os.trans hb.os, hg'.tape.trans hb.tape, hg'.output.trans hb.output, Nat.le_trans hb.size hg'.size, fun k hk hr => (hg'.block k (Nat.lt_of_lt_of_le hk hb.size) fun e => ?_).trans (hb.block k hk hr)⟩
  have := hrow k e.symm
  omega
theorem iV_one (xs : List Int) : ∀ u ∈ iV xs, u.oneCell' = true := fun u hu => by
  unfold iV at hu
  obtain ⟨x, _, rfl⟩ := List.mem_map.1 hu
  rfl
theorem iV_len (xs : List Int) : (iV xs).length = xs.length := by unfold iV; simp
set_option maxHeartbeats 1000000 in
/-- append of a whole list of ints onto an empty row, at one operation of a drawn region. -/
theorem wp_addAllI {w : World} {o : Oper} {a : Act} {K : Act → World → Prop} {Q : Exit → Act → World → Prop}
    (s x : Operand) (ho : o.op = .call { callee := .builtin .append, args := #[s, x], argTypes := #[42, 42] })
    (B g0 : Nat) (A : Option Addr) (c : Nat) (xs : List Int) (hs : a.eval s = .slice (some ⟨g0, 0, none⟩) 0 0) (hx : a.eval x = .slice A xs.length c) (hown : RowI w B (.slice (some ⟨g0, 0, none⟩) 0 0) []) {B' : Nat} (hrow : Ins w B' A xs)
    (hm : xs.length ≤ 1048576) (hB : B ≤ w.heap.size)
    (hK : ∀ A' k' w', RowI w' B (.slice A' xs.length k') xs → GrewT 3 B w w' → (∀ k, k < w.heap.size → k ≠ g0 → w'.heap[k]? = w.heap[k]?) → K (a.put o.dst (.slice A' xs.length k')) w') :
    o.wp Try.prog a w K Q := by
  obtain ⟨i0, hi0, hz0, hz1, hz2⟩ := info_parts info_int
  rcases Nat.eq_zero_or_pos xs.length with h0 | hp
  · have hgs : xs = [] := List.eq_nil_of_length_eq_zero h0
    subst hgs
    have hrun : (Builtin.append_ #[42, 42] o.type #[.slice (some ⟨g0, 0, none⟩) 0 0, .slice A 0 c]).run Try.prog w = .ok (.slice (some ⟨g0, 0, none⟩) 0 0) w := by
      rcases A with _ | a'
      · simp [Builtin.append_, run_underlying Try.underlying42, sizeOf, typeInfo, hi0, Builtin.lenOf, Builtin.firstCells, storeCells]
      · simp [Builtin.append_, run_underlying Try.underlying42, sizeOf, typeInfo, hi0, Builtin.lenOf, Builtin.firstCells, storeCells, loadCells, loadCellsFrom]
    have hx' : a.eval x = .slice A 0 c := hx
    unfold Oper.wp execOp
    simp only [ho, resolve, invoke, builtin, Sem.run_bind, Sem.run_pure, Result.andThen_ok, List.map_toArray, List.map_cons, List.map_nil, hs, hx', hrun]
    exact hK _ _ w hown (GrewT.refl _ _ _) (fun _ _ _ => rfl)
  · obtain ⟨b, off, rfl, hb, hc⟩ := hrow (by omega)
    refine wp_append_own w s x 42 ho B 3 i0 _ 1 8 Try.underlying42 hi0 hz0 hz1 hz2 rfl (by omega) _ 0 _ hs hown ⟨b, off, none⟩ xs.length c (iV xs) hx (by rw [iV_len, Nat.mul_one]) (fun j u hj => ?_) (iV_one xs) (by unfold maxLen; omega) (by omega) hB ?_
    · have hj' : j < xs.length := by
        have := (List.getElem?_eq_some_iff.1 hj).1
        rwa [iV_len] at this
      rw [iV_get xs j hj'] at hj
      rw [addr_add', hc j hj']
      exact hj
    · intro v' w' hw' hg' _
      have hr : RowI w' B v' xs := by
        unfold RowI
        have : w'.ownsRow B 3 1 v' (0 + xs.length) (iV [] ++ iV xs) := hw'
        rw [Nat.zero_add] at this
        exact this
      obtain ⟨A', k', rfl, _⟩ := hr.sl
      exact hK A' k' w' hr (grewT_of hown hg') (fun k hk hne => hg'.block k hk (fun e => hne (by simpa [Value.ownBlock] using e)))
set_option maxHeartbeats 1000000 in
/-- append of two ints, at one operation of a drawn region. -/
theorem wp_add2I {w : World} {o : Oper} {a : Act} {K : Act → World → Prop} {Q : Exit → Act → World → Prop}
    (s x : Operand) (ho : o.op = .call { callee := .builtin .append, args := #[s, x], argTypes := #[42, 42] })
    (B gd : Nat) (v : Value) (xs : List Int) (x0 x1 : Int) (hs : a.eval s = v) (hx : a.eval x = .slice (some ⟨gd, 0, none⟩) 2 2) (hown : RowI w B v xs) (hbx : Box w gd 3 #[.int .i64 x0, .int .i64 x1])
    (hl : xs.length ≤ 1048576) (hB : B ≤ w.heap.size)
    (hK : ∀ A' k' w', RowI w' B (.slice A' (xs.length + 2) k') (xs ++ [x0, x1]) → GrewT 3 B w w' → K (a.put o.dst (.slice A' (xs.length + 2) k')) w') :
    o.wp Try.prog a w K Q := by
  obtain ⟨i0, hi0, hz0, hz1, hz2⟩ := info_parts info_int
  refine wp_append_own w s x 42 ho B 3 i0 _ 1 8 Try.underlying42 hi0 hz0 hz1 hz2 rfl (by omega) v xs.length _ hs hown ⟨gd, 0, none⟩ 2 2 [.int .i64 x0, .int .i64 x1] hx rfl (fun j u hj => ?_) (fun u hu => by simp only [List.mem_cons, List.not_mem_nil, or_false] at hu; rcases hu with rfl | rfl <;> rfl) (by unfold maxLen; omega) (by omega) hB ?_
  · rw [addr_add', Nat.zero_add, hbx.cell j]
    rw [← hj]
    rcases j with _ | _ | j <;> simp
  · intro v' w' hw' hg' _
    have hr : RowI w' B v' (xs ++ [x0, x1]) := by
      unfold RowI iV
      rw [List.map_append, List.length_append]
      exact hw'
    obtain ⟨A', k', rfl, _⟩ := hr.sl
    rw [List.length_append] at hr ⊢
    exact hK A' k' w' hr (grewT_of hown hg')
end Go.Proofs.Ytccapcadgjlmkaa
