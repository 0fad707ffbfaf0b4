/-
  Texts of the proof, put together in their order: Sok, Vlt, Chm, Ops, Lch.
  Conditions: those of each.
-/
import Derived.Test.YtehahodomfbpjaaGreatDoorMl2
import Derived.Laws.Cover1
import Derived.Lib.SmallJoins
/- What a super is; contracts of SuperOK, as the model has it. Conditions: the super can be read, and holds at most 1048576 elements of a kind; its table is no longer than its capacity. -/
namespace Go.Proofs.YtehahodomfbpjaaGreatDoor
set_option linter.unusedVariables false
set_option maxRecDepth 100000
open Go.RowKit

def tbOk (xs : List Int) (k : Nat) : Bool := inB 10 63 (xs.getD k 0) && !hasB xs k (xs.getD k 0)
def tbB (xs : List Int) : Bool := decide (xs.length ≤ 20) && (List.range xs.length).all (tbOk xs)
def TbTo (xs : List Int) (k : Nat) : Prop := ∀ j, j < k → tbOk xs j = true
theorem TbTo.zero (xs : List Int) : TbTo xs 0 := fun j h => absurd h (by omega)
theorem TbTo.succ {xs : List Int} {k : Nat} (h : TbTo xs k) (hk : tbOk xs k = true) : TbTo xs (k + 1) := fun j hj => by
  rcases Nat.lt_or_ge j k with hlt | hge
  · exact h j hlt
  · obtain rfl : j = k := by omega
    exact hk
theorem tbB_no {xs : List Int} {k : Nat} (hk : k < xs.length) (h : tbOk xs k = false) : tbB xs = false := by
  unfold tbB
  rw [show (List.range xs.length).all (tbOk xs) = false from List.all_eq_false.2 ⟨k, by simpa using hk, by simp [h]⟩]; simp
theorem tbB_len {xs : List Int} (h : 20 < xs.length) : tbB xs = false := by unfold tbB; rw [decide_eq_false (by omega)]; rfl
theorem tbB_mk {xs : List Int} (h : xs.length ≤ 20) (h2 : TbTo xs xs.length) : tbB xs = true := by
  unfold tbB
  rw [decide_eq_true h, show (List.range xs.length).all (tbOk xs) = true from List.all_eq_true.2 fun j hj => h2 j (by simpa using hj)]; rfl
theorem tbB_yes {xs : List Int} (h : tbB xs = true) : xs.length ≤ 20 ∧ TbTo xs xs.length := by
  unfold tbB at h
  simp only [Bool.and_eq_true, decide_eq_true_eq] at h
  exact ⟨h.1, fun j hj => List.all_eq_true.1 h.2 j (by simpa using hj)⟩
def mkB (m : Mrk) : Bool := nmB m.1 && inB 0 999999 m.2
def okMk (ms : List Mrk) (k : Nat) : Bool := mkB (ms.getD k mrZ) && (k == 0 || Op.bytesLess (ms.getD (k - 1) mrZ).1.toList (ms.getD k mrZ).1.toList)
def msB (ms : List Mrk) : Bool := decide (ms.length ≤ 4) && (List.range ms.length).all (okMk ms)
def MkTo (ms : List Mrk) (k : Nat) : Prop := ∀ j, j < k → okMk ms j = true
theorem MkTo.zero (ms : List Mrk) : MkTo ms 0 := fun j h => absurd h (by omega)
theorem MkTo.succ {ms : List Mrk} {k : Nat} (h : MkTo ms k) (hk : okMk ms k = true) : MkTo ms (k + 1) := fun j hj => by
  rcases Nat.lt_or_ge j k with hlt | hge
  · exact h j hlt
  · obtain rfl : j = k := by omega
    exact hk
theorem msB_no {ms : List Mrk} {k : Nat} (hk : k < ms.length) (h : okMk ms k = false) : msB ms = false := by
  unfold msB
  rw [show (List.range ms.length).all (okMk ms) = false from List.all_eq_false.2 ⟨k, by simpa using hk, by simp [h]⟩]; simp
theorem msB_len {ms : List Mrk} (h : 4 < ms.length) : msB ms = false := by unfold msB; rw [decide_eq_false (by omega)]; rfl
theorem msB_mk {ms : List Mrk} (h : ms.length ≤ 4) (h2 : MkTo ms ms.length) : msB ms = true := by
  unfold msB
  rw [decide_eq_true h, show (List.range ms.length).all (okMk ms) = true from List.all_eq_true.2 fun j hj => h2 j (by simpa using hj)]; rfl
theorem msB_yes {ms : List Mrk} (h : msB ms = true) : ms.length ≤ 4 ∧ MkTo ms ms.length := by
  unfold msB at h
  simp only [Bool.and_eq_true, decide_eq_true_eq] at h
  exact ⟨h.1, fun j hj => List.all_eq_true.1 h.2 j (by simpa using hj)⟩
/-- What a super is. -/
def superB (g b p t : Int) (xs : List Int) (ms : List Mrk) : Bool := inB 1 999999 g && inB 0 999999 b && inB b 999999 p && inB b 999999 t && tbB xs && msB ms
theorem superB_no {g b p t : Int} {xs : List Int} {ms : List Mrk} (h : (inB 1 999999 g && inB 0 999999 b && inB b 999999 p && inB b 999999 t && tbB xs && msB ms) = false) : superB g b p t xs ms = false := h
theorem superB_mk {g b p t : Int} {xs : List Int} {ms : List Mrk} (h0 : inB 1 999999 g = true) (h1 : inB 0 999999 b = true) (h2 : inB b 999999 p = true) (h3 : inB b 999999 t = true) (h4 : tbB xs = true) (h5 : msB ms = true) : superB g b p t xs ms = true := by
  unfold superB; rw [h0, h1, h2, h3, h4, h5]; rfl
set_option maxHeartbeats 4000000 in
theorem specSuperOK_c (g b p t : Int) (A A2 : Option Addr) (c c2 B : Nat) (xs : List Int) (ms : List Mrk) (w : World) (h : Ins w B A xs) (h2 : Mks w B A2 ms) (hB : B ≤ w.heap.size) (hn : xs.length ≤ 1048576) (hn2 : ms.length ≤ 1048576) (hc : xs.length ≤ c) (hm : AllM ms) :
    Calls Tryz.prog 111 #[.agg #[.int .i64 g, .int .i64 b, .int .i64 p, .int .i64 t, .slice A xs.length c, .slice A2 ms.length c2]] w fun e w' => e = .returned (.bool (superB g b p t xs ms)) ∧ Nx w w' := by
  cases x0 : inB 1 999999 g with
  | false =>
    have H0 := Lib.hid x0
    clear x0
    have HR := Lib.hid (superB_no (g := g) (b := b) (p := p) (t := t) (xs := xs) (ms := ms) (by simp [H0.out])).symm
    go_enter Tryz.func111, Tryz.ntmps111
    go_wp2_with (go_at_call 124; refine (l01In_c _ _ _ _).mono ?_; rintro e w' ⟨rfl, rfl⟩; first | rw [H0.out])
    go_ret
    exact ⟨ret_bool HR.out, (Nx.refl _).alloc _⟩
  | true =>
  have H0 := Lib.hid x0
  clear x0
  cases x1 : inB 0 999999 b with
  | false =>
    have H1 := Lib.hid x1
    clear x1
    have HR := Lib.hid (superB_no (g := g) (b := b) (p := p) (t := t) (xs := xs) (ms := ms) (by simp [H1.out])).symm
    go_enter Tryz.func111, Tryz.ntmps111
    go_wp2_with (go_at_call 124; refine (l01In_c _ _ _ _).mono ?_; rintro e w' ⟨rfl, rfl⟩; first | rw [H0.out] | rw [H1.out])
    go_ret
    exact ⟨ret_bool HR.out, (Nx.refl _).alloc _⟩
  | true =>
  have H1 := Lib.hid x1
  clear x1
  cases x2 : inB b 999999 p with
  | false =>
    have H2 := Lib.hid x2
    clear x2
    have HR := Lib.hid (superB_no (g := g) (b := b) (p := p) (t := t) (xs := xs) (ms := ms) (by simp [H2.out])).symm
    go_enter Tryz.func111, Tryz.ntmps111
    go_wp2_with (go_at_call 124; refine (l01In_c _ _ _ _).mono ?_; rintro e w' ⟨rfl, rfl⟩; first | rw [H0.out] | rw [H1.out] | rw [H2.out])
    go_ret
    exact ⟨ret_bool HR.out, (Nx.refl _).alloc _⟩
  | true =>
  have H2 := Lib.hid x2
  clear x2
  cases x3 : inB b 999999 t with
  | false =>
    have H3 := Lib.hid x3
    clear x3
    have HR := Lib.hid (superB_no (g := g) (b := b) (p := p) (t := t) (xs := xs) (ms := ms) (by simp [H3.out])).symm
    go_enter Tryz.func111, Tryz.ntmps111
    go_wp2_with (go_at_call 124; refine (l01In_c _ _ _ _).mono ?_; rintro e w' ⟨rfl, rfl⟩; first | rw [H0.out] | rw [H1.out] | rw [H2.out] | rw [H3.out])
    go_ret
    exact ⟨ret_bool HR.out, (Nx.refl _).alloc _⟩
  | true =>
  have H3 := Lib.hid x3
  clear x3
  by_cases hl : xs.length ≤ 20
  case neg =>
    have hdhl : decide (20 < (xs.length : Int)) = true := by simp; omega
    have HR := Lib.hid (superB_no (g := g) (b := b) (p := p) (t := t) (xs := xs) (ms := ms) (by rw [tbB_len (xs := xs) (by omega)]; simp)).symm
    go_enter Tryz.func111, Tryz.ntmps111
    go_wp2_with (go_at_call 124; refine (l01In_c _ _ _ _).mono ?_; rintro e w' ⟨rfl, rfl⟩; first | rw [H0.out] | rw [H1.out] | rw [H2.out] | rw [H3.out])
    go_ret
    exact ⟨ret_bool HR.out, (Nx.refl _).alloc _⟩
  have hdhl : decide (20 < (xs.length : Int)) = false := by simp; omega
  by_cases hl2 : ms.length ≤ 4
  case neg =>
    have hdhl2 : decide (4 < (ms.length : Int)) = true := by simp; omega
    have HR := Lib.hid (superB_no (g := g) (b := b) (p := p) (t := t) (xs := xs) (ms := ms) (by rw [msB_len (ms := ms) (by omega)]; simp)).symm
    go_enter Tryz.func111, Tryz.ntmps111
    go_wp2_with (go_at_call 124; refine (l01In_c _ _ _ _).mono ?_; rintro e w' ⟨rfl, rfl⟩; first | rw [H0.out] | rw [H1.out] | rw [H2.out] | rw [H3.out])
    go_ret
    exact ⟨ret_bool HR.out, (Nx.refl _).alloc _⟩
  have hdhl2 : decide (4 < (ms.length : Int)) = false := by simp; omega
  go_enter Tryz.func111, Tryz.ntmps111
  go_wp2_with (go_at_call 124; refine (l01In_c _ _ _ _).mono ?_; rintro e w' ⟨rfl, rfl⟩; first | rw [H0.out] | rw [H1.out] | rw [H2.out] | rw [H3.out])
  clear hdhl hdhl2
  have b0 := Box.new w 30 #[.int .i64 g, .int .i64 b, .int .i64 p, .int .i64 t, .slice A xs.length c, .slice A2 ms.length c2]
  have hx0 := (Nx.refl w).alloc (.cells #[.int .i64 g, .int .i64 b, .int .i64 p, .int .i64 t, .slice A xs.length c, .slice A2 ms.length c2] 30)
  generalize w.alloc (.cells #[.int .i64 g, .int .i64 b, .int .i64 p, .int .i64 t, .slice A xs.length c, .slice A2 ms.length c2] 30) = W at *
  go_loopw [3] (fun i wr => ∃ k : Nat, k ≤ xs.length ∧ i = .int .i64 k ∧ TbTo xs k ∧ Nx W wr) (fun i _ => xs.length - (intOf i).toNat)
  case atStart => exact ⟨0, Nat.zero_le _, rfl, TbTo.zero _, Nx.refl _⟩
  case round =>
    obtain ⟨k, hk, rfl, hto, hnx⟩ := hrel
    obtain ⟨_, _, _, _, c4, c5⟩ := (b0.nx hnx).d6
    by_cases hlt : k < xs.length
    · obtain ⟨bb, off, rfl, hb, k0⟩ := (h.below (hx0.trans hnx) hB).at_ hlt
      obtain ⟨q, Hq⟩ : ∃ q, Hid (xs.getD k 0 = q) := ⟨_, rfl⟩
      rw [Hq.out] at k0
      have hxd : Nx w wr.drew := (hx0.trans hnx).drew
      cases hin : inB 10 63 q with
      | false =>
        have HC := Lib.hid hin
        have HR := Lib.hid (superB_no (g := g) (b := b) (p := p) (t := t) (xs := xs) (ms := ms) (by rw [tbB_no hlt (by unfold tbOk; rw [Hq.out, hin]; rfl)]; simp)).symm
        clear hin
        go_wp2_with fail
        refine wp_region_lex [false, false, false, false, false, true, false, false, false, false, false, false, false, false, false, false, false, false, false] (fun w' => w'.cell? ⟨w.heap.size, 4, none⟩ = some (.slice (some ⟨bb, off, none⟩) xs.length c) ∧ w'.cell? ⟨bb, off + k, none⟩ = some (.int .i64 q)) (by kernel_rfl) (by kernel_rfl) rfl (by kernel_rfl) (fun _ _ d _ _ h => by cases d <;> exact h) (by exact ⟨c4, k0⟩) ?_
        repeat (first | (refine HL.take (v := ?_) (by rfl) ?_ ?_; rotate_left; (· (intro w hSw; (try dsimp only at hSw); go_simp; try with_reducible rfl)); (try simp only [Act.put, List.setIfInBounds_toArray, List.set_cons_zero, List.set_cons_succ])) | (refine HL.skip (by rfl) ?_; (try simp only [Act.put, List.setIfInBounds_toArray, List.set_cons_zero, List.set_cons_succ])))
        refine HL.call (by rfl) (fun K hK => ?_)
        go_simp
        refine (l01In_c _ _ _ _).mono ?_; rintro e w' ⟨rfl, rfl⟩; rw [HC.out]
        go_wp2_with fail
        refine hK.out _ _ (by exact ⟨c4, k0⟩) ?_
        clear hK K
        try simp only [Act.put, List.setIfInBounds_toArray, List.set_cons_zero, List.set_cons_succ]
        repeat (first | (refine HL.take (v := ?_) (by rfl) ?_ ?_; rotate_left; (· (intro w hSw; (try dsimp only at hSw); go_simp; try with_reducible rfl)); (try simp only [Act.put, List.setIfInBounds_toArray, List.set_cons_zero, List.set_cons_succ])) | (refine HL.skip (by rfl) ?_; (try simp only [Act.put, List.setIfInBounds_toArray, List.set_cons_zero, List.set_cons_succ])))
        refine HL.done ?_
        go_wp2
        go_ret
        exact ⟨ret_bool HR.out, hx0.trans hnx.drew⟩
      | true =>
        have HC := Lib.hid hin
        clear hin
        have hkc : (k : Int) ≤ (c : Int) := by omega
        cases hh : hasB xs k q with
        | true =>
          have HX := Lib.hid hh
          have HR := Lib.hid (superB_no (g := g) (b := b) (p := p) (t := t) (xs := xs) (ms := ms) (by rw [tbB_no hlt (by unfold tbOk; rw [Hq.out, hh]; simp)]; simp)).symm
          clear hh
          go_wp2_with fail
          refine wp_region_lex [false, false, false, false, false, true, false, false, false, false, false, false, false, false, false, false, false, true, false] (fun w' => w'.cell? ⟨w.heap.size, 4, none⟩ = some (.slice (some ⟨bb, off, none⟩) xs.length c) ∧ w'.cell? ⟨bb, off + k, none⟩ = some (.int .i64 q)) (by kernel_rfl) (by kernel_rfl) rfl (by kernel_rfl) (fun _ _ d _ _ h => by cases d <;> exact h) (by exact ⟨c4, k0⟩) ?_
          repeat (first | (refine HL.take (v := ?_) (by rfl) ?_ ?_; rotate_left; (· (intro w hSw; (try dsimp only at hSw); go_simp; try with_reducible rfl)); (try simp only [Act.put, List.setIfInBounds_toArray, List.set_cons_zero, List.set_cons_succ])) | (refine HL.skip (by rfl) ?_; (try simp only [Act.put, List.setIfInBounds_toArray, List.set_cons_zero, List.set_cons_succ])))
          refine HL.call (by rfl) (fun K hK => ?_)
          go_simp
          refine (l01In_c _ _ _ _).mono ?_; rintro e w' ⟨rfl, rfl⟩; rw [HC.out]
          go_wp2_with fail
          refine hK.out _ _ (by exact ⟨c4, k0⟩) ?_
          clear hK K
          try simp only [Act.put, List.setIfInBounds_toArray, List.set_cons_zero, List.set_cons_succ]
          repeat (first | (refine HL.take (v := ?_) (by rfl) ?_ ?_; rotate_left; (· (intro w hSw; (try dsimp only at hSw); go_simp; try with_reducible rfl)); (try simp only [Act.put, List.setIfInBounds_toArray, List.set_cons_zero, List.set_cons_succ])) | (refine HL.skip (by rfl) ?_; (try simp only [Act.put, List.setIfInBounds_toArray, List.set_cons_zero, List.set_cons_succ])))
          refine HL.call (by rfl) (fun K hK => ?_)
          go_simp
          refine (l04In_c (some ⟨bb, off, none⟩) k c B xs q _ (h.below hxd hB) (by omega) hn).mono ?_; rintro e w' ⟨rfl, rfl⟩; rw [HX.out]
          go_wp2_with fail
          refine hK.out _ _ (by exact ⟨c4, k0⟩) ?_
          clear hK K
          try simp only [Act.put, List.setIfInBounds_toArray, List.set_cons_zero, List.set_cons_succ]
          repeat (first | (refine HL.take (v := ?_) (by rfl) ?_ ?_; rotate_left; (· (intro w hSw; (try dsimp only at hSw); go_simp; try with_reducible rfl)); (try simp only [Act.put, List.setIfInBounds_toArray, List.set_cons_zero, List.set_cons_succ])) | (refine HL.skip (by rfl) ?_; (try simp only [Act.put, List.setIfInBounds_toArray, List.set_cons_zero, List.set_cons_succ])))
          refine HL.done ?_
          go_wp2
          go_ret
          exact ⟨ret_bool HR.out, hx0.trans hnx.drew⟩
        | false =>
          have HX := Lib.hid hh
          have HT := Lib.hid (hto.succ (by unfold tbOk; rw [Hq.out, HC.out, hh]; rfl))
          clear hh
          go_wp2_with fail
          refine wp_region_lex [false, false, false, false, false, true, false, false, false, false, false, false, false, false, false, false, false, true, false] (fun w' => w'.cell? ⟨w.heap.size, 4, none⟩ = some (.slice (some ⟨bb, off, none⟩) xs.length c) ∧ w'.cell? ⟨bb, off + k, none⟩ = some (.int .i64 q)) (by kernel_rfl) (by kernel_rfl) rfl (by kernel_rfl) (fun _ _ d _ _ h => by cases d <;> exact h) (by exact ⟨c4, k0⟩) ?_
          repeat (first | (refine HL.take (v := ?_) (by rfl) ?_ ?_; rotate_left; (· (intro w hSw; (try dsimp only at hSw); go_simp; try with_reducible rfl)); (try simp only [Act.put, List.setIfInBounds_toArray, List.set_cons_zero, List.set_cons_succ])) | (refine HL.skip (by rfl) ?_; (try simp only [Act.put, List.setIfInBounds_toArray, List.set_cons_zero, List.set_cons_succ])))
          refine HL.call (by rfl) (fun K hK => ?_)
          go_simp
          refine (l01In_c _ _ _ _).mono ?_; rintro e w' ⟨rfl, rfl⟩; rw [HC.out]
          go_wp2_with fail
          refine hK.out _ _ (by exact ⟨c4, k0⟩) ?_
          clear hK K
          try simp only [Act.put, List.setIfInBounds_toArray, List.set_cons_zero, List.set_cons_succ]
          repeat (first | (refine HL.take (v := ?_) (by rfl) ?_ ?_; rotate_left; (· (intro w hSw; (try dsimp only at hSw); go_simp; try with_reducible rfl)); (try simp only [Act.put, List.setIfInBounds_toArray, List.set_cons_zero, List.set_cons_succ])) | (refine HL.skip (by rfl) ?_; (try simp only [Act.put, List.setIfInBounds_toArray, List.set_cons_zero, List.set_cons_succ])))
          refine HL.call (by rfl) (fun K hK => ?_)
          go_simp
          refine (l04In_c (some ⟨bb, off, none⟩) k c B xs q _ (h.below hxd hB) (by omega) hn).mono ?_; rintro e w' ⟨rfl, rfl⟩; rw [HX.out]
          go_wp2_with fail
          refine hK.out _ _ (by exact ⟨c4, k0⟩) ?_
          clear hK K
          try simp only [Act.put, List.setIfInBounds_toArray, List.set_cons_zero, List.set_cons_succ]
          repeat (first | (refine HL.take (v := ?_) (by rfl) ?_ ?_; rotate_left; (· (intro w hSw; (try dsimp only at hSw); go_simp; try with_reducible rfl)); (try simp only [Act.put, List.setIfInBounds_toArray, List.set_cons_zero, List.set_cons_succ])) | (refine HL.skip (by rfl) ?_; (try simp only [Act.put, List.setIfInBounds_toArray, List.set_cons_zero, List.set_cons_succ])))
          refine HL.done ?_
          go_wp2
          go_roundw
          case rel => exact ⟨k + 1, by omega, by go_num, HT.out, hnx.drew⟩
          case measure => simp [intOf]; omega
    · obtain rfl : k = xs.length := by omega
      have HT := Lib.hid (tbB_mk hl hto)
      clear hto
      obtain ⟨W1, hW1⟩ : ∃ x, x = wr := ⟨_, rfl⟩
      subst hW1
      have b1 := b0.nx hnx
      have hx1 := hx0.trans hnx
      go_wp2
      clear c4 c5 b0 hx0 hnx hlt
      go_loopw [4] (fun i wr => ∃ k : Nat, k ≤ ms.length ∧ i = .int .i64 k ∧ MkTo ms k ∧ Nx W1 wr) (fun i _ => ms.length - (intOf i).toNat)
      case atStart => exact ⟨0, Nat.zero_le _, rfl, MkTo.zero _, Nx.refl _⟩
      case round =>
        obtain ⟨k, hk, rfl, hto, hnx⟩ := hrel
        obtain ⟨_, _, _, _, c4, c5⟩ := (b1.nx hnx).d6
        by_cases hlt : k < ms.length
        · obtain ⟨bb, off, rfl, hb, k0, k1⟩ := (h2.below (hx1.trans hnx) hB).at_ hlt
          have hsz := hm k
          obtain ⟨⟨q0, q1⟩, Hq⟩ : ∃ q, Hid (ms.getD k mrZ = q) := ⟨_, rfl⟩
          rw [Hq.out] at k0 k1 hsz
          have hbv : w.heap.size < wr.heap.size := (b1.nx hnx).lt
          have hbw : bb < wr.heap.size := Nat.lt_of_lt_of_le hb (Nat.le_trans hB (hx1.trans hnx).size)
          cases hch : (nmB q0 && inB 0 999999 q1) with
          | false =>
            have HC := Lib.hid hch
            have HR := Lib.hid (superB_no (g := g) (b := b) (p := p) (t := t) (xs := xs) (ms := ms) (by rw [msB_no hlt (by unfold okMk mkB; rw [Hq.out]; simp [hch])]; simp)).symm
            clear hch
            go_wp2_with fail
            refine wp_region_lex [false, false, false, false, false, true, false, false, false, false, false, false, false, false, false, false, false, false, false, false, false, false, false, false, false, false, false] (fun w' => w'.cell? ⟨w.heap.size, 5, none⟩ = some (.slice (some ⟨bb, off, none⟩) ms.length c2) ∧ w'.cell? ⟨bb, off + k * 2, none⟩ = some (.string q0) ∧ w'.cell? ⟨bb, off + k * 2 + 1, none⟩ = some (.int .i64 q1)) (by kernel_rfl) (by kernel_rfl) rfl (by kernel_rfl) (fun _ _ d _ _ h => by cases d <;> exact h) (by exact ⟨c5, k0, k1⟩) ?_
            repeat (first | (refine HL.take (v := ?_) (by rfl) ?_ ?_; rotate_left; (· (intro w hSw; (try dsimp only at hSw); go_simp; try with_reducible rfl)); (try simp only [Act.put, List.setIfInBounds_toArray, List.set_cons_zero, List.set_cons_succ])) | (refine HL.skip (by rfl) ?_; (try simp only [Act.put, List.setIfInBounds_toArray, List.set_cons_zero, List.set_cons_succ])))
            refine HL.call (by rfl) (fun K hK => ?_)
            go_simp
            refine (l04Mark_c q0 q1 _ hsz).mono ?_; rintro e w1 ⟨rfl, hnx1⟩; rw [HC.out]; have d5 := (hnx1.cell (p := ⟨w.heap.size, 5, none⟩) hbv).trans c5; have l0 := (hnx1.cell (p := ⟨bb, off + k * 2, none⟩) hbw).trans k0; have l1 := (hnx1.cell (p := ⟨bb, off + k * 2 + 1, none⟩) hbw).trans k1
            go_wp2_with fail
            refine hK.out _ _ (by exact ⟨d5, l0, l1⟩) ?_
            clear hK K
            try simp only [Act.put, List.setIfInBounds_toArray, List.set_cons_zero, List.set_cons_succ]
            repeat (first | (refine HL.take (v := ?_) (by rfl) ?_ ?_; rotate_left; (· (intro w hSw; (try dsimp only at hSw); go_simp; try with_reducible rfl)); (try simp only [Act.put, List.setIfInBounds_toArray, List.set_cons_zero, List.set_cons_succ])) | (refine HL.skip (by rfl) ?_; (try simp only [Act.put, List.setIfInBounds_toArray, List.set_cons_zero, List.set_cons_succ])))
            refine HL.done ?_
            go_wp2
            go_ret
            exact ⟨ret_bool HR.out, hx1.trans (hnx.drew.trans hnx1)⟩
          | true =>
            have HC := Lib.hid hch
            clear hch
            by_cases hk0 : k = 0
            · have hd0 : decide (0 < (k : Int)) = false := by simp; omega
              have hd1 : decide (0 < k) = false := by simp; omega
              have HO := Lib.hid (hto.succ (by unfold okMk mkB; rw [Hq.out, HC.out, hk0]; rfl))
              clear hk0
              go_wp2_with fail
              refine wp_region_lex [false, false, false, false, false, true, false, false, false, false, false, false, false, false, false, false, false, false, false, false, false, false, false, false, false, false, false] (fun w' => w'.cell? ⟨w.heap.size, 5, none⟩ = some (.slice (some ⟨bb, off, none⟩) ms.length c2) ∧ w'.cell? ⟨bb, off + k * 2, none⟩ = some (.string q0) ∧ w'.cell? ⟨bb, off + k * 2 + 1, none⟩ = some (.int .i64 q1)) (by kernel_rfl) (by kernel_rfl) rfl (by kernel_rfl) (fun _ _ d _ _ h => by cases d <;> exact h) (by exact ⟨c5, k0, k1⟩) ?_
              repeat (first | (refine HL.take (v := ?_) (by rfl) ?_ ?_; rotate_left; (· (intro w hSw; (try dsimp only at hSw); go_simp; try with_reducible rfl)); (try simp only [Act.put, List.setIfInBounds_toArray, List.set_cons_zero, List.set_cons_succ])) | (refine HL.skip (by rfl) ?_; (try simp only [Act.put, List.setIfInBounds_toArray, List.set_cons_zero, List.set_cons_succ])))
              refine HL.call (by rfl) (fun K hK => ?_)
              go_simp
              refine (l04Mark_c q0 q1 _ hsz).mono ?_; rintro e w1 ⟨rfl, hnx1⟩; rw [HC.out]; have d5 := (hnx1.cell (p := ⟨w.heap.size, 5, none⟩) hbv).trans c5; have l0 := (hnx1.cell (p := ⟨bb, off + k * 2, none⟩) hbw).trans k0; have l1 := (hnx1.cell (p := ⟨bb, off + k * 2 + 1, none⟩) hbw).trans k1
              go_wp2_with fail
              refine hK.out _ _ (by exact ⟨d5, l0, l1⟩) ?_
              clear hK K
              try simp only [Act.put, List.setIfInBounds_toArray, List.set_cons_zero, List.set_cons_succ]
              repeat (first | (refine HL.take (v := ?_) (by rfl) ?_ ?_; rotate_left; (· (intro w hSw; (try dsimp only at hSw); go_simp; try with_reducible rfl)); (try simp only [Act.put, List.setIfInBounds_toArray, List.set_cons_zero, List.set_cons_succ])) | (refine HL.skip (by rfl) ?_; (try simp only [Act.put, List.setIfInBounds_toArray, List.set_cons_zero, List.set_cons_succ])))
              refine HL.done ?_
              go_wp2
              go_roundw
              case rel => exact ⟨k + 1, by omega, by go_num, HO.out, hnx.drew.trans hnx1⟩
              case measure => simp [intOf]; omega
            · obtain ⟨j, rfl⟩ : ∃ j, k = j + 1 := ⟨k - 1, by omega⟩
              obtain ⟨b', off', he, _, m0, _⟩ := (h2.below (hx1.trans hnx) hB).at_ (k := j) (by omega)
              obtain ⟨rfl, rfl⟩ : bb = b' ∧ off = off' := by simpa using he
              clear he
              obtain ⟨⟨r0, r1⟩, Hr⟩ : ∃ q, Hid (ms.getD j mrZ = q) := ⟨_, rfl⟩
              rw [Hr.out] at m0
              have hd0 : decide (0 < ((j : Int) + 1)) = true := by simp
              have hd1 : decide (0 < j + 1) = true := by simp
              have hi1 : (0 : Int) ≤ (j : Int) + 1 := by omega
              have hi2 : (j : Int) + 1 < (ms.length : Int) := by omega
              have hi4 : (j : Int) < (ms.length : Int) := by omega
              have hi5 : j < ms.length := by omega
              have hi3 : ((j : Int) + 1).toNat = j + 1 := by omega
              have hw1 : IntKind.i64.wrap ((j : Int) + 1 - 1) = (j : Int) := by rw [Int.add_sub_cancel]; exact IntWalk.i64_in _ (by omega)
              have hw2 : IntKind.i64.wrap (j : Int) = (j : Int) := IntWalk.i64_in _ (by omega)
              have hi6 : (0 : Int) ≤ (j : Int) := by omega
              cases hlt2 : Op.bytesLess r0.toList q0.toList with
              | true =>
                have HO := Lib.hid (hto.succ (by unfold okMk mkB; rw [Hq.out, HC.out, Nat.add_sub_cancel, Hr.out, hlt2]; simp))
                go_wp2_with fail
                refine wp_region_lex [false, false, false, false, false, true, false, false, false, false, false, false, false, false, false, false, false, false, false, false, false, false, false, false, false, false, false] (fun w' => w'.cell? ⟨w.heap.size, 5, none⟩ = some (.slice (some ⟨bb, off, none⟩) ms.length c2) ∧ w'.cell? ⟨bb, off + (j + 1) * 2, none⟩ = some (.string q0) ∧ w'.cell? ⟨bb, off + (j + 1) * 2 + 1, none⟩ = some (.int .i64 q1) ∧ w'.cell? ⟨bb, off + j * 2, none⟩ = some (.string r0)) (by kernel_rfl) (by kernel_rfl) rfl (by kernel_rfl) (fun _ _ d _ _ h => by cases d <;> exact h) (by exact ⟨c5, k0, k1, m0⟩) ?_
                repeat (first | (refine HL.take (v := ?_) (by rfl) ?_ ?_; rotate_left; (· (intro w hSw; (try dsimp only at hSw); go_simp; try with_reducible rfl)); (try simp only [Act.put, List.setIfInBounds_toArray, List.set_cons_zero, List.set_cons_succ])) | (refine HL.skip (by rfl) ?_; (try simp only [Act.put, List.setIfInBounds_toArray, List.set_cons_zero, List.set_cons_succ])))
                refine HL.call (by rfl) (fun K hK => ?_)
                go_simp
                refine (l04Mark_c q0 q1 _ hsz).mono ?_; rintro e w1 ⟨rfl, hnx1⟩; rw [HC.out]; have d5 := (hnx1.cell (p := ⟨w.heap.size, 5, none⟩) hbv).trans c5; have l0 := (hnx1.cell (p := ⟨bb, off + (j + 1) * 2, none⟩) hbw).trans k0; have l1 := (hnx1.cell (p := ⟨bb, off + (j + 1) * 2 + 1, none⟩) hbw).trans k1; have n0 := (hnx1.cell (p := ⟨bb, off + j * 2, none⟩) hbw).trans m0
                go_wp2_with fail
                refine hK.out _ _ (by exact ⟨d5, l0, l1, n0⟩) ?_
                clear hK K
                try simp only [Act.put, List.setIfInBounds_toArray, List.set_cons_zero, List.set_cons_succ]
                repeat (first | (refine HL.take (v := ?_) (by rfl) ?_ ?_; rotate_left; (· (intro w hSw; (try dsimp only at hSw); go_simp; try with_reducible rfl)); (try simp only [Act.put, List.setIfInBounds_toArray, List.set_cons_zero, List.set_cons_succ])) | (refine HL.skip (by rfl) ?_; (try simp only [Act.put, List.setIfInBounds_toArray, List.set_cons_zero, List.set_cons_succ])))
                refine HL.done ?_
                clear hw1 hw2 hi6 hi1 hi2 hi3 hi4 hi5
                go_wp2
                go_roundw
                case rel => exact ⟨j + 1 + 1, by omega, by go_num, HO.out, hnx.drew.trans hnx1⟩
                case measure => simp [intOf]; omega
              | false =>
                have HR := Lib.hid (superB_no (g := g) (b := b) (p := p) (t := t) (xs := xs) (ms := ms) (by rw [msB_no hlt (by unfold okMk mkB; rw [Hq.out]; rw [Nat.add_sub_cancel, Hr.out, hlt2]; simp)]; simp)).symm
                go_wp2_with fail
                refine wp_region_lex [false, false, false, false, false, true, false, false, false, false, false, false, false, false, false, false, false, false, false, false, false, false, false, false, false, false, false] (fun w' => w'.cell? ⟨w.heap.size, 5, none⟩ = some (.slice (some ⟨bb, off, none⟩) ms.length c2) ∧ w'.cell? ⟨bb, off + (j + 1) * 2, none⟩ = some (.string q0) ∧ w'.cell? ⟨bb, off + (j + 1) * 2 + 1, none⟩ = some (.int .i64 q1) ∧ w'.cell? ⟨bb, off + j * 2, none⟩ = some (.string r0)) (by kernel_rfl) (by kernel_rfl) rfl (by kernel_rfl) (fun _ _ d _ _ h => by cases d <;> exact h) (by exact ⟨c5, k0, k1, m0⟩) ?_
                repeat (first | (refine HL.take (v := ?_) (by rfl) ?_ ?_; rotate_left; (· (intro w hSw; (try dsimp only at hSw); go_simp; try with_reducible rfl)); (try simp only [Act.put, List.setIfInBounds_toArray, List.set_cons_zero, List.set_cons_succ])) | (refine HL.skip (by rfl) ?_; (try simp only [Act.put, List.setIfInBounds_toArray, List.set_cons_zero, List.set_cons_succ])))
                refine HL.call (by rfl) (fun K hK => ?_)
                go_simp
                refine (l04Mark_c q0 q1 _ hsz).mono ?_; rintro e w1 ⟨rfl, hnx1⟩; rw [HC.out]; have d5 := (hnx1.cell (p := ⟨w.heap.size, 5, none⟩) hbv).trans c5; have l0 := (hnx1.cell (p := ⟨bb, off + (j + 1) * 2, none⟩) hbw).trans k0; have l1 := (hnx1.cell (p := ⟨bb, off + (j + 1) * 2 + 1, none⟩) hbw).trans k1; have n0 := (hnx1.cell (p := ⟨bb, off + j * 2, none⟩) hbw).trans m0
                go_wp2_with fail
                refine hK.out _ _ (by exact ⟨d5, l0, l1, n0⟩) ?_
                clear hK K
                try simp only [Act.put, List.setIfInBounds_toArray, List.set_cons_zero, List.set_cons_succ]
                repeat (first | (refine HL.take (v := ?_) (by rfl) ?_ ?_; rotate_left; (· (intro w hSw; (try dsimp only at hSw); go_simp; try with_reducible rfl)); (try simp only [Act.put, List.setIfInBounds_toArray, List.set_cons_zero, List.set_cons_succ])) | (refine HL.skip (by rfl) ?_; (try simp only [Act.put, List.setIfInBounds_toArray, List.set_cons_zero, List.set_cons_succ])))
                refine HL.done ?_
                clear hw1 hw2 hi6 hi1 hi2 hi3 hi4 hi5
                go_wp2
                go_ret
                exact ⟨ret_bool HR.out, hx1.trans (hnx.drew.trans hnx1)⟩
        · obtain rfl : k = ms.length := by omega
          have HR := Lib.hid (superB_mk H0.out H1.out H2.out H3.out HT.out (msB_mk hl2 hto)).symm
          go_wp2
          go_ret
          exact ⟨ret_bool HR.out, hx1.trans hnx⟩
end Go.Proofs.YtehahodomfbpjaaGreatDoor
/- Values of vaults: positions that are retained, where a step ends, what fits forwards and back, what a vault is, a content at a position. Nothing here speaks of memory. Conditions: none. -/
namespace Go.Proofs.YtehahodomfbpjaaGreatDoor
set_option linter.unusedVariables false
set_option maxRecDepth 100000
open Go.RowKit

/-- Positions that are retained: the base, and where each segment ends. -/
def retL (b : Int) (gs : List SgR) : List Int := b :: gs.map SgR.t
theorem retL_len (b : Int) (gs : List SgR) : (retL b gs).length = gs.length + 1 := by simp [retL]
theorem retL_at (b : Int) (gs : List SgR) : ∀ k, k ≤ gs.length → (retL b gs).getD k 0 = atK b gs k
  | 0, _ => rfl
  | k + 1, h => by
    show ((gs.map SgR.t)).getD k 0 = (gs.getD k sgZ).t
    rw [List.getD_eq_getElem?_getD, List.getD_eq_getElem?_getD, List.getElem?_map, List.getElem?_eq_getElem (by omega)]; rfl
/-- The segments lead on, each later than where it begins. -/
structure Lead (b : Int) (gs : List SgR) : Prop where
  from_ : ∀ k, k < gs.length → (gs.getD k sgZ).f = atK b gs k
  rise : ∀ k, k < gs.length → atK b gs k < atK b gs (k + 1)
  ok : ∀ k, k < gs.length → chsB (gs.getD k sgZ).cs = true
  seg : ∀ k, k < gs.length → segB (gs.getD k sgZ).f (gs.getD k sgZ).t (gs.getD k sgZ).m (gs.getD k sgZ).cs = true
  short : gs.length ≤ 4096
theorem chainB_lead {b : Int} {gs : List SgR} (h : chainB b gs = true) : Lead b gs := by
  unfold chainB at h
  simp only [Bool.and_eq_true, decide_eq_true_eq] at h
  have hk : ∀ k, k < gs.length → lnk b gs k = true := fun k hk => List.all_eq_true.1 h.2 k (by simpa using hk)
  have hs : ∀ k, k < gs.length → sgB (gs.getD k sgZ) = true ∧ (gs.getD k sgZ).f = atK b gs k := fun k hl => by
    have := hk k hl
    unfold lnk at this
    simp only [Bool.and_eq_true, decide_eq_true_eq] at this
    exact ⟨this.1.1.1, this.1.1.2⟩
  refine ⟨fun k hl => (hs k hl).2, fun k hl => ?_, fun k hl => segB_chs (hs k hl).1, fun k hl => (hs k hl).1, h.1.1⟩
  have h1 := (hs k hl).1
  unfold sgB segB at h1
  simp only [Bool.and_eq_true] at h1
  have h2 := of_decide_eq_true h1.1.1.2
  rw [← (hs k hl).2]
  show _ < (gs.getD k sgZ).t
  omega
theorem Lead.lt {b : Int} {gs : List SgR} (h : Lead b gs) {j : Nat} : ∀ k, j < k → k ≤ gs.length → atK b gs j < atK b gs k
  | 0, hj, _ => absurd hj (by omega)
  | k + 1, hj, hk => by
    have := h.rise k (by omega)
    by_cases e : j = k
    · rw [e]; exact this
    · have := h.lt (j := j) k (by omega) (by omega); omega
theorem Lead.le {b : Int} {gs : List SgR} (h : Lead b gs) {j k : Nat} (hj : j ≤ k) (hk : k ≤ gs.length) : atK b gs j ≤ atK b gs k := by
  by_cases e : j = k
  · rw [e]; exact Int.le_refl _
  · have := h.lt k (j := j) (by omega) hk; omega
theorem Lead.inj {b : Int} {gs : List SgR} (h : Lead b gs) {j k : Nat} (hj : j ≤ gs.length) (hk : k ≤ gs.length) (he : atK b gs j = atK b gs k) : j = k := by
  rcases Nat.lt_trichotomy j k with hlt | e | hlt
  · have := h.lt k hlt hk; omega
  · exact e
  · have := h.lt j hlt hj; omega
/-- Where a number stands in a list; its length of none. -/
def idx (xs : List Int) (n : Int) : Nat := (xs.takeWhile fun x => x != n).length
theorem idx_cons (x : Int) (xs : List Int) (n : Int) : idx (x :: xs) n = if x = n then 0 else idx xs n + 1 := by
  unfold idx
  rw [List.takeWhile_cons]
  by_cases e : x = n
  · rw [if_pos e]; simp [e]
  · rw [if_neg e]; simp [e]
theorem idx_at : ∀ {xs : List Int} {n : Int}, idx xs n < xs.length → xs.getD (idx xs n) 0 = n
  | [], _, h => absurd h (by simp)
  | x :: xs, n, h => by
    rw [idx_cons] at h ⊢
    by_cases e : x = n
    · rw [if_pos e]; exact e
    · rw [if_neg e] at h ⊢
      rw [List.length_cons] at h
      exact idx_at (xs := xs) (by omega)
theorem idx_lt : ∀ {xs : List Int} {n : Int} {k : Nat}, k < xs.length → xs.getD k 0 = n → idx xs n ≤ k
  | [], _, _, h, _ => absurd h (by simp)
  | x :: xs, n, k, h, hk => by
    rw [idx_cons]
    by_cases e : x = n
    · rw [if_pos e]; omega
    · rw [if_neg e]
      match k, h, hk with
      | 0, _, hk => exact absurd hk e
      | k + 1, h, hk =>
        rw [List.length_cons] at h
        have := idx_lt (xs := xs) (k := k) (by omega) hk
        omega
/-- A position is retained. -/
def isRet (b : Int) (gs : List SgR) (n : Int) : Bool := decide (idx (retL b gs) n < gs.length + 1)
/-- How many segments lie ahead of it. -/
def ahd (b : Int) (gs : List SgR) (n : Int) : Nat := idx (retL b gs) n
theorem ahd_at {b : Int} {gs : List SgR} {n : Int} (h : isRet b gs n = true) : ahd b gs n ≤ gs.length ∧ atK b gs (ahd b gs n) = n := by
  unfold isRet at h
  simp only [decide_eq_true_eq] at h
  have h1 : idx (retL b gs) n < (retL b gs).length := by rw [retL_len]; exact h
  have h2 := idx_at h1
  rw [retL_at b gs _ (by omega)] at h2
  exact ⟨by unfold ahd; omega, h2⟩
/-! Steps, and what fits. -/
/-- The content where the next step ends, and how many segments lie ahead of it. -/
def stp (b p t : Int) (gs : List SgR) (im : List Int) : List Int × Nat :=
  if p < t then (app pN im (gs.getD (ahd b gs p) sgZ).cs, ahd b gs p + 1) else if t < p then (app pO im (gs.getD (ahd b gs p - 1) sgZ).cs, ahd b gs p - 1) else (im, ahd b gs p)
/-- j segments on from the a-th; j back. -/
def fwK (c : List Int) (gs : List SgR) (a : Nat) : Nat → List Int
  | 0 => c
  | j + 1 => app pN (fwK c gs a j) (gs.getD (a + j) sgZ).cs
def bkK (c : List Int) (gs : List SgR) (a : Nat) : Nat → List Int
  | 0 => c
  | j + 1 => app pO (bkK c gs a j) (gs.getD (a - 1 - j) sgZ).cs
theorem fwK_len (c : List Int) (gs : List SgR) (a : Nat) : ∀ j, (fwK c gs a j).length = c.length
  | 0 => rfl
  | j + 1 => by show (app pN _ _).length = _; rw [app_len, fwK_len c gs a j]
theorem bkK_len (c : List Int) (gs : List SgR) (a : Nat) : ∀ j, (bkK c gs a j).length = c.length
  | 0 => rfl
  | j + 1 => by show (app pO _ _).length = _; rw [app_len, bkK_len c gs a j]
def oldB (c : List Int) (g : SgR) : Bool := decide (app pO c g.cs = c)
def newB (c : List Int) (g : SgR) : Bool := decide (app pN c g.cs = c)
def fitF (c : List Int) (gs : List SgR) (a : Nat) : Bool := (List.range (gs.length - a)).all fun j => oldB (fwK c gs a j) (gs.getD (a + j) sgZ)
def fitB (c : List Int) (gs : List SgR) (a : Nat) : Bool := (List.range a).all fun j => newB (bkK c gs a j) (gs.getD (a - 1 - j) sgZ)
def FitF (c : List Int) (gs : List SgR) (a k : Nat) : Prop := ∀ j, j < k → oldB (fwK c gs a j) (gs.getD (a + j) sgZ) = true
def FitB (c : List Int) (gs : List SgR) (a k : Nat) : Prop := ∀ j, j < k → newB (bkK c gs a j) (gs.getD (a - 1 - j) sgZ) = true
theorem FitF.zero (c : List Int) (gs : List SgR) (a : Nat) : FitF c gs a 0 := fun j h => absurd h (by omega)
theorem FitB.zero (c : List Int) (gs : List SgR) (a : Nat) : FitB c gs a 0 := fun j h => absurd h (by omega)
theorem FitF.succ {c : List Int} {gs : List SgR} {a k : Nat} (h : FitF c gs a k) (hk : oldB (fwK c gs a k) (gs.getD (a + k) sgZ) = true) : FitF c gs a (k + 1) := fun j hj => by
  rcases Nat.lt_or_ge j k with hlt | hge
  · exact h j hlt
  · obtain rfl : j = k := by omega
    exact hk
theorem FitB.succ {c : List Int} {gs : List SgR} {a k : Nat} (h : FitB c gs a k) (hk : newB (bkK c gs a k) (gs.getD (a - 1 - k) sgZ) = true) : FitB c gs a (k + 1) := fun j hj => by
  rcases Nat.lt_or_ge j k with hlt | hge
  · exact h j hlt
  · obtain rfl : j = k := by omega
    exact hk
theorem FitF.all {c : List Int} {gs : List SgR} {a : Nat} (h : FitF c gs a (gs.length - a)) : fitF c gs a = true := List.all_eq_true.2 fun j hj => h j (by simpa using hj)
theorem FitB.all {c : List Int} {gs : List SgR} {a : Nat} (h : FitB c gs a a) : fitB c gs a = true := List.all_eq_true.2 fun j hj => h j (by simpa using hj)
theorem fitF_no {c : List Int} {gs : List SgR} {a k : Nat} (hk : a + k < gs.length) (h : oldB (fwK c gs a k) (gs.getD (a + k) sgZ) = false) : fitF c gs a = false :=
  List.all_eq_false.2 ⟨k, by simp; omega, by rw [h]; simp⟩
theorem fitB_no {c : List Int} {gs : List SgR} {a k : Nat} (hk : k < a) (h : newB (bkK c gs a k) (gs.getD (a - 1 - k) sgZ) = false) : fitB c gs a = false :=
  List.all_eq_false.2 ⟨k, by simp; omega, by rw [h]; simp⟩
/-- Turned to what is new, behind a turn of its own: as if turned at once. -/
theorem app_app (p q : Chg → Int) {cs : List Chg} {xs : List Int} (hb : Blk cs) (hl : xs.length = 8) : app p (app q xs cs) cs = app p xs cs := by
  refine ext8 (by rw [app_len, app_len, hl]) (by rw [app_len, hl]) fun j hj => ?_
  rw [app_at0 p hb (by rw [app_len, hl]) hj, app_at0 p hb hl hj, app_at0 q hb hl hj]
  cases noteM noM cs (j : Int) <;> rfl
theorem newB_back {c : List Int} {g : SgR} (hb : chsB g.cs = true) (hl : c.length = 8) : newB c g = decide (app pN (app pO c g.cs) g.cs = c) := by
  unfold newB; rw [app_app pN pO (chsB_blk hb) hl]
/-- All marks are retained. -/
def mksR (b : Int) (gs : List SgR) (ms : List Mrk) : Bool := (List.range ms.length).all fun k => isRet b gs (ms.getD k mrZ).2
def MksTo (b : Int) (gs : List SgR) (ms : List Mrk) (k : Nat) : Prop := ∀ j, j < k → isRet b gs (ms.getD j mrZ).2 = true
theorem MksTo.zero (b : Int) (gs : List SgR) (ms : List Mrk) : MksTo b gs ms 0 := fun j h => absurd h (by omega)
theorem MksTo.succ {b : Int} {gs : List SgR} {ms : List Mrk} {k : Nat} (h : MksTo b gs ms k) (hk : isRet b gs (ms.getD k mrZ).2 = true) : MksTo b gs ms (k + 1) := fun j hj => by
  rcases Nat.lt_or_ge j k with hlt | hge
  · exact h j hlt
  · obtain rfl : j = k := by omega
    exact hk
theorem MksTo.all {b : Int} {gs : List SgR} {ms : List Mrk} (h : MksTo b gs ms ms.length) : mksR b gs ms = true := List.all_eq_true.2 fun j hj => h j (by simpa using hj)
theorem mksR_no {b : Int} {gs : List SgR} {ms : List Mrk} {k : Nat} (hk : k < ms.length) (h : isRet b gs (ms.getD k mrZ).2 = false) : mksR b gs ms = false :=
  List.all_eq_false.2 ⟨k, by simpa using hk, by rw [h]; simp⟩
/-- A vault's places. -/
def plcB (b p t : Int) (gs : List SgR) (ms : List Mrk) : Bool := mksR b gs ms && isRet b gs p && isRet b gs t
/-- What a vault is. -/
def vltB (g b p t : Int) (xs : List Int) (ms : List Mrk) (gs : List SgR) (im : List Int) : Bool :=
  superB g b p t xs ms && contB im && decide (gs.length = xs.length) && chainB b gs && plcB b p t gs ms && fitF (stp b p t gs im).1 gs (stp b p t gs im).2 && fitB (stp b p t gs im).1 gs (stp b p t gs im).2
structure VltY (g b p t : Int) (xs : List Int) (ms : List Mrk) (gs : List SgR) (im : List Int) : Prop where
  super : superB g b p t xs ms = true
  cont : contB im = true
  len : gs.length = xs.length
  chain : chainB b gs = true
  places : plcB b p t gs ms = true
  fwd : fitF (stp b p t gs im).1 gs (stp b p t gs im).2 = true
  bck : fitB (stp b p t gs im).1 gs (stp b p t gs im).2 = true
theorem vltB_yes {g b p t : Int} {xs : List Int} {ms : List Mrk} {gs : List SgR} {im : List Int} (h : vltB g b p t xs ms gs im = true) : VltY g b p t xs ms gs im := by
  unfold vltB at h
  simp only [Bool.and_eq_true, decide_eq_true_eq] at h
  obtain ⟨⟨⟨⟨⟨⟨h1, h2⟩, h3⟩, h4⟩, h5⟩, h6⟩, h7⟩ := h
  exact ⟨h1, h2, h3, h4, h5, h6, h7⟩
theorem VltY.b {g b p t : Int} {xs : List Int} {ms : List Mrk} {gs : List SgR} {im : List Int} (h : VltY g b p t xs ms gs im) : vltB g b p t xs ms gs im = true := by
  unfold vltB; rw [h.super, h.cont, decide_eq_true h.len, h.chain, h.places, h.fwd, h.bck]; rfl
theorem vltB_no {g b p t : Int} {xs : List Int} {ms : List Mrk} {gs : List SgR} {im : List Int}
    (h : superB g b p t xs ms = false ∨ contB im = false ∨ ¬ gs.length = xs.length ∨ chainB b gs = false ∨ plcB b p t gs ms = false ∨ fitF (stp b p t gs im).1 gs (stp b p t gs im).2 = false ∨ fitB (stp b p t gs im).1 gs (stp b p t gs im).2 = false) : vltB g b p t xs ms gs im = false := by
  unfold vltB
  rcases h with h | h | h | h | h | h | h
  · rw [h]; rfl
  · rw [h]; simp
  · rw [decide_eq_false h]; simp
  · rw [h]; simp
  · rw [h]; simp
  · rw [h]; simp
  · rw [h]; simp
/-- The anchor of a place that is right: within the segments. -/
theorem stp_le {b p t : Int} {gs : List SgR} {ms : List Mrk} (im : List Int) (hl : Lead b gs) (h : plcB b p t gs ms = true) : (stp b p t gs im).2 ≤ gs.length ∧ (p < t → ahd b gs p < gs.length) ∧ (t < p → 0 < ahd b gs p) := by
  unfold plcB at h
  simp only [Bool.and_eq_true] at h
  obtain ⟨hp, hp2⟩ := ahd_at h.1.2
  obtain ⟨ht, ht2⟩ := ahd_at h.2
  have h1 : p < t → ahd b gs p < gs.length := fun hlt => by
    rcases Nat.lt_or_ge (ahd b gs p) gs.length with hh | hh
    · exact hh
    · have := hl.le (j := ahd b gs t) (k := ahd b gs p) (by omega) hp; omega
  have h2 : t < p → 0 < ahd b gs p := fun hlt => by
    rcases Nat.eq_zero_or_pos (ahd b gs p) with hh | hh
    · have := hl.le (j := ahd b gs p) (k := ahd b gs t) (by omega) ht; omega
    · exact hh
  refine ⟨?_, h1, h2⟩
  unfold stp
  by_cases hlt : p < t
  · rw [if_pos hlt]; have := h1 hlt; simp only; omega
  · rw [if_neg hlt]
    by_cases hgt : t < p
    · rw [if_pos hgt]; simp only; omega
    · rw [if_neg hgt]; exact hp
theorem stp_len (b p t : Int) (gs : List SgR) (im : List Int) : (stp b p t gs im).1.length = im.length := by
  unfold stp
  by_cases hlt : p < t
  · rw [if_pos hlt]; exact app_len _ _ _
  · rw [if_neg hlt]
    by_cases hgt : t < p
    · rw [if_pos hgt]; exact app_len _ _ _
    · rw [if_neg hgt]
end Go.Proofs.YtehahodomfbpjaaGreatDoor
/- Contract of ChainOK, as the model has it: the walk. Conditions: the segments can be read, and have at most 1048576 changes each. -/
namespace Go.Proofs.YtehahodomfbpjaaGreatDoor
set_option linter.unusedVariables false
set_option maxRecDepth 100000
open Go.RowKit
theorem last0 {w : World} {g : Nat} (h : Box w g 3 #[.int .i64 (-1), .int .i64 (-1), .int .i64 (-1), .int .i64 (-1), .int .i64 (-1), .int .i64 (-1), .int .i64 (-1), .int .i64 (-1)]) : Own w g 3 8 (lsAt noM) := h.own.congr fun i hi => by
  match i, hi with
  | 0, _ => rfl
  | 1, _ => rfl
  | 2, _ => rfl
  | 3, _ => rfl
  | 4, _ => rfl
  | 5, _ => rfl
  | 6, _ => rfl
  | 7, _ => rfl
theorem ls_set {M N : Int → Option Chg} {n0 : Nat} {q1 q2 : Int} (h : N = fun x => if x = ((n0 : Int), q1, q2).1 then some ((n0 : Int), q1, q2) else M x) : ∀ i, i < 8 → (if i = n0 then Value.int .i64 q1 else lsAt M i) = lsAt N i := by
  intro i _
  rw [h]
  unfold lsAt lastV
  by_cases e : i = n0
  · rw [if_pos e]
    simp [e]
  · rw [if_neg e]
    have : ¬ (i : Int) = (n0 : Int) := by omega
    simp [this]
set_option maxRecDepth 100000 in
set_option maxHeartbeats 4000000 in
theorem specChainOK_c (base : Int) (A : Option Addr) (c B : Nat) (gs : List SgR) (w : World) (h : Sgs w B A gs) (hB : B ≤ w.heap.size) (hn : gs.length ≤ 1048576) (hm : ∀ k, k < gs.length → (gs.getD k sgZ).cs.length ≤ 1048576) :
    Calls Tryz.prog 208 #[.int .i64 base, .slice A gs.length c] w fun e w' => e = .returned (.bool (chainB base gs)) ∧ Nx w w' := by
  obtain ⟨n, Hn⟩ : ∃ n, Hid (gs.length = n) := ⟨_, rfl⟩
  rw [Hn.out] at hn ⊢
  by_cases hl : n ≤ 4096
  case neg =>
    have HR := Lib.hid (chainB_long (base := base) (gs := gs) (by rw [Hn.out]; exact hl))
    have hd : decide (4096 < (n : Int)) = true := by simp; omega
    go_enter Tryz.func208, Tryz.ntmps208
    go_wp2
    go_ret
    exact ⟨by rw [HR.out]; rfl, Nx.refl _⟩
  have hd : decide (4096 < (n : Int)) = false := by simp; omega
  have hb0 := Box.new w 3 #[.int .i64 (-1), .int .i64 (-1), .int .i64 (-1), .int .i64 (-1), .int .i64 (-1), .int .i64 (-1), .int .i64 (-1), .int .i64 (-1)]
  have hown0 := last0 hb0
  have hx0 := (Nx.refl w).alloc (.cells #[.int .i64 (-1), .int .i64 (-1), .int .i64 (-1), .int .i64 (-1), .int .i64 (-1), .int .i64 (-1), .int .i64 (-1), .int .i64 (-1)] 3)
  clear hb0
  go_enter Tryz.func208, Tryz.ntmps208
  go_wp2_with fail
  generalize w.alloc (.cells #[.int .i64 (-1), .int .i64 (-1), .int .i64 (-1), .int .i64 (-1), .int .i64 (-1), .int .i64 (-1), .int .i64 (-1), .int .i64 (-1)] 3) = W at *
  go_loopw [0, 6] (fun a0 i wr => ∃ k : Nat, k ≤ n ∧ i = .int .i64 k ∧ a0 = .int .i64 (atK base gs k) ∧ Own wr w.heap.size 3 8 (lsAt (mpK gs k)) ∧ LnTo base gs k ∧ Nx w wr) (fun _ i _ => n - (intOf i).toNat)
  case atStart => exact ⟨0, Nat.zero_le _, rfl, rfl, hown0, LnTo.zero _ _, hx0⟩
  case round =>
    obtain ⟨k, hk, rfl, rfl, hown, hln, hnx⟩ := hrel
    obtain ⟨wo, hwo⟩ : ∃ x, x = wr := ⟨_, rfl⟩
    subst hwo
    clear hown0 hx0
    by_cases hlt : k < n
    case neg =>
      obtain rfl : k = n := by omega
      have HR := Lib.hid (show inB 0 999999 (atK base gs k) = chainB base gs by rw [LnTo.chain (by rw [Hn.out]; exact hln) (by rw [Hn.out]; exact hl)]; exact hln.end_)
      go_wp2_with fail
      refine (l01In_c _ _ _ _).mono ?_
      rintro e w' ⟨rfl, rfl⟩
      rw [HR.out]
      go_wp2
      go_ret
      exact ⟨rfl, hnx⟩
    have hlk : k < gs.length := by rw [Hn.out]; exact hlt
    obtain ⟨b, off, rfl, hb, p0, p1, p2, p3⟩ := (h.below hnx hB).row.at4 hlk
    have hrow := (h.below hnx hB).row
    have hch := (h.below hnx hB).chs k hlk
    have hmk' := hm k hlk
    have HNo := Lib.hid (fun (hh : lnk base gs k = false) => chainB_no hlk hh)
    have HYes := Lib.hid (fun (hh : lnk base gs k = true) => hln.succ hh)
    have HA := Lib.hid (show atK base gs (k + 1) = (gs.getD k sgZ).t from rfl)
    have HM := Lib.hid (show mpK gs (k + 1) = noteM (mpK gs k) (gs.getD k sgZ).cs from rfl)
    have HNN := Lib.hid (LnTo.nonN k hln)
    have HPr : ∀ j, k = j + 1 → wo.cell? ⟨b, off + j * 4 + 2, none⟩ = some (.int .i64 (tmK gs k)) := by
      rintro j rfl
      obtain ⟨b', off', e, _, _, _, q2, _⟩ := hrow.at4 (k := j) (by omega)
      injection e with e
      injection e with e1 e2 _
      subst e1 e2
      exact q2
    clear hln hrow
    obtain ⟨⟨f, t, m, A2, cc, cs⟩, Hs⟩ : ∃ s, Hid (gs.getD k sgZ = s) := ⟨_, rfl⟩
    rw [Hs.out] at p0 p1 p2 p3 hch hmk' HA HM
    simp only at p0 p1 p2 p3 hch hmk'
    have bG := Box.new wo 130 #[.int .i64 f, .int .i64 t, .int .i64 m, .slice A2 cs.length cc]
    have hxa := (Nx.refl wo).alloc (.cells #[.int .i64 f, .int .i64 t, .int .i64 m, .slice A2 cs.length cc] 130)
    have hltw := hown.lt
    obtain ⟨a0, Ha⟩ : ∃ q, Hid (atK base gs k = q) := ⟨_, rfl⟩
    obtain ⟨t0, Ht⟩ : ∃ q, Hid (tmK gs k = q) := ⟨_, rfl⟩
    obtain ⟨M, HMk⟩ : ∃ q, Hid (mpK gs k = q) := ⟨_, rfl⟩
    rw [Ha.out]
    rw [HMk.out] at hown HM HNN
    have HBad := Lib.hid (fun hh => HNo.out (lnk_bad (base := base) Hs.out hh))
    have HGood := Lib.hid (fun h1 h2 h3 h4 => HYes.out (lnk_yes (base := base) Hs.out h1 h2 h3 h4))
    rw [Ha.out, Ht.out, HMk.out] at HBad HGood
    rw [Ht.out] at HPr
    have HT0 : k = 0 → inB 0 999999 m = true → t0 ≤ m := by
      rintro rfl hh
      rw [← Ht.out]
      exact tmK_zero hh
    clear HNo HYes hm
    go_wp2_with fail
    generalize hWa : wo.alloc (.cells #[.int .i64 f, .int .i64 t, .int .i64 m, .slice A2 cs.length cc] 130) = wa at *
    clear hWa p0 p1 p2 p3
    have hszB0 := Nat.le_trans hB hnx.size
    have hch0 := h.chs k hlk
    rw [Hs.out] at hch0
    simp only at hch0
    have hnxa : Nx w wa.drew := (hnx.trans hxa).drew
    have hszB : B ≤ wa.drew.heap.size := Nat.le_trans hB hnxa.size
    have hchd : Chs wa.drew B A2 cs := hch0.below hnxa hB
    replace hown : Own wa.drew w.heap.size 3 8 (lsAt M) := hown.nx (hxa.drew)
    have hbw : b < wa.drew.heap.size := by have : wa.drew.heap.size = wa.heap.size := rfl; have := hxa.size; omega
    have hPr1 : ∀ j, k = j + 1 → wa.drew.cell? ⟨b, off + j * 4 + 2, none⟩ = some (.int .i64 t0) := fun j hj => (hxa.cell (p := ⟨b, off + j * 4 + 2, none⟩) (by simp; omega)).trans (HPr j hj)
    replace bG : Box wa.drew wo.heap.size 130 #[.int .i64 f, .int .i64 t, .int .i64 m, .slice A2 cs.length cc] := bG
    have hwr : wo.heap.size < wa.drew.heap.size := bG.lt
    clear HPr hch
    cases hsb : segB f t m cs
    · have HSB := Lib.hid hsb
      have HR := Lib.hid (HBad.out (.inl hsb))
      clear hsb HBad HGood
      refine wp_region_lex [false, true, false, false, false, false, false, false, false, false, false, false, false, false, false, false, false, false, false, false, false, false, false, false] (fun w' => (w'.cell? ⟨wo.heap.size, 0, none⟩ = some (.int .i64 f) ∧ w'.cell? ⟨wo.heap.size, 1, none⟩ = some (.int .i64 t) ∧ w'.cell? ⟨wo.heap.size, 2, none⟩ = some (.int .i64 m) ∧ w'.cell? ⟨wo.heap.size, 3, none⟩ = some (.slice A2 cs.length cc))) (by kernel_rfl) (by kernel_rfl) rfl (by kernel_rfl) (fun _ _ d _ _ h => by cases d <;> exact h) (by exact bG.d4) ?_
      repeat (first | (refine HL.take (v := ?_) (by rfl) ?_ ?_; rotate_left; (· (intro w hSw; (try dsimp only at hSw); go_simp; try with_reducible rfl)); (try simp only [Act.put, List.setIfInBounds_toArray, List.set_cons_zero, List.set_cons_succ])) | (refine HL.skip (by rfl) ?_; (try simp only [Act.put, List.setIfInBounds_toArray, List.set_cons_zero, List.set_cons_succ])))
      refine HL.call (by rfl) (fun K hK => ?_)
      go_simp
      refine (specSegOK_c f t m A2 cc B cs _ hchd hszB hmk').mono ?_; rintro e w1 ⟨rfl, hx1⟩; rw [HSB.out]
      go_wp2_with fail
      refine hK.out _ _ (by exact (bG.nx hx1).d4) ?_
      clear hK K
      try simp only [Act.put, List.setIfInBounds_toArray, List.set_cons_zero, List.set_cons_succ]
      repeat (first | (refine HL.take (v := ?_) (by rfl) ?_ ?_; rotate_left; (· (intro w hSw; (try dsimp only at hSw); go_simp; try with_reducible rfl)); (try simp only [Act.put, List.setIfInBounds_toArray, List.set_cons_zero, List.set_cons_succ])) | (refine HL.skip (by rfl) ?_; (try simp only [Act.put, List.setIfInBounds_toArray, List.set_cons_zero, List.set_cons_succ])))
      refine HL.done ?_
      go_wp2
      go_ret
      exact ⟨by rw [HR.out]; rfl, hnxa.trans hx1⟩
    have HSB := Lib.hid hsb
    have hok : chsB cs = true := segB_chs hsb
    have hmr := (segB_range hsb).2.2.1
    clear hsb
    by_cases hfa : f = a0
    case neg =>
      have HR := Lib.hid (HBad.out (.inr (.inl hfa)))
      have hd1 : (f != a0) = true := by simp [hfa]
      clear HBad HGood hfa
      refine wp_region_lex [false, true, false, false, false, false, false, false, false, false, false, false, false, false, false, false, false, false, false, false, false, false, false, false] (fun w' => (w'.cell? ⟨wo.heap.size, 0, none⟩ = some (.int .i64 f) ∧ w'.cell? ⟨wo.heap.size, 1, none⟩ = some (.int .i64 t) ∧ w'.cell? ⟨wo.heap.size, 2, none⟩ = some (.int .i64 m) ∧ w'.cell? ⟨wo.heap.size, 3, none⟩ = some (.slice A2 cs.length cc))) (by kernel_rfl) (by kernel_rfl) rfl (by kernel_rfl) (fun _ _ d _ _ h => by cases d <;> exact h) (by exact bG.d4) ?_
      repeat (first | (refine HL.take (v := ?_) (by rfl) ?_ ?_; rotate_left; (· (intro w hSw; (try dsimp only at hSw); go_simp; try with_reducible rfl)); (try simp only [Act.put, List.setIfInBounds_toArray, List.set_cons_zero, List.set_cons_succ])) | (refine HL.skip (by rfl) ?_; (try simp only [Act.put, List.setIfInBounds_toArray, List.set_cons_zero, List.set_cons_succ])))
      refine HL.call (by rfl) (fun K hK => ?_)
      go_simp
      refine (specSegOK_c f t m A2 cc B cs _ hchd hszB hmk').mono ?_; rintro e w1 ⟨rfl, hx1⟩; rw [HSB.out]
      go_wp2_with fail
      refine hK.out _ _ (by exact (bG.nx hx1).d4) ?_
      clear hK K
      try simp only [Act.put, List.setIfInBounds_toArray, List.set_cons_zero, List.set_cons_succ]
      repeat (first | (refine HL.take (v := ?_) (by rfl) ?_ ?_; rotate_left; (· (intro w hSw; (try dsimp only at hSw); go_simp; try with_reducible rfl)); (try simp only [Act.put, List.setIfInBounds_toArray, List.set_cons_zero, List.set_cons_succ])) | (refine HL.skip (by rfl) ?_; (try simp only [Act.put, List.setIfInBounds_toArray, List.set_cons_zero, List.set_cons_succ])))
      refine HL.done ?_
      go_wp2
      go_ret
      exact ⟨by rw [HR.out]; rfl, hnxa.trans hx1⟩
    have hd1 : (f != a0) = false := by simp [hfa]
    have HFA := Lib.hid hfa
    clear hfa
    rcases Nat.eq_zero_or_pos k with hk0 | hk0
    · have HTM := Lib.hid (HT0 hk0 hmr)
      have hd2 : decide (0 < k) = false := by simp; omega
      have HGd := Lib.hid (fun h4 => HGood.out HSB.out HFA.out HTM.out h4)
      have HBd := Lib.hid (fun h4 => HBad.out (.inr (.inr (.inr h4))))
      clear HBad HGood HT0 hPr1 hk0
      refine wp_region_lex [false, true, false, false, false, false, false, false, false, false, false, false, false, false, false, false, false, false, false, false, false, false, false, false] (fun w' => (w'.cell? ⟨wo.heap.size, 0, none⟩ = some (.int .i64 f) ∧ w'.cell? ⟨wo.heap.size, 1, none⟩ = some (.int .i64 t) ∧ w'.cell? ⟨wo.heap.size, 2, none⟩ = some (.int .i64 m) ∧ w'.cell? ⟨wo.heap.size, 3, none⟩ = some (.slice A2 cs.length cc))) (by kernel_rfl) (by kernel_rfl) rfl (by kernel_rfl) (fun _ _ d _ _ h => by cases d <;> exact h) (by exact bG.d4) ?_
      repeat (first | (refine HL.take (v := ?_) (by rfl) ?_ ?_; rotate_left; (· (intro w hSw; (try dsimp only at hSw); go_simp; try with_reducible rfl)); (try simp only [Act.put, List.setIfInBounds_toArray, List.set_cons_zero, List.set_cons_succ])) | (refine HL.skip (by rfl) ?_; (try simp only [Act.put, List.setIfInBounds_toArray, List.set_cons_zero, List.set_cons_succ])))
      refine HL.call (by rfl) (fun K hK => ?_)
      go_simp
      refine (specSegOK_c f t m A2 cc B cs _ hchd hszB hmk').mono ?_; rintro e w1 ⟨rfl, hx1⟩; rw [HSB.out]
      go_wp2_with fail
      refine hK.out _ _ (by exact (bG.nx hx1).d4) ?_
      clear hK K
      try simp only [Act.put, List.setIfInBounds_toArray, List.set_cons_zero, List.set_cons_succ]
      repeat (first | (refine HL.take (v := ?_) (by rfl) ?_ ?_; rotate_left; (· (intro w hSw; (try dsimp only at hSw); go_simp; try with_reducible rfl)); (try simp only [Act.put, List.setIfInBounds_toArray, List.set_cons_zero, List.set_cons_succ])) | (refine HL.skip (by rfl) ?_; (try simp only [Act.put, List.setIfInBounds_toArray, List.set_cons_zero, List.set_cons_succ])))
      refine HL.done ?_
      have hX1 := hnxa.trans hx1
      have bG1 := bG.nx hx1
      have hown1 := hown.nx hx1
      clear bG hown hchd hnxa hx1 hszB hbw
      obtain ⟨c0, c1, c2, c3⟩ := bG1.d4
      go_wp2_with fail
      go_loopw [8] (fun i ws => ∃ j2 : Nat, j2 ≤ cs.length ∧ i = .int .i64 j2 ∧ Own ws w.heap.size 3 8 (lsAt (noteM M (cs.take j2))) ∧ Box ws wo.heap.size 130 #[.int .i64 f, .int .i64 t, .int .i64 m, .slice A2 cs.length cc] ∧ OnTo M cs j2 ∧ Nx w ws) (fun i _ => cs.length - (intOf i).toNat)
      case atStart => exact ⟨0, Nat.zero_le _, rfl, hown1, bG1, OnTo.zero _ _, hX1⟩
      case round =>
        obtain ⟨j2, hj2, rfl, hown, bG, hon, hnx2⟩ := hrel
        obtain ⟨ws, hws⟩ : ∃ x, x = wr := ⟨_, rfl⟩
        subst hws
        clear c0 c1 c2 c3 hX1 bG1 hown1
        obtain ⟨c0, c1, c2, c3⟩ := bG.d4
        by_cases hlt2 : j2 < cs.length
        case neg =>
          obtain rfl : j2 = cs.length := by omega
          have HL2 := Lib.hid (HGd.out hon.all)
          rw [List.take_length] at hown
          go_wp2
          go_roundw
          case rel => exact ⟨k + 1, by omega, by go_num, by rw [HA.out], by rw [HM.out]; exact hown, HL2.out, hnx2⟩
          case measure => simp [intOf]; omega
        obtain ⟨b2, off2, rfl, hb2, k0, k1, k2⟩ := (hch0.below hnx2 hB).at_ hlt2
        obtain ⟨hr0, hr1⟩ := (chsB_to hok).rise j2 hlt2
        have HNt := Lib.hid (noteM_at M (chsB_to hok) hlt2)
        have HNs := Lib.hid (noteM_succ M cs hlt2)
        have HoN := Lib.hid (fun (hh : onC M (cs.getD j2 chZ) = false) => HBd.out (onB_no hlt2 hh))
        have HoY := Lib.hid (fun (hh : onC M (cs.getD j2 chZ) = true) => hon.succ hh)
        obtain ⟨⟨q0, q1, q2⟩, Hq⟩ : ∃ q, Hid (cs.getD j2 chZ = q) := ⟨_, rfl⟩
        rw [Hq.out] at k0 k1 k2 hr0 hr1 HNt HNs HoN HoY
        rw [onC_val HNN.out] at HoN HoY
        simp only at hr0 hr1 k0 k1 k2
        obtain ⟨n0, rfl⟩ : ∃ n : Nat, q0 = n := ⟨q0.toNat, by omega⟩
        have hn0 : n0 < 8 := by omega
        have hn1 : (n0 : Int) < 8 := by omega
        obtain ⟨x, Hx⟩ : ∃ x, Hid (lastV M (n0 : Int) = x) := ⟨_, rfl⟩
        rw [Hx.out] at HoN HoY
        have hv : ws.cell? ⟨w.heap.size, n0, none⟩ = some (.int .i64 x) := by
          have h1 := hown.cell hn0
          unfold lsAt lastV at h1
          rw [HNt.out] at h1
          rw [← Hx.out]
          exact h1
        clear hon hr0 hr1 HNt
        have bC := Box.new ws 202 #[.int .i64 (n0 : Int), .int .i64 q1, .int .i64 q2]
        have hxc := (Nx.refl ws).alloc (.cells #[.int .i64 (n0 : Int), .int .i64 q1, .int .i64 q2] 202)
        go_wp2_with fail
        have hownS := hown
        have bGS := bG
        have hwl := hown.lt
        have hv1 : (ws.alloc (.cells #[.int .i64 (n0 : Int), .int .i64 q1, .int .i64 q2] 202)).drew.cell? ⟨w.heap.size, n0, none⟩ = some (.int .i64 x) := (hxc.cell (p := ⟨w.heap.size, n0, none⟩) hown.lt).trans hv
        replace hown : Own (ws.alloc (.cells #[.int .i64 (n0 : Int), .int .i64 q1, .int .i64 q2] 202)).drew w.heap.size 3 8 (lsAt (noteM M (cs.take j2))) := hown.nx hxc.drew
        replace bG : Box (ws.alloc (.cells #[.int .i64 (n0 : Int), .int .i64 q1, .int .i64 q2] 202)).drew wo.heap.size 130 #[.int .i64 f, .int .i64 t, .int .i64 m, .slice (some ⟨b2, off2, none⟩) cs.length cc] := bG.nx hxc.drew
        replace bC : Box (ws.alloc (.cells #[.int .i64 (n0 : Int), .int .i64 q1, .int .i64 q2] 202)).drew ws.heap.size 202 #[.int .i64 (n0 : Int), .int .i64 q1, .int .i64 q2] := bC
        have hnx3 : Nx w (ws.alloc (.cells #[.int .i64 (n0 : Int), .int .i64 q1, .int .i64 q2] 202)).drew := (hnx2.trans hxc).drew
        clear c0 c1 c2 c3 k0 k1 k2 hv
        by_cases hx0 : x < 0
        · have hd5 : decide (0 ≤ x) = false := by simp; omega
          have HO := Lib.hid (HoY.out (by rw [decide_eq_true hx0]; rfl))
          clear hx0 HoN HoY
          refine wp_region_lex [false, false, false, false, false, false, false, false, false, false, false, false, false, false, false, false] (fun w' => (w'.cell? ⟨ws.heap.size, 0, none⟩ = some (.int .i64 (n0 : Int)) ∧ w'.cell? ⟨ws.heap.size, 1, none⟩ = some (.int .i64 q1) ∧ w'.cell? ⟨ws.heap.size, 2, none⟩ = some (.int .i64 q2)) ∧ w'.cell? ⟨w.heap.size, n0, none⟩ = some (.int .i64 x)) (by kernel_rfl) (by kernel_rfl) rfl (by kernel_rfl) (fun _ _ d _ _ h => by cases d <;> exact h) (by exact ⟨bC.d3, hv1⟩) ?_
          repeat (first | (refine HL.take (v := ?_) (by rfl) ?_ ?_; rotate_left; (· (intro w hSw; (try dsimp only at hSw); go_simp; try with_reducible rfl)); (try simp only [Act.put, List.setIfInBounds_toArray, List.set_cons_zero, List.set_cons_succ])) | (refine HL.skip (by rfl) ?_; (try simp only [Act.put, List.setIfInBounds_toArray, List.set_cons_zero, List.set_cons_succ])))
          refine HL.done ?_
          obtain ⟨e0, e1, e2⟩ := bC.d3
          have hz := hown.frozen n0
          clear hown bG hnx3
          go_wp2
          go_roundw
          case rel =>
            refine ⟨j2 + 1, by omega, by go_num, ?_, (bGS.far (p := ⟨w.heap.size, n0, none⟩) (by simp; omega) _).alloc _, HO.out, ((hnx2.setCell (p := ⟨w.heap.size, n0, none⟩) (Nat.le_refl _) _).alloc _).drew⟩
            exact ((hownS.set hn0 (.int .i64 q1)).alloc _).congr (ls_set HNs.out)
          case measure => simp [intOf]; omega
        have hd5 : decide (0 ≤ x) = true := by simp; omega
        by_cases hxq : x = q2
        · have hd6 : (x != q2) = false := by simp [hxq]
          have HO := Lib.hid (HoY.out (by rw [decide_eq_true hxq]; simp))
          clear hx0 hxq HoN HoY
          refine wp_region_lex [false, false, false, false, false, false, false, false, false, false, false, false, false, false, false, false] (fun w' => (w'.cell? ⟨ws.heap.size, 0, none⟩ = some (.int .i64 (n0 : Int)) ∧ w'.cell? ⟨ws.heap.size, 1, none⟩ = some (.int .i64 q1) ∧ w'.cell? ⟨ws.heap.size, 2, none⟩ = some (.int .i64 q2)) ∧ w'.cell? ⟨w.heap.size, n0, none⟩ = some (.int .i64 x)) (by kernel_rfl) (by kernel_rfl) rfl (by kernel_rfl) (fun _ _ d _ _ h => by cases d <;> exact h) (by exact ⟨bC.d3, hv1⟩) ?_
          repeat (first | (refine HL.take (v := ?_) (by rfl) ?_ ?_; rotate_left; (· (intro w hSw; (try dsimp only at hSw); go_simp; try with_reducible rfl)); (try simp only [Act.put, List.setIfInBounds_toArray, List.set_cons_zero, List.set_cons_succ])) | (refine HL.skip (by rfl) ?_; (try simp only [Act.put, List.setIfInBounds_toArray, List.set_cons_zero, List.set_cons_succ])))
          refine HL.done ?_
          obtain ⟨e0, e1, e2⟩ := bC.d3
          have hz := hown.frozen n0
          clear hown bG hnx3
          go_wp2
          go_roundw
          case rel =>
            refine ⟨j2 + 1, by omega, by go_num, ?_, (bGS.far (p := ⟨w.heap.size, n0, none⟩) (by simp; omega) _).alloc _, HO.out, ((hnx2.setCell (p := ⟨w.heap.size, n0, none⟩) (Nat.le_refl _) _).alloc _).drew⟩
            exact ((hownS.set hn0 (.int .i64 q1)).alloc _).congr (ls_set HNs.out)
          case measure => simp [intOf]; omega
        · have hd6 : (x != q2) = true := by simp [hxq]
          have HO := Lib.hid (HoN.out (by rw [decide_eq_false hx0, decide_eq_false hxq]; rfl))
          clear hx0 hxq HoN HoY
          refine wp_region_lex [false, false, false, false, false, false, false, false, false, false, false, false, false, false, false, false] (fun w' => (w'.cell? ⟨ws.heap.size, 0, none⟩ = some (.int .i64 (n0 : Int)) ∧ w'.cell? ⟨ws.heap.size, 1, none⟩ = some (.int .i64 q1) ∧ w'.cell? ⟨ws.heap.size, 2, none⟩ = some (.int .i64 q2)) ∧ w'.cell? ⟨w.heap.size, n0, none⟩ = some (.int .i64 x)) (by kernel_rfl) (by kernel_rfl) rfl (by kernel_rfl) (fun _ _ d _ _ h => by cases d <;> exact h) (by exact ⟨bC.d3, hv1⟩) ?_
          repeat (first | (refine HL.take (v := ?_) (by rfl) ?_ ?_; rotate_left; (· (intro w hSw; (try dsimp only at hSw); go_simp; try with_reducible rfl)); (try simp only [Act.put, List.setIfInBounds_toArray, List.set_cons_zero, List.set_cons_succ])) | (refine HL.skip (by rfl) ?_; (try simp only [Act.put, List.setIfInBounds_toArray, List.set_cons_zero, List.set_cons_succ])))
          refine HL.done ?_
          go_wp2
          go_ret
          exact ⟨by rw [HO.out]; rfl, hnx3⟩
    obtain ⟨j, Hj⟩ : ∃ j, Hid (k = j + 1) := ⟨k - 1, Lib.hid (by omega)⟩
    have hPr := hPr1 j Hj.out
    have hd3 : decide (0 < k) = true := by have := Hj.out; simp; omega
    have hsub : (k : Int) - 1 = (j : Int) := by have := Hj.out; omega
    have hjn : (j : Int) < (n : Int) := by have := Hj.out; omega
    have hwj : IntKind.i64.wrap (j : Int) = (j : Int) := IntWalk.i64_in _ (by omega)
    clear hPr1 HT0 hk0
    by_cases htm : t0 ≤ m
    case neg =>
      have HR := Lib.hid (HBad.out (.inr (.inr (.inl (by omega)))))
      have hd2 : decide (m < t0) = true := by simp; omega
      clear HBad HGood htm
      refine wp_region_lex [false, true, false, false, false, false, false, false, false, false, false, false, false, false, false, false, false, false, false, false, false, false, false, false] (fun w' => (w'.cell? ⟨wo.heap.size, 0, none⟩ = some (.int .i64 f) ∧ w'.cell? ⟨wo.heap.size, 1, none⟩ = some (.int .i64 t) ∧ w'.cell? ⟨wo.heap.size, 2, none⟩ = some (.int .i64 m) ∧ w'.cell? ⟨wo.heap.size, 3, none⟩ = some (.slice A2 cs.length cc)) ∧ w'.cell? ⟨b, off + j * 4 + 2, none⟩ = some (.int .i64 t0)) (by kernel_rfl) (by kernel_rfl) rfl (by kernel_rfl) (fun _ _ d _ _ h => by cases d <;> exact h) (by exact ⟨bG.d4, hPr⟩) ?_
      repeat (first | (refine HL.take (v := ?_) (by rfl) ?_ ?_; rotate_left; (· (intro w hSw; (try dsimp only at hSw); go_simp; try with_reducible rfl)); (try simp only [Act.put, List.setIfInBounds_toArray, List.set_cons_zero, List.set_cons_succ])) | (refine HL.skip (by rfl) ?_; (try simp only [Act.put, List.setIfInBounds_toArray, List.set_cons_zero, List.set_cons_succ])))
      refine HL.call (by rfl) (fun K hK => ?_)
      go_simp
      refine (specSegOK_c f t m A2 cc B cs _ hchd hszB hmk').mono ?_; rintro e w1 ⟨rfl, hx1⟩; rw [HSB.out]
      go_wp2_with fail
      refine hK.out _ _ (by exact ⟨(bG.nx hx1).d4, (hx1.cell (p := ⟨b, off + j * 4 + 2, none⟩) hbw).trans hPr⟩) ?_
      clear hK K
      try simp only [Act.put, List.setIfInBounds_toArray, List.set_cons_zero, List.set_cons_succ]
      repeat (first | (refine HL.take (v := ?_) (by rfl) ?_ ?_; rotate_left; (· (intro w hSw; (try dsimp only at hSw); go_simp; try with_reducible rfl)); (try simp only [Act.put, List.setIfInBounds_toArray, List.set_cons_zero, List.set_cons_succ])) | (refine HL.skip (by rfl) ?_; (try simp only [Act.put, List.setIfInBounds_toArray, List.set_cons_zero, List.set_cons_succ])))
      refine HL.done ?_
      go_wp2
      go_ret
      exact ⟨by rw [HR.out]; rfl, hnxa.trans hx1⟩
    have hd2 : decide (m < t0) = false := by simp; omega
    have HGd := Lib.hid (fun h4 => HGood.out HSB.out HFA.out htm h4)
    have HBd := Lib.hid (fun h4 => HBad.out (.inr (.inr (.inr h4))))
    clear HBad HGood htm
    refine wp_region_lex [false, true, false, false, false, false, false, false, false, false, false, false, false, false, false, false, false, false, false, false, false, false, false, false] (fun w' => (w'.cell? ⟨wo.heap.size, 0, none⟩ = some (.int .i64 f) ∧ w'.cell? ⟨wo.heap.size, 1, none⟩ = some (.int .i64 t) ∧ w'.cell? ⟨wo.heap.size, 2, none⟩ = some (.int .i64 m) ∧ w'.cell? ⟨wo.heap.size, 3, none⟩ = some (.slice A2 cs.length cc)) ∧ w'.cell? ⟨b, off + j * 4 + 2, none⟩ = some (.int .i64 t0)) (by kernel_rfl) (by kernel_rfl) rfl (by kernel_rfl) (fun _ _ d _ _ h => by cases d <;> exact h) (by exact ⟨bG.d4, hPr⟩) ?_
    repeat (first | (refine HL.take (v := ?_) (by rfl) ?_ ?_; rotate_left; (· (intro w hSw; (try dsimp only at hSw); go_simp; try with_reducible rfl)); (try simp only [Act.put, List.setIfInBounds_toArray, List.set_cons_zero, List.set_cons_succ])) | (refine HL.skip (by rfl) ?_; (try simp only [Act.put, List.setIfInBounds_toArray, List.set_cons_zero, List.set_cons_succ])))
    refine HL.call (by rfl) (fun K hK => ?_)
    go_simp
    refine (specSegOK_c f t m A2 cc B cs _ hchd hszB hmk').mono ?_; rintro e w1 ⟨rfl, hx1⟩; rw [HSB.out]
    go_wp2_with fail
    refine hK.out _ _ (by exact ⟨(bG.nx hx1).d4, (hx1.cell (p := ⟨b, off + j * 4 + 2, none⟩) hbw).trans hPr⟩) ?_
    clear hK K
    try simp only [Act.put, List.setIfInBounds_toArray, List.set_cons_zero, List.set_cons_succ]
    repeat (first | (refine HL.take (v := ?_) (by rfl) ?_ ?_; rotate_left; (· (intro w hSw; (try dsimp only at hSw); go_simp; try with_reducible rfl)); (try simp only [Act.put, List.setIfInBounds_toArray, List.set_cons_zero, List.set_cons_succ])) | (refine HL.skip (by rfl) ?_; (try simp only [Act.put, List.setIfInBounds_toArray, List.set_cons_zero, List.set_cons_succ])))
    refine HL.done ?_
    have hX1 := hnxa.trans hx1
    have bG1 := bG.nx hx1
    have hown1 := hown.nx hx1
    clear bG hown hchd hnxa hx1 hszB hbw
    obtain ⟨c0, c1, c2, c3⟩ := bG1.d4
    go_wp2_with fail
    go_loopw [8] (fun i ws => ∃ j2 : Nat, j2 ≤ cs.length ∧ i = .int .i64 j2 ∧ Own ws w.heap.size 3 8 (lsAt (noteM M (cs.take j2))) ∧ Box ws wo.heap.size 130 #[.int .i64 f, .int .i64 t, .int .i64 m, .slice A2 cs.length cc] ∧ OnTo M cs j2 ∧ Nx w ws) (fun i _ => cs.length - (intOf i).toNat)
    case atStart => exact ⟨0, Nat.zero_le _, rfl, hown1, bG1, OnTo.zero _ _, hX1⟩
    case round =>
      obtain ⟨j2, hj2, rfl, hown, bG, hon, hnx2⟩ := hrel
      obtain ⟨ws, hws⟩ : ∃ x, x = wr := ⟨_, rfl⟩
      subst hws
      clear c0 c1 c2 c3 hX1 bG1 hown1
      obtain ⟨c0, c1, c2, c3⟩ := bG.d4
      by_cases hlt2 : j2 < cs.length
      case neg =>
        obtain rfl : j2 = cs.length := by omega
        have HL2 := Lib.hid (HGd.out hon.all)
        rw [List.take_length] at hown
        go_wp2
        go_roundw
        case rel => exact ⟨k + 1, by omega, by go_num, by rw [HA.out], by rw [HM.out]; exact hown, HL2.out, hnx2⟩
        case measure => simp [intOf]; omega
      obtain ⟨b2, off2, rfl, hb2, k0, k1, k2⟩ := (hch0.below hnx2 hB).at_ hlt2
      obtain ⟨hr0, hr1⟩ := (chsB_to hok).rise j2 hlt2
      have HNt := Lib.hid (noteM_at M (chsB_to hok) hlt2)
      have HNs := Lib.hid (noteM_succ M cs hlt2)
      have HoN := Lib.hid (fun (hh : onC M (cs.getD j2 chZ) = false) => HBd.out (onB_no hlt2 hh))
      have HoY := Lib.hid (fun (hh : onC M (cs.getD j2 chZ) = true) => hon.succ hh)
      obtain ⟨⟨q0, q1, q2⟩, Hq⟩ : ∃ q, Hid (cs.getD j2 chZ = q) := ⟨_, rfl⟩
      rw [Hq.out] at k0 k1 k2 hr0 hr1 HNt HNs HoN HoY
      rw [onC_val HNN.out] at HoN HoY
      simp only at hr0 hr1 k0 k1 k2
      obtain ⟨n0, rfl⟩ : ∃ n : Nat, q0 = n := ⟨q0.toNat, by omega⟩
      have hn0 : n0 < 8 := by omega
      have hn1 : (n0 : Int) < 8 := by omega
      obtain ⟨x, Hx⟩ : ∃ x, Hid (lastV M (n0 : Int) = x) := ⟨_, rfl⟩
      rw [Hx.out] at HoN HoY
      have hv : ws.cell? ⟨w.heap.size, n0, none⟩ = some (.int .i64 x) := by
        have h1 := hown.cell hn0
        unfold lsAt lastV at h1
        rw [HNt.out] at h1
        rw [← Hx.out]
        exact h1
      clear hon hr0 hr1 HNt
      have bC := Box.new ws 202 #[.int .i64 (n0 : Int), .int .i64 q1, .int .i64 q2]
      have hxc := (Nx.refl ws).alloc (.cells #[.int .i64 (n0 : Int), .int .i64 q1, .int .i64 q2] 202)
      go_wp2_with fail
      have hownS := hown
      have bGS := bG
      have hwl := hown.lt
      have hv1 : (ws.alloc (.cells #[.int .i64 (n0 : Int), .int .i64 q1, .int .i64 q2] 202)).drew.cell? ⟨w.heap.size, n0, none⟩ = some (.int .i64 x) := (hxc.cell (p := ⟨w.heap.size, n0, none⟩) hown.lt).trans hv
      replace hown : Own (ws.alloc (.cells #[.int .i64 (n0 : Int), .int .i64 q1, .int .i64 q2] 202)).drew w.heap.size 3 8 (lsAt (noteM M (cs.take j2))) := hown.nx hxc.drew
      replace bG : Box (ws.alloc (.cells #[.int .i64 (n0 : Int), .int .i64 q1, .int .i64 q2] 202)).drew wo.heap.size 130 #[.int .i64 f, .int .i64 t, .int .i64 m, .slice (some ⟨b2, off2, none⟩) cs.length cc] := bG.nx hxc.drew
      replace bC : Box (ws.alloc (.cells #[.int .i64 (n0 : Int), .int .i64 q1, .int .i64 q2] 202)).drew ws.heap.size 202 #[.int .i64 (n0 : Int), .int .i64 q1, .int .i64 q2] := bC
      have hnx3 : Nx w (ws.alloc (.cells #[.int .i64 (n0 : Int), .int .i64 q1, .int .i64 q2] 202)).drew := (hnx2.trans hxc).drew
      clear c0 c1 c2 c3 k0 k1 k2 hv
      by_cases hx0 : x < 0
      · have hd5 : decide (0 ≤ x) = false := by simp; omega
        have HO := Lib.hid (HoY.out (by rw [decide_eq_true hx0]; rfl))
        clear hx0 HoN HoY
        refine wp_region_lex [false, false, false, false, false, false, false, false, false, false, false, false, false, false, false, false] (fun w' => (w'.cell? ⟨ws.heap.size, 0, none⟩ = some (.int .i64 (n0 : Int)) ∧ w'.cell? ⟨ws.heap.size, 1, none⟩ = some (.int .i64 q1) ∧ w'.cell? ⟨ws.heap.size, 2, none⟩ = some (.int .i64 q2)) ∧ w'.cell? ⟨w.heap.size, n0, none⟩ = some (.int .i64 x)) (by kernel_rfl) (by kernel_rfl) rfl (by kernel_rfl) (fun _ _ d _ _ h => by cases d <;> exact h) (by exact ⟨bC.d3, hv1⟩) ?_
        repeat (first | (refine HL.take (v := ?_) (by rfl) ?_ ?_; rotate_left; (· (intro w hSw; (try dsimp only at hSw); go_simp; try with_reducible rfl)); (try simp only [Act.put, List.setIfInBounds_toArray, List.set_cons_zero, List.set_cons_succ])) | (refine HL.skip (by rfl) ?_; (try simp only [Act.put, List.setIfInBounds_toArray, List.set_cons_zero, List.set_cons_succ])))
        refine HL.done ?_
        obtain ⟨e0, e1, e2⟩ := bC.d3
        have hz := hown.frozen n0
        clear hown bG hnx3
        go_wp2
        go_roundw
        case rel =>
          refine ⟨j2 + 1, by omega, by go_num, ?_, (bGS.far (p := ⟨w.heap.size, n0, none⟩) (by simp; omega) _).alloc _, HO.out, ((hnx2.setCell (p := ⟨w.heap.size, n0, none⟩) (Nat.le_refl _) _).alloc _).drew⟩
          exact ((hownS.set hn0 (.int .i64 q1)).alloc _).congr (ls_set HNs.out)
        case measure => simp [intOf]; omega
      have hd5 : decide (0 ≤ x) = true := by simp; omega
      by_cases hxq : x = q2
      · have hd6 : (x != q2) = false := by simp [hxq]
        have HO := Lib.hid (HoY.out (by rw [decide_eq_true hxq]; simp))
        clear hx0 hxq HoN HoY
        refine wp_region_lex [false, false, false, false, false, false, false, false, false, false, false, false, false, false, false, false] (fun w' => (w'.cell? ⟨ws.heap.size, 0, none⟩ = some (.int .i64 (n0 : Int)) ∧ w'.cell? ⟨ws.heap.size, 1, none⟩ = some (.int .i64 q1) ∧ w'.cell? ⟨ws.heap.size, 2, none⟩ = some (.int .i64 q2)) ∧ w'.cell? ⟨w.heap.size, n0, none⟩ = some (.int .i64 x)) (by kernel_rfl) (by kernel_rfl) rfl (by kernel_rfl) (fun _ _ d _ _ h => by cases d <;> exact h) (by exact ⟨bC.d3, hv1⟩) ?_
        repeat (first | (refine HL.take (v := ?_) (by rfl) ?_ ?_; rotate_left; (· (intro w hSw; (try dsimp only at hSw); go_simp; try with_reducible rfl)); (try simp only [Act.put, List.setIfInBounds_toArray, List.set_cons_zero, List.set_cons_succ])) | (refine HL.skip (by rfl) ?_; (try simp only [Act.put, List.setIfInBounds_toArray, List.set_cons_zero, List.set_cons_succ])))
        refine HL.done ?_
        obtain ⟨e0, e1, e2⟩ := bC.d3
        have hz := hown.frozen n0
        clear hown bG hnx3
        go_wp2
        go_roundw
        case rel =>
          refine ⟨j2 + 1, by omega, by go_num, ?_, (bGS.far (p := ⟨w.heap.size, n0, none⟩) (by simp; omega) _).alloc _, HO.out, ((hnx2.setCell (p := ⟨w.heap.size, n0, none⟩) (Nat.le_refl _) _).alloc _).drew⟩
          exact ((hownS.set hn0 (.int .i64 q1)).alloc _).congr (ls_set HNs.out)
        case measure => simp [intOf]; omega
      · have hd6 : (x != q2) = true := by simp [hxq]
        have HO := Lib.hid (HoN.out (by rw [decide_eq_false hx0, decide_eq_false hxq]; rfl))
        clear hx0 hxq HoN HoY
        refine wp_region_lex [false, false, false, false, false, false, false, false, false, false, false, false, false, false, false, false] (fun w' => (w'.cell? ⟨ws.heap.size, 0, none⟩ = some (.int .i64 (n0 : Int)) ∧ w'.cell? ⟨ws.heap.size, 1, none⟩ = some (.int .i64 q1) ∧ w'.cell? ⟨ws.heap.size, 2, none⟩ = some (.int .i64 q2)) ∧ w'.cell? ⟨w.heap.size, n0, none⟩ = some (.int .i64 x)) (by kernel_rfl) (by kernel_rfl) rfl (by kernel_rfl) (fun _ _ d _ _ h => by cases d <;> exact h) (by exact ⟨bC.d3, hv1⟩) ?_
        repeat (first | (refine HL.take (v := ?_) (by rfl) ?_ ?_; rotate_left; (· (intro w hSw; (try dsimp only at hSw); go_simp; try with_reducible rfl)); (try simp only [Act.put, List.setIfInBounds_toArray, List.set_cons_zero, List.set_cons_succ])) | (refine HL.skip (by rfl) ?_; (try simp only [Act.put, List.setIfInBounds_toArray, List.set_cons_zero, List.set_cons_succ])))
        refine HL.done ?_
        go_wp2
        go_ret
        exact ⟨by rw [HO.out]; rfl, hnx3⟩
end Go.Proofs.YtehahodomfbpjaaGreatDoor
/- A list of segments that comes in, opened. Conditions: none. -/
namespace Go.Proofs.YtehahodomfbpjaaGreatDoor
set_option linter.unusedVariables false
set_option maxRecDepth 100000
open Go.Joins Go.ChangeShapes Go.WideShapes Go.RowKit Go.Deep
section
variable {H : Type} {enc : TypeId × Value → H} {w : World} {base : Nat} {spare : Nat → Bool} {held : Bool}
end
end Go.Proofs.YtehahodomfbpjaaGreatDoor
/- The walk of the law FnExactChainOK. Conditions: the list that comes in can be read. -/
namespace Go.Proofs.YtehahodomfbpjaaGreatDoor
set_option linter.unusedVariables false
set_option maxRecDepth 100000
open Go.RowKit
theorem v_parts {gs hs : List SgR} (h : gs.map SgR.v = hs.map SgR.v) (k : Nat) : (gs.getD k sgZ).f = (hs.getD k sgZ).f ∧ (gs.getD k sgZ).t = (hs.getD k sgZ).t ∧ (gs.getD k sgZ).m = (hs.getD k sgZ).m ∧ (gs.getD k sgZ).cs = (hs.getD k sgZ).cs := by
  have := v_at h k
  unfold SgR.v at this
  simp only [Prod.mk.injEq] at this
  exact this
theorem atK_v {gs hs : List SgR} (h : gs.map SgR.v = hs.map SgR.v) (base : Int) : ∀ k, atK base gs k = atK base hs k
  | 0 => rfl
  | k + 1 => (v_parts h k).2.1
theorem tmK_v {gs hs : List SgR} (h : gs.map SgR.v = hs.map SgR.v) : ∀ k, tmK gs k = tmK hs k
  | 0 => rfl
  | k + 1 => (v_parts h k).2.2.1
theorem mpK_v {gs hs : List SgR} (h : gs.map SgR.v = hs.map SgR.v) : ∀ k, mpK gs k = mpK hs k
  | 0 => rfl
  | k + 1 => by
    show noteM (mpK gs k) (gs.getD k sgZ).cs = noteM (mpK hs k) (hs.getD k sgZ).cs
    rw [mpK_v h k, (v_parts h k).2.2.2]
theorem lnk_v {gs hs : List SgR} (h : gs.map SgR.v = hs.map SgR.v) (base : Int) (k : Nat) : lnk base gs k = lnk base hs k := by
  obtain ⟨h1, h2, h3, h4⟩ := v_parts h k
  unfold lnk sgB
  rw [h1, h2, h3, h4, atK_v h, tmK_v h, mpK_v h]
theorem chainB_v {gs hs : List SgR} (h : gs.map SgR.v = hs.map SgR.v) (base : Int) : chainB base gs = chainB base hs := by
  unfold chainB
  rw [v_len h, show lnk base gs = lnk base hs from funext (lnk_v h base)]
theorem v_cs {gs hs : List SgR} (h : gs.map SgR.v = hs.map SgR.v) {n : Nat} (hm : ∀ k, k < hs.length → (hs.getD k sgZ).cs.length ≤ n) : ∀ k, k < gs.length → (gs.getD k sgZ).cs.length ≤ n := fun k hk => by
  rw [(v_parts h k).2.2.2]; exact hm k (by rw [← v_len h]; exact hk)
end Go.Proofs.YtehahodomfbpjaaGreatDoor
