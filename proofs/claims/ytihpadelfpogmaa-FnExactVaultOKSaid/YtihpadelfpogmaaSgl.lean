/-
  Words on lists of segments in memory; contracts of the laws' functions that count, copy and compare such lists; a list that comes in, opened.
  Conditions: what is read can be read; copied or compared: at most 1048576 of each.
-/
import Derived.Test.YtihpadelfpogmaaSof
import Derived.Test.YtihpadelfpogmaaSgt
import Derived.Test.YtihpadelfpogmaaSge
namespace Go.Proofs.Ytihpadelfpogmaa
set_option linter.unusedVariables false
set_option maxRecDepth 100000
open Go.Joins Go.ChangeShapes Go.WideShapes Go.RowKit Go.Deep

/-- A segment in memory: from, to, time, where its changes lie, their capacity, the changes. -/
structure SgR where
  f : Int
  t : Int
  m : Int
  A : Option Addr
  c : Nat
  cs : List Chg
def sgZ : SgR := ⟨0, 0, 0, none, 0, []⟩
def SgR.v (g : SgR) : Sg4 := (g.f, g.t, g.m, g.cs)
def sgAt (gs : List SgR) (i : Nat) : Value :=
  if i % 4 = 0 then .int .i64 (gs.getD (i / 4) sgZ).f else if i % 4 = 1 then .int .i64 (gs.getD (i / 4) sgZ).t else if i % 4 = 2 then .int .i64 (gs.getD (i / 4) sgZ).m else .slice (gs.getD (i / 4) sgZ).A (gs.getD (i / 4) sgZ).cs.length (gs.getD (i / 4) sgZ).c
theorem sgAt0 (gs : List SgR) (k : Nat) : sgAt gs (k * 4) = .int .i64 (gs.getD k sgZ).f := by
  unfold sgAt; rw [if_pos (by omega), show k * 4 / 4 = k by omega]
theorem sgAt1 (gs : List SgR) (k : Nat) : sgAt gs (k * 4 + 1) = .int .i64 (gs.getD k sgZ).t := by
  unfold sgAt; rw [if_neg (by omega), if_pos (by omega), show (k * 4 + 1) / 4 = k by omega]
theorem sgAt2 (gs : List SgR) (k : Nat) : sgAt gs (k * 4 + 2) = .int .i64 (gs.getD k sgZ).m := by
  unfold sgAt; rw [if_neg (by omega), if_neg (by omega), if_pos (by omega), show (k * 4 + 2) / 4 = k by omega]
theorem sgAt3 (gs : List SgR) (k : Nat) : sgAt gs (k * 4 + 3) = .slice (gs.getD k sgZ).A (gs.getD k sgZ).cs.length (gs.getD k sgZ).c := by
  unfold sgAt; rw [if_neg (by omega), if_neg (by omega), if_neg (by omega), show (k * 4 + 3) / 4 = k by omega]
theorem sgAt_app (gs hs : List SgR) (i : Nat) (h : i < gs.length * 4) : sgAt (gs ++ hs) i = sgAt gs i := by
  have e : (gs ++ hs).getD (i / 4) sgZ = gs.getD (i / 4) sgZ := by
    rw [List.getD_eq_getElem?_getD, List.getD_eq_getElem?_getD, List.getElem?_append_left (by omega)]
  unfold sgAt; rw [e]
theorem getD_app (gs : List SgR) (g : SgR) : (gs ++ [g]).getD gs.length sgZ = g := by
  rw [List.getD_eq_getElem?_getD, List.getElem?_append_right (Nat.le_refl _)]; simp
theorem getD_app_lt (gs : List SgR) (g : SgR) {k : Nat} (h : k < gs.length) : (gs ++ [g]).getD k sgZ = gs.getD k sgZ := by
  rw [List.getD_eq_getElem?_getD, List.getD_eq_getElem?_getD, List.getElem?_append_left h]
theorem v_at {gs hs : List SgR} (h : gs.map SgR.v = hs.map SgR.v) (k : Nat) : (gs.getD k sgZ).v = (hs.getD k sgZ).v := by
  have e : (gs.map SgR.v)[k]? = (hs.map SgR.v)[k]? := by rw [h]
  rw [List.getElem?_map, List.getElem?_map] at e
  rw [List.getD_eq_getElem?_getD, List.getD_eq_getElem?_getD]
  cases h1 : gs[k]? <;> cases h2 : hs[k]? <;> rw [h1, h2] at e <;> simp at e
  · exact e
theorem v_len {gs hs : List SgR} (h : gs.map SgR.v = hs.map SgR.v) : gs.length = hs.length := by
  have := congrArg List.length h
  simpa using this
/-- A list of segments that is read. -/
structure Sgs (w : World) (B : Nat) (A : Option Addr) (gs : List SgR) : Prop where
  row : Row w B A (gs.length * 4) (sgAt gs)
  chs : ∀ k, k < gs.length → Chs w B (gs.getD k sgZ).A (gs.getD k sgZ).cs
theorem Sgs.below {w w' : World} {B B' : Nat} {A : Option Addr} {gs : List SgR} (h : Sgs w B A gs) (hb : Below B' w w') (hB : B ≤ B') : Sgs w' B A gs := ⟨h.row.below hb hB, fun k hk => (h.chs k hk).below hb hB⟩
theorem Row.at4 {w : World} {B k : Nat} {A : Option Addr} {gs : List SgR} (h : Row w B A (gs.length * 4) (sgAt gs)) (hk : k < gs.length) :
    ∃ b off, A = some ⟨b, off, none⟩ ∧ b < B ∧ w.cell? ⟨b, off + k * 4, none⟩ = some (.int .i64 (gs.getD k sgZ).f) ∧ w.cell? ⟨b, off + k * 4 + 1, none⟩ = some (.int .i64 (gs.getD k sgZ).t) ∧ w.cell? ⟨b, off + k * 4 + 2, none⟩ = some (.int .i64 (gs.getD k sgZ).m)
      ∧ w.cell? ⟨b, off + k * 4 + 3, none⟩ = some (.slice (gs.getD k sgZ).A (gs.getD k sgZ).cs.length (gs.getD k sgZ).c) := by
  obtain ⟨b, off, e, hb, hc⟩ := h (by omega)
  have h0 := hc (k * 4) (by omega)
  have h1 := hc (k * 4 + 1) (by omega)
  have h2 := hc (k * 4 + 2) (by omega)
  have h3 := hc (k * 4 + 3) (by omega)
  rw [sgAt0] at h0
  rw [sgAt1] at h1
  rw [sgAt2] at h2
  rw [sgAt3] at h3
  exact ⟨b, off, e, hb, h0, h1, h2, h3⟩
/-- A list of segments in blocks of the call's own. -/
structure SgO (w : World) (lo : Nat) (A : Option Addr) (gs : List SgR) : Prop where
  row : Sl w lo A 54 (gs.length * 4) (sgAt gs)
  chs : ∀ k, k < gs.length → Sl w lo (gs.getD k sgZ).A 84 ((gs.getD k sgZ).cs.length * 3) (chAt (gs.getD k sgZ).cs)
theorem SgO.nx {w w' : World} {lo : Nat} {A : Option Addr} {gs : List SgR} (h : SgO w lo A gs) (hb : Nx w w') : SgO w' lo A gs := ⟨h.row.nx hb, fun k hk => (h.chs k hk).nx hb⟩
theorem SgO.low {w : World} {lo lo' : Nat} {A : Option Addr} {gs : List SgR} (h : SgO w lo A gs) (hl : lo' ≤ lo) : SgO w lo' A gs := ⟨h.row.low hl, fun k hk => (h.chs k hk).low hl⟩
theorem SgO.sgs {w : World} {lo : Nat} {A : Option Addr} {gs : List SgR} (h : SgO w lo A gs) : Sgs w w.heap.size A gs := ⟨h.row.row, fun k hk => (h.chs k hk).row⟩
/-- How many changes the first k have. -/
def ssum (gs : List SgR) (k : Nat) : Nat := ((gs.take k).map fun g => g.cs.length).sum
theorem ssum_zero (gs : List SgR) : ssum gs 0 = 0 := rfl
theorem ssum_succ {gs : List SgR} {k : Nat} (hk : k < gs.length) : ssum gs (k + 1) = ssum gs k + (gs.getD k sgZ).cs.length := by
  unfold ssum
  rw [List.take_succ_eq_append_getElem hk, List.map_append, List.sum_append, List.getD_eq_getElem?_getD, List.getElem?_eq_getElem hk]
  simp
theorem ssum_le {gs : List SgR} {j k : Nat} (h : j ≤ k) (hk : k ≤ gs.length) : ssum gs j ≤ ssum gs k := by
  induction k with
  | zero => rw [show j = 0 by omega]; exact Nat.le_refl _
  | succ k ih =>
    by_cases e : j = k + 1
    · rw [e]; exact Nat.le_refl _
    · have := ih (by omega) (by omega)
      rw [ssum_succ (by omega)]; omega
theorem ssum_one {gs : List SgR} {k : Nat} (hk : k < gs.length) : (gs.getD k sgZ).cs.length ≤ ssum gs gs.length := by
  have h1 := ssum_succ hk
  have h2 := ssum_le (gs := gs) (j := k + 1) (k := gs.length) (by omega) (Nat.le_refl _)
  omega

set_option maxHeartbeats 1000000 in
theorem szSegS_c (A : Option Addr) (c B : Nat) (gs : List SgR) (left : Int) (w : World) (h : Row w B A (gs.length * 4) (sgAt gs)) (hB : B ≤ w.heap.size) (hn : gs.length ≤ 2 ^ 63 - 1) (hm : ∀ k, k < gs.length → (gs.getD k sgZ).cs.length ≤ 2 ^ 63 - 1) (h0 : 0 ≤ left) (h1 : left ≤ 1048576) :
    Calls Try.prog 61 #[.slice A gs.length c, .int .i64 left] w fun e w' => e = .returned (.int .i64 (szR left ((gs.length : Int) + (ssum gs gs.length : Int)))) ∧ Nx w w' := by
  by_cases hle : (gs.length : Int) ≤ left
  case neg =>
    have HF := Lib.hid (szR_no (left := left) (cost := (gs.length : Int) + (ssum gs gs.length : Int)) (by omega))
    have hd : decide (left - (gs.length : Int) < 0) = true := by simp; omega
    go_enter Try.func61, Try.ntmps61
    go_wp2
    go_ret
    exact ⟨ret_int HF.out, Nx.refl _⟩
  have hd : decide (left - (gs.length : Int) < 0) = false := by simp; omega
  obtain ⟨n, Hn⟩ : ∃ n, Hid (gs.length = n) := ⟨_, rfl⟩
  have hm' : ∀ k, k < n → (gs.getD k sgZ).cs.length ≤ 2 ^ 63 - 1 := by rw [← Hn.out]; exact hm
  have h' : ∀ k, k < n → _ := fun k hk => h.at4 (k := k) (by rw [Hn.out]; exact hk)
  have hsu : ∀ k, k < n → _ := fun k hk => ssum_succ (gs := gs) (k := k) (by rw [Hn.out]; exact hk)
  have hso : ∀ k, k ≤ n → ssum gs k ≤ ssum gs n := fun k hk => ssum_le hk (by rw [Hn.out]; exact Nat.le_refl _)
  rw [Hn.out] at hle hd hn ⊢
  clear hm h
  go_enter Try.func61, Try.ntmps61
  go_wp2
  go_loopw [1, 5] (fun l i wr => ∃ k : Nat, k ≤ n ∧ i = .int .i64 k ∧ (n : Int) + (ssum gs k : Int) ≤ left ∧ l = .int .i64 (left - ((n : Int) + (ssum gs k : Int))) ∧ Nx w wr) (fun _ i _ => n - (intOf i).toNat)
  case atStart => exact ⟨0, Nat.zero_le _, rfl, by rw [ssum_zero]; omega, by rw [ssum_zero]; go_num, Nx.refl _⟩
  case round =>
    obtain ⟨k, hk, rfl, hle2, rfl, hnx⟩ := hrel
    by_cases hlt : k < n
    · obtain ⟨b, off, rfl, hb, c0, c1, c2, c3⟩ := h' k hlt
      have hmk := hm' k hlt
      have Hsu := Lib.hid (hsu k hlt)
      have Hso := Lib.hid (hso (k + 1) hlt)
      replace c0 := (hnx.cell (p := ⟨b, off + k * 4, none⟩) (by simp; omega)).trans c0
      replace c1 := (hnx.cell (p := ⟨b, off + k * 4 + 1, none⟩) (by simp; omega)).trans c1
      replace c2 := (hnx.cell (p := ⟨b, off + k * 4 + 2, none⟩) (by simp; omega)).trans c2
      replace c3 := (hnx.cell (p := ⟨b, off + k * 4 + 3, none⟩) (by simp; omega)).trans c3
      clear h' hm' hsu hso
      generalize gs.getD k sgZ = s at *
      obtain ⟨f, t, m, A2, cc, cs⟩ := s
      simp only at c0 c1 c2 c3 hmk Hsu
      obtain ⟨q, Hq⟩ : ∃ q : Int, Hid (left - ((n : Int) + (ssum gs k : Int)) = q) := ⟨_, rfl⟩
      have hq0 : 0 ≤ q := by have := Hq.out; omega
      have hq1 : q ≤ 1048576 := by have := Hq.out; omega
      rw [Hq.out]
      go_wp2_with fail
      refine (szSeg_c f t m A2 cs.length cc q _ hmk hq0 hq1).mono ?_
      rintro e w1 ⟨rfl, hx1⟩
      by_cases hg : (cs.length : Int) ≤ q
      · rw [← szR_yes hg]
        have hd2 : decide (q - (cs.length : Int) < 0) = false := by simp; omega
        go_wp2
        go_roundw
        case rel => exact ⟨k + 1, by omega, by go_num, by have := Hsu.out; have := Hq.out; omega, by have h5 := Hsu.out; have := Hq.out; rw [show left - ((n : Int) + (ssum gs (k + 1) : Int)) = q - (cs.length : Int) by omega], hnx.trans hx1⟩
        case measure => simp [intOf]; omega
      · rw [← szR_no (by omega)]
        go_wp2
        go_ret
        exact ⟨ret_int (szR_no (by have := Hsu.out; have := Hso.out; have := Hq.out; omega)), hnx.trans hx1⟩
    · obtain rfl : k = n := by omega
      go_wp2
      go_ret
      exact ⟨ret_int (szR_yes hle2), hnx⟩
end Go.Proofs.Ytihpadelfpogmaa
