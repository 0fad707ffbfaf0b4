/-
  Texts of the proof, put together in their order: Rwi, Cnd, Cne, Atp, Mgv, Sgl, Sgm, Chn, Chi, Chs, Chv, Mks, Sup.
  Conditions: those of each.
-/
import Derived.Test.YtehahodomfbpjaaGreatDoorMl1
import Derived.StillTailTactics
import Derived.Deep.Strs
import Derived.IntWalk
/- Rows of ints of the call's own that grow by one. Conditions: at most 1048576 elements. -/
namespace Go.Proofs.YtehahodomfbpjaaGreatDoor
set_option linter.unusedVariables false
set_option maxRecDepth 100000
open Go.RowKit

def iV (xs : List Int) : List Value := xs.map fun x => .int .i64 x
theorem iV_get (xs : List Int) (i : Nat) (h : i < xs.length) : (iV xs)[i]? = some (inAt xs i) := by
  unfold iV inAt
  rw [List.getElem?_map, List.getElem?_eq_getElem h, List.getD_eq_getElem?_getD, List.getElem?_eq_getElem h]; rfl
/-- A row of ints of the call's own, from block B on. -/
def RowI (w : World) (B : Nat) (v : Value) (xs : List Int) : Prop := w.ownsRow B 3 1 v xs.length (iV xs)
theorem RowI.new (w : World) {B : Nat} (hB : B ≤ w.heap.size) : RowI (w.alloc (.cells #[] 3)) B (.slice (some ⟨w.heap.size, 0, none⟩) 0 0) [] :=
  ⟨rfl, .inr ⟨_, 0, #[], rfl, hB, heap_alloc_new w _, by simp, by unfold maxLen; omega, rfl, rfl⟩⟩
theorem RowI.sl {w : World} {B : Nat} {v : Value} {xs : List Int} (h : RowI w B v xs) : ∃ A c, v = .slice A xs.length c ∧ Sl w B A 3 xs.length (inAt xs) := by
  rcases h.2 with ⟨rfl, h0⟩ | ⟨g, cap, cur, rfl, hb, hg, hnc, _, hcs, htk⟩
  · exact ⟨none, 0, by rw [h0], fun hn => by omega⟩
  · refine ⟨_, cap, rfl, Sl.own ⟨cur, hg, by omega, fun i hi => ?_⟩ hb⟩
    have h1 : (cur.toList.take (xs.length * 1))[i]? = some (inAt xs i) := by rw [htk]; exact iV_get xs i hi
    rw [List.getElem?_take_of_lt (by omega)] at h1
    simpa using h1
theorem RowI.nx {w w' : World} {B : Nat} {v : Value} {xs : List Int} (h : RowI w B v xs) (hb : Nx w w') : RowI w' B v xs := by
  refine World.ownsRow.kept (row := none) h ⟨hb.os, hb.tape, hb.output, hb.size, fun i hi _ => hb.block i hi⟩ ?_
  cases hv : v.ownBlock with
  | none => exact .inl rfl
  | some g => exact .inr (by simp)
theorem RowI.rg {w w' : World} {B lo hi : Nat} {v : Value} {xs : List Int} (h : RowI w B v xs) (hr : Rg lo hi w w') (hh : hi ≤ B) : RowI w' B v xs := by
  rcases h.2 with ⟨rfl, h0⟩ | ⟨g, cap, cur, rfl, hb, hg, r⟩
  · exact ⟨h.1, .inl ⟨rfl, h0⟩⟩
  · have hlt := (World.ownsRow.lt h g rfl).2
    exact ⟨h.1, .inr ⟨g, cap, cur, rfl, hb, (hr.block g hlt (.inr (by omega))).trans hg, r⟩⟩
theorem RowI.ne {w : World} {B g : Nat} {v : Value} {xs : List Int} {t : TypeId} {ys : Array Value} (h : RowI w B v xs) (hb : Box w g t ys) (ht : t ≠ 3) : some g ≠ v.ownBlock := by
  intro he
  rcases h.2 with ⟨rfl, _⟩ | ⟨g', cap, cur, rfl, _, hg, _⟩
  · simp [Value.ownBlock] at he
  · obtain rfl : g = g' := by simpa [Value.ownBlock] using he
    unfold Box at hb
    rw [hg] at hb
    injection hb with hb
    injection hb with _ hb
    exact ht hb.symm
/-- What an append leaves as it is: blocks below B, and known blocks of another type. -/
structure GrewT (t : TypeId) (B : Nat) (w w' : World) : Prop where
  nx : ∀ a, Nx a w → a.heap.size ≤ B → Nx a w'
  rg : ∀ lo hi a, Rg lo hi a w → a.heap.size ≤ B → Rg lo hi a w'
  box : ∀ g t' xs, t' ≠ t → Box w g t' xs → Box w' g t' xs
  size : w.heap.size ≤ w'.heap.size
set_option maxHeartbeats 1000000 in
/-- append of one int at the operation, for the walk. -/
theorem wpList_addI {w : World} {ops : Array Oper} {rest : List Oper} {o : Oper} {a : Act} {Q : Exit → Act → World → Prop}
    (hgd : o.guard = none) (s x : Operand) (ho : o.op = .call { callee := .builtin .append, args := #[s, x], argTypes := #[27, 27] })
    (B gd : Nat) (v : Value) (xs : List Int) (x0 : Int) (hs : a.eval s = v) (hx : a.eval x = .slice (some ⟨gd, 0, none⟩) 1 1) (hown : RowI w B v xs) (hbx : Box w gd 3 #[.int .i64 x0])
    (hl : xs.length ≤ 1048576) (hB : B ≤ w.heap.size)
    (hK : ∀ A' k' w', RowI w' B (.slice A' (xs.length + 1) k') (xs ++ [x0]) → GrewT 3 B w w' → wpList Tryz.prog ops Q rest (a.put o.dst (.slice A' (xs.length + 1) k')) w') :
    wpList Tryz.prog ops Q (o :: rest) a w := by
  obtain ⟨i0, hi0, hz0, hz1, hz2⟩ := info_parts info_int
  refine wpList_append_own w hgd s x 27 ho B 3 i0 _ 1 8 Tryz.underlying27 hi0 hz0 hz1 hz2 rfl (by omega) v xs.length _ hs hown ⟨gd, 0, none⟩ 1 1 [.int .i64 x0] hx rfl (fun j u hj => ?_) (fun u hu => by simp only [List.mem_cons, List.not_mem_nil, or_false] at hu; rcases hu with rfl; rfl) (by unfold maxLen; omega) (by omega) hB ?_
  · rw [addr_add', Nat.zero_add, hbx.cell j]
    rw [← hj]
    rcases j with _ | j <;> simp
  · intro v' w' hw' hg' _
    have hr : RowI w' B v' (xs ++ [x0]) := by
      unfold RowI iV
      rw [List.map_append, List.length_append]
      exact hw'
    obtain ⟨A', k', rfl, _⟩ := hr.sl
    rw [List.length_append] at hr ⊢
    have hrow : ∀ k, Value.ownBlock v = some k → B ≤ k := fun k hk => (World.ownsRow.lt hown k hk).1
    refine hK A' k' w' hr ⟨fun b hb hbB => Below.grown hb hg' hb.size (fun k hk => Nat.le_trans hbB (hrow k hk)), fun lo hi b hb hbB => ?_, fun g t xs' ht hbg => hbg.grown hg' (hown.ne hbg ht), hg'.size⟩
    refine ⟨hg'.os.trans hb.os, hg'.tape.trans hb.tape, hg'.output.trans hb.output, Nat.le_trans hb.size hg'.size, fun k hk hr => (hg'.block k (Nat.lt_of_lt_of_le hk hb.size) fun e => ?_).trans (hb.block k hk hr)⟩
    have := hrow k e.symm
    omega
theorem RowI.nil (w : World) (B : Nat) : RowI w B (.slice none 0 0) [] := ⟨rfl, .inl ⟨rfl, rfl⟩⟩
theorem RowI.slc {w : World} {B : Nat} {v : Value} {xs : List Int} (h : RowI w B v xs) : ∃ A c, v = .slice A xs.length c ∧ xs.length ≤ c ∧ Sl w B A 3 xs.length (inAt xs) := by
  rcases h.2 with ⟨rfl, h0⟩ | ⟨g, cap, cur, rfl, hb, hg, hnc, _, hcs, htk⟩
  · exact ⟨none, 0, by rw [h0], by omega, fun hn => by omega⟩
  · refine ⟨_, cap, rfl, by omega, Sl.own ⟨cur, hg, by omega, fun i hi => ?_⟩ hb⟩
    have h1 : (cur.toList.take (xs.length * 1))[i]? = some (inAt xs i) := by rw [htk]; exact iV_get xs i hi
    rw [List.getElem?_take_of_lt (by omega)] at h1
    simpa using h1
end Go.Proofs.YtehahodomfbpjaaGreatDoor
/- Rows of ints of the call's own that grow by one; drawn contents. Conditions: the code can be read, and holds at most 1048576 bytes. -/
namespace Go.Proofs.YtehahodomfbpjaaGreatDoor
set_option linter.unusedVariables false
set_option maxRecDepth 100000
open Go.RowKit

end Go.Proofs.YtehahodomfbpjaaGreatDoor
/- Drawn contents: eight values below 90. Conditions: the code can be read, and holds at most 1048576 bytes. -/
namespace Go.Proofs.YtehahodomfbpjaaGreatDoor
set_option linter.unusedVariables false
set_option maxRecDepth 100000
open Go.RowKit

def Sm (xs : List Int) : Prop := ∀ x ∈ xs, 0 ≤ x ∧ x < 90
theorem Sm.add {xs : List Int} (h : Sm xs) {v : Nat} (hv : v < 90) : Sm (xs ++ [(v : Int)]) := fun x hx => by
  rcases List.mem_append.1 hx with hx | hx
  · exact h x hx
  · simp only [List.mem_singleton] at hx
    subst hx
    omega
theorem Sm.cont {xs : List Int} (h : Sm xs) (hl : xs.length = 8) : contB xs = true := by
  unfold contB
  rw [decide_eq_true hl, List.all_eq_true.2 fun x hx => by have := h x hx; unfold inB; simp; omega]; rfl
theorem SrcR.rgO {w w' : World} {B : Nat} {g n c k : Nat} {A : Option Addr} (h : SrcR w g A n c k) (hb : GrewT 3 B w w') : SrcR w' g A n c k := by
  obtain ⟨a, sd, h1, h2, h3⟩ := h
  unfold Src at h3
  exact ⟨a, sd, h1, h2, hb.box _ _ _ (by decide) h3⟩
end Go.Proofs.YtehahodomfbpjaaGreatDoor
/- Contracts of the laws' functions sameSeg, at, sameInts, and of the model's ContentDrawn. Conditions: what is read can be read, and has at most 1048576 elements. -/
namespace Go.Proofs.YtehahodomfbpjaaGreatDoor
set_option linter.unusedVariables false
set_option maxRecDepth 100000
open Go.RowKit

end Go.Proofs.YtehahodomfbpjaaGreatDoor
/- What SegOf, Forward, Backward and MergeSegs answer of what is right; two writes put together. Conditions: those of each theorem. -/
namespace Go.Proofs.YtehahodomfbpjaaGreatDoor
set_option linter.unusedVariables false
set_option maxRecDepth 100000
open Go.RowKit

theorem getD_set_self {xs : List Int} {b : Nat} (h : b < xs.length) (v : Int) : (xs.set b v).getD b 0 = v := by
  rw [List.getD_eq_getElem?_getD, List.getElem?_set]; simp [h]
theorem getD_set_ne {xs : List Int} {b b2 : Nat} (h : b ≠ b2) (v : Int) : (xs.set b v).getD b2 0 = xs.getD b2 0 := by
  rw [List.getD_eq_getElem?_getD, List.getD_eq_getElem?_getD, List.getElem?_set_ne h]
end Go.Proofs.YtehahodomfbpjaaGreatDoor
/- Words on lists of segments in memory; contracts of the laws' functions that count, copy and compare such lists; a list that comes in, opened. Conditions: what is read can be read; copied or compared: at most 1048576 of each. -/
namespace Go.Proofs.YtehahodomfbpjaaGreatDoor
set_option linter.unusedVariables false
set_option maxRecDepth 100000
open Go.Joins Go.ChangeShapes Go.WideShapes Go.RowKit Go.Deep

/-- A segment in memory: from, to, time, where its changes lie, their capacity, the changes. -/
structure SgR where
  f : Int
  t : Int
  m : Int
  A : Option Addr
  c : Nat
  cs : List Chg
def sgZ : SgR := ⟨0, 0, 0, none, 0, []⟩
def SgR.v (g : SgR) : Sg4 := (g.f, g.t, g.m, g.cs)
def sgAt (gs : List SgR) (i : Nat) : Value :=
  if i % 4 = 0 then .int .i64 (gs.getD (i / 4) sgZ).f else if i % 4 = 1 then .int .i64 (gs.getD (i / 4) sgZ).t else if i % 4 = 2 then .int .i64 (gs.getD (i / 4) sgZ).m else .slice (gs.getD (i / 4) sgZ).A (gs.getD (i / 4) sgZ).cs.length (gs.getD (i / 4) sgZ).c
theorem sgAt0 (gs : List SgR) (k : Nat) : sgAt gs (k * 4) = .int .i64 (gs.getD k sgZ).f := by
  unfold sgAt; rw [if_pos (by omega), show k * 4 / 4 = k by omega]
theorem sgAt1 (gs : List SgR) (k : Nat) : sgAt gs (k * 4 + 1) = .int .i64 (gs.getD k sgZ).t := by
  unfold sgAt; rw [if_neg (by omega), if_pos (by omega), show (k * 4 + 1) / 4 = k by omega]
theorem sgAt2 (gs : List SgR) (k : Nat) : sgAt gs (k * 4 + 2) = .int .i64 (gs.getD k sgZ).m := by
  unfold sgAt; rw [if_neg (by omega), if_neg (by omega), if_pos (by omega), show (k * 4 + 2) / 4 = k by omega]
theorem sgAt3 (gs : List SgR) (k : Nat) : sgAt gs (k * 4 + 3) = .slice (gs.getD k sgZ).A (gs.getD k sgZ).cs.length (gs.getD k sgZ).c := by
  unfold sgAt; rw [if_neg (by omega), if_neg (by omega), if_neg (by omega), show (k * 4 + 3) / 4 = k by omega]
theorem sgAt_app (gs hs : List SgR) (i : Nat) (h : i < gs.length * 4) : sgAt (gs ++ hs) i = sgAt gs i := by
  have e : (gs ++ hs).getD (i / 4) sgZ = gs.getD (i / 4) sgZ := by
    rw [List.getD_eq_getElem?_getD, List.getD_eq_getElem?_getD, List.getElem?_append_left (by omega)]
  unfold sgAt; rw [e]
theorem getD_app (gs : List SgR) (g : SgR) : (gs ++ [g]).getD gs.length sgZ = g := by
  rw [List.getD_eq_getElem?_getD, List.getElem?_append_right (Nat.le_refl _)]; simp
theorem getD_app_lt (gs : List SgR) (g : SgR) {k : Nat} (h : k < gs.length) : (gs ++ [g]).getD k sgZ = gs.getD k sgZ := by
  rw [List.getD_eq_getElem?_getD, List.getD_eq_getElem?_getD, List.getElem?_append_left h]
theorem v_at {gs hs : List SgR} (h : gs.map SgR.v = hs.map SgR.v) (k : Nat) : (gs.getD k sgZ).v = (hs.getD k sgZ).v := by
  have e : (gs.map SgR.v)[k]? = (hs.map SgR.v)[k]? := by rw [h]
  rw [List.getElem?_map, List.getElem?_map] at e
  rw [List.getD_eq_getElem?_getD, List.getD_eq_getElem?_getD]
  cases h1 : gs[k]? <;> cases h2 : hs[k]? <;> rw [h1, h2] at e <;> simp at e
  · exact e
theorem v_len {gs hs : List SgR} (h : gs.map SgR.v = hs.map SgR.v) : gs.length = hs.length := by
  have := congrArg List.length h
  simpa using this
/-- A list of segments that is read. -/
structure Sgs (w : World) (B : Nat) (A : Option Addr) (gs : List SgR) : Prop where
  row : Row w B A (gs.length * 4) (sgAt gs)
  chs : ∀ k, k < gs.length → Chs w B (gs.getD k sgZ).A (gs.getD k sgZ).cs
theorem Sgs.below {w w' : World} {B B' : Nat} {A : Option Addr} {gs : List SgR} (h : Sgs w B A gs) (hb : Below B' w w') (hB : B ≤ B') : Sgs w' B A gs := ⟨h.row.below hb hB, fun k hk => (h.chs k hk).below hb hB⟩
theorem Row.at4 {w : World} {B k : Nat} {A : Option Addr} {gs : List SgR} (h : Row w B A (gs.length * 4) (sgAt gs)) (hk : k < gs.length) :
    ∃ b off, A = some ⟨b, off, none⟩ ∧ b < B ∧ w.cell? ⟨b, off + k * 4, none⟩ = some (.int .i64 (gs.getD k sgZ).f) ∧ w.cell? ⟨b, off + k * 4 + 1, none⟩ = some (.int .i64 (gs.getD k sgZ).t) ∧ w.cell? ⟨b, off + k * 4 + 2, none⟩ = some (.int .i64 (gs.getD k sgZ).m)
      ∧ w.cell? ⟨b, off + k * 4 + 3, none⟩ = some (.slice (gs.getD k sgZ).A (gs.getD k sgZ).cs.length (gs.getD k sgZ).c) := by
  obtain ⟨b, off, e, hb, hc⟩ := h (by omega)
  have h0 := hc (k * 4) (by omega)
  have h1 := hc (k * 4 + 1) (by omega)
  have h2 := hc (k * 4 + 2) (by omega)
  have h3 := hc (k * 4 + 3) (by omega)
  rw [sgAt0] at h0
  rw [sgAt1] at h1
  rw [sgAt2] at h2
  rw [sgAt3] at h3
  exact ⟨b, off, e, hb, h0, h1, h2, h3⟩
/-- A list of segments in blocks of the call's own. -/
structure SgO (w : World) (lo : Nat) (A : Option Addr) (gs : List SgR) : Prop where
  row : Sl w lo A 130 (gs.length * 4) (sgAt gs)
  chs : ∀ k, k < gs.length → Sl w lo (gs.getD k sgZ).A 202 ((gs.getD k sgZ).cs.length * 3) (chAt (gs.getD k sgZ).cs)
theorem SgO.nx {w w' : World} {lo : Nat} {A : Option Addr} {gs : List SgR} (h : SgO w lo A gs) (hb : Nx w w') : SgO w' lo A gs := ⟨h.row.nx hb, fun k hk => (h.chs k hk).nx hb⟩
theorem SgO.low {w : World} {lo lo' : Nat} {A : Option Addr} {gs : List SgR} (h : SgO w lo A gs) (hl : lo' ≤ lo) : SgO w lo' A gs := ⟨h.row.low hl, fun k hk => (h.chs k hk).low hl⟩
theorem SgO.sgs {w : World} {lo : Nat} {A : Option Addr} {gs : List SgR} (h : SgO w lo A gs) : Sgs w w.heap.size A gs := ⟨h.row.row, fun k hk => (h.chs k hk).row⟩
/-- How many changes the first k have. -/
def ssum (gs : List SgR) (k : Nat) : Nat := ((gs.take k).map fun g => g.cs.length).sum
theorem ssum_zero (gs : List SgR) : ssum gs 0 = 0 := rfl
theorem ssum_succ {gs : List SgR} {k : Nat} (hk : k < gs.length) : ssum gs (k + 1) = ssum gs k + (gs.getD k sgZ).cs.length := by
  unfold ssum
  rw [List.take_succ_eq_append_getElem hk, List.map_append, List.sum_append, List.getD_eq_getElem?_getD, List.getElem?_eq_getElem hk]
  simp
theorem ssum_le {gs : List SgR} {j k : Nat} (h : j ≤ k) (hk : k ≤ gs.length) : ssum gs j ≤ ssum gs k := by
  induction k with
  | zero => rw [show j = 0 by omega]; exact Nat.le_refl _
  | succ k ih =>
    by_cases e : j = k + 1
    · rw [e]; exact Nat.le_refl _
    · have := ih (by omega) (by omega)
      rw [ssum_succ (by omega)]; omega
end Go.Proofs.YtehahodomfbpjaaGreatDoor
/- Contracts of the laws' functions that copy and compare lists of segments; a list of segments that comes in, opened. Conditions: what is read can be read; copied or compared: at most 1048576 of each. -/
namespace Go.Proofs.YtehahodomfbpjaaGreatDoor
set_option linter.unusedVariables false
set_option maxRecDepth 100000
open Go.Joins Go.ChangeShapes Go.WideShapes Go.RowKit Go.Deep

theorem info_sg : (Tryz.prog.info? 130).map (fun i => (i.zero, i.size, i.bytes)) = some (some (.agg #[.int .i64 0, .int .i64 0, .int .i64 0, .slice none 0 0]), 4, 48) := by kernel_rfl
theorem Fill.congr {w : World} {g : Nat} {t : TypeId} {m k : Nat} {F F' : Nat → Value} (h : Fill w g t m k F) (hf : ∀ i, i < k → F i = F' i) : Fill w g t m k F' := by
  obtain ⟨f, h, hF⟩ := h
  exact ⟨f, h, fun i hi => (hF i hi).trans (hf i hi)⟩
set_option maxRecDepth 100000 in
set_option maxHeartbeats 2000000 in
theorem eqSegS_c (A A2 : Option Addr) (c c2 B : Nat) (gs hs : List SgR) (w : World) (h : Sgs w B A gs) (h2 : Sgs w B A2 hs) (hv : gs.map SgR.v = hs.map SgR.v) (hB : B ≤ w.heap.size) (hn : gs.length ≤ 1048576) (hm : ∀ k, k < gs.length → (gs.getD k sgZ).cs.length ≤ 1048576) :
    Calls Tryz.prog 61 #[.slice A gs.length c, .slice A2 hs.length c2] w fun e w' => e = .returned (.bool true) ∧ Nx w w' := by
  have hl := v_len hv
  obtain ⟨n, Hn⟩ : ∃ n, Hid (gs.length = n) := ⟨_, rfl⟩
  have hlh : hs.length = n := hl.symm.trans Hn.out
  have Hl := Lib.hid hlh
  rw [Hn.out] at hn ⊢
  rw [hlh]
  clear hl hlh
  go_enter Tryz.func61, Tryz.ntmps61
  go_wp2
  go_loopw [5] (fun i wr => ∃ k : Nat, k ≤ n ∧ i = .int .i64 k ∧ Nx w wr) (fun i _ => n - (intOf i).toNat)
  case atStart => exact ⟨0, Nat.zero_le _, rfl, Nx.refl _⟩
  case round =>
    obtain ⟨k, hk, rfl, hnx⟩ := hrel
    by_cases hlt : k < n
    · have hlk : k < gs.length := by rw [Hn.out]; exact hlt
      obtain ⟨b, off, rfl, hb, p0, p1, p2, p3⟩ := (h.below hnx hB).row.at4 hlk
      obtain ⟨b2, off2, rfl, hb2, q0, q1, q2, q3⟩ := (h2.below hnx hB).row.at4 (by rw [Hl.out]; exact hlt)
      have hc1 := (h.below hnx hB).chs k hlk
      have hc2 := (h2.below hnx hB).chs k (by rw [Hl.out]; exact hlt)
      have hmk := hm k hlk
      have hvk := v_at hv k
      generalize gs.getD k sgZ = s at p0 p1 p2 p3 hc1 hmk hvk
      generalize hs.getD k sgZ = s2 at q0 q1 q2 q3 hc2 hvk
      obtain ⟨f, t, m, A3, c3, cs⟩ := s
      obtain ⟨f2, t2, m2, A4, c4, cs2⟩ := s2
      unfold SgR.v at hvk
      simp only [Prod.mk.injEq] at hvk
      obtain ⟨rfl, rfl, rfl, rfl⟩ := hvk
      simp only at p0 p1 p2 p3 q0 q1 q2 q3 hc1 hc2 hmk
      go_wp2_with fail
      go_still_tail 8, (by kernel_rfl)
      change wpList _ _ _ _ _ wr.drew
      have hnx1 : Nx w wr.drew := Below.drew hnx
      have hd1 : Chs wr.drew B A3 cs := hc1
      have hd2 : Chs wr.drew B A4 cs := hc2
      have hsz : B ≤ wr.drew.heap.size := Nat.le_trans hB hnx.size
      generalize wr.drew = wd at *
      go_wp2_with fail
      refine (eqSeg_c f t m A3 A4 c3 c4 B cs _ hd1 hd2 hsz hmk).mono ?_
      rintro e w1 ⟨rfl, hnx2⟩
      go_wp2
      go_roundw
      case rel => exact ⟨k + 1, by omega, by go_num, hnx1.trans hnx2⟩
      case measure => simp [intOf]; omega
    · go_wp2
      go_ret
      exact ⟨rfl, hnx⟩
end Go.Proofs.YtehahodomfbpjaaGreatDoor
/- What a chain of segments is; contract of the program's goesOnFrom. Conditions: the changes can be read; their blocks are blocks. -/
namespace Go.Proofs.YtehahodomfbpjaaGreatDoor
set_option linter.unusedVariables false
set_option maxRecDepth 100000
open Go.RowKit

/-- Where the first k lead to; the time of the last of them; what they noted of each block. -/
def atK (base : Int) (gs : List SgR) : Nat → Int
  | 0 => base
  | k + 1 => (gs.getD k sgZ).t
def tmK (gs : List SgR) : Nat → Int
  | 0 => 0
  | k + 1 => (gs.getD k sgZ).m
def mpK (gs : List SgR) : Nat → Int → Option Chg
  | 0 => noM
  | k + 1 => noteM (mpK gs k) (gs.getD k sgZ).cs
/-- What was old is what was new ahead of it, where that is known. -/
def onC (M : Int → Option Chg) (c : Chg) : Bool := match M c.1 with
  | some a => decide (a.2.1 = c.2.2)
  | none => true
def onB (M : Int → Option Chg) (cs : List Chg) : Bool := cs.all (onC M)
def sgB (g : SgR) : Bool := segB g.f g.t g.m g.cs
def lnk (base : Int) (gs : List SgR) (k : Nat) : Bool := sgB (gs.getD k sgZ) && decide ((gs.getD k sgZ).f = atK base gs k) && decide (tmK gs k ≤ (gs.getD k sgZ).m) && onB (mpK gs k) (gs.getD k sgZ).cs
def chainB (base : Int) (gs : List SgR) : Bool := decide (gs.length ≤ 4096) && inB 0 999999 base && (List.range gs.length).all (lnk base gs)
def LnTo (base : Int) (gs : List SgR) (k : Nat) : Prop := ∀ j, j < k → lnk base gs j = true
theorem LnTo.zero (base : Int) (gs : List SgR) : LnTo base gs 0 := fun j h => absurd h (by omega)
theorem LnTo.succ {base : Int} {gs : List SgR} {k : Nat} (h : LnTo base gs k) (hk : lnk base gs k = true) : LnTo base gs (k + 1) := fun j hj => by
  rcases Nat.lt_or_ge j k with hlt | hge
  · exact h j hlt
  · obtain rfl : j = k := by omega
    exact hk
theorem LnTo.all {base : Int} {gs : List SgR} (h : LnTo base gs gs.length) (hl : gs.length ≤ 4096) (hb : inB 0 999999 base = true) : chainB base gs = true := by
  unfold chainB
  rw [decide_eq_true hl, hb, List.all_eq_true.2 fun j hj => h j (by simpa using hj)]; rfl
theorem chainB_no {base : Int} {gs : List SgR} {k : Nat} (hk : k < gs.length) (h : lnk base gs k = false) : chainB base gs = false := by
  unfold chainB
  rw [List.all_eq_false.2 ⟨k, by simpa using hk, by rw [h]; simp⟩]; simp
theorem chainB_long {base : Int} {gs : List SgR} (h : ¬ gs.length ≤ 4096) : chainB base gs = false := by
  unfold chainB; rw [decide_eq_false h]; rfl
theorem chainB_base {base : Int} {gs : List SgR} (h : inB 0 999999 base = false) : chainB base gs = false := by
  unfold chainB; rw [h]; simp
theorem lnk_parts {base : Int} {gs : List SgR} {k : Nat} {g : SgR} (hg : gs.getD k sgZ = g) : lnk base gs k = (segB g.f g.t g.m g.cs && decide (g.f = atK base gs k) && decide (tmK gs k ≤ g.m) && onB (mpK gs k) g.cs) := by
  unfold lnk sgB; rw [hg]
theorem onB_no {M : Int → Option Chg} {cs : List Chg} {k : Nat} (hk : k < cs.length) (h : onC M (cs.getD k chZ) = false) : onB M cs = false := by
  unfold onB
  rw [List.all_eq_false]
  rw [List.getD_eq_getElem?_getD, List.getElem?_eq_getElem hk] at h
  exact ⟨cs[k], List.getElem_mem _, by simp only [Option.getD_some] at h; rw [h]; simp⟩
def OnTo (M : Int → Option Chg) (cs : List Chg) (k : Nat) : Prop := ∀ j, j < k → onC M (cs.getD j chZ) = true
theorem OnTo.zero (M : Int → Option Chg) (cs : List Chg) : OnTo M cs 0 := fun j h => absurd h (by omega)
theorem OnTo.succ {M : Int → Option Chg} {cs : List Chg} {k : Nat} (h : OnTo M cs k) (hk : onC M (cs.getD k chZ) = true) : OnTo M cs (k + 1) := fun j hj => by
  rcases Nat.lt_or_ge j k with hlt | hge
  · exact h j hlt
  · obtain rfl : j = k := by omega
    exact hk
theorem OnTo.all {M : Int → Option Chg} {cs : List Chg} (h : OnTo M cs cs.length) : onB M cs = true := List.all_eq_true.2 fun x hx => by
  obtain ⟨j, hj, rfl⟩ := List.mem_iff_getElem.1 hx
  have := h j hj
  rwa [List.getD_eq_getElem?_getD, List.getElem?_eq_getElem hj] at this

set_option maxRecDepth 100000 in
set_option maxHeartbeats 2000000 in
theorem goesOnFrom_c (f t m : Int) (A : Option Addr) (c B b : Nat) (cs : List Chg) (M : Int → Option Chg) (w : World) (h : Chs w B A cs) (hm : MapC w b M) (hB : B ≤ w.heap.size) (hok : chsB cs = true) :
    Calls Tryz.prog 229 #[.agg #[.int .i64 f, .int .i64 t, .int .i64 m, .slice A cs.length c], .map (some b)] w fun e w' => e = .returned (.bool (onB M cs)) ∧ Nx w w' := by
  have hl8 := chsB_len hok
  have hto := chsB_to hok
  have hbw := hm.lt
  clear hok
  go_enter Tryz.func229, Tryz.ntmps229
  go_wp2_with fail
  have hr0 : Nx w (w.alloc (.cells #[.int .i64 f, .int .i64 t, .int .i64 m, .slice A cs.length c] 130)) := (Nx.refl w).alloc _
  generalize w.alloc (.cells #[.int .i64 f, .int .i64 t, .int .i64 m, .slice A cs.length c] 130) = W at *
  go_loopw [12] (fun i wr => ∃ k : Nat, k ≤ cs.length ∧ i = .int .i64 k ∧ OnTo M cs k ∧ Nx w wr) (fun i _ => cs.length - (intOf i).toNat)
  case atStart => exact ⟨0, Nat.zero_le _, rfl, OnTo.zero _ _, hr0⟩
  case round =>
    obtain ⟨k, hk, rfl, hon, hnx⟩ := hrel
    clear hr0
    by_cases hlt : k < cs.length
    · obtain ⟨b', off, rfl, hb, k0, k1, k2⟩ := (h.below hnx hB).at_ hlt
      obtain ⟨hr0, hr1⟩ := hto.rise k hlt
      have HN := Lib.hid (fun (hh : onC M (cs.getD k chZ) = false) => onB_no hlt hh)
      have HY := Lib.hid (fun (hh : onC M (cs.getD k chZ) = true) => hon.succ hh)
      obtain ⟨⟨q0, q1, q2⟩, Hq⟩ : ∃ q, Hid (cs.getD k chZ = q) := ⟨_, rfl⟩
      rw [Hq.out] at k0 k1 k2 hr0 hr1 HN HY
      have hwf := wf_small (q := q0) (by simp only at hr0; omega) hr1
      have hma := (hm.nx hnx).alloc (.cells #[.int .i64 q0, .int .i64 q1, .int .i64 q2] 202)
      have hlk := hma.look hwf
      clear hon
      cases hMk : M q0 with
      | none =>
        rw [hMk] at hlk
        have hlk' : (Instr.lookup 231 (.map (some b)) (.int .i64 q0) true).run Tryz.prog (wr.alloc (.cells #[.int .i64 q0, .int .i64 q1, .int .i64 q2] 202)) = .ok (.tuple #[.agg #[.int .i64 0, .int .i64 0, .int .i64 0], .bool false]) (wr.alloc (.cells #[.int .i64 q0, .int .i64 q1, .int .i64 q2] 202)) := hlk
        have HM := Lib.hid (HY.out (by unfold onC; rw [hMk]))
        clear hlk hMk HN HY
        go_wp2
        go_roundw
        case rel => exact ⟨k + 1, by omega, by go_num, HM.out, (hnx.alloc _).alloc _⟩
        case measure => simp [intOf]; omega
      | some p =>
        obtain ⟨p0, p1, p2⟩ := p
        rw [hMk] at hlk
        have hlk' : (Instr.lookup 231 (.map (some b)) (.int .i64 q0) true).run Tryz.prog (wr.alloc (.cells #[.int .i64 q0, .int .i64 q1, .int .i64 q2] 202)) = .ok (.tuple #[.agg #[.int .i64 p0, .int .i64 p1, .int .i64 p2], .bool true]) (wr.alloc (.cells #[.int .i64 q0, .int .i64 q1, .int .i64 q2] 202)) := hlk
        clear hlk
        by_cases hpq : p1 = q2
        · have hd : (p1 != q2) = false := by simp [hpq]
          have HM := Lib.hid (HY.out (by unfold onC; rw [hMk]; simp [hpq]))
          clear hMk HN HY hpq
          go_wp2
          go_roundw
          case rel => exact ⟨k + 1, by omega, by go_num, HM.out, (hnx.alloc _).alloc _⟩
          case measure => simp [intOf]; omega
        · have hd : (p1 != q2) = true := by simp [hpq]
          have HM := Lib.hid (HN.out (by unfold onC; rw [hMk]; simp [hpq]))
          clear hMk HN HY hpq
          go_wp2
          go_ret
          exact ⟨by rw [HM.out]; rfl, (hnx.alloc _).alloc _⟩
    · obtain rfl : k = cs.length := by omega
      have HM := Lib.hid hon.all
      go_wp2
      go_ret
      exact ⟨by rw [HM.out]; rfl, hnx⟩
end Go.Proofs.YtehahodomfbpjaaGreatDoor
/- Contract of ChainOK, as the program has it. Conditions: the segments can be read, and have at most 1048576 changes each. -/
namespace Go.Proofs.YtehahodomfbpjaaGreatDoor
set_option linter.unusedVariables false
set_option maxRecDepth 100000
open Go.RowKit

theorem lnk_bad {base : Int} {gs : List SgR} {k : Nat} {f t m : Int} {A : Option Addr} {c : Nat} {cs : List Chg} (hg : gs.getD k sgZ = ⟨f, t, m, A, c, cs⟩)
    (h : segB f t m cs = false ∨ ¬ f = atK base gs k ∨ ¬ tmK gs k ≤ m ∨ onB (mpK gs k) cs = false) : lnk base gs k = false := by
  rw [lnk_parts hg]
  rcases h with h | h | h | h
  · simp only; rw [h]; rfl
  · simp only; rw [decide_eq_false h]; simp
  · simp only; rw [decide_eq_false h]; simp
  · simp only; rw [h]; simp
theorem lnk_yes {base : Int} {gs : List SgR} {k : Nat} {f t m : Int} {A : Option Addr} {c : Nat} {cs : List Chg} (hg : gs.getD k sgZ = ⟨f, t, m, A, c, cs⟩)
    (h1 : segB f t m cs = true) (h2 : f = atK base gs k) (h3 : tmK gs k ≤ m) (h4 : onB (mpK gs k) cs = true) : lnk base gs k = true := by
  rw [lnk_parts hg]
  simp only
  rw [h1, decide_eq_true h2, decide_eq_true h3, h4]; rfl
set_option maxRecDepth 100000 in
set_option maxHeartbeats 4000000 in
theorem implChainOK_c (base : Int) (A : Option Addr) (c B : Nat) (gs : List SgR) (w : World) (h : Sgs w B A gs) (hB : B ≤ w.heap.size) (hn : gs.length ≤ 1048576) (hm : ∀ k, k < gs.length → (gs.getD k sgZ).cs.length ≤ 1048576) :
    Calls Tryz.prog 170 #[.int .i64 base, .slice A gs.length c] w fun e w' => e = .returned (.bool (chainB base gs)) ∧ Nx w w' := by
  obtain ⟨n, Hn⟩ : ∃ n, Hid (gs.length = n) := ⟨_, rfl⟩
  rw [Hn.out] at hn ⊢
  by_cases hl : n ≤ 4096
  case neg =>
    have HR := Lib.hid (chainB_long (base := base) (gs := gs) (by rw [Hn.out]; exact hl))
    have hd : decide (4096 < (n : Int)) = true := by simp; omega
    go_enter Tryz.func170, Tryz.ntmps170
    go_wp2
    go_ret
    exact ⟨by rw [HR.out]; rfl, Nx.refl _⟩
  have hd : decide (4096 < (n : Int)) = false := by simp; omega
  cases hb : inB 0 999999 base
  · have HR := Lib.hid (chainB_base (base := base) (gs := gs) hb)
    have HB := Lib.hid hb
    clear hb
    go_enter Tryz.func170, Tryz.ntmps170
    go_wp2_with fail
    refine (isPosition_c base _).mono ?_
    rintro e w1 ⟨rfl, rfl⟩
    rw [HB.out]
    go_wp2
    go_ret
    exact ⟨by rw [HR.out]; rfl, Nx.refl _⟩
  have HB := Lib.hid hb
  clear hb
  have hmm := @run_makeMap Tryz.prog
  have hmap := MapC.made w
  have hx0 := (Nx.refl w).alloc (.map #[] 0)
  go_enter Tryz.func170, Tryz.ntmps170
  go_wp2_with fail
  refine (isPosition_c base _).mono ?_
  rintro e w1 ⟨rfl, rfl⟩
  rw [HB.out]
  go_wp2_with fail
  clear hmm
  generalize w.alloc (.map #[] 0) = W at *
  go_loopw [5, 6, 22] (fun a0 t0 i wr => ∃ k : Nat, k ≤ n ∧ i = .int .i64 k ∧ a0 = .int .i64 (atK base gs k) ∧ t0 = .int .i64 (tmK gs k) ∧ MapC wr w.heap.size (mpK gs k) ∧ LnTo base gs k ∧ Nx w wr) (fun _ _ i _ => n - (intOf i).toNat)
  case atStart => exact ⟨0, Nat.zero_le _, rfl, rfl, rfl, hmap, LnTo.zero _ _, hx0⟩
  case round =>
    obtain ⟨k, hk, rfl, rfl, rfl, hmk, hln, hnx⟩ := hrel
    clear hmap hx0
    by_cases hlt : k < n
    · have hlk : k < gs.length := by rw [Hn.out]; exact hlt
      obtain ⟨b, off, rfl, hb, p0, p1, p2, p3⟩ := (h.below hnx hB).row.at4 hlk
      have hch := (h.below hnx hB).chs k hlk
      have hmk' := hm k hlk
      have HNo := Lib.hid (fun (hh : lnk base gs k = false) => chainB_no hlk hh)
      have HYes := Lib.hid (fun (hh : lnk base gs k = true) => hln.succ hh)
      have HA := Lib.hid (show atK base gs (k + 1) = (gs.getD k sgZ).t from rfl)
      have HT := Lib.hid (show tmK gs (k + 1) = (gs.getD k sgZ).m from rfl)
      have HM := Lib.hid (show mpK gs (k + 1) = noteM (mpK gs k) (gs.getD k sgZ).cs from rfl)
      clear hln
      obtain ⟨⟨f, t, m, A2, cc, cs⟩, Hs⟩ : ∃ s, Hid (gs.getD k sgZ = s) := ⟨_, rfl⟩
      rw [Hs.out] at p0 p1 p2 p3 hch hmk' HA HT HM
      simp only at p0 p1 p2 p3 hch hmk'
      have bG := Box.new wr 130 #[.int .i64 f, .int .i64 t, .int .i64 m, .slice A2 cs.length cc]
      have hxa := (Nx.refl wr).alloc (.cells #[.int .i64 f, .int .i64 t, .int .i64 m, .slice A2 cs.length cc] 130)
      have hmka := hmk.nx hxa
      have hltm := hmk.lt
      obtain ⟨a0, Ha⟩ : ∃ q, Hid (atK base gs k = q) := ⟨_, rfl⟩
      obtain ⟨t0, Ht⟩ : ∃ q, Hid (tmK gs k = q) := ⟨_, rfl⟩
      obtain ⟨M, HMk⟩ : ∃ q, Hid (mpK gs k = q) := ⟨_, rfl⟩
      rw [Ha.out, Ht.out]
      rw [HMk.out] at hmka HM
      have HBad := Lib.hid (fun hh => HNo.out (lnk_bad (base := base) Hs.out hh))
      have HGood := Lib.hid (fun h1 h2 h3 h4 => HYes.out (lnk_yes (base := base) Hs.out h1 h2 h3 h4))
      rw [Ha.out, Ht.out, HMk.out] at HBad HGood
      clear HNo HYes hm
      go_wp2_with fail
      generalize hWa : wr.alloc (.cells #[.int .i64 f, .int .i64 t, .int .i64 m, .slice A2 cs.length cc] 130) = wa at *
      clear hWa p0 p1 p2 p3
      have hnxa := hnx.trans hxa
      have hszB := Nat.le_trans hB hnxa.size
      refine (segRight_c f t m A2 cc B cs _ (hch.below hxa (Nat.le_trans hB hnx.size)) hszB hmk').mono ?_
      rintro e w1 ⟨rfl, hx1⟩
      replace bG := bG.nx hx1
      replace hmka := hmka.nx hx1
      have hch1 := (hch.below hxa (Nat.le_trans hB hnx.size)).below hx1 hszB
      have hX1 := hnxa.trans hx1
      have hszB1 := Nat.le_trans hB hX1.size
      clear hxa hx1 hch hmk
      cases hsb : segB f t m cs
      · have HR := Lib.hid (HBad.out (.inl hsb))
        clear hsb HBad HGood
        go_wp2
        go_ret
        exact ⟨by rw [HR.out]; rfl, hX1⟩
      have hok : chsB cs = true := segB_chs hsb
      have HSB := Lib.hid hsb
      obtain ⟨c0, c1, c2, c3⟩ := bG.d4
      clear hsb
      by_cases hfa : f = a0
      case neg =>
        have HR := Lib.hid (HBad.out (.inr (.inl hfa)))
        have hd1 : (f != a0) = true := by simp [hfa]
        clear HBad HGood hfa
        go_wp2
        go_ret
        exact ⟨by rw [HR.out]; rfl, hX1⟩
      have hd1 : (f != a0) = false := by simp [hfa]
      have HFA := Lib.hid hfa
      clear hfa
      by_cases htm : t0 ≤ m
      case neg =>
        have HR := Lib.hid (HBad.out (.inr (.inr (.inl (by omega)))))
        have hd2 : decide (m < t0) = true := by simp; omega
        clear HBad HGood htm
        go_wp2
        go_ret
        exact ⟨by rw [HR.out]; rfl, hX1⟩
      have hd2 : decide (m < t0) = false := by simp; omega
      have HTM := Lib.hid htm
      clear htm
      go_wp2_with fail
      refine (goesOnFrom_c f t m A2 cc B w.heap.size cs M _ hch1 hmka hszB1 hok).mono ?_
      rintro e w2 ⟨rfl, hx2⟩
      clear c0 c1 c2 c3
      replace bG := bG.nx hx2
      replace hmka := hmka.nx hx2
      have hch2 := hch1.below hx2 hszB1
      have hX2 := hX1.trans hx2
      clear hx2 hch1
      cases hon : onB M cs
      · have HR := Lib.hid (HBad.out (.inr (.inr (.inr hon))))
        clear hon HBad HGood
        go_wp2
        go_ret
        exact ⟨by rw [HR.out]; rfl, hX2⟩
      have HLn := Lib.hid (HGood.out HSB.out HFA.out HTM.out hon)
      clear hon HBad HGood
      obtain ⟨c0, c1, c2, c3⟩ := bG.d4
      go_wp2_with fail
      refine (noteIn_c f t m A2 cc B w.heap.size cs M _ hch2 hmka hB hok).mono ?_
      rintro e w3 ⟨rfl, hm3, hr3⟩
      have bG3 := bG.rg hr3 (by omega)
      have hX3 := Rg.nx_of hX2 hr3 (Nat.le_refl _)
      clear c0 c1 c2 c3
      obtain ⟨c0, c1, c2, c3⟩ := bG3.d4
      go_wp2_with fail
      -- region
      refine wp_region_lex [false, false, false, false, false, false] (fun w' => w'.cell? ⟨wr.heap.size, 1, none⟩ = some (.int .i64 t) ∧ w'.cell? ⟨wr.heap.size, 2, none⟩ = some (.int .i64 m)) (by kernel_rfl) (by kernel_rfl) rfl (by kernel_rfl) (fun _ _ d _ _ h => by cases d <;> exact h) (by exact ⟨c1, c2⟩) ?_
      repeat (first | (refine HL.take (v := ?_) (by rfl) ?_ ?_; rotate_left; (· (intro w hSw; (try dsimp only at hSw); go_simp; try with_reducible rfl)); (try simp only [Act.put, List.setIfInBounds_toArray, List.set_cons_zero, List.set_cons_succ])) | (refine HL.skip (by rfl) ?_; (try simp only [Act.put, List.setIfInBounds_toArray, List.set_cons_zero, List.set_cons_succ])))
      refine HL.done ?_
      -- end
      go_wp2
      go_roundw
      case rel => exact ⟨k + 1, by omega, by go_num, by rw [HA.out], by rw [HT.out], by rw [HM.out]; exact hm3, HLn.out, hX3.drew⟩
      case measure => simp [intOf]; omega
    · obtain rfl : k = n := by omega
      have HR := Lib.hid (LnTo.all (base := base) (gs := gs) (by rw [Hn.out]; exact hln) (by rw [Hn.out]; exact hl) HB.out)
      go_wp2
      go_ret
      exact ⟨by rw [HR.out]; rfl, hnx⟩
end Go.Proofs.YtehahodomfbpjaaGreatDoor
/- Contract of ChainOK, as the model has it. Conditions: the segments can be read, and have at most 1048576 changes each. -/
namespace Go.Proofs.YtehahodomfbpjaaGreatDoor
set_option linter.unusedVariables false
set_option maxRecDepth 100000
open Go.RowKit

/-- What was new last of a block, -1 where nothing is known. -/
def lastV (M : Int → Option Chg) (j : Int) : Int := match M j with
  | some c => c.2.1
  | none => -1
def lsAt (M : Int → Option Chg) (i : Nat) : Value := .int .i64 (lastV M (i : Int))
def NonN (M : Int → Option Chg) : Prop := ∀ j c, M j = some c → 0 ≤ c.2.1
theorem OkTo.lt {cs : List Chg} {n : Nat} (h : OkTo cs n) : ∀ j, j < n → ∀ i, i < j → (cs.getD i chZ).1 < (cs.getD j chZ).1 := by
  intro j
  induction j with
  | zero => intro _ i hi; omega
  | succ j ih =>
    intro hj i hi
    have h0 := h (j + 1) hj
    unfold okCh at h0
    simp only [Bool.and_eq_true, Bool.or_eq_true, decide_eq_true_eq, Nat.add_sub_cancel] at h0
    have hlt : (cs.getD j chZ).1 < (cs.getD (j + 1) chZ).1 := by
      rcases h0.2 with h2 | h2
      · simp at h2
      · exact h2
    by_cases e : i = j
    · rw [e]; exact hlt
    · have := ih (by omega) i (by omega)
      omega
theorem noteM_far (M : Int → Option Chg) {cs : List Chg} (h : OkTo cs cs.length) : ∀ k, k ≤ cs.length → ∀ x : Int, (∀ i, i < k → (cs.getD i chZ).1 ≠ x) → noteM M (cs.take k) x = M x := by
  intro k
  induction k with
  | zero => intro _ x _; rfl
  | succ k ih =>
    intro hk x hx
    rw [noteM_succ M cs (by omega)]
    simp only
    rw [if_neg (fun e => hx k (by omega) e.symm)]
    exact ih (by omega) x fun i hi => hx i (by omega)
theorem noteM_at (M : Int → Option Chg) {cs : List Chg} (h : OkTo cs cs.length) {k : Nat} (hk : k < cs.length) : noteM M (cs.take k) (cs.getD k chZ).1 = M (cs.getD k chZ).1 :=
  noteM_far M h k (by omega) _ fun i hi => by have := h.lt k hk i hi; omega
theorem NonN.note {M : Int → Option Chg} (h : NonN M) {cs : List Chg} (hok : OkTo cs cs.length) : ∀ k, k ≤ cs.length → NonN (noteM M (cs.take k)) := by
  intro k
  induction k with
  | zero => intro _; exact h
  | succ k ih =>
    intro hk j c hj
    rw [noteM_succ M cs (by omega)] at hj
    simp only at hj
    by_cases e : j = (cs.getD k chZ).1
    · rw [if_pos e] at hj
      obtain rfl := Option.some.inj hj
      have := hok k (by omega)
      unfold okCh chB at this
      simp only [Bool.and_eq_true] at this
      exact (inB_yes this.1.1.2).1
    · rw [if_neg e] at hj
      exact ih (by omega) j c hj
theorem lnk_yes_parts {base : Int} {gs : List SgR} {k : Nat} (h : lnk base gs k = true) : segB (gs.getD k sgZ).f (gs.getD k sgZ).t (gs.getD k sgZ).m (gs.getD k sgZ).cs = true ∧ (gs.getD k sgZ).f = atK base gs k := by
  unfold lnk sgB at h
  simp only [Bool.and_eq_true, decide_eq_true_eq] at h
  exact ⟨h.1.1.1, h.1.1.2⟩
theorem LnTo.nonN {base : Int} {gs : List SgR} : ∀ k, LnTo base gs k → NonN (mpK gs k)
  | 0, _ => fun j c h => by cases h
  | k + 1, h => by
    have h1 := LnTo.nonN k fun j hj => h j (by omega)
    have h2 := chsB_to (segB_chs (lnk_yes_parts (h k (by omega))).1)
    have h3 := h1.note h2 _ (Nat.le_refl _)
    rw [List.take_length] at h3
    exact h3
theorem segB_range {f t m : Int} {cs : List Chg} (h : segB f t m cs = true) : inB 0 999999 f = true ∧ inB 0 999999 t = true ∧ inB 0 999999 m = true ∧ f < t := by
  unfold segB at h
  simp only [Bool.and_eq_true, decide_eq_true_eq] at h
  exact ⟨h.1.1.1.1, h.1.1.1.2, h.1.2, h.1.1.2⟩
theorem LnTo.end_ {base : Int} {gs : List SgR} {k : Nat} (h : LnTo base gs k) : inB 0 999999 (atK base gs k) = inB 0 999999 base := by
  cases k with
  | zero => rfl
  | succ k =>
    obtain ⟨h1, h2⟩ := lnk_yes_parts (h 0 (by omega))
    have h3 := (segB_range h1).1
    rw [h2] at h3
    rw [show atK base gs (k + 1) = (gs.getD k sgZ).t from rfl, (segB_range (lnk_yes_parts (h k (by omega))).1).2.1]
    exact h3.symm
theorem LnTo.chain {base : Int} {gs : List SgR} (h : LnTo base gs gs.length) (hl : gs.length ≤ 4096) : chainB base gs = inB 0 999999 base := by
  unfold chainB
  rw [decide_eq_true hl, List.all_eq_true.2 fun j hj => h j (by simpa using hj)]; simp
theorem onC_val {M : Int → Option Chg} (h : NonN M) (q0 q1 q2 : Int) : onC M (q0, q1, q2) = (decide (lastV M q0 < 0) || decide (lastV M q0 = q2)) := by
  unfold onC lastV
  cases hM : M q0 with
  | none => simp
  | some c =>
    have := h q0 c hM
    simp only
    rw [decide_eq_false (by omega : ¬ c.2.1 < 0)]; simp
theorem tmK_zero {gs : List SgR} {m : Int} (h : inB 0 999999 m = true) : tmK gs 0 ≤ m := (inB_yes h).1
end Go.Proofs.YtehahodomfbpjaaGreatDoor
/- Values: contents turned by changes, block by block; changes put together; chains of segments that fit a content. Conditions: none (no memory is spoken of). -/
namespace Go.Proofs.YtehahodomfbpjaaGreatDoor
set_option linter.unusedVariables false
set_option maxRecDepth 100000
open Go.RowKit

theorem noteM_cons (M : Int → Option Chg) (c : Chg) (cs : List Chg) : noteM M (c :: cs) = noteM (fun k => if c.1 = k then some c else M k) cs := rfl
def Blk (cs : List Chg) : Prop := ∀ c ∈ cs, 0 ≤ c.1 ∧ c.1 ≤ 7
theorem chsB_mem {cs : List Chg} (h : chsB cs = true) : ∀ c ∈ cs, chB c = true := fun c hc => by
  obtain ⟨j, hj, rfl⟩ := List.mem_iff_getElem.1 hc
  have := chsB_to h j hj
  unfold okCh at this
  rw [List.getD_eq_getElem?_getD, List.getElem?_eq_getElem hj] at this
  simp only [Option.getD_some, Bool.and_eq_true] at this
  exact this.1
theorem chB_parts {c : Chg} (h : chB c = true) : (0 ≤ c.1 ∧ c.1 ≤ 7) ∧ (0 ≤ c.2.1 ∧ c.2.1 ≤ 999999) ∧ (0 ≤ c.2.2 ∧ c.2.2 ≤ 999999) := by
  unfold chB at h
  simp only [Bool.and_eq_true] at h
  exact ⟨inB_yes h.1.1, inB_yes h.1.2, inB_yes h.2⟩
theorem chsB_blk {cs : List Chg} (h : chsB cs = true) : Blk cs := fun c hc => (chB_parts (chsB_mem h c hc)).1
theorem app_cons (p : Chg → Int) (xs : List Int) (c : Chg) (cs : List Chg) : app p xs (c :: cs) = app p (xs.set c.1.toNat (p c)) cs := rfl
/-- Block by block. -/
theorem app_at (p : Chg → Int) (d : Nat → Int) : ∀ (cs : List Chg) (xs : List Int) (M : Int → Option Chg), Blk cs → xs.length = 8 → (∀ j : Nat, j < 8 → xs.getD j 0 = ((M (j : Int)).map p).getD (d j)) →
    ∀ j : Nat, j < 8 → (app p xs cs).getD j 0 = ((noteM M cs (j : Int)).map p).getD (d j)
  | [], xs, M, _, _, h, j, hj => h j hj
  | c :: cs, xs, M, hb, hl, h, j, hj => by
    rw [app_cons, noteM_cons]
    obtain ⟨h0, h7⟩ := hb c (by simp)
    refine app_at p d cs _ _ (fun x hx => hb x (by simp [hx])) (by rw [List.length_set]; exact hl) (fun i hi => ?_) j hj
    by_cases e : c.1 = (i : Int)
    · rw [if_pos e, show c.1.toNat = i by omega, getD_set_self (by omega)]; rfl
    · rw [if_neg e, getD_set_ne (by omega)]; exact h i hi
theorem app_at0 (p : Chg → Int) {cs : List Chg} {xs : List Int} (hb : Blk cs) (hl : xs.length = 8) {j : Nat} (hj : j < 8) : (app p xs cs).getD j 0 = ((noteM noM cs (j : Int)).map p).getD (xs.getD j 0) :=
  app_at p (fun j => xs.getD j 0) cs xs noM hb hl (fun i _ => rfl) j hj
theorem ext8 {xs ys : List Int} (h : xs.length = 8) (h2 : ys.length = 8) (he : ∀ j, j < 8 → xs.getD j 0 = ys.getD j 0) : xs = ys := List.ext_getElem (by omega) fun j h3 h4 => by
  have := he j (by omega)
  rw [List.getD_eq_getElem?_getD, List.getD_eq_getElem?_getD, List.getElem?_eq_getElem h3, List.getElem?_eq_getElem h4] at this
  exact this
/-- What was old is what is there. -/
def Fits (x : List Int) (cs : List Chg) : Prop := ∀ j : Nat, j < 8 → ∀ c, noteM noM cs (j : Int) = some c → c.2.2 = x.getD j 0
def Agree (M : Int → Option Chg) (x : List Int) : Prop := ∀ j : Nat, j < 8 → ∀ c, M (j : Int) = some c → c.2.1 = x.getD j 0
theorem Agree.note {M : Int → Option Chg} {x : List Int} {cs : List Chg} (h : Agree M x) (hl : x.length = 8) (hb : Blk cs) : Agree (noteM M cs) (app pN x cs) := fun j hj c hc => by
  have := app_at pN (fun j => x.getD j 0) cs x M hb hl (fun i hi => by
    cases hM : M (i : Int) with
    | none => rfl
    | some d => exact (h i hi d hM).symm) j hj
  rw [this, hc]; rfl
theorem noteM_mem {cs : List Chg} (h : chsB cs = true) {c : Chg} (hc : c ∈ cs) : noteM noM cs c.1 = some c := by
  obtain ⟨k, hk, rfl⟩ := List.mem_iff_getElem.1 hc
  have hto := chsB_to h
  have e : cs.getD k chZ = cs[k] := by rw [List.getD_eq_getElem?_getD, List.getElem?_eq_getElem hk]; rfl
  have step : ∀ n, k < n → n ≤ cs.length → noteM noM (cs.take n) cs[k].1 = some cs[k] := by
    intro n
    induction n with
    | zero => intro h1; omega
    | succ n ih =>
      intro h1 h2
      rw [noteM_succ noM cs (by omega)]
      simp only
      by_cases hn : k = n
      · subst hn
        rw [e, if_pos rfl]
      · have h3 := hto.lt n (by omega) k (by omega)
        rw [e] at h3
        rw [if_neg (by omega)]
        exact ih (by omega) (by omega)
  have := step cs.length hk (Nat.le_refl _)
  rwa [List.take_length] at this
theorem on_of {M : Int → Option Chg} {x : List Int} {cs : List Chg} (hA : Agree M x) (hok : chsB cs = true) (hf : Fits x cs) : onB M cs = true := List.all_eq_true.2 fun c hc => by
  obtain ⟨h0, h7⟩ := chsB_blk hok c hc
  have hm := noteM_mem hok hc
  unfold onC
  cases hM : M c.1 with
  | none => rfl
  | some a =>
    simp only
    rw [decide_eq_true_eq]
    have hj : ((c.1.toNat : Nat) : Int) = c.1 := by omega
    have h1 := hA c.1.toNat (by omega) a (by rw [hj]; exact hM)
    have h2 := hf c.1.toNat (by omega) c (by rw [hj]; exact hm)
    rw [h1, h2]
/-- A map whose entries stand at their blocks, and are right. -/
def Right (M : Int → Option Chg) : Prop := ∀ (j : Nat), j < 8 → ∀ c, M (j : Int) = some c → c.1 = (j : Int) ∧ chB c = true
theorem note_right {cs : List Chg} (h : chsB cs = true) : Right (noteM noM cs) := fun j hj c hc => by
  have key : ∀ (l : List Chg) (M : Int → Option Chg), (∀ d ∈ l, chB d = true) → (∀ k d, M k = some d → d.1 = k ∧ chB d = true) → ∀ k d, noteM M l k = some d → d.1 = k ∧ chB d = true := by
    intro l
    induction l with
    | nil => intro M _ h2; exact h2
    | cons a l ih =>
      intro M h1 h2 k d hd
      rw [noteM_cons] at hd
      refine ih _ (fun x hx => h1 x (by simp [hx])) (fun k' d' hd' => ?_) k d hd
      by_cases e : a.1 = k'
      · rw [if_pos e] at hd'
        obtain rfl := Option.some.inj hd'
        exact ⟨e, h1 a (by simp)⟩
      · rw [if_neg e] at hd'
        exact h2 k' d' hd'
  exact key cs noM (chsB_mem h) (fun k d hd => by cases hd) _ c hc
theorem app_cont {x : List Int} {cs : List Chg} (hx : contB x = true) (h : chsB cs = true) : contB (app pN x cs) = true := by
  obtain ⟨h8, hv⟩ := contB_yes hx
  refine contB_mk (by rw [app_len]; exact h8) fun j hj => ?_
  rw [app_len, h8] at hj
  rw [app_at0 pN (chsB_blk h) h8 hj]
  cases hM : noteM noM cs (j : Int) with
  | none => have := hv j hj; exact inB_mk this.1 this.2
  | some c => have := (chB_parts (note_right h j hj c hM).2).2.1; exact inB_mk this.1 this.2
/-- The content behind the first k. -/
def ctK (c0 : List Int) (gs : List SgR) : Nat → List Int
  | 0 => c0
  | k + 1 => app pN (ctK c0 gs k) (gs.getD k sgZ).cs
/-- A segment that goes on at place k. -/
structure Lk (base : Int) (c0 : List Int) (gs : List SgR) (k : Nat) (g : SgR) : Prop where
  seg : segB g.f g.t g.m g.cs = true
  at_ : g.f = atK base gs k
  tm : tmK gs k ≤ g.m
  fit : Fits (ctK c0 gs k) g.cs
/-- A chain that leads on from a content. -/
def ChI (base : Int) (c0 : List Int) (gs : List SgR) : Prop := ∀ k, k < gs.length → Lk base c0 gs k (gs.getD k sgZ)
theorem getD_pre (gs hs : List SgR) {k : Nat} (h : k < gs.length) : (gs ++ hs).getD k sgZ = gs.getD k sgZ := by
  rw [List.getD_eq_getElem?_getD, List.getD_eq_getElem?_getD, List.getElem?_append_left h]
theorem atK_pre (base : Int) (gs hs : List SgR) : ∀ k, k ≤ gs.length → atK base (gs ++ hs) k = atK base gs k
  | 0, _ => rfl
  | k + 1, h => by show ((gs ++ hs).getD k sgZ).t = (gs.getD k sgZ).t; rw [getD_pre gs hs (by omega)]
theorem tmK_pre (gs hs : List SgR) : ∀ k, k ≤ gs.length → tmK (gs ++ hs) k = tmK gs k
  | 0, _ => rfl
  | k + 1, h => by show ((gs ++ hs).getD k sgZ).m = (gs.getD k sgZ).m; rw [getD_pre gs hs (by omega)]
theorem ctK_pre (c0 : List Int) (gs hs : List SgR) : ∀ k, k ≤ gs.length → ctK c0 (gs ++ hs) k = ctK c0 gs k
  | 0, _ => rfl
  | k + 1, h => by
    show app pN (ctK c0 (gs ++ hs) k) ((gs ++ hs).getD k sgZ).cs = app pN (ctK c0 gs k) (gs.getD k sgZ).cs
    rw [getD_pre gs hs (by omega), ctK_pre c0 gs hs k (by omega)]
theorem Lk.pre {base : Int} {c0 : List Int} {gs : List SgR} {k : Nat} {g : SgR} (hs : List SgR) (hk : k ≤ gs.length) (h : Lk base c0 gs k g) : Lk base c0 (gs ++ hs) k g :=
  ⟨h.seg, by rw [atK_pre base gs hs k hk]; exact h.at_, by rw [tmK_pre gs hs k hk]; exact h.tm, by rw [ctK_pre c0 gs hs k hk]; exact h.fit⟩
theorem ChI.nil (base : Int) (c0 : List Int) : ChI base c0 [] := fun k hk => absurd hk (by simp)
theorem ChI.snoc {base : Int} {c0 : List Int} {gs : List SgR} {g : SgR} (h : ChI base c0 gs) (hg : Lk base c0 gs gs.length g) : ChI base c0 (gs ++ [g]) := fun k hk => by
  rw [List.length_append] at hk
  simp only [List.length_cons, List.length_nil] at hk
  by_cases e : k < gs.length
  · rw [getD_pre gs [g] e]; exact (h k e).pre [g] (by omega)
  · obtain rfl : k = gs.length := by omega
    rw [getD_app]; exact hg.pre [g] (Nat.le_refl _)
theorem ChI.cont {base : Int} {c0 : List Int} {gs : List SgR} (h : ChI base c0 gs) (hc : contB c0 = true) : ∀ k, k ≤ gs.length → contB (ctK c0 gs k) = true
  | 0, _ => hc
  | k + 1, hk => app_cont (h.cont hc k (by omega)) (segB_chs (h k (by omega)).seg)
theorem ChI.agree {base : Int} {c0 : List Int} {gs : List SgR} (h : ChI base c0 gs) (hc : contB c0 = true) : ∀ k, k ≤ gs.length → Agree (mpK gs k) (ctK c0 gs k)
  | 0, _ => fun j _ c hh => by cases hh
  | k + 1, hk => (h.agree hc k (by omega)).note (contB_yes (h.cont hc k (by omega))).1 (chsB_blk (segB_chs (h k (by omega)).seg))
/-- Such a chain is one. -/
theorem ChI.chain {base : Int} {c0 : List Int} {gs : List SgR} (h : ChI base c0 gs) (hc : contB c0 = true) (hb : inB 0 999999 base = true) (hl : gs.length ≤ 4096) : chainB base gs = true :=
  LnTo.all (fun k hk => by
    have L := h k hk
    unfold lnk sgB
    rw [L.seg, decide_eq_true L.at_, decide_eq_true L.tm, on_of (h.agree hc k (by omega)) (segB_chs L.seg) L.fit]; rfl) hl hb
end Go.Proofs.YtehahodomfbpjaaGreatDoor
/- Words on marks and supers: lists of marks in memory; contracts of the laws' functions that count, make and compare them; a super that comes in, opened. Conditions: what is counted, copied or compared can be read; copied and compared: it has at most 1048576 elements of a kind. -/
namespace Go.Proofs.YtehahodomfbpjaaGreatDoor
set_option linter.unusedVariables false
set_option maxRecDepth 100000
open Go.Joins Go.ChangeShapes Go.WideShapes Go.RowKit Go.Deep

/-- A mark: its name, its position. -/
abbrev Mrk := ByteArray × Int
def mrZ : Mrk := (ByteArray.empty, 0)
def mrAt (ms : List Mrk) (i : Nat) : Value := if i % 2 = 0 then .string (ms.getD (i / 2) mrZ).1 else .int .i64 (ms.getD (i / 2) mrZ).2
theorem mrAt0 (ms : List Mrk) (k : Nat) : mrAt ms (k * 2) = .string (ms.getD k mrZ).1 := by
  unfold mrAt; rw [if_pos (by omega), show k * 2 / 2 = k by omega]
theorem mrAt1 (ms : List Mrk) (k : Nat) : mrAt ms (k * 2 + 1) = .int .i64 (ms.getD k mrZ).2 := by
  unfold mrAt; rw [if_neg (by omega), show (k * 2 + 1) / 2 = k by omega]
/-- A list of marks that is read. -/
def Mks (w : World) (B : Nat) (A : Option Addr) (ms : List Mrk) : Prop := Row w B A (ms.length * 2) (mrAt ms)
theorem Mks.below {w w' : World} {B B' : Nat} {A : Option Addr} {ms : List Mrk} (h : Mks w B A ms) (hb : Below B' w w') (hB : B ≤ B') : Mks w' B A ms := Row.below h hb hB
theorem Mks.more {w : World} {B B' : Nat} {A : Option Addr} {ms : List Mrk} (h : Mks w B A ms) (hB : B ≤ B') : Mks w B' A ms := Row.more h hB
theorem Mks.at_ {w : World} {B k : Nat} {A : Option Addr} {ms : List Mrk} (h : Mks w B A ms) (hk : k < ms.length) :
    ∃ b off, A = some ⟨b, off, none⟩ ∧ b < B ∧ w.cell? ⟨b, off + k * 2, none⟩ = some (.string (ms.getD k mrZ).1) ∧ w.cell? ⟨b, off + k * 2 + 1, none⟩ = some (.int .i64 (ms.getD k mrZ).2) := by
  obtain ⟨b, off, e, hb, hc⟩ := h (by omega)
  have h0 := hc (k * 2) (by omega)
  have h1 := hc (k * 2 + 1) (by omega)
  rw [mrAt0] at h0
  rw [mrAt1] at h1
  exact ⟨b, off, e, hb, h0, h1⟩
/-- A list of marks in a block of the call's own. -/
abbrev SlM (w : World) (lo : Nat) (A : Option Addr) (ms : List Mrk) : Prop := Sl w lo A 199 (ms.length * 2) (mrAt ms)
theorem Box.d6 {w : World} {g : Nat} {t : TypeId} {v0 v1 v2 v3 v4 v5 : Value} (h : Box w g t #[v0, v1, v2, v3, v4, v5]) :
    w.cell? ⟨g, 0, none⟩ = some v0 ∧ w.cell? ⟨g, 1, none⟩ = some v1 ∧ w.cell? ⟨g, 2, none⟩ = some v2 ∧ w.cell? ⟨g, 3, none⟩ = some v3 ∧ w.cell? ⟨g, 4, none⟩ = some v4 ∧ w.cell? ⟨g, 5, none⟩ = some v5 :=
  ⟨h.cell 0, h.cell 1, h.cell 2, h.cell 3, h.cell 4, h.cell 5⟩

def AllM (ms : List Mrk) : Prop := ∀ k, (ms.getD k mrZ).1.size ≤ 2 ^ 63 - 1

theorem info_mk : (Tryz.prog.info? 199).map (fun i => (i.zero, i.size, i.bytes)) = some (some (.agg #[.string ByteArray.empty, .int .i64 0]), 2, 24) := by kernel_rfl
set_option maxRecDepth 100000 in
set_option maxHeartbeats 1000000 in
theorem eqMark_c (a : Int) (s : ByteArray) (w : World) :
    Calls Tryz.prog 219 #[.agg #[.string s, .int .i64 a], .agg #[.string s, .int .i64 a]] w fun e w' => e = .returned (.bool true) ∧ Nx w w' := by
  go_enter Tryz.func219, Tryz.ntmps219
  go_wp2
  go_ret
  exact ⟨rfl, (((Nx.refl _).alloc _).alloc _)⟩
set_option maxRecDepth 100000 in
set_option maxHeartbeats 1000000 in
theorem eqMarkS_c (A A2 : Option Addr) (c c2 B : Nat) (ms : List Mrk) (w : World) (h : Mks w B A ms) (h2 : Mks w B A2 ms) (hB : B ≤ w.heap.size) (hn : ms.length ≤ 1048576) :
    Calls Tryz.prog 134 #[.slice A ms.length c, .slice A2 ms.length c2] w fun e w' => e = .returned (.bool true) ∧ Nx w w' := by
  go_enter Tryz.func134, Tryz.ntmps134
  go_wp2
  go_loopw [5] (fun i wr => ∃ k : Nat, k ≤ ms.length ∧ i = .int .i64 k ∧ Nx w wr) (fun i _ => ms.length - (intOf i).toNat)
  case atStart => exact ⟨0, Nat.zero_le _, rfl, Nx.refl _⟩
  case round =>
    obtain ⟨k, hk, rfl, hnx⟩ := hrel
    by_cases hlt : k < ms.length
    · obtain ⟨b, off, rfl, hb, hc, hd⟩ := (h.below hnx hB).at_ hlt
      obtain ⟨b2, off2, rfl, hb2, hc2, hd2⟩ := (h2.below hnx hB).at_ hlt
      generalize ms.getD k mrZ = s at hc hc2 hd hd2
      obtain ⟨s, a⟩ := s
      go_wp2_with fail
      go_still_tail 8, (by kernel_rfl)
      change wpList _ _ _ _ _ wr.drew
      have hnx1 : Nx w wr.drew := Below.drew hnx
      generalize wr.drew = wd at *
      go_wp2_with fail
      refine (eqMark_c a s _).mono ?_
      rintro e w1 ⟨rfl, hnx2⟩
      go_wp2
      go_roundw
      case rel => exact ⟨k + 1, by omega, by go_num, hnx1.trans hnx2⟩
      case measure => simp [intOf]; omega
    · go_wp2
      go_ret
      exact ⟨rfl, hnx⟩
section
variable {H : Type} {enc : TypeId × Value → H} {w : World} {base : Nat} {spare : Nat → Bool} {held : Bool}
end
end Go.Proofs.YtehahodomfbpjaaGreatDoor
/- Contracts of the laws' functions that make and compare supers; a super that comes in, opened; what a super is, and contracts of names of marks and of looking a number up in a list. Conditions: what is read can be read, and holds at most 1048576 elements of a kind. -/
namespace Go.Proofs.YtehahodomfbpjaaGreatDoor
set_option linter.unusedVariables false
set_option maxRecDepth 100000
open Go.Joins Go.ChangeShapes Go.WideShapes Go.RowKit Go.Deep

def RetIc (w : World) (xs : List Int) (e : Ending) (w' : World) : Prop := ∃ (A : Option Addr) (c : Nat), e = .returned (.slice A xs.length c) ∧ xs.length ≤ c ∧ SlI w' w.heap.size A xs ∧ Nx w w'
set_option maxHeartbeats 2000000 in
theorem eqSuper_c (g b p t : Int) (A A2 A3 A4 : Option Addr) (c c2 c3 c4 B : Nat) (xs : List Int) (ms : List Mrk) (w : World) (h : Ins w B A xs) (h2 : Mks w B A2 ms) (h3 : Ins w B A3 xs) (h4 : Mks w B A4 ms) (hB : B ≤ w.heap.size) (hn : xs.length ≤ 1048576) (hn2 : ms.length ≤ 1048576) :
    Calls Tryz.prog 60 #[.agg #[.int .i64 g, .int .i64 b, .int .i64 p, .int .i64 t, .slice A xs.length c, .slice A2 ms.length c2], .agg #[.int .i64 g, .int .i64 b, .int .i64 p, .int .i64 t, .slice A3 xs.length c3, .slice A4 ms.length c4]] w fun e w' => e = .returned (.bool true) ∧ Nx w w' := by
  have b0 := (Box.new w 30 #[.int .i64 g, .int .i64 b, .int .i64 p, .int .i64 t, .slice A xs.length c, .slice A2 ms.length c2]).alloc (.cells #[.int .i64 g, .int .i64 b, .int .i64 p, .int .i64 t, .slice A3 xs.length c3, .slice A4 ms.length c4] 30)
  have b1 := Box.new (w.alloc (.cells #[.int .i64 g, .int .i64 b, .int .i64 p, .int .i64 t, .slice A xs.length c, .slice A2 ms.length c2] 30)) 30 #[.int .i64 g, .int .i64 b, .int .i64 p, .int .i64 t, .slice A3 xs.length c3, .slice A4 ms.length c4]
  have hx0 := ((Nx.refl w).alloc (.cells #[.int .i64 g, .int .i64 b, .int .i64 p, .int .i64 t, .slice A xs.length c, .slice A2 ms.length c2] 30)).alloc (.cells #[.int .i64 g, .int .i64 b, .int .i64 p, .int .i64 t, .slice A3 xs.length c3, .slice A4 ms.length c4] 30)
  simp only [World.size_alloc] at b1
  go_enter Tryz.func60, Tryz.ntmps60
  go_wp2_with fail
  generalize (w.alloc (.cells #[.int .i64 g, .int .i64 b, .int .i64 p, .int .i64 t, .slice A xs.length c, .slice A2 ms.length c2] 30)).alloc (.cells #[.int .i64 g, .int .i64 b, .int .i64 p, .int .i64 t, .slice A3 xs.length c3, .slice A4 ms.length c4] 30) = W at *
  refine (eqIntS_c A A3 c c3 B xs _ (h.below hx0 hB) (h3.below hx0 hB) (Nat.le_trans hB hx0.size) hn).mono ?_
  rintro e w1 ⟨rfl, hnx1⟩
  obtain ⟨_, _, _, _, _, c05⟩ := (b0.nx hnx1).d6
  obtain ⟨_, _, _, _, _, c15⟩ := (b1.nx hnx1).d6
  have hx1 := hx0.trans hnx1
  go_wp2_with fail
  refine (eqMarkS_c A2 A4 c2 c4 B ms _ (h2.below hx1 hB) (h4.below hx1 hB) (Nat.le_trans hB hx1.size) hn2).mono ?_
  rintro e w2 ⟨rfl, hnx2⟩
  go_wp2
  go_ret
  exact ⟨rfl, hx1.trans hnx2⟩

section
variable {H : Type} {enc : TypeId × Value → H} {w : World} {base : Nat} {spare : Nat → Bool} {held : Bool}
end

/-! What a super is. -/
def letB (s : ByteArray) (k : Nat) : Bool := decide (97 ≤ (s.data.toList.getD k 0).toNat) && decide ((s.data.toList.getD k 0).toNat ≤ 122)
/-- A mark's name. -/
def nmB (s : ByteArray) : Bool := inB 1 6 s.size && (List.range s.size).all (letB s)
def LetTo (s : ByteArray) (k : Nat) : Prop := ∀ j, j < k → letB s j = true
theorem LetTo.zero (s : ByteArray) : LetTo s 0 := fun j h => absurd h (by omega)
theorem LetTo.succ {s : ByteArray} {k : Nat} (h : LetTo s k) (hk : letB s k = true) : LetTo s (k + 1) := fun j hj => by
  rcases Nat.lt_or_ge j k with hlt | hge
  · exact h j hlt
  · obtain rfl : j = k := by omega
    exact hk
theorem letB_at {s : ByteArray} {k : Nat} (hk : k < s.size) : letB s k = (decide (97 ≤ s[k].toNat) && decide (s[k].toNat ≤ 122)) := by
  unfold letB
  rw [List.getD_eq_getElem?_getD, List.getElem?_eq_getElem (by simpa using hk)]; rfl
theorem nmB_all {s : ByteArray} (h : LetTo s s.size) : (List.range s.size).all (letB s) = true := List.all_eq_true.2 fun j hj => h j (by simpa using hj)
theorem nmB_no {s : ByteArray} {k : Nat} (hk : k < s.size) (h : letB s k = false) : nmB s = false := by
  unfold nmB
  rw [show (List.range s.size).all (letB s) = false from List.all_eq_false.2 ⟨k, by simpa using hk, by simp [h]⟩]; simp
theorem nmB_size {s : ByteArray} (h : inB 1 6 s.size = false) : nmB s = false := by unfold nmB; rw [h]; rfl
theorem nmB_mk {s : ByteArray} (h : inB 1 6 s.size = true) (h2 : LetTo s s.size) : nmB s = true := by unfold nmB; rw [h, nmB_all h2]; rfl
set_option maxHeartbeats 1000000 in
theorem isMarkName_c (s : ByteArray) (w : World) (hs : s.size ≤ 2 ^ 63 - 1) : Calls Tryz.prog 234 #[.string s] w fun e w' => e = .returned (.bool (nmB s)) ∧ w = w' := by
  by_cases h0 : s.size = 0
  · have hd : ((s.size : Int) == 0) = true := by rw [beq_iff_eq]; omega
    have HR := Lib.hid (nmB_size (s := s) (inB_no (by omega))).symm
    go_enter Tryz.func234, Tryz.ntmps234
    go_wp2
    go_ret
    exact ⟨ret_bool HR.out, rfl⟩
  have hd : ((s.size : Int) == 0) = false := by rw [beq_eq_false_iff_ne]; omega
  by_cases h6 : 6 < s.size
  · have hd6 : decide (6 < (s.size : Int)) = true := by simp; omega
    have HR := Lib.hid (nmB_size (s := s) (inB_no (by omega))).symm
    go_enter Tryz.func234, Tryz.ntmps234
    go_wp2
    go_ret
    exact ⟨ret_bool HR.out, rfl⟩
  have hd6 : decide (6 < (s.size : Int)) = false := by simp; omega
  have HS := Lib.hid (inB_mk (lo := 1) (hi := 6) (a := s.size) (by omega) (by omega))
  go_enter Tryz.func234, Tryz.ntmps234
  go_wp2
  go_loop [3] (fun i => ∃ k : Nat, k ≤ s.size ∧ i = .int .i64 k ∧ LetTo s k) (fun i => s.size - (intOf i).toNat)
  case atStart => exact ⟨0, Nat.zero_le _, rfl, LetTo.zero _⟩
  case round =>
    obtain ⟨k, hk, rfl, hto⟩ := hrel
    by_cases hlt : k < s.size
    · have HL := Lib.hid (letB_at hlt)
      have hc1 : (s[k].toNat : Int) ≤ 255 := by have := s[k].toNat_lt; omega
      by_cases ha : s[k].toNat < 97
      · have hda : decide ((s[k].toNat : Int) < 97) = true := by simp; omega
        have HR := Lib.hid (nmB_no hlt (by rw [HL.out]; simp; omega)).symm
        go_wp2
        go_ret
        exact ⟨ret_bool HR.out, rfl⟩
      have hda : decide ((s[k].toNat : Int) < 97) = false := by simp; omega
      by_cases hz : 122 < s[k].toNat
      · have hdz : decide (122 < (s[k].toNat : Int)) = true := by simp; omega
        have HR := Lib.hid (nmB_no hlt (by rw [HL.out]; simp; omega)).symm
        go_wp2
        go_ret
        exact ⟨ret_bool HR.out, rfl⟩
      have hdz : decide (122 < (s[k].toNat : Int)) = false := by simp; omega
      go_wp2
      go_round
      case rel => exact ⟨k + 1, by omega, by go_num, hto.succ (by rw [HL.out]; simp; omega)⟩
      case measure => simp [intOf]; omega
    · obtain rfl : k = s.size := by omega
      have HR := Lib.hid (nmB_mk HS.out hto).symm
      go_wp2
      go_ret
      exact ⟨ret_bool HR.out, rfl⟩
set_option maxHeartbeats 1000000 in
theorem l04Mark_c (s : ByteArray) (a : Int) (w : World) (hs : s.size ≤ 2 ^ 63 - 1) : Calls Tryz.prog 191 #[.agg #[.string s, .int .i64 a]] w fun e w' => e = .returned (.bool (nmB s && inB 0 999999 a)) ∧ Nx w w' := by
  cases x1 : inB 1 6 s.size with
  | false =>
    have H1 := Lib.hid x1
    clear x1
    have HR := Lib.hid (show false = (nmB s && inB 0 999999 a) by rw [nmB_size H1.out]; rfl)
    go_enter Tryz.func191, Tryz.ntmps191
    go_wp2_with (go_at_call 124; refine (l01In_c _ _ _ _).mono ?_; rintro e w' ⟨rfl, rfl⟩; rw [H1.out])
    go_ret
    exact ⟨ret_bool HR.out, (Nx.refl _).alloc _⟩
  | true =>
  have H1 := Lib.hid x1
  clear x1
  cases x2 : inB 0 999999 a with
  | false =>
    have H2 := Lib.hid x2
    clear x2
    have HR := Lib.hid (show false = (nmB s && false) by simp)
    go_enter Tryz.func191, Tryz.ntmps191
    go_wp2_with (go_at_call 124; refine (l01In_c _ _ _ _).mono ?_; rintro e w' ⟨rfl, rfl⟩; first | rw [H1.out] | rw [H2.out])
    go_ret
    exact ⟨ret_bool HR.out, (Nx.refl _).alloc _⟩
  | true =>
  have H2 := Lib.hid x2
  clear x2
  rw [Bool.and_true]
  go_enter Tryz.func191, Tryz.ntmps191
  go_wp2_with (go_at_call 124; refine (l01In_c _ _ _ _).mono ?_; rintro e w' ⟨rfl, rfl⟩; first | rw [H1.out] | rw [H2.out])
  have c0 := (Box.new w 199 #[.string s, .int .i64 a]).c0
  have hx0 := (Nx.refl w).alloc (.cells #[.string s, .int .i64 a] 199)
  generalize w.alloc (.cells #[.string s, .int .i64 a] 199) = W at *
  go_loop [3] (fun i => ∃ k : Nat, k ≤ s.size ∧ i = .int .i64 k ∧ LetTo s k) (fun i => s.size - (intOf i).toNat)
  case atStart => exact ⟨0, Nat.zero_le _, rfl, LetTo.zero _⟩
  case round =>
    obtain ⟨k, hk, rfl, hto⟩ := hrel
    by_cases hlt : k < s.size
    · have HL := Lib.hid (letB_at hlt)
      have hc1 : (s[k].toNat : Int) ≤ 255 := by have := s[k].toNat_lt; omega
      by_cases ha : s[k].toNat < 97
      · have hda : decide ((s[k].toNat : Int) < 97) = true := by simp; omega
        have HR := Lib.hid (nmB_no hlt (by rw [HL.out]; simp; omega)).symm
        go_wp2
        go_ret
        exact ⟨ret_bool HR.out, hx0⟩
      have hda : decide ((s[k].toNat : Int) < 97) = false := by simp; omega
      by_cases hz : 122 < s[k].toNat
      · have hdz : decide (122 < (s[k].toNat : Int)) = true := by simp; omega
        have HR := Lib.hid (nmB_no hlt (by rw [HL.out]; simp; omega)).symm
        go_wp2
        go_ret
        exact ⟨ret_bool HR.out, hx0⟩
      have hdz : decide (122 < (s[k].toNat : Int)) = false := by simp; omega
      go_wp2
      go_round
      case rel => exact ⟨k + 1, by omega, by go_num, hto.succ (by rw [HL.out]; simp; omega)⟩
      case measure => simp [intOf]; omega
    · obtain rfl : k = s.size := by omega
      have HR := Lib.hid (nmB_mk H1.out hto).symm
      go_wp2
      go_ret
      exact ⟨ret_bool HR.out, hx0⟩

/-! A number that is looked up in the first n of a list. -/
def hasB (xs : List Int) (n : Nat) (x : Int) : Bool := (xs.take n).contains x
def NotTo (xs : List Int) (k : Nat) (x : Int) : Prop := ∀ j, j < k → xs.getD j 0 ≠ x
theorem NotTo.zero (xs : List Int) (x : Int) : NotTo xs 0 x := fun j h => absurd h (by omega)
theorem NotTo.succ {xs : List Int} {k : Nat} {x : Int} (h : NotTo xs k x) (hk : xs.getD k 0 ≠ x) : NotTo xs (k + 1) x := fun j hj => by
  rcases Nat.lt_or_ge j k with hlt | hge
  · exact h j hlt
  · obtain rfl : j = k := by omega
    exact hk
theorem hasB_yes {xs : List Int} {n k : Nat} {x : Int} (hk : k < n) (hl : k < xs.length) (h : xs.getD k 0 = x) : hasB xs n x = true := by
  unfold hasB
  rw [List.contains_iff_mem]
  rw [List.getD_eq_getElem?_getD, List.getElem?_eq_getElem hl] at h
  rw [List.mem_take_iff_getElem]
  exact ⟨k, by omega, h⟩
theorem hasB_no {xs : List Int} {n : Nat} {x : Int} (h : NotTo xs n x) : hasB xs n x = false := by
  unfold hasB
  rw [Bool.eq_false_iff]
  intro hc
  rw [List.contains_iff_mem, List.mem_take_iff_getElem] at hc
  obtain ⟨k, hk, e⟩ := hc
  have hk2 : k < xs.length := by omega
  refine h k (by omega) ?_
  rw [List.getD_eq_getElem?_getD, List.getElem?_eq_getElem hk2]; exact e
set_option maxHeartbeats 1000000 in
theorem l04In_c (A : Option Addr) (n c B : Nat) (xs : List Int) (x : Int) (w : World) (h : Ins w B A xs) (hnl : n ≤ xs.length) (hn : xs.length ≤ 1048576) :
    Calls Tryz.prog 187 #[.slice A n c, .int .i64 x] w fun e w' => e = .returned (.bool (hasB xs n x)) ∧ w = w' := by
  go_enter Tryz.func187, Tryz.ntmps187
  go_wp2
  go_loop [5] (fun i => ∃ k : Nat, k ≤ n ∧ i = .int .i64 k ∧ NotTo xs k x) (fun i => n - (intOf i).toNat)
  case atStart => exact ⟨0, Nat.zero_le _, rfl, NotTo.zero _ _⟩
  case round =>
    obtain ⟨k, hk, rfl, hto⟩ := hrel
    by_cases hlt : k < n
    · obtain ⟨b, off, rfl, hb, hc⟩ := h.at_ (k := k) (by omega)
      obtain ⟨y, Hy⟩ : ∃ y, Hid (xs.getD k 0 = y) := ⟨_, rfl⟩
      rw [Hy.out] at hc
      by_cases he : y = x
      · have hd : (y == x) = true := by simp [he]
        have HR := Lib.hid (hasB_yes hlt (by omega) (Hy.out.trans he)).symm
        clear he
        go_wp2
        go_ret
        exact ⟨ret_bool HR.out, rfl⟩
      · have hd : (y == x) = false := by simp [he]
        have HT := Lib.hid (hto.succ (by rw [Hy.out]; exact he))
        clear he
        go_wp2
        go_round
        case rel => exact ⟨k + 1, by omega, by go_num, HT.out⟩
        case measure => simp [intOf]; omega
    · obtain rfl : k = n := by omega
      have HR := Lib.hid (hasB_no hto).symm
      go_wp2
      go_ret
      exact ⟨ret_bool HR.out, rfl⟩
set_option maxHeartbeats 1000000 in
theorem index_c (A : Option Addr) (n c B : Nat) (xs : List Int) (x : Int) (w : World) (h : Ins w B A xs) (hnl : n ≤ xs.length) (hn : xs.length ≤ 1048576) :
    Calls Tryz.prog 231 #[.slice A n c, .int .i64 x] w fun e w' => (∃ k : Int, e = .returned (.int .i64 k) ∧ decide (0 ≤ k) = hasB xs n x ∧ -1 ≤ k ∧ k ≤ 1048576) ∧ w = w' := by
  go_enter Tryz.func231, Tryz.ntmps231
  go_wp2
  go_loop [8] (fun i => ∃ k : Nat, k ≤ n ∧ i = .int .i64 k ∧ NotTo xs k x) (fun i => n - (intOf i).toNat)
  case atStart => exact ⟨0, Nat.zero_le _, rfl, NotTo.zero _ _⟩
  case round =>
    obtain ⟨k, hk, rfl, hto⟩ := hrel
    by_cases hlt : k < n
    · obtain ⟨b, off, rfl, hb, hc⟩ := h.at_ (k := k) (by omega)
      obtain ⟨y, Hy⟩ : ∃ y, Hid (xs.getD k 0 = y) := ⟨_, rfl⟩
      rw [Hy.out] at hc
      by_cases he : y = x
      · have hd : (x == y) = true := by simp [he]
        have HR := Lib.hid (hasB_yes hlt (by omega) (Hy.out.trans he)).symm
        clear he
        go_wp2
        go_ret
        exact ⟨⟨_, rfl, by rw [← HR.out]; simp, by omega, by omega⟩, rfl⟩
      · have hd : (x == y) = false := by rw [beq_eq_false_iff_ne]; exact fun h => he h.symm
        have HT := Lib.hid (hto.succ (by rw [Hy.out]; exact he))
        clear he
        go_wp2
        go_round
        case rel => exact ⟨k + 1, by omega, by go_num, HT.out⟩
        case measure => simp [intOf]; omega
    · obtain rfl : k = n := by omega
      have HR := Lib.hid (hasB_no hto).symm
      go_wp2
      go_ret
      exact ⟨⟨_, rfl, by rw [← HR.out]; decide, by omega, by omega⟩, rfl⟩
set_option maxHeartbeats 1000000 in
theorem contains_c (A : Option Addr) (n c B : Nat) (xs : List Int) (x : Int) (w : World) (h : Ins w B A xs) (hnl : n ≤ xs.length) (hn : xs.length ≤ 1048576) :
    Calls Tryz.prog 175 #[.slice A n c, .int .i64 x] w fun e w' => e = .returned (.bool (hasB xs n x)) ∧ w = w' := by
  go_enter Tryz.func175, Tryz.ntmps175
  go_wp2_with fail
  refine (index_c A n c B xs x _ h hnl hn).mono ?_
  rintro e w' ⟨⟨k, rfl, hk, h1, h2⟩, rfl⟩
  have HK := Lib.hid hk
  clear hk
  go_wp2
  go_ret
  exact ⟨ret_bool HK.out, rfl⟩
end Go.Proofs.YtehahodomfbpjaaGreatDoor
