/-
  Texts of the proof, in their order.
  Conditions: those of each.
-/
import Derived.Test.YtieoiailjjnnoaaGreatDoorMa8
import Derived.Deep.QuietTactic
import Derived.BigQuiet
import Derived.StillTailTactics
import Derived.Outline
namespace Go.Proofs.YtieoiailjjnnoaaGreatDoor
set_option linter.unusedVariables false
open _root_.Go.Proofs.Tryz
set_option maxRecDepth 100000
set_option maxHeartbeats 16000000
section
open Go.RowKit
def freeTo (xs : List Int) (k : Nat) : List Int := ((List.range k).map fun i : Nat => (i : Int) + 10).filter fun x => !hasB xs xs.length x
theorem freeTo_yes {xs : List Int} {k : Nat} (h : hasB xs xs.length ((k : Int) + 10) = false) : freeTo xs (k + 1) = freeTo xs k ++ [(k : Int) + 10] := by
 unfold freeTo
 rw [List.range_succ, List.map_append, List.filter_append]
 simp [h]
theorem freeTo_no {xs : List Int} {k : Nat} (h : hasB xs xs.length ((k : Int) + 10) = true) : freeTo xs (k + 1) = freeTo xs k := by
 unfold freeTo
 rw [List.range_succ, List.map_append, List.filter_append]
 simp [h]
theorem freeTo_len (xs : List Int) (k : Nat) : (freeTo xs k).length <= k := by
 unfold freeTo
 refine ntr (List.length_filter_le _ _) ?_
 simp
theorem l04Free_c (g b p t : Int) (A A2 : Option Addr) (c c2 B : Nat) (xs : List Int) (ms : List Mrk) (w : World) (h : Ins w B A xs) (hB : B <= w.heap.size) (hn : xs.length <= 1048576) :
 Calls Tryz.prog 162 #[.agg #[ii g, ii b, ii p, ii t, sC A xs.length c, sC A2 ms.length c2]] w (RetIc w (freeTo xs 54)) := by
 have b0 := (Box.new w 26 #[ii g, ii b, ii p, ii t, sC A xs.length c, sC A2 ms.length c2]).alloc (.cells #[] 3)
 have hx0 := (Nx.refl w).alloc (.cells #[ii g, ii b, ii p, ii t, sC A xs.length c, sC A2 ms.length c2] 26)
 have hz0 : (w.alloc (.cells #[ii g, ii b, ii p, ii t, sC A xs.length c, sC A2 ms.length c2] 26)).heap.size = w.heap.size + 1 := by simp
 have hrow0 := RowI.new (w.alloc (.cells #[ii g, ii b, ii p, ii t, sC A xs.length c, sC A2 ms.length c2] 26)) (B := w.heap.size + 1) (by rw [hz0]; exact Nat.le_refl _)
 have hx1 := hx0.alloc (.cells #[] 3)
 have hz1 : w.heap.size + 1 <= ((w.alloc (.cells #[ii g, ii b, ii p, ii t, sC A xs.length c, sC A2 ms.length c2] 26)).alloc (.cells #[] 3)).heap.size := by simp
 rw [hz0] at hrow0
 clear hz0
 go_enter func162, ntmps162
 go_wp2_with fail
 generalize (w.alloc (.cells #[ii g, ii b, ii p, ii t, sC A xs.length c, sC A2 ms.length c2] 26)).alloc (.cells #[] 3) = W at *
 go_loopw [3, 4] (fun v i wr => ∃ (k : Nat), k <= 54 /\ i = ii ((k : Int) + 10) /\ (∃ u, u = v /\ RowI wr (w.heap.size + 1) u (freeTo xs k)) /\ Nx w wr /\ Box wr w.heap.size 26 #[ii g, ii b, ii p, ii t, sC A xs.length c, sC A2 ms.length c2] /\ w.heap.size + 1 <= wr.heap.size) (fun _ i _ => 64 - (intOf i).toNat)
 case atStart => exact ⟨0, oM, rfl, ⟨_, rfl, hrow0⟩, hx1, b0, hz1⟩
 case round =>
  obtain ⟨k, hk, rfl, ⟨u, rfl, hrow⟩, hnx, hb, hsz⟩ := hrel
  clear hrow0 hx1 hz1 b0 hx0
  obtain ⟨_, _, _, _, c4, _⟩ := hb.d6
  have hil := freeTo_len xs k
  by_cases hlt : k < 54
  case neg =>
   obtain rfl : k = 54 := oM
   obtain ⟨A', c', rfl, hc', hS⟩ := hrow.slc
   have hdl : decide (((54 : Nat) : Int) + 10 < 64) = false := by decide
   go_wp2
   go_ret
   exact ⟨A', c', rfl, hc', hS.low oM, hnx⟩
  have hdl : decide ((k : Int) + 10 < 64) = true := by simp; omega
  obtain ⟨q, Hq⟩ := nM ((k : Int) + 10)
  have hq0 : 0 <= q := by have := Hq.out; omega
  have hq1 : q < 64 := by have := Hq.out; omega
  rw [Hq.out] at hdl ⊢
  clear hdl
  have hdq : decide (q < 64) = true := by simp; omega
  cases hh : hasB xs xs.length q with
  | true =>
    have HX := qh hh
    have HN := qh (freeTo_no (xs := xs) (k := k) (by rw [Hq.out]; exact hh))
    clear hh
    have HR := qh hrow
    clear hrow
    go_wp2_with (go_at_call 97; refine (l04In_c A xs.length c B xs q _ (h.below hnx hB) nle hn).mono ?_; rintro e w' ⟨rfl, rfl⟩; rw [HX.out])
    go_roundw
    case rel => exact ⟨k + 1, oM, by have := Hq.out; go_num, ⟨_, rfl, by rw [HN.out]; exact HR.out⟩, hnx, hb, hsz⟩
    case measure => have := Hq.out; simp [intOf]; omega
  | false =>
    have HX := qh hh
    have HN := qh (freeTo_yes (xs := xs) (k := k) (by rw [Hq.out]; exact hh))
    clear hh
    have hx2 := (Nx.refl wr).alloc (.cells #[ii q] 3)
    have hbx := Box.new wr 3 #[ii q]
    have hrow1 := hrow.nx hx2
    have hnx2 := hnx.trans hx2
    have hb2 := hb.nx hx2
    have hsz2 := ntr hsz hx2.size
    have HR := qh hrow1
    have HB := qh hbx
    clear hrow hrow1 hbx
    go_wp2_with (first | (go_at_call 97; refine (l04In_c A xs.length c B xs q _ (h.below hnx hB) nle hn).mono ?_; rintro e w' ⟨rfl, rfl⟩; rw [HX.out]) | (at_builtin; refine wpList_addI rfl _ _ rfl (w.heap.size + 1) wr.heap.size _ (freeTo xs k) q rfl rfl HR.out HB.out oM hsz2 ?_))
    intro A' k' w' hr' hg'
    have hnx3 := hg'.nx w hnx2 oM
    have hb3 := hg'.box _ _ _ dC hb2
    have hsz3 := ntr hsz2 hg'.size
    go_wp2
    go_roundw
    case rel => exact ⟨k + 1, oM, by have := Hq.out; go_num, ⟨_, rfl, by rw [HN.out, Hq.out]; exact hr'⟩, hnx3, hb3, hsz3⟩
    case measure => have := Hq.out; simp [intOf]; omega
theorem superFree_c (g b p t : Int) (A A2 : Option Addr) (c c2 B : Nat) (xs : List Int) (ms : List Mrk) (w : World) (h : Ins w B A xs) (hB : B <= w.heap.size) (hn : xs.length <= 1048576) :
 Calls Tryz.prog 62 #[.agg #[ii g, ii b, ii p, ii t, sC A xs.length c, sC A2 ms.length c2]] w (RetIc w (freeTo xs 54)) := by
 have b0 := Box.new w 26 #[ii g, ii b, ii p, ii t, sC A xs.length c, sC A2 ms.length c2]
 have hx0 := (Nx.refl w).alloc (.cells #[ii g, ii b, ii p, ii t, sC A xs.length c, sC A2 ms.length c2] 26)
 have hrow0 := RowI.nil (w.alloc (.cells #[ii g, ii b, ii p, ii t, sC A xs.length c, sC A2 ms.length c2] 26)) (w.heap.size + 1)
 have hx1 := hx0
 have hz1 : w.heap.size + 1 <= (w.alloc (.cells #[ii g, ii b, ii p, ii t, sC A xs.length c, sC A2 ms.length c2] 26)).heap.size := by simp
 go_enter func62, ntmps62
 go_wp2_with fail
 generalize w.alloc (.cells #[ii g, ii b, ii p, ii t, sC A xs.length c, sC A2 ms.length c2] 26) = W at *
 go_loopw [3, 4] (fun v i wr => ∃ (k : Nat), k <= 54 /\ i = ii ((k : Int) + 10) /\ (∃ u, u = v /\ RowI wr (w.heap.size + 1) u (freeTo xs k)) /\ Nx w wr /\ Box wr w.heap.size 26 #[ii g, ii b, ii p, ii t, sC A xs.length c, sC A2 ms.length c2] /\ w.heap.size + 1 <= wr.heap.size) (fun _ i _ => 64 - (intOf i).toNat)
 case atStart => exact ⟨0, oM, rfl, ⟨_, rfl, hrow0⟩, hx1, b0, hz1⟩
 case round =>
  obtain ⟨k, hk, rfl, ⟨u, rfl, hrow⟩, hnx, hb, hsz⟩ := hrel
  clear hrow0 hx1 hz1 b0 hx0
  obtain ⟨_, _, _, _, c4, _⟩ := hb.d6
  have hil := freeTo_len xs k
  by_cases hlt : k < 54
  case neg =>
   obtain rfl : k = 54 := oM
   obtain ⟨A', c', rfl, hc', hS⟩ := hrow.slc
   have hdl : decide (((54 : Nat) : Int) + 10 < 64) = false := by decide
   go_wp2
   go_ret
   exact ⟨A', c', rfl, hc', hS.low oM, hnx⟩
  have hdl : decide ((k : Int) + 10 < 64) = true := by simp; omega
  obtain ⟨q, Hq⟩ := nM ((k : Int) + 10)
  have hq0 : 0 <= q := by have := Hq.out; omega
  have hq1 : q < 64 := by have := Hq.out; omega
  rw [Hq.out] at hdl ⊢
  clear hdl
  have hdq : decide (q < 64) = true := by simp; omega
  cases hh : hasB xs xs.length q with
  | true =>
    have HX := qh hh
    have HN := qh (freeTo_no (xs := xs) (k := k) (by rw [Hq.out]; exact hh))
    clear hh
    have HR := qh hrow
    clear hrow
    go_wp2_with (go_at_call 132; refine (contains_c A xs.length c B xs q _ (h.below hnx hB) nle hn).mono ?_; rintro e w' ⟨rfl, rfl⟩; rw [HX.out])
    go_roundw
    case rel => exact ⟨k + 1, oM, by have := Hq.out; go_num, ⟨_, rfl, by rw [HN.out]; exact HR.out⟩, hnx, hb, hsz⟩
    case measure => have := Hq.out; simp [intOf]; omega
  | false =>
    have HX := qh hh
    have HN := qh (freeTo_yes (xs := xs) (k := k) (by rw [Hq.out]; exact hh))
    clear hh
    have hx2 := (Nx.refl wr).alloc (.cells #[ii q] 3)
    have hbx := Box.new wr 3 #[ii q]
    have hrow1 := hrow.nx hx2
    have hnx2 := hnx.trans hx2
    have hb2 := hb.nx hx2
    have hsz2 := ntr hsz hx2.size
    have HR := qh hrow1
    have HB := qh hbx
    clear hrow hrow1 hbx
    go_wp2_with (first | (go_at_call 132; refine (contains_c A xs.length c B xs q _ (h.below hnx hB) nle hn).mono ?_; rintro e w' ⟨rfl, rfl⟩; rw [HX.out]) | (at_builtin; refine wpList_addI rfl _ _ rfl (w.heap.size + 1) wr.heap.size _ (freeTo xs k) q rfl rfl HR.out HB.out oM hsz2 ?_))
    intro A' k' w' hr' hg'
    have hnx3 := hg'.nx w hnx2 oM
    have hb3 := hg'.box _ _ _ dC hb2
    have hsz3 := ntr hsz2 hg'.size
    go_wp2
    go_roundw
    case rel => exact ⟨k + 1, oM, by have := Hq.out; go_num, ⟨_, rfl, by rw [HN.out, Hq.out]; exact hr'⟩, hnx3, hb3, hsz3⟩
    case measure => have := Hq.out; simp [intOf]; omega
def RetIcC (w : World) (xs : List Int) (code : Int) (e : Ending) (w' : World) : Prop := ∃ (A : Option Addr) (c : Nat), e = .returned (.tuple #[sC A xs.length c, ii code]) /\ xs.length <= c /\ SlI w' w.heap.size A xs /\ Nx w w'
def Vl.tip (V : Vl) : Int := tipV V.b V.gs
def lastM (gs : List SgR) (t : Int) : Int := if 0 < gs.length then max t (gs.getD (gs.length - 1) sgZ).m else t
def Vl.top (V : Vl) : List Int := cntV V.b V.p V.t V.gs V.im V.tip
def newG (V : Vl) (p : Int) (n : Nat) (v t : Int) : SgR := ⟨p - 1, p, lastM V.gs t, none, 0, [((n : Int), v, V.top.getD n 0)]⟩
def segT (g : SgR) : BA := sealS (numsS (segN g.f g.t g.m g.cs))
def freeS (xs : List Int) : Int := (freeTo xs 54).getD 0 0
def apC (V : Vl) (cd p : Int) : Int := if cd ≠ 0 then cd else if p <= V.tip then 9 else if V.tip + 1 < p then 17 else if V.gs.length = 20 \/ V.g = 999999 then 7 else 0
def sltV (ss : List BA) (ws : List (Int × BA)) : Int := match newU (rdU (readP ss ws 0)) (rdU (readP ss ws 1)) with
 | some (_, s) => s
 | none => 0
def apD (ss : List BA) (V : Vl) (p : Int) (n : Nat) (v t : Int) : List BA × List (Int × BA) :=
 (ss.set (freeS V.xs).toNat (segT (newG V p n v t)), [(1 - sltV ss [], supT (V.g + 1) V.b V.p V.t (V.xs ++ [freeS V.xs]) V.ms)])
def apP (ss : List BA) (p : Int) (n : Nat) (v t : Int) : (List BA × List (Int × BA)) × Int :=
 if apC (ldV ss []).1 (ldV ss []).2 p = 0 then (apD ss (ldV ss []).1 p n v t, 0) else ((ss, []), apC (ldV ss []).1 (ldV ss []).2 p)
def askD (ss : List BA) (ws : List (Int × BA)) (p b v t : Int) : Bool := diskB ss ws && decide (ws.length = 0) && frameB p b v t
def awP (ss : List BA) (ws : List (Int × BA)) (p b v t : Int) : (List BA × List (Int × BA)) × Int :=
 if askD ss ws p b v t then ((settleTo kpAll (apP ss p b.toNat v t).1.1 (apP ss p b.toNat v t).1.2 (apP ss p b.toNat v t).1.2.length, []), (apP ss p b.toNat v t).2) else (([], []), 1)
theorem apP_yes {ss : List BA} {p v t : Int} {n : Nat} {V : Vl} {cd : Int} (h : ldV ss [] = (V, cd)) (hc : apC V cd p = 0) : apP ss p n v t = (apD ss V p n v t, 0) := by
 unfold apP; rw [h]; simp only; rw [if_pos hc]
theorem apP_no {ss : List BA} {p v t : Int} {n : Nat} {V : Vl} {cd c : Int} (h : ldV ss [] = (V, cd)) (hc : apC V cd p = c) (h0 : c ≠ 0) : apP ss p n v t = ((ss, []), c) := by
 unfold apP; rw [h]; simp only; rw [hc, if_neg h0]
theorem apC_code {V : Vl} {cd p : Int} (h : cd ≠ 0) : apC V cd p = cd := by unfold apC; rw [if_pos h]
theorem apC_there {V : Vl} {p : Int} (h : p <= V.tip) : apC V 0 p = 9 := by unfold apC; rw [if_neg (by simp), if_pos h]
theorem apC_gap {V : Vl} {p : Int} (h : V.tip + 1 < p) : apC V 0 p = 17 := by unfold apC; rw [if_neg (by simp), if_neg oM, if_pos h]
theorem apC_full {V : Vl} {p : Int} (h : p = V.tip + 1) (h2 : V.gs.length = 20 \/ V.g = 999999) : apC V 0 p = 7 := by unfold apC; rw [if_neg (by simp), if_neg oM, if_neg oM, if_pos h2]
theorem apC_yes {V : Vl} {p : Int} (h : p = V.tip + 1) (h2 : V.gs.length ≠ 20) (h3 : V.g ≠ 999999) : apC V 0 p = 0 := by unfold apC; rw [if_neg (by simp), if_neg oM, if_neg oM, if_neg (by simp [h2, h3])]
theorem ldV_code (ss : List BA) (ws : List (Int × BA)) : (ldV ss ws).2 = 0 \/ (ldV ss ws).2 = 10 \/ (ldV ss ws).2 = 19 := by
 cases hu : newU (rdU (readP ss ws 0)) (rdU (readP ss ws 1)) with
 | none => rw [ldV_none hu]; exact .inr (.inr rfl)
 | some us =>
   obtain ⟨u, s⟩ := us
   rw [ldV_some hu]
   split
   . exact .inl rfl
   . exact .inr (.inl rfl)
structure LdY (ss : List BA) (ws : List (Int × BA)) (V : Vl) : Prop where
 nu : newU (rdU (readP ss ws 0)) (rdU (readP ss ws 1)) = some ((V.g, V.b, V.p, V.t, V.xs, V.ms), sltV ss ws)
 slot : sltV ss ws = 0 \/ sltV ss ws = 1
 ok : VltY V.g V.b V.p V.t V.xs V.ms V.gs V.im
 rd : ldOk ss ws (V.g, V.b, V.p, V.t, V.xs, V.ms) = true
 eq : V = ldW ss ws (V.g, V.b, V.p, V.t, V.xs, V.ms)
theorem ldV_ldY {ss : List BA} {ws : List (Int × BA)} {V : Vl} (h : ldV ss ws = (V, 0)) : LdY ss ws V := by
 cases hu : newU (rdU (readP ss ws 0)) (rdU (readP ss ws 1)) with
 | none => rw [ldV_none hu] at h; injection h with _ h; exact absurd h dC
 | some us =>
   obtain ⟨u, s⟩ := us
   rw [ldV_some hu] at h
   split at h
   . rename_i hc
     rw [Bool.and_eq_true] at hc
     injection h with h _
     subst h
     have hs : sltV ss ws = s := by unfold sltV; rw [hu]
     refine ⟨by rw [hu, hs]; rfl, by rw [hs]; exact newU_slot hu, vltB_yes hc.2, hc.1, rfl⟩
   . injection h with _ h; exact absurd h dC
theorem LdY.v {ss : List BA} {ws : List (Int × BA)} {V : Vl} (h : LdY ss ws V) : ldV ss ws = (V, 0) := by
 have h2 : (ldW ss ws (V.g, V.b, V.p, V.t, V.xs, V.ms)).ok = true := by rw [<- h.eq]; exact h.ok.b
 have := ldV_yes h.nu h.rd h2
 rw [<- h.eq] at this
 exact this
theorem hasB_all (xs : List Int) (x : Int) : hasB xs xs.length x = xs.contains x := by unfold hasB; rw [List.take_length]
theorem filter_ne_len {y : Int} : ∀ {M : List Int}, M.Nodup -> M.length <= (M.filter fun x => !(x == y)).length + 1
 | [], _ => by simp
 | x :: M, h => by
   obtain ⟨h1, h2⟩ := List.nodup_cons.1 h
   by_cases e : x = y
   . subst e
     have : M.filter (fun z => !(z == x)) = M := List.filter_eq_self.2 fun z hz => by
      simp only [Bool.not_eq_true', beq_eq_false_iff_ne]
      rintro rfl
      exact h1 hz
     simp [this]
   . have := filter_ne_len (y := y) h2
     simp [e]; simpa using this
theorem filter_len {L : List Int} (hL : L.Nodup) : ∀ xs : List Int, L.length <= (L.filter fun x => !xs.contains x).length + xs.length
 | [] => by
   have : L.filter (fun x => !([] : List Int).contains x) = L := List.filter_eq_self.2 fun z hz => by simp
   rw [this]; simp
 | y :: xs => by
   have h1 := filter_len hL xs
   have h2 := filter_ne_len (y := y) (hL.filter (fun x => !xs.contains x))
   rw [List.filter_filter] at h2
   have e : (L.filter fun x => !(y :: xs).contains x) = L.filter (fun a => !(a == y) && !xs.contains a) := List.filter_congr fun z _ => by rw [List.contains_cons, Bool.not_or]
   rw [e, List.length_cons]
   omega
theorem nodup_map_add (k : Nat) : ((List.range k).map fun i : Nat => (i : Int) + 10).Nodup := by
 rw [List.nodup_iff_pairwise_ne, List.pairwise_map]
 exact (List.nodup_range (n := k)).imp fun h e => h oM
theorem GrewT.refl (t : TypeId) (B : Nat) (w : World) : GrewT t B w w := ⟨fun _ h _ => h, fun _ _ _ h _ => h, fun _ _ _ _ h => h, Nat.le_refl _⟩
theorem grewT_of {w w' : World} {B : Nat} {v : Value} {xs : List Int} (hown : RowI w B v xs) (hg' : w.grownBy w' v.ownBlock) : GrewT 3 B w w' := by
 have hrow : ∀ k, Value.ownBlock v = some k -> B <= k := fun k hk => (World.ownsRow.lt hown k hk).1
 refine ⟨fun b hb hbB => Below.grown hb hg' hb.size (fun k hk => ntr hbB (hrow k hk)), fun lo hi b hb hbB => ?_, fun g t xs' ht hbg => hbg.grown hg' (hown.ne hbg ht), hg'.size⟩
 refine ⟨hg'.os.trans hb.os, hg'.tape.trans hb.tape, hg'.output.trans hb.output, ntr hb.size hg'.size, fun k hk hr => (hg'.block k (Nat.lt_of_lt_of_le hk hb.size) fun e => ?_).trans (hb.block k hk hr)⟩
 have := hrow k e.symm
 omega
theorem iV_one (xs : List Int) : ∀ u ∈ iV xs, u.oneCell' = true := fun u hu => by
 unfold iV at hu
 obtain ⟨x, _, rfl⟩ := List.mem_map.1 hu
 rfl
theorem iV_len (xs : List Int) : (iV xs).length = xs.length := by unfold iV; simp
theorem wp_addAllI {w : World} {o : Oper} {a : Act} {K : Act -> World -> Prop} {Q : Exit -> Act -> World -> Prop}
 (s x : Operand) (ho : o.op = .call { callee := .builtin .append, args := #[s, x], argTypes := #[23, 23] })
 (B g0 : Nat) (A : Option Addr) (c : Nat) (xs : List Int) (hs : a.eval s = sC (some ⟨g0, 0, none⟩) 0 0) (hx : a.eval x = sC A xs.length c) (hown : RowI w B (sC (some ⟨g0, 0, none⟩) 0 0) []) {B' : Nat} (hrow : Ins w B' A xs)
 (hm : xs.length <= 1048576) (hB : B <= w.heap.size)
 (hK : ∀ A' k' w', RowI w' B (sC A' xs.length k') xs -> GrewT 3 B w w' -> (∀ k, k < w.heap.size -> k ≠ g0 -> w'.heap[k]? = w.heap[k]?) -> K (a.put o.dst (sC A' xs.length k')) w') :
 o.wp Tryz.prog a w K Q := by
 obtain ⟨i0, hi0, hz0, hz1, hz2⟩ := info_parts info_int
 rcases Nat.eq_zero_or_pos xs.length with h0 | hp
 . have hgs : xs = [] := List.eq_nil_of_length_eq_zero h0
   subst hgs
   have hrun : (Builtin.append_ #[23, 23] o.type #[sC (some ⟨g0, 0, none⟩) 0 0, sC A 0 c]).run Tryz.prog w = .ok (sC (some ⟨g0, 0, none⟩) 0 0) w := by
    rcases A with _ | a'
    . simp [Builtin.append_, run_underlying underlying23, sizeOf, typeInfo, hi0, Builtin.lenOf, Builtin.firstCells, storeCells]
    . simp [Builtin.append_, run_underlying underlying23, sizeOf, typeInfo, hi0, Builtin.lenOf, Builtin.firstCells, storeCells, loadCells, loadCellsFrom]
   have hx' : a.eval x = sC A 0 c := hx
   unfold Oper.wp execOp
   simp only [ho, resolve, invoke, builtin, Sem.run_bind, Sem.run_pure, Result.andThen_ok, List.map_toArray, List.map_cons, List.map_nil, hs, hx', hrun]
   exact hK _ _ w hown (GrewT.refl _ _ _) (fun _ _ _ => rfl)
 . obtain ⟨b, off, rfl, hb, hc⟩ := hrow oM
   refine wp_append_own w s x 23 ho B 3 i0 _ 1 8 underlying23 hi0 hz0 hz1 hz2 rfl oM _ 0 _ hs hown ⟨b, off, none⟩ xs.length c (iV xs) hx (by rw [iV_len, Nat.mul_one]) (fun j u hj => ?_) (iV_one xs) (by unfold maxLen; omega) oM hB ?_
   . have hj' : j < xs.length := by
      have := (List.getElem?_eq_some_iff.1 hj).1
      rwa [iV_len] at this
     rw [iV_get xs j hj'] at hj
     rw [addr_add', hc j hj']
     exact hj
   . intro v' w' hw' hg' _
     have hr : RowI w' B v' xs := by
      unfold RowI
      have : w'.ownsRow B 3 1 v' (0 + xs.length) (iV [] ++ iV xs) := hw'
      rw [Nat.zero_add] at this
      exact this
     obtain ⟨A', k', rfl, _⟩ := hr.sl
     exact hK A' k' w' hr (grewT_of hown hg') (fun k hk hne => hg'.block k hk (fun e => hne (by simpa [Value.ownBlock] using e)))
theorem free_ok {xs : List Int} (h : xs.length <= 20) : 10 <= freeS xs /\ freeS xs <= 63 /\ freeS xs ∉ xs := by
 have h1 := filter_len (nodup_map_add 54) xs
 have h2 : (freeTo xs 54) = ((List.range 54).map fun i : Nat => (i : Int) + 10).filter fun x => !xs.contains x := by
  unfold freeTo
  exact List.filter_congr fun z _ => by rw [hasB_all]
 rw [<- h2] at h1
 simp only [List.length_map, List.length_range] at h1
 match hF : freeTo xs 54 with
 | [] => rw [hF] at h1; simp at h1; omega
 | f :: fs =>
   have hf : freeS xs = f := by unfold freeS; rw [hF]; rfl
   have hm : f ∈ freeTo xs 54 := by rw [hF]; simp
   rw [h2, List.mem_filter, List.mem_map] at hm
   obtain ⟨⟨i, hi, rfl⟩, hn⟩ := hm
   rw [List.mem_range] at hi
   rw [hf]
   refine ⟨oM, oM, fun hm => ?_⟩
   rw [<- List.contains_iff_mem] at hm
   rw [hm] at hn
   simp at hn
theorem tb_snoc {xs : List Int} {x : Int} (h : tbB xs = true) (hl : xs.length < 20) (h1 : 10 <= x /\ x <= 63) (hn : x ∉ xs) : tbB (xs ++ [x]) = true := by
 obtain ⟨_, hto⟩ := tbB_yes h
 unfold tbB
 rw [Bool.and_eq_true]
 refine ⟨decide_eq_true sM, List.all_eq_true.2 fun k hk => ?_⟩
 have hk' : k < xs.length + 1 := by simpa using hk
 unfold tbOk hasB
 by_cases hlt : k < xs.length
 . have := hto k hlt
   unfold tbOk hasB at this
   rw [gdE, List.getElem?_append_left hlt, <- gdE, List.take_append_of_le_length oM]
   exact this
 . obtain rfl : k = xs.length := oM
   have e : (xs ++ [x]).getD xs.length 0 = x := by rw [gdE, List.getElem?_append_right nle]; simp
   rw [e, List.take_append_of_le_length nle, List.take_length, inB_mk h1.1 h1.2]
   cases hc : xs.contains x with
   | false => rfl
   | true => rw [List.contains_iff_mem] at hc; exact absurd hc hn
theorem app_contO {x : List Int} {cs : List Chg} (hx : contB x = true) (h : chsB cs = true) : contB (app pO x cs) = true := by
 obtain ⟨h8, hv⟩ := contB_yes hx
 refine contB_mk (by rw [app_len]; exact h8) fun j hj => ?_
 rw [app_len, h8] at hj
 rw [app_at0 pO (chsB_blk h) h8 hj]
 cases hc : noteM noM cs (j : Int) with
 | none => have := hv j hj; exact inB_mk this.1 this.2
 | some c =>
   have := (note_right h j hj c hc).2
   have := (chB_parts this).2.2
   exact inB_mk this.1 this.2
theorem fits_of {x : List Int} {cs : List Chg} (h8 : x.length = 8) (h : chsB cs = true) (he : app pO x cs = x) : Fits x cs := fun j hj c hc => by
 have := app_at0 pO (chsB_blk h) h8 hj
 rw [he, hc] at this
 exact this.symm
structure Ct (b : Int) (gs : List SgR) (c : List Int) (a : Nat) (c0 : List Int) : Prop where
 cont : contB c0 = true
 chi : ChI b c0 gs
 fw : ∀ j, a + j <= gs.length -> ctK c0 gs (a + j) = fwK c gs a j
 bk : ∀ j, j <= a -> ctK c0 gs (a - j) = bkK c gs a j
theorem bk_cont {b : Int} {gs : List SgR} {c : List Int} {a : Nat} (hl : Lead b gs) (ha : a <= gs.length) (hc : contB c = true) : ∀ j, j <= a -> contB (bkK c gs a j) = true
 | 0, _ => hc
 | j + 1, hj => app_contO (bk_cont hl ha hc j oM) (hl.ok _ oM)
theorem ct_of {b : Int} {gs : List SgR} {c : List Int} {a : Nat} (hch : chainB b gs = true) (ha : a <= gs.length) (hc : contB c = true) (hF : fitF c gs a = true) (hB : fitB c gs a = true) : Ct b gs c a (bkK c gs a a) := by
 have hl := chainB_lead hch
 have h0 := bk_cont hl ha hc a nle
 have hnew : ∀ j, j < a -> app pN (bkK c gs a j) (gs.getD (a - 1 - j) sgZ).cs = bkK c gs a j := fun j hj => of_decide_eq_true (List.all_eq_true.1 hB j (by simpa using hj))
 have hold : ∀ j, a + j < gs.length -> app pO (fwK c gs a j) (gs.getD (a + j) sgZ).cs = fwK c gs a j := fun j hj => of_decide_eq_true (List.all_eq_true.1 hF j sM)
 have hbk : ∀ k, k <= a -> ctK (bkK c gs a a) gs k = bkK c gs a (a - k) := fun k => by
  induction k with
  | zero => intro _; rfl
  | succ k ih =>
    intro hk
    show app pN (ctK _ gs k) (gs.getD k sgZ).cs = _
    have e : a - k = (a - (k + 1)) + 1 := oM
    rw [ih oM, e]
    show app pN (app pO (bkK c gs a (a - (k + 1))) (gs.getD (a - 1 - (a - (k + 1))) sgZ).cs) _ = _
    have e2 : a - 1 - (a - (k + 1)) = k := oM
    have h8 := (contB_yes (bk_cont hl ha hc (a - (k + 1)) oM)).1
    have hn := hnew (a - (k + 1)) oM
    rw [e2] at hn ⊢
    rw [app_app pN pO (chsB_blk (hl.ok k oM)) h8, hn]
 have hfw : ∀ j, a + j <= gs.length -> ctK (bkK c gs a a) gs (a + j) = fwK c gs a j := fun j => by
  induction j with
  | zero => intro _; rw [Nat.add_zero, hbk a nle, Nat.sub_self]; rfl
  | succ j ih =>
    intro hj
    show app pN (ctK _ gs (a + j)) (gs.getD (a + j) sgZ).cs = _
    rw [ih oM]; rfl
 refine ⟨h0, fun k hk => ?_, hfw, fun j hj => by rw [hbk _ oM, show a - (a - j) = j by omega]⟩
 have hlk : lnk b gs k = true := by
  unfold chainB at hch
  rw [Bool.and_eq_true] at hch
  exact List.all_eq_true.1 hch.2 k (by simpa using hk)
 have htm : tmK gs k <= (gs.getD k sgZ).m := by
  unfold lnk at hlk
  simp only [Bool.and_eq_true, decide_eq_true_eq] at hlk
  exact hlk.1.2
 refine ⟨hl.seg k hk, hl.from_ k hk, htm, ?_⟩
 rcases Nat.lt_or_ge k a with hlt | hge
 . have e : a - k = (a - (k + 1)) + 1 := oM
   have e2 : a - 1 - (a - (k + 1)) = k := oM
   have h8 := (contB_yes (bk_cont hl ha hc (a - (k + 1)) oM)).1
   have ex : ctK (bkK c gs a a) gs k = app pO (bkK c gs a (a - (k + 1))) (gs.getD k sgZ).cs := by
    rw [hbk k oM, e]
    show app pO _ (gs.getD (a - 1 - (a - (k + 1))) sgZ).cs = _
    rw [e2]
   rw [ex]
   exact fits_of (by rw [app_len]; exact h8) (hl.ok k hk) (app_app pO pO (chsB_blk (hl.ok k hk)) h8)
 . obtain ⟨j, rfl⟩ : ∃ j, k = a + j := ⟨k - a, oM⟩
   rw [hfw j oM]
   have h8 : (fwK c gs a j).length = 8 := by rw [fwK_len]; exact (contB_yes hc).1
   exact fits_of h8 (hl.ok _ hk) (hold j hk)
theorem stp_cont {g b p t : Int} {xs : List Int} {ms : List Mrk} {gs : List SgR} {im : List Int} (hy : VltY g b p t xs ms gs im) : contB (stp b p t gs im).1 = true := by
 have hl := chainB_lead hy.chain
 obtain ⟨_, h1, h2⟩ := stp_le im hl hy.places
 unfold stp
 by_cases hlt : p < t
 . rw [if_pos hlt]; exact app_cont hy.cont (hl.ok _ (h1 hlt))
 . rw [if_neg hlt]
   by_cases hgt : t < p
   . rw [if_pos hgt]
     have hp : isRet b gs p = true := by have := hy.places; unfold plcB at this; simp only [Bool.and_eq_true] at this; exact this.1.2
     exact app_contO hy.cont (hl.ok _ (by have := (ahd_at hp).1; have := h2 hgt; omega))
   . rw [if_neg hgt]; exact hy.cont
theorem VltY.ct {g b p t : Int} {xs : List Int} {ms : List Mrk} {gs : List SgR} {im : List Int} (hy : VltY g b p t xs ms gs im) :
 Ct b gs (stp b p t gs im).1 (stp b p t gs im).2 (bkK (stp b p t gs im).1 gs (stp b p t gs im).2 (stp b p t gs im).2) :=
 ct_of hy.chain (stp_le im (chainB_lead hy.chain) hy.places).1 (stp_cont hy) hy.fwd hy.bck
theorem top_ct {g b p t : Int} {xs : List Int} {ms : List Mrk} {gs : List SgR} {im : List Int} (hy : VltY g b p t xs ms gs im) :
 cntV b p t gs im (tipV b gs) = fwK (stp b p t gs im).1 gs (stp b p t gs im).2 (gs.length - (stp b p t gs im).2) /\ cntV b p t gs im (tipV b gs) = ctK (bkK (stp b p t gs im).1 gs (stp b p t gs im).2 (stp b p t gs im).2) gs gs.length := by
 have hl := chainB_lead hy.chain
 have ha := (stp_le im hl hy.places).1
 have ht := (ahd_of hl (Nat.le_refl gs.length)).2
 have h1 : cntV b p t gs im (tipV b gs) = fwK (stp b p t gs im).1 gs (stp b p t gs im).2 (gs.length - (stp b p t gs im).2) := by
  unfold cntV tipV
  rw [ht, if_pos ha]
 refine ⟨h1, ?_⟩
 rw [h1, <- hy.ct.fw _ oM, show (stp b p t gs im).2 + (gs.length - (stp b p t gs im).2) = gs.length by omega]
theorem top_cont {g b p t : Int} {xs : List Int} {ms : List Mrk} {gs : List SgR} {im : List Int} (hy : VltY g b p t xs ms gs im) : contB (cntV b p t gs im (tipV b gs)) = true := by
 rw [(top_ct hy).2]; exact hy.ct.chi.cont hy.ct.cont _ nle
theorem idx_app : ∀ {xs : List Int} (ys : List Int) {n : Int}, idx xs n < xs.length -> idx (xs ++ ys) n = idx xs n
 | [], _, _, h => absurd h (by simp)
 | x :: xs, ys, n, h => by
   rw [List.cons_append, idx_cons, idx_cons]
   by_cases e : x = n
   . rw [if_pos e, if_pos e]
   . rw [if_neg e, if_neg e]
     rw [idx_cons, if_neg e, List.length_cons] at h
     rw [idx_app ys oM]
theorem retL_app (b : Int) (gs : List SgR) (x : SgR) : retL b (gs ++ [x]) = retL b gs ++ [x.t] := by unfold retL; rw [List.map_append]; rfl
theorem isRet_app {b : Int} {gs : List SgR} {n : Int} (x : SgR) (h : isRet b gs n = true) : isRet b (gs ++ [x]) n = true /\ ahd b (gs ++ [x]) n = ahd b gs n := by
 have h1 : idx (retL b gs) n < (retL b gs).length := by
  unfold isRet at h
  rw [retL_len]; exact of_decide_eq_true h
 have h2 := idx_app [x.t] h1
 rw [retL_len] at h1
 refine ⟨?_, ?_⟩
 . unfold isRet
   rw [retL_app, h2]
   exact decide_eq_true sM
 . unfold ahd; rw [retL_app, h2]
theorem stp_app {b p t : Int} {gs : List SgR} {ms : List Mrk} (im : List Int) (x : SgR) (hl : Lead b gs) (h : plcB b p t gs ms = true) : stp b p t (gs ++ [x]) im = stp b p t gs im := by
 obtain ⟨_, h1, h2⟩ := stp_le im hl h
 have hp : isRet b gs p = true := by unfold plcB at h; simp only [Bool.and_eq_true] at h; exact h.1.2
 have ha := (ahd_at hp).1
 unfold stp
 rw [(isRet_app x hp).2]
 by_cases hlt : p < t
 . rw [if_pos hlt, if_pos hlt, getD_pre gs [x] (h1 hlt)]
 . rw [if_neg hlt, if_neg hlt]
   by_cases hgt : t < p
   . rw [if_pos hgt, if_pos hgt, getD_pre gs [x] (by have := h2 hgt; omega)]
   . rw [if_neg hgt, if_neg hgt]
theorem fwK_app (c : List Int) (gs : List SgR) (x : SgR) (a : Nat) : ∀ j, a + j <= gs.length -> fwK c (gs ++ [x]) a j = fwK c gs a j
 | 0, _ => rfl
 | j + 1, h => by
   show app pN (fwK c (gs ++ [x]) a j) ((gs ++ [x]).getD (a + j) sgZ).cs = _
   rw [fwK_app c gs x a j oM, getD_pre gs [x] oM]; rfl
theorem bkK_app (c : List Int) (gs : List SgR) (x : SgR) (a : Nat) (ha : a <= gs.length) : ∀ j, j <= a -> bkK c (gs ++ [x]) a j = bkK c gs a j
 | 0, _ => rfl
 | j + 1, h => by
   show app pO (bkK c (gs ++ [x]) a j) ((gs ++ [x]).getD (a - 1 - j) sgZ).cs = _
   rw [bkK_app c gs x a ha j oM, getD_pre gs [x] oM]; rfl
theorem plcB_app {b p t : Int} {gs : List SgR} {ms : List Mrk} (x : SgR) (h : plcB b p t gs ms = true) : plcB b p t (gs ++ [x]) ms = true := by
 unfold plcB mksR at h ⊢
 simp only [Bool.and_eq_true] at h ⊢
 exact ⟨⟨List.all_eq_true.2 fun k hk => (isRet_app x (List.all_eq_true.1 h.1.1 k hk)).1, (isRet_app x h.1.2).1⟩, (isRet_app x h.2).1⟩
structure Nxt (b p t : Int) (gs : List SgR) (im : List Int) (x : SgR) (n : Nat) (v : Int) : Prop where
 seg : segB x.f x.t x.m x.cs = true
 at_ : x.f = tipV b gs
 tm : tmK gs gs.length <= x.m
 cs : x.cs = [((n : Int), v, (cntV b p t gs im (tipV b gs)).getD n 0)]
 lt : n < 8
theorem ext_y {g b p t : Int} {xs : List Int} {ms : List Mrk} {gs : List SgR} {im : List Int} {x : SgR} {n : Nat} {v : Int} (hy : VltY g b p t xs ms gs im) (hx : Nxt b p t gs im x n v) (hg : g ≠ 999999) (hn : gs.length < 20) :
 VltY (g + 1) b p t (xs ++ [freeS xs]) ms (gs ++ [x]) im := by
 have hl := chainB_lead hy.chain
 obtain ⟨s0, s1, s2, s3, s4, s5⟩ := superB_yes hy.super
 have ha := (stp_le im hl hy.places).1
 have hlen := hy.len
 obtain ⟨f1, f2, f3⟩ := free_ok (xs := xs) oM
 have ht8 := (contB_yes (top_cont hy)).1
 have hct := hy.ct
 refine ⟨superB_mk (inB_mk oM oM) (inB_mk s1.1 s1.2) (inB_mk s2.1 s2.2) (inB_mk s3.1 s3.2) (tb_snoc s4 oM ⟨f1, f2⟩ f3) s5, hy.cont, by simp [hlen], ?_, plcB_app x hy.places, ?_, ?_⟩
 . refine (hct.chi.snoc ⟨hx.seg, hx.at_, hx.tm, ?_⟩).chain hct.cont (inB_mk s1.1 s1.2) sM
   rw [hx.cs, <- (top_ct hy).2]
   exact fits_one _ n v
 . rw [stp_app im x hl hy.places]
   unfold fitF
   refine List.all_eq_true.2 fun j hj => ?_
   have hj' : j < gs.length + 1 - (stp b p t gs im).2 := by simpa using hj
   rw [fwK_app _ gs x _ j oM]
   by_cases hlt : (stp b p t gs im).2 + j < gs.length
   . rw [getD_pre gs [x] hlt]
     exact List.all_eq_true.1 hy.fwd j sM
   . have e : (stp b p t gs im).2 + j = gs.length := oM
     have e2 : j = gs.length - (stp b p t gs im).2 := oM
     rw [e, getD_app, e2, <- (top_ct hy).1]
     unfold oldB
     rw [hx.cs, app_one]
     exact decide_eq_true (set_getD (by rw [ht8]; exact hx.lt))
 . rw [stp_app im x hl hy.places]
   unfold fitB
   refine List.all_eq_true.2 fun j hj => ?_
   have hj' : j < (stp b p t gs im).2 := by simpa using hj
   rw [bkK_app _ gs x _ ha j oM, getD_pre gs [x] oM]
   exact List.all_eq_true.1 hy.bck j hj
theorem tm_last (gs : List SgR) (t : Int) (h0 : 0 <= t) : tmK gs gs.length <= lastM gs t := by
 unfold lastM
 cases hn : gs.length with
 | zero => rw [if_neg oM]; show (0 : Int) <= t; exact h0
 | succ k =>
   rw [if_pos oM, show k + 1 - 1 = k by omega]
   show (gs.getD k sgZ).m <= _
   exact Int.le_max_right _ _
theorem newG_nxt {V : Vl} {p v t : Int} {n : Nat} (hy : VltY V.g V.b V.p V.t V.xs V.ms V.gs V.im) (hf : frameB p (n : Int) v t = true) (hp : p = V.tip + 1) : Nxt V.b V.p V.t V.gs V.im (newG V p n v t) n v := by
 obtain ⟨f1, f2, f3, f4⟩ := frameB_yes hf
 have hl := chainB_lead hy.chain
 have hn8 : n < 8 := oM
 have ho := (contB_yes (top_cont hy)).2 n hn8
 have hm : 0 <= lastM V.gs t /\ lastM V.gs t <= 999999 := by
  unfold lastM
  split
  . have := (segB_yes (hl.seg (V.gs.length - 1) oM)).2.2.2.1
    rw [Int.max_def]
    split <;> omega
  . exact f4
 refine ⟨segB_mk (by show 0 <= p - 1; omega) (by show p - 1 < p; omega) f1.2 (inB_mk hm.1 hm.2) (ch_one (chB_mk f2.1 f2.2 f3.1 f3.2 ho.1 ho.2)), by show p - 1 = tipV V.b V.gs; unfold Vl.tip at hp; omega, tm_last _ _ f4.1, rfl, hn8⟩
theorem flat_get : ∀ (cs : List Chg) (j r : Nat), j < cs.length -> r < 3 -> (cs.flatMap chN).getD (3 * j + r) 0 = (chN (cs.getD j chZ)).getD r 0
 | [], j, r, h, _ => by simp at h
 | c :: cs, 0, r, h, hr => by
   show (chN c ++ cs.flatMap chN).getD (3 * 0 + r) 0 = (chN c).getD r 0
   rw [gdE, gdE, List.getElem?_append_left (by show _ < 3; omega), show 3 * 0 + r = r by omega]
 | c :: cs, j + 1, r, h, hr => by
   show (chN c ++ cs.flatMap chN).getD (3 * (j + 1) + r) 0 = (chN (cs.getD j chZ)).getD r 0
   rw [<- flat_get cs j r (by simpa using h) hr, gdE, gdE, List.getElem?_append_right (by show 3 <= _; omega)]
   have : (chN c).length = 3 := rfl
   rw [this, show 3 * (j + 1) + r - 3 = 3 * j + r by omega]
theorem segN_get (f t m : Int) (cs : List Chg) (j r : Nat) (hj : j < cs.length) (hr : r < 3) : (segN f t m cs).getD (3 + 3 * j + r) 0 = (chN (cs.getD j chZ)).getD r 0 := by
 rw [<- flat_get cs j r hj hr]
 unfold segN
 rw [gdE, gdE, List.getElem?_append_right (by show 3 <= _; omega)]
 have : [f.toNat, t.toNat, m.toNat].length = 3 := rfl
 rw [this, show 3 + 3 * j + r - 3 = 3 * j + r by omega]
theorem sgOf_segN {f t m : Nat} {cs : List Chg} (h : segB f t m cs = true) : sgOf (segN f t m cs) = (f, t, m, cs) := by
 obtain ⟨_, _, _, _, hc⟩ := segB_yes h
 have hl := segN_len f t m cs
 unfold sgOf
 rw [hl, show (3 + 3 * cs.length) / 3 - 1 = cs.length by omega]
 refine Prod.ext (by rfl) (Prod.ext (by rfl) (Prod.ext (by rfl) ?_))
 show chOf (segN f t m cs) cs.length = cs
 unfold chOf
 apply List.ext_getElem (by simp)
 intro j h1 h2
 rw [List.getElem_map, List.getElem_range]
 have g0 := segN_get f t m cs j 0 h2 oM
 have g1 := segN_get f t m cs j 1 h2 oM
 have g2 := segN_get f t m cs j 2 h2 oM
 have hk := chsB_to hc j h2
 have hd : cs.getD j chZ = cs[j] := by rw [gdE, List.getElem?_eq_getElem h2]; rfl
 unfold chN3
 rw [show 3 + 3 * j = 3 + 3 * j + 0 by omega, g0, show 3 + 3 * j + 0 + 1 = 3 + 3 * j + 1 by omega, show 3 + 3 * j + 0 + 2 = 3 + 3 * j + 2 by omega, g1, g2]
 unfold okCh chB inB at hk
 rw [hd] at hk ⊢
 generalize cs[j] = x at *
 obtain ⟨x0, x1, x2⟩ := x
 simp at hk
 show (((x0.toNat : Nat) : Int), ((x1.toNat : Nat) : Int), ((x2.toNat : Nat) : Int)) = (x0, x1, x2)
 rw [Int.toNat_of_nonneg oM, Int.toNat_of_nonneg oM, Int.toNat_of_nonneg oM]
theorem rdG_back {f t m : Nat} {cs : List Chg} (h : segB f t m cs = true) : rdG (segS f t m cs) = some (f, t, m, cs) := by
 have hs := sgOf_segN h
 have hl := segN_len f t m cs
 have hq : segS f t m cs = sealS (numsS (segN f t m cs)) := by unfold segS; rw [if_pos h]
 rw [hq, rdG_yes (rdN_seal _ (segN_all h)) (okLen_yes oM oM) (by unfold g4B; rw [hs]; exact h), hs]
theorem l04Put_c (A A2 : Option Addr) (n c n2 c2 B : Nat) (ss : List BA) (ws : List (Int × BA)) (g b p t : Int) (Ax Am : Option Addr) (cx cm : Nat) (xs : List Int) (ms : List Mrk) (w : World) (h : Strs w B A n ss) (h2 : Wrs w B A2 n2 ws) (hs : Ins w B Ax xs) (hmk : Mks w B Am ms) (hB : B <= w.heap.size) (ha : 1 < n) (hn : n <= 1048576) (hn2 : n2 <= 1048575)
 (hr0 : (readP ss ws 0).size <= 65536) (hr1 : (readP ss ws 1).size <= 65536) (u : U6) (s : Int) (hu : newU (rdU (readP ss ws 0)) (rdU (readP ss ws 1)) = some (u, s)) (hok : superB (u.1 + 1) b p t xs ms = true) :
 Calls Tryz.prog 61 #[.agg #[sC A n c, sC A2 n2 c2], .agg #[ii g, ii b, ii p, ii t, sC Ax xs.length cx, sC Am ms.length cm]] w (RetWrite w A n c (ws ++ [(1 - s, nxtS u b p t xs ms)])) := by
 have hsl := newU_slot hu
 have hgn := newU_gen rfl rfl hu
 have e0 : Box (((w.alloc (.cells #[sC A n c, sC A2 n2 c2] 35)).alloc (.cells #[ii g, ii b, ii p, ii t, sC Ax xs.length cx, sC Am ms.length cm] 26)).alloc (.cells #[nsl, nsl] 35)) w.heap.size 35 #[sC A n c, sC A2 n2 c2] := ((Box.new w _ _).alloc _).alloc _
 have b0 : Box (((w.alloc (.cells #[sC A n c, sC A2 n2 c2] 35)).alloc (.cells #[ii g, ii b, ii p, ii t, sC Ax xs.length cx, sC Am ms.length cm] 26)).alloc (.cells #[nsl, nsl] 35)) (w.heap.size + 1) 26 #[ii g, ii b, ii p, ii t, sC Ax xs.length cx, sC Am ms.length cm] := by have := (Box.new (w.alloc (.cells #[sC A n c, sC A2 n2 c2] 35)) 26 #[ii g, ii b, ii p, ii t, sC Ax xs.length cx, sC Am ms.length cm]).alloc (.cells #[nsl, nsl] 35); rwa [World.size_alloc] at this
 have r0 : Box (((w.alloc (.cells #[sC A n c, sC A2 n2 c2] 35)).alloc (.cells #[ii g, ii b, ii p, ii t, sC Ax xs.length cx, sC Am ms.length cm] 26)).alloc (.cells #[nsl, nsl] 35)) (w.heap.size + 1 + 1) 35 #[nsl, nsl] := by have := Box.new ((w.alloc (.cells #[sC A n c, sC A2 n2 c2] 35)).alloc (.cells #[ii g, ii b, ii p, ii t, sC Ax xs.length cx, sC Am ms.length cm] 26)) 35 #[nsl, nsl]; rwa [World.size_alloc, World.size_alloc] at this
 have hx0 := (((Nx.refl w).alloc (.cells #[sC A n c, sC A2 n2 c2] 35)).alloc (.cells #[ii g, ii b, ii p, ii t, sC Ax xs.length cx, sC Am ms.length cm] 26)).alloc (.cells #[nsl, nsl] 35)
 go_enter func61, ntmps61
 go_wp2_with fail
 generalize (((w.alloc (.cells #[sC A n c, sC A2 n2 c2] 35)).alloc (.cells #[ii g, ii b, ii p, ii t, sC Ax xs.length cx, sC Am ms.length cm] 26)).alloc (.cells #[nsl, nsl] 35)) = W at *
 obtain ⟨gS, HgS⟩ := nM (w.heap.size + 1)
 obtain ⟨gD, HgD⟩ := nM (w.heap.size + 1 + 1)
 have hgS : w.heap.size <= gS := by have := HgS.out; omega
 have hgD : w.heap.size <= gD := by have := HgD.out; omega
 have hneE : w.heap.size ≠ gD := by have := HgD.out; omega
 have hneE2 : w.heap.size ≠ gS := by have := HgS.out; omega
 have hneS : gS ≠ gD := by have := HgS.out; have := HgD.out; omega
 rw [HgD.out, HgS.out]
 rw [HgS.out] at b0
 rw [HgD.out] at r0
 refine (l04Newest_c A A2 n c n2 c2 B ss ws _ (h.below hx0 hB) (h2.below hx0 hB) (ntr hB hx0.size) ha hn oM hr0 hr1).mono ?_
 rintro e w1 ⟨hnx1, _, h3⟩
 obtain ⟨Bx, dx, Bm, dm, he, hfit⟩ := h3 u s hu
 clear h3 hfit
 have HU := qh hu
 have HOK' := qh hok
 obtain ⟨ug, ub, up, uq, uxs, ums⟩ := u
 have HOK : Hid (superB (ug + 1) b p t xs ms = true) := HOK'
 replace hgn : 1 <= ug /\ ug <= 999999 := hgn
 replace he : e = .returned (.tuple #[.agg #[ii ug, ii ub, ii up, ii uq, sC Bx uxs.length dx, sC Bm ums.length dm], ii s]) := he
 subst he
 clear hu hok
 have e1 := e0.nx hnx1
 have b1 := b0.nx hnx1
 have r1 := r0.nx hnx1
 have hx1 := hx0.trans hnx1
 obtain ⟨y0, y1, y2, y3, y4, y5⟩ := b1.d6
 have yf := b1.frozen 0
 have ylt := b1.lt
 clear e0 b0 r0 hx0 hnx1
 go_wp2_with fail
 have e3 := (e1.far (p := ⟨gS, 0, none⟩) hneE2 (ii (ug + 1))).alloc (.cells #[ii ug, ii ub, ii up, ii uq, sC Bx uxs.length dx, sC Bm ums.length dm] 26)
 have b3 := (b1.set 0 (ii (ug + 1))).alloc (.cells #[ii ug, ii ub, ii up, ii uq, sC Bx uxs.length dx, sC Bm ums.length dm] 26)
 have r3 := (r1.far (p := ⟨gS, 0, none⟩) hneS.symm (ii (ug + 1))).alloc (.cells #[ii ug, ii ub, ii up, ii uq, sC Bx uxs.length dx, sC Bm ums.length dm] 26)
 have hx3 := (hx1.setCell (p := ⟨gS, 0, none⟩) hgS (ii (ug + 1))).alloc (.cells #[ii ug, ii ub, ii up, ii uq, sC Bx uxs.length dx, sC Bm ums.length dm] 26)
 simp only [List.setIfInBounds_toArray, List.set_cons_zero] at b3
 have hsw : IntKind.i64.wrap (1 - s) = 1 - s := IntWalk.i64_in _ (by rcases hsl with rfl | rfl <;> omega)
 clear y0 y1 y2 y3 y4 y5 yf ylt e1 b1 r1 hx1
 generalize (w1.setCell ⟨gS, 0, none⟩ (ii (ug + 1))).alloc (.cells #[ii ug, ii ub, ii up, ii uq, sC Bx uxs.length dx, sC Bm ums.length dm] 26) = w3 at *
 refine wp_lexA (kf4 (true :: true :: true :: [])) (fun w' => (CC w' w.heap.size 0 (sC A n c) /\ CC w' w.heap.size 1 (sC A2 n2 c2)) /\ (CC w' gS 0 (ii (ug + 1)) /\ CC w' gS 1 (ii b) /\ CC w' gS 2 (ii p) /\ CC w' gS 3 (ii t) /\ CC w' gS 4 (sC Ax xs.length cx) /\ CC w' gS 5 (sC Am ms.length cm))) (by exact ⟨⟨e3.c0, e3.c1⟩, b3.d6⟩) ?_
 refine hLr ?_
 refine hLc fun K hK => ?_
 go_simp
 refine (l04Text_c (ug + 1) b p t Ax Am cx cm B xs ms _ (hs.below (hx3.drew) hB) (hmk.below (hx3.drew) hB) (ntr hB hx3.drew.size) HOK.out).mono ?_; rintro e w4 ⟨rfl, hnx4⟩; have e4 := e3.nx (Nx.drew_r hnx4); have b4 := b3.nx (Nx.drew_r hnx4); have r4 := r3.nx (Nx.drew_r hnx4); have hx4 := hx3.trans (Nx.drew_r hnx4)
 go_wp2_with fail
 refine hK.out _ _ (by exact ⟨⟨e4.c0, e4.c1⟩, b4.d6⟩) ?_
 clear hK K
 refine nZ ?_
 refine hLc fun K hK => ?_
 go_simp
 refine (l01Write_c A A2 n c n2 c2 B ws (1 - s) _ _ (h2.below hx4 hB) (ntr hB hx4.size) oM).mono ?_; rintro e w5 ⟨A5, n5, c5, rfl, hW5, hnx5⟩; have e5 := e4.nx hnx5; have b5 := b4.nx hnx5; have r5 := r4.nx hnx5; have hx5 := hx4.trans hnx5; obtain ⟨m0, m1⟩ : w5.cell? ⟨gD, 0, none⟩ = some (nsl) /\ w5.cell? ⟨gD, 1, none⟩ = some (nsl) := ⟨r5.c0, r5.c1⟩; have mf0 := r5.frozen 0; have mf1 := r5.frozen 1; have mlt := r5.lt
 go_wp2_with fail
 refine hK.out _ _ (by exact ⟨⟨e5.c0, e5.c1⟩, b5.d6⟩) ?_
 clear hK K
 refine nZ ?_
 refine hLc fun K hK => ?_
 go_simp
 refine hK.out _ _ (by exact ⟨⟨((e5.far (p := ⟨gD, 0, none⟩) hneE _).far (p := ⟨gD, 1, none⟩) hneE _).c0, ((e5.far (p := ⟨gD, 0, none⟩) hneE _).far (p := ⟨gD, 1, none⟩) hneE _).c1⟩, ((b5.far (p := ⟨gD, 0, none⟩) hneS _).far (p := ⟨gD, 1, none⟩) hneS _).d6⟩) ?_
 clear hK K
 refine nZ ?_
 refine HL.done ?_
 clear m0 m1 mf0 mf1
 have rq := (r5.set0 (sC A n c)).set1 (sC A5 n5 c5)
 have hnf := (hx5.setCell (p := ⟨gD, 0, none⟩) hgD (sC A n c)).setCell (p := ⟨gD, 1, none⟩) hgD (sC A5 n5 c5)
 have hlt4 : gD < w4.heap.size := r4.lt
 have hWf := (hW5.far (p := ⟨gD, 0, none⟩) hlt4 (sC A n c)).far (p := ⟨gD, 1, none⟩) hlt4 (sC A5 n5 c5)
 go_wp2
 change bodyPost _ _ _ _ _ ((w5.setCell ⟨gD, 0, none⟩ (sC A n c)).setCell ⟨gD, 1, none⟩ (sC A5 n5 c5))
 generalize (w5.setCell ⟨gD, 0, none⟩ (sC A n c)).setCell ⟨gD, 1, none⟩ (sC A5 n5 c5) = Wf at *
 have q0 := rq.c0
 have q1 := rq.c1
 exact bodyPost_ret (v := .agg #[sC A n c, sC A5 n5 c5]) (by simp [results, results61, go_sem, q0, q1]) rfl ⟨A5, n5, c5, rfl, hWf.low oM, hnf⟩
theorem nxt_size {u : U6} {b p t : Int} {xs : List Int} {ms : List Mrk} (h : superB (u.1 + 1) b p t xs ms = true) : (nxtS u b p t xs ms).size <= 300 := by
 have h1 := (tbB_yes (superB_yes h).2.2.2.2.1).1
 have h2 := superB_yes h
 have h3 := (msB_yes h2.2.2.2.2.2).1
 have h4 := jn_all (wds_size h2.2.2.2.2.2)
 rw [wds_len] at h4
 unfold nxtS sealS
 rw [ByteArray.size_append, ByteArray.size_append, ByteArray.size_append, numsS_size, supN_len]
 have h5 : (⟨#[124]⟩ : BA).size = 1 := rfl
 have h6 : (⟨(sumD (numsS (supN (u.1 + 1) b p t xs) ++ ⟨#[124]⟩ ++ jn (wds ms))).toArray⟩ : BA).size <= 3 := by simp [ByteArray.size, sumD, pad_len]
 omega

def noS : List BA := List.replicate 64 ByteArray.empty
theorem noS_len : noS.length = 64 := by simp [noS]
theorem noS_at {i : Nat} (h : i < 64) : noS.getD i ByteArray.empty = ByteArray.empty := by
 unfold noS; rw [gdE, List.getElem?_replicate, if_pos h]; rfl
theorem made_noS (w : World) : OwnS (w.alloc (.cells (madeCells #[Value.string ByteArray.empty] 64) 9)) w.heap.size noS := by
 unfold OwnS
 rw [noS_len]
 refine (Own.made w #[Value.string ByteArray.empty] 64 9).congr fun i hi => ?_
 unfold strAt
 rw [noS_at hi]
 simp [Nat.mod_one]
theorem make64 (W : World) : (Instr.makeSlice 32 (ii 64) (ii 64)).run Tryz.prog W = .ok (sC (some ⟨W.heap.size, 0, none⟩) 64 64) (W.alloc (.cells (madeCells #[Value.string ByteArray.empty] 64) 9)) := by
 obtain ⟨i0, hi0, hz0, hz1, hz2⟩ := info_parts info_str
 have hmk := run_make_rowN (P := Tryz.prog) 32 9 i0 _ underlying32 hi0 hz0 .i64 .i64 64 64 nle (by rw [hz2]; omega) oM W
 rw [hz1] at hmk
 exact hmk
theorem specNewDisk_c (w : World) : Calls Tryz.prog 118 #[] w (RetDisk w noS []) := by
 have hmk := make64
 go_enter func118, ntmps118
 go_wp2
 have ho := Own.alloc (made_noS (w.alloc (.cells #[sC (some ⟨w.heap.size + 1, 0, none⟩) 64 64, sC (some ⟨w.heap.size + 1 + 1, 0, none⟩) 0 0] 35))) (.cells #[] 102)
 simp only [World.size_alloc] at ho
 have hx := (((Nx.refl w).alloc (.cells #[sC (some ⟨w.heap.size + 1, 0, none⟩) 64 64, sC (some ⟨w.heap.size + 1 + 1, 0, none⟩) 0 0] 35)).alloc (.cells (madeCells #[Value.string ByteArray.empty] 64) 9)).alloc (.cells #[] 102)
 have q := ((Box.new w 35 #[sC (some ⟨w.heap.size + 1, 0, none⟩) 64 64, sC (some ⟨w.heap.size + 1 + 1, 0, none⟩) 0 0]).alloc (.cells (madeCells #[Value.string ByteArray.empty] 64) 9)).alloc (.cells #[] 102)
 have q0 := q.c0
 have q1 := q.c1
 generalize ((w.alloc (.cells #[sC (some ⟨w.heap.size + 1, 0, none⟩) 64 64, sC (some ⟨w.heap.size + 1 + 1, 0, none⟩) 0 0] 35)).alloc (.cells (madeCells #[Value.string ByteArray.empty] 64) 9)).alloc (.cells #[] 102) = W at *
 exact bodyPost_ret (v := .agg #[sC (some ⟨w.heap.size + 1, 0, none⟩) 64 64, sC (some ⟨w.heap.size + 1 + 1, 0, none⟩) 0 0]) (by simp [results, results118, go_sem, q0, q1]) rfl
  ⟨_, 64, 64, _, 0, 0, rfl, ⟨noS_len, fun _ => ⟨_, rfl, oM, ho⟩⟩, ⟨rfl, fun h => absurd h oM⟩, hx⟩
def fmT (c : List Int) : Nat -> List BA
 | 0 => noS.set 0 (supT 1 0 0 0 [] [])
 | k + 1 => (fmT c k).set (2 + k) (sealS (numsS [(c.getD k 0).toNat]))
theorem fmT_len (c : List Int) : ∀ k, (fmT c k).length = 64
 | 0 => by show (noS.set 0 _).length = 64; rw [List.length_set, noS_len]
 | k + 1 => by show ((fmT c k).set _ _).length = 64; rw [List.length_set, fmT_len c k]
theorem super_new : superB 1 0 0 0 [] [] = true := by decide
theorem one_six {v : Int} (h0 : 0 <= v) (h1 : v <= 999999) : All6 [v.toNat] := fun k hk => by
 obtain rfl : k = 0 := by simpa using hk
 show v.toNat <= 999999
 omega
theorem numsS_one (n : Nat) : numsS [n] = ⟨(pad 6 n).toArray⟩ := by
 unfold numsS
 show (⟨(pad 6 n ++ []).toArray⟩ : BA) = _
 rw [List.append_nil]
theorem idx_not {xs : List Int} {x : Int} : ∀ {k : Nat}, NotTo xs k x -> k <= xs.length -> k <= idx xs x := by
 induction xs with
 | nil => intro k _ hk; simp at hk; omega
 | cons y xs ih =>
   intro k h hk
   rw [idx_cons]
   match k with
   | 0 => exact Nat.zero_le _
   | k + 1 =>
     have h0 := h 0 oM
     rw [if_neg (by simpa using h0)]
     have := ih (k := k) (fun j hj => by have := h (j + 1) oM; simpa using this) (by rw [List.length_cons] at hk; omega)
     omega
theorem idx_hit {xs : List Int} {x : Int} {k : Nat} (h : NotTo xs k x) (hk : k < xs.length) (he : xs.getD k 0 = x) : idx xs x = k := by
 have h1 := idx_not h oM
 have h2 := idx_lt hk he
 omega
theorem hasB_idx (xs : List Int) (x : Int) : hasB xs xs.length x = decide (idx xs x < xs.length) := by
 by_cases h : idx xs x < xs.length
 . rw [decide_eq_true h]; exact hasB_yes h h (idx_at h)
 . rw [decide_eq_false h]
   refine hasB_no fun j hj he => ?_
   have := idx_lt hj he
   omega
theorem isRet_hasB {b : Int} {gs : List SgR} {x : Int} {k : Nat} (hk : k = gs.length + 1) : hasB (retL b gs) k x = isRet b gs x := by
 subst hk
 have := hasB_idx (retL b gs) x
 rw [retL_len] at this
 exact this
def idxI (xs : List Int) (x : Int) : Int := if idx xs x < xs.length then (idx xs x : Int) else -1
theorem idxI_hit {xs : List Int} {x : Int} {k : Nat} (h : NotTo xs k x) (hk : k < xs.length) (he : xs.getD k 0 = x) : (k : Int) = idxI xs x := by
 unfold idxI
 rw [idx_hit h hk he, if_pos hk]
theorem idxI_none {xs : List Int} {x : Int} (h : NotTo xs xs.length x) : -1 = idxI xs x := by
 unfold idxI
 have := idx_not h nle
 rw [if_neg oM]
theorem idxI_ahd {b : Int} {gs : List SgR} {x : Int} (h : isRet b gs x = true) : idxI (retL b gs) x = (ahd b gs x : Int) := by
 unfold isRet at h
 simp only [decide_eq_true_eq] at h
 unfold idxI
 rw [retL_len, if_pos h]; rfl
theorem indexI_c (A : Option Addr) (n c B : Nat) (xs : List Int) (x : Int) (w : World) (h : Ins w B A xs) (hl : n = xs.length) (hn : xs.length <= 1048576) :
 Calls Tryz.prog 196 #[sC A n c, ii x] w fun e w' => e = .returned (ii (idxI xs x)) /\ w = w' := by
 have Hl := qh hl
 have hn' : n <= 1048576 := oM
 clear hl
 go_enter func196, ntmps196
 go_wp2
 go_loop [8] (fun i => ∃ k : Nat, k <= n /\ i = ii k /\ NotTo xs k x) (fun i => n - (intOf i).toNat)
 case atStart => exact ⟨0, Nat.zero_le _, rfl, NotTo.zero _ _⟩
 case round =>
  obtain ⟨k, hk, rfl, hto⟩ := hrel
  by_cases hlt : k < n
  . obtain ⟨b, off, rfl, hb, hc⟩ := h.at_ (k := k) (by have := Hl.out; omega)
    obtain ⟨y, Hy⟩ := nM (xs.getD k 0)
    rw [Hy.out] at hc
    by_cases he : y = x
    . have hd : (x == y) = true := by simp [he]
      have HR := qh (idxI_hit hto (by have := Hl.out; omega) (Hy.out.trans he))
      clear he
      go_wp2
      go_ret
      exact ⟨ret_int HR.out, rfl⟩
    . have hd : (x == y) = false := by rw [beq_eq_false_iff_ne]; exact fun h => he h.symm
      have HT := qh (hto.succ (by rw [Hy.out]; exact he))
      clear he
      go_wp2
      go_round
      case rel => exact ⟨k + 1, oM, by go_num, HT.out⟩
      case measure => simp [intOf]; omega
  . obtain rfl : k = n := oM
    have HR := qh (idxI_none (xs := xs) (x := x) (by rw [<- Hl.out]; exact hto))
    go_wp2
    go_ret
    exact ⟨ret_int HR.out, rfl⟩
theorem RowI.one (w : World) {B : Nat} (hB : B <= w.heap.size) (x : Int) : RowI (w.alloc (.cells #[ii x] 3)) B (sC (some ⟨w.heap.size, 0, none⟩) 1 1) [x] :=
 ⟨rfl, .inr ⟨_, 1, #[ii x], rfl, hB, heap_alloc_new w _, by simp, by unfold maxLen; omega, rfl, rfl⟩⟩
def retTo (b : Int) (gs : List SgR) (k : Nat) : List Int := b :: (gs.take k).map SgR.t
theorem retTo_succ {b : Int} {gs : List SgR} {k : Nat} (h : k < gs.length) : retTo b gs (k + 1) = retTo b gs k ++ [(gs.getD k sgZ).t] := by
 unfold retTo
 rw [List.take_succ_eq_append_getElem h, List.map_append, gdE, List.getElem?_eq_getElem h]; rfl
theorem retTo_len {b : Int} {gs : List SgR} {k : Nat} (h : k <= gs.length) : (retTo b gs k).length = k + 1 := by
 unfold retTo; simp; omega
theorem retTo_all (b : Int) (gs : List SgR) : retTo b gs gs.length = retL b gs := by
 unfold retTo retL; rw [List.take_length]
theorem l05Retained_c (V : Vl) (B : Nat) (w : World) (h : Vlt w B V) (hB : B <= w.heap.size) (hn : VlN V 1048576) :
 Calls Tryz.prog 138 #[V.v] w (RetIc w (retL V.b V.gs)) := by
 obtain ⟨g, b, p, t, A, c, xs, A2, c2, ms, A3, c3, gs, A4, c4, im⟩ := V
 obtain ⟨h, h2, h3, h4⟩ := h
 obtain ⟨hn, hn2, hn3, hn4, hn5⟩ := hn
 simp only [Vl.v, Vl.cells] at *
 obtain ⟨n, Hn⟩ := nM (gs.length)
 have HS := qh (fun k (hk : k < n) => retTo_succ (b := b) (gs := gs) (k := k) (by rw [Hn.out]; exact hk))
 have HL := qh (fun k (hk : k <= n) => retTo_len (b := b) (gs := gs) (k := k) (by rw [Hn.out]; exact hk))
 have HA := qh (retTo_all b gs)
 have h3' : ∀ k, k < n -> _ := fun k hk w' B' hw hB' => ((h3.below (w' := w') (B' := B') hw hB').row.at4 (k := k) (by rw [Hn.out]; exact hk))
 rw [Hn.out] at hn3 HA ⊢
 have b0 := (Box.new w 49 #[ii g, ii b, ii p, ii t, sC A xs.length c, sC A2 ms.length c2, sC A3 n c3, sC A4 im.length c4]).alloc (.cells #[ii b] 3)
 have hx0 := (Nx.refl w).alloc (.cells #[ii g, ii b, ii p, ii t, sC A xs.length c, sC A2 ms.length c2, sC A3 n c3, sC A4 im.length c4] 49)
 have hrow0 := RowI.one (w.alloc (.cells #[ii g, ii b, ii p, ii t, sC A xs.length c, sC A2 ms.length c2, sC A3 n c3, sC A4 im.length c4] 49)) (B := w.heap.size + 1) (by simp) b
 rw [World.size_alloc] at hrow0
 have hx1 := hx0.alloc (.cells #[ii b] 3)
 have hz1 : w.heap.size + 1 <= ((w.alloc (.cells #[ii g, ii b, ii p, ii t, sC A xs.length c, sC A2 ms.length c2, sC A3 n c3, sC A4 im.length c4] 49)).alloc (.cells #[ii b] 3)).heap.size := by simp
 clear hx0
 go_enter func138, ntmps138
 go_wp2_with fail
 generalize (w.alloc (.cells #[ii g, ii b, ii p, ii t, sC A xs.length c, sC A2 ms.length c2, sC A3 n c3, sC A4 im.length c4] 49)).alloc (.cells #[ii b] 3) = W at *
 go_loopw [3, 4] (fun v i wr => ∃ (k : Nat), k <= n /\ i = ii k /\ (∃ u, u = v /\ RowI wr (w.heap.size + 1) u (retTo b gs k)) /\ Nx w wr /\ Box wr w.heap.size 49 #[ii g, ii b, ii p, ii t, sC A xs.length c, sC A2 ms.length c2, sC A3 n c3, sC A4 im.length c4] /\ w.heap.size + 1 <= wr.heap.size) (fun _ i _ => n - (intOf i).toNat)
 case atStart => exact ⟨0, oM, rfl, ⟨_, rfl, hrow0⟩, hx1, b0, hz1⟩
 case round =>
  obtain ⟨k, hk, rfl, ⟨u, rfl, hrow⟩, hnx, hb, hsz⟩ := hrel
  clear hrow0 hx1 hz1 b0
  obtain ⟨_, _, _, _, _, _, c6, _⟩ := hb.e8
  by_cases hlt : k < n
  case neg =>
   obtain rfl : k = n := oM
   rw [HA.out] at hrow
   obtain ⟨A', c', rfl, hc', hS⟩ := hrow.slc
   go_wp2
   go_ret
   exact ⟨A', c', rfl, hc', hS.low oM, hnx⟩
  obtain ⟨bb, off, rfl, hbb, p0, p1, p2, p3⟩ := h3' k hlt _ _ hnx hB
  have HS' := qh (HS.out k hlt)
  have HLk := qh (HL.out k oM)
  obtain ⟨q, Hq⟩ := nM ((gs.getD k sgZ).t)
  rw [Hq.out] at p1 HS'
  clear p0 p2 p3
  have hx2 := (Nx.refl wr).alloc (.cells #[ii q] 3)
  have hbx := Box.new wr 3 #[ii q]
  have hrow1 := hrow.nx hx2
  have hnx2 := hnx.trans hx2
  have hb2 := hb.nx hx2
  have hsz2 := ntr hsz hx2.size
  have HR := qh hrow1
  have HB := qh hbx
  clear hrow hrow1 hbx
  go_wp2_with (at_builtin; refine wpList_addI rfl _ _ rfl (w.heap.size + 1) wr.heap.size _ (retTo b gs k) q rfl rfl HR.out HB.out (by have := HLk.out; omega) hsz2 ?_)
  intro A' k' w' hr' hg'
  have hnx3 := hg'.nx w hnx2 oM
  have hb3 := hg'.box _ _ _ dC hb2
  have hsz3 := ntr hsz2 hg'.size
  go_wp2
  go_roundw
  case rel => exact ⟨k + 1, oM, by go_num, ⟨_, rfl, by rw [HS'.out]; exact hr'⟩, hnx3, hb3, hsz3⟩
  case measure => simp [intOf]; omega
theorem l05Is_c (V : Vl) (x : Int) (B : Nat) (w : World) (h : Vlt w B V) (hB : B <= w.heap.size) (hn : VlN V 1048576) (hN : V.gs.length <= 4096) :
 Calls Tryz.prog 224 #[V.v, ii x] w fun e w' => e = .returned (.bool (isRet V.b V.gs x)) /\ Nx w w' := by
 have hR := l05Retained_c V B
 obtain ⟨g, b, p, t, A, c, xs, A2, c2, ms, A3, c3, gs, A4, c4, im⟩ := V
 simp only [Vl.v, Vl.cells] at *
 have hx0 := (Nx.refl w).alloc (.cells #[ii g, ii b, ii p, ii t, sC A xs.length c, sC A2 ms.length c2, sC A3 gs.length c3, sC A4 im.length c4] 49)
 have HR := qh hR
 clear hR
 go_enter func224, ntmps224
 go_wp2_with fail
 generalize w.alloc (.cells #[ii g, ii b, ii p, ii t, sC A xs.length c, sC A2 ms.length c2, sC A3 gs.length c3, sC A4 im.length c4] 49) = W at *
 refine (HR.out W (h.below hx0 hB) (ntr hB hx0.size) hn).mono ?_
 rintro e w1 ⟨A9, c9, rfl, _, hS, hx1⟩
 have hl := retL_len b gs
 have HI := qh (isRet_hasB (b := b) (gs := gs) (x := x) hl)
 obtain ⟨m, Hm⟩ := nM ((retL b gs).length)
 have Hl := qh hl
 clear hl
 rw [Hm.out] at HI ⊢
 go_wp2_with fail
 refine (l04In_c A9 m c9 _ (retL b gs) x _ hS.row (by rw [Hm.out]; exact Nat.le_refl _) (by rw [Hl.out]; omega)).mono ?_
 rintro e w2 ⟨rfl, rfl⟩
 rw [HI.out]
 go_wp2
 go_ret
 exact ⟨rfl, hx0.trans hx1⟩
theorem l05Same_c (A A2 : Option Addr) (c c2 B : Nat) (xs ys : List Int) (w : World) (h : Ins w B A xs) (h2 : Ins w B A2 ys) (hB : B <= w.heap.size) (hl : xs.length = 8) (hl2 : ys.length = 8) :
 Calls Tryz.prog 226 #[sC A 8 c, sC A2 8 c2] w fun e w' => e = .returned (.bool (decide (xs = ys))) /\ Nx w w' := by
 have Hl := qh hl
 have Hl2 := qh hl2
 clear hl hl2
 go_enter func226, ntmps226
 go_wp2
 go_loopw [5] (fun i wr => ∃ k : Nat, k <= 8 /\ i = ii k /\ (∀ j, j < k -> xs.getD j 0 = ys.getD j 0) /\ Nx w wr) (fun i _ => 8 - (intOf i).toNat)
 case atStart => exact ⟨0, Nat.zero_le _, rfl, fun j hj => absurd hj oM, Nx.refl _⟩
 case round =>
  obtain ⟨k, hk, rfl, hto, hnx⟩ := hrel
  by_cases hlt : k < 8
  . obtain ⟨b, off, rfl, hb, hc⟩ := (h.below hnx hB).at_ (k := k) (by rw [Hl.out]; exact hlt)
    obtain ⟨b2, off2, rfl, hb2, hc2⟩ := (h2.below hnx hB).at_ (k := k) (by rw [Hl2.out]; exact hlt)
    have HK := qh (fun (he : xs.getD k 0 = ys.getD k 0) (j : Nat) (hj : j < k + 1) => if hh : j < k then hto j hh else by obtain rfl : j = k := oM; exact he)
    have HNo := qh (fun (he : xs.getD k 0 ≠ ys.getD k 0) => decide_eq_false (fun hh : xs = ys => he (by rw [hh])))
    clear hto
    obtain ⟨y, Hy⟩ := nM (xs.getD k 0)
    obtain ⟨z, Hz⟩ := nM (ys.getD k 0)
    rw [Hy.out] at hc
    rw [Hz.out] at hc2
    rw [Hy.out, Hz.out] at HK HNo
    have hk1 : (k : Int) < 8 := oM
    have hdk : decide (k < 8) = true := decide_eq_true hlt
    go_wp2_with fail
    go_still_tail 8, (by kernel_rfl)
    have hnx1 : Nx w wr.drew := Below.drew hnx
    by_cases he : y = z
    . have hd : (y != z) = false := by simp [he]
      have HT := qh (HK.out he)
      clear he HK HNo
      try change wpList _ _ _ _ _ wr.drew
      go_wp2
      go_roundw
      case rel => exact ⟨k + 1, oM, by go_num, HT.out, hnx1⟩
      case measure => simp [intOf]; omega
    . have hd : (y != z) = true := by simp [he]
      have HT := qh (HNo.out he)
      clear he HK HNo
      try change wpList _ _ _ _ _ wr.drew
      go_wp2
      go_ret
      exact ⟨ret_bool HT.out.symm, hnx1⟩
  . obtain rfl : k = 8 := oM
    have HT := qh (decide_eq_true (ext8 Hl.out Hl2.out hto))
    go_wp2
    go_ret
    exact ⟨ret_bool HT.out.symm, hnx⟩
theorem l05Old_c (A2 : Option Addr) (c2 B : Nat) (xs : List Int) (s : SgR) (w : World) (h : Ins w B A2 xs) (hg : Chs w B s.A s.cs) (hB : B <= w.heap.size) (hok : chsB s.cs = true) (h8 : xs.length = 8) :
 Calls Tryz.prog 225 #[sC A2 8 c2, .agg #[ii s.f, ii s.t, ii s.m, sC s.A s.cs.length s.c]] w fun e w' => e = .returned (.bool (oldB xs s)) /\ Nx w w' := by
 obtain ⟨f, t, m, A, c, cs⟩ := s
 simp only at *
 have HO : Hid (oldB xs ⟨f, t, m, A, c, cs⟩ = decide (app pO xs cs = xs)) := qh rfl
 rw [HO.out]
 have hx0 := (Nx.refl w).alloc (.cells #[ii f, ii t, ii m, sC A cs.length c] 122)
 have H8 := qh h8
 clear h8
 go_enter func225, ntmps225
 go_wp2_with fail
 generalize w.alloc (.cells #[ii f, ii t, ii m, sC A cs.length c] 122) = W at *
 have hbk := l03Backward_c A2 c2 B xs f t m A c cs W (h.below hx0 hB) (hg.below hx0 hB) (ntr hB hx0.size) hok H8.out
 rw [H8.out] at hbk
 refine hbk.mono ?_
 rintro e w1 ⟨A9, c9, rfl, hS, hx1⟩
 have hla : (app pO xs cs).length = 8 := by rw [app_len, H8.out]
 have hX := hx0.trans hx1
 have hrow := hS.row
 clear hbk hS
 obtain ⟨ys, Hys⟩ := nM (app pO xs cs)
 rw [Hys.out] at hla hrow ⊢
 rw [hla]
 have Hla := qh hla
 clear hla
 go_wp2_with fail
 refine (l05Same_c A9 A2 c9 c2 _ ys xs _ hrow ((h.below hX hB).more (ntr hB hX.size)) nle Hla.out H8.out).mono ?_
 rintro e w2 ⟨rfl, hx2⟩
 go_wp2
 go_ret
 exact ⟨ret_bool (by rw [Hys.out]), hX.trans hx2⟩
def stI (b p t : Int) (gs : List SgR) : Int × Bool := if p < t then ((ahd b gs p : Int), true) else if t < p then ((ahd b gs p : Int) - 1, false) else (-1, false)
theorem Box.g8 {w : World} {g : Nat} {t : TypeId} {v0 v1 v2 v3 v4 v5 v6 v7 : Value} (h : Box w g t #[v0, v1, v2, v3, v4, v5, v6, v7]) : w.cell? ⟨g, 0, none⟩ = some v0 /\ w.cell? ⟨g, 1, none⟩ = some v1 /\ w.cell? ⟨g, 2, none⟩ = some v2 /\ w.cell? ⟨g, 3, none⟩ = some v3 /\ w.cell? ⟨g, 4, none⟩ = some v4 /\ w.cell? ⟨g, 5, none⟩ = some v5 /\ w.cell? ⟨g, 6, none⟩ = some v6 /\ w.cell? ⟨g, 7, none⟩ = some v7 := h.e8
theorem l05Step_c (V : Vl) (B : Nat) (w : World) (h : Vlt w B V) (hB : B <= w.heap.size) (hn : VlN V 1048576) (hl : Lead V.b V.gs) (hp : isRet V.b V.gs V.p = true) (hd : (V.p < V.t -> ahd V.b V.gs V.p < V.gs.length) /\ (V.t < V.p -> 0 < ahd V.b V.gs V.p)) :
 Calls Tryz.prog 228 #[V.v] w fun e w' => e = .returned (.tuple #[ii (stI V.b V.p V.t V.gs).1, .bool (stI V.b V.p V.t V.gs).2]) /\ Nx w w' := by
 obtain ⟨g, b, p, t, A, c, xs, A2, c2, ms, A3, c3, gs, A4, c4, im⟩ := V
 obtain ⟨h, h2, h3, h4⟩ := h
 obtain ⟨hn, hn2, hn3, hn4, hn5⟩ := hn
 simp only [Vl.v, Vl.cells] at *
 obtain ⟨a, Ha⟩ := nM (ahd b gs p)
 have ha := ahd_at hp
 have HST : Hid (stI b p t gs = if p < t then ((a : Int), true) else if t < p then ((a : Int) - 1, false) else (-1, false)) := qh (by rw [<- Ha.out]; rfl)
 rw [HST.out]
 rw [Ha.out] at ha hd
 obtain ⟨n, Hn⟩ := nM (gs.length)
 have h3' : ∀ k, k < n -> _ := fun k hk w' B' hw hB' => ((h3.below (w' := w') (B' := B') hw hB').row.at4 (k := k) (by rw [Hn.out]; exact hk))
 have HF := qh (fun k (hk : k < n) => hl.from_ k (by rw [Hn.out]; exact hk))
 have HI := qh (fun k (hk : k <= n) (he : atK b gs k = p) => hl.inj (j := k) (k := a) (by rw [Hn.out]; exact hk) ha.1 (he.trans ha.2.symm))
 have HA := qh ha.2
 have ha1 := ha.1
 rw [Hn.out] at hn3 hd ha1 ⊢
 have b0 := Box.new w 49 #[ii g, ii b, ii p, ii t, sC A xs.length c, sC A2 ms.length c2, sC A3 n c3, sC A4 im.length c4]
 have hx0 := (Nx.refl w).alloc (.cells #[ii g, ii b, ii p, ii t, sC A xs.length c, sC A2 ms.length c2, sC A3 n c3, sC A4 im.length c4] 49)
 clear hl hp ha h3
 by_cases hlt : p < t
 . rw [if_pos hlt]
   have hd1 : decide (p < t) = true := decide_eq_true hlt
   have hd2 : decide (t < p) = false := decide_eq_false oM
   have han := hd.1 hlt
   clear hd hlt
   go_enter func228, ntmps228
   go_wp2_with fail
   generalize w.alloc (.cells #[ii g, ii b, ii p, ii t, sC A xs.length c, sC A2 ms.length c2, sC A3 n c3, sC A4 im.length c4] 49) = W at *
   go_loopw [4] (fun i wr => ∃ (k : Nat), k <= a /\ i = ii k /\ Nx w wr /\ Box wr w.heap.size 49 #[ii g, ii b, ii p, ii t, sC A xs.length c, sC A2 ms.length c2, sC A3 n c3, sC A4 im.length c4]) (fun i _ => n - (intOf i).toNat)
   case atStart => exact ⟨0, oM, rfl, hx0, b0⟩
   case round =>
    obtain ⟨k, hk, rfl, hnx, hb⟩ := hrel
    clear hx0 b0
    have hkn : k < n := oM
    obtain ⟨_, _, _, _, _, _, c6, _⟩ := hb.e8
    obtain ⟨bb, off, rfl, hbb, p0, p1, p2, p3⟩ := h3' k hkn _ _ hnx hB
    have hF := HF.out k hkn
    have hT : (gs.getD k sgZ).t = atK b gs (k + 1) := rfl
    obtain ⟨⟨f, t9, m, Ac, cc, cs⟩, Hs⟩ := nM (gs.getD k sgZ)
    rw [Hs.out] at p0 p1 p2 p3 hF hT
    simp only at p0 p1 p2 p3 hF hT
    have hkc : (k : Int) < (n : Int) := oM
    have hk0 : (0 : Int) <= (k : Int) := oM
    have hbd : Box wr.drew w.heap.size 49 #[ii g, ii b, ii p, ii t, sC A xs.length c, sC A2 ms.length c2, sC (some ⟨bb, off, none⟩) n c3, sC A4 im.length c4] := hb
    by_cases hka : k = a
    . have hfe : (f == p) = true := by rw [beq_iff_eq, hF, hka]; exact HA.out
      have HKA := qh hka
      clear hF hT hka
      go_wp2_with fail
      refine wp_lexA (kf9 (kf9 (ff :: []))) (fun w' => (CC w' w.heap.size 0 (ii g) /\ CC w' w.heap.size 1 (ii b) /\ CC w' w.heap.size 2 (ii p) /\ CC w' w.heap.size 3 (ii t) /\ CC w' w.heap.size 4 (sC A xs.length c) /\ CC w' w.heap.size 5 (sC A2 ms.length c2) /\ CC w' w.heap.size 6 (sC (some ⟨bb, off, none⟩) n c3) /\ CC w' w.heap.size 7 (sC A4 im.length c4)) /\ CC w' bb (off + k * 4) (ii f) /\ CC w' bb (off + k * 4 + 1) (ii t9) /\ CC w' bb (off + k * 4 + 2) (ii m) /\ CC w' bb (off + k * 4 + 3) (sC Ac cs.length cc)) (by exact ⟨hbd.e8, p0, p1, p2, p3⟩) ?_
      refine hLr ?_
      refine HL.done ?_
      go_wp2
      exact bodyPost_ret (v := .tuple #[ii k, .bool true]) (by simp [results, results228, go_sem]) rfl ⟨by rw [HKA.out], hnx.drew⟩
    . have hfe : (f == p) = false := by rw [beq_eq_false_iff_ne, hF]; exact fun he => hka (HI.out k oM he)
      have HKA := qh hka
      clear hF hT hka
      go_wp2_with fail
      refine wp_lexA (kf9 (kf9 (ff :: []))) (fun w' => (CC w' w.heap.size 0 (ii g) /\ CC w' w.heap.size 1 (ii b) /\ CC w' w.heap.size 2 (ii p) /\ CC w' w.heap.size 3 (ii t) /\ CC w' w.heap.size 4 (sC A xs.length c) /\ CC w' w.heap.size 5 (sC A2 ms.length c2) /\ CC w' w.heap.size 6 (sC (some ⟨bb, off, none⟩) n c3) /\ CC w' w.heap.size 7 (sC A4 im.length c4)) /\ CC w' bb (off + k * 4) (ii f) /\ CC w' bb (off + k * 4 + 1) (ii t9) /\ CC w' bb (off + k * 4 + 2) (ii m) /\ CC w' bb (off + k * 4 + 3) (sC Ac cs.length cc)) (by exact ⟨hbd.e8, p0, p1, p2, p3⟩) ?_
      refine hLr ?_
      refine HL.done ?_
      have p0 : wr.drew.cell? ⟨bb, off + k * 4, none⟩ = _ := p0
      have p1 : wr.drew.cell? ⟨bb, off + k * 4 + 1, none⟩ = _ := p1
      have p2 : wr.drew.cell? ⟨bb, off + k * 4 + 2, none⟩ = _ := p2
      have p3 : wr.drew.cell? ⟨bb, off + k * 4 + 3, none⟩ = _ := p3
      have hnxd := hnx.drew
      go_wp2_with fail
      generalize wr.drew = wr at *
      have hbd : Box wr.drew w.heap.size 49 #[ii g, ii b, ii p, ii t, sC A xs.length c, sC A2 ms.length c2, sC (some ⟨bb, off, none⟩) n c3, sC A4 im.length c4] := hbd
      refine wp_lexA (kf9 (kf9 (ff :: []))) (fun w' => (CC w' w.heap.size 0 (ii g) /\ CC w' w.heap.size 1 (ii b) /\ CC w' w.heap.size 2 (ii p) /\ CC w' w.heap.size 3 (ii t) /\ CC w' w.heap.size 4 (sC A xs.length c) /\ CC w' w.heap.size 5 (sC A2 ms.length c2) /\ CC w' w.heap.size 6 (sC (some ⟨bb, off, none⟩) n c3) /\ CC w' w.heap.size 7 (sC A4 im.length c4)) /\ CC w' bb (off + k * 4) (ii f) /\ CC w' bb (off + k * 4 + 1) (ii t9) /\ CC w' bb (off + k * 4 + 2) (ii m) /\ CC w' bb (off + k * 4 + 3) (sC Ac cs.length cc)) (by exact ⟨hbd.e8, p0, p1, p2, p3⟩) ?_
      refine hLr ?_
      refine HL.done ?_
      go_wp2
      go_roundw
      case rel => exact ⟨k + 1, by have := HKA.out; omega, by go_num, hnxd.drew, hbd⟩
      case measure => simp [intOf]; omega
 by_cases hgt : t < p
 . rw [if_neg hlt, if_pos hgt]
   have hd1 : decide (p < t) = false := decide_eq_false hlt
   have hd2 : decide (t < p) = true := decide_eq_true hgt
   have han := hd.2 hgt
   clear hd hgt hlt
   go_enter func228, ntmps228
   go_wp2_with fail
   generalize w.alloc (.cells #[ii g, ii b, ii p, ii t, sC A xs.length c, sC A2 ms.length c2, sC A3 n c3, sC A4 im.length c4] 49) = W at *
   go_loopw [4] (fun i wr => ∃ (k : Nat), k <= (a - 1) /\ i = ii k /\ Nx w wr /\ Box wr w.heap.size 49 #[ii g, ii b, ii p, ii t, sC A xs.length c, sC A2 ms.length c2, sC A3 n c3, sC A4 im.length c4]) (fun i _ => n - (intOf i).toNat)
   case atStart => exact ⟨0, oM, rfl, hx0, b0⟩
   case round =>
    obtain ⟨k, hk, rfl, hnx, hb⟩ := hrel
    clear hx0 b0
    have hkn : k < n := oM
    obtain ⟨_, _, _, _, _, _, c6, _⟩ := hb.e8
    obtain ⟨bb, off, rfl, hbb, p0, p1, p2, p3⟩ := h3' k hkn _ _ hnx hB
    have hF := HF.out k hkn
    have hT : (gs.getD k sgZ).t = atK b gs (k + 1) := rfl
    obtain ⟨⟨f, t9, m, Ac, cc, cs⟩, Hs⟩ := nM (gs.getD k sgZ)
    rw [Hs.out] at p0 p1 p2 p3 hF hT
    simp only at p0 p1 p2 p3 hF hT
    have hkc : (k : Int) < (n : Int) := oM
    have hk0 : (0 : Int) <= (k : Int) := oM
    have hbd : Box wr.drew w.heap.size 49 #[ii g, ii b, ii p, ii t, sC A xs.length c, sC A2 ms.length c2, sC (some ⟨bb, off, none⟩) n c3, sC A4 im.length c4] := hb
    by_cases hka : k + 1 = a
    . have hfe : (t9 == p) = true := by rw [beq_iff_eq, hT, hka]; exact HA.out
      have HKA := qh hka
      clear hF hT hka
      go_wp2_with fail
      refine wp_lexA (kf9 (kf9 (ff :: []))) (fun w' => (CC w' w.heap.size 0 (ii g) /\ CC w' w.heap.size 1 (ii b) /\ CC w' w.heap.size 2 (ii p) /\ CC w' w.heap.size 3 (ii t) /\ CC w' w.heap.size 4 (sC A xs.length c) /\ CC w' w.heap.size 5 (sC A2 ms.length c2) /\ CC w' w.heap.size 6 (sC (some ⟨bb, off, none⟩) n c3) /\ CC w' w.heap.size 7 (sC A4 im.length c4)) /\ CC w' bb (off + k * 4) (ii f) /\ CC w' bb (off + k * 4 + 1) (ii t9) /\ CC w' bb (off + k * 4 + 2) (ii m) /\ CC w' bb (off + k * 4 + 3) (sC Ac cs.length cc)) (by exact ⟨hbd.e8, p0, p1, p2, p3⟩) ?_
      refine hLr ?_
      refine HL.done ?_
      have p0 : wr.drew.cell? ⟨bb, off + k * 4, none⟩ = _ := p0
      have p1 : wr.drew.cell? ⟨bb, off + k * 4 + 1, none⟩ = _ := p1
      have p2 : wr.drew.cell? ⟨bb, off + k * 4 + 2, none⟩ = _ := p2
      have p3 : wr.drew.cell? ⟨bb, off + k * 4 + 3, none⟩ = _ := p3
      have hnxd := hnx.drew
      go_wp2_with fail
      generalize wr.drew = wr at *
      have hbd : Box wr.drew w.heap.size 49 #[ii g, ii b, ii p, ii t, sC A xs.length c, sC A2 ms.length c2, sC (some ⟨bb, off, none⟩) n c3, sC A4 im.length c4] := hbd
      refine wp_lexA (kf9 (kf9 (ff :: []))) (fun w' => (CC w' w.heap.size 0 (ii g) /\ CC w' w.heap.size 1 (ii b) /\ CC w' w.heap.size 2 (ii p) /\ CC w' w.heap.size 3 (ii t) /\ CC w' w.heap.size 4 (sC A xs.length c) /\ CC w' w.heap.size 5 (sC A2 ms.length c2) /\ CC w' w.heap.size 6 (sC (some ⟨bb, off, none⟩) n c3) /\ CC w' w.heap.size 7 (sC A4 im.length c4)) /\ CC w' bb (off + k * 4) (ii f) /\ CC w' bb (off + k * 4 + 1) (ii t9) /\ CC w' bb (off + k * 4 + 2) (ii m) /\ CC w' bb (off + k * 4 + 3) (sC Ac cs.length cc)) (by exact ⟨hbd.e8, p0, p1, p2, p3⟩) ?_
      refine hLr ?_
      refine HL.done ?_
      go_wp2
      exact bodyPost_ret (v := .tuple #[ii k, .bool false]) (by simp [results, results228, go_sem]) rfl ⟨by rw [show (a : Int) - 1 = (k : Int) by have := HKA.out; omega], hnxd.drew⟩
    . have hfe : (t9 == p) = false := by rw [beq_eq_false_iff_ne, hT]; exact fun he => hka (HI.out (k + 1) oM he)
      have HKA := qh hka
      clear hF hT hka
      go_wp2_with fail
      refine wp_lexA (kf9 (kf9 (ff :: []))) (fun w' => (CC w' w.heap.size 0 (ii g) /\ CC w' w.heap.size 1 (ii b) /\ CC w' w.heap.size 2 (ii p) /\ CC w' w.heap.size 3 (ii t) /\ CC w' w.heap.size 4 (sC A xs.length c) /\ CC w' w.heap.size 5 (sC A2 ms.length c2) /\ CC w' w.heap.size 6 (sC (some ⟨bb, off, none⟩) n c3) /\ CC w' w.heap.size 7 (sC A4 im.length c4)) /\ CC w' bb (off + k * 4) (ii f) /\ CC w' bb (off + k * 4 + 1) (ii t9) /\ CC w' bb (off + k * 4 + 2) (ii m) /\ CC w' bb (off + k * 4 + 3) (sC Ac cs.length cc)) (by exact ⟨hbd.e8, p0, p1, p2, p3⟩) ?_
      refine hLr ?_
      refine HL.done ?_
      have p0 : wr.drew.cell? ⟨bb, off + k * 4, none⟩ = _ := p0
      have p1 : wr.drew.cell? ⟨bb, off + k * 4 + 1, none⟩ = _ := p1
      have p2 : wr.drew.cell? ⟨bb, off + k * 4 + 2, none⟩ = _ := p2
      have p3 : wr.drew.cell? ⟨bb, off + k * 4 + 3, none⟩ = _ := p3
      have hnxd := hnx.drew
      go_wp2_with fail
      generalize wr.drew = wr at *
      have hbd : Box wr.drew w.heap.size 49 #[ii g, ii b, ii p, ii t, sC A xs.length c, sC A2 ms.length c2, sC (some ⟨bb, off, none⟩) n c3, sC A4 im.length c4] := hbd
      refine wp_lexA (kf9 (kf9 (ff :: []))) (fun w' => (CC w' w.heap.size 0 (ii g) /\ CC w' w.heap.size 1 (ii b) /\ CC w' w.heap.size 2 (ii p) /\ CC w' w.heap.size 3 (ii t) /\ CC w' w.heap.size 4 (sC A xs.length c) /\ CC w' w.heap.size 5 (sC A2 ms.length c2) /\ CC w' w.heap.size 6 (sC (some ⟨bb, off, none⟩) n c3) /\ CC w' w.heap.size 7 (sC A4 im.length c4)) /\ CC w' bb (off + k * 4) (ii f) /\ CC w' bb (off + k * 4 + 1) (ii t9) /\ CC w' bb (off + k * 4 + 2) (ii m) /\ CC w' bb (off + k * 4 + 3) (sC Ac cs.length cc)) (by exact ⟨hbd.e8, p0, p1, p2, p3⟩) ?_
      refine hLr ?_
      refine HL.done ?_
      go_wp2
      go_roundw
      case rel => exact ⟨k + 1, by have := HKA.out; omega, by go_num, hnxd.drew, hbd⟩
      case measure => simp [intOf]; omega
 rw [if_neg hlt, if_neg hgt]
 have hd1 : decide (p < t) = false := decide_eq_false hlt
 have hd2 : decide (t < p) = false := decide_eq_false hgt
 clear hd hlt hgt
 go_enter func228, ntmps228
 go_wp2_with fail
 generalize w.alloc (.cells #[ii g, ii b, ii p, ii t, sC A xs.length c, sC A2 ms.length c2, sC A3 n c3, sC A4 im.length c4] 49) = W at *
 go_loopw [4] (fun i wr => ∃ (k : Nat), k <= n /\ i = ii k /\ Nx w wr /\ Box wr w.heap.size 49 #[ii g, ii b, ii p, ii t, sC A xs.length c, sC A2 ms.length c2, sC A3 n c3, sC A4 im.length c4]) (fun i _ => n - (intOf i).toNat)
 case atStart => exact ⟨0, oM, rfl, hx0, b0⟩
 case round =>
  obtain ⟨k, hk, rfl, hnx, hb⟩ := hrel
  clear hx0 b0
  by_cases hkn : k < n
  case neg =>
   obtain rfl : k = n := oM
   obtain ⟨_, _, _, _, _, _, c6, _⟩ := hb.e8
   go_wp2
   exact bodyPost_ret (v := .tuple #[ii (-1), .bool false]) (by simp [results, results228, go_sem]) rfl ⟨rfl, hnx⟩
  obtain ⟨_, _, _, _, _, _, c6, _⟩ := hb.e8
  obtain ⟨bb, off, rfl, hbb, p0, p1, p2, p3⟩ := h3' k hkn _ _ hnx hB
  have hF := HF.out k hkn
  have hT : (gs.getD k sgZ).t = atK b gs (k + 1) := rfl
  obtain ⟨⟨f, t9, m, Ac, cc, cs⟩, Hs⟩ := nM (gs.getD k sgZ)
  rw [Hs.out] at p0 p1 p2 p3 hF hT
  simp only at p0 p1 p2 p3 hF hT
  have hkc : (k : Int) < (n : Int) := oM
  have hk0 : (0 : Int) <= (k : Int) := oM
  have hbd : Box wr.drew w.heap.size 49 #[ii g, ii b, ii p, ii t, sC A xs.length c, sC A2 ms.length c2, sC (some ⟨bb, off, none⟩) n c3, sC A4 im.length c4] := hb
  clear hF hT
  go_wp2_with fail
  refine wp_lexA (kf9 (kf9 (ff :: []))) (fun w' => (CC w' w.heap.size 0 (ii g) /\ CC w' w.heap.size 1 (ii b) /\ CC w' w.heap.size 2 (ii p) /\ CC w' w.heap.size 3 (ii t) /\ CC w' w.heap.size 4 (sC A xs.length c) /\ CC w' w.heap.size 5 (sC A2 ms.length c2) /\ CC w' w.heap.size 6 (sC (some ⟨bb, off, none⟩) n c3) /\ CC w' w.heap.size 7 (sC A4 im.length c4)) /\ CC w' bb (off + k * 4) (ii f) /\ CC w' bb (off + k * 4 + 1) (ii t9) /\ CC w' bb (off + k * 4 + 2) (ii m) /\ CC w' bb (off + k * 4 + 3) (sC Ac cs.length cc)) (by exact ⟨hbd.e8, p0, p1, p2, p3⟩) ?_
  refine hLr ?_
  refine HL.done ?_
  have p0 : wr.drew.cell? ⟨bb, off + k * 4, none⟩ = _ := p0
  have p1 : wr.drew.cell? ⟨bb, off + k * 4 + 1, none⟩ = _ := p1
  have p2 : wr.drew.cell? ⟨bb, off + k * 4 + 2, none⟩ = _ := p2
  have p3 : wr.drew.cell? ⟨bb, off + k * 4 + 3, none⟩ = _ := p3
  have hnxd := hnx.drew
  go_wp2_with fail
  generalize wr.drew = wr at *
  have hbd : Box wr.drew w.heap.size 49 #[ii g, ii b, ii p, ii t, sC A xs.length c, sC A2 ms.length c2, sC (some ⟨bb, off, none⟩) n c3, sC A4 im.length c4] := hbd
  refine wp_lexA (kf9 (kf9 (ff :: []))) (fun w' => (CC w' w.heap.size 0 (ii g) /\ CC w' w.heap.size 1 (ii b) /\ CC w' w.heap.size 2 (ii p) /\ CC w' w.heap.size 3 (ii t) /\ CC w' w.heap.size 4 (sC A xs.length c) /\ CC w' w.heap.size 5 (sC A2 ms.length c2) /\ CC w' w.heap.size 6 (sC (some ⟨bb, off, none⟩) n c3) /\ CC w' w.heap.size 7 (sC A4 im.length c4)) /\ CC w' bb (off + k * 4) (ii f) /\ CC w' bb (off + k * 4 + 1) (ii t9) /\ CC w' bb (off + k * 4 + 2) (ii m) /\ CC w' bb (off + k * 4 + 3) (sC Ac cs.length cc)) (by exact ⟨hbd.e8, p0, p1, p2, p3⟩) ?_
  refine hLr ?_
  refine HL.done ?_
  go_wp2
  go_roundw
  case rel => exact ⟨k + 1, oM, by go_num, hnxd.drew, hbd⟩
  case measure => simp [intOf]; omega
def RetAn (w : World) (ys : List Int) (n : Int) (e : Ending) (w' : World) : Prop := ∃ (A : Option Addr) (c : Nat), e = .returned (.tuple #[sC A 8 c, ii n]) /\ Ins w' w'.heap.size A ys /\ Nx w w'
theorem l05Anchor_c (V : Vl) (B : Nat) (w : World) (h : Vlt w B V) (hB : B <= w.heap.size) (hn : VlN V 1048576) (hl : Lead V.b V.gs) (hc : V.im.length = 8) (hp : isRet V.b V.gs V.p = true) (hd : (V.p < V.t -> ahd V.b V.gs V.p < V.gs.length) /\ (V.t < V.p -> 0 < ahd V.b V.gs V.p)) :
 Calls Tryz.prog 208 #[V.v] w (RetAn w (stp V.b V.p V.t V.gs V.im).1 (atK V.b V.gs (stp V.b V.p V.t V.gs V.im).2)) := by
 have HST := qh (l05Step_c V B)
 obtain ⟨g, b, p, t, A, c, xs, A2, c2, ms, A3, c3, gs, A4, c4, im⟩ := V
 obtain ⟨h, h2, h3, h4⟩ := h
 obtain ⟨hn, hn2, hn3, hn4, hn5⟩ := hn
 simp only [Vl.v, Vl.cells] at *
 obtain ⟨a, Ha⟩ := nM (ahd b gs p)
 have ha := ahd_at hp
 have HD := qh hd
 have HPx := qh hp
 have HLd := qh hl
 have HNN : Hid (VlN ⟨g, b, p, t, A, c, xs, A2, c2, ms, A3, c3, gs, A4, c4, im⟩ 1048576) := qh ⟨hn, hn2, hn3, hn4, hn5⟩
 have HVT := qh (fun (w' : World) (hx : Nx w w') => (⟨h.below hx hB, h2.below hx hB, h3.below hx hB, h4.below hx hB⟩ : Vlt w' B ⟨g, b, p, t, A, c, xs, A2, c2, ms, A3, c3, gs, A4, c4, im⟩))
 have Hstp : Hid (stp b p t gs im = if p < t then (app pN im (gs.getD a sgZ).cs, a + 1) else if t < p then (app pO im (gs.getD (a - 1) sgZ).cs, a - 1) else (im, a)) := qh (by rw [<- Ha.out]; rfl)
 have HsI : Hid (stI b p t gs = if p < t then ((a : Int), true) else if t < p then ((a : Int) - 1, false) else (-1, false)) := qh (by rw [<- Ha.out]; rfl)
 rw [Ha.out] at ha hd
 obtain ⟨n, Hn⟩ := nM (gs.length)
 have h3' : ∀ k, k < n -> _ := fun k hk w' B' hw hB' => ((h3.below (w' := w') (B' := B') hw hB').row.at4 (k := k) (by rw [Hn.out]; exact hk))
 have h3c : ∀ k, k < n -> _ := fun k hk => h3.chs k (by rw [Hn.out]; exact hk)
 have HF := qh (fun k (hk : k < n) => hl.from_ k (by rw [Hn.out]; exact hk))
 have HOKs := qh (fun k (hk : k < n) => hl.ok k (by rw [Hn.out]; exact hk))
 have HA := qh ha.2
 have ha1 := ha.1
 have H8 := qh hc
 rw [Hn.out] at hn3 hd ha1
 rw [H8.out] at hn5
 have b0 := Box.new w 49 #[ii g, ii b, ii p, ii t, sC A xs.length c, sC A2 ms.length c2, sC A3 n c3, sC A4 8 c4]
 have hx0 := (Nx.refl w).alloc (.cells #[ii g, ii b, ii p, ii t, sC A xs.length c, sC A2 ms.length c2, sC A3 n c3, sC A4 8 c4] 49)
 clear hl hp ha h3 hc hn4
 have Hcall := qh (fun (w' : World) (hx : Nx w w') => HST.out w' (HVT.out w' hx) (ntr hB hx.size) HNN.out HLd.out HPx.out HD.out)
 rw [Hn.out, H8.out] at Hcall
 clear HST
 go_enter func208, ntmps208
 rw [Hn.out, H8.out]
 go_wp2_with fail
 generalize w.alloc (.cells #[ii g, ii b, ii p, ii t, sC A xs.length c, sC A2 ms.length c2, sC A3 n c3, sC A4 8 c4] 49) = W at *
 refine (Hcall.out W hx0).mono ?_
 rintro e w1 ⟨rfl, hx1⟩
 rw [HsI.out]
 replace hx0 := hx0.trans hx1
 have b1 := b0.nx hx1
 clear b0 hx1 Hcall
 by_cases hlt : p < t
 . rw [if_pos hlt]
   have HSB := qh (show stp b p t gs im = (app pN im (gs.getD a sgZ).cs, a + 1) by rw [Hstp.out, if_pos hlt])
   have han := hd.1 hlt
   clear hd hlt
   obtain ⟨k, Hk⟩ := nM (a)
   have hkn : k < n := by have := Hk.out; omega
   have hak : (a : Int) = (k : Int) := by have := Hk.out; omega
   rw [hak]
   clear hak
   have hk9 : decide ((k : Int) < 0) = false := decide_eq_false oM
   have hk0 : (0 : Int) <= (k : Int) := oM
   have hk1 : (k : Int) < (n : Int) := oM
   have hF := HF.out k hkn
   have hT : (gs.getD k sgZ).t = atK b gs (k + 1) := rfl
   have HOK := qh (HOKs.out k hkn)
   have hch := h3c k hkn
   obtain ⟨bb, off, rfl, hbb, p0, p1, p2, p3⟩ := h3' k hkn _ _ hx0 hB
   have HEQ := qh ((rfl : app pN im (gs.getD k sgZ).cs = app pN im (gs.getD k sgZ).cs))
   obtain ⟨⟨f, t9, m, Ac, cc, cs⟩, Hs⟩ := nM (gs.getD k sgZ)
   rw [Hs.out] at p0 p1 p2 p3 hF hT hch HOK HEQ
   simp only at p0 p1 p2 p3 hF hT hch HOK HEQ
   obtain ⟨ys, Hys⟩ := nM (app pN im cs)
   have HLA : Hid (ys.length = 8) := qh (by rw [<- Hys.out, app_len, H8.out])
   have HFT := qh hF
   have HTT := qh hT
   clear hF hT
   go_wp2_with fail
   have hbd := b1.nx (Nx.refl _).drew
   have hx2 := hx0.drew
   have hxc := hx2
   have hbw : bb < w1.drew.heap.size := Nat.lt_of_lt_of_le hbb (ntr hB hx2.size)
   refine wp_planA (.t 0 (.t 1 (.t 2 (.t 3 (.t 4 (.t 5 (.t 6 (.t 8 (.t 9 (.t 10 (.t 11 (.t 12 (.t 13 (.c 7 (.t 14 (.t 15 .e)))))))))))))))) (fun w' => (CC w' w.heap.size 0 (ii g) /\ CC w' w.heap.size 1 (ii b) /\ CC w' w.heap.size 2 (ii p) /\ CC w' w.heap.size 3 (ii t) /\ CC w' w.heap.size 4 (sC A xs.length c) /\ CC w' w.heap.size 5 (sC A2 ms.length c2) /\ CC w' w.heap.size 6 (sC (some ⟨bb, off, none⟩) n c3) /\ CC w' w.heap.size 7 (sC A4 8 c4)) /\ CC w' bb (off + k * 4) (ii f) /\ CC w' bb (off + k * 4 + 1) (ii t9) /\ CC w' bb (off + k * 4 + 2) (ii m) /\ CC w' bb (off + k * 4 + 3) (sC Ac cs.length cc)) (by exact ⟨hbd.e8, p0, p1, p2, p3⟩) ?_
   simp only [psOf, List.getD_cons_zero, List.getD_cons_succ]
   refine hPr ?_
   refine hPc fun K hK => ?_
   go_simp
   have hcl := l03Forward_c A4 c4 B im f t9 m Ac cc cs _ (h4.below hx2 hB) (hch.below hxc hB) (ntr hB hx2.size) HOK.out H8.out; rw [H8.out] at hcl; refine hcl.mono ?_; rintro e w2 ⟨A9, c9, rfl, hS9, hx3⟩; clear hcl; have hb2 := hbd.nx hx3; replace p0 := (hx3.cell (p := ⟨bb, off + k * 4, none⟩) hbw).trans p0; replace p1 := (hx3.cell (p := ⟨bb, off + k * 4 + 1, none⟩) hbw).trans p1; replace p2 := (hx3.cell (p := ⟨bb, off + k * 4 + 2, none⟩) hbw).trans p2; replace p3 := (hx3.cell (p := ⟨bb, off + k * 4 + 3, none⟩) hbw).trans p3; have hX3 := hx2.trans hx3; rw [Hys.out] at hS9 ⊢; rw [HLA.out]
   go_wp2_with fail
   refine hK.out _ _ (by exact ⟨hb2.e8, p0, p1, p2, p3⟩) ?_
   clear hK K
   refine nZ ?_
   refine hPr ?_
   refine HP.done ?_
   go_wp2
   exact bodyPost_ret (v := .tuple #[sC A9 8 c9, ii t9]) (by simp [results, results208, go_sem]) rfl ⟨A9, c9, by rw [HSB.out, HTT.out, <- Hk.out], by rw [HSB.out]; show Ins _ _ _ (app pN im (gs.getD a sgZ).cs); rw [Hk.out, Hs.out]; show Ins _ _ _ (app pN im cs); rw [Hys.out]; exact hS9.row, hX3⟩
 by_cases hgt : t < p
 . rw [if_neg hlt, if_pos hgt]
   have HSB := qh (show stp b p t gs im = (app pO im (gs.getD (a - 1) sgZ).cs, a - 1) by rw [Hstp.out, if_neg hlt, if_pos hgt])
   have han := hd.2 hgt
   clear hd hlt hgt
   obtain ⟨k, Hk⟩ := nM (a - 1)
   have hkn : k < n := by have := Hk.out; omega
   have hak : (a : Int) - 1 = (k : Int) := by have := Hk.out; omega
   rw [hak]
   clear hak
   have hk9 : decide ((k : Int) < 0) = false := decide_eq_false oM
   have hk0 : (0 : Int) <= (k : Int) := oM
   have hk1 : (k : Int) < (n : Int) := oM
   have hF := HF.out k hkn
   have hT : (gs.getD k sgZ).t = atK b gs (k + 1) := rfl
   have HOK := qh (HOKs.out k hkn)
   have hch := h3c k hkn
   obtain ⟨bb, off, rfl, hbb, p0, p1, p2, p3⟩ := h3' k hkn _ _ hx0 hB
   have HEQ := qh ((rfl : app pO im (gs.getD k sgZ).cs = app pO im (gs.getD k sgZ).cs))
   obtain ⟨⟨f, t9, m, Ac, cc, cs⟩, Hs⟩ := nM (gs.getD k sgZ)
   rw [Hs.out] at p0 p1 p2 p3 hF hT hch HOK HEQ
   simp only at p0 p1 p2 p3 hF hT hch HOK HEQ
   obtain ⟨ys, Hys⟩ := nM (app pO im cs)
   have HLA : Hid (ys.length = 8) := qh (by rw [<- Hys.out, app_len, H8.out])
   have HFT := qh hF
   have HTT := qh hT
   clear hF hT
   go_wp2_with fail
   have hbd := b1.nx (Nx.refl _).drew
   have hx2 := hx0.drew
   have hxc := hx2
   have hbw : bb < w1.drew.heap.size := Nat.lt_of_lt_of_le hbb (ntr hB hx2.size)
   refine wp_planA (.t 0 (.t 1 (.t 2 (.t 3 (.t 4 (.t 5 (.t 6 (.t 8 (.t 9 (.t 10 (.t 11 (.t 12 (.t 13 (.c 7 (.t 14 (.t 15 .e)))))))))))))))) (fun w' => (CC w' w.heap.size 0 (ii g) /\ CC w' w.heap.size 1 (ii b) /\ CC w' w.heap.size 2 (ii p) /\ CC w' w.heap.size 3 (ii t) /\ CC w' w.heap.size 4 (sC A xs.length c) /\ CC w' w.heap.size 5 (sC A2 ms.length c2) /\ CC w' w.heap.size 6 (sC (some ⟨bb, off, none⟩) n c3) /\ CC w' w.heap.size 7 (sC A4 8 c4)) /\ CC w' bb (off + k * 4) (ii f) /\ CC w' bb (off + k * 4 + 1) (ii t9) /\ CC w' bb (off + k * 4 + 2) (ii m) /\ CC w' bb (off + k * 4 + 3) (sC Ac cs.length cc)) (by exact ⟨hbd.e8, p0, p1, p2, p3⟩) ?_
   simp only [psOf, List.getD_cons_zero, List.getD_cons_succ]
   refine hPr ?_
   refine hPc fun K hK => ?_
   go_simp
   have hcl := l03Backward_c A4 c4 B im f t9 m Ac cc cs _ (h4.below hx2 hB) (hch.below hxc hB) (ntr hB hx2.size) HOK.out H8.out; rw [H8.out] at hcl; refine hcl.mono ?_; rintro e w2 ⟨A9, c9, rfl, hS9, hx3⟩; clear hcl; have hb2 := hbd.nx hx3; replace p0 := (hx3.cell (p := ⟨bb, off + k * 4, none⟩) hbw).trans p0; replace p1 := (hx3.cell (p := ⟨bb, off + k * 4 + 1, none⟩) hbw).trans p1; replace p2 := (hx3.cell (p := ⟨bb, off + k * 4 + 2, none⟩) hbw).trans p2; replace p3 := (hx3.cell (p := ⟨bb, off + k * 4 + 3, none⟩) hbw).trans p3; have hX3 := hx2.trans hx3; rw [Hys.out] at hS9 ⊢; rw [HLA.out]
   go_wp2_with fail
   refine hK.out _ _ (by exact ⟨hb2.e8, p0, p1, p2, p3⟩) ?_
   clear hK K
   refine nZ ?_
   refine hPr ?_
   refine HP.done ?_
   go_wp2
   exact bodyPost_ret (v := .tuple #[sC A9 8 c9, ii f]) (by simp [results, results208, go_sem]) rfl ⟨A9, c9, by rw [HSB.out, HFT.out, <- Hk.out], by rw [HSB.out]; show Ins _ _ _ (app pO im (gs.getD (a - 1) sgZ).cs); rw [Hk.out, Hs.out]; show Ins _ _ _ (app pO im cs); rw [Hys.out]; exact hS9.row, hX3⟩
 rw [if_neg hlt, if_neg hgt]
 have HSB := qh (show stp b p t gs im = (im, a) by rw [Hstp.out, if_neg hlt, if_neg hgt])
 clear hd hlt hgt
 have hbd := b1.nx (Nx.refl _).drew
 have hx2 := hx0.drew
 have q8 := b1.e8
 obtain ⟨_, _, y2, _, _, _, _, y7⟩ := q8
 go_wp2_with fail
 refine wp_lexA (kf7 ([])) (fun w' => CC w' w.heap.size 0 (ii g) /\ CC w' w.heap.size 1 (ii b) /\ CC w' w.heap.size 2 (ii p) /\ CC w' w.heap.size 3 (ii t) /\ CC w' w.heap.size 4 (sC A xs.length c) /\ CC w' w.heap.size 5 (sC A2 ms.length c2) /\ CC w' w.heap.size 6 (sC A3 n c3) /\ CC w' w.heap.size 7 (sC A4 8 c4)) (by exact hbd.e8) ?_
 refine hLr ?_
 refine HL.done ?_
 go_wp2
 exact bodyPost_ret (v := .tuple #[sC A4 8 c4, ii p]) (by simp [results, results208, go_sem]) rfl ⟨A4, c4, by rw [HSB.out, HA.out], by rw [HSB.out]; exact (h4.below hx2 hB).more (ntr hB hx2.size), hx2⟩
end
end Go.Proofs.YtieoiailjjnnoaaGreatDoor
