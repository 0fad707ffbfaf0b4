/-
  What segments put together are; contracts of the program's noteIn, risingChanges and mergedChanges.
  Conditions: the changes can be read; their blocks are blocks.
-/
import Derived.Test.YtihpadelfpogmaaCgs
import Derived.Test.YtihpadelfpogmaaVal
namespace Go.Proofs.Ytihpadelfpogmaa
set_option linter.unusedVariables false
set_option maxRecDepth 100000
open Go.RowKit

/-- A map with changes noted in it. -/
def noteM (M : Int → Option Chg) (cs : List Chg) : Int → Option Chg := fun k => cs.foldl (fun o c => if c.1 = k then some c else o) (M k)
/-- .. put together: what is new last, and was old first. -/
def mgM (M : Int → Option Chg) (cs : List Chg) : Int → Option Chg := fun k => cs.foldl (fun o c => if c.1 = k then some (c.1, c.2.1, (o.getD c).2.2) else o) (M k)
def noM : Int → Option Chg := fun _ => none
def risM (M : Int → Option Chg) (k : Nat) : List Chg := (List.range k).filterMap fun (j : Nat) => M (j : Int)
def mrgC (l1 l2 : List Chg) : List Chg := risM (mgM (noteM noM l1) l2) 8
theorem noteM_succ (M : Int → Option Chg) (cs : List Chg) {k : Nat} (hk : k < cs.length) : noteM M (cs.take (k + 1)) = fun x => if x = (cs.getD k chZ).1 then some (cs.getD k chZ) else noteM M (cs.take k) x := by
  funext x
  unfold noteM
  rw [List.take_succ_eq_append_getElem hk, List.foldl_append, List.getD_eq_getElem?_getD, List.getElem?_eq_getElem hk]
  show (if cs[k].1 = x then _ else _) = if x = cs[k].1 then _ else _
  by_cases h : cs[k].1 = x
  · rw [if_pos h, if_pos h.symm]; rfl
  · rw [if_neg h, if_neg (fun e => h e.symm)]
theorem mgM_succ (M : Int → Option Chg) (cs : List Chg) {k : Nat} (hk : k < cs.length) : mgM M (cs.take (k + 1)) = fun x => if x = (cs.getD k chZ).1 then some ((cs.getD k chZ).1, (cs.getD k chZ).2.1, ((mgM M (cs.take k) (cs.getD k chZ).1).getD (cs.getD k chZ)).2.2) else mgM M (cs.take k) x := by
  funext x
  unfold mgM
  rw [List.take_succ_eq_append_getElem hk, List.foldl_append, List.getD_eq_getElem?_getD, List.getElem?_eq_getElem hk]
  show (if cs[k].1 = x then _ else _) = if x = cs[k].1 then _ else _
  by_cases h : cs[k].1 = x
  · subst h; rw [if_pos rfl, if_pos rfl]; rfl
  · rw [if_neg h, if_neg (fun e => h e.symm)]
theorem risM_succ (M : Int → Option Chg) (k : Nat) : risM M (k + 1) = risM M k ++ (M (k : Int)).toList := by
  unfold risM
  rw [List.range_succ, List.filterMap_append]
  cases h : M (k : Int) <;> simp [h]
theorem risM_len (M : Int → Option Chg) (k : Nat) : (risM M k).length ≤ k := by
  unfold risM
  exact Nat.le_trans (List.length_filterMap_le _ _) (by simp)
theorem wf_small {q : Int} (h0 : 0 ≤ q) (h1 : q ≤ 7) : (Lit.int .i64 q).wf = true := by
  obtain ⟨n, rfl⟩ : ∃ n : Nat, q = n := ⟨q.toNat, by omega⟩
  have : n = 0 ∨ n = 1 ∨ n = 2 ∨ n = 3 ∨ n = 4 ∨ n = 5 ∨ n = 6 ∨ n = 7 := by omega
  rcases this with rfl | rfl | rfl | rfl | rfl | rfl | rfl | rfl <;> decide
/-- The changes of a row lie ahead of a block. -/
theorem Chs.rg {w w' : World} {B lo hi : Nat} {A : Option Addr} {cs : List Chg} (h : Chs w B A cs) (hr : Rg lo hi w w') (hB : B ≤ lo) (hl : lo ≤ w.heap.size) : Chs w' B A cs := h.below (hr.below hl) hB
theorem Rg.alloc {lo hi : Nat} {a w : World} (h : Rg lo hi a w) (o : Obj) : Rg lo hi a (w.alloc o) := h.trans (Rg.of_nx ((Nx.refl w).alloc o))

set_option maxRecDepth 100000 in
set_option maxHeartbeats 2000000 in
theorem noteIn_c (f t m : Int) (A : Option Addr) (c B b : Nat) (cs : List Chg) (M : Int → Option Chg) (w : World) (h : Chs w B A cs) (hm : MapC w b M) (hB : B ≤ b) (hok : chsB cs = true) :
    Calls Try.prog 117 #[.agg #[.int .i64 f, .int .i64 t, .int .i64 m, .slice A cs.length c], .map (some b)] w fun e w' => e = .returned (.tuple #[]) ∧ MapC w' b (noteM M cs) ∧ Rg b (b + 1) w w' := by
  have hl8 := chsB_len hok
  have hto := chsB_to hok
  have hbw := hm.lt
  clear hok
  go_enter Try.func117, Try.ntmps117
  go_wp2_with fail
  have hm0 := hm.alloc (.cells #[.int .i64 f, .int .i64 t, .int .i64 m, .slice A cs.length c] 54)
  have hr0 : Rg b (b + 1) w (w.alloc (.cells #[.int .i64 f, .int .i64 t, .int .i64 m, .slice A cs.length c] 54)) := Rg.of_nx ((Nx.refl w).alloc _)
  generalize w.alloc (.cells #[.int .i64 f, .int .i64 t, .int .i64 m, .slice A cs.length c] 54) = W at *
  go_loopw [9] (fun i wr => ∃ k : Nat, k ≤ cs.length ∧ i = .int .i64 k ∧ MapC wr b (noteM M (cs.take k)) ∧ Rg b (b + 1) w wr) (fun i _ => cs.length - (intOf i).toNat)
  case atStart => exact ⟨0, Nat.zero_le _, rfl, hm0, hr0⟩
  case round =>
    obtain ⟨k, hk, rfl, hmr, hrg⟩ := hrel
    clear hm0 hr0
    by_cases hlt : k < cs.length
    · obtain ⟨b', off, rfl, hb, k0, k1, k2⟩ := (h.rg hrg hB (Nat.le_of_lt hbw)).at_ hlt
      obtain ⟨hr0, hr1⟩ := hto.rise k hlt
      have HS := Lib.hid (noteM_succ M cs hlt)
      obtain ⟨⟨q0, q1, q2⟩, Hq⟩ : ∃ q, Hid (cs.getD k chZ = q) := ⟨_, rfl⟩
      rw [Hq.out] at k0 k1 k2 hr0 hr1
      have hwf := wf_small (q := q0) (by simp only at hr0; omega) hr1
      have hma := hmr.alloc (.cells #[.int .i64 q0, .int .i64 q1, .int .i64 q2] 84)
      go_wp2_with (at_mapUpdate; refine wpList_put rfl _ _ _ rfl b _ q0 (q0, q1, q2) rfl hma rfl rfl hwf ?_)
      intro w1 hm1 hr2
      go_wp2
      go_roundw
      case rel => exact ⟨k + 1, by omega, by go_num, by rw [HS.out, Hq.out]; exact hm1, (hrg.alloc _).trans hr2⟩
      case measure => simp [intOf]; omega
    · obtain rfl : k = cs.length := by omega
      rw [List.take_length] at hmr
      go_wp2
      exact bodyPost_end (v := .tuple #[]) (by simp [results, Try.results117, go_sem]) rfl ⟨rfl, hmr, hrg⟩

def RetCg (w : World) (cs : List Chg) (e : Ending) (w' : World) : Prop := ∃ (A : Option Addr) (c : Nat), e = .returned (.slice A cs.length c) ∧ Sl w' w.heap.size A 84 (cs.length * 3) (chAt cs) ∧ Nx w w'
set_option maxRecDepth 100000 in
set_option maxHeartbeats 2000000 in
theorem risingChanges_c (b : Nat) (M : Int → Option Chg) (w : World) (hm : MapC w b M) :
    Calls Try.prog 152 #[.map (some b)] w (RetCg w (risM M 8)) := by
  have hbw := hm.lt
  go_enter Try.func152, Try.ntmps152
  go_wp2_with fail
  go_loopw [3, 4, 7] (fun v _ i wr => ∃ k : Nat, k ≤ 8 ∧ i = .int .i64 k ∧ (∃ u, u = v ∧ RowC wr w.heap.size u (risM M k)) ∧ Nx w wr) (fun _ _ i _ => 8 - (intOf i).toNat)
  case atStart => exact ⟨0, by omega, rfl, ⟨_, rfl, RowC.nil _ _⟩, Nx.refl _⟩
  case round =>
    obtain ⟨k, hk, rfl, ⟨u, rfl, hrow⟩, hnx⟩ := hrel
    by_cases hlt : k < 8
    · have hmr := hm.nx hnx
      have hwf := wf_small (q := (k : Int)) (by omega) (by omega)
      have HS := Lib.hid (risM_succ M k)
      have hlk := hmr.look hwf
      have hlen := risM_len M k
      cases hMk : M (k : Int) with
      | none =>
        rw [hMk] at hlk HS
        have hlk' : (Instr.lookup 128 (.map (some b)) (.int .i64 (k : Int)) true).run Try.prog wr = .ok (.tuple #[.agg #[.int .i64 0, .int .i64 0, .int .i64 0], .bool false]) wr := hlk
        have HM := Lib.hid hMk
        clear hlk hMk
        go_wp2
        go_roundw
        case rel => exact ⟨k + 1, by omega, by go_num, ⟨_, rfl, by rw [HS.out]; simpa using hrow.nx ((Nx.refl wr).alloc _)⟩, hnx.alloc _⟩
        case measure => simp [intOf]; omega
      | some q =>
        obtain ⟨q0, q1, q2⟩ := q
        rw [hMk] at hlk HS
        have hlk' : (Instr.lookup 128 (.map (some b)) (.int .i64 (k : Int)) true).run Try.prog wr = .ok (.tuple #[.agg #[.int .i64 q0, .int .i64 q1, .int .i64 q2], .bool true]) wr := hlk
        have HM := Lib.hid hMk
        clear hlk hMk
        have hx1 := ((Nx.refl wr).alloc (.cells #[.int .i64 q0, .int .i64 q1, .int .i64 q2] 84)).alloc (.cells #[.int .i64 q0, .int .i64 q1, .int .i64 q2] 84)
        have hrow1 := hrow.nx hx1
        have hbx := Box.new (wr.alloc (.cells #[.int .i64 q0, .int .i64 q1, .int .i64 q2] 84)) 84 #[.int .i64 q0, .int .i64 q1, .int .i64 q2]
        simp only [World.size_alloc] at hbx
        have HR := Lib.hid hrow1
        have HB := Lib.hid hbx
        have HX := Lib.hid hx1
        have HN := Lib.hid hnx
        clear hrow1 hbx hx1 hrow
        go_wp2_with (at_builtin; refine wpList_addC rfl _ _ rfl w.heap.size (wr.heap.size + 1) _ (risM M k) q0 q1 q2 rfl rfl HR.out HB.out (by omega) (Nat.le_trans hnx.size HX.out.size) ?_)
        intro A' k' w2 hrow2 hgr
        go_wp2
        go_roundw
        case rel => exact ⟨k + 1, by omega, by go_num, ⟨_, rfl, by rw [HS.out]; exact hrow2⟩, hgr.nx _ (HN.out.trans HX.out) (Nat.le_refl _)⟩
        case measure => simp [intOf]; omega
    · obtain rfl : k = 8 := by omega
      obtain ⟨A9, c9, rfl, hS⟩ := hrow.sl
      go_wp2
      go_ret
      exact ⟨A9, c9, rfl, hS, hnx⟩

def gV (A : Option Addr) (f t m : Int) (n c : Nat) : Array Value := #[.int .i64 f, .int .i64 t, .int .i64 m, .slice A n c]
set_option maxRecDepth 100000 in
set_option maxHeartbeats 4000000 in
theorem mergedChanges_c (f t m : Int) (A : Option Addr) (c : Nat) (l1 : List Chg) (f2 t2 m2 : Int) (A2 : Option Addr) (c2 : Nat) (l2 : List Chg) (B : Nat) (w : World) (h1 : Chs w B A l1) (h2 : Chs w B A2 l2) (hB : B ≤ w.heap.size) (hok1 : chsB l1 = true) (hok2 : chsB l2 = true) :
    Calls Try.prog 119 #[.agg #[.int .i64 f, .int .i64 t, .int .i64 m, .slice A l1.length c], .agg #[.int .i64 f2, .int .i64 t2, .int .i64 m2, .slice A2 l2.length c2]] w (RetCg w (mrgC l1 l2)) := by
  have hl1 := chsB_len hok1
  have hl8 := chsB_len hok2
  have hto := chsB_to hok2
  have hmm := @run_makeMap Try.prog
  have b1 := ((Box.new w 54 #[.int .i64 f, .int .i64 t, .int .i64 m, .slice A l1.length c]).alloc (.cells #[.int .i64 f2, .int .i64 t2, .int .i64 m2, .slice A2 l2.length c2] 54)).alloc (.map #[] 0)
  have b2 := (Box.new (w.alloc (.cells #[.int .i64 f, .int .i64 t, .int .i64 m, .slice A l1.length c] 54)) 54 #[.int .i64 f2, .int .i64 t2, .int .i64 m2, .slice A2 l2.length c2]).alloc (.map #[] 0)
  have hm0 := MapC.made ((w.alloc (.cells #[.int .i64 f, .int .i64 t, .int .i64 m, .slice A l1.length c] 54)).alloc (.cells #[.int .i64 f2, .int .i64 t2, .int .i64 m2, .slice A2 l2.length c2] 54))
  have hx0 := (((Nx.refl w).alloc (.cells #[.int .i64 f, .int .i64 t, .int .i64 m, .slice A l1.length c] 54)).alloc (.cells #[.int .i64 f2, .int .i64 t2, .int .i64 m2, .slice A2 l2.length c2] 54)).alloc (.map #[] 0)
  simp only [World.size_alloc] at b2 hm0
  go_enter Try.func119, Try.ntmps119
  go_wp2_with fail
  generalize (((w.alloc (.cells #[.int .i64 f, .int .i64 t, .int .i64 m, .slice A l1.length c] 54)).alloc (.cells #[.int .i64 f2, .int .i64 t2, .int .i64 m2, .slice A2 l2.length c2] 54)).alloc (.map #[] 0)) = W at *
  refine (noteIn_c f t m A c B (w.heap.size + 1 + 1) l1 _ _ (h1.below hx0 hB) hm0 (by omega) hok1).mono ?_
  rintro e w1 ⟨rfl, hm1, hr1⟩
  have hX1 := Rg.nx_of hx0 hr1 (by omega)
  have b21 := b2.rg hr1 (by omega)
  obtain ⟨k0, k1, k2, k3⟩ := b21.d4
  clear hmm b1 b2 hm0 hx0 hr1 b21
  go_wp2_with fail
  go_loopw [17] (fun i wr => ∃ k : Nat, k ≤ l2.length ∧ i = .int .i64 k ∧ MapC wr (w.heap.size + 1 + 1) (mgM (noteM noM l1) (l2.take k)) ∧ Nx w wr) (fun i _ => l2.length - (intOf i).toNat)
  case atStart => exact ⟨0, Nat.zero_le _, rfl, hm1, hX1⟩
  case round =>
    obtain ⟨k, hk, rfl, hmr, hnx⟩ := hrel
    clear hm1 hX1 k0 k1 k2 k3
    by_cases hlt : k < l2.length
    · obtain ⟨b', off, rfl, hb, k0, k1, k2⟩ := (h2.below hnx hB).at_ hlt
      obtain ⟨hr0, hr1⟩ := hto.rise k hlt
      have HS := Lib.hid (mgM_succ (noteM noM l1) l2 hlt)
      obtain ⟨⟨q0, q1, q2⟩, Hq⟩ : ∃ q, Hid (l2.getD k chZ = q) := ⟨_, rfl⟩
      rw [Hq.out] at k0 k1 k2 hr0 hr1
      have hwf := wf_small (q := q0) (by simp only at hr0; omega) hr1
      have hma := hmr.alloc (.cells #[.int .i64 q0, .int .i64 q1, .int .i64 q2] 84)
      have hlk := hma.look hwf
      cases hMk : mgM (noteM noM l1) (l2.take k) q0 with
      | none =>
        rw [hMk] at hlk
        have hlk' : (Instr.lookup 128 (.map (some (w.heap.size + 1 + 1))) (.int .i64 q0) true).run Try.prog (wr.alloc (.cells #[.int .i64 q0, .int .i64 q1, .int .i64 q2] 84)) = .ok (.tuple #[.agg #[.int .i64 0, .int .i64 0, .int .i64 0], .bool false]) (wr.alloc (.cells #[.int .i64 q0, .int .i64 q1, .int .i64 q2] 84)) := hlk
        have HM := Lib.hid hMk
        clear hlk hMk
        have hmb := hma.alloc (.cells #[.int .i64 0, .int .i64 0, .int .i64 0] 84)
        go_wp2_with (at_mapUpdate; refine wpList_put rfl _ _ _ rfl (w.heap.size + 1 + 1) _ q0 (q0, q1, q2) rfl hmb rfl rfl hwf ?_)
        intro w2 hm2 hr2
        go_wp2
        go_roundw
        case rel => exact ⟨k + 1, by omega, by go_num, by rw [HS.out, Hq.out, HM.out]; exact hm2, Rg.nx_of ((hnx.alloc _).alloc _) hr2 (by omega)⟩
        case measure => simp [intOf]; omega
      | some p =>
        obtain ⟨p0, p1, p2⟩ := p
        rw [hMk] at hlk
        have hlk' : (Instr.lookup 128 (.map (some (w.heap.size + 1 + 1))) (.int .i64 q0) true).run Try.prog (wr.alloc (.cells #[.int .i64 q0, .int .i64 q1, .int .i64 q2] 84)) = .ok (.tuple #[.agg #[.int .i64 p0, .int .i64 p1, .int .i64 p2], .bool true]) (wr.alloc (.cells #[.int .i64 q0, .int .i64 q1, .int .i64 q2] 84)) := hlk
        have HM := Lib.hid hMk
        clear hlk hMk
        have hmb := (hmr.alloc (.cells #[.int .i64 q0, .int .i64 q1, .int .i64 p2] 84)).alloc (.cells #[.int .i64 p0, .int .i64 p1, .int .i64 p2] 84)
        go_wp2_with (at_mapUpdate; refine wpList_put rfl _ _ _ rfl (w.heap.size + 1 + 1) _ q0 (q0, q1, p2) rfl hmb rfl rfl hwf ?_)
        intro w2 hm2 hr2
        go_wp2
        go_roundw
        case rel => exact ⟨k + 1, by omega, by go_num, by rw [HS.out, Hq.out, HM.out]; exact hm2, Rg.nx_of ((hnx.alloc _).alloc _) hr2 (by omega)⟩
        case measure => simp [intOf]; omega
    · obtain rfl : k = l2.length := by omega
      rw [List.take_length] at hmr
      go_wp2_with fail
      refine (risingChanges_c _ _ _ hmr).mono ?_
      rintro e w2 ⟨A9, c9, rfl, hS9, hx9⟩
      obtain ⟨r, Hr⟩ : ∃ r, Hid (mrgC l1 l2 = r) := ⟨_, rfl⟩
      have HS9 : Hid (Sl w2 wr.heap.size A9 84 (r.length * 3) (chAt r)) := by rw [← Hr.out]; exact hS9
      clear hS9
      rw [show risM (mgM (noteM noM l1) l2) 8 = r from Hr.out]
      go_wp2
      go_ret
      exact ⟨A9, c9, by rw [Hr.out]; rfl, by rw [Hr.out]; exact HS9.out.low hnx.size, hnx.trans hx9⟩
end Go.Proofs.Ytihpadelfpogmaa
