/-
  Contract of the model's l03Merge.
  Conditions: the changes can be read; their blocks are blocks.
-/
import Derived.Test.YtihpadelfpogmaaMrg
import Derived.Test.YtihpadelfpogmaaSgt
namespace Go.Proofs.Ytihpadelfpogmaa
set_option linter.unusedVariables false
set_option maxRecDepth 100000
open Go.RowKit

/-- How the model holds what may not be there. -/
def enc : Option Chg → Chg
  | none => (-1, 0, 0)
  | some c => c
def KeyOK (M : Int → Option Chg) : Prop := ∀ k p, M k = some p → p.1 = k
theorem noM_key : KeyOK noM := fun k p h => by cases h
theorem noteM_key {M : Int → Option Chg} (hM : KeyOK M) : ∀ cs, KeyOK (noteM M cs) := by
  intro cs
  induction cs generalizing M with
  | nil => exact hM
  | cons c cs ih =>
    have h2 : KeyOK (fun k => if c.1 = k then some c else M k) := fun k p h => by
      by_cases e : c.1 = k
      · simp only [e, if_true] at h; injection h with h; subst h; exact e
      · simp only [e, if_false] at h; exact hM k p h
    exact ih h2
theorem mgM_key {M : Int → Option Chg} (hM : KeyOK M) : ∀ cs, KeyOK (mgM M cs) := by
  intro cs
  induction cs generalizing M with
  | nil => exact hM
  | cons c cs ih =>
    have h2 : KeyOK (fun k => if c.1 = k then some (c.1, c.2.1, ((M k).getD c).2.2) else M k) := fun k p h => by
      by_cases e : c.1 = k
      · simp only [e, if_true] at h; injection h with h; subst h; rfl
      · simp only [e, if_false] at h; exact hM k p h
    exact ih h2
theorem enc_note {M : Int → Option Chg} {cs : List Chg} {i : Nat} (hi : i < cs.length) (k : Int) {q : Chg} (hq : cs.getD i chZ = q) : enc (noteM M (cs.take (i + 1)) k) = if q.1 = k then q else enc (noteM M (cs.take i) k) := by
  rw [noteM_succ M cs hi, hq]
  by_cases e : q.1 = k
  · simp [e, enc]
  · have e' : ¬ k = q.1 := fun h => e h.symm
    simp [e, e']
theorem enc_mg {M : Int → Option Chg} {cs : List Chg} {i : Nat} (hi : i < cs.length) (k : Int) {q : Chg} (hq : cs.getD i chZ = q) : enc (mgM M (cs.take (i + 1)) k) = if q.1 = k then (q.1, q.2.1, ((mgM M (cs.take i) k).getD q).2.2) else enc (mgM M (cs.take i) k) := by
  rw [mgM_succ M cs hi, hq]
  by_cases e : q.1 = k
  · subst e; simp [enc]
  · have e' : ¬ k = q.1 := fun h => e h.symm
    simp [e, e']

set_option maxRecDepth 100000 in
set_option maxHeartbeats 8000000 in
theorem l03Merge_c (f t m : Int) (A : Option Addr) (c : Nat) (l1 : List Chg) (f2 t2 m2 : Int) (A2 : Option Addr) (c2 : Nat) (l2 : List Chg) (B : Nat) (w : World) (h1 : Chs w B A l1) (h2 : Chs w B A2 l2) (hB : B ≤ w.heap.size) (hok1 : chsB l1 = true) (hok2 : chsB l2 = true) :
    Calls Try.prog 121 #[.agg #[.int .i64 f, .int .i64 t, .int .i64 m, .slice A l1.length c], .agg #[.int .i64 f2, .int .i64 t2, .int .i64 m2, .slice A2 l2.length c2]] w (RetG w f t2 m2 (mrgC l1 l2)) := by
  have hl1 := chsB_len hok1
  have hl2 := chsB_len hok2
  have bA0 := ((((Box.new w 54 #[.int .i64 f, .int .i64 t, .int .i64 m, .slice A l1.length c]).alloc (.cells #[.int .i64 f2, .int .i64 t2, .int .i64 m2, .slice A2 l2.length c2] 54)).alloc (.cells #[.int .i64 0, .int .i64 0, .int .i64 0, .slice none 0 0] 54)).alloc (.cells #[] 84)).alloc (.cells #[.int .i64 f, .int .i64 t2, .int .i64 m2, .slice (some ⟨w.heap.size + 1 + 1 + 1, 0, none⟩) 0 0] 54)
  have bB0 := (((Box.new (w.alloc (.cells #[.int .i64 f, .int .i64 t, .int .i64 m, .slice A l1.length c] 54)) 54 #[.int .i64 f2, .int .i64 t2, .int .i64 m2, .slice A2 l2.length c2]).alloc (.cells #[.int .i64 0, .int .i64 0, .int .i64 0, .slice none 0 0] 54)).alloc (.cells #[] 84)).alloc (.cells #[.int .i64 f, .int .i64 t2, .int .i64 m2, .slice (some ⟨w.heap.size + 1 + 1 + 1, 0, none⟩) 0 0] 54)
  have bR0 := ((Box.new ((w.alloc (.cells #[.int .i64 f, .int .i64 t, .int .i64 m, .slice A l1.length c] 54)).alloc (.cells #[.int .i64 f2, .int .i64 t2, .int .i64 m2, .slice A2 l2.length c2] 54)) 54 #[.int .i64 0, .int .i64 0, .int .i64 0, .slice none 0 0]).alloc (.cells #[] 84)).alloc (.cells #[.int .i64 f, .int .i64 t2, .int .i64 m2, .slice (some ⟨w.heap.size + 1 + 1 + 1, 0, none⟩) 0 0] 54)
  have hw0 := (RowC.new (((w.alloc (.cells #[.int .i64 f, .int .i64 t, .int .i64 m, .slice A l1.length c] 54)).alloc (.cells #[.int .i64 f2, .int .i64 t2, .int .i64 m2, .slice A2 l2.length c2] 54)).alloc (.cells #[.int .i64 0, .int .i64 0, .int .i64 0, .slice none 0 0] 54)) (Nat.le_refl _)).nx ((Nx.refl _).alloc (.cells #[.int .i64 f, .int .i64 t2, .int .i64 m2, .slice (some ⟨w.heap.size + 1 + 1 + 1, 0, none⟩) 0 0] 54))
  have bE0 := Box.new ((((w.alloc (.cells #[.int .i64 f, .int .i64 t, .int .i64 m, .slice A l1.length c] 54)).alloc (.cells #[.int .i64 f2, .int .i64 t2, .int .i64 m2, .slice A2 l2.length c2] 54)).alloc (.cells #[.int .i64 0, .int .i64 0, .int .i64 0, .slice none 0 0] 54)).alloc (.cells #[] 84)) 54 #[.int .i64 f, .int .i64 t2, .int .i64 m2, .slice (some ⟨w.heap.size + 1 + 1 + 1, 0, none⟩) 0 0]
  have hx0 := (((((Nx.refl w).alloc (.cells #[.int .i64 f, .int .i64 t, .int .i64 m, .slice A l1.length c] 54)).alloc (.cells #[.int .i64 f2, .int .i64 t2, .int .i64 m2, .slice A2 l2.length c2] 54)).alloc (.cells #[.int .i64 0, .int .i64 0, .int .i64 0, .slice none 0 0] 54)).alloc (.cells #[] 84)).alloc (.cells #[.int .i64 f, .int .i64 t2, .int .i64 m2, .slice (some ⟨w.heap.size + 1 + 1 + 1, 0, none⟩) 0 0] 54)
  simp only [World.size_alloc] at bB0 bR0 hw0 bE0
  go_enter Try.func121, Try.ntmps121
  go_wp2_with fail
  generalize ((((w.alloc (.cells #[.int .i64 f, .int .i64 t, .int .i64 m, .slice A l1.length c] 54)).alloc (.cells #[.int .i64 f2, .int .i64 t2, .int .i64 m2, .slice A2 l2.length c2] 54)).alloc (.cells #[.int .i64 0, .int .i64 0, .int .i64 0, .slice none 0 0] 54)).alloc (.cells #[] 84)).alloc (.cells #[.int .i64 f, .int .i64 t2, .int .i64 m2, .slice (some ⟨w.heap.size + 1 + 1 + 1, 0, none⟩) 0 0] 54) = W at *
  obtain ⟨M, HM⟩ : ∃ M, Hid (mgM (noteM noM l1) l2 = M) := ⟨_, rfl⟩
  go_loopw [6] (fun i wr => ∃ k : Nat, k ≤ 8 ∧ i = .int .i64 k ∧ (∃ v, Box wr (w.heap.size + 1 + 1 + 1 + 1) 54 #[.int .i64 f, .int .i64 t2, .int .i64 m2, v] ∧ RowC wr (w.heap.size + 1 + 1 + 1) v (risM M k)) ∧ Box wr w.heap.size 54 #[.int .i64 f, .int .i64 t, .int .i64 m, .slice A l1.length c] ∧ Box wr (w.heap.size + 1) 54 #[.int .i64 f2, .int .i64 t2, .int .i64 m2, .slice A2 l2.length c2] ∧ Box wr (w.heap.size + 1 + 1) 54 #[.int .i64 0, .int .i64 0, .int .i64 0, .slice none 0 0] ∧ Nx w wr) (fun i _ => 8 - (intOf i).toNat)
  case atStart => exact ⟨0, by omega, rfl, ⟨_, bE0, hw0⟩, bA0, bB0, bR0, hx0⟩
  case round =>
    obtain ⟨k, hk, rfl, ⟨v, bE, hrow⟩, bA, bB, bR, hnx⟩ := hrel
    clear bE0 hw0 bA0 bB0 bR0 hx0
    by_cases hk8 : k < 8
    case neg =>
      obtain rfl : k = 8 := by omega
      obtain ⟨A9, c9, rfl, hS9⟩ := hrow.sl
      obtain ⟨e0, e1, e2, e3⟩ := bE.d4
      have HX := Lib.hid hnx
      obtain ⟨r, Hr⟩ : ∃ r, Hid (mrgC l1 l2 = r) := ⟨_, rfl⟩
      have hrr : risM M 8 = r := by rw [← Hr.out, ← HM.out]; rfl
      rw [hrr] at hS9 e3
      clear hrr
      obtain ⟨rc0, rc1, rc2, rc3⟩ := bR.d4
      have rf0 := bR.frozen 0
      have rf1 := bR.frozen 1
      have rf2 := bR.frozen 2
      have rf3 := bR.frozen 3
      have rlt := bR.lt
      go_wp2
      have rq := (put4_box bR (.int .i64 f) (.int .i64 t2) (.int .i64 m2) (.slice A9 r.length c9))
      have hnf := (put4_nx (g := (w.heap.size + 1 + 1)) HX.out (by omega) (.int .i64 f) (.int .i64 t2) (.int .i64 m2) (.slice A9 r.length c9))
      unfold put4 at rq hnf
      have hSf := (((((hS9.low (lo' := w.heap.size + 1 + 1 + 1) (Nat.le_refl _)).far (p := ⟨(w.heap.size + 1 + 1), 0, none⟩) (by simp) (.int .i64 f)).far (p := ⟨(w.heap.size + 1 + 1), 1, none⟩) (by simp) (.int .i64 t2)).far (p := ⟨(w.heap.size + 1 + 1), 2, none⟩) (by simp) (.int .i64 m2)).far (p := ⟨(w.heap.size + 1 + 1), 3, none⟩) (by simp) (.slice A9 r.length c9))
      replace hSf := hSf.low (lo' := w.heap.size) (by omega)
      generalize ((((wr.setCell ⟨(w.heap.size + 1 + 1), 0, none⟩ (.int .i64 f)).setCell ⟨(w.heap.size + 1 + 1), 1, none⟩ (.int .i64 t2)).setCell ⟨(w.heap.size + 1 + 1), 2, none⟩ (.int .i64 m2)).setCell ⟨(w.heap.size + 1 + 1), 3, none⟩ (.slice A9 r.length c9)) = Wf at *
      obtain ⟨rg0, rg1, rg2, rg3⟩ := rq.d4
      exact bodyPost_ret (v := .agg #[.int .i64 f, .int .i64 t2, .int .i64 m2, .slice A9 r.length c9]) (by simp [results, Try.results121, go_sem, rg0, rg1, rg2, rg3]) rfl ⟨A9, c9, by rw [Hr.out], by rw [Hr.out]; exact hSf, hnf⟩
    rename World => wz
    have hkd : decide ((k : Int) < 8) = true := by simp; omega
    go_wp2_with fail
    have hxo := (Nx.refl wz).alloc (.cells #[.int .i64 (-1), .int .i64 0, .int .i64 0] 84)
    have bO := Box.new wz 84 #[.int .i64 (-1), .int .i64 0, .int .i64 0]
    generalize wz.alloc (.cells #[.int .i64 (-1), .int .i64 0, .int .i64 0] 84) = Wo at *
    go_loopw [8] (fun i ws => ∃ (j : Nat) (p0 p1 p2 : Int), j ≤ l1.length ∧ i = .int .i64 j ∧ Hid (enc (noteM noM (l1.take j) (k : Int)) = (p0, p1, p2)) ∧ Box ws wz.heap.size 84 #[.int .i64 p0, .int .i64 p1, .int .i64 p2] ∧ Nx wz ws) (fun i _ => l1.length - (intOf i).toNat)
    case atStart => exact ⟨0, -1, 0, 0, Nat.zero_le _, rfl, Lib.hid rfl, bO, hxo⟩
    case round =>
      obtain ⟨j, p0, p1, p2, hj, rfl, HP, bP, hxs⟩ := hrel
      clear bO hxo
      obtain ⟨_, _, _, a3⟩ := (bA.nx hxs).d4
      by_cases hjl : j < l1.length
      · obtain ⟨b', off, rfl, hb, k0, k1, k2⟩ := (h1.below (hnx.trans hxs) hB).at_ hjl
        obtain ⟨⟨q0, q1, q2⟩, Hq⟩ : ∃ q, Hid (l1.getD j chZ = q) := ⟨_, rfl⟩
        have HN := Lib.hid (enc_note (M := noM) hjl (k : Int) Hq.out)
        rw [Hq.out] at k0 k1 k2
        by_cases hqk : q0 = (k : Int)
        · have hqd : (q0 == (k : Int)) = true := by simp [hqk]
          obtain ⟨o0, o1, o2⟩ := bP.d3
          have g0 := bP.frozen 0
          have g1 := bP.frozen 1
          have g2 := bP.frozen 2
          have HQK := Lib.hid hqk
          clear hqk
          go_wp2
          go_roundw
          case rel => exact ⟨j + 1, q0, q1, q2, by omega, by go_num, Lib.hid (by rw [HN.out, if_pos HQK.out]), ((bP.set 0 (.int .i64 q0)).set 1 (.int .i64 q1)).set 2 (.int .i64 q2), ((hxs.setCell (p := ⟨wz.heap.size, 0, none⟩) (Nat.le_refl _) _).setCell (p := ⟨wz.heap.size, 1, none⟩) (Nat.le_refl _) _).setCell (p := ⟨wz.heap.size, 2, none⟩) (Nat.le_refl _) _⟩
          case measure => simp [intOf]; omega
        · have hqd : (q0 == (k : Int)) = false := by simp [hqk]
          have HQK := Lib.hid hqk
          clear hqk
          go_wp2
          go_roundw
          case rel => exact ⟨j + 1, p0, p1, p2, by omega, by go_num, Lib.hid (by rw [HN.out, if_neg HQK.out, HP.out]), bP, hxs⟩
          case measure => simp [intOf]; omega
      · obtain rfl : j = l1.length := by omega
        rw [List.take_length] at HP
        rename World => ws1
        go_wp2_with fail
        go_loopw [9] (fun i ws => ∃ (j : Nat) (p0 p1 p2 : Int), j ≤ l2.length ∧ i = .int .i64 j ∧ Hid (enc (mgM (noteM noM l1) (l2.take j) (k : Int)) = (p0, p1, p2)) ∧ Box ws wz.heap.size 84 #[.int .i64 p0, .int .i64 p1, .int .i64 p2] ∧ Nx wz ws) (fun i _ => l2.length - (intOf i).toNat)
        case atStart => exact ⟨0, p0, p1, p2, Nat.zero_le _, rfl, HP, bP, hxs⟩
        case round =>
          clear a3 bP hxs HP p0 p1 p2
          obtain ⟨j, p0, p1, p2, hj2, rfl, HP, bP, hxs⟩ := hrel
          obtain ⟨_, _, _, a3⟩ := (bB.nx hxs).d4
          obtain ⟨o0, o1, o2⟩ := bP.d3
          have g0 := bP.frozen 0
          have g1 := bP.frozen 1
          have g2 := bP.frozen 2
          have hz9 : w.heap.size + 1 + 1 + 1 + 1 < wz.heap.size := bE.lt
          have n1 : ¬ w.heap.size + 1 = wz.heap.size := by omega
          by_cases hjl2 : j < l2.length
          · obtain ⟨b', off, rfl, hb, k0, k1, k2⟩ := (h2.below (hnx.trans hxs) hB).at_ hjl2
            have n2 : ¬ b' = wz.heap.size := by omega
            obtain ⟨⟨q0, q1, q2⟩, Hq⟩ : ∃ q, Hid (l2.getD j chZ = q) := ⟨_, rfl⟩
            have HN := Lib.hid (enc_mg (M := noteM noM l1) hjl2 (k : Int) Hq.out)
            rw [Hq.out] at k0 k1 k2
            by_cases hqk : q0 = (k : Int)
            · have hqd : (q0 != (k : Int)) = false := by simp [hqk]
              have HQK := Lib.hid hqk
              clear hqk
              cases hMk : mgM (noteM noM l1) (l2.take j) (k : Int) with
              | none =>
                rw [hMk] at HP HN
                obtain ⟨rfl, rfl, rfl⟩ : p0 = -1 ∧ p1 = 0 ∧ p2 = 0 := by have := HP.out; simp [enc] at this; omega
                clear hMk
                go_wp2
                go_roundw
                case rel => exact ⟨j + 1, q0, q1, q2, by omega, by go_num, Lib.hid (by rw [HN.out, if_pos HQK.out]; rfl), (((bP.set 0 (.int .i64 q0)).set 1 (.int .i64 q1)).set 2 (.int .i64 q2)).set 1 (.int .i64 q1), (((hxs.setCell (p := ⟨wz.heap.size, 0, none⟩) (Nat.le_refl _) _).setCell (p := ⟨wz.heap.size, 1, none⟩) (Nat.le_refl _) _).setCell (p := ⟨wz.heap.size, 2, none⟩) (Nat.le_refl _) _).setCell (p := ⟨wz.heap.size, 1, none⟩) (Nat.le_refl _) _⟩
                case measure => simp [intOf]; omega
              | some p =>
                have hp1 := mgM_key (noteM_key noM_key l1) _ _ _ hMk
                rw [hMk] at HP HN
                obtain rfl : p = (p0, p1, p2) := HP.out
                simp only at hp1
                have hlt0 : decide (p0 < 0) = false := by simp; omega
                have HP1 := Lib.hid hp1
                clear hMk hp1
                go_wp2
                go_roundw
                case rel => exact ⟨j + 1, p0, q1, p2, by omega, by go_num, Lib.hid (by rw [HN.out, if_pos HQK.out, HP1.out, HQK.out]; rfl), bP.set 1 (.int .i64 q1), hxs.setCell (p := ⟨wz.heap.size, 1, none⟩) (Nat.le_refl _) _⟩
                case measure => simp [intOf]; omega
            · have hqd : (q0 != (k : Int)) = true := by simp [hqk]
              have HQK := Lib.hid hqk
              clear hqk
              go_wp2
              go_roundw
              case rel => exact ⟨j + 1, p0, p1, p2, by omega, by go_num, Lib.hid (by rw [HN.out, if_neg HQK.out, HP.out]), bP, hxs⟩
              case measure => simp [intOf]; omega
          · obtain rfl : j = l2.length := by omega
            rw [List.take_length] at HP
            rw [HM.out] at HP
            have HS := Lib.hid (risM_succ M k)
            have hxx := hnx.trans hxs
            cases hMk : M (k : Int) with
            | none =>
              rw [hMk] at HP HS
              obtain ⟨rfl, rfl, rfl⟩ : p0 = -1 ∧ p1 = 0 ∧ p2 = 0 := by have := HP.out; simp [enc] at this; omega
              clear hMk
              go_wp2
              go_roundw
              case rel => exact ⟨k + 1, by omega, by go_num, ⟨v, bE.nx hxs, by rw [HS.out]; simpa using hrow.nx hxs⟩, bA.nx hxs, bB.nx hxs, bR.nx hxs, hxx⟩
              case measure => simp [intOf]; omega
            | some p =>
              have hp1 : p.1 = (k : Int) := by rw [← HM.out] at hMk; exact mgM_key (noteM_key noM_key l1) _ _ _ hMk
              rw [hMk] at HP HS
              obtain rfl : p = (p0, p1, p2) := HP.out
              simp only at hp1
              have hlt0 : decide (0 ≤ p0) = true := by simp; omega
              clear hMk hp1
              have bE1 := bE.nx hxs
              obtain ⟨_, _, _, e3⟩ := bE1.d4
              have hlen := risM_len M k
              have HR := Lib.hid ((hrow.nx hxs).nx ((Nx.refl _).alloc (.cells #[.int .i64 p0, .int .i64 p1, .int .i64 p2] 84)))
              have HB := Lib.hid (Box.new wr 84 #[.int .i64 p0, .int .i64 p1, .int .i64 p2])
              have HX := Lib.hid (hxs.alloc (.cells #[.int .i64 p0, .int .i64 p1, .int .i64 p2] 84))
              have HN := Lib.hid hnx
              go_wp2_with (at_builtin; refine wpList_addC rfl _ _ rfl (w.heap.size + 1 + 1 + 1) wr.heap.size v (risM M k) p0 p1 p2 rfl rfl HR.out HB.out (by omega) (by have := HX.out.size; omega) ?_)
              intro A' k' w2 hrow2 hgr
              have bE2 := hgr.box _ _ _ (by decide) (bE1.alloc (.cells #[.int .i64 p0, .int .i64 p1, .int .i64 p2] 84))
              have bA2 := hgr.box _ _ _ (by decide) ((bA.nx hxs).alloc (.cells #[.int .i64 p0, .int .i64 p1, .int .i64 p2] 84))
              have bB2 := hgr.box _ _ _ (by decide) ((bB.nx hxs).alloc (.cells #[.int .i64 p0, .int .i64 p1, .int .i64 p2] 84))
              have bR2 := hgr.box _ _ _ (by decide) ((bR.nx hxs).alloc (.cells #[.int .i64 p0, .int .i64 p1, .int .i64 p2] 84))
              have hx2 := hgr.nx w (HN.out.trans HX.out) (by omega)
              clear e3
              obtain ⟨_, _, _, e3⟩ := bE2.d4
              have ef3 := bE2.frozen 3
              go_wp2
              go_roundw
              case rel => exact ⟨k + 1, by omega, by go_num, ⟨_, bE2.set 3 (.slice A' ((risM M k).length + 1) k'), by rw [HS.out]; exact hrow2.far bE2 (by decide)⟩, bA2.far (by simp <;> omega) _, bB2.far (by simp <;> omega) _, bR2.far (by simp <;> omega) _, hx2.setCell (p := ⟨w.heap.size + 1 + 1 + 1 + 1, 3, none⟩) (by simp <;> omega) _⟩
              case measure => simp [intOf]; omega
end Go.Proofs.Ytihpadelfpogmaa
