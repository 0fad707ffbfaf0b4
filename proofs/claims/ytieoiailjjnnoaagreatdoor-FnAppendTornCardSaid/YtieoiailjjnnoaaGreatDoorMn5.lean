/-
  Texts of the proof, in their order.
  Conditions: those of each.
-/
import Derived.Test.YtieoiailjjnnoaaGreatDoorMn4
import Derived.Deep.AppendLies
import Derived.StillTailTactics
import Derived.Deep.RegionHeld3
import Derived.Laws.BytesArg
import Derived.Outline
namespace Go.Proofs.YtieoiailjjnnoaaGreatDoor
set_option linter.unusedVariables false
open _root_.Go.Proofs.Tryz
set_option maxRecDepth 100000
set_option maxHeartbeats 16000000
section
open Go.RowKit
def RetL (w : World) (s : BA) (e : Ending) (w' : World) : Prop :=
 ∃ (n : Int) (b : Bool), e = .returned (.tuple #[ii n, .bool b]) /\ ((plainB s.data.toList = true /\ b = true /\ n = ((valL s.data.toList : Nat) : Int)) \/ (plainB s.data.toList = false /\ (b = false \/ n < 0))) /\ w = w'
theorem plainB_sign {s : BA} (hp : 0 < s.size) (h : (s[0].toNat : Int) = 45) : plainB s.data.toList = false := by
 refine plainB_no (digL_no (k := 0) (by rw [<- ba_size]; exact hp) ?_)
 rw [getL s 0 hp]
 unfold digC digI
 rw [h]; decide
theorem sz_tail (s : BA) : (s.extract 1 s.size).size = s.size - 1 := by simp [ByteArray.size_extract]
theorem numS_step {n : Nat} {c : UInt8} (h1 : 48 <= (c.toNat : Int)) : (n : Int) * 10 + (c.toNat : Int) - 48 = ((10 * n + (c.toNat - 48) : Nat) : Int) := oM
theorem l00Number_c (s : BA) (w : World) (hs : s.size <= 65536) : Calls Tryz.prog 220 #[.string s] w (RetL w s) := by
 by_cases h0 : s.size = 0
 . have hd0 : decide (0 < (s.size : Int)) = false := decide_eq_false oM
   have hd : ((s.size : Int) == 0) = true := beq_iff_eq.2 oM
   have HF := qh (plainB_size (l := s.data.toList) (.inl (by rw [<- ba_size]; exact h0)))
   go_enter func220, ntmps220
   go_wp2
   go_ret2
   exact ⟨_, _, rfl, .inr ⟨HF.out, .inl rfl⟩, rfl⟩
 have hd0 : decide (0 < (s.size : Int)) = true := by simp; omega
 have hp : 0 < s.size := oM
 by_cases h45 : (s[0].toNat : Int) = 45
 . have hd1 : ((s[0].toNat : Int) == 45) = true := beq_iff_eq.2 h45
   have HF := qh (plainB_sign hp h45)
   have HFS := HF
   have Hz := qh (sz_tail s)
   clear h45
   have hsl : (1 : Int) <= (s.size : Int) := oM
   obtain ⟨u, hu1⟩ : ∃ u, s.extract 1 s.size = u := ⟨_, rfl⟩
   rw [hu1] at Hz
   have hu : u.size <= 65536 := by have := Hz.out; omega
   by_cases g0 : u.size = 0
   . have hg : ((u.size : Int) == 0) = true := beq_iff_eq.2 oM
     go_enter func220, ntmps220
     go_wp2
     go_ret2
     exact ⟨_, _, rfl, .inr ⟨HF.out, .inl rfl⟩, rfl⟩
   have hg : ((u.size : Int) == 0) = false := beq_eq_false_iff_ne.2 oM
   by_cases g18 : 18 < u.size
   . have hg2 : decide (18 < (u.size : Int)) = true := by simp; omega
     go_enter func220, ntmps220
     go_wp2
     go_ret2
     exact ⟨_, _, rfl, .inr ⟨HF.out, .inl rfl⟩, rfl⟩
   have hg2 : decide (18 < (u.size : Int)) = false := by simp; omega
   have gp : 0 < u.size := oM
   by_cases g48 : (u[0].toNat : Int) = 48
   . have hg3 : ((u[0].toNat : Int) == 48) = true := beq_iff_eq.2 g48
     clear g48
     by_cases g1 : 1 < u.size
     . have hg4 : decide (1 < (u.size : Int)) = true := by simp; omega
       go_enter func220, ntmps220
       go_wp2
       go_ret2
       exact ⟨_, _, rfl, .inr ⟨HF.out, .inl rfl⟩, rfl⟩
     . have hg4 : decide (1 < (u.size : Int)) = false := by simp; omega
       go_enter func220, ntmps220
       go_wp2
       go_ret2
       exact ⟨_, _, rfl, .inr ⟨HF.out, .inl rfl⟩, rfl⟩
   . have hg3 : ((u[0].toNat : Int) == 48) = false := beq_eq_false_iff_ne.2 g48
     have HP := qh (fun (hD : digL u.data.toList = true) => valL_pos _ rfl hD (fun e => by rw [ba_size, e] at gp; simp at gp) (by rw [head_at gp]; intro e; injection e with e; rw [e] at g48; exact g48 rfl))
     clear g48
     go_enter func220, ntmps220
     go_wp2
     go_loop [5, 6] (fun n i => ∃ k : Nat, k <= u.size /\ i = ii k /\ digL (u.data.toList.take k) = true /\ n = ii ((valTo u k : Nat) : Int)) (fun _ i => u.size - (intOf i).toNat)
     case atStart => exact ⟨0, Nat.zero_le _, rfl, rfl, rfl⟩
     case round =>
      obtain ⟨k, hk, rfl, hd', rfl⟩ := hrel
      have HD := qh hd'
      clear hd'
      by_cases hlt : k < u.size
      . have hbd := valTo_bd17 (s := u) (k := k) oM HD.out
        have HV := qh (valTo_succ u k hlt)
        have HT := qh (take_snoc u k hlt)
        obtain ⟨m, Hm⟩ := nM (valTo u k)
        rw [Hm.out] at hbd HV ⊢
        cases hC : digI (u[k].toNat : Int) with
        | true =>
          obtain ⟨h1', h2'⟩ := digI_yes hC
          have HC := qh hC
          clear hC
          have hq1 : decide ((u[k].toNat : Int) < 48) = false := by simp; omega
          have hq2 : decide (57 < (u[k].toNat : Int)) = false := by simp; omega
          go_wp2
          go_round
          case rel => exact ⟨k + 1, oM, by go_num, by rw [HT.out, digL_snoc, HD.out]; exact HC.out, by rw [HV.out, <- numS_step h1']⟩
          case measure => simp [intOf]; omega
        | false =>
          have HF := qh (digL_no (l := u.data.toList) (k := k) (by simpa using hlt) (by rw [getL u k hlt]; exact hC))
          have hC2 : ¬ (48 <= (u[k].toNat : Int) /\ (u[k].toNat : Int) <= 57) := by
           intro h; unfold digI at hC; simp only [Bool.and_eq_false_iff, decide_eq_false_iff_not] at hC; omega
          clear hC
          by_cases hq : (u[k].toNat : Int) < 48
          . have hq1 : decide ((u[k].toNat : Int) < 48) = true := by simp; omega
            go_wp2
            go_ret2
            exact ⟨_, _, rfl, .inr ⟨HFS.out, .inl rfl⟩, rfl⟩
          . have hq1 : decide ((u[k].toNat : Int) < 48) = false := by simp; omega
            have hq2 : decide (57 < (u[k].toNat : Int)) = true := by simp; omega
            go_wp2
            go_ret2
            exact ⟨_, _, rfl, .inr ⟨HFS.out, .inl rfl⟩, rfl⟩
      . obtain rfl : k = u.size := oM
        have e : u.data.toList.take u.size = u.data.toList := List.take_of_length_le (by simp)
        rw [e] at HD
        have HV := qh (show valTo u u.size = valL u.data.toList by unfold valTo; rw [e])
        rw [HV.out]
        clear e
        have hbd := valL_bd18 (l := u.data.toList) (by rw [<- ba_size]; omega) HD.out
        obtain ⟨m, Hm⟩ := nM (valL u.data.toList)
        rw [Hm.out] at hbd ⊢
        have HPm : Hid (1 <= m) := qh (by have := HP.out HD.out; rw [Hm.out] at this; exact this)
        go_wp2
        go_ret2
        exact ⟨_, _, rfl, .inr ⟨HFS.out, .inr (by have := HPm.out; omega)⟩, rfl⟩
 . have hd1 : ((s[0].toNat : Int) == 45) = false := beq_eq_false_iff_ne.2 h45
   clear h45
   by_cases g18 : 18 < s.size
   . have hg2 : decide (18 < (s.size : Int)) = true := by simp; omega
     have hg : ((s.size : Int) == 0) = false := beq_eq_false_iff_ne.2 oM
     have HF := qh (plainB_size (l := s.data.toList) (.inr (by rw [<- ba_size]; exact g18)))
     go_enter func220, ntmps220
     go_wp2
     go_ret2
     exact ⟨_, _, rfl, .inr ⟨HF.out, .inl rfl⟩, rfl⟩
   have hg2 : decide (18 < (s.size : Int)) = false := by simp; omega
   have hg : ((s.size : Int) == 0) = false := beq_eq_false_iff_ne.2 oM
   by_cases g48 : (s[0].toNat : Int) = 48
   . have hg3 : ((s[0].toNat : Int) == 48) = true := beq_iff_eq.2 g48
     by_cases g1 : 1 < s.size
     . have hg4 : decide (1 < (s.size : Int)) = true := by simp; omega
       have HF := qh (plainB_nought (l := s.data.toList) (by rw [<- ba_size]; exact g1) (by rw [head_at hp, toNat48 g48]))
       clear g48
       go_enter func220, ntmps220
       go_wp2
       go_ret2
       exact ⟨_, _, rfl, .inr ⟨HF.out, .inl rfl⟩, rfl⟩
     . have hg4 : decide (1 < (s.size : Int)) = false := by simp; omega
       have HPl := qh (plainB_mk (l := s.data.toList) (by rw [<- ba_size]; omega) (by rw [<- ba_size]; omega) (.inl (by rw [<- ba_size]; omega)))
       clear g48
       go_enter func220, ntmps220
       go_wp2
       go_loop [5, 6] (fun n i => ∃ k : Nat, k <= s.size /\ i = ii k /\ digL (s.data.toList.take k) = true /\ n = ii ((valTo s k : Nat) : Int)) (fun _ i => s.size - (intOf i).toNat)
       case atStart => exact ⟨0, Nat.zero_le _, rfl, rfl, rfl⟩
       case round =>
        obtain ⟨k, hk, rfl, hd', rfl⟩ := hrel
        have HD := qh hd'
        clear hd'
        by_cases hlt : k < s.size
        . have hbd := valTo_bd17 (s := s) (k := k) oM HD.out
          have HV := qh (valTo_succ s k hlt)
          have HT := qh (take_snoc s k hlt)
          obtain ⟨m, Hm⟩ := nM (valTo s k)
          rw [Hm.out] at hbd HV ⊢
          cases hC : digI (s[k].toNat : Int) with
          | true =>
            obtain ⟨h1', h2'⟩ := digI_yes hC
            have HC := qh hC
            clear hC
            have hq1 : decide ((s[k].toNat : Int) < 48) = false := by simp; omega
            have hq2 : decide (57 < (s[k].toNat : Int)) = false := by simp; omega
            go_wp2
            go_round
            case rel => exact ⟨k + 1, oM, by go_num, by rw [HT.out, digL_snoc, HD.out]; exact HC.out, by rw [HV.out, <- numS_step h1']⟩
            case measure => simp [intOf]; omega
          | false =>
            have HF := qh (digL_no (l := s.data.toList) (k := k) (by simpa using hlt) (by rw [getL s k hlt]; exact hC))
            have hC2 : ¬ (48 <= (s[k].toNat : Int) /\ (s[k].toNat : Int) <= 57) := by
             intro h; unfold digI at hC; simp only [Bool.and_eq_false_iff, decide_eq_false_iff_not] at hC; omega
            clear hC
            by_cases hq : (s[k].toNat : Int) < 48
            . have hq1 : decide ((s[k].toNat : Int) < 48) = true := by simp; omega
              go_wp2
              go_ret2
              exact ⟨_, _, rfl, .inr ⟨HPl.out.trans HF.out, .inl rfl⟩, rfl⟩
            . have hq1 : decide ((s[k].toNat : Int) < 48) = false := by simp; omega
              have hq2 : decide (57 < (s[k].toNat : Int)) = true := by simp; omega
              go_wp2
              go_ret2
              exact ⟨_, _, rfl, .inr ⟨HPl.out.trans HF.out, .inl rfl⟩, rfl⟩
        . obtain rfl : k = s.size := oM
          have e : s.data.toList.take s.size = s.data.toList := List.take_of_length_le (by simp)
          rw [e] at HD
          have HV := qh (show valTo s s.size = valL s.data.toList by unfold valTo; rw [e])
          rw [HV.out]
          clear e
          have hbd := valL_bd18 (l := s.data.toList) (by rw [<- ba_size]; omega) HD.out
          obtain ⟨m, Hm⟩ := nM (valL s.data.toList)
          rw [Hm.out] at hbd ⊢
          skip
          go_wp2
          go_ret2
          exact ⟨_, _, rfl, .inl ⟨HPl.out.trans HD.out, rfl, by rw [Hm.out]⟩, rfl⟩
   . have hg3 : ((s[0].toNat : Int) == 48) = false := beq_eq_false_iff_ne.2 g48
     have HPl := qh (plainB_mk (l := s.data.toList) (by rw [<- ba_size]; omega) (by rw [<- ba_size]; omega) (.inr (by rw [head_at hp]; intro e; injection e with e; exact g48 (by rw [e]; rfl))))
     clear g48
     go_enter func220, ntmps220
     go_wp2
     go_loop [5, 6] (fun n i => ∃ k : Nat, k <= s.size /\ i = ii k /\ digL (s.data.toList.take k) = true /\ n = ii ((valTo s k : Nat) : Int)) (fun _ i => s.size - (intOf i).toNat)
     case atStart => exact ⟨0, Nat.zero_le _, rfl, rfl, rfl⟩
     case round =>
      obtain ⟨k, hk, rfl, hd', rfl⟩ := hrel
      have HD := qh hd'
      clear hd'
      by_cases hlt : k < s.size
      . have hbd := valTo_bd17 (s := s) (k := k) oM HD.out
        have HV := qh (valTo_succ s k hlt)
        have HT := qh (take_snoc s k hlt)
        obtain ⟨m, Hm⟩ := nM (valTo s k)
        rw [Hm.out] at hbd HV ⊢
        cases hC : digI (s[k].toNat : Int) with
        | true =>
          obtain ⟨h1', h2'⟩ := digI_yes hC
          have HC := qh hC
          clear hC
          have hq1 : decide ((s[k].toNat : Int) < 48) = false := by simp; omega
          have hq2 : decide (57 < (s[k].toNat : Int)) = false := by simp; omega
          go_wp2
          go_round
          case rel => exact ⟨k + 1, oM, by go_num, by rw [HT.out, digL_snoc, HD.out]; exact HC.out, by rw [HV.out, <- numS_step h1']⟩
          case measure => simp [intOf]; omega
        | false =>
          have HF := qh (digL_no (l := s.data.toList) (k := k) (by simpa using hlt) (by rw [getL s k hlt]; exact hC))
          have hC2 : ¬ (48 <= (s[k].toNat : Int) /\ (s[k].toNat : Int) <= 57) := by
           intro h; unfold digI at hC; simp only [Bool.and_eq_false_iff, decide_eq_false_iff_not] at hC; omega
          clear hC
          by_cases hq : (s[k].toNat : Int) < 48
          . have hq1 : decide ((s[k].toNat : Int) < 48) = true := by simp; omega
            go_wp2
            go_ret2
            exact ⟨_, _, rfl, .inr ⟨HPl.out.trans HF.out, .inl rfl⟩, rfl⟩
          . have hq1 : decide ((s[k].toNat : Int) < 48) = false := by simp; omega
            have hq2 : decide (57 < (s[k].toNat : Int)) = true := by simp; omega
            go_wp2
            go_ret2
            exact ⟨_, _, rfl, .inr ⟨HPl.out.trans HF.out, .inl rfl⟩, rfl⟩
      . obtain rfl : k = s.size := oM
        have e : s.data.toList.take s.size = s.data.toList := List.take_of_length_le (by simp)
        rw [e] at HD
        have HV := qh (show valTo s s.size = valL s.data.toList by unfold valTo; rw [e])
        rw [HV.out]
        clear e
        have hbd := valL_bd18 (l := s.data.toList) (by rw [<- ba_size]; omega) HD.out
        obtain ⟨m, Hm⟩ := nM (valL s.data.toList)
        rw [Hm.out] at hbd ⊢
        skip
        go_wp2
        go_ret2
        exact ⟨_, _, rfl, .inl ⟨HPl.out.trans HD.out, rfl, by rw [Hm.out]⟩, rfl⟩
def RetL4 (w : World) (s : BA) (e : Ending) (w' : World) : Prop :=
 ∃ n : Int, e = .returned (.tuple #[ii n, .bool (plainB s.data.toList)]) /\ (plainB s.data.toList = true -> n = ((valL s.data.toList : Nat) : Int)) /\ Nx w w'
theorem l04Number_c (s : BA) (w : World) (hs : s.size <= 65536) : Calls Tryz.prog 195 #[.string s] w (RetL4 w s) := by
 go_enter func195, ntmps195
 go_wp2_with fail
 refine (l00Number_c s _ hs).mono ?_
 rintro e w1 ⟨n, b, rfl, hcase, rfl⟩
 rcases hcase with ⟨hP, rfl, rfl⟩ | ⟨hP, rfl | hneg⟩
 . have HPp := qh hP
   have hbd := valL_bd18 (plainB_len hP).2 (plainB_dig hP)
   have HG := qh (plain_digs hP)
   clear hP
   have HS := qh (show (⟨(digs (valL s.data.toList)).toArray⟩ : BA) = s by rw [HG.out])
   obtain ⟨m, Hm⟩ := nM (valL s.data.toList)
   rw [Hm.out] at hbd HS ⊢
   have hge : decide ((0 : Int) <= (m : Int)) = true := by simp
   go_wp2_with fail
   refine (l00Digits18_c m _ hbd).mono ?_
   rintro e w2 ⟨rfl, hnx⟩
   rw [HS.out]
   have hbq : (s.toList == s.toList) = true := by simp
   go_wp2
   go_ret2
   exact ⟨m, by rw [HPp.out]; rfl, (fun _ => by rw [Hm.out]), hnx⟩
 . have HPp := qh hP
   clear hP
   go_wp2
   go_ret2
   exact ⟨n, by rw [HPp.out]; rfl, (fun h => by rw [HPp.out] at h; cases h), Nx.refl _⟩
 . have HPp := qh hP
   clear hP
   have hge : decide ((0 : Int) <= n) = false := by simp; omega
   cases b with
   | false =>
     go_wp2
     go_ret2
     exact ⟨n, by rw [HPp.out]; rfl, (fun h => by rw [HPp.out] at h; cases h), Nx.refl _⟩
   | true =>
     go_wp2
     go_ret2
     exact ⟨n, by rw [HPp.out]; rfl, (fun h => by rw [HPp.out] at h; cases h), Nx.refl _⟩
theorem wp_addAllJ {w : World} {o : Oper} {a : Act} {K : Act -> World -> Prop} {Q : Exit -> Act -> World -> Prop}
 (s x : Operand) (ho : o.op = .call { callee := .builtin .append, args := #[s, x], argTypes := #[23, 23] })
 (B g0 : Nat) (A : Option Addr) (c : Nat) (xs : List Int) (hs : a.eval s = sC (some ⟨g0, 0, none⟩) 0 0) (hx : a.eval x = sC A xs.length c) (hown : RowI w B (sC (some ⟨g0, 0, none⟩) 0 0) []) {B' : Nat} (hrow : Ins w B' A xs)
 (hm : xs.length <= 1048576) (hB : B <= w.heap.size)
 (hK : ∀ A' k' w', RowI w' B (sC A' xs.length k') xs -> GrewT 3 B w w' -> (∀ k, k < w.heap.size -> k ≠ g0 -> w'.heap[k]? = w.heap[k]?) -> K (a.put o.dst (sC A' xs.length k')) w') :
 o.wp Tryz.prog a w K Q := by
 obtain ⟨i0, hi0, hz0, hz1, hz2⟩ := info_parts info_int
 rcases Nat.eq_zero_or_pos xs.length with h0 | hp
 . have hgs : xs = [] := List.eq_nil_of_length_eq_zero h0
   subst hgs
   have hrun : (Builtin.append_ #[23, 23] o.type #[sC (some ⟨g0, 0, none⟩) 0 0, sC A 0 c]).run Tryz.prog w = .ok (sC (some ⟨g0, 0, none⟩) 0 0) w := by
    rcases A with _ | a'
    . simp [Builtin.append_, run_underlying underlying23, sizeOf, typeInfo, hi0, Builtin.lenOf, Builtin.firstCells, storeCells]
    . simp [Builtin.append_, run_underlying underlying23, sizeOf, typeInfo, hi0, Builtin.lenOf, Builtin.firstCells, storeCells, loadCells, loadCellsFrom]
   have hx' : a.eval x = sC A 0 c := hx
   unfold Oper.wp execOp
   simp only [ho, resolve, invoke, builtin, Sem.run_bind, Sem.run_pure, Result.andThen_ok, List.map_toArray, List.map_cons, List.map_nil, hs, hx', hrun]
   exact hK _ _ w hown (grewT_refl' _ _ _) (fun _ _ _ => rfl)
 . obtain ⟨b, off, rfl, hb, hc⟩ := hrow oM
   refine wp_append_own w s x 23 ho B 3 i0 _ 1 8 underlying23 hi0 hz0 hz1 hz2 rfl oM _ 0 _ hs hown ⟨b, off, none⟩ xs.length c (iV xs) hx (by rw [iV_len', Nat.mul_one]) (fun j u hj => ?_) (iV_one' xs) (by unfold maxLen; omega) oM hB ?_
   . have hj' : j < xs.length := by
      have := (List.getElem?_eq_some_iff.1 hj).1
      rwa [iV_len'] at this
     rw [iV_get xs j hj'] at hj
     rw [addr_add', hc j hj']
     exact hj
   . intro v' w' hw' hg' _
     have hr : RowI w' B v' xs := by
      unfold RowI
      have : w'.ownsRow B 3 1 v' (0 + xs.length) (iV [] ++ iV xs) := hw'
      rw [Nat.zero_add] at this
      exact this
     obtain ⟨A', k', rfl, _⟩ := hr.sl
     exact hK A' k' w' hr (grewT_of' hown hg') (fun k hk hne => hg'.block k hk (fun e => hne (by simpa [Value.ownBlock] using e)))
theorem RowM.pt6t {u : World} {B g : Nat} {v : Value} {ms : List Mrk} {t' : TypeId} {a b c d x y : Value} (h : RowM u B v ms) (hb : Box u g t' #[a, b, c, d, x, y]) (ht : t' ≠ 136) (v0 v1 v2 v3 v4 v5 : Value) : RowM (put6 u g v0 v1 v2 v3 v4 v5) B v ms :=
 (((((h.far (p := ⟨g, 0, none⟩) hb ht v0).far (p := ⟨g, 1, none⟩) (hb.set 0 v0) ht v1).far (p := ⟨g, 2, none⟩) ((hb.set 0 v0).set 1 v1) ht v2).far (p := ⟨g, 3, none⟩) (((hb.set 0 v0).set 1 v1).set 2 v2) ht v3).far (p := ⟨g, 4, none⟩) ((((hb.set 0 v0).set 1 v1).set 2 v2).set 3 v3) ht v4).far (p := ⟨g, 5, none⟩) (((((hb.set 0 v0).set 1 v1).set 2 v2).set 3 v3).set 4 v4) ht v5
theorem Sl.grew {w w' : World} {lo B m : Nat} {A : Option Addr} {t t' : TypeId} {f : Nat -> Value} (h : Sl w lo A t m f) (hg : GrewT t' B w w') (ht : t ≠ t') : Sl w' lo A t m f := fun hm => by
 obtain ⟨g, e, hl, cs, hc, r⟩ := h hm
 exact ⟨g, e, hl, cs, hg.box g t cs ht hc, r⟩
theorem merge6 {G : Nat -> Nat -> Nat -> Option Addr -> Nat -> World -> Prop} {F : Nat -> Nat -> Nat -> Option Addr -> Nat -> World -> Prop} {R : Prop} (main : (∀ gi gs gm A c W, F gi gs gm A c W -> G gi gs gm A c W) -> R) (key : ∀ gi gs gm A c W, F gi gs gm A c W -> G gi gs gm A c W) : R := main key
theorem Below.cell_far (g g2 : Nat) (w : World) (v : Value) (h : g ≠ g2) {i j : Nat} : (w.setCell ⟨g2, j, none⟩ v).cell? ⟨g, i, none⟩ = w.cell? ⟨g, i, none⟩ := by
 have := Below.heap_setCell w ⟨g2, j, none⟩ v g h
 simp only [World.cell?, this]
theorem Sl.box0 {w : World} {lo m : Nat} {A : Option Addr} {t : TypeId} {f : Nat -> Value} (h : Sl w lo A t m f) (hm : 0 < m) : ∃ g, A = some ⟨g, 0, none⟩ /\ lo <= g /\ g < w.heap.size /\ (∃ cs, Box w g t cs) /\ ∀ i, i < m -> w.cell? ⟨g, i, none⟩ = some (f i) := by
 obtain ⟨g, e, hl, ho⟩ := h hm
 obtain ⟨cs, hc, r⟩ := id ho
 exact ⟨g, e, hl, ho.lt, ⟨cs, hc⟩, fun i hi => ho.cell hi⟩
theorem Box.ne_ty {w : World} {g g' : Nat} {t t' : TypeId} {cs cs' : Array Value} (h : Box w g t cs) (h' : Box w g' t' cs') (ht : t ≠ t') : g ≠ g' := by
 rintro rfl
 unfold Box at h h'
 rw [h] at h'
 injection h' with h'
 injection h' with _ h'
 exact ht h'
theorem getD_two {a b x : BA} {l : List BA} (h : l = [a, b]) : l.getD 0 x = a /\ l.getD 1 x = b := by subst h; exact ⟨rfl, rfl⟩
theorem cutB_two {c : UInt8} {t : BA} {a b : List UInt8} (h : cutL c t.data.toList = [a, b]) : cutB c t = [baL a, baL b] := by unfold cutB; rw [h]; rfl
theorem wordB_two {x : BA} {a b : List UInt8} (h : cutL 61 x.data.toList = [a, b]) : wordB x = if plainB b then some (baL a, ((valL b : Nat) : Int)) else none := wordM_two h
theorem wordB_more {x : BA} (h : (cutB 61 x).length ≠ 2) : wordB x = none := wordM_more (by rw [<- cutB_len]; exact h)
theorem cutL_of2 {c : UInt8} {s : List UInt8} (h : (cutL c s).length = 2) : ∃ a b, cutL c s = [a, b] := by
 obtain ⟨a, b, h1, _⟩ := cutL_two h
 exact ⟨a, b, h1⟩
theorem cutL_parts {c : UInt8} {s a b : List UInt8} (h : cutL c s = [a, b]) : a.length <= s.length /\ b.length <= s.length := ⟨cutL_part (by rw [h]; simp), cutL_part (by rw [h]; simp)⟩
theorem l04Read_c (t : BA) (w : World) (ht : t.size <= 65536) : Calls Tryz.prog 129 #[.string t] w (RetSU w (rdU t) (.bool false) (.bool true)) := by
 have b0 := Box.new w 26 #[ii 0, ii 0, ii 0, ii 0, nsl, nsl]
 have hx0 := (Nx.refl w).alloc (.cells #[ii 0, ii 0, ii 0, ii 0, nsl, nsl] 26)
 go_enter func129, ntmps129
 go_wp2_with fail
 generalize w.alloc (.cells #[ii 0, ii 0, ii 0, ii 0, nsl, nsl] 26) = W at *
 refine (l02Open_c t _ oM).mono ?_
 rintro e w0 ⟨x, rfl, hxs, hxb, hnx0⟩
 go_wp2_with fail
 refine (l00Cut_c x 124 _ oM).mono ?_
 rintro e w1 ⟨A6, c6, rfl, hP1, hnx1⟩
 have b1 := (b0.nx hnx0).nx hnx1
 have hx1 := (hx0.trans hnx0).trans hnx1
 clear b0 hx0 hnx0 hnx1
 cases ho : opensB t with
 | false =>
   have HF := qh (rdU_shut ho)
   clear ho hxb
   obtain ⟨u0, u1, u2, u3, u4, u5⟩ := b1.d6
   have f0 := b1.frozen 0
   have f1 := b1.frozen 1
   have f2 := b1.frozen 2
   have f3 := b1.frozen 3
   have f4 := b1.frozen 4
   have f5 := b1.frozen 5
   go_wp2
   have qx := (put6_box b1 (ii 0) (ii 0) (ii 0) (ii 0) (nsl) (nsl))
   have hnf := (put6_nx hx1 (Nat.le_refl w.heap.size) (ii 0) (ii 0) (ii 0) (ii 0) (nsl) (nsl))
   change bodyPost _ _ _ _ _ (put6 w1 w.heap.size (ii 0) (ii 0) (ii 0) (ii 0) (nsl) (nsl))
   change Box (put6 w1 w.heap.size (ii 0) (ii 0) (ii 0) (ii 0) (nsl) (nsl)) _ _ _ at qx
   generalize put6 w1 w.heap.size (ii 0) (ii 0) (ii 0) (ii 0) (nsl) (nsl) = Wf at *
   obtain ⟨g0, g1, g2, g3, g4, g5⟩ := qx.d6
   exact bodyPost_ret (v := .tuple #[.agg #[ii 0, ii 0, ii 0, ii 0, nsl, nsl], .bool false]) (by simp [results, results129, go_sem, g0, g1, g2, g3, g4, g5]) rfl (RetSU.no HF.out hnf)
 | true =>
   obtain rfl := hxb ho
   clear hxb
   have Hlc := qh (cutB_len 124 (bodyOf t))
   by_cases h2 : (cutB 124 (bodyOf t)).length = 2
   case neg =>
    have HF := qh (rdU_more (t := t) (by rw [<- Hlc.out]; exact h2))
    have hd2 : (((cutB 124 (bodyOf t)).length : Int) != 2) = true := by rw [bne_iff_ne]; omega
    clear ho h2
    obtain ⟨u0, u1, u2, u3, u4, u5⟩ := b1.d6
    have f0 := b1.frozen 0
    have f1 := b1.frozen 1
    have f2 := b1.frozen 2
    have f3 := b1.frozen 3
    have f4 := b1.frozen 4
    have f5 := b1.frozen 5
    go_wp2
    have qx := (put6_box b1 (ii 0) (ii 0) (ii 0) (ii 0) (nsl) (nsl))
    have hnf := (put6_nx hx1 (Nat.le_refl w.heap.size) (ii 0) (ii 0) (ii 0) (ii 0) (nsl) (nsl))
    change bodyPost _ _ _ _ _ (put6 w1 w.heap.size (ii 0) (ii 0) (ii 0) (ii 0) (nsl) (nsl))
    change Box (put6 w1 w.heap.size (ii 0) (ii 0) (ii 0) (ii 0) (nsl) (nsl)) _ _ _ at qx
    generalize put6 w1 w.heap.size (ii 0) (ii 0) (ii 0) (ii 0) (nsl) (nsl) = Wf at *
    obtain ⟨g0, g1, g2, g3, g4, g5⟩ := qx.d6
    exact bodyPost_ret (v := .tuple #[.agg #[ii 0, ii 0, ii 0, ii 0, nsl, nsl], .bool false]) (by simp [results, results129, go_sem, g0, g1, g2, g3, g4, g5]) rfl (RetSU.no HF.out hnf)
   obtain ⟨la, lb, hlab⟩ := cutL_of2 (by rw [<- Hlc.out]; exact h2)
   have HPu := qh (rdU_two ho hlab)
   have hlp := cutL_parts hlab
   have Hps := qh (cutB_two hlab)
   rw [<- ba_size] at hlp
   have hbsz := bodyOf_size t
   have HLa : Hid (la.length <= 65536) := qh oM
   have HLb : Hid (lb.length <= 65536) := qh oM
   obtain ⟨ps, Hpq⟩ := nM (cutB 124 (bodyOf t))
   rw [Hpq.out] at hP1 h2 Hps Hlc ⊢
   have hd2 : ((ps.length : Int) != 2) = false := by rw [bne_eq_false_iff_eq]; omega
   obtain ⟨gp, rfl, _, hgp, _, hcp0⟩ := hP1.box0 oM
   obtain ⟨sa, Hsa⟩ := nM (baL la)
   obtain ⟨sb, Hsb⟩ := nM (baL lb)
   have Hda := qh (show sa.data.toList = la by rw [<- Hsa.out]; rfl)
   have Hdb := qh (show sb.data.toList = lb by rw [<- Hsb.out]; rfl)
   have hla : sa.size <= 65536 := by rw [<- Hsa.out, baL_size]; exact HLa.out
   have hlb : sb.size <= 65536 := by rw [<- Hsb.out, baL_size]; exact HLb.out
   have p0 : w1.cell? ⟨gp, 0, none⟩ = some (.string sa) := by have := hcp0 0 oM; unfold wdAt at this; rw [(getD_two Hps.out).1, Hsa.out] at this; exact this
   have p1 : w1.cell? ⟨gp, 1, none⟩ = some (.string sb) := by have := hcp0 1 oM; unfold wdAt at this; rw [(getD_two Hps.out).2, Hsb.out] at this; exact this
   have hp0' : (0 : Int) < (ps.length : Int) := oM
   have hp1' : (1 : Int) < (ps.length : Int) := oM
   have hpm0 : 0 < ps.length := oM
   have hpm1 : 1 < ps.length := oM
   clear h2 hlab hlp hcp0 hP1 ho hbsz hxs
   go_wp2_with fail
   refine (l02Numbers_c sa _ hla).mono ?_
   rintro e w4 ⟨A, n, c, rfl, hr, hnx4⟩
   rw [Hda.out] at hr ⊢
   have b4 := b1.nx hnx4
   have hx4 := hx1.trans hnx4
   have hgp4 : gp < w4.heap.size := Nat.lt_of_lt_of_le hgp hnx4.size
   have p14 := (hnx4.cell (p := ⟨gp, 1, none⟩) hgp).trans p1
   clear p0 p1 b1 hx1 hnx4
   cases hn : numsO la with
   | none =>
     have HF := qh (HPu.out.trans (partU_nums hn))
     clear hr hn
     simp only [Option.isSome_none]
     obtain ⟨u0, u1, u2, u3, u4, u5⟩ := b4.d6
     have f0 := b4.frozen 0
     have f1 := b4.frozen 1
     have f2 := b4.frozen 2
     have f3 := b4.frozen 3
     have f4 := b4.frozen 4
     have f5 := b4.frozen 5
     go_wp2
     have qx := (put6_box b4 (ii 0) (ii 0) (ii 0) (ii 0) (nsl) (nsl))
     have hnf := (put6_nx hx4 (Nat.le_refl w.heap.size) (ii 0) (ii 0) (ii 0) (ii 0) (nsl) (nsl))
     change bodyPost _ _ _ _ _ (put6 w4 w.heap.size (ii 0) (ii 0) (ii 0) (ii 0) (nsl) (nsl))
     change Box (put6 w4 w.heap.size (ii 0) (ii 0) (ii 0) (ii 0) (nsl) (nsl)) _ _ _ at qx
     generalize put6 w4 w.heap.size (ii 0) (ii 0) (ii 0) (ii 0) (nsl) (nsl) = Wf at *
     obtain ⟨g0, g1, g2, g3, g4, g5⟩ := qx.d6
     exact bodyPost_ret (v := .tuple #[.agg #[ii 0, ii 0, ii 0, ii 0, nsl, nsl], .bool false]) (by simp [results, results129, go_sem, g0, g1, g2, g3, g4, g5]) rfl (RetSU.no HF.out hnf)
   | some ns =>
     obtain ⟨rfl, hrow, hcp⟩ := hr ns hn
     have HNs := qh hn
     have hnl : ns.length <= 65536 := by have := numsO_fit hn; have := HLa.out; omega
     clear hr hn
     simp only [Option.isSome_some]
     by_cases hl4 : 4 <= ns.length
     case neg =>
      have HF := qh (HPu.out.trans (partU_few HNs.out oM))
      have hd4 : decide ((ns.length : Int) < 4) = true := by simp; omega
      obtain ⟨u0, u1, u2, u3, u4, u5⟩ := b4.d6
      have f0 := b4.frozen 0
      have f1 := b4.frozen 1
      have f2 := b4.frozen 2
      have f3 := b4.frozen 3
      have f4 := b4.frozen 4
      have f5 := b4.frozen 5
      go_wp2
      have qx := (put6_box b4 (ii 0) (ii 0) (ii 0) (ii 0) (nsl) (nsl))
      have hnf := (put6_nx hx4 (Nat.le_refl w.heap.size) (ii 0) (ii 0) (ii 0) (ii 0) (nsl) (nsl))
      change bodyPost _ _ _ _ _ (put6 w4 w.heap.size (ii 0) (ii 0) (ii 0) (ii 0) (nsl) (nsl))
      change Box (put6 w4 w.heap.size (ii 0) (ii 0) (ii 0) (ii 0) (nsl) (nsl)) _ _ _ at qx
      generalize put6 w4 w.heap.size (ii 0) (ii 0) (ii 0) (ii 0) (nsl) (nsl) = Wf at *
      obtain ⟨g0, g1, g2, g3, g4, g5⟩ := qx.d6
      exact bodyPost_ret (v := .tuple #[.agg #[ii 0, ii 0, ii 0, ii 0, nsl, nsl], .bool false]) (by simp [results, results129, go_sem, g0, g1, g2, g3, g4, g5]) rfl (RetSU.no HF.out hnf)
     have hd4 : decide ((ns.length : Int) < 4) = false := by simp; omega
     obtain ⟨b, off, rfl, hb, hcl⟩ := hrow oM
     have HRow := qh (fun W (hW : Nx w4 W) => drop_row (W := W) (B := w4.heap.size) (c := c) (fun i hi => (hW.cell (p := ⟨b, off + i, none⟩) hb).trans (hcl i hi)) hb hl4 hcp)
     obtain ⟨n0, Hn0⟩ := nM (ns.getD 0 0)
     obtain ⟨n1, Hn1⟩ := nM (ns.getD 1 0)
     obtain ⟨n2, Hn2⟩ := nM (ns.getD 2 0)
     obtain ⟨n3, Hn3⟩ := nM (ns.getD 3 0)
     have k0 : w4.cell? ⟨b, off, none⟩ = some (ii n0) := by have := hcl 0 oM; unfold intAt at this; rw [Hn0.out] at this; exact this
     have k1 : w4.cell? ⟨b, off + 1, none⟩ = some (ii n1) := by have := hcl 1 oM; unfold intAt at this; rw [Hn1.out] at this; exact this
     have k2 : w4.cell? ⟨b, off + 2, none⟩ = some (ii n2) := by have := hcl 2 oM; unfold intAt at this; rw [Hn2.out] at this; exact this
     have k3 : w4.cell? ⟨b, off + 3, none⟩ = some (ii n3) := by have := hcl 3 oM; unfold intAt at this; rw [Hn3.out] at this; exact this
     obtain ⟨xs, Hxs⟩ := nM (intsN (ns.drop 4))
     have HLen : Hid (xs.length = ns.length - 4) := qh (by rw [<- Hxs.out, intsN_len, List.length_drop])
     rw [Hxs.out] at HRow
     have hi0' : (0 : Int) < (ns.length : Int) := oM
     have hi1' : (1 : Int) < (ns.length : Int) := oM
     have hi2' : (2 : Int) < (ns.length : Int) := oM
     have hi3' : (3 : Int) < (ns.length : Int) := oM
     have hm0 : 0 < ns.length := oM
     have hm1 : 1 < ns.length := oM
     have hm2 : 2 < ns.length := oM
     have hm3 : 3 < ns.length := oM
     clear hcl hrow
     go_wp2_with fail
     refine merge6 (F := (fun _ gS gm A5 c5 W => Box W gS 26 #[ii 0, ii 0, ii 0, ii 0, nsl, nsl] /\ RowM W w4.heap.size (sC (some ⟨gm, 0, none⟩) 0 0) [] /\ RowI W w4.heap.size (sC A5 xs.length c5) xs /\ Nx w4 W /\ w4.heap.size <= gS)) (G := ?_) (fun key => ?_) ?_
     rotate_left
     . have hd := (Nx.refl w4).drew
       refine wp_planA (.t 0 (.t 1 (.t 2 (.t 3 (.t 4 (.t 5 (.t 6 (.t 7 (.t 8 (.t 9 (.t 10 (.t 11 (.t 13 (.t 14 (.d 12 (.d 15 (.b 16 (.t 17 (.c 18 (.c 19 .e))) 18 (.c 16 (.t 17 (.c 19 .e)))) 16 (.b 15 (.t 17 (.c 18 (.c 19 .e))) 18 (.c 15 (.t 17 (.c 19 .e)))) 18 (.b 15 (.c 16 (.t 17 (.c 19 .e))) 16 (.c 15 (.t 17 (.c 19 .e))))) 16 (.b 12 (.b 15 (.t 17 (.c 18 (.c 19 .e))) 18 (.c 15 (.t 17 (.c 19 .e)))) 18 (.c 12 (.c 15 (.t 17 (.c 19 .e))))) 18 (.b 12 (.b 15 (.c 16 (.t 17 (.c 19 .e))) 16 (.c 15 (.t 17 (.c 19 .e)))) 16 (.c 12 (.c 15 (.t 17 (.c 19 .e)))))))))))))))))))) (fun w' => CC w' b off (ii n0) /\ CC w' b (off + 1) (ii n1) /\ CC w' b (off + 2) (ii n2) /\ CC w' b (off + 3) (ii n3)) (by exact ⟨(hd.cell (p := ⟨b, off, none⟩) hb).trans k0, (hd.cell (p := ⟨b, off + 1, none⟩) hb).trans k1, (hd.cell (p := ⟨b, off + 2, none⟩) hb).trans k2, (hd.cell (p := ⟨b, off + 3, none⟩) hb).trans k3⟩) ?_
       simp only [psOf, List.getD_cons_zero, List.getD_cons_succ]
       change HP _ _ _ _ _ _ w4.drew
       generalize w4.drew = wv at hd ⊢
       iterate 13 (refine HP.tk ?_; (try simp only [Act.put, qqA, qqB, qqC]))
       refine HP.take (v := sC (dropA (some ⟨b, off, none⟩) c) xs.length (c - 4)) (by rfl) (fun W _ => slice4 rfl rfl hl4 HLen.out) ?_
       refine nZ ?_
       repeat' (first
        | (have hA := rI; have hB0 := rM; have hC := bS; exact key gi gS gm A5 c5 wv ⟨bS, rM, rI, hd, hgS⟩)
        | (with_reducible refine HP.both ?_ ?_)
        | (with_reducible refine HP.three ?_ ?_ ?_)
        | (with_reducible refine HP.call ?_)
        | (refine HP.tk ?_; (try simp only [Act.put, qqA, qqB, qqC]))
        | (refine cSt fun K hK => ?_; first
          | (have hri := ri; refine wp_addAllJ _ _ rfl w4.heap.size gi (dropA (some ⟨b, off, none⟩) c) (c - 4) xs rfl rfl ri (HRow.out _ hd) (by have := HLen.out; omega) hd.size ?_; intro A5 c5 wv rI hG _; (try replace bS := hG.box _ _ _ dC bS); (try replace rM := rM.grew hG dC); replace hd := hG.nx w4 hd nle; clear ri hri hG; refine hK.out _ _ (by exact ⟨(hd.cell (p := ⟨b, off, none⟩) hb).trans k0, (hd.cell (p := ⟨b, off + 1, none⟩) hb).trans k1, (hd.cell (p := ⟨b, off + 2, none⟩) hb).trans k2, (hd.cell (p := ⟨b, off + 3, none⟩) hb).trans k3⟩) ?_; clear hK K; (try simp only [Act.put]))
          | (go_simp; first
            | (have hsz := hd.size; have hz := (Nx.refl wv).alloc (.cells #[] 3); (try replace ri := ri.nx hz); (try replace rI := rI.nx hz); (try replace rM := rM.nx hz); (try replace bS := bS.nx hz); replace hd := hd.trans hz; have ri := RowI.new wv (B := w4.heap.size) hsz; refine hK.out _ _ (by exact ⟨(hd.cell (p := ⟨b, off, none⟩) hb).trans k0, (hd.cell (p := ⟨b, off + 1, none⟩) hb).trans k1, (hd.cell (p := ⟨b, off + 2, none⟩) hb).trans k2, (hd.cell (p := ⟨b, off + 3, none⟩) hb).trans k3⟩) ?_; clear hK K hsz hz; (try simp only [Act.put, qqA, qqB, qqC]); change HP _ _ _ _ _ _ (wv.alloc (.cells #[] 3)); generalize wv.heap.size = gi at *; generalize wv.alloc (.cells #[] 3) = wv at *)
            | (have hsz := hd.size; have hz := (Nx.refl wv).alloc (.cells #[] 136); (try replace ri := ri.nx hz); (try replace rI := rI.nx hz); (try replace rM := rM.nx hz); (try replace bS := bS.nx hz); replace hd := hd.trans hz; have rM := RowM.new wv (B := w4.heap.size) hsz; refine hK.out _ _ (by exact ⟨(hd.cell (p := ⟨b, off, none⟩) hb).trans k0, (hd.cell (p := ⟨b, off + 1, none⟩) hb).trans k1, (hd.cell (p := ⟨b, off + 2, none⟩) hb).trans k2, (hd.cell (p := ⟨b, off + 3, none⟩) hb).trans k3⟩) ?_; clear hK K hsz hz; (try simp only [Act.put, qqA, qqB, qqC]); change HP _ _ _ _ _ _ (wv.alloc (.cells #[] 136)); generalize wv.heap.size = gm at *; generalize wv.alloc (.cells #[] 136) = wv at *)
            | (have hsz := hd.size; have hz := (Nx.refl wv).alloc (.cells #[ii 0, ii 0, ii 0, ii 0, nsl, nsl] 26); have hgS := hd.size; (try replace ri := ri.nx hz); (try replace rI := rI.nx hz); (try replace rM := rM.nx hz); (try replace bS := bS.nx hz); replace hd := hd.trans hz; have bS := Box.new wv 26 #[ii 0, ii 0, ii 0, ii 0, nsl, nsl]; refine hK.out _ _ (by exact ⟨(hd.cell (p := ⟨b, off, none⟩) hb).trans k0, (hd.cell (p := ⟨b, off + 1, none⟩) hb).trans k1, (hd.cell (p := ⟨b, off + 2, none⟩) hb).trans k2, (hd.cell (p := ⟨b, off + 3, none⟩) hb).trans k3⟩) ?_; clear hK K hsz hz; (try simp only [Act.put, qqA, qqB, qqC]); change HP _ _ _ _ _ _ (wv.alloc (.cells #[ii 0, ii 0, ii 0, ii 0, nsl, nsl] 26)); generalize wv.heap.size = gS at *; generalize wv.alloc (.cells #[ii 0, ii 0, ii 0, ii 0, nsl, nsl] 26) = wv at *))))
     intro gi gS gm A5 c5 w5 hF
     obtain ⟨bS, rM, rI, hx5, hgS⟩ := hF
     obtain ⟨r0, r1, r2, r3, r4, r5⟩ := bS.d6
     have rf0 := bS.frozen 0
     have rf1 := bS.frozen 1
     have rf2 := bS.frozen 2
     have rf3 := bS.frozen 3
     have rf4 := bS.frozen 4
     have rf5 := bS.frozen 5
     have rlt := bS.lt
     show HP _ _ _ _ _ _ _
     refine hPc fun K hK => ?_
     go_simp
     refine hK.out _ _ (by exact ⟨((put6_nx hx5 hgS (ii n0) (ii n1) (ii n2) (ii n3) (sC A5 xs.length c5) (sC (some ⟨gm, 0, none⟩) 0 0)).cell (p := ⟨b, off, none⟩) hb).trans k0, ((put6_nx hx5 hgS (ii n0) (ii n1) (ii n2) (ii n3) (sC A5 xs.length c5) (sC (some ⟨gm, 0, none⟩) 0 0)).cell (p := ⟨b, off + 1, none⟩) hb).trans k1, ((put6_nx hx5 hgS (ii n0) (ii n1) (ii n2) (ii n3) (sC A5 xs.length c5) (sC (some ⟨gm, 0, none⟩) 0 0)).cell (p := ⟨b, off + 2, none⟩) hb).trans k2, ((put6_nx hx5 hgS (ii n0) (ii n1) (ii n2) (ii n3) (sC A5 xs.length c5) (sC (some ⟨gm, 0, none⟩) 0 0)).cell (p := ⟨b, off + 3, none⟩) hb).trans k3⟩) ?_
     clear hK K
     refine nZ ?_
     refine HP.done ?_
     clear r0 r1 r2 r3 r4 r5 rf0 rf1 rf2 rf3 rf4 rf5 rlt
     obtain ⟨A5b, c5b, he5, hc5b, hS5⟩ := rI.slc
     injection he5 with e5a _ e5b
     subst e5a e5b
     have hc5 := hc5b
     have bs := put6_box bS (ii n0) (ii n1) (ii n2) (ii n3) (sC A5 xs.length c5) (sC (some ⟨gm, 0, none⟩) 0 0)
     have hx6 := put6_nx hx5 hgS (ii n0) (ii n1) (ii n2) (ii n3) (sC A5 xs.length c5) (sC (some ⟨gm, 0, none⟩) 0 0)
     have hS6 := hS5.pt6t bS dC (ii n0) (ii n1) (ii n2) (ii n3) (sC A5 xs.length c5) (sC (some ⟨gm, 0, none⟩) 0 0)
     have hM6 := rM.pt6t bS dC (ii n0) (ii n1) (ii n2) (ii n3) (sC A5 xs.length c5) (sC (some ⟨gm, 0, none⟩) 0 0)
     change Exit.then _ _ _ _ (put6 w5 gS (ii n0) (ii n1) (ii n2) (ii n3) (sC A5 xs.length c5) (sC (some ⟨gm, 0, none⟩) 0 0))
     generalize (put6 w5 gS (ii n0) (ii n1) (ii n2) (ii n3) (sC A5 xs.length c5) (sC (some ⟨gm, 0, none⟩) 0 0)) = w6 at *
     clear bS rM rI hx5 hS5
     clear k0 k1 k2 k3 hi0' hi1' hi2' hi3' hm0 hm1 hm2 hm3
     have p16 := (hx6.cell (p := ⟨gp, 1, none⟩) hgp4).trans p14
     go_wp2_with fail
     refine (l00Cut_c sb 44 _ hlb).mono ?_
     rintro e w8 ⟨A9, c9, rfl, hW8, hnx8⟩
     have HO := qh (fun h => marksO_cut (s := sb) h)
     have HPt := qh (fun k => cutB_part (c := 44) (t := sb) k)
     have hl9 : (cutB 44 sb).length <= 65537 := by rw [cutB_len]; have := cutL_size 44 sb.data.toList; rw [<- ba_size] at this; omega
     have hl1 : 1 <= (cutB 44 sb).length := by rw [cutB_len]; exact cutL_pos _ _
     rw [Hdb.out] at HO
     have HZe := qh (fun (h : sb.size = 0) => marksO_nil h)
     rw [Hdb.out] at HZe
     obtain ⟨ws, Hws⟩ := nM (cutB 44 sb)
     rw [Hws.out] at hW8 HO hl9 hl1 HPt ⊢
     have bs8 := bs.nx hnx8
     have hM8 := hM6.nx hnx8
     have hS8 := hS6.nx hnx8
     have hx8 := hx6.trans hnx8
     have hgW : w6.heap.size <= w8.heap.size := hnx8.size
     have hW8' := hW8.low (lo' := w4.heap.size) hx6.size
     clear bs hM6 hS6 hx6 hnx8 p16 hW8
     go_wp2
     go_loopw [11] (fun i wr => ∃ (k : Nat) (v : Value) (ms : List Mrk), k <= ws.length /\ i = ii k /\ Box wr gS 26 #[ii n0, ii n1, ii n2, ii n3, sC A5 xs.length c5, v] /\ RowM wr w4.heap.size v ms /\ SlI wr w4.heap.size A5 xs /\ Sl wr w4.heap.size A9 9 ws.length (wdAt ws) /\ Hid (marksB (ws.take k) = some ms) /\ Hid (sb.size = 0 -> k = 0) /\ Nx w4 wr) (fun i _ => ws.length - (intOf i).toNat)
     case atStart => exact ⟨0, _, [], Nat.zero_le _, rfl, bs8, hM8, hS8, hW8', qh rfl, qh (fun _ => rfl), hx8⟩
     case round =>
      obtain ⟨k, v, ms, hk, rfl, bg, rM, hS, hW, HM, HK, hxr⟩ := hrel
      clear bs8 hM8 hS8 hW8' hx8
      have p1r := (hxr.cell (p := ⟨gp, 1, none⟩) hgp4).trans p14
      by_cases hz : sb.size = 0
      . obtain rfl := HK.out hz
        have hlt0 : 0 < ws.length := oM
        have hq : (sb.toList != []) = false := by
         rw [bne_eq_false_iff_eq, ByteArray.toList_eq]; exact List.eq_nil_of_length_eq_zero (by rw [<- ba_size]; exact hz)
        have hq0 : (sb.toList == []) = true := by
         rw [beq_iff_eq, ByteArray.toList_eq]; exact List.eq_nil_of_length_eq_zero (by rw [<- ba_size]; exact hz)
        have HMs : Hid (marksO lb = some ms) := qh (by rw [HZe.out hz]; exact HM.out)
        clear hz
        obtain ⟨A2, c2, rfl, _, hM⟩ := rM.slc
        have hfit := marksO_fit HLb.out HMs.out
        have hml := hfit.1
        have HAm := qh hfit.2
        have HU := qh (HPu.out.trans (partU_yes HNs.out hl4 HMs.out))
        have b6 := b4.nx hxr
        have hxw6 := hx4.trans hxr
        obtain ⟨y0, y1, y2, y3, y4, y5⟩ := bg.d6
        clear hfit
        go_wp2_with fail
        refine (specSuperOK_c n0 n1 n2 n3 A5 A2 c5 c2 _ xs ms _ hS.row hM.row nle (by have := HLen.out; omega) hml hc5 HAm.out).mono ?_
        rintro e w7 ⟨rfl, hnx7⟩
        have b7 := b6.nx hnx7
        have bs7 := bg.nx hnx7
        have hx7 := hxw6.trans hnx7
        have hS7 := hS.nx hnx7
        have hM7 := hM.nx hnx7
        clear y0 y1 y2 y3 y4 y5
        obtain ⟨y0, y1, y2, y3, y4, y5⟩ := bs7.d6
        cases hf : superB n0 n1 n2 n3 xs ms with
        | false =>
          have HF := qh (HU.out.trans (supOf_no (by rw [Hn0.out, Hn1.out, Hn2.out, Hn3.out, Hxs.out]; exact hf)))
          clear hf
          obtain ⟨u0, u1, u2, u3, u4, u5⟩ := b7.d6
          have f0 := b7.frozen 0
          have f1 := b7.frozen 1
          have f2 := b7.frozen 2
          have f3 := b7.frozen 3
          have f4 := b7.frozen 4
          have f5 := b7.frozen 5
          go_wp2
          have qx := (put6_box b7 (ii 0) (ii 0) (ii 0) (ii 0) (nsl) (nsl))
          have hnf := (put6_nx hx7 (Nat.le_refl w.heap.size) (ii 0) (ii 0) (ii 0) (ii 0) (nsl) (nsl))
          change bodyPost _ _ _ _ _ (put6 w7 w.heap.size (ii 0) (ii 0) (ii 0) (ii 0) (nsl) (nsl))
          change Box (put6 w7 w.heap.size (ii 0) (ii 0) (ii 0) (ii 0) (nsl) (nsl)) _ _ _ at qx
          generalize put6 w7 w.heap.size (ii 0) (ii 0) (ii 0) (ii 0) (nsl) (nsl) = Wf at *
          obtain ⟨g0, g1, g2, g3, g4, g5⟩ := qx.d6
          exact bodyPost_ret (v := .tuple #[.agg #[ii 0, ii 0, ii 0, ii 0, nsl, nsl], .bool false]) (by simp [results, results129, go_sem, g0, g1, g2, g3, g4, g5]) rfl (RetSU.no HF.out hnf)
        | true =>
          have HF := qh (HU.out.trans (supOf_yes (by rw [Hn0.out, Hn1.out, Hn2.out, Hn3.out, Hxs.out]; exact hf)))
          rw [Hn0.out, Hn1.out, Hn2.out, Hn3.out, Hxs.out] at HF
          clear hf
          have hgl : w.heap.size < w4.heap.size := b4.lt
          obtain ⟨u0, u1, u2, u3, u4, u5⟩ := b7.d6
          have f0 := b7.frozen 0
          have f1 := b7.frozen 1
          have f2 := b7.frozen 2
          have f3 := b7.frozen 3
          have f4 := b7.frozen 4
          have f5 := b7.frozen 5
          go_wp2
          have qx := (put6_box b7 (ii n0) (ii n1) (ii n2) (ii n3) (sC A5 xs.length c5) (sC A2 ms.length c2))
          have hnf := (put6_nx hx7 (Nat.le_refl w.heap.size) (ii n0) (ii n1) (ii n2) (ii n3) (sC A5 xs.length c5) (sC A2 ms.length c2))
          have hsf := (hS7.pt6 hgl (ii n0) (ii n1) (ii n2) (ii n3) (sC A5 xs.length c5) (sC A2 ms.length c2))
          change Sl (put6 w7 w.heap.size (ii n0) (ii n1) (ii n2) (ii n3) (sC A5 xs.length c5) (sC A2 ms.length c2)) _ _ _ _ _ at hsf
          have hmf := (hM7.pt6 hgl (ii n0) (ii n1) (ii n2) (ii n3) (sC A5 xs.length c5) (sC A2 ms.length c2))
          change Sl (put6 w7 w.heap.size (ii n0) (ii n1) (ii n2) (ii n3) (sC A5 xs.length c5) (sC A2 ms.length c2)) _ _ _ _ _ at hmf
          change bodyPost _ _ _ _ _ (put6 w7 w.heap.size (ii n0) (ii n1) (ii n2) (ii n3) (sC A5 xs.length c5) (sC A2 ms.length c2))
          change Box (put6 w7 w.heap.size (ii n0) (ii n1) (ii n2) (ii n3) (sC A5 xs.length c5) (sC A2 ms.length c2)) _ _ _ at qx
          generalize put6 w7 w.heap.size (ii n0) (ii n1) (ii n2) (ii n3) (sC A5 xs.length c5) (sC A2 ms.length c2) = Wf at *
          obtain ⟨hmf0, hmf1, hmf2, hmf3, hmf4, hmf5⟩ := qx.d6
          exact bodyPost_ret (v := .tuple #[.agg #[ii n0, ii n1, ii n2, ii n3, sC A5 xs.length c5, sC A2 ms.length c2], .bool true]) (by simp [results, results129, go_sem, hmf0, hmf1, hmf2, hmf3, hmf4, hmf5]) rfl (RetSU.yes HF.out hc5 (hsf.low oM) (hmf.low oM) hnf)
      . have hq : (sb.toList != []) = true := by
         rw [bne_iff_ne, ByteArray.toList_eq]; intro h; exact hz (by rw [ba_size, h]; rfl)
        have hq0 : (sb.toList == []) = false := by
         rw [beq_eq_false_iff_ne, ByteArray.toList_eq]; intro h; exact hz (by rw [ba_size, h]; rfl)
        have HZ := qh hz
        clear hz
        by_cases hlt : k < ws.length
        . obtain ⟨gx, rfl, hgx, hgx2, _, hc0⟩ := hW.box0 oM
          have hc := hc0 k hlt
          clear hc0
          unfold wdAt at hc
          have hsz := HPt.out k
          have HNo := qh (fun h => (HO.out HZ.out).trans (marksB_no hlt h))
          have HYes := qh (fun m (h : wordB (ws.getD k ByteArray.empty) = some m) => marksB_succ hlt HM.out h)
          have hml : ms.length = k := by rw [marksB_len HM.out, List.length_take]; omega
          have Hml := qh hml
          obtain ⟨x, Hx⟩ := nM (ws.getD k ByteArray.empty)
          rw [Hx.out] at hc hsz HNo HYes
          clear hml
          go_wp2_with fail
          refine (l00Cut_c x 61 _ oM).mono ?_
          rintro e w9 ⟨Aw, cw, rfl, hV, hnx9⟩
          have bg9 := bg.nx hnx9
          have rM9 := rM.nx hnx9
          have hS9 := hS.nx hnx9
          have hW9 := hW.nx hnx9
          have hx9 := hxr.trans hnx9
          have b9 := b4.nx hx9
          have hxw9 := hx4.trans hx9
          have hsg9 := hxr.size
          clear bg rM hS hW hxr hnx9 hc p1r
          by_cases h2 : (cutB 61 x).length = 2
          case neg =>
           have HF := qh (HPu.out.trans (partU_marks HNs.out (HNo.out (wordB_more h2))))
           have hd2w : (((cutB 61 x).length : Int) != 2) = true := by rw [bne_iff_ne]; omega
           clear h2 HNo HYes
           obtain ⟨u0, u1, u2, u3, u4, u5⟩ := b9.d6
           have f0 := b9.frozen 0
           have f1 := b9.frozen 1
           have f2 := b9.frozen 2
           have f3 := b9.frozen 3
           have f4 := b9.frozen 4
           have f5 := b9.frozen 5
           go_wp2
           have qx := (put6_box b9 (ii 0) (ii 0) (ii 0) (ii 0) (nsl) (nsl))
           have hnf := (put6_nx hxw9 (Nat.le_refl w.heap.size) (ii 0) (ii 0) (ii 0) (ii 0) (nsl) (nsl))
           change bodyPost _ _ _ _ _ (put6 w9 w.heap.size (ii 0) (ii 0) (ii 0) (ii 0) (nsl) (nsl))
           change Box (put6 w9 w.heap.size (ii 0) (ii 0) (ii 0) (ii 0) (nsl) (nsl)) _ _ _ at qx
           generalize put6 w9 w.heap.size (ii 0) (ii 0) (ii 0) (ii 0) (nsl) (nsl) = Wf at *
           obtain ⟨g0, g1, g2, g3, g4, g5⟩ := qx.d6
           exact bodyPost_ret (v := .tuple #[.agg #[ii 0, ii 0, ii 0, ii 0, nsl, nsl], .bool false]) (by simp [results, results129, go_sem, g0, g1, g2, g3, g4, g5]) rfl (RetSU.no HF.out hnf)
          obtain ⟨qa', qb', hqab⟩ := cutL_of2 (c := 61) (s := x.data.toList) (by rw [<- cutB_len]; exact h2)
          have HWd := qh (wordB_two hqab)
          have Hvs := qh (cutB_two hqab)
          have hqs := cutL_parts hqab
          obtain ⟨qa, Hqa⟩ := nM (baL qa')
          obtain ⟨qb, Hqb⟩ := nM (baL qb')
          have Hdq := qh (show qb.data.toList = qb' by rw [<- Hqb.out]; rfl)
          have hqbs : qb.size <= 65536 := by rw [<- Hqb.out, baL_size]; have := hqs.2; rw [<- ba_size] at this; omega
          rw [Hqa.out] at HWd
          obtain ⟨us, Hus⟩ := nM (cutB 61 x)
          rw [Hus.out] at hV h2 Hvs ⊢
          have hd2w : ((us.length : Int) != 2) = false := by rw [bne_eq_false_iff_eq]; omega
          obtain ⟨gw, rfl, hgwl, hgw9, hBw9, hcu⟩ := hV.box0 oM
          have u0 : w9.cell? ⟨gw, 0, none⟩ = some (.string qa) := by have := hcu 0 oM; unfold wdAt at this; rw [(getD_two Hvs.out).1, Hqa.out] at this; exact this
          have u1 : w9.cell? ⟨gw, 1, none⟩ = some (.string qb) := by have := hcu 1 oM; unfold wdAt at this; rw [(getD_two Hvs.out).2, Hqb.out] at this; exact this
          have hu0' : (0 : Int) < (us.length : Int) := oM
          have hu1' : (1 : Int) < (us.length : Int) := oM
          have hum0 : 0 < us.length := oM
          have hum1 : 1 < us.length := oM
          clear h2 hqab hqs hcu hV
          go_wp2_with fail
          refine (l04Number_c qb _ hqbs).mono ?_
          rintro e w10 ⟨qn, rfl, hqn, hnx10⟩
          rw [Hdq.out] at hqn ⊢
          have bg10 := bg9.nx hnx10
          have rM10 := rM9.nx hnx10
          have hS10 := hS9.nx hnx10
          have hW10 := hW9.nx hnx10
          have hx10 := hx9.trans hnx10
          have b10 := b4.nx hx10
          have hxwA := hx4.trans hx10
          have y0 := (hnx10.cell (p := ⟨gw, 0, none⟩) hgw9).trans u0
          have hgw : gw < w10.heap.size := Nat.lt_of_lt_of_le hgw9 hnx10.size
          obtain ⟨csw, hBx9⟩ := hBw9
          have hBx := hBx9.nx hnx10
          have hne : gw ≠ gS := hBx.ne_ty bg10 dC
          cases hp : plainB qb' with
          | false =>
            have HF := qh (HPu.out.trans (partU_marks HNs.out (HNo.out (by rw [HWd.out, hp]; rfl))))
            clear hp HNo HYes hqn
            obtain ⟨u0, u1, u2, u3, u4, u5⟩ := b10.d6
            have f0 := b10.frozen 0
            have f1 := b10.frozen 1
            have f2 := b10.frozen 2
            have f3 := b10.frozen 3
            have f4 := b10.frozen 4
            have f5 := b10.frozen 5
            go_wp2
            have qx := (put6_box b10 (ii 0) (ii 0) (ii 0) (ii 0) (nsl) (nsl))
            have hnf := (put6_nx hxwA (Nat.le_refl w.heap.size) (ii 0) (ii 0) (ii 0) (ii 0) (nsl) (nsl))
            change bodyPost _ _ _ _ _ (put6 w10 w.heap.size (ii 0) (ii 0) (ii 0) (ii 0) (nsl) (nsl))
            change Box (put6 w10 w.heap.size (ii 0) (ii 0) (ii 0) (ii 0) (nsl) (nsl)) _ _ _ at qx
            generalize put6 w10 w.heap.size (ii 0) (ii 0) (ii 0) (ii 0) (nsl) (nsl) = Wf at *
            obtain ⟨g0, g1, g2, g3, g4, g5⟩ := qx.d6
            exact bodyPost_ret (v := .tuple #[.agg #[ii 0, ii 0, ii 0, ii 0, nsl, nsl], .bool false]) (by simp [results, results129, go_sem, g0, g1, g2, g3, g4, g5]) rfl (RetSU.no HF.out hnf)
          | true =>
          have hqn' := hqn hp
          have HY := qh (HYes.out (qa, qn) (by rw [HWd.out, hp, hqn']; rfl))
          clear hp HNo HYes hqn hqn' u0 u1
          go_wp2_with fail
          refine wp_planA (.t 0 (.t 2 (.t 3 (.t 4 (.t 5 (.t 6 (.b 1 (.c 7 (.c 8 (.t 9 (.c 10 .e)))) 7 (.c 1 (.c 8 (.t 9 (.c 10 .e))))))))))) (fun w' => CC w' gw 0 (.string qa)) (by exact ((Nx.refl w10).drew.cell (p := ⟨gw, 0, none⟩) hgw).trans y0) ?_
          simp only [psOf, List.getD_cons_zero, List.getD_cons_succ]
          refine hPr ?_
          refine HP.both ?_ ?_
          . have hz := (Nx.refl w10).drew.alloc (.cells #[.string qa, ii qn] 136)
            have bm : Box (w10.drew.alloc (.cells #[.string qa, ii qn] 136)) w10.heap.size 136 #[.string qa, ii qn] := Box.new w10.drew _ _
            have bgz := bg10.nx hz
            have rMz := rM10.nx hz
            have hSz := hS10.nx hz
            have hWz := hW10.nx hz
            obtain ⟨_, _, _, _, _, l5⟩ := (bg10.nx (Nx.refl w10).drew).d6
            have l6 : (w10.alloc (.cells #[.string qa, ii qn] 136)).cell? ⟨gS, 5, none⟩ = some v := bgz.d6.2.2.2.2.2
            refine cSt fun K hK => ?_
            go_simp
            refine hK.out _ _ (by exact ((Nx.refl w10).drew.cell (p := ⟨gw, 0, none⟩) hgw).trans y0) ?_
            clear hK K
            refine nZ ?_
            refine hPc fun K hK => ?_
            go_simp
            refine hK.out _ _ (by exact (hz.cell (p := ⟨gw, 0, none⟩) hgw).trans y0) ?_
            clear hK K
            refine nZ ?_
            change HP _ _ _ _ _ _ (w10.drew.alloc (.cells #[.string qa, ii qn] 136))
            generalize w10.drew.alloc (.cells #[.string qa, ii qn] 136) = wz at *
            have hxz := hx10.trans hz
            refine hPc fun K hK => ?_
            refine wp_addM _ _ rfl w4.heap.size w10.heap.size v ms (qa, qn) rfl rfl rMz bm (by have := Hml.out; omega) hxz.size ?_
            intro A12 c12 w12 rM12 hG12
            have bg12 := hG12.box _ _ _ dC bgz
            have hx12 := hG12.nx w4 hxz nle
            have hS12 := hSz.grew hG12 dC
            have hW12 := hWz.grew hG12 dC
            have y12 : w12.cell? ⟨gw, 0, none⟩ = some (.string qa) := ((hG12.box _ _ _ dC (hBx.nx hz)).cell 0).trans ((hBx.cell 0).symm.trans y0)
            refine hK.out _ _ (by exact y12) ?_
            clear hK K
            refine nZ ?_
            refine hPr ?_
            obtain ⟨_, _, _, _, _, d5⟩ := bg12.d6
            have f5 := bg12.frozen 5
            refine hPc fun K hK => ?_
            go_simp
            refine hK.out _ _ (by exact ((Below.cell_far gw gS w12 _ hne).trans y12)) ?_
            clear hK K
            refine nZ ?_
            refine HP.done ?_
            have bg13 := bg12.set 5 (sC A12 (ms.length + 1) c12)
            have rM13 := rM12.far (p := ⟨gS, 5, none⟩) bg12 dC (sC A12 (ms.length + 1) c12)
            have hS13 := hS12.far_ty (p := ⟨gS, 5, none⟩) bg12 dC (sC A12 (ms.length + 1) c12)
            have hW13 := hW12.far_ty (p := ⟨gS, 5, none⟩) bg12 dC (sC A12 (ms.length + 1) c12)
            have hx13 := hx12.setCell (p := ⟨gS, 5, none⟩) hgS (sC A12 (ms.length + 1) c12)
            simp only [List.setIfInBounds_toArray, List.set_cons_zero, List.set_cons_succ] at bg13
            generalize w12.setCell ⟨gS, 5, none⟩ (sC A12 (ms.length + 1) c12) = w13 at *
            clear d5 f5 l5 l6 y12
            go_wp2
            go_roundw
            case rel =>
             refine ⟨k + 1, _, ms ++ [(qa, qn)], oM, by go_num, bg13, rM13, hS13, hW13, HY, qh (fun h => absurd h HZ.out), hx13⟩
            case measure => simp [intOf]; omega
          . have hz := (Nx.refl w10).drew.alloc (.cells #[.string qa, ii qn] 136)
            have bm : Box (w10.drew.alloc (.cells #[.string qa, ii qn] 136)) w10.heap.size 136 #[.string qa, ii qn] := Box.new w10.drew _ _
            have bgz := bg10.nx hz
            have rMz := rM10.nx hz
            have hSz := hS10.nx hz
            have hWz := hW10.nx hz
            obtain ⟨_, _, _, _, _, l5⟩ := (bg10.nx (Nx.refl w10).drew).d6
            have l6 : (w10.alloc (.cells #[.string qa, ii qn] 136)).cell? ⟨gS, 5, none⟩ = some v := bgz.d6.2.2.2.2.2
            refine cSt fun K hK => ?_
            go_simp
            refine hK.out _ _ (by exact (hz.cell (p := ⟨gw, 0, none⟩) hgw).trans y0) ?_
            clear hK K
            refine nZ ?_
            refine hPc fun K hK => ?_
            go_simp
            refine hK.out _ _ (by exact (hz.cell (p := ⟨gw, 0, none⟩) hgw).trans y0) ?_
            clear hK K
            refine nZ ?_
            change HP _ _ _ _ _ _ (w10.drew.alloc (.cells #[.string qa, ii qn] 136))
            generalize w10.drew.alloc (.cells #[.string qa, ii qn] 136) = wz at *
            have hxz := hx10.trans hz
            refine hPc fun K hK => ?_
            refine wp_addM _ _ rfl w4.heap.size w10.heap.size v ms (qa, qn) rfl rfl rMz bm (by have := Hml.out; omega) hxz.size ?_
            intro A12 c12 w12 rM12 hG12
            have bg12 := hG12.box _ _ _ dC bgz
            have hx12 := hG12.nx w4 hxz nle
            have hS12 := hSz.grew hG12 dC
            have hW12 := hWz.grew hG12 dC
            have y12 : w12.cell? ⟨gw, 0, none⟩ = some (.string qa) := ((hG12.box _ _ _ dC (hBx.nx hz)).cell 0).trans ((hBx.cell 0).symm.trans y0)
            refine hK.out _ _ (by exact y12) ?_
            clear hK K
            refine nZ ?_
            refine hPr ?_
            obtain ⟨_, _, _, _, _, d5⟩ := bg12.d6
            have f5 := bg12.frozen 5
            refine hPc fun K hK => ?_
            go_simp
            refine hK.out _ _ (by exact ((Below.cell_far gw gS w12 _ hne).trans y12)) ?_
            clear hK K
            refine nZ ?_
            refine HP.done ?_
            have bg13 := bg12.set 5 (sC A12 (ms.length + 1) c12)
            have rM13 := rM12.far (p := ⟨gS, 5, none⟩) bg12 dC (sC A12 (ms.length + 1) c12)
            have hS13 := hS12.far_ty (p := ⟨gS, 5, none⟩) bg12 dC (sC A12 (ms.length + 1) c12)
            have hW13 := hW12.far_ty (p := ⟨gS, 5, none⟩) bg12 dC (sC A12 (ms.length + 1) c12)
            have hx13 := hx12.setCell (p := ⟨gS, 5, none⟩) hgS (sC A12 (ms.length + 1) c12)
            simp only [List.setIfInBounds_toArray, List.set_cons_zero, List.set_cons_succ] at bg13
            generalize w12.setCell ⟨gS, 5, none⟩ (sC A12 (ms.length + 1) c12) = w13 at *
            clear d5 f5 l5 l6 y12
            go_wp2
            go_roundw
            case rel =>
             refine ⟨k + 1, _, ms ++ [(qa, qn)], oM, by go_num, bg13, rM13, hS13, hW13, HY, qh (fun h => absurd h HZ.out), hx13⟩
            case measure => simp [intOf]; omega
        . obtain rfl : k = ws.length := oM
          have HMs : Hid (marksO lb = some ms) := qh (by rw [HO.out HZ.out, <- HM.out, List.take_length])
          obtain ⟨A2, c2, rfl, _, hM⟩ := rM.slc
          have hfit := marksO_fit HLb.out HMs.out
          have hml := hfit.1
          have HAm := qh hfit.2
          have HU := qh (HPu.out.trans (partU_yes HNs.out hl4 HMs.out))
          have b6 := b4.nx hxr
          have hxw6 := hx4.trans hxr
          obtain ⟨y0, y1, y2, y3, y4, y5⟩ := bg.d6
          clear hfit
          go_wp2_with fail
          refine (specSuperOK_c n0 n1 n2 n3 A5 A2 c5 c2 _ xs ms _ hS.row hM.row nle (by have := HLen.out; omega) hml hc5 HAm.out).mono ?_
          rintro e w7 ⟨rfl, hnx7⟩
          have b7 := b6.nx hnx7
          have bs7 := bg.nx hnx7
          have hx7 := hxw6.trans hnx7
          have hS7 := hS.nx hnx7
          have hM7 := hM.nx hnx7
          clear y0 y1 y2 y3 y4 y5
          obtain ⟨y0, y1, y2, y3, y4, y5⟩ := bs7.d6
          cases hf : superB n0 n1 n2 n3 xs ms with
          | false =>
            have HF := qh (HU.out.trans (supOf_no (by rw [Hn0.out, Hn1.out, Hn2.out, Hn3.out, Hxs.out]; exact hf)))
            clear hf
            obtain ⟨u0, u1, u2, u3, u4, u5⟩ := b7.d6
            have f0 := b7.frozen 0
            have f1 := b7.frozen 1
            have f2 := b7.frozen 2
            have f3 := b7.frozen 3
            have f4 := b7.frozen 4
            have f5 := b7.frozen 5
            go_wp2
            have qx := (put6_box b7 (ii 0) (ii 0) (ii 0) (ii 0) (nsl) (nsl))
            have hnf := (put6_nx hx7 (Nat.le_refl w.heap.size) (ii 0) (ii 0) (ii 0) (ii 0) (nsl) (nsl))
            change bodyPost _ _ _ _ _ (put6 w7 w.heap.size (ii 0) (ii 0) (ii 0) (ii 0) (nsl) (nsl))
            change Box (put6 w7 w.heap.size (ii 0) (ii 0) (ii 0) (ii 0) (nsl) (nsl)) _ _ _ at qx
            generalize put6 w7 w.heap.size (ii 0) (ii 0) (ii 0) (ii 0) (nsl) (nsl) = Wf at *
            obtain ⟨g0, g1, g2, g3, g4, g5⟩ := qx.d6
            exact bodyPost_ret (v := .tuple #[.agg #[ii 0, ii 0, ii 0, ii 0, nsl, nsl], .bool false]) (by simp [results, results129, go_sem, g0, g1, g2, g3, g4, g5]) rfl (RetSU.no HF.out hnf)
          | true =>
            have HF := qh (HU.out.trans (supOf_yes (by rw [Hn0.out, Hn1.out, Hn2.out, Hn3.out, Hxs.out]; exact hf)))
            rw [Hn0.out, Hn1.out, Hn2.out, Hn3.out, Hxs.out] at HF
            clear hf
            have hgl : w.heap.size < w4.heap.size := b4.lt
            obtain ⟨u0, u1, u2, u3, u4, u5⟩ := b7.d6
            have f0 := b7.frozen 0
            have f1 := b7.frozen 1
            have f2 := b7.frozen 2
            have f3 := b7.frozen 3
            have f4 := b7.frozen 4
            have f5 := b7.frozen 5
            go_wp2
            have qx := (put6_box b7 (ii n0) (ii n1) (ii n2) (ii n3) (sC A5 xs.length c5) (sC A2 ms.length c2))
            have hnf := (put6_nx hx7 (Nat.le_refl w.heap.size) (ii n0) (ii n1) (ii n2) (ii n3) (sC A5 xs.length c5) (sC A2 ms.length c2))
            have hsf := (hS7.pt6 hgl (ii n0) (ii n1) (ii n2) (ii n3) (sC A5 xs.length c5) (sC A2 ms.length c2))
            change Sl (put6 w7 w.heap.size (ii n0) (ii n1) (ii n2) (ii n3) (sC A5 xs.length c5) (sC A2 ms.length c2)) _ _ _ _ _ at hsf
            have hmf := (hM7.pt6 hgl (ii n0) (ii n1) (ii n2) (ii n3) (sC A5 xs.length c5) (sC A2 ms.length c2))
            change Sl (put6 w7 w.heap.size (ii n0) (ii n1) (ii n2) (ii n3) (sC A5 xs.length c5) (sC A2 ms.length c2)) _ _ _ _ _ at hmf
            change bodyPost _ _ _ _ _ (put6 w7 w.heap.size (ii n0) (ii n1) (ii n2) (ii n3) (sC A5 xs.length c5) (sC A2 ms.length c2))
            change Box (put6 w7 w.heap.size (ii n0) (ii n1) (ii n2) (ii n3) (sC A5 xs.length c5) (sC A2 ms.length c2)) _ _ _ at qx
            generalize put6 w7 w.heap.size (ii n0) (ii n1) (ii n2) (ii n3) (sC A5 xs.length c5) (sC A2 ms.length c2) = Wf at *
            obtain ⟨hmf0, hmf1, hmf2, hmf3, hmf4, hmf5⟩ := qx.d6
            exact bodyPost_ret (v := .tuple #[.agg #[ii n0, ii n1, ii n2, ii n3, sC A5 xs.length c5, sC A2 ms.length c2], .bool true]) (by simp [results, results129, go_sem, hmf0, hmf1, hmf2, hmf3, hmf4, hmf5]) rfl (RetSU.yes HF.out hc5 (hsf.low oM) (hmf.low oM) hnf)
abbrev F4 := Nat × Nat × Nat × Nat
def zF : F4 := (0, 0, 0, 0)
def vF (q : F4) : Value := .agg #[ii q.1, ii q.2.1, ii q.2.2.1, ii q.2.2.2]


def Strs (w : World) (B : Nat) (A : Option Addr) (n : Nat) (ss : List BA) : Prop :=
 ss.length = n /\ Row w B A n (fun i => .string (ss.getD i ByteArray.empty))
def Wrs (w : World) (B : Nat) (A : Option Addr) (n : Nat) (ws : List (Int × BA)) : Prop :=
 ws.length = n /\ Row w B A (n * 2) (fun i => if i % 2 = 0 then ii (ws.getD (i / 2) (0, ByteArray.empty)).1 else .string (ws.getD (i / 2) (0, ByteArray.empty)).2)
theorem Strs.below {w w' : World} {B B' n : Nat} {A : Option Addr} {ss : List BA} (h : Strs w B A n ss) (hb : Below B' w w') (hB : B <= B') : Strs w' B A n ss := ⟨h.1, h.2.below hb hB⟩
theorem Strs.more {w : World} {B B' n : Nat} {A : Option Addr} {ss : List BA} (h : Strs w B A n ss) (hB : B <= B') : Strs w B' A n ss := ⟨h.1, h.2.more hB⟩
theorem Wrs.below {w w' : World} {B B' n : Nat} {A : Option Addr} {ws : List (Int × BA)} (h : Wrs w B A n ws) (hb : Below B' w w') (hB : B <= B') : Wrs w' B A n ws := ⟨h.1, h.2.below hb hB⟩
theorem Wrs.more {w : World} {B B' n : Nat} {A : Option Addr} {ws : List (Int × BA)} (h : Wrs w B A n ws) (hB : B <= B') : Wrs w B' A n ws := ⟨h.1, h.2.more hB⟩
theorem Strs.at_ {w : World} {B n k : Nat} {A : Option Addr} {ss : List BA} (h : Strs w B A n ss) (hk : k < n) :
 ∃ b off, A = some ⟨b, off, none⟩ /\ b < B /\ w.cell? ⟨b, off + k, none⟩ = some (.string (ss.getD k ByteArray.empty)) := by
 obtain ⟨b, off, e, hb, hc⟩ := h.2 oM
 exact ⟨b, off, e, hb, hc k hk⟩
theorem Wrs.at_ {w : World} {B n k : Nat} {A : Option Addr} {ws : List (Int × BA)} (h : Wrs w B A n ws) (hk : k < n) :
 ∃ b off, A = some ⟨b, off, none⟩ /\ b < B /\ w.cell? ⟨b, off + k * 2, none⟩ = some (ii (ws.getD k (0, ByteArray.empty)).1) /\ w.cell? ⟨b, off + k * 2 + 1, none⟩ = some (.string (ws.getD k (0, ByteArray.empty)).2) := by
 obtain ⟨b, off, e, hb, hc⟩ := h.2 oM
 have h0 := hc (k * 2) oM
 have h1 := hc (k * 2 + 1) oM
 have e1 : (k * 2) % 2 = 0 := oM
 have e2 : ¬ (k * 2 + 1) % 2 = 0 := oM
 have e3 : (k * 2) / 2 = k := oM
 have e4 : (k * 2 + 1) / 2 = k := oM
 simp only [e1, e3, if_true] at h0
 simp only [e2, e4, if_false] at h1
 exact ⟨b, off, e, hb, h0, h1⟩
def strAt (ss : List BA) (i : Nat) : Value := .string (ss.getD i ByteArray.empty)
def wrAt (ws : List (Int × BA)) (i : Nat) : Value := if i % 2 = 0 then ii (ws.getD (i / 2) (0, ByteArray.empty)).1 else .string (ws.getD (i / 2) (0, ByteArray.empty)).2
theorem wrAt_even (ws : List (Int × BA)) (k : Nat) : wrAt ws (k * 2) = ii (ws.getD k (0, ByteArray.empty)).1 := by
 unfold wrAt; rw [if_pos oM, show k * 2 / 2 = k by omega]
theorem wrAt_odd (ws : List (Int × BA)) (k : Nat) : wrAt ws (k * 2 + 1) = .string (ws.getD k (0, ByteArray.empty)).2 := by
 unfold wrAt; rw [if_neg oM, show (k * 2 + 1) / 2 = k by omega]
def OwnS (w : World) (g : Nat) (ss : List BA) : Prop := Own w g 9 ss.length (strAt ss)
def OwnW (w : World) (g : Nat) (ws : List (Int × BA)) : Prop := Own w g 102 (ws.length * 2) (wrAt ws)
def SlS (w : World) (lo : Nat) (A : Option Addr) (n : Nat) (ss : List BA) : Prop := ss.length = n /\ (0 < n -> ∃ g, A = some ⟨g, 0, none⟩ /\ lo <= g /\ OwnS w g ss)
def SlW (w : World) (lo : Nat) (A : Option Addr) (n : Nat) (ws : List (Int × BA)) : Prop := ws.length = n /\ (0 < n -> ∃ g, A = some ⟨g, 0, none⟩ /\ lo <= g /\ OwnW w g ws)
theorem SlS.nil (w : World) (lo : Nat) : SlS w lo none 0 [] := ⟨rfl, fun h => absurd h oM⟩
theorem SlW.nil (w : World) (lo : Nat) : SlW w lo none 0 [] := ⟨rfl, fun h => absurd h oM⟩
theorem SlS.nx {w w' : World} {lo n : Nat} {A : Option Addr} {ss : List BA} (h : SlS w lo A n ss) (hb : Nx w w') : SlS w' lo A n ss :=
 ⟨h.1, fun hn => by obtain ⟨g, e, hl, ho⟩ := h.2 hn; exact ⟨g, e, hl, Own.nx ho hb⟩⟩
theorem SlW.nx {w w' : World} {lo n : Nat} {A : Option Addr} {ws : List (Int × BA)} (h : SlW w lo A n ws) (hb : Nx w w') : SlW w' lo A n ws :=
 ⟨h.1, fun hn => by obtain ⟨g, e, hl, ho⟩ := h.2 hn; exact ⟨g, e, hl, Own.nx ho hb⟩⟩
theorem SlS.low {w : World} {lo lo' n : Nat} {A : Option Addr} {ss : List BA} (h : SlS w lo A n ss) (hl : lo' <= lo) : SlS w lo' A n ss :=
 ⟨h.1, fun hn => by obtain ⟨g, e, hl2, ho⟩ := h.2 hn; exact ⟨g, e, ntr hl hl2, ho⟩⟩
theorem SlW.low {w : World} {lo lo' n : Nat} {A : Option Addr} {ws : List (Int × BA)} (h : SlW w lo A n ws) (hl : lo' <= lo) : SlW w lo' A n ws :=
 ⟨h.1, fun hn => by obtain ⟨g, e, hl2, ho⟩ := h.2 hn; exact ⟨g, e, ntr hl hl2, ho⟩⟩
theorem SlS.strs {w : World} {lo n : Nat} {A : Option Addr} {ss : List BA} (h : SlS w lo A n ss) : Strs w w.heap.size A n ss :=
 ⟨h.1, fun hn => by
  obtain ⟨g, e, hl, ho⟩ := h.2 hn
  subst e
  have := Own.row ho (Own.lt ho)
  rw [h.1] at this
  exact this hn⟩
theorem SlW.wrs {w : World} {lo n : Nat} {A : Option Addr} {ws : List (Int × BA)} (h : SlW w lo A n ws) : Wrs w w.heap.size A n ws :=
 ⟨h.1, fun hn => by
  obtain ⟨g, e, hl, ho⟩ := h.2 oM
  subst e
  have := Own.row ho (Own.lt ho)
  rw [h.1] at this
  exact this hn⟩
def SrS (w : World) (lo hi : Nat) (A : Option Addr) (n : Nat) (ss : List BA) : Prop := ss.length = n /\ (0 < n -> ∃ g, A = some ⟨g, 0, none⟩ /\ lo <= g /\ g < hi /\ OwnS w g ss)
def SrW (w : World) (lo hi : Nat) (A : Option Addr) (n : Nat) (ws : List (Int × BA)) : Prop := ws.length = n /\ (0 < n -> ∃ g, A = some ⟨g, 0, none⟩ /\ lo <= g /\ g < hi /\ OwnW w g ws)
theorem SlS.sr {w : World} {lo n : Nat} {A : Option Addr} {ss : List BA} (h : SlS w lo A n ss) : SrS w lo w.heap.size A n ss :=
 ⟨h.1, fun hn => by obtain ⟨g, e, hl, ho⟩ := h.2 hn; exact ⟨g, e, hl, Own.lt ho, ho⟩⟩
theorem SlW.sr {w : World} {lo n : Nat} {A : Option Addr} {ws : List (Int × BA)} (h : SlW w lo A n ws) : SrW w lo w.heap.size A n ws :=
 ⟨h.1, fun hn => by obtain ⟨g, e, hl, ho⟩ := h.2 hn; exact ⟨g, e, hl, Own.lt ho, ho⟩⟩
theorem SrS.sl {w : World} {lo hi n : Nat} {A : Option Addr} {ss : List BA} (h : SrS w lo hi A n ss) : SlS w lo A n ss :=
 ⟨h.1, fun hn => by obtain ⟨g, e, hl, _, ho⟩ := h.2 hn; exact ⟨g, e, hl, ho⟩⟩
theorem SrW.sl {w : World} {lo hi n : Nat} {A : Option Addr} {ws : List (Int × BA)} (h : SrW w lo hi A n ws) : SlW w lo A n ws :=
 ⟨h.1, fun hn => by obtain ⟨g, e, hl, _, ho⟩ := h.2 hn; exact ⟨g, e, hl, ho⟩⟩
theorem SrS.rg {w w' : World} {lo hi a b n : Nat} {A : Option Addr} {ss : List BA} (h : SrS w lo hi A n ss) (hb : Rg a b w w') (hd : hi <= a \/ b <= lo) : SrS w' lo hi A n ss :=
 ⟨h.1, fun hn => by obtain ⟨g, e, hl, hh, ho⟩ := h.2 hn; exact ⟨g, e, hl, hh, Own.rg ho hb oM⟩⟩
theorem SrS.nx {w w' : World} {lo hi n : Nat} {A : Option Addr} {ss : List BA} (h : SrS w lo hi A n ss) (hb : Nx w w') : SrS w' lo hi A n ss :=
 ⟨h.1, fun hn => by obtain ⟨g, e, hl, hh, ho⟩ := h.2 hn; exact ⟨g, e, hl, hh, Own.nx ho hb⟩⟩
theorem SrW.nx {w w' : World} {lo hi n : Nat} {A : Option Addr} {ws : List (Int × BA)} (h : SrW w lo hi A n ws) (hb : Nx w w') : SrW w' lo hi A n ws :=
 ⟨h.1, fun hn => by obtain ⟨g, e, hl, hh, ho⟩ := h.2 hn; exact ⟨g, e, hl, hh, Own.nx ho hb⟩⟩
def RetS (w : World) (ss : List BA) (e : Ending) (w' : World) : Prop := ∃ (A : Option Addr) (n c : Nat), e = .returned (sC A n c) /\ SlS w' w.heap.size A n ss /\ Nx w w'
def RetW (w : World) (ws : List (Int × BA)) (e : Ending) (w' : World) : Prop := ∃ (A : Option Addr) (n c : Nat), e = .returned (sC A n c) /\ SlW w' w.heap.size A n ws /\ Nx w w'
theorem RetS.mk_own {w w' : World} {g n c : Nat} {ss : List BA} (hn : ss.length = n) (hg : w.heap.size <= g) (h : OwnS w' g ss) (hb : Nx w w') : RetS w ss (.returned (sC (some ⟨g, 0, none⟩) n c)) w' :=
 ⟨_, n, c, rfl, ⟨hn, fun _ => ⟨g, rfl, hg, h⟩⟩, hb⟩
theorem RetW.mk_own {w w' : World} {g n c : Nat} {ws : List (Int × BA)} (hn : ws.length = n) (hg : w.heap.size <= g) (h : OwnW w' g ws) (hb : Nx w w') : RetW w ws (.returned (sC (some ⟨g, 0, none⟩) n c)) w' :=
 ⟨_, n, c, rfl, ⟨hn, fun _ => ⟨g, rfl, hg, h⟩⟩, hb⟩
theorem SlS.far {w : World} {lo n : Nat} {A : Option Addr} {ss : List BA} (h : SlS w lo A n ss) {p : Addr} (hp : p.block < lo) (v : Value) : SlS (w.setCell p v) lo A n ss :=
 ⟨h.1, fun hn => by obtain ⟨g, e, hl, ho⟩ := h.2 hn; exact ⟨g, e, hl, Own.far ho oM v⟩⟩
theorem SlW.far {w : World} {lo n : Nat} {A : Option Addr} {ws : List (Int × BA)} (h : SlW w lo A n ws) {p : Addr} (hp : p.block < lo) (v : Value) : SlW (w.setCell p v) lo A n ws :=
 ⟨h.1, fun hn => by obtain ⟨g, e, hl, ho⟩ := h.2 hn; exact ⟨g, e, hl, Own.far ho oM v⟩⟩
def RetDisk (w : World) (ss : List BA) (ws : List (Int × BA)) (e : Ending) (w' : World) : Prop :=
 ∃ (A : Option Addr) (n c : Nat) (A2 : Option Addr) (n2 c2 : Nat), e = .returned (.agg #[sC A n c, sC A2 n2 c2]) /\ SlS w' w.heap.size A n ss /\ SlW w' w.heap.size A2 n2 ws /\ Nx w w'
def RetDiskCode (w : World) (ss : List BA) (ws : List (Int × BA)) (code : Int) (e : Ending) (w' : World) : Prop :=
 ∃ (A : Option Addr) (n c : Nat) (A2 : Option Addr) (n2 c2 : Nat), e = .returned (.tuple #[.agg #[sC A n c, sC A2 n2 c2], ii code]) /\ SlS w' w.heap.size A n ss /\ SlW w' w.heap.size A2 n2 ws /\ Nx w w'
theorem fin_box {w u : World} {gr lo lo2 n3 n4 : Nat} {A3 A4 : Option Addr} {v0 v1 : Value} {t : TypeId} {ss : List BA} {ws : List (Int × BA)} (c3 c4 : Nat) (hb : Box u gr t #[v0, v1]) (hS : SlS u lo A3 n3 ss) (hW : SlW u lo2 A4 n4 ws)
 (hlo : gr < lo) (hlo2 : gr < lo2) (hx : Nx w u) (hg : w.heap.size <= gr) :
 ((u.setCell ⟨gr, 0, none⟩ (sC A3 n3 c3)).setCell ⟨gr, 1, none⟩ (sC A4 n4 c4)).cell? ⟨gr, 0, none⟩ = some (sC A3 n3 c3) /\
 ((u.setCell ⟨gr, 0, none⟩ (sC A3 n3 c3)).setCell ⟨gr, 1, none⟩ (sC A4 n4 c4)).cell? ⟨gr, 1, none⟩ = some (sC A4 n4 c4) /\
 SlS ((u.setCell ⟨gr, 0, none⟩ (sC A3 n3 c3)).setCell ⟨gr, 1, none⟩ (sC A4 n4 c4)) w.heap.size A3 n3 ss /\
 SlW ((u.setCell ⟨gr, 0, none⟩ (sC A3 n3 c3)).setCell ⟨gr, 1, none⟩ (sC A4 n4 c4)) w.heap.size A4 n4 ws /\
 Nx w ((u.setCell ⟨gr, 0, none⟩ (sC A3 n3 c3)).setCell ⟨gr, 1, none⟩ (sC A4 n4 c4)) := by
 have q := (hb.set0 (sC A3 n3 c3)).set1 (sC A4 n4 c4)
 exact ⟨q.c0, q.c1, ((hS.far (p := ⟨gr, 0, none⟩) hlo _).far (p := ⟨gr, 1, none⟩) hlo _).low oM, ((hW.far (p := ⟨gr, 0, none⟩) hlo2 _).far (p := ⟨gr, 1, none⟩) hlo2 _).low oM, (hx.setCell (p := ⟨gr, 0, none⟩) hg _).setCell (p := ⟨gr, 1, none⟩) hg _⟩
def Dk (w : World) (lo hi : Nat) (A : Option Addr) (n c : Nat) (A2 : Option Addr) (n2 c2 : Nat) (ss : List BA) (ws : List (Int × BA)) : Prop :=
 SrS w lo hi A n ss /\ SrW w lo hi A2 n2 ws /\ Box w hi 35 #[sC A n c, sC A2 n2 c2]
section
variable {w w' : World} {lo hi : Nat} {A : Option Addr} {n c : Nat} {A2 : Option Addr} {n2 c2 : Nat} {ss : List BA} {ws : List (Int × BA)}
theorem Dk.new (hS : SlS w lo A n ss) (hW : SlW w lo A2 n2 ws) : Dk (w.alloc (.cells #[sC A n c, sC A2 n2 c2] 35)) lo w.heap.size A n c A2 n2 c2 ss ws :=
 ⟨hS.sr.nx ((Nx.refl w).alloc _), hW.sr.nx ((Nx.refl w).alloc _), Box.new w _ _⟩
theorem Dk.nx (h : Dk w lo hi A n c A2 n2 c2 ss ws) (hb : Nx w w') : Dk w' lo hi A n c A2 n2 c2 ss ws := ⟨h.1.nx hb, h.2.1.nx hb, h.2.2.nx hb⟩
theorem Dk.c0 (h : Dk w lo hi A n c A2 n2 c2 ss ws) : w.cell? ⟨hi, 0, none⟩ = some (sC A n c) := h.2.2.c0
theorem Dk.c1 (h : Dk w lo hi A n c A2 n2 c2 ss ws) : w.cell? ⟨hi, 1, none⟩ = some (sC A2 n2 c2) := h.2.2.c1
theorem Dk.strs (h : Dk w lo hi A n c A2 n2 c2 ss ws) : Strs w w.heap.size A n ss := h.1.sl.strs
theorem Dk.wrs (h : Dk w lo hi A n c A2 n2 c2 ss ws) : Wrs w w.heap.size A2 n2 ws := h.2.1.sl.wrs
end
def dg (k : Nat) : BA := strOfNums [48 + (k : Int) % 10]
def mtL (k : Nat) (o : BA) : BA := if h : k = 0 then o else mtL (k / 10) (dg k ++ o)
termination_by k
decreasing_by omega
def mt (k : Nat) : BA := if k = 0 then ⟨#[109, 48]⟩ else ⟨#[109]⟩ ++ mtL k ⟨#[]⟩
def markM (k n : Nat) : List Mrk := (List.range n).map (fun i => (mt (k + i * 2), ((k + i * 2 + 1 : Nat) : Int)))


def secB (a : Int) : Bool := decide (0 <= a) && decide (a <= 63)
def sOk (s : BA) : Bool := decide (s.size <= 300)
def wOk (x : Int × BA) : Bool := secB x.1 && sOk x.2
def diskB (ss : List BA) (ws : List (Int × BA)) : Bool := (ss.length == 64) && decide (ws.length <= 80) && ss.all sOk && ws.all wOk
def AllTo {α : Type} (p : α -> Bool) (l : List α) (k : Nat) : Prop := (l.take k).all p = true
theorem AllTo.zero {α : Type} (p : α -> Bool) (l : List α) : AllTo p l 0 := by simp [AllTo]
theorem AllTo.succ {α : Type} {p : α -> Bool} {l : List α} {k : Nat} {d x : α} (h : AllTo p l k) (hk : k < l.length) (hx : l.getD k d = x) (hp : p x = true) : AllTo p l (k + 1) := by
 unfold AllTo at h ⊢
 rw [List.take_succ_eq_append_getElem hk, List.all_append, h]
 have : l[k] = x := by rw [<- hx, gdE, List.getElem?_eq_getElem hk]; rfl
 simp [this, hp]
theorem AllTo.all {α : Type} {p : α -> Bool} {l : List α} {k : Nat} (h : AllTo p l k) (hk : l.length = k) : l.all p = true := by
 unfold AllTo at h
 rwa [List.take_of_length_le oM] at h
theorem all_no {α : Type} {p : α -> Bool} {l : List α} {k : Nat} {d x : α} (hk : k < l.length) (hx : l.getD k d = x) (hp : p x = false) : l.all p = false := by
 rw [List.all_eq_false]
 refine ⟨l[k], List.getElem_mem hk, ?_⟩
 have : l[k] = x := by rw [<- hx, gdE, List.getElem?_eq_getElem hk]; rfl
 rw [this, hp]; simp
theorem diskB_len {ss : List BA} {ws : List (Int × BA)} (h : ss.length ≠ 64 \/ 80 < ws.length) : false = diskB ss ws := by
 unfold diskB
 rcases h with h | h
 . rw [beq_eq_false_iff_ne.2 h]; rfl
 . rw [decide_eq_false (p := ws.length <= 80) oM]; simp
theorem diskB_s {ss : List BA} {ws : List (Int × BA)} (h : ss.all sOk = false) : false = diskB ss ws := by
 unfold diskB; rw [h]; simp
theorem diskB_w {ss : List BA} {ws : List (Int × BA)} (h : ws.all wOk = false) : false = diskB ss ws := by
 unfold diskB; rw [h]; simp
theorem diskB_yes {ss : List BA} {ws : List (Int × BA)} (h1 : ss.length = 64) (h2 : ws.length <= 80) (h3 : ss.all sOk = true) (h4 : ws.all wOk = true) : true = diskB ss ws := by
 unfold diskB; rw [h3, h4, h1]; simp [h2]
theorem diskB_len64 {ss : List BA} {ws : List (Int × BA)} (h : diskB ss ws = true) : ss.length = 64 /\ ws.length <= 80 /\ ss.all sOk = true /\ ws.all wOk = true := by
 unfold diskB at h
 simp only [Bool.and_eq_true, beq_iff_eq, decide_eq_true_eq] at h
 exact ⟨h.1.1.1, h.1.1.2, h.1.2, h.2⟩
theorem l01In_d (a lo hi : Int) (w : World) : Calls Tryz.prog 106 #[ii a, ii lo, ii hi] w fun e w' => e = .returned (.bool (decide (lo <= a) && decide (a <= hi))) /\ w = w' := by
 go_enter func106, ntmps106
 go_wp2
 all_goals (go_ret; refine ⟨ret_bool ?_, rfl⟩; rw [Bool.eq_iff_iff]; simp; try omega)
theorem specDiskOK_c (A A2 : Option Addr) (n c n2 c2 B : Nat) (ss : List BA) (ws : List (Int × BA)) (w : World) (h : Strs w B A n ss) (h2 : Wrs w B A2 n2 ws) (hB : B <= w.heap.size) (hn : n <= 1048576) (hn2 : n2 <= 1048576) :
 Calls Tryz.prog 57 #[.agg #[sC A n c, sC A2 n2 c2]] w fun e w' => e = .returned (.bool (diskB ss ws)) /\ Nx w w' := by
 by_cases hl : n = 64
 case neg =>
  have h0 : ((n : Int) != 64) = true := by rw [bne_iff_ne]; omega
  have HF := qh (diskB_len (ss := ss) (ws := ws) (.inl (by rw [h.1]; exact hl)))
  go_enter func57, ntmps57
  go_wp2
  go_ret
  exact ⟨ret_bool HF.out, (Nx.refl _).alloc _⟩
 subst hl
 by_cases hl2 : n2 <= 80
 case neg =>
  have h0 : decide (80 < (n2 : Int)) = true := by simp; omega
  have HF := qh (diskB_len (ss := ss) (ws := ws) (.inr (by rw [h2.1]; omega)))
  go_enter func57, ntmps57
  go_wp2
  go_ret
  exact ⟨ret_bool HF.out, (Nx.refl _).alloc _⟩
 have h0 : decide (80 < (n2 : Int)) = false := by simp; omega
 go_enter func57, ntmps57
 go_wp2
 go_loop [3] (fun i => ∃ k : Nat, k <= 64 /\ i = ii k /\ AllTo sOk ss k) (fun i => 64 - (intOf i).toNat)
 case atStart => exact ⟨0, Nat.zero_le _, rfl, AllTo.zero _ _⟩
 case round =>
  obtain ⟨k, hk, rfl, hto⟩ := hrel
  by_cases hlt : k < 64
  . obtain ⟨b, off, rfl, hb, hc⟩ := (h.below ((Nx.refl w).alloc (.cells #[sC A 64 c, sC A2 n2 c2] 35)) hB).at_ hlt
    obtain ⟨s, Hs⟩ := nM (ss.getD k ByteArray.empty)
    rw [Hs.out] at hc
    have hkl : k < ss.length := by rw [h.1]; exact hlt
    by_cases hs : s.size <= 300
    . have h3 : decide (300 < (s.size : Int)) = false := by simp; omega
      go_wp2
      go_round
      case rel => exact ⟨k + 1, oM, by go_num, hto.succ hkl Hs.out (by simp [sOk, hs])⟩
      case measure => simp [intOf]; omega
    . have h3 : decide (300 < (s.size : Int)) = true := by simp; omega
      have HF := qh (diskB_s (ws := ws) (all_no hkl Hs.out (p := sOk) (by simp [sOk]; omega)))
      go_wp2
      go_ret
      exact ⟨ret_bool HF.out, (Nx.refl _).alloc _⟩
  . obtain rfl : k = 64 := oM
    have hall := qh (hto.all h.1)
    clear hto
    go_wp2
    go_loop [4] (fun i => ∃ k : Nat, k <= n2 /\ i = ii k /\ AllTo wOk ws k) (fun i => n2 - (intOf i).toNat)
    case atStart => exact ⟨0, Nat.zero_le _, rfl, AllTo.zero _ _⟩
    case round =>
     obtain ⟨k, hk, rfl, hto⟩ := hrel
     by_cases hlt : k < n2
     . obtain ⟨b, off, rfl, hb, hc, hd⟩ := (h2.below ((Nx.refl w).alloc (.cells #[sC A 64 c, sC A2 n2 c2] 35)) hB).at_ hlt
       obtain ⟨⟨a, s⟩, Hs⟩ := nM (ws.getD k (0, ByteArray.empty))
       rw [Hs.out] at hc hd
       have hkl : k < ws.length := by rw [h2.1]; exact hlt
       cases hsec : secB a with
       | false =>
         have HF := qh (diskB_w (ss := ss) (all_no hkl Hs.out (p := wOk) (by simp [wOk, hsec])))
         have hsec' : (decide (0 <= a) && decide (a <= 63)) = false := hsec
         have HS := qh hsec'
         clear hsec hsec'
         go_wp2_with (go_at_call 106; refine (l01In_d a 0 63 _).mono ?_; rintro e w' ⟨rfl, rfl⟩; rw [HS.out])
         go_ret
         exact ⟨ret_bool HF.out, (Nx.refl _).alloc _⟩
       | true =>
         have hsec' : (decide (0 <= a) && decide (a <= 63)) = true := hsec
         have HS := qh hsec'
         have HSec := qh hsec
         clear hsec hsec'
         by_cases hs : s.size <= 300
         . have h3 : decide (300 < (s.size : Int)) = false := by simp; omega
           go_wp2_with (go_at_call 106; refine (l01In_d a 0 63 _).mono ?_; rintro e w' ⟨rfl, rfl⟩; rw [HS.out])
           go_round
           case rel => exact ⟨k + 1, oM, by go_num, hto.succ hkl Hs.out (by simp [wOk, HSec.out, sOk, hs])⟩
           case measure => simp [intOf]; omega
         . have h3 : decide (300 < (s.size : Int)) = true := by simp; omega
           have HF := qh (diskB_w (ss := ss) (all_no hkl Hs.out (p := wOk) (by simp [wOk, sOk]; omega)))
           go_wp2_with (go_at_call 106; refine (l01In_d a 0 63 _).mono ?_; rintro e w' ⟨rfl, rfl⟩; rw [HS.out])
           go_ret
           exact ⟨ret_bool HF.out, (Nx.refl _).alloc _⟩
     . obtain rfl : k = n2 := oM
       have hall2 := qh (hto.all h2.1)
       go_wp2
       go_ret
       exact ⟨ret_bool (diskB_yes h.1 (by rw [h2.1]; exact hl2) hall.out hall2.out), (Nx.refl _).alloc _⟩
theorem isSector_c (a : Int) (w : World) : Calls Tryz.prog 186 #[ii a] w fun e w' => e = .returned (.bool (secB a)) /\ w = w' := by
 go_enter func186, ntmps186
 go_wp2
 all_goals (go_ret; refine ⟨ret_bool ?_, rfl⟩; unfold secB; rw [Bool.eq_iff_iff]; simp; try omega)
theorem writeRight_c (a : Int) (s : BA) (w : World) : Calls Tryz.prog 120 #[.agg #[ii a, .string s]] w fun e w' => e = .returned (.bool (wOk (a, s))) /\ Nx w w' := by
 cases hsec : secB a with
 | false =>
   have HF := qh (show false = wOk (a, s) by simp [wOk, hsec])
   have HS := qh hsec
   clear hsec
   go_enter func120, ntmps120
   go_wp2_with (go_at_call 186; refine (isSector_c a _).mono ?_; rintro e w' ⟨rfl, rfl⟩; rw [HS.out])
   go_ret
   exact ⟨ret_bool HF.out, (Nx.refl _).alloc _⟩
 | true =>
   have HF := qh (show decide (s.size <= 300) = wOk (a, s) by simp [wOk, hsec, sOk])
   have HS := qh hsec
   clear hsec
   go_enter func120, ntmps120
   go_wp2_with (go_at_call 186; refine (isSector_c a _).mono ?_; rintro e w' ⟨rfl, rfl⟩; rw [HS.out])
   go_ret
   refine ⟨ret_bool ?_, (Nx.refl _).alloc _⟩
   rw [<- HF.out, Bool.eq_iff_iff]; simp; try omega
theorem isRight_c (A A2 : Option Addr) (n c n2 c2 B : Nat) (ss : List BA) (ws : List (Int × BA)) (w : World) (h : Strs w B A n ss) (h2 : Wrs w B A2 n2 ws) (hB : B <= w.heap.size) (hn : n <= 1048576) (hn2 : n2 <= 1048576) :
 Calls Tryz.prog 51 #[.agg #[sC A n c, sC A2 n2 c2]] w fun e w' => e = .returned (.bool (diskB ss ws)) /\ Nx w w' := by
 by_cases hl : n = 64
 case neg =>
  have h0 : ((n : Int) != 64) = true := by rw [bne_iff_ne]; omega
  have HF := qh (diskB_len (ss := ss) (ws := ws) (.inl (by rw [h.1]; exact hl)))
  go_enter func51, ntmps51
  go_wp2
  go_ret
  exact ⟨ret_bool HF.out, (Nx.refl _).alloc _⟩
 subst hl
 by_cases hl2 : n2 <= 80
 case neg =>
  have h0 : decide (80 < (n2 : Int)) = true := by simp; omega
  have HF := qh (diskB_len (ss := ss) (ws := ws) (.inr (by rw [h2.1]; omega)))
  go_enter func51, ntmps51
  go_wp2
  go_ret
  exact ⟨ret_bool HF.out, (Nx.refl _).alloc _⟩
 have h0 : decide (80 < (n2 : Int)) = false := by simp; omega
 go_enter func51, ntmps51
 go_wp2
 go_loop [20] (fun i => ∃ k : Nat, k <= 64 /\ i = ii k /\ AllTo sOk ss k) (fun i => 64 - (intOf i).toNat)
 case atStart => exact ⟨0, Nat.zero_le _, rfl, AllTo.zero _ _⟩
 case round =>
  obtain ⟨k, hk, rfl, hto⟩ := hrel
  by_cases hlt : k < 64
  . obtain ⟨b, off, rfl, hb, hc⟩ := (h.below ((Nx.refl w).alloc (.cells #[sC A 64 c, sC A2 n2 c2] 35)) hB).at_ hlt
    obtain ⟨s, Hs⟩ := nM (ss.getD k ByteArray.empty)
    rw [Hs.out] at hc
    have hkl : k < ss.length := by rw [h.1]; exact hlt
    by_cases hs : s.size <= 300
    . have h3 : decide (300 < (s.size : Int)) = false := by simp; omega
      go_wp2
      go_round
      case rel => exact ⟨k + 1, oM, by go_num, hto.succ hkl Hs.out (by simp [sOk, hs])⟩
      case measure => simp [intOf]; omega
    . have h3 : decide (300 < (s.size : Int)) = true := by simp; omega
      have HF := qh (diskB_s (ws := ws) (all_no hkl Hs.out (p := sOk) (by simp [sOk]; omega)))
      go_wp2
      go_ret
      exact ⟨ret_bool HF.out, (Nx.refl _).alloc _⟩
  . obtain rfl : k = 64 := oM
    have hall := qh (hto.all h.1)
    clear hto
    go_wp2
    go_loopw [31] (fun i wr => ∃ k : Nat, k <= n2 /\ i = ii k /\ AllTo wOk ws k /\ Nx w wr) (fun i _ => n2 - (intOf i).toNat)
    case atStart => exact ⟨0, Nat.zero_le _, rfl, AllTo.zero _ _, (Nx.refl _).alloc _⟩
    case round =>
     obtain ⟨k, hk, rfl, hto, hnx⟩ := hrel
     by_cases hlt : k < n2
     . obtain ⟨b, off, rfl, hb, hc, hd⟩ := (h2.below hnx hB).at_ hlt
       obtain ⟨⟨a, s⟩, Hs⟩ := nM (ws.getD k (0, ByteArray.empty))
       rw [Hs.out] at hc hd
       have hkl : k < ws.length := by rw [h2.1]; exact hlt
       cases hok : wOk (a, s) with
       | false =>
         have HF := qh (diskB_w (ss := ss) (all_no hkl Hs.out (p := wOk) hok))
         have HO := qh hok
         clear hok
         go_wp2_with fail
         refine (writeRight_c a s _).mono ?_
         rintro e w1 ⟨rfl, hnx1⟩
         rw [HO.out]
         go_wp2
         go_ret
         exact ⟨ret_bool HF.out, (hnx.alloc _).trans hnx1⟩
       | true =>
         have HO := qh hok
         clear hok
         go_wp2_with fail
         refine (writeRight_c a s _).mono ?_
         rintro e w1 ⟨rfl, hnx1⟩
         rw [HO.out]
         go_wp2
         go_roundw
         case rel => exact ⟨k + 1, oM, by go_num, hto.succ hkl Hs.out HO.out, (hnx.alloc _).trans hnx1⟩
         case measure => simp [intOf]; omega
     . obtain rfl : k = n2 := oM
       have hall2 := qh (hto.all h2.1)
       go_wp2
       go_ret
       exact ⟨ret_bool (diskB_yes h.1 (by rw [h2.1]; exact hl2) hall.out hall2.out), hnx⟩
theorem ret_strR {a b : BA} (h : a = b) : Ending.returned (.string a) = .returned (.string b) := by rw [h]
def findLast (ws : List (Int × BA)) (a : Nat) : Nat -> Option BA
 | 0 => none
 | k + 1 => if ((ws.getD k (0, ByteArray.empty)).1 == (a : Int)) = true then some (ws.getD k (0, ByteArray.empty)).2 else findLast ws a k
def readP (ss : List BA) (ws : List (Int × BA)) (a : Nat) : BA := (findLast ws a ws.length).getD (ss.getD a ByteArray.empty)
def LastTo (ws : List (Int × BA)) (a k : Nat) : Prop := findLast ws a ws.length = findLast ws a k
theorem LastTo.start {ws : List (Int × BA)} {a n : Nat} (h : ws.length = n) : LastTo ws a n := by unfold LastTo; rw [h]
theorem LastTo.none_ {ss : List BA} {ws : List (Int × BA)} {a : Nat} (h : LastTo ws a 0) : ss.getD a ByteArray.empty = readP ss ws a := by
 unfold readP; rw [h]; rfl
theorem LastTo.found {ss : List BA} {ws : List (Int × BA)} {a k : Nat} {x : Int} {s : BA} (h : LastTo ws a (k + 1)) (hx : ws.getD k (0, ByteArray.empty) = (x, s)) (he : (x == (a : Int)) = true) : s = readP ss ws a := by
 unfold readP; rw [h, findLast, hx]; simp only [he, if_true, Option.getD_some]
theorem LastTo.next_ {ws : List (Int × BA)} {a k : Nat} {x : Int} {s : BA} (h : LastTo ws a (k + 1)) (hx : ws.getD k (0, ByteArray.empty) = (x, s)) (he : (x == (a : Int)) = false) : LastTo ws a k := by
 unfold LastTo at h ⊢; rw [h, findLast, hx]; simp [he]
theorem l01Read_c (A A2 : Option Addr) (n c n2 c2 B a : Nat) (ss : List BA) (ws : List (Int × BA)) (w : World) (h : Strs w B A n ss) (h2 : Wrs w B A2 n2 ws) (hB : B <= w.heap.size) (ha : a < n) (hn : n <= 1048576) (hn2 : n2 <= 1048576) :
 Calls Tryz.prog 130 #[.agg #[sC A n c, sC A2 n2 c2], ii a] w fun e w' => e = .returned (.string (readP ss ws a)) /\ Nx w w' := by
 have HL := qh h2.1
 go_enter func130, ntmps130
 go_wp2
 go_loop [5] (fun i => ∃ k : Nat, k <= n2 /\ i = ii ((k : Int) - 1) /\ LastTo ws a k) (fun i => (intOf i + 1).toNat)
 case atStart => exact ⟨n2, Nat.le_refl _, rfl, LastTo.start HL.out⟩
 case round =>
  obtain ⟨k, hk, rfl, hto⟩ := hrel
  rcases Nat.eq_zero_or_pos k with hz | hpos
  . subst hz
    obtain ⟨b, off, rfl, hb, hc⟩ := (h.below ((Nx.refl w).alloc (.cells #[sC A n c, sC A2 n2 c2] 35)) hB).at_ ha
    have HF := qh (hto.none_ (ss := ss))
    generalize ss.getD a ByteArray.empty = s at hc HF
    go_wp2
    go_ret
    exact ⟨ret_strR HF.out, (Nx.refl _).alloc _⟩
  . obtain ⟨j, rfl⟩ : ∃ j, k = j + 1 := ⟨k - 1, oM⟩
    have ej : (((j + 1 : Nat) : Int) - 1) = (j : Int) := oM
    rw [ej]
    obtain ⟨b, off, rfl, hb, hc, hd⟩ := (h2.below ((Nx.refl w).alloc (.cells #[sC A n c, sC A2 n2 c2] 35)) hB).at_ (k := j) oM
    obtain ⟨⟨x, s⟩, Hs⟩ := nM (ws.getD j (0, ByteArray.empty))
    rw [Hs.out] at hc hd
    clear ej
    cases hx : (x == (a : Int)) with
    | true =>
      have HF := qh (hto.found (ss := ss) Hs.out hx)
      go_wp2
      go_ret
      exact ⟨ret_strR HF.out, (Nx.refl _).alloc _⟩
    | false =>
      have HF := qh (hto.next_ Hs.out hx)
      go_wp2
      go_round
      case rel => exact ⟨j, oM, rfl, HF.out⟩
      case measure => simp [intOf]
theorem newest_c (A A2 : Option Addr) (n c n2 c2 B a : Nat) (ss : List BA) (ws : List (Int × BA)) (w : World) (h : Strs w B A n ss) (h2 : Wrs w B A2 n2 ws) (hB : B <= w.heap.size) (ha : a < n) (hn : n <= 1048576) (hn2 : n2 <= 1048576) :
 Calls Tryz.prog 191 #[.agg #[sC A n c, sC A2 n2 c2], ii a] w fun e w' => e = .returned (.string (readP ss ws a)) /\ Nx w w' := by
 have HL := qh h2.1
 go_enter func191, ntmps191
 go_wp2
 go_loop [5] (fun i => ∃ k : Nat, k <= n2 /\ i = ii ((k : Int) - 1) /\ LastTo ws a k) (fun i => (intOf i + 1).toNat)
 case atStart => exact ⟨n2, Nat.le_refl _, rfl, LastTo.start HL.out⟩
 case round =>
  obtain ⟨k, hk, rfl, hto⟩ := hrel
  rcases Nat.eq_zero_or_pos k with hz | hpos
  . subst hz
    obtain ⟨b, off, rfl, hb, hc⟩ := (h.below ((Nx.refl w).alloc (.cells #[sC A n c, sC A2 n2 c2] 35)) hB).at_ ha
    have HF := qh (hto.none_ (ss := ss))
    generalize ss.getD a ByteArray.empty = s at hc HF
    go_wp2
    go_ret
    exact ⟨ret_strR HF.out, (Nx.refl _).alloc _⟩
  . obtain ⟨j, rfl⟩ : ∃ j, k = j + 1 := ⟨k - 1, oM⟩
    have ej : (((j + 1 : Nat) : Int) - 1) = (j : Int) := oM
    rw [ej]
    obtain ⟨b, off, rfl, hb, hc, hd⟩ := (h2.below ((Nx.refl w).alloc (.cells #[sC A n c, sC A2 n2 c2] 35)) hB).at_ (k := j) oM
    obtain ⟨⟨x, s⟩, Hs⟩ := nM (ws.getD j (0, ByteArray.empty))
    rw [Hs.out] at hc hd
    clear ej
    cases hx : (x == (a : Int)) with
    | true =>
      have HF := qh (hto.found (ss := ss) Hs.out hx)
      go_wp2
      go_ret
      exact ⟨ret_strR HF.out, (Nx.refl _).alloc _⟩
    | false =>
      have HF := qh (hto.next_ Hs.out hx)
      go_wp2
      go_round
      case rel => exact ⟨j, oM, rfl, HF.out⟩
      case measure => simp [intOf]
end
end Go.Proofs.YtieoiailjjnnoaaGreatDoor
