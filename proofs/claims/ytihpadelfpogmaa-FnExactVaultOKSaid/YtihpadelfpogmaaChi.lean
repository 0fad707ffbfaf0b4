/-
  Contract of ChainOK, as the program has it.
  Conditions: the segments can be read, and have at most 1048576 changes each.
-/
import Derived.Test.YtihpadelfpogmaaChn
namespace Go.Proofs.Ytihpadelfpogmaa
set_option linter.unusedVariables false
set_option maxRecDepth 100000
open Go.RowKit

theorem lnk_bad {base : Int} {gs : List SgR} {k : Nat} {f t m : Int} {A : Option Addr} {c : Nat} {cs : List Chg} (hg : gs.getD k sgZ = ⟨f, t, m, A, c, cs⟩)
    (h : segB f t m cs = false ∨ ¬ f = atK base gs k ∨ ¬ tmK gs k ≤ m ∨ onB (mpK gs k) cs = false) : lnk base gs k = false := by
  rw [lnk_parts hg]
  rcases h with h | h | h | h
  · simp only; rw [h]; rfl
  · simp only; rw [decide_eq_false h]; simp
  · simp only; rw [decide_eq_false h]; simp
  · simp only; rw [h]; simp
theorem lnk_yes {base : Int} {gs : List SgR} {k : Nat} {f t m : Int} {A : Option Addr} {c : Nat} {cs : List Chg} (hg : gs.getD k sgZ = ⟨f, t, m, A, c, cs⟩)
    (h1 : segB f t m cs = true) (h2 : f = atK base gs k) (h3 : tmK gs k ≤ m) (h4 : onB (mpK gs k) cs = true) : lnk base gs k = true := by
  rw [lnk_parts hg]
  simp only
  rw [h1, decide_eq_true h2, decide_eq_true h3, h4]; rfl
set_option maxRecDepth 100000 in
set_option maxHeartbeats 4000000 in
theorem implChainOK_c (base : Int) (A : Option Addr) (c B : Nat) (gs : List SgR) (w : World) (h : Sgs w B A gs) (hB : B ≤ w.heap.size) (hn : gs.length ≤ 1048576) (hm : ∀ k, k < gs.length → (gs.getD k sgZ).cs.length ≤ 1048576) :
    Calls Try.prog 54 #[.int .i64 base, .slice A gs.length c] w fun e w' => e = .returned (.bool (chainB base gs)) ∧ Nx w w' := by
  obtain ⟨n, Hn⟩ : ∃ n, Hid (gs.length = n) := ⟨_, rfl⟩
  rw [Hn.out] at hn ⊢
  by_cases hl : n ≤ 4096
  case neg =>
    have HR := Lib.hid (chainB_long (base := base) (gs := gs) (by rw [Hn.out]; exact hl))
    have hd : decide (4096 < (n : Int)) = true := by simp; omega
    go_enter Try.func54, Try.ntmps54
    go_wp2
    go_ret
    exact ⟨by rw [HR.out]; rfl, Nx.refl _⟩
  have hd : decide (4096 < (n : Int)) = false := by simp; omega
  cases hb : inB 0 999999 base
  · have HR := Lib.hid (chainB_base (base := base) (gs := gs) hb)
    have HB := Lib.hid hb
    clear hb
    go_enter Try.func54, Try.ntmps54
    go_wp2_with fail
    refine (isPosition_c base _).mono ?_
    rintro e w1 ⟨rfl, rfl⟩
    rw [HB.out]
    go_wp2
    go_ret
    exact ⟨by rw [HR.out]; rfl, Nx.refl _⟩
  have HB := Lib.hid hb
  clear hb
  have hmm := @run_makeMap Try.prog
  have hmap := MapC.made w
  have hx0 := (Nx.refl w).alloc (.map #[] 0)
  go_enter Try.func54, Try.ntmps54
  go_wp2_with fail
  refine (isPosition_c base _).mono ?_
  rintro e w1 ⟨rfl, rfl⟩
  rw [HB.out]
  go_wp2_with fail
  clear hmm
  generalize w.alloc (.map #[] 0) = W at *
  go_loopw [5, 6, 22] (fun a0 t0 i wr => ∃ k : Nat, k ≤ n ∧ i = .int .i64 k ∧ a0 = .int .i64 (atK base gs k) ∧ t0 = .int .i64 (tmK gs k) ∧ MapC wr w.heap.size (mpK gs k) ∧ LnTo base gs k ∧ Nx w wr) (fun _ _ i _ => n - (intOf i).toNat)
  case atStart => exact ⟨0, Nat.zero_le _, rfl, rfl, rfl, hmap, LnTo.zero _ _, hx0⟩
  case round =>
    obtain ⟨k, hk, rfl, rfl, rfl, hmk, hln, hnx⟩ := hrel
    clear hmap hx0
    by_cases hlt : k < n
    · have hlk : k < gs.length := by rw [Hn.out]; exact hlt
      obtain ⟨b, off, rfl, hb, p0, p1, p2, p3⟩ := (h.below hnx hB).row.at4 hlk
      have hch := (h.below hnx hB).chs k hlk
      have hmk' := hm k hlk
      have HNo := Lib.hid (fun (hh : lnk base gs k = false) => chainB_no hlk hh)
      have HYes := Lib.hid (fun (hh : lnk base gs k = true) => hln.succ hh)
      have HA := Lib.hid (show atK base gs (k + 1) = (gs.getD k sgZ).t from rfl)
      have HT := Lib.hid (show tmK gs (k + 1) = (gs.getD k sgZ).m from rfl)
      have HM := Lib.hid (show mpK gs (k + 1) = noteM (mpK gs k) (gs.getD k sgZ).cs from rfl)
      clear hln
      obtain ⟨⟨f, t, m, A2, cc, cs⟩, Hs⟩ : ∃ s, Hid (gs.getD k sgZ = s) := ⟨_, rfl⟩
      rw [Hs.out] at p0 p1 p2 p3 hch hmk' HA HT HM
      simp only at p0 p1 p2 p3 hch hmk'
      have bG := Box.new wr 54 #[.int .i64 f, .int .i64 t, .int .i64 m, .slice A2 cs.length cc]
      have hxa := (Nx.refl wr).alloc (.cells #[.int .i64 f, .int .i64 t, .int .i64 m, .slice A2 cs.length cc] 54)
      have hmka := hmk.nx hxa
      have hltm := hmk.lt
      obtain ⟨a0, Ha⟩ : ∃ q, Hid (atK base gs k = q) := ⟨_, rfl⟩
      obtain ⟨t0, Ht⟩ : ∃ q, Hid (tmK gs k = q) := ⟨_, rfl⟩
      obtain ⟨M, HMk⟩ : ∃ q, Hid (mpK gs k = q) := ⟨_, rfl⟩
      rw [Ha.out, Ht.out]
      rw [HMk.out] at hmka HM
      have HBad := Lib.hid (fun hh => HNo.out (lnk_bad (base := base) Hs.out hh))
      have HGood := Lib.hid (fun h1 h2 h3 h4 => HYes.out (lnk_yes (base := base) Hs.out h1 h2 h3 h4))
      rw [Ha.out, Ht.out, HMk.out] at HBad HGood
      clear HNo HYes hm
      go_wp2_with fail
      generalize hWa : wr.alloc (.cells #[.int .i64 f, .int .i64 t, .int .i64 m, .slice A2 cs.length cc] 54) = wa at *
      clear hWa p0 p1 p2 p3
      have hnxa := hnx.trans hxa
      have hszB := Nat.le_trans hB hnxa.size
      refine (segRight_c f t m A2 cc B cs _ (hch.below hxa (Nat.le_trans hB hnx.size)) hszB hmk').mono ?_
      rintro e w1 ⟨rfl, hx1⟩
      replace bG := bG.nx hx1
      replace hmka := hmka.nx hx1
      have hch1 := (hch.below hxa (Nat.le_trans hB hnx.size)).below hx1 hszB
      have hX1 := hnxa.trans hx1
      have hszB1 := Nat.le_trans hB hX1.size
      clear hxa hx1 hch hmk
      cases hsb : segB f t m cs
      · have HR := Lib.hid (HBad.out (.inl hsb))
        clear hsb HBad HGood
        go_wp2
        go_ret
        exact ⟨by rw [HR.out]; rfl, hX1⟩
      have hok : chsB cs = true := segB_chs hsb
      have HSB := Lib.hid hsb
      obtain ⟨c0, c1, c2, c3⟩ := bG.d4
      clear hsb
      by_cases hfa : f = a0
      case neg =>
        have HR := Lib.hid (HBad.out (.inr (.inl hfa)))
        have hd1 : (f != a0) = true := by simp [hfa]
        clear HBad HGood hfa
        go_wp2
        go_ret
        exact ⟨by rw [HR.out]; rfl, hX1⟩
      have hd1 : (f != a0) = false := by simp [hfa]
      have HFA := Lib.hid hfa
      clear hfa
      by_cases htm : t0 ≤ m
      case neg =>
        have HR := Lib.hid (HBad.out (.inr (.inr (.inl (by omega)))))
        have hd2 : decide (m < t0) = true := by simp; omega
        clear HBad HGood htm
        go_wp2
        go_ret
        exact ⟨by rw [HR.out]; rfl, hX1⟩
      have hd2 : decide (m < t0) = false := by simp; omega
      have HTM := Lib.hid htm
      clear htm
      go_wp2_with fail
      refine (goesOnFrom_c f t m A2 cc B w.heap.size cs M _ hch1 hmka hszB1 hok).mono ?_
      rintro e w2 ⟨rfl, hx2⟩
      clear c0 c1 c2 c3
      replace bG := bG.nx hx2
      replace hmka := hmka.nx hx2
      have hch2 := hch1.below hx2 hszB1
      have hX2 := hX1.trans hx2
      clear hx2 hch1
      cases hon : onB M cs
      · have HR := Lib.hid (HBad.out (.inr (.inr (.inr hon))))
        clear hon HBad HGood
        go_wp2
        go_ret
        exact ⟨by rw [HR.out]; rfl, hX2⟩
      have HLn := Lib.hid (HGood.out HSB.out HFA.out HTM.out hon)
      clear hon HBad HGood
      obtain ⟨c0, c1, c2, c3⟩ := bG.d4
      go_wp2_with fail
      refine (noteIn_c f t m A2 cc B w.heap.size cs M _ hch2 hmka hB hok).mono ?_
      rintro e w3 ⟨rfl, hm3, hr3⟩
      have bG3 := bG.rg hr3 (by omega)
      have hX3 := Rg.nx_of hX2 hr3 (Nat.le_refl _)
      clear c0 c1 c2 c3
      obtain ⟨c0, c1, c2, c3⟩ := bG3.d4
      go_wp2_with fail
      -- region
      refine wp_region_lex [false, false, false, false, false, false] (fun w' => w'.cell? ⟨wr.heap.size, 1, none⟩ = some (.int .i64 t) ∧ w'.cell? ⟨wr.heap.size, 2, none⟩ = some (.int .i64 m)) (by kernel_rfl) (by kernel_rfl) rfl (by kernel_rfl) (fun _ _ d _ _ h => by cases d <;> exact h) (by exact ⟨c1, c2⟩) ?_
      repeat (first | (refine HL.take (v := ?_) (by rfl) ?_ ?_; rotate_left; (· (intro w hSw; (try dsimp only at hSw); go_simp; try with_reducible rfl)); (try simp only [Act.put, List.setIfInBounds_toArray, List.set_cons_zero, List.set_cons_succ])) | (refine HL.skip (by rfl) ?_; (try simp only [Act.put, List.setIfInBounds_toArray, List.set_cons_zero, List.set_cons_succ])))
      refine HL.done ?_
      -- end
      go_wp2
      go_roundw
      case rel => exact ⟨k + 1, by omega, by go_num, by rw [HA.out], by rw [HT.out], by rw [HM.out]; exact hm3, HLn.out, hX3.drew⟩
      case measure => simp [intOf]; omega
    · obtain rfl : k = n := by omega
      have HR := Lib.hid (LnTo.all (base := base) (gs := gs) (by rw [Hn.out]; exact hln) (by rw [Hn.out]; exact hl) HB.out)
      go_wp2
      go_ret
      exact ⟨by rw [HR.out]; rfl, hnx⟩
end Go.Proofs.Ytihpadelfpogmaa
