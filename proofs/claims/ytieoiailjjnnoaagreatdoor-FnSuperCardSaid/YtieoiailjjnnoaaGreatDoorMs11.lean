/-
  Texts of the proof, in their order.
  Conditions: those of each.
-/
import Derived.Test.YtieoiailjjnnoaaGreatDoorMs10
import Derived.Deep.AppendLies
import Derived.Shelf.Strings.OnBuilder
import Derived.Shelf.Strconv.Itoa3
import Derived.Shelf.LaysM
import Derived.Test.YtieoiailjjnnoaaGreatDoorProg
import Derived.Lib.AppendIntMem
import Derived.Outline
import Derived.Deep.RegionHeld3
namespace Go.Proofs.YtieoiailjjnnoaaGreatDoor
set_option linter.unusedVariables false
set_option maxRecDepth 100000
set_option maxHeartbeats 16000000
open Go.RowKit
theorem jn_step0 {ws : List BA} {s x : BA} (h : s = jn (ws.take 0)) (hk : 0 < ws.length) (hx : ws.getD 0 ByteArray.empty = x) : s ++ x = jn (ws.take (0 + 1)) := by
 rw [jn_take hk, List.take_zero, List.nil_append, jn_one, hx, h, List.take_zero, jn_nil]
 exact ba_ext_ (by rw [ba_app]; rfl)
where ba_ext_ {a b : BA} (h : a.data.toList = b.data.toList) : a = b := by rw [ba_eq h]
theorem jn_stepS {ws : List BA} {s x : BA} {k : Nat} (h : s = jn (ws.take k)) (hp : 0 < k) (hk : k < ws.length) (hx : ws.getD k ByteArray.empty = x) : s ++ ⟨#[44]⟩ ++ x = jn (ws.take (k + 1)) := by
 rw [jn_take hk, jn_snoc (by rw [List.length_take]; omega), hx, h]
theorem l00Join_c (A : Option Addr) (c B : Nat) (ws : List BA) (w : World) (h : Row w B A ws.length (wdAt ws)) (hB : B ≤ w.heap.size) (hn : ws.length ≤ 4) (hw : ∀ k, (ws.getD k ByteArray.empty).size ≤ 13) :
 Calls Tryz.prog 111 #[.slice A ws.length c, .string ⟨#[44]⟩] w fun e w' => e = .returned (.string (jn ws)) ∧ Nx w w' := by
 go_enter Tryz.func111, Tryz.ntmps111
 go_wp2
 go_loopw [5, 6] (fun o i wr => ∃ (k : Nat) (s : BA), k ≤ ws.length ∧ i = ii k ∧ o = .string s ∧ s.size ≤ 56 ∧ Hid (s = jn (ws.take k)) ∧ Nx w wr) (fun _ i _ => ws.length - (intOf i).toNat)
 case atStart => exact ⟨0, ⟨#[]⟩, Nat.zero_le _, rfl, rfl, by decide, qh rfl, Nx.refl _⟩
 case round =>
  obtain ⟨k, s, hk, rfl, rfl, hs, HS, hnx⟩ := hrel
  by_cases hlt : k < ws.length
  · obtain ⟨b, off, rfl, hb, hc0⟩ := (h.below hnx hB) (by omega)
    have hc := hc0 k hlt
    clear hc0
    unfold wdAt at hc
    have hx13 := hw k
    have HJ := qh (jn_size (k + 1) ws hw (by omega))
    obtain ⟨x, Hx⟩ : ∃ x, Hid (ws.getD k ByteArray.empty = x) := ⟨_, rfl⟩
    rw [Hx.out] at hc hx13
    rcases Nat.eq_zero_or_pos k with hz | hp
    · subst hz
      have HF := qh (jn_step0 HS.out hlt Hx.out)
      rw [← HF.out] at HJ
      rw [Nat.add_zero] at hc
      go_wp2
      go_roundw
      case rel => exact ⟨0 + 1, _, by omega, by go_num, rfl, by have := HJ.out; omega, HF, hnx⟩
      case measure => simp [intOf]; omega
    · have hd : decide (0 < (k : Int)) = true := by simp; omega
      have HF := qh (jn_stepS HS.out hp hlt Hx.out)
      rw [← HF.out] at HJ
      have h44 : (⟨#[44]⟩ : BA).size = 1 := rfl
      go_wp2
      go_roundw
      case rel => exact ⟨k + 1, _, by omega, by go_num, rfl, by have := HJ.out; omega, HF, hnx⟩
      case measure => simp [intOf]; omega
  · obtain rfl : k = ws.length := by omega
    have HR := qh (show s = jn ws by rw [HS.out, List.take_length])
    go_wp2
    go_ret
    exact ⟨ret_str HR.out, hnx⟩
theorem addS_run {o : Oper} {a : Act} {x y : Operand} {s r : BA} {W : World} (ho : o.op = .binOp .add 9 x y 9) (hx : a.eval x = .string s) (hy : a.eval y = .string r) (h : s.size + r.size ≤ 1000000) :
 (execOp a.eval o).run Tryz.prog W = .ok (.value (.string (s ++ r))) W := by
 have h1 := run_string_add_sum (P := Tryz.prog) W s r (by omega)
 unfold execOp
 simp only [ho, hx, hy, binOp_string_add]
 simp [h1, go_sem]
theorem mkW_of (nm : BA) (q : Nat) : nm ++ ⟨#[61]⟩ ++ ⟨(digs q).toArray⟩ = mkW (nm, (q : Int)) := by
 unfold mkW; simp
theorem wV_succ {ms : List Mrk} {k : Nat} (hk : k < ms.length) {q : Mrk} (hq : ms.getD k mrZ = q) : wV (wds (ms.take (k + 1))) = wV (wds (ms.take k)) ++ [.string (mkW q)] := by
 rw [← wds_take, ← wds_take, jn_take (by rw [wds_len]; exact hk), wds_at hk, hq]
 unfold wV; simp
theorem wdsT_len {ms : List Mrk} {k : Nat} (hk : k ≤ ms.length) : (wds (ms.take k)).length = k := by rw [wds_len, List.length_take]; omega
theorem l04Text_c (g b p t : Int) (A A2 : Option Addr) (c c2 B : Nat) (xs : List Int) (ms : List Mrk) (w : World) (h : Ins w B A xs) (h2 : Mks w B A2 ms) (hB : B ≤ w.heap.size) (hok : superB g b p t xs ms = true) :
 Calls Tryz.prog 47 #[.agg #[ii g, ii b, ii p, ii t, .slice A xs.length c, .slice A2 ms.length c2]] w fun e w' => e = .returned (.string (sealS (numsS (supN g b p t xs) ++ ⟨#[124]⟩ ++ jn (wds ms)))) ∧ Nx w w' := by
 have HK := qh hok
 have hl4 : ms.length ≤ 4 := (msB_yes (superB_yes hok).2.2.2.2.2).1
 have hl20 : xs.length ≤ 20 := (tbB_yes (superB_yes hok).2.2.2.2.1).1
 have HM := qh (superB_yes hok).2.2.2.2.2
 clear hok
 obtain ⟨i0, hi0, hz0, hz1, hz2⟩ := info_parts infoS
 go_enter Tryz.func47, Tryz.ntmps47
 have b0 := Box.new w 26 #[ii g, ii b, ii p, ii t, .slice A xs.length c, .slice A2 ms.length c2]
 have hx0 := (Nx.refl w).alloc (.cells #[ii g, ii b, ii p, ii t, .slice A xs.length c, .slice A2 ms.length c2] 26)
 have b1 := b0.alloc (.cells #[ii g, ii b, ii p, ii t] 3)
 have hx1 := hx0.alloc (.cells #[ii g, ii b, ii p, ii t] 3)
 have hR1 := RowI.new4 (w.alloc (.cells #[ii g, ii b, ii p, ii t, .slice A xs.length c, .slice A2 ms.length c2] 26)) (B := w.heap.size) g b p t (by simp)
 simp only [World.size_alloc] at hR1
 have HX1 := qh hx1
 have HB1 := qh b1
 have HR1 := qh hR1
 clear hx1 b1 hR1 hx0 b0
 go_wp2_with (at_builtin; refine wpList_app4I rfl _ _ rfl w.heap.size (w.heap.size + 1) A c [g, b, p, t] xs rfl rfl rfl HR1.out (h.below HX1.out hB) (by omega) HX1.out.size ?_)
 intro A' k' w2 hR2 hG2
 have hx2 := hG2.nx w HX1.out nle
 have b2 := hG2.box _ _ _ (by decide) HB1.out
 clear HX1 HB1 HR1 hG2
 have HR2 : Hid (RowI w2 w.heap.size (.slice A' (xs.length + 4) k') (supL g b p t xs)) := qh hR2
 clear hR2
 go_wp2_with fail
 have hw0 := RowW.new w2 (B := w2.heap.size) nle
 have hn0 := (Nx.refl w2).alloc (.cells #[] 9)
 go_loopw [4, 5] (fun s i wr => ∃ (k : Nat) (v : Value), k ≤ ms.length ∧ i = ii k ∧ v = s ∧ RowW wr w2.heap.size v (wds (ms.take k)) ∧ Nx w2 wr) (fun _ i _ => ms.length - (intOf i).toNat)
 case atStart => exact ⟨0, _, Nat.zero_le _, rfl, rfl, hw0, hn0⟩
 case round =>
  obtain ⟨k, v, hk, rfl, rfl, hw, hnx⟩ := hrel
  obtain ⟨_, _, _, _, _, c5⟩ := (b2.nx hnx).d6
  clear hw0 hn0
  by_cases hlt : k < ms.length
  · obtain ⟨bb, off, rfl, hb, k0, k1⟩ := (h2.below (hx2.trans hnx) hB).at_ hlt
    have hms := msB_at HM.out hlt
    obtain ⟨⟨q0, q1'⟩, Hq'⟩ : ∃ q, Hid (ms.getD k mrZ = q) := ⟨_, rfl⟩
    rw [Hq'.out] at k0 k1 hms
    obtain ⟨q1, Hq1⟩ : ∃ q : Nat, Hid (q1' = (q : Int)) := ⟨q1'.toNat, qh (by have := hms.2.1; simp only at this; omega)⟩
    rw [Hq1.out] at k1 hms Hq'
    obtain ⟨hs6, _, hq6⟩ := hms
    simp only at k0 k1 hs6 hq6
    have Hq : Hid (ms.getD k mrZ = (q0, (q1 : Int))) := Hq'
    have hbw : bb < w2.heap.size := by have := hx2.size; omega
    have hbv : w.heap.size < w2.heap.size := b2.lt
    have hq7 : q1 ≤ 999999 := by omega
    have hlk : (wds (ms.take k)).length = k := wdsT_len hk
    have hwk : wr.ownsRow w2.heap.size 9 1 v k (wV (wds (ms.take k))) := by have := hw; unfold RowW at this; rwa [hlk] at this
    have h61 : (⟨#[61]⟩ : BA).size = 1 := rfl
    clear hw hlk Hq1 hq6
    go_wp2_with fail
    refine wp_lexA [ff, ff, ff, ff, ff, ff, ff, ff, ff, ff, ff, ff, ff, ff, true, ff, true, true, ff] (fun w' => w'.cell? ⟨w.heap.size, 5, none⟩ = some (.slice (some ⟨bb, off, none⟩) ms.length c2) ∧ w'.cell? ⟨bb, off + k * 2, none⟩ = some (.string q0) ∧ w'.cell? ⟨bb, off + k * 2 + 1, none⟩ = some (ii q1)) (by exact ⟨c5, k0, k1⟩) ?_
    iterate 7 (refine HL.tk ?_; (try simp only [Act.put, qqA, qqB, qqC]))
    refine HL.take (v := .string (q0 ++ ⟨#[61]⟩)) (by rfl) (fun W _ => addS_run rfl rfl rfl (by omega)) ?_
    try simp only [Act.put, qqA, qqB, qqC]
    iterate 6 (refine HL.tk ?_; (try simp only [Act.put, qqA, qqB, qqC]))
    refine hLc fun K hK => ?_
    go_simp
    refine (l00Digits_c q1 _ hq7).mono ?_
    rintro e wd ⟨rfl, hnd⟩
    have hxd := hnx.trans (Nx.drew_r hnd)
    have hwd := (show RowW wr w2.heap.size v (wds (ms.take k)) by unfold RowW; rw [wdsT_len hk]; exact hwk).nx (Nx.drew_r hnd)
    have HW := qh (mkW_of q0 q1)
    obtain ⟨d, Hd⟩ : ∃ d : BA, Hid ((⟨(digs q1).toArray⟩ : BA) = d) := ⟨_, rfl⟩
    have hd6 : d.size ≤ 6 := by rw [← Hd.out]; have := (digs_len hq7).2; simp [ByteArray.size]; omega
    rw [Hd.out] at HW ⊢
    go_wp2_with fail
    refine hK.out _ _ (by exact ⟨(hxd.of_two' hnx ⟨w.heap.size, 5, none⟩ hbv).trans c5, (hxd.of_two' hnx ⟨bb, off + k * 2, none⟩ hbw).trans k0, (hxd.of_two' hnx ⟨bb, off + k * 2 + 1, none⟩ hbw).trans k1⟩) ?_
    clear hK K
    try simp only [Act.put, qqA, qqB, qqC]
    refine HL.take (v := .string ((q0 ++ ⟨#[61]⟩) ++ d)) (by rfl) (fun W _ => addS_run rfl rfl rfl (by rw [ByteArray.size_append]; omega)) ?_
    try simp only [Act.put, qqA, qqB, qqC]
    rw [HW.out]
    refine hLc fun K hK => ?_
    go_simp
    change K _ (wd.alloc _)
    have bz := Box.new wd 9 #[.string (mkW (q0, (q1 : Int)))]
    have hwz := hwd.nx ((Nx.refl wd).alloc (.cells #[.string (mkW (q0, (q1 : Int)))] 9))
    have hxz := hxd.alloc (.cells #[.string (mkW (q0, (q1 : Int)))] 9)
    refine hK.out _ _ (by exact ⟨(hxz.of_two' hnx ⟨w.heap.size, 5, none⟩ hbv).trans c5, (hxz.of_two' hnx ⟨bb, off + k * 2, none⟩ hbw).trans k0, (hxz.of_two' hnx ⟨bb, off + k * 2 + 1, none⟩ hbw).trans k1⟩) ?_
    generalize wd.alloc (.cells #[.string (mkW (q0, (q1 : Int)))] 9) = wz at *
    clear hK K
    try simp only [Act.put, qqA, qqB, qqC]
    refine hLc fun K hK => ?_
    have hwz' : wz.ownsRow w2.heap.size 9 1 v k (wV (wds (ms.take k))) := by have := hwz; unfold RowW at this; rwa [wdsT_len hk] at this
    refine wp_append_own wz _ _ 32 rfl w2.heap.size 9 i0 _ 1 16 Tryz.underlying32 hi0 hz0 hz1 hz2 rfl (by omega) v k _ rfl hwz' ⟨wd.heap.size, 0, none⟩ 1 1 [.string (mkW (q0, (q1 : Int)))] rfl rfl (fun j u hj => ?_) (fun u hu => ?_) (by unfold maxLen; omega) (by omega) (by have := hxz.size; omega) ?_
    · rw [addr_add', Nat.zero_add, bz.cell j, ← hj]
      rcases j with _ | j <;> simp
    · simp only [List.mem_cons, List.not_mem_nil, or_false] at hu; rcases hu with rfl; rfl
    intro v2 w3 hw3 hg3 _
    have hx3 : Nx w2 w3 := Below.grown hxz hg3 hxz.size (fun k hk => (hwz'.lt k hk).1)
    refine hK.out _ _ (by exact ⟨(hx3.of_two' hnx ⟨w.heap.size, 5, none⟩ hbv).trans c5, (hx3.of_two' hnx ⟨bb, off + k * 2, none⟩ hbw).trans k0, (hx3.of_two' hnx ⟨bb, off + k * 2 + 1, none⟩ hbw).trans k1⟩) ?_
    clear hK K
    try simp only [Act.put, qqA, qqB, qqC]
    iterate 1 (refine HL.tk ?_; (try simp only [Act.put, qqA, qqB, qqC]))
    refine HL.done ?_
    go_wp2
    go_roundw
    case rel =>
     refine ⟨k + 1, _, by omega, by go_num, rfl, ?_, hx3⟩
     unfold RowW
     rw [wV_succ hlt Hq.out, wdsT_len (by omega)]
     exact hw3
    case measure => simp [intOf]; omega
  · obtain rfl : k = ms.length := by omega
    rw [List.take_length] at hw
    obtain ⟨A3, c3, rfl, hS3⟩ := hw.sl
    rw [wds_len] at hS3
    obtain ⟨A5, c5', he5, hS5⟩ := HR2.out.sl
    rw [supL_len] at he5 hS5
    injection he5 with e5 _ _
    subst e5
    have hrow := supN_row HK.out (supN_len g b p t xs).symm (hS5.nx hnx).row
    have Hl := qh (supN_len g b p t xs)
    have Hwl := qh (wds_len ms)
    have hS3r : Row wr wr.heap.size A3 (wds ms).length (wdAt (wds ms)) := by rw [wds_len]; exact hS3.row
    have hc5 : ((xs.length + 4 : Nat) : Int) = (xs.length : Int) + 4 := by omega
    rw [← Hl.out]
    go_wp2_with fail
    refine (l02Join_c A' _ _ (supN g b p t xs) _ hrow nle (supN_all HK.out) (by have := Hl.out; omega)).mono ?_
    obtain ⟨nS, HnS⟩ : ∃ s, Hid (numsS (supN g b p t xs) = s) := ⟨_, rfl⟩
    rintro e w4 ⟨he, hnx4⟩
    have he' : e = .returned (.string nS) := he.trans (by rw [← HnS.out]; rfl)
    subst he'
    have hns : nS.size ≤ 144 := by rw [← HnS.out, numsS_size, Hl.out]; omega
    have hr4 := hS3r.below hnx4 nle
    clear he
    go_wp2_with fail
    refine (l00Join_c A3 c3 _ (wds ms) _ hr4 hnx4.size (by rw [wds_len]; omega) (wds_size HM.out)).mono ?_
    obtain ⟨jS, HjS⟩ : ∃ s, Hid (jn (wds ms) = s) := ⟨_, rfl⟩
    have hjs : jS.size ≤ 56 := by rw [← HjS.out]; have := jn_all (wds_size HM.out); rw [wds_len] at this; omega
    rw [HjS.out]
    rintro e w5 ⟨rfl, hnx5⟩
    have h124 : (⟨#[124]⟩ : BA).size = 1 := rfl
    go_wp2_with fail
    refine (l02Seal_c _ _ (by rw [ByteArray.size_append, ByteArray.size_append]; omega)).mono ?_
    have HZ := qh (show nS ++ ⟨#[124]⟩ ++ jS ++ ⟨(sumD (nS ++ ⟨#[124]⟩ ++ jS)).toArray⟩ = sealS (numsS (supN g b p t xs) ++ ⟨#[124]⟩ ++ jn (wds ms)) by rw [HnS.out, HjS.out]; rfl)
    rintro e w6 ⟨he, hnx6⟩
    have he6 := he.trans (ret_str HZ.out)
    subst he6
    clear he
    go_wp2
    go_ret
    exact ⟨rfl, (((hx2.trans hnx).trans hnx4).trans hnx5).trans hnx6⟩
theorem specSuperText_c (g b p t : Int) (A A2 : Option Addr) (c c2 B : Nat) (xs : List Int) (ms : List Mrk) (w : World) (h : Ins w B A xs) (h2 : Mks w B A2 ms) (hB : B ≤ w.heap.size) (hn : xs.length ≤ 1048576) (hn2 : ms.length ≤ 1048576) (hc : xs.length ≤ c) (hm : AllM ms) :
 Calls Tryz.prog 10 #[.agg #[ii g, ii b, ii p, ii t, .slice A xs.length c, .slice A2 ms.length c2]] w fun e w' => e = .returned (.tuple #[.string (supS g b p t xs ms), ii (codeB (superB g b p t xs ms) 1)]) ∧ Nx w w' := by
 cases hf : superB g b p t xs ms with
 | false =>
   have HF := qh hf
   have HS := qh (show (⟨#[]⟩ : BA) = supS g b p t xs ms by unfold supS; rw [hf]; rfl)
   clear hf
   have hx0 := (Nx.refl w).alloc (.cells #[ii g, ii b, ii p, ii t, .slice A xs.length c, .slice A2 ms.length c2] 26)
   go_enter Tryz.func10, Tryz.ntmps10
   go_wp2_with fail
   refine (specSuperOK_c g b p t A A2 c c2 B xs ms _ (h.below hx0 hB) (h2.below hx0 hB) (ntr hB hx0.size) hn hn2 hc hm).mono ?_
   rintro e w1 ⟨rfl, hnx1⟩
   rw [HF.out]
   go_wp2
   go_ret2
   exact ⟨ret_tup HS.out rfl, hx0.trans hnx1⟩
 | true =>
   have HF := qh hf
   have HS := qh (show sealS (numsS (supN g b p t xs) ++ ⟨#[124]⟩ ++ jn (wds ms)) = supS g b p t xs ms by unfold supS; rw [hf]; rfl)
   clear hf
   go_enter Tryz.func10, Tryz.ntmps10
   go_wp2_with fail
   have b0 := Box.new w 26 #[ii g, ii b, ii p, ii t, .slice A xs.length c, .slice A2 ms.length c2]
   have hx0 := (Nx.refl w).alloc (.cells #[ii g, ii b, ii p, ii t, .slice A xs.length c, .slice A2 ms.length c2] 26)
   generalize w.alloc (.cells #[ii g, ii b, ii p, ii t, .slice A xs.length c, .slice A2 ms.length c2] 26) = W at *
   refine (specSuperOK_c g b p t A A2 c c2 B xs ms _ (h.below hx0 hB) (h2.below hx0 hB) (ntr hB hx0.size) hn hn2 hc hm).mono ?_
   rintro e w1 ⟨rfl, hnx1⟩
   rw [HF.out]
   obtain ⟨c0, c1, c2, c3, c4, c5⟩ := (b0.nx hnx1).d6
   have hx1 := hx0.trans hnx1
   go_wp2_with fail
   refine (l04Text_c g b p t A A2 _ _ B xs ms _ (h.below hx1 hB) (h2.below hx1 hB) (ntr hB hx1.size) HF.out).mono ?_
   rintro e w2 ⟨he, hnx2⟩
   have he2 := he.trans (ret_str HS.out)
   subst he2
   clear he
   have hxz := hx1.trans hnx2
   go_wp2
   go_ret2
   exact ⟨rfl, hxz⟩
end Go.Proofs.YtieoiailjjnnoaaGreatDoor
namespace Go.Proofs
set_option linter.unusedVariables false
set_option maxRecDepth 100000
set_option maxHeartbeats 16000000
open Go.Shelf
def Tryz.lays156_ren : Go.Shelf.Ren := ⟨fun | 156 => 177 | 165 => 213 | 166 => 174 | 169 => 175 | 240 => 211 | 241 => 231 | 276 => 229 | 277 => 244 | n => n, fun | 31 => 32 | 9 => 9 | 3 => 3 | 4 => 4 | 0 => 0 | 20 => 20 | 72 => 202 | 76 => 203 | 70 => 200 | 37 => 22 | 75 => 86 | 127 => 236 | 164 => 210 | 5 => 5 | 80 => 83 | n => n, fun | n => n⟩
theorem Tryz.lays156 : Go.Proofs.Lays.n156 Tryz.prog Tryz.lays156_ren := {
 mixed := by kernel_rfl
 f156 := Tryz.func177.trans (congrArg some (by kernel_rfl))
 f165 := Tryz.func213.trans (congrArg some (by kernel_rfl))
 f166 := Tryz.func174.trans (congrArg some (by kernel_rfl))
 f169 := Tryz.func175.trans (congrArg some (by kernel_rfl))
 f240 := Tryz.func211.trans (congrArg some (by kernel_rfl))
 f241 := Tryz.func231.trans (congrArg some (by kernel_rfl))
 f276 := Tryz.func229.trans (congrArg some (by kernel_rfl))
 f277 := Tryz.func244.trans (congrArg some (by kernel_rfl))
 t0 := Tryz.underlying0
 a0 := Tryz.isAgg0
 z0 := Tryz.sizeOf0
 v0 := Tryz.zeroValue0
 t3 := Tryz.underlying3
 a3 := Tryz.isAgg3
 z3 := Tryz.sizeOf3
 v3 := Tryz.zeroValue3
 t4 := Tryz.underlying4
 a4 := Tryz.isAgg4
 z4 := Tryz.sizeOf4
 v4 := Tryz.zeroValue4
 t9 := Tryz.underlying9
 a9 := Tryz.isAgg9
 z9 := Tryz.sizeOf9
 v9 := Tryz.zeroValue9
 t20 := Tryz.underlying20
 a20 := Tryz.isAgg20
 z20 := Tryz.sizeOf20
 v20 := Tryz.zeroValue20
 t31 := Tryz.underlying32
 a31 := Tryz.isAgg32
 z31 := Tryz.sizeOf32
 v31 := Tryz.zeroValue32
 t37 := Tryz.underlying22
 a37 := Tryz.isAgg22
 z37 := Tryz.sizeOf22
 v37 := Tryz.zeroValue22
 t70 := Tryz.underlying200
 a70 := Tryz.isAgg200
 z70 := Tryz.sizeOf200
 v70 := Tryz.zeroValue200
 t72 := Tryz.underlying202
 a72 := Tryz.isAgg202
 z72 := Tryz.sizeOf202
 v72 := Tryz.zeroValue202
 t75 := Tryz.underlying86
 a75 := Tryz.isAgg86
 z75 := Tryz.sizeOf86
 v75 := Tryz.zeroValue86
 t76 := Tryz.underlying203
 a76 := Tryz.isAgg203
 z76 := Tryz.sizeOf203
 v76 := Tryz.zeroValue203
 t127 := Tryz.underlying236
 a127 := Tryz.isAgg236
 z127 := Tryz.sizeOf236
 v127 := Tryz.zeroValue236
 t164 := Tryz.underlying210
 a164 := Tryz.isAgg210
 z164 := Tryz.sizeOf210
 v164 := Tryz.zeroValue210 }
def Tryz.laysM171_ren : Go.Shelf.Ren := ⟨fun | 171 => 176 | 243 => 212 | 246 => 230 | 283 => 240 | 284 => 241 | 285 => 242 | 286 => 243 | 129 => 251 | 317 => 250 | 318 => 252 | 319 => 253 | 320 => 254 | 337 => 256 | 338 => 257 | n => n, fun | 3 => 3 | 9 => 9 | 2 => 2 | 4 => 4 | 171 => 267 | 0 => 0 | 53 => 268 | 37 => 22 | 5 => 5 | 173 => 271 | 212 => 280 | 51 => 274 | 20 => 20 | 213 => 281 | 46 => 264 | 232 => 288 | 233 => 289 | n => n, fun | 17 => 4 | 18 => 7 | 19 => 8 | n => n⟩
theorem Tryz.laysM171 : Go.Proofs.LaysM.n171 Tryz.prog Tryz.laysM171_ren := {
 mixed := by kernel_rfl
 f129 := Tryz.func251.trans (congrArg some (by kernel_rfl))
 f171 := Tryz.func176.trans (congrArg some (by kernel_rfl))
 f243 := Tryz.func212.trans (congrArg some (by kernel_rfl))
 f246 := Tryz.func230.trans (congrArg some (by kernel_rfl))
 f283 := Tryz.func240.trans (congrArg some (by kernel_rfl))
 f284 := Tryz.func241.trans (congrArg some (by kernel_rfl))
 f285 := Tryz.func242.trans (congrArg some (by kernel_rfl))
 f286 := Tryz.func243.trans (congrArg some (by kernel_rfl))
 f317 := Tryz.func250.trans (congrArg some (by kernel_rfl))
 f318 := Tryz.func252.trans (congrArg some (by kernel_rfl))
 f319 := Tryz.func253.trans (congrArg some (by kernel_rfl))
 f320 := Tryz.func254.trans (congrArg some (by kernel_rfl))
 f337 := Tryz.func256.trans (congrArg some (by kernel_rfl))
 f338 := Tryz.func257.trans (congrArg some (by kernel_rfl))
 t0 := Tryz.underlying0
 a0 := Tryz.isAgg0
 z0 := Tryz.sizeOf0
 v0 := Tryz.zeroValue0
 t2 := Tryz.underlying2
 a2 := Tryz.isAgg2
 z2 := Tryz.sizeOf2
 v2 := Tryz.zeroValue2
 t3 := Tryz.underlying3
 a3 := Tryz.isAgg3
 z3 := Tryz.sizeOf3
 v3 := Tryz.zeroValue3
 t4 := Tryz.underlying4
 a4 := Tryz.isAgg4
 z4 := Tryz.sizeOf4
 v4 := Tryz.zeroValue4
 t5 := Tryz.underlying5
 a5 := Tryz.isAgg5
 z5 := Tryz.sizeOf5
 v5 := Tryz.zeroValue5
 t9 := Tryz.underlying9
 a9 := Tryz.isAgg9
 z9 := Tryz.sizeOf9
 v9 := Tryz.zeroValue9
 t20 := Tryz.underlying20
 a20 := Tryz.isAgg20
 z20 := Tryz.sizeOf20
 v20 := Tryz.zeroValue20
 t37 := Tryz.underlying22
 a37 := Tryz.isAgg22
 z37 := Tryz.sizeOf22
 v37 := Tryz.zeroValue22
 t46 := Tryz.underlying264
 a46 := Tryz.isAgg264
 z46 := Tryz.sizeOf264
 v46 := Tryz.zeroValue264
 t51 := Tryz.underlying274
 a51 := Tryz.isAgg274
 z51 := Tryz.sizeOf274
 v51 := Tryz.zeroValue274
 t53 := Tryz.underlying268
 a53 := Tryz.isAgg268
 z53 := Tryz.sizeOf268
 v53 := Tryz.zeroValue268
 t171 := Tryz.underlying267
 a171 := Tryz.isAgg267
 z171 := Tryz.sizeOf267
 v171 := Tryz.zeroValue267
 t173 := Tryz.underlying271
 a173 := Tryz.isAgg271
 z173 := Tryz.sizeOf271
 v173 := Tryz.zeroValue271
 t212 := Tryz.underlying280
 a212 := Tryz.isAgg280
 z212 := Tryz.sizeOf280
 v212 := Tryz.zeroValue280
 t213 := Tryz.underlying281
 a213 := Tryz.isAgg281
 z213 := Tryz.sizeOf281
 t232 := Tryz.underlying288
 a232 := Tryz.isAgg288
 z232 := Tryz.sizeOf288
 v232 := Tryz.zeroValue288
 t233 := Tryz.underlying289
 a233 := Tryz.isAgg289
 z233 := Tryz.sizeOf289
 v233 := Tryz.zeroValue289
 g17 := by kernel_rfl
 g18 := by kernel_rfl
 g19 := by kernel_rfl
 i0 := by kernel_rfl
 i2 := by kernel_rfl
 i3 := by kernel_rfl
 i4 := by kernel_rfl
 i5 := by kernel_rfl
 i9 := by kernel_rfl
 i20 := by kernel_rfl
 i37 := by kernel_rfl
 i46 := by kernel_rfl
 i51 := by kernel_rfl
 i53 := by kernel_rfl
 i171 := by kernel_rfl
 i173 := by kernel_rfl
 i212 := by kernel_rfl
 i232 := by kernel_rfl
 i233 := by kernel_rfl
 m17 := by kernel_rfl
 m18 := by kernel_rfl
 m19 := by kernel_rfl }
theorem Tryz.Builder_Extra_156 : Builder.Extra Tryz.prog Tryz.lays156_ren := {
 sizeBuilder := by kernel_rfl
 liesBuilder := by kernel_rfl
 t5 := Tryz.underlying5
 a5 := Tryz.isAgg5
 z5 := Tryz.sizeOf5
 v5 := Tryz.zeroValue5
 infoByte := by kernel_rfl
 cellsByte := by kernel_rfl
 sizeByte := by kernel_rfl
 neB5 := by decide }
end Go.Proofs
namespace Go.Proofs.YtieoiailjjnnoaaGreatDoor
set_option linter.unusedVariables false
set_option maxRecDepth 100000
set_option maxHeartbeats 16000000
open Go.RowKit
def Tab (w : World) : Prop := Lib.TabIs Tryz.prog w "internal/strconv.uint64pow10" .u64 Lib.pow10Tab
theorem Tab.nx {w w' : World} (h : Tab w) (hb : Nx w w') : Tab w' := by
 unfold Tab Lib.TabIs at h ⊢
 unfold World.var? at h ⊢
 cases hg : Tryz.prog.globalNamed "internal/strconv.uint64pow10" with
 | none => simp [hg] at h
 | some g =>
   simp only [hg, Option.bind_some] at h ⊢
   have hlt : g < w.heap.size := by
    rcases Nat.lt_or_ge g w.heap.size with h' | h'
    · exact h'
    · simp [Array.getElem?_eq_none h'] at h
   rw [hb.block g hlt]
   exact h
theorem digs_dec : ∀ n : Nat, Lib.decDigits n = digs n := by
 intro n
 induction n using Nat.strongRecOn with
 | _ n ih =>
   rw [Lib.decDigits, digs]
   by_cases h : n < 10
   · rw [dif_pos h, if_pos h]
   · rw [dif_neg h, if_neg h, ih (n / 10) (by omega)]
theorem itoa_digs (n : Nat) : Lib.itoa (n : Int) = digs n := by
 unfold Lib.itoa
 rw [if_neg (by omega), Int.toNat_natCast, digs_dec]
theorem itoa_c (n : Nat) (w : World) (hn : n ≤ 999999) (ht : Tab w) : Calls Tryz.prog 176 #[ii n] w fun e w' => e = .returned (.string ⟨(digs n).toArray⟩) ∧ Nx w w' := by
 refine (Any.strconv_Itoa Tryz.laysM171 (n : Int) (by omega) (by omega) w ht).mono ?_
 rintro e w' ⟨rfl, k, os, rfl⟩
 rw [itoa_digs]
 exact ⟨rfl, Lib.below_grow _ w nle k os⟩
theorem join_c (A : Option Addr) (c lo : Nat) (ws : List BA) (w : World) (h : Sl w lo A 9 ws.length (wdAt ws)) (hn : ws.length ≤ 4) (hc : ws.length ≤ c) (hw : ∀ k, (ws.getD k ByteArray.empty).size ≤ 13) :
 Calls Tryz.prog 177 #[.slice A ws.length c, .string ⟨#[44]⟩] w fun e w' => e = .returned (.string (jn ws)) ∧ Nx w w' := by
 rcases Nat.eq_zero_or_pos ws.length with hz | hp
 · have e0 : ws = [] := List.eq_nil_of_length_eq_zero hz
   subst e0
   refine (Any.strings_Join_none Tryz.lays156 Tryz.Builder_Extra_156 A c ⟨#[44]⟩ w).mono ?_
   rintro e w' ⟨rfl, rfl⟩
   exact ⟨rfl, Nx.refl _⟩
 · obtain ⟨g, rfl, _, ho⟩ := h hp
   have hj := jn_all hw
   refine (Any.strings_Join Tryz.lays156 Tryz.Builder_Extra_156 g 0 c ws ⟨#[44]⟩ w (fun j x hj => ?_) ho.lt (by omega) hc (by rw [ba_size] at hj; exact ntr hj (by omega))).mono ?_
   · have hjl : j < ws.length := (List.getElem?_eq_some_iff.1 hj).1
     rw [Nat.zero_add, ho.cell hjl]
     unfold wdAt
     rw [gdE, hj]; rfl
   · rintro e w' ⟨rfl, hb⟩
     exact ⟨rfl, hb⟩
theorem marksText_c (A2 : Option Addr) (c2 B : Nat) (ms : List Mrk) (w : World) (h2 : Mks w B A2 ms) (hB : B ≤ w.heap.size) (hms : msB ms = true) (ht : Tab w) :
 Calls Tryz.prog 105 #[.slice A2 ms.length c2] w fun e w' => e = .returned (.string (jn (wds ms))) ∧ Nx w w' := by
 have HM := qh hms
 have HT := qh ht
 have hl4 : ms.length ≤ 4 := (msB_yes hms).1
 clear hms ht
 obtain ⟨i0, hi0, hz0, hz1, hz2⟩ := info_parts infoS
 have hmk := fun W => run_make_rowN (P := Tryz.prog) 32 9 i0 _ Tryz.underlying32 hi0 hz0 .i64 .i64 ms.length ms.length nle (by rw [hz2]; omega) (by omega) W
 rw [hz1] at hmk
 have hmade := Own.made w #[Value.string ByteArray.empty] (ms.length * 1) 9
 rw [Nat.mul_one] at hmade
 go_enter Tryz.func105, Tryz.ntmps105
 go_wp2
 go_loopw [11] (fun i wr => ∃ k : Nat, k ≤ ms.length ∧ i = ii k ∧ Fill wr w.heap.size 9 ms.length k (wdAt (wds ms)) ∧ Nx w wr) (fun i _ => ms.length - (intOf i).toNat)
 case atStart => exact ⟨0, Nat.zero_le _, rfl, Fill.start hmade, (Nx.refl _).alloc _⟩
 case round =>
  obtain ⟨k, hk, rfl, hf, hnx⟩ := hrel
  by_cases hlt : k < ms.length
  · obtain ⟨bb, off, rfl, hb, k0, k1⟩ := (h2.below hnx hB).at_ hlt
    clear hmk hmade
    have hmq := msB_at HM.out hlt
    obtain ⟨⟨q0, q1'⟩, Hq'⟩ : ∃ q, Hid (ms.getD k mrZ = q) := ⟨_, rfl⟩
    rw [Hq'.out] at k0 k1 hmq
    obtain ⟨q1, Hq1⟩ : ∃ q : Nat, Hid (q1' = (q : Int)) := ⟨q1'.toNat, qh (by have := hmq.2.1; simp only at this; omega)⟩
    rw [Hq1.out] at k1 hmq Hq'
    obtain ⟨hs6, _, hq6⟩ := hmq
    simp only at k0 k1 hs6 hq6
    have Hq : Hid (ms.getD k mrZ = (q0, (q1 : Int))) := Hq'
    have hq7 : q1 ≤ 999999 := by omega
    have h61 : (⟨#[61]⟩ : BA).size = 1 := rfl
    clear Hq1 hq6
    go_wp2_with fail
    have bq := Box.new wr 136 #[.string q0, ii q1]
    have hnxq := hnx.alloc (.cells #[.string q0, ii q1] 136)
    have hfq := hf.nx ((Nx.refl wr).alloc (.cells #[.string q0, ii q1] 136))
    generalize wr.alloc (.cells #[.string q0, ii q1] 136) = wq at *
    clear k0 k1
    have k0 := bq.c0
    have k1 := bq.c1
    refine wp_lexA [ff, ff, ff, ff, ff, ff, ff, true, ff, ff, true] (fun w' => w'.cell? ⟨wr.heap.size, 0, none⟩ = some (.string q0) ∧ w'.cell? ⟨wr.heap.size, 1, none⟩ = some (ii q1)) (by exact ⟨k0, k1⟩) ?_
    iterate 4 (refine HL.tk ?_; (try simp only [Act.put, qqA, qqB, qqC]))
    refine HL.take (v := .string (q0 ++ ⟨#[61]⟩)) (by rfl) (fun W _ => addS_run rfl rfl rfl (by omega)) ?_
    try simp only [Act.put, qqA, qqB, qqC]
    iterate 2 (refine HL.tk ?_; (try simp only [Act.put, qqA, qqB, qqC]))
    refine hLc fun K hK => ?_
    go_simp
    refine (itoa_c q1 _ hq7 (HT.out.nx hnxq.drew)).mono ?_
    rintro e wd ⟨rfl, hnd⟩
    have hxd := hnxq.trans (Nx.drew_r hnd)
    have bd := bq.nx (Nx.drew_r hnd)
    have hfd := hfq.nx (Nx.drew_r hnd)
    have HW := qh (mkW_of q0 q1)
    obtain ⟨d, Hd⟩ : ∃ d : BA, Hid ((⟨(digs q1).toArray⟩ : BA) = d) := ⟨_, rfl⟩
    have hd6 : d.size ≤ 6 := by rw [← Hd.out]; have := (digs_len hq7).2; simp [ByteArray.size]; omega
    rw [Hd.out] at HW ⊢
    go_wp2_with fail
    refine hK.out _ _ (by exact ⟨bd.c0, bd.c1⟩) ?_
    clear hK K
    try simp only [Act.put, qqA, qqB, qqC]
    refine HL.take (v := .string ((q0 ++ ⟨#[61]⟩) ++ d)) (by rfl) (fun W _ => addS_run rfl rfl rfl (by rw [ByteArray.size_append]; omega)) ?_
    try simp only [Act.put, qqA, qqB, qqC]
    rw [HW.out]
    iterate 1 (refine HL.tk ?_; (try simp only [Act.put, qqA, qqB, qqC]))
    have hne : w.heap.size ≠ wr.heap.size := by have := hf.lt; omega
    obtain ⟨v0, hv0⟩ := hfd.some_ hlt
    have hfz := hfd.frozen k
    have hst := hfd.step (v := .string (mkW (q0, (q1 : Int)))) hlt (by unfold wdAt; rw [wds_at hlt, Hq.out])
    have hxs := hxd.setCell (p := ⟨w.heap.size, k, none⟩) nle (.string (mkW (q0, (q1 : Int))))
    have bs := bd.far (p := ⟨w.heap.size, k, none⟩) (Ne.symm hne) (.string (mkW (q0, (q1 : Int))))
    refine hLc fun K hK => ?_
    go_simp
    refine hK.out _ _ (by exact ⟨bs.c0, bs.c1⟩) ?_
    clear hK K
    try simp only [Act.put, qqA, qqB, qqC]
    refine HL.done ?_
    go_wp2
    go_roundw
    case rel => exact ⟨k + 1, by omega, by go_num, hst, hxs⟩
    case measure => simp [intOf]; omega
  · obtain rfl : k = ms.length := by omega
    have hS : Sl wr w.heap.size (some ⟨w.heap.size, 0, none⟩) 9 (wds ms).length (wdAt (wds ms)) := by rw [wds_len]; exact Sl.own hf.done nle
    have Hwl := qh (wds_len ms)
    clear hmk hmade
    go_wp2_with fail
    have hjc := join_c (some ⟨w.heap.size, 0, none⟩) ms.length w.heap.size (wds ms) wr hS (by rw [wds_len]; exact hl4) (by rw [wds_len]; omega) (wds_size HM.out)
    rw [wds_len] at hjc
    refine hjc.mono ?_
    rintro e w4 ⟨rfl, hnx4⟩
    go_wp2
    go_ret
    exact ⟨rfl, hnx.trans hnx4⟩
theorem superText_c (g b p t : Int) (A A2 : Option Addr) (c c2 B : Nat) (xs : List Int) (ms : List Mrk) (w : World) (h : Ins w B A xs) (h2 : Mks w B A2 ms) (hB : B ≤ w.heap.size) (hok : superB g b p t xs ms = true) (ht : Tab w) :
 Calls Tryz.prog 45 #[.agg #[ii g, ii b, ii p, ii t, .slice A xs.length c, .slice A2 ms.length c2]] w fun e w' => e = .returned (.string (sealS (numsS (supN g b p t xs) ++ ⟨#[124]⟩ ++ jn (wds ms)))) ∧ Nx w w' := by
 have HK := qh hok
 have HT := qh ht
 have hl4 : ms.length ≤ 4 := (msB_yes (superB_yes hok).2.2.2.2.2).1
 have hl20 : xs.length ≤ 20 := (tbB_yes (superB_yes hok).2.2.2.2.1).1
 have HM := qh (superB_yes hok).2.2.2.2.2
 clear hok ht
 go_enter Tryz.func45, Tryz.ntmps45
 have b0 := Box.new w 26 #[ii g, ii b, ii p, ii t, .slice A xs.length c, .slice A2 ms.length c2]
 have hx0 := (Nx.refl w).alloc (.cells #[ii g, ii b, ii p, ii t, .slice A xs.length c, .slice A2 ms.length c2] 26)
 have b1 := b0.alloc (.cells #[ii g, ii b, ii p, ii t] 3)
 have hx1 := hx0.alloc (.cells #[ii g, ii b, ii p, ii t] 3)
 have hR1 := RowI.new4 (w.alloc (.cells #[ii g, ii b, ii p, ii t, .slice A xs.length c, .slice A2 ms.length c2] 26)) (B := w.heap.size) g b p t (by simp)
 simp only [World.size_alloc] at hR1
 have HX1 := qh hx1
 have HB1 := qh b1
 have HR1 := qh hR1
 clear hx1 b1 hR1 hx0 b0
 go_wp2_with (at_builtin; refine wpList_app4I rfl _ _ rfl w.heap.size (w.heap.size + 1) A c [g, b, p, t] xs rfl rfl rfl HR1.out (h.below HX1.out hB) (by omega) HX1.out.size ?_)
 intro A' k' w2 hR2' hG2
 have hx2 := hG2.nx w HX1.out nle
 have b2 := hG2.box _ _ _ (by decide) HB1.out
 clear HX1 HB1 HR1 hG2
 have hR2 : RowI w2 w.heap.size (.slice A' (xs.length + 4) k') (supL g b p t xs) := hR2'
 clear hR2'
 obtain ⟨A5, c5', he5, hS5⟩ := hR2.sl
 clear hR2
 rw [supL_len] at he5 hS5
 injection he5 with e5 _ e6
 subst e5 e6
 have hrow := supN_row HK.out (supN_len g b p t xs).symm hS5.row
 have Hl := qh (supN_len g b p t xs)
 rw [← Hl.out]
 go_wp2_with fail
 obtain ⟨nS, HnS⟩ : ∃ s, Hid (numsS (supN g b p t xs) = s) := ⟨_, rfl⟩
 obtain ⟨jS, HjS⟩ : ∃ s, Hid (jn (wds ms) = s) := ⟨_, rfl⟩
 have hns : nS.size ≤ 144 := by rw [← HnS.out, numsS_size, Hl.out]; omega
 have hjs : jS.size ≤ 56 := by rw [← HjS.out]; have := jn_all (wds_size HM.out); rw [wds_len] at this; omega
 have h124 : (⟨#[124]⟩ : BA).size = 1 := rfl
 have k5 := b2.d6.2.2.2.2.2
 refine wp_planA (.t 0 (.t 3 (.t 4 (.c 1 (.t 2 (.c 5 (.t 6 (.c 7 (.t 8 .e))))))))) (fun w' => w'.cell? ⟨w.heap.size, 5, none⟩ = some (.slice A2 ms.length c2)) (by exact k5) ?_
 simp only [psOf, List.getD_cons_zero, List.getD_cons_succ]
 iterate 3 (refine HP.tk ?_; (try simp only [Act.put, qqA, qqB, qqC]))
 refine hPc fun K hK => ?_
 go_simp
 refine (numbersText_c A' _ _ (supN g b p t xs) _ (hrow.below (Nx.refl w2).drew nle) nle (supN_all HK.out) (by have := Hl.out; omega) (by have := Hl.out; omega)).mono ?_
 rintro e w3 ⟨he, hnx3⟩
 have he' := he.trans (ret_str HnS.out)
 subst he'
 clear he
 have b3 := b2.nx (Nx.drew_r hnx3)
 have hx3 := hx2.trans (Nx.drew_r hnx3)
 go_wp2_with fail
 refine hK.out _ _ (by exact b3.d6.2.2.2.2.2) ?_
 clear hK K
 try simp only [Act.put, qqA, qqB, qqC]
 refine HP.take (v := .string (nS ++ ⟨#[124]⟩)) (by rfl) (fun W _ => addS_run rfl rfl rfl (by omega)) ?_
 try simp only [Act.put, qqA, qqB, qqC]
 refine hPc fun K hK => ?_
 go_simp
 refine (marksText_c A2 c2 B ms _ (h2.below hx3 hB) (ntr hB hx3.size) HM.out (HT.out.nx hx3)).mono ?_
 rintro e w4 ⟨he, hnx4⟩
 have he' := he.trans (ret_str HjS.out)
 subst he'
 clear he
 have b4 := b3.nx hnx4
 have hx4 := hx3.trans hnx4
 go_wp2_with fail
 refine hK.out _ _ (by exact b4.d6.2.2.2.2.2) ?_
 clear hK K
 try simp only [Act.put, qqA, qqB, qqC]
 refine HP.take (v := .string (nS ++ ⟨#[124]⟩ ++ jS)) (by rfl) (fun W _ => addS_run rfl rfl rfl (by rw [ByteArray.size_append]; omega)) ?_
 try simp only [Act.put, qqA, qqB, qqC]
 refine hPc fun K hK => ?_
 go_simp
 have HZ := qh (show sealS (nS ++ ⟨#[124]⟩ ++ jS) = sealS (numsS (supN g b p t xs) ++ ⟨#[124]⟩ ++ jn (wds ms)) by rw [HnS.out, HjS.out])
 refine (sealed_c _ _ (by rw [ByteArray.size_append, ByteArray.size_append]; omega)).mono ?_
 rintro e w5 ⟨he, hnx5⟩
 have he' := he.trans (ret_str HZ.out)
 subst he'
 clear he
 have b5 := b4.nx hnx5
 have hx5 := hx4.trans hnx5
 go_wp2_with fail
 refine hK.out _ _ (by exact b5.d6.2.2.2.2.2) ?_
 clear hK K
 try simp only [Act.put, qqA, qqB, qqC]
 iterate 1 (refine HP.tk ?_; (try simp only [Act.put, qqA, qqB, qqC]))
 refine HP.done ?_
 go_wp2
 go_ret
 exact ⟨rfl, hx5⟩
theorem implSuperText_c (g b p t : Int) (A A2 : Option Addr) (c c2 B : Nat) (xs : List Int) (ms : List Mrk) (w : World) (h : Ins w B A xs) (h2 : Mks w B A2 ms) (hB : B ≤ w.heap.size) (hn : xs.length ≤ 1048576) (hn2 : ms.length ≤ 1048576) (hc : xs.length ≤ c) (hm : AllM ms) (ht : Tab w) :
 Calls Tryz.prog 9 #[.agg #[ii g, ii b, ii p, ii t, .slice A xs.length c, .slice A2 ms.length c2]] w fun e w' => e = .returned (.tuple #[.string (supS g b p t xs ms), ii (codeB (superB g b p t xs ms) 1)]) ∧ Nx w w' := by
 cases hf : superB g b p t xs ms with
 | false =>
   have HF := qh hf
   have HS := qh (show (⟨#[]⟩ : BA) = supS g b p t xs ms by unfold supS; rw [hf]; rfl)
   clear hf
   have hx0 := (Nx.refl w).alloc (.cells #[ii g, ii b, ii p, ii t, .slice A xs.length c, .slice A2 ms.length c2] 26)
   go_enter Tryz.func9, Tryz.ntmps9
   go_wp2_with fail
   refine (superRight_c g b p t A A2 c c2 B xs ms _ (h.below hx0 hB) (h2.below hx0 hB) (ntr hB hx0.size) hn hn2 hc hm).mono ?_
   rintro e w1 ⟨rfl, hnx1⟩
   rw [HF.out]
   go_wp2
   go_ret2
   exact ⟨ret_tup HS.out rfl, hx0.trans hnx1⟩
 | true =>
   have HF := qh hf
   have HS := qh (show sealS (numsS (supN g b p t xs) ++ ⟨#[124]⟩ ++ jn (wds ms)) = supS g b p t xs ms by unfold supS; rw [hf]; rfl)
   clear hf
   go_enter Tryz.func9, Tryz.ntmps9
   go_wp2_with fail
   have b0 := Box.new w 26 #[ii g, ii b, ii p, ii t, .slice A xs.length c, .slice A2 ms.length c2]
   have hx0 := (Nx.refl w).alloc (.cells #[ii g, ii b, ii p, ii t, .slice A xs.length c, .slice A2 ms.length c2] 26)
   generalize w.alloc (.cells #[ii g, ii b, ii p, ii t, .slice A xs.length c, .slice A2 ms.length c2] 26) = W at *
   refine (superRight_c g b p t A A2 c c2 B xs ms _ (h.below hx0 hB) (h2.below hx0 hB) (ntr hB hx0.size) hn hn2 hc hm).mono ?_
   rintro e w1 ⟨rfl, hnx1⟩
   rw [HF.out]
   obtain ⟨c0, c1, c2, c3, c4, c5⟩ := (b0.nx hnx1).d6
   have hx1 := hx0.trans hnx1
   go_wp2_with fail
   refine (superText_c g b p t A A2 _ _ B xs ms _ (h.below hx1 hB) (h2.below hx1 hB) (ntr hB hx1.size) HF.out (ht.nx hx1)).mono ?_
   rintro e w2 ⟨he, hnx2⟩
   have he2 := he.trans (ret_str HS.out)
   subst he2
   clear he
   have hxz := hx1.trans hnx2
   go_wp2
   go_ret2
   exact ⟨rfl, hxz⟩
theorem info_str : (Tryz.prog.info? 9).map (fun i => (i.zero, i.size, i.bytes)) = some (some (.string ByteArray.empty), 1, 16) := by kernel_rfl
theorem info_wr : (Tryz.prog.info? 102).map (fun i => (i.zero, i.size, i.bytes)) = some (some (.agg #[ii 0, .string ByteArray.empty]), 2, 24) := by kernel_rfl
theorem strAt_one (ss : List BA) (k : Nat) : (strAt ss k).oneCell' = true := rfl
theorem wrAt_one (ws : List (Int × BA)) (k : Nat) : (wrAt ws k).oneCell' = true := by unfold wrAt; split <;> rfl
theorem copyListS_c (A : Option Addr) (n c B : Nat) (ss : List BA) (w : World) (h : Strs w B A n ss) (hB : B ≤ w.heap.size) (hn : n ≤ 1048576) :
 Calls Tryz.prog 126 #[.slice A n c] w (RetS w ss) := by
 rcases Nat.eq_zero_or_pos n with hz | hp
 · subst hz
   have HF := qh h.1
   go_enter Tryz.func126, Tryz.ntmps126
   go_wp2
   go_ret
   exact ⟨none, 0, 0, rfl, ⟨HF.out, fun h => absurd h (by omega)⟩, Nx.refl _⟩
 have h0 : ((n : Int) == 0) = false := beq_eq_false_iff_ne.2 (by omega)
 obtain ⟨i0, hi0, hz0, hz1, hz2⟩ := info_parts info_str
 have hmk := fun W => run_make_rowN (P := Tryz.prog) 32 9 i0 _ Tryz.underlying32 hi0 hz0 .i64 .i64 n n nle (by rw [hz2]; omega) (by omega) W
 rw [hz1] at hmk
 have hmade := Own.made w #[Value.string ByteArray.empty] n 9
 have hnx := (Nx.refl w).alloc (.cells (madeCells #[Value.string ByteArray.empty] n) 9)
 obtain ⟨w1, hrun, ho1, hnx1, _, _⟩ := run_copy_new (P := Tryz.prog) (w.alloc (.cells (madeCells #[Value.string ByteArray.empty] n) 9)) 32 32 3 9 i0 1 Tryz.underlying32 hi0 hz1
  w.heap.size n n A n c B n 9 (strAt ss) _ hmade (by omega) nle (by rw [Nat.mul_one]; exact (h.below hnx hB).2) (strAt_one ss)
 have hx1 := hnx1 w hnx nle
 have HO := qh (ho1.congr (f' := strAt ss) (fun k hk => by rw [if_pos (by omega)]))
 clear ho1 hnx1 hmade
 go_enter Tryz.func126, Tryz.ntmps126
 go_wp2
 go_ret
 exact RetS.mk_own h.1 nle (by have := HO.out; rw [← h.1] at this; exact this) hx1
theorem copyListW_c (A : Option Addr) (n c B : Nat) (ws : List (Int × BA)) (w : World) (h : Wrs w B A n ws) (hB : B ≤ w.heap.size) (hn : n ≤ 1048576) :
 Calls Tryz.prog 127 #[.slice A n c] w (RetW w ws) := by
 rcases Nat.eq_zero_or_pos n with hz | hp
 · subst hz
   have HF := qh h.1
   go_enter Tryz.func127, Tryz.ntmps127
   go_wp2
   go_ret
   exact ⟨none, 0, 0, rfl, ⟨HF.out, fun h => absurd h (by omega)⟩, Nx.refl _⟩
 have h0 : ((n : Int) == 0) = false := beq_eq_false_iff_ne.2 (by omega)
 obtain ⟨i0, hi0, hz0, hz1, hz2⟩ := info_parts info_wr
 have hmk := fun W => run_make_rowN (P := Tryz.prog) 33 102 i0 _ Tryz.underlying33 hi0 hz0 .i64 .i64 n n nle (by rw [hz2]; omega) (by omega) W
 rw [hz1] at hmk
 have hmade := Own.made w #[Value.int .i64 0, Value.string ByteArray.empty] (n * 2) 102
 have hnx := (Nx.refl w).alloc (.cells (madeCells #[Value.int .i64 0, Value.string ByteArray.empty] (n * 2)) 102)
 obtain ⟨w1, hrun, ho1, hnx1, _, _⟩ := run_copy_new (P := Tryz.prog) (w.alloc (.cells (madeCells #[Value.int .i64 0, Value.string ByteArray.empty] (n * 2)) 102)) 33 33 3 102 i0 2 Tryz.underlying33 hi0 hz1
  w.heap.size n n A n c B (n * 2) 102 (wrAt ws) _ hmade nle nle (h.below hnx hB).2 (wrAt_one ws)
 have hx1 := hnx1 w hnx nle
 have HO := qh (ho1.congr (f' := wrAt ws) (fun k hk => by rw [if_pos (by omega)]))
 clear ho1 hnx1 hmade
 go_enter Tryz.func127, Tryz.ntmps127
 go_wp2
 go_ret
 exact RetW.mk_own h.1 nle (by have := HO.out; rw [← h.1] at this; exact this) hx1
theorem copied_c (A A2 : Option Addr) (n c n2 c2 B : Nat) (ss : List BA) (ws : List (Int × BA)) (w : World) (h : Strs w B A n ss) (h2 : Wrs w B A2 n2 ws) (hB : B ≤ w.heap.size) (hn : n ≤ 1048576) (hn2 : n2 ≤ 1048576) :
 Calls Tryz.prog 55 #[.agg #[.slice A n c, .slice A2 n2 c2]] w (RetDisk w ss ws) := by
 go_enter Tryz.func55, Tryz.ntmps55
 go_wp2_with fail
 have b0 := (Box.new w 35 #[.slice A n c, .slice A2 n2 c2]).alloc (.cells #[nsl, nsl] 35)
 have r0 := Box.new (w.alloc (.cells #[.slice A n c, .slice A2 n2 c2] 35)) 35 #[nsl, nsl]
 have hnx0 := ((Nx.refl w).alloc (.cells #[.slice A n c, .slice A2 n2 c2] 35)).alloc (.cells #[nsl, nsl] 35)
 simp only [World.size_alloc] at r0
 generalize (w.alloc (.cells #[.slice A n c, .slice A2 n2 c2] 35)).alloc (.cells #[nsl, nsl] 35) = W at *
 have rd : Nx w W.drew := hnx0.drew
 have b1 : Box W.drew w.heap.size 35 #[.slice A n c, .slice A2 n2 c2] := b0
 have r1 : Box W.drew (w.heap.size + 1) 35 #[nsl, nsl] := r0
 have c0 := b1.c0
 have c1 := b1.c1
 go_region_held3 (fun w' => w'.cell? ⟨w.heap.size, 0, none⟩ = some (.slice A n c) ∧ w'.cell? ⟨w.heap.size, 1, none⟩ = some (.slice A2 n2 c2)) (first | exact ⟨c0, c1⟩ | exact ⟨k0, k1⟩ | exact ⟨l0, l1⟩ | exact ⟨m0, m1⟩)
  (first
   | (go_at_call 126; refine (copyListS_c A n c B ss _ (h.below rd hB) (ntr hB rd.size) hn).mono ?_; rintro e u1 ⟨A3, n3, c3, rfl, hS3, hx3⟩; have k0 := (b1.nx hx3).c0; have k1 := (b1.nx hx3).c1; have rd3 := rd.trans hx3)
   | (go_at_call 127; refine (copyListW_c A2 n2 c2 B ws _ (h2.below rd3 hB) (ntr hB rd3.size) hn2).mono ?_; rintro e u2 ⟨A4, n4, c4, rfl, hW4, hx4⟩; have l0 := ((b1.nx hx3).nx hx4).c0; have l1 := ((b1.nx hx3).nx hx4).c1; have r2 := (r1.nx hx3).nx hx4; have s0 := r2.c0; have s1 := r2.c1; have f0 := r2.frozen 0; have f1 := r2.frozen 1; have m0 := (((((b1.nx hx3).nx hx4).far (p := ⟨w.heap.size + 1, 0, none⟩) (by simp) (.slice A3 n3 c3))).far (p := ⟨w.heap.size + 1, 1, none⟩) (by simp) (.slice A4 n4 c4)).c0; have m1 := (((((b1.nx hx3).nx hx4).far (p := ⟨w.heap.size + 1, 0, none⟩) (by simp) (.slice A3 n3 c3))).far (p := ⟨w.heap.size + 1, 1, none⟩) (by simp) (.slice A4 n4 c4)).c1))
 have hsz := r1.lt
 have hsz1 := hx3.size
 obtain ⟨q0, q1, hSf, hWf, hxf⟩ := fin_box c3 c4 r2 (hS3.nx hx4) hW4 hsz (by omega) (rd3.trans hx4) (by omega)
 clear m0 m1 l0 l1 k0 k1 c0 c1 s0 s1 f0 f1
 generalize (u2.setCell ⟨w.heap.size + 1, 0, none⟩ (.slice A3 n3 c3)).setCell ⟨w.heap.size + 1, 1, none⟩ (.slice A4 n4 c4) = Wf at *
 go_wp2
 exact bodyPost_ret (v := .agg #[.slice A3 n3 c3, .slice A4 n4 c4]) (by simp [results, Tryz.results55, go_sem, q0, q1]) rfl ⟨A3, n3, c3, A4, n4, c4, rfl, hSf, hWf, hxf⟩
theorem wrAt_snoc (ws : List (Int × BA)) (x : Int) (t : BA) (k : Nat) (hk : k < (ws.length + 1) * 2) :
 wrAt (ws ++ [(x, t)]) k = if k = ws.length * 2 + 1 then .string t else if k = ws.length * 2 then ii x else wrAt ws k := by
 have hlast : (ws ++ [(x, t)]).getD ws.length (0, ByteArray.empty) = (x, t) := by
  rw [gdE, List.getElem?_append_right nle]; simp
 by_cases h1 : k = ws.length * 2 + 1
 · subst h1; rw [if_pos rfl, wrAt_odd, hlast]
 · rw [if_neg h1]
   by_cases h2 : k = ws.length * 2
   · subst h2; rw [if_pos rfl, wrAt_even, hlast]
   · rw [if_neg h2]
     unfold wrAt
     have hd : (ws ++ [(x, t)]).getD (k / 2) (0, ByteArray.empty) = ws.getD (k / 2) (0, ByteArray.empty) := by
      rw [gdE, gdE, List.getElem?_append_left (by omega)]
     rw [hd]
theorem written_c (A A2 : Option Addr) (n c n2 c2 B : Nat) (ss : List BA) (ws : List (Int × BA)) (x : Int) (t : BA) (w : World) (h : Strs w B A n ss) (h2 : Wrs w B A2 n2 ws) (hB : B ≤ w.heap.size) (hn : n ≤ 1048575) (hn2 : n2 ≤ 1048575) :
 Calls Tryz.prog 125 #[.agg #[.slice A n c, .slice A2 n2 c2], ii x, .string t] w (RetDisk w ss (ws ++ [(x, t)])) := by
 obtain ⟨i0, hi0, hz0, hz1, hz2⟩ := info_parts info_wr
 have hmk := fun W => run_make_rowN (P := Tryz.prog) 33 102 i0 _ Tryz.underlying33 hi0 hz0 .i64 .i64 (n2 + 1) (n2 + 1) nle (by rw [hz2]; omega) (by omega) W
 rw [hz1] at hmk
 have ec : ((n2 + 1 : Nat) : Int) = (n2 : Int) + 1 := by omega
 rw [ec] at hmk
 clear ec
 go_enter Tryz.func125, Tryz.ntmps125
 go_wp2
 have b0 := ((Box.new w 35 #[.slice A n c, .slice A2 n2 c2]).alloc (.cells #[nsl, nsl] 35)).alloc (.cells (madeCells #[Value.int .i64 0, Value.string ByteArray.empty] ((n2 + 1) * 2)) 102)
 have r0 := (Box.new (w.alloc (.cells #[.slice A n c, .slice A2 n2 c2] 35)) 35 #[nsl, nsl]).alloc (.cells (madeCells #[Value.int .i64 0, Value.string ByteArray.empty] ((n2 + 1) * 2)) 102)
 have m0 := Own.made ((w.alloc (.cells #[.slice A n c, .slice A2 n2 c2] 35)).alloc (.cells #[nsl, nsl] 35)) #[Value.int .i64 0, Value.string ByteArray.empty] ((n2 + 1) * 2) 102
 have hnx0 := (((Nx.refl w).alloc (.cells #[.slice A n c, .slice A2 n2 c2] 35)).alloc (.cells #[nsl, nsl] 35)).alloc (.cells (madeCells #[Value.int .i64 0, Value.string ByteArray.empty] ((n2 + 1) * 2)) 102)
 simp only [World.size_alloc] at r0 m0
 generalize (((w.alloc (.cells #[.slice A n c, .slice A2 n2 c2] 35)).alloc (.cells #[nsl, nsl] 35)).alloc (.cells (madeCells #[Value.int .i64 0, Value.string ByteArray.empty] ((n2 + 1) * 2)) 102)) = W at *
 obtain ⟨w1, hrun, ho1, hnx1, hsz1, hoth⟩ := run_copy_new (P := Tryz.prog) W 33 33 3 102 i0 2 Tryz.underlying33 hi0 hz1
  (w.heap.size + 1 + 1) (n2 + 1) (n2 + 1) A2 n2 c2 B ((n2 + 1) * 2) 102 (wrAt ws) _ m0 nle (by omega) (h2.below hnx0 hB).2 (wrAt_one ws)
 rw [hrun]
 have b1 : Box w1 w.heap.size 35 #[.slice A n c, .slice A2 n2 c2] := (hoth _ (by omega)).trans b0
 have r1 : Box w1 (w.heap.size + 1) 35 #[nsl, nsl] := (hoth _ (by omega)).trans r0
 have hx1 := hnx1 w hnx0 (by omega)
 clear hrun hmk hnx0 hnx1 b0 r0 hoth
 have HZ := qh hsz1
 have mlt := m0.lt
 clear m0 hsz1
 have c0 := b1.c0
 have c1 := b1.c1
 have e0 := ho1.cell (i := n2 * 2) (by omega)
 have e1 := ho1.cell (i := n2 * 2 + 1) (by omega)
 have g0 := ho1.frozen (n2 * 2)
 have g1 := ho1.frozen (n2 * 2 + 1)
 obtain ⟨v0, hv0⟩ : ∃ v, w1.cell? ⟨w.heap.size + 1 + 1, n2 * 2, none⟩ = some v := ⟨_, e0⟩
 obtain ⟨v1, hv1⟩ : ∃ v, w1.cell? ⟨w.heap.size + 1 + 1, n2 * 2 + 1, none⟩ = some v := ⟨_, e1⟩
 clear e0 e1
 go_wp2_with fail
 have ho2 := (ho1.set (k := n2 * 2) (by omega) (ii x)).set (k := n2 * 2 + 1) (by omega) (.string t)
 have ho3 : OwnW ((w1.setCell ⟨w.heap.size + 1 + 1, n2 * 2, none⟩ (ii x)).setCell ⟨w.heap.size + 1 + 1, n2 * 2 + 1, none⟩ (.string t)) (w.heap.size + 1 + 1) (ws ++ [(x, t)]) := by
  unfold OwnW
  rw [List.length_append, h2.1]
  refine ho2.congr fun k hk => ?_
  rw [wrAt_snoc ws x t k (by rw [h2.1]; exact hk), h2.1]
  by_cases k1 : k = n2 * 2 + 1
  · rw [if_pos k1, if_pos k1]
  · rw [if_neg k1, if_neg k1]
    by_cases k2 : k = n2 * 2
    · rw [if_pos k2, if_pos k2]
    · rw [if_neg k2, if_neg k2, if_pos (by omega)]
 have b2 := (b1.far (p := ⟨w.heap.size + 1 + 1, n2 * 2, none⟩) (by simp; omega) (ii x)).far (p := ⟨w.heap.size + 1 + 1, n2 * 2 + 1, none⟩) (by simp; omega) (.string t)
 have r2 := (r1.far (p := ⟨w.heap.size + 1 + 1, n2 * 2, none⟩) (by simp) (ii x)).far (p := ⟨w.heap.size + 1 + 1, n2 * 2 + 1, none⟩) (by simp) (.string t)
 have hx2 := (hx1.setCell (p := ⟨w.heap.size + 1 + 1, n2 * 2, none⟩) (by simp; omega) (ii x)).setCell (p := ⟨w.heap.size + 1 + 1, n2 * 2 + 1, none⟩) (by simp; omega) (.string t)
 generalize (w1.setCell ⟨w.heap.size + 1 + 1, n2 * 2, none⟩ (ii x)).setCell ⟨w.heap.size + 1 + 1, n2 * 2 + 1, none⟩ (.string t) = w2 at *
 clear ho1 ho2 b1 r1 hx1 hv0 hv1 g0 g1 c0 c1
 refine (copyListS_c A n c B ss _ (h.below hx2 hB) (ntr hB hx2.size) (by omega)).mono ?_
 rintro e w3 ⟨A3, n3, c3, rfl, hS3, hx3⟩
 have r3 := r2.nx hx3
 have ho4 := Own.nx ho3 hx3
 have s0 := r3.c0
 have s1 := r3.c1
 have f0 := r3.frozen 0
 have f1 := r3.frozen 1
 have hlt3 := Own.lt ho3
 have hW4 : SlW w3 (w.heap.size + 1 + 1) (some ⟨w.heap.size + 1 + 1, 0, none⟩) (n2 + 1) (ws ++ [(x, t)]) := ⟨by rw [List.length_append, h2.1]; rfl, fun _ => ⟨_, rfl, Nat.le_refl _, ho4⟩⟩
 obtain ⟨q0, q1, hSf, hWf, hxf⟩ := fin_box c3 (n2 + 1) r3 hS3 hW4 (by omega) (by omega) (hx2.trans hx3) (by omega)
 go_wp2
 generalize (w3.setCell ⟨w.heap.size + 1, 0, none⟩ (.slice A3 n3 c3)).setCell ⟨w.heap.size + 1, 1, none⟩ (.slice (some ⟨w.heap.size + 1 + 1, 0, none⟩) (n2 + 1) (n2 + 1)) = Wf at *
 exact bodyPost_ret (v := .agg #[.slice A3 n3 c3, .slice (some ⟨w.heap.size + 1 + 1, 0, none⟩) (n2 + 1) (n2 + 1)]) (by simp [results, Tryz.results125, go_sem, q0, q1]) rfl ⟨A3, n3, c3, _, n2 + 1, n2 + 1, rfl, hSf, hWf, hxf⟩
end Go.Proofs.YtieoiailjjnnoaaGreatDoor
