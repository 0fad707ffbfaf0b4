/-
  Texts of the proof, put together in their order: Stm, Shf, Sti, Fmk.
  Conditions: those of each.
-/
import Derived.Test.YtehahodomfbpjaaGreatDoorMm15
import Derived.Deep.AppendLies
import Derived.Shelf.Strings.OnBuilder
import Derived.Shelf.Strconv.Itoa3
import Derived.Shelf.LaysM
import Derived.Test.YtehahodomfbpjaaGreatDoorProg
import Derived.Lib.AppendIntMem
/- The model's text of a super: l00Join, l04Text, SuperText. Conditions: what is read can be read. -/
namespace Go.Proofs.YtehahodomfbpjaaGreatDoor
set_option linter.unusedVariables false
set_option maxRecDepth 100000
open Go.RowKit

theorem jn_step0 {ws : List ByteArray} {s x : ByteArray} (h : s = jn (ws.take 0)) (hk : 0 < ws.length) (hx : ws.getD 0 ByteArray.empty = x) : s ++ x = jn (ws.take (0 + 1)) := by
  rw [jn_take hk, List.take_zero, List.nil_append, jn_one, hx, h, List.take_zero, jn_nil]
  exact ba_ext_ (by rw [ba_app]; rfl)
where ba_ext_ {a b : ByteArray} (h : a.data.toList = b.data.toList) : a = b := by rw [ba_eq h]
theorem jn_stepS {ws : List ByteArray} {s x : ByteArray} {k : Nat} (h : s = jn (ws.take k)) (hp : 0 < k) (hk : k < ws.length) (hx : ws.getD k ByteArray.empty = x) : s ++ ⟨#[44]⟩ ++ x = jn (ws.take (k + 1)) := by
  rw [jn_take hk, jn_snoc (by rw [List.length_take]; omega), hx, h]
set_option maxHeartbeats 1000000 in
theorem l00Join_c (A : Option Addr) (c B : Nat) (ws : List ByteArray) (w : World) (h : Row w B A ws.length (wdAt ws)) (hB : B ≤ w.heap.size) (hn : ws.length ≤ 4) (hw : ∀ k, (ws.getD k ByteArray.empty).size ≤ 13) :
    Calls Tryz.prog 194 #[.slice A ws.length c, .string ⟨#[44]⟩] w fun e w' => e = .returned (.string (jn ws)) ∧ Nx w w' := by
  go_enter Tryz.func194, Tryz.ntmps194
  go_wp2
  go_loopw [5, 6] (fun o i wr => ∃ (k : Nat) (s : ByteArray), k ≤ ws.length ∧ i = .int .i64 k ∧ o = .string s ∧ s.size ≤ 56 ∧ Hid (s = jn (ws.take k)) ∧ Nx w wr) (fun _ i _ => ws.length - (intOf i).toNat)
  case atStart => exact ⟨0, ⟨#[]⟩, Nat.zero_le _, rfl, rfl, by decide, Lib.hid rfl, Nx.refl _⟩
  case round =>
    obtain ⟨k, s, hk, rfl, rfl, hs, HS, hnx⟩ := hrel
    by_cases hlt : k < ws.length
    · obtain ⟨b, off, rfl, hb, hc0⟩ := (h.below hnx hB) (by omega)
      have hc := hc0 k hlt
      clear hc0
      unfold wdAt at hc
      have hx13 := hw k
      have HJ := Lib.hid (jn_size (k + 1) ws hw (by omega))
      obtain ⟨x, Hx⟩ : ∃ x, Hid (ws.getD k ByteArray.empty = x) := ⟨_, rfl⟩
      rw [Hx.out] at hc hx13
      rcases Nat.eq_zero_or_pos k with hz | hp
      · subst hz
        have HF := Lib.hid (jn_step0 HS.out hlt Hx.out)
        rw [← HF.out] at HJ
        rw [Nat.add_zero] at hc
        go_wp2
        go_roundw
        case rel => exact ⟨0 + 1, _, by omega, by go_num, rfl, by have := HJ.out; omega, HF, hnx⟩
        case measure => simp [intOf]; omega
      · have hd : decide (0 < (k : Int)) = true := by simp; omega
        have HF := Lib.hid (jn_stepS HS.out hp hlt Hx.out)
        rw [← HF.out] at HJ
        have h44 : (⟨#[44]⟩ : ByteArray).size = 1 := rfl
        go_wp2
        go_roundw
        case rel => exact ⟨k + 1, _, by omega, by go_num, rfl, by have := HJ.out; omega, HF, hnx⟩
        case measure => simp [intOf]; omega
    · obtain rfl : k = ws.length := by omega
      have HR := Lib.hid (show s = jn ws by rw [HS.out, List.take_length])
      go_wp2
      go_ret
      exact ⟨ret_str HR.out, hnx⟩

theorem addS_run {o : Oper} {a : Act} {x y : Operand} {s r : ByteArray} {W : World} (ho : o.op = .binOp .add 9 x y 9) (hx : a.eval x = .string s) (hy : a.eval y = .string r) (h : s.size + r.size ≤ 1000000) :
    (execOp a.eval o).run Tryz.prog W = .ok (.value (.string (s ++ r))) W := by
  have h1 := run_string_add_sum (P := Tryz.prog) W s r (by omega)
  unfold execOp
  simp only [ho, hx, hy, binOp_string_add]
  simp [h1, go_sem]
theorem mkW_of (nm : ByteArray) (q : Nat) : nm ++ ⟨#[61]⟩ ++ ⟨(digs q).toArray⟩ = mkW (nm, (q : Int)) := by
  unfold mkW; simp
theorem wV_succ {ms : List Mrk} {k : Nat} (hk : k < ms.length) {q : Mrk} (hq : ms.getD k mrZ = q) : wV (wds (ms.take (k + 1))) = wV (wds (ms.take k)) ++ [.string (mkW q)] := by
  rw [← wds_take, ← wds_take, jn_take (by rw [wds_len]; exact hk), wds_at hk, hq]
  unfold wV; simp
theorem wdsT_len {ms : List Mrk} {k : Nat} (hk : k ≤ ms.length) : (wds (ms.take k)).length = k := by rw [wds_len, List.length_take]; omega
set_option maxHeartbeats 8000000 in
theorem l04Text_c (g b p t : Int) (A A2 : Option Addr) (c c2 B : Nat) (xs : List Int) (ms : List Mrk) (w : World) (h : Ins w B A xs) (h2 : Mks w B A2 ms) (hB : B ≤ w.heap.size) (hok : superB g b p t xs ms = true) :
    Calls Tryz.prog 112 #[.agg #[.int .i64 g, .int .i64 b, .int .i64 p, .int .i64 t, .slice A xs.length c, .slice A2 ms.length c2]] w fun e w' => e = .returned (.string (sealS (numsS (supN g b p t xs) ++ ⟨#[124]⟩ ++ jn (wds ms)))) ∧ Nx w w' := by
  have HK := Lib.hid hok
  have hl4 : ms.length ≤ 4 := (msB_yes (superB_yes hok).2.2.2.2.2).1
  have hl20 : xs.length ≤ 20 := (tbB_yes (superB_yes hok).2.2.2.2.1).1
  have HM := Lib.hid (superB_yes hok).2.2.2.2.2
  clear hok
  obtain ⟨i0, hi0, hz0, hz1, hz2⟩ := info_parts infoS
  go_enter Tryz.func112, Tryz.ntmps112
  have b0 := Box.new w 30 #[.int .i64 g, .int .i64 b, .int .i64 p, .int .i64 t, .slice A xs.length c, .slice A2 ms.length c2]
  have hx0 := (Nx.refl w).alloc (.cells #[.int .i64 g, .int .i64 b, .int .i64 p, .int .i64 t, .slice A xs.length c, .slice A2 ms.length c2] 30)
  have b1 := b0.alloc (.cells #[.int .i64 g, .int .i64 b, .int .i64 p, .int .i64 t] 3)
  have hx1 := hx0.alloc (.cells #[.int .i64 g, .int .i64 b, .int .i64 p, .int .i64 t] 3)
  have hR1 := RowI.new4 (w.alloc (.cells #[.int .i64 g, .int .i64 b, .int .i64 p, .int .i64 t, .slice A xs.length c, .slice A2 ms.length c2] 30)) (B := w.heap.size) g b p t (by simp)
  simp only [World.size_alloc] at hR1
  have HX1 := Lib.hid hx1
  have HB1 := Lib.hid b1
  have HR1 := Lib.hid hR1
  clear hx1 b1 hR1 hx0 b0
  go_wp2_with (at_builtin; refine wpList_app4I rfl _ _ rfl w.heap.size (w.heap.size + 1) A c [g, b, p, t] xs rfl rfl rfl HR1.out (h.below HX1.out hB) (by omega) HX1.out.size ?_)
  intro A' k' w2 hR2 hG2
  have hx2 := hG2.nx w HX1.out (Nat.le_refl _)
  have b2 := hG2.box _ _ _ (by decide) HB1.out
  clear HX1 HB1 HR1 hG2
  have HR2 : Hid (RowI w2 w.heap.size (.slice A' (xs.length + 4) k') (supL g b p t xs)) := Lib.hid hR2
  clear hR2
  go_wp2_with fail
  have hw0 := RowW.new w2 (B := w2.heap.size) (Nat.le_refl _)
  have hn0 := (Nx.refl w2).alloc (.cells #[] 9)
  go_loopw [4, 5] (fun s i wr => ∃ (k : Nat) (v : Value), k ≤ ms.length ∧ i = .int .i64 k ∧ v = s ∧ RowW wr w2.heap.size v (wds (ms.take k)) ∧ Nx w2 wr) (fun _ i _ => ms.length - (intOf i).toNat)
  case atStart => exact ⟨0, _, Nat.zero_le _, rfl, rfl, hw0, hn0⟩
  case round =>
    obtain ⟨k, v, hk, rfl, rfl, hw, hnx⟩ := hrel
    obtain ⟨_, _, _, _, _, c5⟩ := (b2.nx hnx).d6
    clear hw0 hn0
    by_cases hlt : k < ms.length
    · obtain ⟨bb, off, rfl, hb, k0, k1⟩ := (h2.below (hx2.trans hnx) hB).at_ hlt
      have hms := msB_at HM.out hlt
      obtain ⟨⟨q0, q1'⟩, Hq'⟩ : ∃ q, Hid (ms.getD k mrZ = q) := ⟨_, rfl⟩
      rw [Hq'.out] at k0 k1 hms
      obtain ⟨q1, Hq1⟩ : ∃ q : Nat, Hid (q1' = (q : Int)) := ⟨q1'.toNat, Lib.hid (by have := hms.2.1; simp only at this; omega)⟩
      rw [Hq1.out] at k1 hms Hq'
      obtain ⟨hs6, _, hq6⟩ := hms
      simp only at k0 k1 hs6 hq6
      have Hq : Hid (ms.getD k mrZ = (q0, (q1 : Int))) := Hq'
      have hbw : bb < w2.heap.size := by have := hx2.size; omega
      have hbv : w.heap.size < w2.heap.size := b2.lt
      have hq7 : q1 ≤ 999999 := by omega
      have hlk : (wds (ms.take k)).length = k := wdsT_len hk
      have hwk : wr.ownsRow w2.heap.size 9 1 v k (wV (wds (ms.take k))) := by have := hw; unfold RowW at this; rwa [hlk] at this
      have h61 : (⟨#[61]⟩ : ByteArray).size = 1 := rfl
      clear hw hlk Hq1 hq6
      go_wp2_with fail
      refine wp_region_lex [false, false, false, false, false, false, false, false, false, false, false, false, false, false, true, false, true, true, false] (fun w' => w'.cell? ⟨w.heap.size, 5, none⟩ = some (.slice (some ⟨bb, off, none⟩) ms.length c2) ∧ w'.cell? ⟨bb, off + k * 2, none⟩ = some (.string q0) ∧ w'.cell? ⟨bb, off + k * 2 + 1, none⟩ = some (.int .i64 q1)) (by kernel_rfl) (by kernel_rfl) rfl (by kernel_rfl) (fun _ _ d _ _ h => by cases d <;> exact h) (by exact ⟨c5, k0, k1⟩) ?_
      iterate 7 (refine HL.take (v := ?_) (by rfl) ?_ ?_; rotate_left; (· (intro w hSw; (try dsimp only at hSw); go_simp; try with_reducible rfl)); (try simp only [Act.put, List.setIfInBounds_toArray, List.set_cons_zero, List.set_cons_succ]))
      refine HL.take (v := .string (q0 ++ ⟨#[61]⟩)) (by rfl) (fun W _ => addS_run rfl rfl rfl (by omega)) ?_
      try simp only [Act.put, List.setIfInBounds_toArray, List.set_cons_zero, List.set_cons_succ]
      iterate 6 (refine HL.take (v := ?_) (by rfl) ?_ ?_; rotate_left; (· (intro w hSw; (try dsimp only at hSw); go_simp; try with_reducible rfl)); (try simp only [Act.put, List.setIfInBounds_toArray, List.set_cons_zero, List.set_cons_succ]))
      refine HL.call (by rfl) (fun K hK => ?_)
      go_simp
      refine (l00Digits_c q1 _ hq7).mono ?_
      rintro e wd ⟨rfl, hnd⟩
      have hxd := hnx.trans (Nx.drew_r hnd)
      have hwd := (show RowW wr w2.heap.size v (wds (ms.take k)) by unfold RowW; rw [wdsT_len hk]; exact hwk).nx (Nx.drew_r hnd)
      have HW := Lib.hid (mkW_of q0 q1)
      obtain ⟨d, Hd⟩ : ∃ d : ByteArray, Hid ((⟨(digs q1).toArray⟩ : ByteArray) = d) := ⟨_, rfl⟩
      have hd6 : d.size ≤ 6 := by rw [← Hd.out]; have := (digs_len hq7).2; simp [ByteArray.size]; omega
      rw [Hd.out] at HW ⊢
      go_wp2_with fail
      refine hK.out _ _ (by exact ⟨(hxd.of_two' hnx ⟨w.heap.size, 5, none⟩ hbv).trans c5, (hxd.of_two' hnx ⟨bb, off + k * 2, none⟩ hbw).trans k0, (hxd.of_two' hnx ⟨bb, off + k * 2 + 1, none⟩ hbw).trans k1⟩) ?_
      clear hK K
      try simp only [Act.put, List.setIfInBounds_toArray, List.set_cons_zero, List.set_cons_succ]
      refine HL.take (v := .string ((q0 ++ ⟨#[61]⟩) ++ d)) (by rfl) (fun W _ => addS_run rfl rfl rfl (by rw [ByteArray.size_append]; omega)) ?_
      try simp only [Act.put, List.setIfInBounds_toArray, List.set_cons_zero, List.set_cons_succ]
      rw [HW.out]
      refine HL.call (by rfl) (fun K hK => ?_)
      go_simp
      change K _ (wd.alloc _)
      have bz := Box.new wd 9 #[.string (mkW (q0, (q1 : Int)))]
      have hwz := hwd.nx ((Nx.refl wd).alloc (.cells #[.string (mkW (q0, (q1 : Int)))] 9))
      have hxz := hxd.alloc (.cells #[.string (mkW (q0, (q1 : Int)))] 9)
      refine hK.out _ _ (by exact ⟨(hxz.of_two' hnx ⟨w.heap.size, 5, none⟩ hbv).trans c5, (hxz.of_two' hnx ⟨bb, off + k * 2, none⟩ hbw).trans k0, (hxz.of_two' hnx ⟨bb, off + k * 2 + 1, none⟩ hbw).trans k1⟩) ?_
      generalize wd.alloc (.cells #[.string (mkW (q0, (q1 : Int)))] 9) = wz at *
      clear hK K
      try simp only [Act.put, List.setIfInBounds_toArray, List.set_cons_zero, List.set_cons_succ]
      refine HL.call (by rfl) (fun K hK => ?_)
      have hwz' : wz.ownsRow w2.heap.size 9 1 v k (wV (wds (ms.take k))) := by have := hwz; unfold RowW at this; rwa [wdsT_len hk] at this
      refine wp_append_own wz _ _ 22 rfl w2.heap.size 9 i0 _ 1 16 Tryz.underlying22 hi0 hz0 hz1 hz2 rfl (by omega) v k _ rfl hwz' ⟨wd.heap.size, 0, none⟩ 1 1 [.string (mkW (q0, (q1 : Int)))] rfl rfl (fun j u hj => ?_) (fun u hu => ?_) (by unfold maxLen; omega) (by omega) (by have := hxz.size; omega) ?_
      · rw [addr_add', Nat.zero_add, bz.cell j, ← hj]
        rcases j with _ | j <;> simp
      · simp only [List.mem_cons, List.not_mem_nil, or_false] at hu; rcases hu with rfl; rfl
      intro v2 w3 hw3 hg3 _
      have hx3 : Nx w2 w3 := Below.grown hxz hg3 hxz.size (fun k hk => (hwz'.lt k hk).1)
      refine hK.out _ _ (by exact ⟨(hx3.of_two' hnx ⟨w.heap.size, 5, none⟩ hbv).trans c5, (hx3.of_two' hnx ⟨bb, off + k * 2, none⟩ hbw).trans k0, (hx3.of_two' hnx ⟨bb, off + k * 2 + 1, none⟩ hbw).trans k1⟩) ?_
      clear hK K
      try simp only [Act.put, List.setIfInBounds_toArray, List.set_cons_zero, List.set_cons_succ]
      iterate 1 (refine HL.take (v := ?_) (by rfl) ?_ ?_; rotate_left; (· (intro w hSw; (try dsimp only at hSw); go_simp; try with_reducible rfl)); (try simp only [Act.put, List.setIfInBounds_toArray, List.set_cons_zero, List.set_cons_succ]))
      refine HL.done ?_
      go_wp2
      go_roundw
      case rel =>
        refine ⟨k + 1, _, by omega, by go_num, rfl, ?_, hx3⟩
        unfold RowW
        rw [wV_succ hlt Hq.out, wdsT_len (by omega)]
        exact hw3
      case measure => simp [intOf]; omega
    · obtain rfl : k = ms.length := by omega
      rw [List.take_length] at hw
      obtain ⟨A3, c3, rfl, hS3⟩ := hw.sl
      rw [wds_len] at hS3
      obtain ⟨A5, c5', he5, hS5⟩ := HR2.out.sl
      rw [supL_len] at he5 hS5
      injection he5 with e5 _ _
      subst e5
      have hrow := supN_row HK.out (supN_len g b p t xs).symm (hS5.nx hnx).row
      have Hl := Lib.hid (supN_len g b p t xs)
      have Hwl := Lib.hid (wds_len ms)
      have hS3r : Row wr wr.heap.size A3 (wds ms).length (wdAt (wds ms)) := by rw [wds_len]; exact hS3.row
      have hc5 : ((xs.length + 4 : Nat) : Int) = (xs.length : Int) + 4 := by omega
      rw [← Hl.out]
      go_wp2_with fail
      refine (l02Join_c A' _ _ (supN g b p t xs) _ hrow (Nat.le_refl _) (supN_all HK.out) (by have := Hl.out; omega)).mono ?_
      obtain ⟨nS, HnS⟩ : ∃ s, Hid (numsS (supN g b p t xs) = s) := ⟨_, rfl⟩
      rintro e w4 ⟨he, hnx4⟩
      have he' : e = .returned (.string nS) := he.trans (by rw [← HnS.out]; rfl)
      subst he'
      have hns : nS.size ≤ 144 := by rw [← HnS.out, numsS_size, Hl.out]; omega
      have hr4 := hS3r.below hnx4 (Nat.le_refl _)
      clear he
      go_wp2_with fail
      refine (l00Join_c A3 c3 _ (wds ms) _ hr4 hnx4.size (by rw [wds_len]; omega) (wds_size HM.out)).mono ?_
      obtain ⟨jS, HjS⟩ : ∃ s, Hid (jn (wds ms) = s) := ⟨_, rfl⟩
      have hjs : jS.size ≤ 56 := by rw [← HjS.out]; have := jn_all (wds_size HM.out); rw [wds_len] at this; omega
      rw [HjS.out]
      rintro e w5 ⟨rfl, hnx5⟩
      have h124 : (⟨#[124]⟩ : ByteArray).size = 1 := rfl
      go_wp2_with fail
      refine (l02Seal_c _ _ (by rw [ByteArray.size_append, ByteArray.size_append]; omega)).mono ?_
      have HZ := Lib.hid (show nS ++ ⟨#[124]⟩ ++ jS ++ ⟨(sumD (nS ++ ⟨#[124]⟩ ++ jS)).toArray⟩ = sealS (numsS (supN g b p t xs) ++ ⟨#[124]⟩ ++ jn (wds ms)) by rw [HnS.out, HjS.out]; rfl)
      rintro e w6 ⟨he, hnx6⟩
      have he6 := he.trans (ret_str HZ.out)
      subst he6
      clear he
      go_wp2
      go_ret
      exact ⟨rfl, (((hx2.trans hnx).trans hnx4).trans hnx5).trans hnx6⟩
end Go.Proofs.YtehahodomfbpjaaGreatDoor
/- The library contracts of strings.Join and strconv.Itoa at this program (the laying alone, printed by the command that lays them). Conditions: none. -/
namespace Go.Proofs
open Go.Shelf
def Tryz.lays156_ren : Go.Shelf.Ren := ⟨fun | 156 => 225 | 165 => 251 | 166 => 165 | 169 => 166 | 240 => 226 | 241 => 261 | 276 => 252 | 277 => 273 | n => n, fun | 31 => 22 | 9 => 9 | 3 => 3 | 4 => 4 | 0 => 0 | 20 => 20 | 72 => 186 | 76 => 187 | 70 => 184 | 37 => 58 | 75 => 136 | 127 => 230 | 164 => 240 | 5 => 5 | 80 => 110 | n => n, fun | n => n⟩
theorem Tryz.lays156 : Go.Proofs.Lays.n156 Tryz.prog Tryz.lays156_ren := {
  mixed := by kernel_rfl
  f156 := Tryz.func225.trans (congrArg some (by kernel_rfl))
  f165 := Tryz.func251.trans (congrArg some (by kernel_rfl))
  f166 := Tryz.func165.trans (congrArg some (by kernel_rfl))
  f169 := Tryz.func166.trans (congrArg some (by kernel_rfl))
  f240 := Tryz.func226.trans (congrArg some (by kernel_rfl))
  f241 := Tryz.func261.trans (congrArg some (by kernel_rfl))
  f276 := Tryz.func252.trans (congrArg some (by kernel_rfl))
  f277 := Tryz.func273.trans (congrArg some (by kernel_rfl))
  t0 := Tryz.underlying0
  a0 := Tryz.isAgg0
  z0 := Tryz.sizeOf0
  v0 := Tryz.zeroValue0
  t3 := Tryz.underlying3
  a3 := Tryz.isAgg3
  z3 := Tryz.sizeOf3
  v3 := Tryz.zeroValue3
  t4 := Tryz.underlying4
  a4 := Tryz.isAgg4
  z4 := Tryz.sizeOf4
  v4 := Tryz.zeroValue4
  t9 := Tryz.underlying9
  a9 := Tryz.isAgg9
  z9 := Tryz.sizeOf9
  v9 := Tryz.zeroValue9
  t20 := Tryz.underlying20
  a20 := Tryz.isAgg20
  z20 := Tryz.sizeOf20
  v20 := Tryz.zeroValue20
  t31 := Tryz.underlying22
  a31 := Tryz.isAgg22
  z31 := Tryz.sizeOf22
  v31 := Tryz.zeroValue22
  t37 := Tryz.underlying58
  a37 := Tryz.isAgg58
  z37 := Tryz.sizeOf58
  v37 := Tryz.zeroValue58
  t70 := Tryz.underlying184
  a70 := Tryz.isAgg184
  z70 := Tryz.sizeOf184
  v70 := Tryz.zeroValue184
  t72 := Tryz.underlying186
  a72 := Tryz.isAgg186
  z72 := Tryz.sizeOf186
  v72 := Tryz.zeroValue186
  t75 := Tryz.underlying136
  a75 := Tryz.isAgg136
  z75 := Tryz.sizeOf136
  v75 := Tryz.zeroValue136
  t76 := Tryz.underlying187
  a76 := Tryz.isAgg187
  z76 := Tryz.sizeOf187
  v76 := Tryz.zeroValue187
  t127 := Tryz.underlying230
  a127 := Tryz.isAgg230
  z127 := Tryz.sizeOf230
  v127 := Tryz.zeroValue230
  t164 := Tryz.underlying240
  a164 := Tryz.isAgg240
  z164 := Tryz.sizeOf240
  v164 := Tryz.zeroValue240 }
def Tryz.laysM171_ren : Go.Shelf.Ren := ⟨fun | 171 => 224 | 243 => 250 | 246 => 260 | 283 => 269 | 284 => 270 | 285 => 271 | 286 => 272 | 129 => 280 | 317 => 279 | 318 => 281 | 319 => 282 | 320 => 283 | 337 => 285 | 338 => 286 | n => n, fun | 3 => 3 | 9 => 9 | 2 => 2 | 4 => 4 | 171 => 281 | 0 => 0 | 53 => 282 | 37 => 58 | 5 => 5 | 173 => 285 | 212 => 294 | 51 => 288 | 20 => 20 | 213 => 295 | 46 => 279 | 232 => 302 | 233 => 303 | n => n, fun | 17 => 4 | 18 => 7 | 19 => 8 | n => n⟩
theorem Tryz.laysM171 : Go.Proofs.LaysM.n171 Tryz.prog Tryz.laysM171_ren := {
  mixed := by kernel_rfl
  f129 := Tryz.func280.trans (congrArg some (by kernel_rfl))
  f171 := Tryz.func224.trans (congrArg some (by kernel_rfl))
  f243 := Tryz.func250.trans (congrArg some (by kernel_rfl))
  f246 := Tryz.func260.trans (congrArg some (by kernel_rfl))
  f283 := Tryz.func269.trans (congrArg some (by kernel_rfl))
  f284 := Tryz.func270.trans (congrArg some (by kernel_rfl))
  f285 := Tryz.func271.trans (congrArg some (by kernel_rfl))
  f286 := Tryz.func272.trans (congrArg some (by kernel_rfl))
  f317 := Tryz.func279.trans (congrArg some (by kernel_rfl))
  f318 := Tryz.func281.trans (congrArg some (by kernel_rfl))
  f319 := Tryz.func282.trans (congrArg some (by kernel_rfl))
  f320 := Tryz.func283.trans (congrArg some (by kernel_rfl))
  f337 := Tryz.func285.trans (congrArg some (by kernel_rfl))
  f338 := Tryz.func286.trans (congrArg some (by kernel_rfl))
  t0 := Tryz.underlying0
  a0 := Tryz.isAgg0
  z0 := Tryz.sizeOf0
  v0 := Tryz.zeroValue0
  t2 := Tryz.underlying2
  a2 := Tryz.isAgg2
  z2 := Tryz.sizeOf2
  v2 := Tryz.zeroValue2
  t3 := Tryz.underlying3
  a3 := Tryz.isAgg3
  z3 := Tryz.sizeOf3
  v3 := Tryz.zeroValue3
  t4 := Tryz.underlying4
  a4 := Tryz.isAgg4
  z4 := Tryz.sizeOf4
  v4 := Tryz.zeroValue4
  t5 := Tryz.underlying5
  a5 := Tryz.isAgg5
  z5 := Tryz.sizeOf5
  v5 := Tryz.zeroValue5
  t9 := Tryz.underlying9
  a9 := Tryz.isAgg9
  z9 := Tryz.sizeOf9
  v9 := Tryz.zeroValue9
  t20 := Tryz.underlying20
  a20 := Tryz.isAgg20
  z20 := Tryz.sizeOf20
  v20 := Tryz.zeroValue20
  t37 := Tryz.underlying58
  a37 := Tryz.isAgg58
  z37 := Tryz.sizeOf58
  v37 := Tryz.zeroValue58
  t46 := Tryz.underlying279
  a46 := Tryz.isAgg279
  z46 := Tryz.sizeOf279
  v46 := Tryz.zeroValue279
  t51 := Tryz.underlying288
  a51 := Tryz.isAgg288
  z51 := Tryz.sizeOf288
  v51 := Tryz.zeroValue288
  t53 := Tryz.underlying282
  a53 := Tryz.isAgg282
  z53 := Tryz.sizeOf282
  v53 := Tryz.zeroValue282
  t171 := Tryz.underlying281
  a171 := Tryz.isAgg281
  z171 := Tryz.sizeOf281
  v171 := Tryz.zeroValue281
  t173 := Tryz.underlying285
  a173 := Tryz.isAgg285
  z173 := Tryz.sizeOf285
  v173 := Tryz.zeroValue285
  t212 := Tryz.underlying294
  a212 := Tryz.isAgg294
  z212 := Tryz.sizeOf294
  v212 := Tryz.zeroValue294
  t213 := Tryz.underlying295
  a213 := Tryz.isAgg295
  z213 := Tryz.sizeOf295
  t232 := Tryz.underlying302
  a232 := Tryz.isAgg302
  z232 := Tryz.sizeOf302
  v232 := Tryz.zeroValue302
  t233 := Tryz.underlying303
  a233 := Tryz.isAgg303
  z233 := Tryz.sizeOf303
  v233 := Tryz.zeroValue303
  g17 := by kernel_rfl
  g18 := by kernel_rfl
  g19 := by kernel_rfl
  i0 := by kernel_rfl
  i2 := by kernel_rfl
  i3 := by kernel_rfl
  i4 := by kernel_rfl
  i5 := by kernel_rfl
  i9 := by kernel_rfl
  i20 := by kernel_rfl
  i37 := by kernel_rfl
  i46 := by kernel_rfl
  i51 := by kernel_rfl
  i53 := by kernel_rfl
  i171 := by kernel_rfl
  i173 := by kernel_rfl
  i212 := by kernel_rfl
  i232 := by kernel_rfl
  i233 := by kernel_rfl
  m17 := by kernel_rfl
  m18 := by kernel_rfl
  m19 := by kernel_rfl }
theorem Tryz.Builder_Extra_156 : Builder.Extra Tryz.prog Tryz.lays156_ren := {
  sizeBuilder := by kernel_rfl
  liesBuilder := by kernel_rfl
  t5 := Tryz.underlying5
  a5 := Tryz.isAgg5
  z5 := Tryz.sizeOf5
  v5 := Tryz.zeroValue5
  infoByte := by kernel_rfl
  cellsByte := by kernel_rfl
  sizeByte := by kernel_rfl
  neB5 := by decide }
end Go.Proofs
/- The program's text of a super: marksText, Super.text, SuperText. Conditions: the library's table of powers of ten holds them; what is read can be read. -/
namespace Go.Proofs.YtehahodomfbpjaaGreatDoor
set_option linter.unusedVariables false
set_option maxRecDepth 100000
open Go.RowKit

/-- The library's table. -/
def Tab (w : World) : Prop := Lib.TabIs Tryz.prog w "internal/strconv.uint64pow10" .u64 Lib.pow10Tab
theorem Tab.nx {w w' : World} (h : Tab w) (hb : Nx w w') : Tab w' := by
  unfold Tab Lib.TabIs at h ⊢
  unfold World.var? at h ⊢
  cases hg : Tryz.prog.globalNamed "internal/strconv.uint64pow10" with
  | none => simp [hg] at h
  | some g =>
    simp only [hg, Option.bind_some] at h ⊢
    have hlt : g < w.heap.size := by
      rcases Nat.lt_or_ge g w.heap.size with h' | h'
      · exact h'
      · simp [Array.getElem?_eq_none h'] at h
    rw [hb.block g hlt]
    exact h
theorem digs_dec : ∀ n : Nat, Lib.decDigits n = digs n := by
  intro n
  induction n using Nat.strongRecOn with
  | _ n ih =>
    rw [Lib.decDigits, digs]
    by_cases h : n < 10
    · rw [dif_pos h, if_pos h]
    · rw [dif_neg h, if_neg h, ih (n / 10) (by omega)]
theorem itoa_digs (n : Nat) : Lib.itoa (n : Int) = digs n := by
  unfold Lib.itoa
  rw [if_neg (by omega), Int.toNat_natCast, digs_dec]
theorem itoa_c (n : Nat) (w : World) (hn : n ≤ 999999) (ht : Tab w) : Calls Tryz.prog 224 #[.int .i64 n] w fun e w' => e = .returned (.string ⟨(digs n).toArray⟩) ∧ Nx w w' := by
  refine (Any.strconv_Itoa Tryz.laysM171 (n : Int) (by omega) (by omega) w ht).mono ?_
  rintro e w' ⟨rfl, k, os, rfl⟩
  rw [itoa_digs]
  exact ⟨rfl, Lib.below_grow _ w (Nat.le_refl _) k os⟩
theorem join_c (A : Option Addr) (c lo : Nat) (ws : List ByteArray) (w : World) (h : Sl w lo A 9 ws.length (wdAt ws)) (hn : ws.length ≤ 4) (hc : ws.length ≤ c) (hw : ∀ k, (ws.getD k ByteArray.empty).size ≤ 13) :
    Calls Tryz.prog 225 #[.slice A ws.length c, .string ⟨#[44]⟩] w fun e w' => e = .returned (.string (jn ws)) ∧ Nx w w' := by
  rcases Nat.eq_zero_or_pos ws.length with hz | hp
  · have e0 : ws = [] := List.eq_nil_of_length_eq_zero hz
    subst e0
    refine (Any.strings_Join_none Tryz.lays156 Tryz.Builder_Extra_156 A c ⟨#[44]⟩ w).mono ?_
    rintro e w' ⟨rfl, rfl⟩
    exact ⟨rfl, Nx.refl _⟩
  · obtain ⟨g, rfl, _, ho⟩ := h hp
    have hj := jn_all hw
    refine (Any.strings_Join Tryz.lays156 Tryz.Builder_Extra_156 g 0 c ws ⟨#[44]⟩ w (fun j x hj => ?_) ho.lt (by omega) hc (by rw [ba_size] at hj; exact Nat.le_trans hj (by omega))).mono ?_
    · have hjl : j < ws.length := (List.getElem?_eq_some_iff.1 hj).1
      rw [Nat.zero_add, ho.cell hjl]
      unfold wdAt
      rw [List.getD_eq_getElem?_getD, hj]; rfl
    · rintro e w' ⟨rfl, hb⟩
      exact ⟨rfl, hb⟩
set_option maxHeartbeats 4000000 in
theorem marksText_c (A2 : Option Addr) (c2 B : Nat) (ms : List Mrk) (w : World) (h2 : Mks w B A2 ms) (hB : B ≤ w.heap.size) (hms : msB ms = true) (ht : Tab w) :
    Calls Tryz.prog 162 #[.slice A2 ms.length c2] w fun e w' => e = .returned (.string (jn (wds ms))) ∧ Nx w w' := by
  have HM := Lib.hid hms
  have HT := Lib.hid ht
  have hl4 : ms.length ≤ 4 := (msB_yes hms).1
  clear hms ht
  obtain ⟨i0, hi0, hz0, hz1, hz2⟩ := info_parts infoS
  have hmk := fun W => run_make_rowN (P := Tryz.prog) 22 9 i0 _ Tryz.underlying22 hi0 hz0 .i64 .i64 ms.length ms.length (Nat.le_refl _) (by rw [hz2]; omega) (by omega) W
  rw [hz1] at hmk
  have hmade := Own.made w #[Value.string ByteArray.empty] (ms.length * 1) 9
  rw [Nat.mul_one] at hmade
  go_enter Tryz.func162, Tryz.ntmps162
  go_wp2
  go_loopw [11] (fun i wr => ∃ k : Nat, k ≤ ms.length ∧ i = .int .i64 k ∧ Fill wr w.heap.size 9 ms.length k (wdAt (wds ms)) ∧ Nx w wr) (fun i _ => ms.length - (intOf i).toNat)
  case atStart => exact ⟨0, Nat.zero_le _, rfl, Fill.start hmade, (Nx.refl _).alloc _⟩
  case round =>
    obtain ⟨k, hk, rfl, hf, hnx⟩ := hrel
    by_cases hlt : k < ms.length
    · obtain ⟨bb, off, rfl, hb, k0, k1⟩ := (h2.below hnx hB).at_ hlt
      clear hmk hmade
      have hmq := msB_at HM.out hlt
      obtain ⟨⟨q0, q1'⟩, Hq'⟩ : ∃ q, Hid (ms.getD k mrZ = q) := ⟨_, rfl⟩
      rw [Hq'.out] at k0 k1 hmq
      obtain ⟨q1, Hq1⟩ : ∃ q : Nat, Hid (q1' = (q : Int)) := ⟨q1'.toNat, Lib.hid (by have := hmq.2.1; simp only at this; omega)⟩
      rw [Hq1.out] at k1 hmq Hq'
      obtain ⟨hs6, _, hq6⟩ := hmq
      simp only at k0 k1 hs6 hq6
      have Hq : Hid (ms.getD k mrZ = (q0, (q1 : Int))) := Hq'
      have hq7 : q1 ≤ 999999 := by omega
      have h61 : (⟨#[61]⟩ : ByteArray).size = 1 := rfl
      clear Hq1 hq6
      go_wp2_with fail
      have bq := Box.new wr 199 #[.string q0, .int .i64 q1]
      have hnxq := hnx.alloc (.cells #[.string q0, .int .i64 q1] 199)
      have hfq := hf.nx ((Nx.refl wr).alloc (.cells #[.string q0, .int .i64 q1] 199))
      generalize wr.alloc (.cells #[.string q0, .int .i64 q1] 199) = wq at *
      clear k0 k1
      have k0 := bq.c0
      have k1 := bq.c1
      refine wp_region_lex [false, false, false, false, false, false, false, true, false, false, true] (fun w' => w'.cell? ⟨wr.heap.size, 0, none⟩ = some (.string q0) ∧ w'.cell? ⟨wr.heap.size, 1, none⟩ = some (.int .i64 q1)) (by kernel_rfl) (by kernel_rfl) rfl (by kernel_rfl) (fun _ _ d _ _ h => by cases d <;> exact h) (by exact ⟨k0, k1⟩) ?_
      iterate 4 (refine HL.take (v := ?_) (by rfl) ?_ ?_; rotate_left; (· (intro w hSw; (try dsimp only at hSw); go_simp; try with_reducible rfl)); (try simp only [Act.put, List.setIfInBounds_toArray, List.set_cons_zero, List.set_cons_succ]))
      refine HL.take (v := .string (q0 ++ ⟨#[61]⟩)) (by rfl) (fun W _ => addS_run rfl rfl rfl (by omega)) ?_
      try simp only [Act.put, List.setIfInBounds_toArray, List.set_cons_zero, List.set_cons_succ]
      iterate 2 (refine HL.take (v := ?_) (by rfl) ?_ ?_; rotate_left; (· (intro w hSw; (try dsimp only at hSw); go_simp; try with_reducible rfl)); (try simp only [Act.put, List.setIfInBounds_toArray, List.set_cons_zero, List.set_cons_succ]))
      refine HL.call (by rfl) (fun K hK => ?_)
      go_simp
      refine (itoa_c q1 _ hq7 (HT.out.nx hnxq.drew)).mono ?_
      rintro e wd ⟨rfl, hnd⟩
      have hxd := hnxq.trans (Nx.drew_r hnd)
      have bd := bq.nx (Nx.drew_r hnd)
      have hfd := hfq.nx (Nx.drew_r hnd)
      have HW := Lib.hid (mkW_of q0 q1)
      obtain ⟨d, Hd⟩ : ∃ d : ByteArray, Hid ((⟨(digs q1).toArray⟩ : ByteArray) = d) := ⟨_, rfl⟩
      have hd6 : d.size ≤ 6 := by rw [← Hd.out]; have := (digs_len hq7).2; simp [ByteArray.size]; omega
      rw [Hd.out] at HW ⊢
      go_wp2_with fail
      refine hK.out _ _ (by exact ⟨bd.c0, bd.c1⟩) ?_
      clear hK K
      try simp only [Act.put, List.setIfInBounds_toArray, List.set_cons_zero, List.set_cons_succ]
      refine HL.take (v := .string ((q0 ++ ⟨#[61]⟩) ++ d)) (by rfl) (fun W _ => addS_run rfl rfl rfl (by rw [ByteArray.size_append]; omega)) ?_
      try simp only [Act.put, List.setIfInBounds_toArray, List.set_cons_zero, List.set_cons_succ]
      rw [HW.out]
      iterate 1 (refine HL.take (v := ?_) (by rfl) ?_ ?_; rotate_left; (· (intro w hSw; (try dsimp only at hSw); go_simp; try with_reducible rfl)); (try simp only [Act.put, List.setIfInBounds_toArray, List.set_cons_zero, List.set_cons_succ]))
      have hne : w.heap.size ≠ wr.heap.size := by have := hf.lt; omega
      obtain ⟨v0, hv0⟩ := hfd.some_ hlt
      have hfz := hfd.frozen k
      have hst := hfd.step (v := .string (mkW (q0, (q1 : Int)))) hlt (by unfold wdAt; rw [wds_at hlt, Hq.out])
      have hxs := hxd.setCell (p := ⟨w.heap.size, k, none⟩) (Nat.le_refl _) (.string (mkW (q0, (q1 : Int))))
      have bs := bd.far (p := ⟨w.heap.size, k, none⟩) (Ne.symm hne) (.string (mkW (q0, (q1 : Int))))
      refine HL.call (by rfl) (fun K hK => ?_)
      go_simp
      refine hK.out _ _ (by exact ⟨bs.c0, bs.c1⟩) ?_
      clear hK K
      try simp only [Act.put, List.setIfInBounds_toArray, List.set_cons_zero, List.set_cons_succ]
      refine HL.done ?_
      go_wp2
      go_roundw
      case rel => exact ⟨k + 1, by omega, by go_num, hst, hxs⟩
      case measure => simp [intOf]; omega
    · obtain rfl : k = ms.length := by omega
      have hS : Sl wr w.heap.size (some ⟨w.heap.size, 0, none⟩) 9 (wds ms).length (wdAt (wds ms)) := by rw [wds_len]; exact Sl.own hf.done (Nat.le_refl _)
      have Hwl := Lib.hid (wds_len ms)
      clear hmk hmade
      go_wp2_with fail
      have hjc := join_c (some ⟨w.heap.size, 0, none⟩) ms.length w.heap.size (wds ms) wr hS (by rw [wds_len]; exact hl4) (by rw [wds_len]; omega) (wds_size HM.out)
      rw [wds_len] at hjc
      refine hjc.mono ?_
      rintro e w4 ⟨rfl, hnx4⟩
      go_wp2
      go_ret
      exact ⟨rfl, hnx.trans hnx4⟩
set_option maxHeartbeats 4000000 in
theorem superText_c (g b p t : Int) (A A2 : Option Addr) (c c2 B : Nat) (xs : List Int) (ms : List Mrk) (w : World) (h : Ins w B A xs) (h2 : Mks w B A2 ms) (hB : B ≤ w.heap.size) (hok : superB g b p t xs ms = true) (ht : Tab w) :
    Calls Tryz.prog 89 #[.agg #[.int .i64 g, .int .i64 b, .int .i64 p, .int .i64 t, .slice A xs.length c, .slice A2 ms.length c2]] w fun e w' => e = .returned (.string (sealS (numsS (supN g b p t xs) ++ ⟨#[124]⟩ ++ jn (wds ms)))) ∧ Nx w w' := by
  have HK := Lib.hid hok
  have HT := Lib.hid ht
  have hl4 : ms.length ≤ 4 := (msB_yes (superB_yes hok).2.2.2.2.2).1
  have hl20 : xs.length ≤ 20 := (tbB_yes (superB_yes hok).2.2.2.2.1).1
  have HM := Lib.hid (superB_yes hok).2.2.2.2.2
  clear hok ht
  go_enter Tryz.func89, Tryz.ntmps89
  have b0 := Box.new w 30 #[.int .i64 g, .int .i64 b, .int .i64 p, .int .i64 t, .slice A xs.length c, .slice A2 ms.length c2]
  have hx0 := (Nx.refl w).alloc (.cells #[.int .i64 g, .int .i64 b, .int .i64 p, .int .i64 t, .slice A xs.length c, .slice A2 ms.length c2] 30)
  have b1 := b0.alloc (.cells #[.int .i64 g, .int .i64 b, .int .i64 p, .int .i64 t] 3)
  have hx1 := hx0.alloc (.cells #[.int .i64 g, .int .i64 b, .int .i64 p, .int .i64 t] 3)
  have hR1 := RowI.new4 (w.alloc (.cells #[.int .i64 g, .int .i64 b, .int .i64 p, .int .i64 t, .slice A xs.length c, .slice A2 ms.length c2] 30)) (B := w.heap.size) g b p t (by simp)
  simp only [World.size_alloc] at hR1
  have HX1 := Lib.hid hx1
  have HB1 := Lib.hid b1
  have HR1 := Lib.hid hR1
  clear hx1 b1 hR1 hx0 b0
  go_wp2_with (at_builtin; refine wpList_app4I rfl _ _ rfl w.heap.size (w.heap.size + 1) A c [g, b, p, t] xs rfl rfl rfl HR1.out (h.below HX1.out hB) (by omega) HX1.out.size ?_)
  intro A' k' w2 hR2' hG2
  have hx2 := hG2.nx w HX1.out (Nat.le_refl _)
  have b2 := hG2.box _ _ _ (by decide) HB1.out
  clear HX1 HB1 HR1 hG2
  have hR2 : RowI w2 w.heap.size (.slice A' (xs.length + 4) k') (supL g b p t xs) := hR2'
  clear hR2'
  obtain ⟨A5, c5', he5, hS5⟩ := hR2.sl
  clear hR2
  rw [supL_len] at he5 hS5
  injection he5 with e5 _ e6
  subst e5 e6
  have hrow := supN_row HK.out (supN_len g b p t xs).symm hS5.row
  have Hl := Lib.hid (supN_len g b p t xs)
  rw [← Hl.out]
  go_wp2_with fail
  obtain ⟨nS, HnS⟩ : ∃ s, Hid (numsS (supN g b p t xs) = s) := ⟨_, rfl⟩
  obtain ⟨jS, HjS⟩ : ∃ s, Hid (jn (wds ms) = s) := ⟨_, rfl⟩
  have hns : nS.size ≤ 144 := by rw [← HnS.out, numsS_size, Hl.out]; omega
  have hjs : jS.size ≤ 56 := by rw [← HjS.out]; have := jn_all (wds_size HM.out); rw [wds_len] at this; omega
  have h124 : (⟨#[124]⟩ : ByteArray).size = 1 := rfl
  have k5 := b2.d6.2.2.2.2.2
  refine wp_region_plan (.t 0 (.t 3 (.t 4 (.c 1 (.t 2 (.c 5 (.t 6 (.c 7 (.t 8 .e))))))))) (fun w' => w'.cell? ⟨w.heap.size, 5, none⟩ = some (.slice A2 ms.length c2)) (by kernel_rfl) (by kernel_rfl) rfl (by kernel_rfl) (fun _ _ d _ _ h => by cases d <;> exact h) (by exact k5) ?_
  simp only [psOf, List.getD_cons_zero, List.getD_cons_succ]
  iterate 3 (refine HP.take (v := ?_) (by rfl) ?_ ?_; rotate_left; (· (intro w hSw; (try dsimp only at hSw); go_simp; try with_reducible rfl)); (try simp only [Act.put, List.setIfInBounds_toArray, List.set_cons_zero, List.set_cons_succ]))
  refine HP.call ?_
  refine CallStep.mk (by rfl) (fun K hK => ?_)
  go_simp
  refine (numbersText_c A' _ _ (supN g b p t xs) _ (hrow.below (Nx.refl w2).drew (Nat.le_refl _)) (Nat.le_refl _) (supN_all HK.out) (by have := Hl.out; omega) (by have := Hl.out; omega)).mono ?_
  rintro e w3 ⟨he, hnx3⟩
  have he' := he.trans (ret_str HnS.out)
  subst he'
  clear he
  have b3 := b2.nx (Nx.drew_r hnx3)
  have hx3 := hx2.trans (Nx.drew_r hnx3)
  go_wp2_with fail
  refine hK.out _ _ (by exact b3.d6.2.2.2.2.2) ?_
  clear hK K
  try simp only [Act.put, List.setIfInBounds_toArray, List.set_cons_zero, List.set_cons_succ]
  refine HP.take (v := .string (nS ++ ⟨#[124]⟩)) (by rfl) (fun W _ => addS_run rfl rfl rfl (by omega)) ?_
  try simp only [Act.put, List.setIfInBounds_toArray, List.set_cons_zero, List.set_cons_succ]
  refine HP.call ?_
  refine CallStep.mk (by rfl) (fun K hK => ?_)
  go_simp
  refine (marksText_c A2 c2 B ms _ (h2.below hx3 hB) (Nat.le_trans hB hx3.size) HM.out (HT.out.nx hx3)).mono ?_
  rintro e w4 ⟨he, hnx4⟩
  have he' := he.trans (ret_str HjS.out)
  subst he'
  clear he
  have b4 := b3.nx hnx4
  have hx4 := hx3.trans hnx4
  go_wp2_with fail
  refine hK.out _ _ (by exact b4.d6.2.2.2.2.2) ?_
  clear hK K
  try simp only [Act.put, List.setIfInBounds_toArray, List.set_cons_zero, List.set_cons_succ]
  refine HP.take (v := .string (nS ++ ⟨#[124]⟩ ++ jS)) (by rfl) (fun W _ => addS_run rfl rfl rfl (by rw [ByteArray.size_append]; omega)) ?_
  try simp only [Act.put, List.setIfInBounds_toArray, List.set_cons_zero, List.set_cons_succ]
  refine HP.call ?_
  refine CallStep.mk (by rfl) (fun K hK => ?_)
  go_simp
  have HZ := Lib.hid (show sealS (nS ++ ⟨#[124]⟩ ++ jS) = sealS (numsS (supN g b p t xs) ++ ⟨#[124]⟩ ++ jn (wds ms)) by rw [HnS.out, HjS.out])
  refine (sealed_c _ _ (by rw [ByteArray.size_append, ByteArray.size_append]; omega)).mono ?_
  rintro e w5 ⟨he, hnx5⟩
  have he' := he.trans (ret_str HZ.out)
  subst he'
  clear he
  have b5 := b4.nx hnx5
  have hx5 := hx4.trans hnx5
  go_wp2_with fail
  refine hK.out _ _ (by exact b5.d6.2.2.2.2.2) ?_
  clear hK K
  try simp only [Act.put, List.setIfInBounds_toArray, List.set_cons_zero, List.set_cons_succ]
  iterate 1 (refine HP.take (v := ?_) (by rfl) ?_ ?_; rotate_left; (· (intro w hSw; (try dsimp only at hSw); go_simp; try with_reducible rfl)); (try simp only [Act.put, List.setIfInBounds_toArray, List.set_cons_zero, List.set_cons_succ]))
  refine HP.done ?_
  go_wp2
  go_ret
  exact ⟨rfl, hx5⟩
end Go.Proofs.YtehahodomfbpjaaGreatDoor
/- Contracts of the model's l05Format and FormatVault, and of the program's FormatVault. Conditions: the content can be read, and has at most 1048576 numbers; for the program: the library's table of powers of ten. -/
namespace Go.Proofs.YtehahodomfbpjaaGreatDoor
set_option linter.unusedVariables false
set_option maxRecDepth 100000
open Go.RowKit

theorem mergeFm {G : Nat → Nat → World → Prop} {F : World → Prop} {R : Prop} (main : (∀ a b W, F W → G a b W) → R) (key : ∀ a b W, F W → G a b W) : R := main key
theorem pad6_size (q : Nat) : (⟨(pad 6 q).toArray⟩ : ByteArray).size = 6 := by rw [ba_size]; exact pad_len 6 q
set_option maxHeartbeats 4000000 in
theorem l05Format_c (A0 : Option Addr) (c0 B : Nat) (xs : List Int) (w : World) (h : Ins w B A0 xs) (hB : B ≤ w.heap.size) (hc : contB xs = true) :
    Calls Tryz.prog 93 #[.slice A0 xs.length c0] w (RetDisk w (fmT xs 8) []) := by
  have hx8 := (contB_yes hc).1
  have Hv := Lib.hid (contB_yes hc).2
  have h' : ∀ k, k < 8 → _ := fun k hk w' B' hw hB' => ((h.below (w' := w') (B' := B') hw hB').at_ (k := k) (by omega))
  obtain ⟨m, Hm⟩ : ∃ m, Hid (xs.length = m) := ⟨_, rfl⟩
  have hm8 : m = 8 := by have := Hm.out; omega
  rw [Hm.out]
  subst hm8
  clear hc h hx8
  have r0 := Box.new w 38 #[.slice none 0 0, .slice none 0 0]
  have hx0 := (Nx.refl w).alloc (.cells #[.slice none 0 0, .slice none 0 0] 38)
  have hl0 := r0.lt
  go_enter Tryz.func93, Tryz.ntmps93
  go_wp2_with fail
  generalize w.alloc (.cells #[.slice none 0 0, .slice none 0 0] 38) = W at *
  obtain ⟨gR, HgR⟩ : ∃ g, Hid (w.heap.size = g) := ⟨_, rfl⟩
  have hgR : w.heap.size ≤ gR := by have := HgR.out; omega
  rw [HgR.out] at r0 hl0 ⊢
  refine (specNewDisk_c W).mono ?_
  rintro e w1 ⟨A, n, c, A2, n2, c2, rfl, hS, hW, hk1⟩
  obtain rfl : 64 = n := noS_len.symm.trans hS.1
  obtain rfl : 0 = n2 := hW.1
  obtain ⟨gs, rfl, hgs, hrow⟩ := hS.2 (by omega)
  have hd := (Nx.refl w1).alloc (.cells #[.slice (some ⟨gs, 0, none⟩) 64 c, .slice A2 0 c2] 38)
  have bD := Box.new w1 38 #[.slice (some ⟨gs, 0, none⟩) 64 c, .slice A2 0 c2]
  have hrow1 : SetRow (w1.alloc (.cells #[.slice (some ⟨gs, 0, none⟩) 64 c, .slice A2 0 c2] 38)) gs noS := by have := hrow.nx hd; unfold OwnS at this; rw [noS_len] at this; exact this
  have hN1 := hk1.trans hd
  clear hS hrow hk1 hd
  go_wp2_with fail
  generalize w1.alloc (.cells #[.slice (some ⟨gs, 0, none⟩) 64 c, .slice A2 0 c2] 38) = wD at *
  obtain ⟨gD, HgD⟩ : ∃ g, Hid (w1.heap.size = g) := ⟨_, rfl⟩
  rw [HgD.out] at bD ⊢
  have hne : gD ≠ gs := Own.ne_type hrow1 bD.own (by decide)
  refine mergeFm (F := (fun Wq => SetRow Wq gs (fmT xs 0) ∧ Box Wq gD 38 #[.slice (some ⟨gs, 0, none⟩) 64 c, .slice A2 0 c2] ∧ Nx W Wq)) (G := ?_) (fun key => ?_) ?_
  rotate_left
  · skip
    refine wp_region_plan (.t 0 (.t 1 (.b 2 (.c 3 (.t 4 (.c 5 (.t 6 (.c 7 .e))))) 3 (.c 2 (.t 4 (.c 5 (.t 6 (.c 7 .e)))))))) (fun w' => w'.cell? ⟨gD, 0, none⟩ = some (.slice (some ⟨gs, 0, none⟩) 64 c)) (by kernel_rfl) (by kernel_rfl) rfl (by kernel_rfl) (fun _ _ d _ _ h => by cases d <;> exact h) (by exact (bD.nx (Nx.refl _).drew).c0) ?_
    simp only [psOf, List.getD_cons_zero, List.getD_cons_succ]
    have bDk := bD.nx (Nx.refl wD).drew
    have hrk : SetRow wD.drew gs noS := hrow1
    have hNk := hN1.drew
    generalize wD.drew = W0 at *
    repeat (first | (refine HP.take (v := ?_) (by rfl) ?_ ?_; rotate_left; (· (intro w hSw; (try dsimp only at hSw); go_simp; try with_reducible rfl)); (try simp only [Act.put, List.setIfInBounds_toArray, List.set_cons_zero, List.set_cons_succ])) | (refine HP.skip (by rfl) ?_; (try simp only [Act.put, List.setIfInBounds_toArray, List.set_cons_zero, List.set_cons_succ])))
    refine HP.both ?_ ?_
    · have hz1 := (Nx.refl W0).alloc (.cells #[] 3)
      have hz2 := hz1.alloc (.cells #[] 199)
      refine CallStep.mk (by rfl) (fun K hK => ?_)
      go_simp
      refine hK.out _ _ (by exact (bDk.nx hz1).c0) ?_
      clear hK K
      try simp only [Act.put, List.setIfInBounds_toArray, List.set_cons_zero, List.set_cons_succ]
      refine HP.call ?_
      refine CallStep.mk (by rfl) (fun K hK => ?_)
      go_simp
      refine hK.out _ _ (by exact (bDk.nx hz2).c0) ?_
      clear hK K
      try simp only [Act.put, List.setIfInBounds_toArray, List.set_cons_zero, List.set_cons_succ]
      repeat (first | (refine HP.take (v := ?_) (by rfl) ?_ ?_; rotate_left; (· (intro w hSw; (try dsimp only at hSw); go_simp; try with_reducible rfl)); (try simp only [Act.put, List.setIfInBounds_toArray, List.set_cons_zero, List.set_cons_succ])) | (refine HP.skip (by rfl) ?_; (try simp only [Act.put, List.setIfInBounds_toArray, List.set_cons_zero, List.set_cons_succ])))
      refine HP.call ?_
      refine CallStep.mk (by rfl) (fun K hK => ?_)
      go_simp
      refine (l04Text_c 1 0 0 0 (some ⟨W0.heap.size, 0, none⟩) (some ⟨(W0.heap.size + 1), 0, none⟩) 0 0 0 [] [] _ (fun h => absurd h (by simp)) (fun h => absurd h (by simp)) (Nat.zero_le _) super_new).mono ?_; rintro e v3 ⟨rfl, hv3⟩
      go_wp2_with fail
      refine hK.out _ _ (by exact (bDk.nx (hz2.trans hv3)).c0) ?_
      clear hK K
      try simp only [Act.put, List.setIfInBounds_toArray, List.set_cons_zero, List.set_cons_succ]
      repeat (first | (refine HP.take (v := ?_) (by rfl) ?_ ?_; rotate_left; (· (intro w hSw; (try dsimp only at hSw); go_simp; try with_reducible rfl)); (try simp only [Act.put, List.setIfInBounds_toArray, List.set_cons_zero, List.set_cons_succ])) | (refine HP.skip (by rfl) ?_; (try simp only [Act.put, List.setIfInBounds_toArray, List.set_cons_zero, List.set_cons_succ])))
      have hrow2 : SetRow v3 gs noS := Own.nx hrk (hz2.trans hv3)
      have bD2 := bDk.nx (hz2.trans hv3)
      have hN2 := hNk.trans (hz2.trans hv3)
      have hcl := hrow2.cell (i := 0) (by omega)
      have hcf := hrow2.frozen 0
      refine HP.call ?_
      refine CallStep.mk (by rfl) (fun K hK => ?_)
      go_simp
      refine hK.out _ _ (by exact (bD2.far (p := ⟨gs, 0, none⟩) hne (.string (supT 1 0 0 0 [] []))).c0) ?_
      clear hK K
      try simp only [Act.put, List.setIfInBounds_toArray, List.set_cons_zero, List.set_cons_succ]
      refine HP.done ?_
      have hrow3 : SetRow (v3.setCell ⟨gs, 0, none⟩ (.string (supT 1 0 0 0 [] []))) gs (fmT xs 0) := SetRow.set hrow2 (by omega) noS_len
      have bD3 := bD2.far (p := ⟨gs, 0, none⟩) hne (.string (supT 1 0 0 0 [] []))
      have hN3 := hN2.setCell (p := ⟨gs, 0, none⟩) hgs (.string (supT 1 0 0 0 [] []))
      clear hcl hcf
      unfold supT at hrow3 bD3 hN3
      generalize v3.setCell ⟨gs, 0, none⟩ (.string (sealS (numsS (supN 1 0 0 0 []) ++ ⟨#[124]⟩ ++ jn (wds [])))) = W4 at *
      obtain ⟨n1, Hn1⟩ : ∃ g, Hid (W0.heap.size + 1 = g) := ⟨_, rfl⟩
      rw [Hn1.out]
      generalize W0.heap.size = n0 at *
      exact key n0 n1 W4 ⟨hrow3, bD3, hN3⟩
    · have hz1 := (Nx.refl W0).alloc (.cells #[] 199)
      have hz2 := hz1.alloc (.cells #[] 3)
      refine CallStep.mk (by rfl) (fun K hK => ?_)
      go_simp
      refine hK.out _ _ (by exact (bDk.nx hz1).c0) ?_
      clear hK K
      try simp only [Act.put, List.setIfInBounds_toArray, List.set_cons_zero, List.set_cons_succ]
      refine HP.call ?_
      refine CallStep.mk (by rfl) (fun K hK => ?_)
      go_simp
      refine hK.out _ _ (by exact (bDk.nx hz2).c0) ?_
      clear hK K
      try simp only [Act.put, List.setIfInBounds_toArray, List.set_cons_zero, List.set_cons_succ]
      repeat (first | (refine HP.take (v := ?_) (by rfl) ?_ ?_; rotate_left; (· (intro w hSw; (try dsimp only at hSw); go_simp; try with_reducible rfl)); (try simp only [Act.put, List.setIfInBounds_toArray, List.set_cons_zero, List.set_cons_succ])) | (refine HP.skip (by rfl) ?_; (try simp only [Act.put, List.setIfInBounds_toArray, List.set_cons_zero, List.set_cons_succ])))
      refine HP.call ?_
      refine CallStep.mk (by rfl) (fun K hK => ?_)
      go_simp
      refine (l04Text_c 1 0 0 0 (some ⟨(W0.heap.size + 1), 0, none⟩) (some ⟨W0.heap.size, 0, none⟩) 0 0 0 [] [] _ (fun h => absurd h (by simp)) (fun h => absurd h (by simp)) (Nat.zero_le _) super_new).mono ?_; rintro e v3 ⟨rfl, hv3⟩
      go_wp2_with fail
      refine hK.out _ _ (by exact (bDk.nx (hz2.trans hv3)).c0) ?_
      clear hK K
      try simp only [Act.put, List.setIfInBounds_toArray, List.set_cons_zero, List.set_cons_succ]
      repeat (first | (refine HP.take (v := ?_) (by rfl) ?_ ?_; rotate_left; (· (intro w hSw; (try dsimp only at hSw); go_simp; try with_reducible rfl)); (try simp only [Act.put, List.setIfInBounds_toArray, List.set_cons_zero, List.set_cons_succ])) | (refine HP.skip (by rfl) ?_; (try simp only [Act.put, List.setIfInBounds_toArray, List.set_cons_zero, List.set_cons_succ])))
      have hrow2 : SetRow v3 gs noS := Own.nx hrk (hz2.trans hv3)
      have bD2 := bDk.nx (hz2.trans hv3)
      have hN2 := hNk.trans (hz2.trans hv3)
      have hcl := hrow2.cell (i := 0) (by omega)
      have hcf := hrow2.frozen 0
      refine HP.call ?_
      refine CallStep.mk (by rfl) (fun K hK => ?_)
      go_simp
      refine hK.out _ _ (by exact (bD2.far (p := ⟨gs, 0, none⟩) hne (.string (supT 1 0 0 0 [] []))).c0) ?_
      clear hK K
      try simp only [Act.put, List.setIfInBounds_toArray, List.set_cons_zero, List.set_cons_succ]
      refine HP.done ?_
      have hrow3 : SetRow (v3.setCell ⟨gs, 0, none⟩ (.string (supT 1 0 0 0 [] []))) gs (fmT xs 0) := SetRow.set hrow2 (by omega) noS_len
      have bD3 := bD2.far (p := ⟨gs, 0, none⟩) hne (.string (supT 1 0 0 0 [] []))
      have hN3 := hN2.setCell (p := ⟨gs, 0, none⟩) hgs (.string (supT 1 0 0 0 [] []))
      clear hcl hcf
      unfold supT at hrow3 bD3 hN3
      generalize v3.setCell ⟨gs, 0, none⟩ (.string (sealS (numsS (supN 1 0 0 0 []) ++ ⟨#[124]⟩ ++ jn (wds [])))) = W4 at *
      obtain ⟨n1, Hn1⟩ : ∃ g, Hid (W0.heap.size + 1 = g) := ⟨_, rfl⟩
      rw [Hn1.out]
      generalize W0.heap.size = n0 at *
      exact key n1 n0 W4 ⟨hrow3, bD3, hN3⟩
  intro n0 n1 W4 ⟨hrow4, bD4, hN4⟩
  go_wp2_with fail
  go_loopw [4] (fun i wr => ∃ k : Nat, k ≤ 8 ∧ i = .int .i64 k ∧ SetRow wr gs (fmT xs k) ∧ Box wr gD 38 #[.slice (some ⟨gs, 0, none⟩) 64 c, .slice A2 0 c2] ∧ Nx W wr) (fun i _ => 8 - (intOf i).toNat)
  case atStart => exact ⟨0, by omega, rfl, hrow4, bD4, hN4⟩
  case round =>
    obtain ⟨k, hk, rfl, hrow, bD, hN⟩ := hrel
    clear hrow4 bD4 hN4
    have hlen := fmT_len xs k
    by_cases hlt : k < 8
    case neg =>
      obtain rfl : k = 8 := by omega
      have hx5 := hx0.trans hN
      have r5 := r0.nx hN
      have d0 := bD.c0
      have d1 := bD.c1
      have hSS : SlS wr (gR + 1) (some ⟨gs, 0, none⟩) 64 (fmT xs 8) := ⟨hlen, fun _ => ⟨gs, rfl, by omega, by unfold OwnS; rw [hlen]; exact hrow⟩⟩
      have hWW : SlW wr (gR + 1) A2 0 [] := ⟨rfl, fun h => absurd h (by omega)⟩
      have s0 := r5.c0; have s1 := r5.c1; have sf0 := r5.frozen 0; have sf1 := r5.frozen 1; have sl := r5.lt
      go_wp2
      obtain ⟨q0, q1, hSf, hWf, hxf⟩ := fin_box c c2 r5 hSS hWW (by omega) (by omega) hx5 (by omega)
      generalize (wr.setCell ⟨gR, 0, none⟩ (.slice (some ⟨gs, 0, none⟩) 64 c)).setCell ⟨gR, 1, none⟩ (.slice A2 0 c2) = Wf at *
      exact bodyPost_ret (v := .agg #[.slice (some ⟨gs, 0, none⟩) 64 c, .slice A2 0 c2]) (by simp [results, Tryz.results93, go_sem, q0, q1]) rfl ⟨_, 64, c, A2, 0, c2, rfl, hSf, hWf, hxf⟩
    obtain ⟨bb, off, rfl, hbb, p00⟩ := h' k hlt _ _ hx0 hB
    have hv := Hv.out k hlt
    obtain ⟨q, Hq⟩ : ∃ q : Nat, Hid (xs.getD k 0 = (q : Int)) := ⟨(xs.getD k 0).toNat, Lib.hid (by omega)⟩
    have hq9 : q ≤ 999999 := by have := Hq.out; omega
    rw [Hq.out] at p00
    clear hv
    have hbg : bb < W.heap.size := Nat.lt_of_lt_of_le hbb (Nat.le_trans hB hx0.size)
    have p0 := (hN.cell (p := ⟨bb, off + k, none⟩) hbg).trans p00
    obtain ⟨z, Hz⟩ : ∃ z : Nat, Hid (2 + k = z) := ⟨_, rfl⟩
    have h2k : (2 : Int) + (k : Int) = (z : Int) := by have := Hz.out; omega
    have hz64 : z < 64 := by have := Hz.out; omega
    have hzi : (z : Int) < 64 := by omega
    have hwz : IntKind.i64.wrap (z : Int) = (z : Int) := IntWalk.i64_in _ (by omega)
    go_wp2_with fail
    refine wp_region_lex [false, false, false, false, false, false, false, false, true, true, false, true] (fun w' => w'.cell? ⟨gD, 0, none⟩ = some (.slice (some ⟨gs, 0, none⟩) 64 c) ∧ w'.cell? ⟨bb, off + k, none⟩ = some (.int .i64 (q : Int))) (by kernel_rfl) (by kernel_rfl) rfl (by kernel_rfl) (fun _ _ d _ _ h => by cases d <;> exact h) (by exact ⟨bD.c0, p0⟩) ?_
    repeat (first | (refine HL.take (v := ?_) (by rfl) ?_ ?_; rotate_left; (· (intro w hSw; (try dsimp only at hSw); go_simp; try with_reducible rfl)); (try simp only [Act.put, List.setIfInBounds_toArray, List.set_cons_zero, List.set_cons_succ])) | (refine HL.skip (by rfl) ?_; (try simp only [Act.put, List.setIfInBounds_toArray, List.set_cons_zero, List.set_cons_succ])))
    refine HL.call (by rfl) (fun K hK => ?_)
    go_simp
    refine (l02Six_c q _ hq9).mono ?_; rintro e v1 ⟨rfl, hk1⟩; have b1 := (bD.nx (Nx.refl _).drew).nx hk1; have p1 := ((Nx.refl wr).drew.trans hk1).cell (p := ⟨bb, off + k, none⟩) (Nat.lt_of_lt_of_le hbg hN.size) |>.trans p0; have hr1 : SetRow v1 gs (fmT xs k) := Own.nx hrow ((Nx.refl wr).drew.trans hk1); have hN1 := hN.trans ((Nx.refl wr).drew.trans hk1)
    go_wp2_with fail
    refine hK.out _ _ (by exact ⟨b1.c0, p1⟩) ?_
    clear hK K
    try simp only [Act.put, List.setIfInBounds_toArray, List.set_cons_zero, List.set_cons_succ]
    refine HL.call (by rfl) (fun K hK => ?_)
    go_simp
    refine (l02Seal_s ⟨(pad 6 q).toArray⟩ _ (by rw [pad6_size]; omega)).mono ?_; rintro e v2 ⟨rfl, hk2⟩; have b2 := b1.nx hk2; have p2 := hk2.cell (p := ⟨bb, off + k, none⟩) (Nat.lt_of_lt_of_le hbg hN1.size) |>.trans p1; have hr2 : SetRow v2 gs (fmT xs k) := Own.nx hr1 hk2; have hN2 := hN1.trans hk2; have hcl := hr2.cell (i := z) (by omega); have hcf := hr2.frozen z
    go_wp2_with fail
    refine hK.out _ _ (by exact ⟨b2.c0, p2⟩) ?_
    clear hK K
    try simp only [Act.put, List.setIfInBounds_toArray, List.set_cons_zero, List.set_cons_succ]
    repeat (first | (refine HL.take (v := ?_) (by rfl) ?_ ?_; rotate_left; (· (intro w hSw; (try dsimp only at hSw); go_simp; try with_reducible rfl)); (try simp only [Act.put, List.setIfInBounds_toArray, List.set_cons_zero, List.set_cons_succ])) | (refine HL.skip (by rfl) ?_; (try simp only [Act.put, List.setIfInBounds_toArray, List.set_cons_zero, List.set_cons_succ])))
    refine HL.call (by rfl) (fun K hK => ?_)
    go_simp
    refine hK.out _ _ (by exact ⟨(b2.far (p := ⟨gs, z, none⟩) hne (.string (sealS ⟨(pad 6 q).toArray⟩))).c0, ((hN2.setCell (p := ⟨gs, z, none⟩) hgs (.string (sealS ⟨(pad 6 q).toArray⟩))).cell (p := ⟨bb, off + k, none⟩) hbg).trans p00⟩) ?_
    clear hK K
    try simp only [Act.put, List.setIfInBounds_toArray, List.set_cons_zero, List.set_cons_succ]
    refine HL.done ?_
    have hr3 : SetRow (v2.setCell ⟨gs, z, none⟩ (.string (sealS ⟨(pad 6 q).toArray⟩))) gs (fmT xs (k + 1)) := by
      have := hr2.set (a := z) (s := sealS ⟨(pad 6 q).toArray⟩) (by omega) hlen
      have e : fmT xs (k + 1) = (fmT xs k).set z (sealS ⟨(pad 6 q).toArray⟩) := by show (fmT xs k).set (2 + k) (sealS (numsS [(xs.getD k 0).toNat])) = _; rw [Hq.out, numsS_one, Hz.out]; rfl
      rw [e]; exact this
    have b3 := b2.far (p := ⟨gs, z, none⟩) hne (.string (sealS ⟨(pad 6 q).toArray⟩))
    have hN3 := hN2.setCell (p := ⟨gs, z, none⟩) hgs (.string (sealS ⟨(pad 6 q).toArray⟩))
    clear hcl hcf hr2 hr1 b1 b2 hN1 hN2 p0 p1 p2 p00
    generalize v2.setCell ⟨gs, z, none⟩ (.string (sealS ⟨(pad 6 q).toArray⟩)) = W9 at *
    go_wp2
    go_roundw
    case rel => exact ⟨k + 1, by omega, by go_num, hr3, b3, hN3⟩
    case measure => simp [intOf]; omega
end Go.Proofs.YtehahodomfbpjaaGreatDoor
