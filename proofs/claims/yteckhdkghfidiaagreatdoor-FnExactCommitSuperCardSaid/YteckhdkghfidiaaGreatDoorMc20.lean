/-
  Texts of the proof, put together in their order: Shf, Sti, To.
  Conditions: those of each.
-/
import Derived.Test.YteckhdkghfidiaaGreatDoorMc19
import Derived.Shelf.Strings.OnBuilder
import Derived.Shelf.Strconv.Itoa3
import Derived.Shelf.LaysM
import Derived.Test.YteckhdkghfidiaaGreatDoorProg
import Derived.Lib.AppendIntMem
import Derived.Outline
/- The library contracts of strings.Join and strconv.Itoa at this program (the laying alone, printed by the command that lays them). Conditions: none. -/
namespace Go.Proofs
open Go.Shelf
def Tryz.lays156_ren : Go.Shelf.Ren := ⟨fun | 156 => 122 | 165 => 143 | 166 => 119 | 169 => 120 | 240 => 141 | 241 => 153 | 276 => 151 | 277 => 165 | n => n, fun | 31 => 32 | 9 => 9 | 3 => 3 | 4 => 4 | 0 => 0 | 20 => 20 | 72 => 151 | 76 => 152 | 70 => 149 | 37 => 22 | 75 => 69 | 127 => 176 | 164 => 159 | 5 => 5 | 80 => 66 | n => n, fun | n => n⟩
theorem Tryz.lays156 : Go.Proofs.Lays.n156 Tryz.prog Tryz.lays156_ren := {
  mixed := by kernel_rfl
  f156 := Tryz.func122.trans (congrArg some (by kernel_rfl))
  f165 := Tryz.func143.trans (congrArg some (by kernel_rfl))
  f166 := Tryz.func119.trans (congrArg some (by kernel_rfl))
  f169 := Tryz.func120.trans (congrArg some (by kernel_rfl))
  f240 := Tryz.func141.trans (congrArg some (by kernel_rfl))
  f241 := Tryz.func153.trans (congrArg some (by kernel_rfl))
  f276 := Tryz.func151.trans (congrArg some (by kernel_rfl))
  f277 := Tryz.func165.trans (congrArg some (by kernel_rfl))
  t0 := Tryz.underlying0
  a0 := Tryz.isAgg0
  z0 := Tryz.sizeOf0
  v0 := Tryz.zeroValue0
  t3 := Tryz.underlying3
  a3 := Tryz.isAgg3
  z3 := Tryz.sizeOf3
  v3 := Tryz.zeroValue3
  t4 := Tryz.underlying4
  a4 := Tryz.isAgg4
  z4 := Tryz.sizeOf4
  v4 := Tryz.zeroValue4
  t9 := Tryz.underlying9
  a9 := Tryz.isAgg9
  z9 := Tryz.sizeOf9
  v9 := Tryz.zeroValue9
  t20 := Tryz.underlying20
  a20 := Tryz.isAgg20
  z20 := Tryz.sizeOf20
  v20 := Tryz.zeroValue20
  t31 := Tryz.underlying32
  a31 := Tryz.isAgg32
  z31 := Tryz.sizeOf32
  v31 := Tryz.zeroValue32
  t37 := Tryz.underlying22
  a37 := Tryz.isAgg22
  z37 := Tryz.sizeOf22
  v37 := Tryz.zeroValue22
  t70 := Tryz.underlying149
  a70 := Tryz.isAgg149
  z70 := Tryz.sizeOf149
  v70 := Tryz.zeroValue149
  t72 := Tryz.underlying151
  a72 := Tryz.isAgg151
  z72 := Tryz.sizeOf151
  v72 := Tryz.zeroValue151
  t75 := Tryz.underlying69
  a75 := Tryz.isAgg69
  z75 := Tryz.sizeOf69
  v75 := Tryz.zeroValue69
  t76 := Tryz.underlying152
  a76 := Tryz.isAgg152
  z76 := Tryz.sizeOf152
  v76 := Tryz.zeroValue152
  t127 := Tryz.underlying176
  a127 := Tryz.isAgg176
  z127 := Tryz.sizeOf176
  v127 := Tryz.zeroValue176
  t164 := Tryz.underlying159
  a164 := Tryz.isAgg159
  z164 := Tryz.sizeOf159
  v164 := Tryz.zeroValue159 }
def Tryz.laysM171_ren : Go.Shelf.Ren := ⟨fun | 171 => 121 | 243 => 142 | 246 => 152 | 283 => 161 | 284 => 162 | 285 => 163 | 286 => 164 | 129 => 172 | 317 => 171 | 318 => 173 | 319 => 174 | 320 => 175 | 337 => 177 | 338 => 178 | n => n, fun | 3 => 3 | 9 => 9 | 2 => 2 | 4 => 4 | 171 => 202 | 0 => 0 | 53 => 203 | 37 => 22 | 5 => 5 | 173 => 206 | 212 => 215 | 51 => 209 | 20 => 20 | 213 => 216 | 46 => 200 | 232 => 223 | 233 => 224 | n => n, fun | 17 => 4 | 18 => 7 | 19 => 8 | n => n⟩
theorem Tryz.laysM171 : Go.Proofs.LaysM.n171 Tryz.prog Tryz.laysM171_ren := {
  mixed := by kernel_rfl
  f129 := Tryz.func172.trans (congrArg some (by kernel_rfl))
  f171 := Tryz.func121.trans (congrArg some (by kernel_rfl))
  f243 := Tryz.func142.trans (congrArg some (by kernel_rfl))
  f246 := Tryz.func152.trans (congrArg some (by kernel_rfl))
  f283 := Tryz.func161.trans (congrArg some (by kernel_rfl))
  f284 := Tryz.func162.trans (congrArg some (by kernel_rfl))
  f285 := Tryz.func163.trans (congrArg some (by kernel_rfl))
  f286 := Tryz.func164.trans (congrArg some (by kernel_rfl))
  f317 := Tryz.func171.trans (congrArg some (by kernel_rfl))
  f318 := Tryz.func173.trans (congrArg some (by kernel_rfl))
  f319 := Tryz.func174.trans (congrArg some (by kernel_rfl))
  f320 := Tryz.func175.trans (congrArg some (by kernel_rfl))
  f337 := Tryz.func177.trans (congrArg some (by kernel_rfl))
  f338 := Tryz.func178.trans (congrArg some (by kernel_rfl))
  t0 := Tryz.underlying0
  a0 := Tryz.isAgg0
  z0 := Tryz.sizeOf0
  v0 := Tryz.zeroValue0
  t2 := Tryz.underlying2
  a2 := Tryz.isAgg2
  z2 := Tryz.sizeOf2
  v2 := Tryz.zeroValue2
  t3 := Tryz.underlying3
  a3 := Tryz.isAgg3
  z3 := Tryz.sizeOf3
  v3 := Tryz.zeroValue3
  t4 := Tryz.underlying4
  a4 := Tryz.isAgg4
  z4 := Tryz.sizeOf4
  v4 := Tryz.zeroValue4
  t5 := Tryz.underlying5
  a5 := Tryz.isAgg5
  z5 := Tryz.sizeOf5
  v5 := Tryz.zeroValue5
  t9 := Tryz.underlying9
  a9 := Tryz.isAgg9
  z9 := Tryz.sizeOf9
  v9 := Tryz.zeroValue9
  t20 := Tryz.underlying20
  a20 := Tryz.isAgg20
  z20 := Tryz.sizeOf20
  v20 := Tryz.zeroValue20
  t37 := Tryz.underlying22
  a37 := Tryz.isAgg22
  z37 := Tryz.sizeOf22
  v37 := Tryz.zeroValue22
  t46 := Tryz.underlying200
  a46 := Tryz.isAgg200
  z46 := Tryz.sizeOf200
  v46 := Tryz.zeroValue200
  t51 := Tryz.underlying209
  a51 := Tryz.isAgg209
  z51 := Tryz.sizeOf209
  v51 := Tryz.zeroValue209
  t53 := Tryz.underlying203
  a53 := Tryz.isAgg203
  z53 := Tryz.sizeOf203
  v53 := Tryz.zeroValue203
  t171 := Tryz.underlying202
  a171 := Tryz.isAgg202
  z171 := Tryz.sizeOf202
  v171 := Tryz.zeroValue202
  t173 := Tryz.underlying206
  a173 := Tryz.isAgg206
  z173 := Tryz.sizeOf206
  v173 := Tryz.zeroValue206
  t212 := Tryz.underlying215
  a212 := Tryz.isAgg215
  z212 := Tryz.sizeOf215
  v212 := Tryz.zeroValue215
  t213 := Tryz.underlying216
  a213 := Tryz.isAgg216
  z213 := Tryz.sizeOf216
  t232 := Tryz.underlying223
  a232 := Tryz.isAgg223
  z232 := Tryz.sizeOf223
  v232 := Tryz.zeroValue223
  t233 := Tryz.underlying224
  a233 := Tryz.isAgg224
  z233 := Tryz.sizeOf224
  v233 := Tryz.zeroValue224
  g17 := by kernel_rfl
  g18 := by kernel_rfl
  g19 := by kernel_rfl
  i0 := by kernel_rfl
  i2 := by kernel_rfl
  i3 := by kernel_rfl
  i4 := by kernel_rfl
  i5 := by kernel_rfl
  i9 := by kernel_rfl
  i20 := by kernel_rfl
  i37 := by kernel_rfl
  i46 := by kernel_rfl
  i51 := by kernel_rfl
  i53 := by kernel_rfl
  i171 := by kernel_rfl
  i173 := by kernel_rfl
  i212 := by kernel_rfl
  i232 := by kernel_rfl
  i233 := by kernel_rfl
  m17 := by kernel_rfl
  m18 := by kernel_rfl
  m19 := by kernel_rfl }
theorem Tryz.Builder_Extra_156 : Builder.Extra Tryz.prog Tryz.lays156_ren := {
  sizeBuilder := by kernel_rfl
  liesBuilder := by kernel_rfl
  t5 := Tryz.underlying5
  a5 := Tryz.isAgg5
  z5 := Tryz.sizeOf5
  v5 := Tryz.zeroValue5
  infoByte := by kernel_rfl
  cellsByte := by kernel_rfl
  sizeByte := by kernel_rfl
  neB5 := by decide }
end Go.Proofs
/- The program's text of a super: marksText, Super.text, SuperText. Conditions: the library's table of powers of ten holds them; what is read can be read. -/
namespace Go.Proofs.YteckhdkghfidiaaGreatDoor
set_option linter.unusedVariables false
set_option maxRecDepth 100000
open Go.RowKit

/-- The library's table. -/
def Tab (w : World) : Prop := Lib.TabIs Tryz.prog w "internal/strconv.uint64pow10" .u64 Lib.pow10Tab
theorem Tab.nx {w w' : World} (h : Tab w) (hb : Nx w w') : Tab w' := by
  unfold Tab Lib.TabIs at h ⊢
  unfold World.var? at h ⊢
  cases hg : Tryz.prog.globalNamed "internal/strconv.uint64pow10" with
  | none => simp [hg] at h
  | some g =>
    simp only [hg, Option.bind_some] at h ⊢
    have hlt : g < w.heap.size := by
      rcases Nat.lt_or_ge g w.heap.size with h' | h'
      · exact h'
      · simp [Array.getElem?_eq_none h'] at h
    rw [hb.block g hlt]
    exact h
theorem digs_dec : ∀ n : Nat, Lib.decDigits n = digs n := by
  intro n
  induction n using Nat.strongRecOn with
  | _ n ih =>
    rw [Lib.decDigits, digs]
    by_cases h : n < 10
    · rw [dif_pos h, if_pos h]
    · rw [dif_neg h, if_neg h, ih (n / 10) (by omega)]
theorem itoa_digs (n : Nat) : Lib.itoa (n : Int) = digs n := by
  unfold Lib.itoa
  rw [if_neg (by omega), Int.toNat_natCast, digs_dec]
theorem itoa_c (n : Nat) (w : World) (hn : n ≤ 999999) (ht : Tab w) : Calls Tryz.prog 121 #[.int .i64 n] w fun e w' => e = .returned (.string ⟨(digs n).toArray⟩) ∧ Nx w w' := by
  refine (Any.strconv_Itoa Tryz.laysM171 (n : Int) (by omega) (by omega) w ht).mono ?_
  rintro e w' ⟨rfl, k, os, rfl⟩
  rw [itoa_digs]
  exact ⟨rfl, Lib.below_grow _ w (Nat.le_refl _) k os⟩
theorem join_c (A : Option Addr) (c lo : Nat) (ws : List ByteArray) (w : World) (h : Sl w lo A 9 ws.length (wdAt ws)) (hn : ws.length ≤ 4) (hc : ws.length ≤ c) (hw : ∀ k, (ws.getD k ByteArray.empty).size ≤ 13) :
    Calls Tryz.prog 122 #[.slice A ws.length c, .string ⟨#[44]⟩] w fun e w' => e = .returned (.string (jn ws)) ∧ Nx w w' := by
  rcases Nat.eq_zero_or_pos ws.length with hz | hp
  · have e0 : ws = [] := List.eq_nil_of_length_eq_zero hz
    subst e0
    refine (Any.strings_Join_none Tryz.lays156 Tryz.Builder_Extra_156 A c ⟨#[44]⟩ w).mono ?_
    rintro e w' ⟨rfl, rfl⟩
    exact ⟨rfl, Nx.refl _⟩
  · obtain ⟨g, rfl, _, ho⟩ := h hp
    have hj := jn_all hw
    refine (Any.strings_Join Tryz.lays156 Tryz.Builder_Extra_156 g 0 c ws ⟨#[44]⟩ w (fun j x hj => ?_) ho.lt (by omega) hc (by rw [ba_size] at hj; exact Nat.le_trans hj (by omega))).mono ?_
    · have hjl : j < ws.length := (List.getElem?_eq_some_iff.1 hj).1
      rw [Nat.zero_add, ho.cell hjl]
      unfold wdAt
      rw [List.getD_eq_getElem?_getD, hj]; rfl
    · rintro e w' ⟨rfl, hb⟩
      exact ⟨rfl, hb⟩
set_option maxHeartbeats 4000000 in
theorem marksText_c (A2 : Option Addr) (c2 B : Nat) (ms : List Mrk) (w : World) (h2 : Mks w B A2 ms) (hB : B ≤ w.heap.size) (hms : msB ms = true) (ht : Tab w) :
    Calls Tryz.prog 80 #[.slice A2 ms.length c2] w fun e w' => e = .returned (.string (jn (wds ms))) ∧ Nx w w' := by
  have HM := Lib.hid hms
  have HT := Lib.hid ht
  have hl4 : ms.length ≤ 4 := (msB_yes hms).1
  clear hms ht
  obtain ⟨i0, hi0, hz0, hz1, hz2⟩ := info_parts infoS
  have hmk := fun W => run_make_rowN (P := Tryz.prog) 32 9 i0 _ Tryz.underlying32 hi0 hz0 .i64 .i64 ms.length ms.length (Nat.le_refl _) (by rw [hz2]; omega) (by omega) W
  rw [hz1] at hmk
  have hmade := Own.made w #[Value.string ByteArray.empty] (ms.length * 1) 9
  rw [Nat.mul_one] at hmade
  go_enter Tryz.func80, Tryz.ntmps80
  go_wp2
  go_loopw [11] (fun i wr => ∃ k : Nat, k ≤ ms.length ∧ i = .int .i64 k ∧ Fill wr w.heap.size 9 ms.length k (wdAt (wds ms)) ∧ Nx w wr) (fun i _ => ms.length - (intOf i).toNat)
  case atStart => exact ⟨0, Nat.zero_le _, rfl, Fill.start hmade, (Nx.refl _).alloc _⟩
  case round =>
    obtain ⟨k, hk, rfl, hf, hnx⟩ := hrel
    by_cases hlt : k < ms.length
    · obtain ⟨bb, off, rfl, hb, k0, k1⟩ := (h2.below hnx hB).at_ hlt
      clear hmk hmade
      have hmq := msB_at HM.out hlt
      obtain ⟨⟨q0, q1'⟩, Hq'⟩ : ∃ q, Hid (ms.getD k mrZ = q) := ⟨_, rfl⟩
      rw [Hq'.out] at k0 k1 hmq
      obtain ⟨q1, Hq1⟩ : ∃ q : Nat, Hid (q1' = (q : Int)) := ⟨q1'.toNat, Lib.hid (by have := hmq.2.1; simp only at this; omega)⟩
      rw [Hq1.out] at k1 hmq Hq'
      obtain ⟨hs6, _, hq6⟩ := hmq
      simp only at k0 k1 hs6 hq6
      have Hq : Hid (ms.getD k mrZ = (q0, (q1 : Int))) := Hq'
      have hq7 : q1 ≤ 999999 := by omega
      have h61 : (⟨#[61]⟩ : ByteArray).size = 1 := rfl
      clear Hq1 hq6
      go_wp2_with fail
      have bq := Box.new wr 103 #[.string q0, .int .i64 q1]
      have hnxq := hnx.alloc (.cells #[.string q0, .int .i64 q1] 103)
      have hfq := hf.nx ((Nx.refl wr).alloc (.cells #[.string q0, .int .i64 q1] 103))
      generalize wr.alloc (.cells #[.string q0, .int .i64 q1] 103) = wq at *
      clear k0 k1
      have k0 := bq.c0
      have k1 := bq.c1
      refine wp_region_lex [false, false, false, false, false, false, false, true, false, false, true] (fun w' => w'.cell? ⟨wr.heap.size, 0, none⟩ = some (.string q0) ∧ w'.cell? ⟨wr.heap.size, 1, none⟩ = some (.int .i64 q1)) (by kernel_rfl) (by kernel_rfl) rfl (by kernel_rfl) (fun _ _ d _ _ h => by cases d <;> exact h) (by exact ⟨k0, k1⟩) ?_
      iterate 4 (refine HL.take (v := ?_) (by rfl) ?_ ?_; rotate_left; (· (intro w hSw; (try dsimp only at hSw); go_simp; try with_reducible rfl)); (try simp only [Act.put, List.setIfInBounds_toArray, List.set_cons_zero, List.set_cons_succ]))
      refine HL.take (v := .string (q0 ++ ⟨#[61]⟩)) (by rfl) (fun W _ => addS_run rfl rfl rfl (by omega)) ?_
      try simp only [Act.put, List.setIfInBounds_toArray, List.set_cons_zero, List.set_cons_succ]
      iterate 2 (refine HL.take (v := ?_) (by rfl) ?_ ?_; rotate_left; (· (intro w hSw; (try dsimp only at hSw); go_simp; try with_reducible rfl)); (try simp only [Act.put, List.setIfInBounds_toArray, List.set_cons_zero, List.set_cons_succ]))
      refine HL.call (by rfl) (fun K hK => ?_)
      go_simp
      refine (itoa_c q1 _ hq7 (HT.out.nx hnxq.drew)).mono ?_
      rintro e wd ⟨rfl, hnd⟩
      have hxd := hnxq.trans (Nx.drew_r hnd)
      have bd := bq.nx (Nx.drew_r hnd)
      have hfd := hfq.nx (Nx.drew_r hnd)
      have HW := Lib.hid (mkW_of q0 q1)
      obtain ⟨d, Hd⟩ : ∃ d : ByteArray, Hid ((⟨(digs q1).toArray⟩ : ByteArray) = d) := ⟨_, rfl⟩
      have hd6 : d.size ≤ 6 := by rw [← Hd.out]; have := (digs_len hq7).2; simp [ByteArray.size]; omega
      rw [Hd.out] at HW ⊢
      go_wp2_with fail
      refine hK.out _ _ (by exact ⟨bd.c0, bd.c1⟩) ?_
      clear hK K
      try simp only [Act.put, List.setIfInBounds_toArray, List.set_cons_zero, List.set_cons_succ]
      refine HL.take (v := .string ((q0 ++ ⟨#[61]⟩) ++ d)) (by rfl) (fun W _ => addS_run rfl rfl rfl (by rw [ByteArray.size_append]; omega)) ?_
      try simp only [Act.put, List.setIfInBounds_toArray, List.set_cons_zero, List.set_cons_succ]
      rw [HW.out]
      iterate 1 (refine HL.take (v := ?_) (by rfl) ?_ ?_; rotate_left; (· (intro w hSw; (try dsimp only at hSw); go_simp; try with_reducible rfl)); (try simp only [Act.put, List.setIfInBounds_toArray, List.set_cons_zero, List.set_cons_succ]))
      have hne : w.heap.size ≠ wr.heap.size := by have := hf.lt; omega
      obtain ⟨v0, hv0⟩ := hfd.some_ hlt
      have hfz := hfd.frozen k
      have hst := hfd.step (v := .string (mkW (q0, (q1 : Int)))) hlt (by unfold wdAt; rw [wds_at hlt, Hq.out])
      have hxs := hxd.setCell (p := ⟨w.heap.size, k, none⟩) (Nat.le_refl _) (.string (mkW (q0, (q1 : Int))))
      have bs := bd.far (p := ⟨w.heap.size, k, none⟩) (Ne.symm hne) (.string (mkW (q0, (q1 : Int))))
      refine HL.call (by rfl) (fun K hK => ?_)
      go_simp
      refine hK.out _ _ (by exact ⟨bs.c0, bs.c1⟩) ?_
      clear hK K
      try simp only [Act.put, List.setIfInBounds_toArray, List.set_cons_zero, List.set_cons_succ]
      refine HL.done ?_
      go_wp2
      go_roundw
      case rel => exact ⟨k + 1, by omega, by go_num, hst, hxs⟩
      case measure => simp [intOf]; omega
    · obtain rfl : k = ms.length := by omega
      have hS : Sl wr w.heap.size (some ⟨w.heap.size, 0, none⟩) 9 (wds ms).length (wdAt (wds ms)) := by rw [wds_len]; exact Sl.own hf.done (Nat.le_refl _)
      have Hwl := Lib.hid (wds_len ms)
      clear hmk hmade
      go_wp2_with fail
      have hjc := join_c (some ⟨w.heap.size, 0, none⟩) ms.length w.heap.size (wds ms) wr hS (by rw [wds_len]; exact hl4) (by rw [wds_len]; omega) (wds_size HM.out)
      rw [wds_len] at hjc
      refine hjc.mono ?_
      rintro e w4 ⟨rfl, hnx4⟩
      go_wp2
      go_ret
      exact ⟨rfl, hnx.trans hnx4⟩
set_option maxHeartbeats 4000000 in
theorem superText_c (g b p t : Int) (A A2 : Option Addr) (c c2 B : Nat) (xs : List Int) (ms : List Mrk) (w : World) (h : Ins w B A xs) (h2 : Mks w B A2 ms) (hB : B ≤ w.heap.size) (hok : superB g b p t xs ms = true) (ht : Tab w) :
    Calls Tryz.prog 32 #[.agg #[.int .i64 g, .int .i64 b, .int .i64 p, .int .i64 t, .slice A xs.length c, .slice A2 ms.length c2]] w fun e w' => e = .returned (.string (sealS (numsS (supN g b p t xs) ++ ⟨#[124]⟩ ++ jn (wds ms)))) ∧ Nx w w' := by
  have HK := Lib.hid hok
  have HT := Lib.hid ht
  have hl4 : ms.length ≤ 4 := (msB_yes (superB_yes hok).2.2.2.2.2).1
  have hl20 : xs.length ≤ 20 := (tbB_yes (superB_yes hok).2.2.2.2.1).1
  have HM := Lib.hid (superB_yes hok).2.2.2.2.2
  clear hok ht
  go_enter Tryz.func32, Tryz.ntmps32
  have b0 := Box.new w 26 #[.int .i64 g, .int .i64 b, .int .i64 p, .int .i64 t, .slice A xs.length c, .slice A2 ms.length c2]
  have hx0 := (Nx.refl w).alloc (.cells #[.int .i64 g, .int .i64 b, .int .i64 p, .int .i64 t, .slice A xs.length c, .slice A2 ms.length c2] 26)
  have b1 := b0.alloc (.cells #[.int .i64 g, .int .i64 b, .int .i64 p, .int .i64 t] 3)
  have hx1 := hx0.alloc (.cells #[.int .i64 g, .int .i64 b, .int .i64 p, .int .i64 t] 3)
  have hR1 := RowI.new4 (w.alloc (.cells #[.int .i64 g, .int .i64 b, .int .i64 p, .int .i64 t, .slice A xs.length c, .slice A2 ms.length c2] 26)) (B := w.heap.size) g b p t (by simp)
  simp only [World.size_alloc] at hR1
  have HX1 := Lib.hid hx1
  have HB1 := Lib.hid b1
  have HR1 := Lib.hid hR1
  clear hx1 b1 hR1 hx0 b0
  go_wp2_with (at_builtin; refine wpList_app4I rfl _ _ rfl w.heap.size (w.heap.size + 1) A c [g, b, p, t] xs rfl rfl rfl HR1.out (h.below HX1.out hB) (by omega) HX1.out.size ?_)
  intro A' k' w2 hR2' hG2
  have hx2 := hG2.nx w HX1.out (Nat.le_refl _)
  have b2 := hG2.box _ _ _ (by decide) HB1.out
  clear HX1 HB1 HR1 hG2
  have hR2 : RowI w2 w.heap.size (.slice A' (xs.length + 4) k') (supL g b p t xs) := hR2'
  clear hR2'
  obtain ⟨A5, c5', he5, hS5⟩ := hR2.sl
  clear hR2
  rw [supL_len] at he5 hS5
  injection he5 with e5 _ e6
  subst e5 e6
  have hrow := supN_row HK.out (supN_len g b p t xs).symm hS5.row
  have Hl := Lib.hid (supN_len g b p t xs)
  rw [← Hl.out]
  go_wp2_with fail
  obtain ⟨nS, HnS⟩ : ∃ s, Hid (numsS (supN g b p t xs) = s) := ⟨_, rfl⟩
  obtain ⟨jS, HjS⟩ : ∃ s, Hid (jn (wds ms) = s) := ⟨_, rfl⟩
  have hns : nS.size ≤ 144 := by rw [← HnS.out, numsS_size, Hl.out]; omega
  have hjs : jS.size ≤ 56 := by rw [← HjS.out]; have := jn_all (wds_size HM.out); rw [wds_len] at this; omega
  have h124 : (⟨#[124]⟩ : ByteArray).size = 1 := rfl
  have k5 := b2.d6.2.2.2.2.2
  refine wp_region_plan (.t 0 (.t 3 (.t 4 (.c 1 (.t 2 (.c 5 (.t 6 (.c 7 (.t 8 .e))))))))) (fun w' => w'.cell? ⟨w.heap.size, 5, none⟩ = some (.slice A2 ms.length c2)) (by kernel_rfl) (by kernel_rfl) rfl (by kernel_rfl) (fun _ _ d _ _ h => by cases d <;> exact h) (by exact k5) ?_
  simp only [psOf, List.getD_cons_zero, List.getD_cons_succ]
  iterate 3 (refine HP.take (v := ?_) (by rfl) ?_ ?_; rotate_left; (· (intro w hSw; (try dsimp only at hSw); go_simp; try with_reducible rfl)); (try simp only [Act.put, List.setIfInBounds_toArray, List.set_cons_zero, List.set_cons_succ]))
  refine HP.call ?_
  refine CallStep.mk (by rfl) (fun K hK => ?_)
  go_simp
  refine (numbersText_c A' _ _ (supN g b p t xs) _ (hrow.below (Nx.refl w2).drew (Nat.le_refl _)) (Nat.le_refl _) (supN_all HK.out) (by have := Hl.out; omega) (by have := Hl.out; omega)).mono ?_
  rintro e w3 ⟨he, hnx3⟩
  have he' := he.trans (ret_str HnS.out)
  subst he'
  clear he
  have b3 := b2.nx (Nx.drew_r hnx3)
  have hx3 := hx2.trans (Nx.drew_r hnx3)
  go_wp2_with fail
  refine hK.out _ _ (by exact b3.d6.2.2.2.2.2) ?_
  clear hK K
  try simp only [Act.put, List.setIfInBounds_toArray, List.set_cons_zero, List.set_cons_succ]
  refine HP.take (v := .string (nS ++ ⟨#[124]⟩)) (by rfl) (fun W _ => addS_run rfl rfl rfl (by omega)) ?_
  try simp only [Act.put, List.setIfInBounds_toArray, List.set_cons_zero, List.set_cons_succ]
  refine HP.call ?_
  refine CallStep.mk (by rfl) (fun K hK => ?_)
  go_simp
  refine (marksText_c A2 c2 B ms _ (h2.below hx3 hB) (Nat.le_trans hB hx3.size) HM.out (HT.out.nx hx3)).mono ?_
  rintro e w4 ⟨he, hnx4⟩
  have he' := he.trans (ret_str HjS.out)
  subst he'
  clear he
  have b4 := b3.nx hnx4
  have hx4 := hx3.trans hnx4
  go_wp2_with fail
  refine hK.out _ _ (by exact b4.d6.2.2.2.2.2) ?_
  clear hK K
  try simp only [Act.put, List.setIfInBounds_toArray, List.set_cons_zero, List.set_cons_succ]
  refine HP.take (v := .string (nS ++ ⟨#[124]⟩ ++ jS)) (by rfl) (fun W _ => addS_run rfl rfl rfl (by rw [ByteArray.size_append]; omega)) ?_
  try simp only [Act.put, List.setIfInBounds_toArray, List.set_cons_zero, List.set_cons_succ]
  refine HP.call ?_
  refine CallStep.mk (by rfl) (fun K hK => ?_)
  go_simp
  have HZ := Lib.hid (show sealS (nS ++ ⟨#[124]⟩ ++ jS) = sealS (numsS (supN g b p t xs) ++ ⟨#[124]⟩ ++ jn (wds ms)) by rw [HnS.out, HjS.out])
  refine (sealed_c _ _ (by rw [ByteArray.size_append, ByteArray.size_append]; omega)).mono ?_
  rintro e w5 ⟨he, hnx5⟩
  have he' := he.trans (ret_str HZ.out)
  subst he'
  clear he
  have b5 := b4.nx hnx5
  have hx5 := hx4.trans hnx5
  go_wp2_with fail
  refine hK.out _ _ (by exact b5.d6.2.2.2.2.2) ?_
  clear hK K
  try simp only [Act.put, List.setIfInBounds_toArray, List.set_cons_zero, List.set_cons_succ]
  iterate 1 (refine HP.take (v := ?_) (by rfl) ?_ ?_; rotate_left; (· (intro w hSw; (try dsimp only at hSw); go_simp; try with_reducible rfl)); (try simp only [Act.put, List.setIfInBounds_toArray, List.set_cons_zero, List.set_cons_succ]))
  refine HP.done ?_
  go_wp2
  go_ret
  exact ⟨rfl, hx5⟩
set_option maxHeartbeats 2000000 in
theorem implSuperText_c (g b p t : Int) (A A2 : Option Addr) (c c2 B : Nat) (xs : List Int) (ms : List Mrk) (w : World) (h : Ins w B A xs) (h2 : Mks w B A2 ms) (hB : B ≤ w.heap.size) (hn : xs.length ≤ 1048576) (hn2 : ms.length ≤ 1048576) (hc : xs.length ≤ c) (hm : AllM ms) (ht : Tab w) :
    Calls Tryz.prog 7 #[.agg #[.int .i64 g, .int .i64 b, .int .i64 p, .int .i64 t, .slice A xs.length c, .slice A2 ms.length c2]] w fun e w' => e = .returned (.tuple #[.string (supS g b p t xs ms), .int .i64 (codeB (superB g b p t xs ms) 1)]) ∧ Nx w w' := by
  cases hf : superB g b p t xs ms with
  | false =>
    have HF := Lib.hid hf
    have HS := Lib.hid (show (⟨#[]⟩ : ByteArray) = supS g b p t xs ms by unfold supS; rw [hf]; rfl)
    clear hf
    have hx0 := (Nx.refl w).alloc (.cells #[.int .i64 g, .int .i64 b, .int .i64 p, .int .i64 t, .slice A xs.length c, .slice A2 ms.length c2] 26)
    go_enter Tryz.func7, Tryz.ntmps7
    go_wp2_with fail
    refine (superRight_c g b p t A A2 c c2 B xs ms _ (h.below hx0 hB) (h2.below hx0 hB) (Nat.le_trans hB hx0.size) hn hn2 hc hm).mono ?_
    rintro e w1 ⟨rfl, hnx1⟩
    rw [HF.out]
    go_wp2
    go_ret2
    exact ⟨ret_tup HS.out rfl, hx0.trans hnx1⟩
  | true =>
    have HF := Lib.hid hf
    have HS := Lib.hid (show sealS (numsS (supN g b p t xs) ++ ⟨#[124]⟩ ++ jn (wds ms)) = supS g b p t xs ms by unfold supS; rw [hf]; rfl)
    clear hf
    go_enter Tryz.func7, Tryz.ntmps7
    go_wp2_with fail
    have b0 := Box.new w 26 #[.int .i64 g, .int .i64 b, .int .i64 p, .int .i64 t, .slice A xs.length c, .slice A2 ms.length c2]
    have hx0 := (Nx.refl w).alloc (.cells #[.int .i64 g, .int .i64 b, .int .i64 p, .int .i64 t, .slice A xs.length c, .slice A2 ms.length c2] 26)
    generalize w.alloc (.cells #[.int .i64 g, .int .i64 b, .int .i64 p, .int .i64 t, .slice A xs.length c, .slice A2 ms.length c2] 26) = W at *
    refine (superRight_c g b p t A A2 c c2 B xs ms _ (h.below hx0 hB) (h2.below hx0 hB) (Nat.le_trans hB hx0.size) hn hn2 hc hm).mono ?_
    rintro e w1 ⟨rfl, hnx1⟩
    rw [HF.out]
    obtain ⟨c0, c1, c2, c3, c4, c5⟩ := (b0.nx hnx1).d6
    have hx1 := hx0.trans hnx1
    go_wp2_with fail
    refine (superText_c g b p t A A2 _ _ B xs ms _ (h.below hx1 hB) (h2.below hx1 hB) (Nat.le_trans hB hx1.size) HF.out (ht.nx hx1)).mono ?_
    rintro e w2 ⟨he, hnx2⟩
    have he2 := he.trans (ret_str HS.out)
    subst he2
    clear he
    have hxz := hx1.trans hnx2
    go_wp2
    go_ret2
    exact ⟨rfl, hxz⟩
end Go.Proofs.YteckhdkghfidiaaGreatDoor
/- Contracts of the laws' functions that make the program's disks out of the laws' own. Conditions: what is copied can be read, and holds at most 1048576 elements. -/
namespace Go.Proofs.YteckhdkghfidiaaGreatDoor
set_option linter.unusedVariables false
open Go.RowKit

theorem info_str : (Tryz.prog.info? 9).map (fun i => (i.zero, i.size, i.bytes)) = some (some (.string ByteArray.empty), 1, 16) := by kernel_rfl
theorem info_wr : (Tryz.prog.info? 85).map (fun i => (i.zero, i.size, i.bytes)) = some (some (.agg #[.int .i64 0, .string ByteArray.empty]), 2, 24) := by kernel_rfl

set_option maxHeartbeats 1000000 in
theorem toStringS_c (A : Option Addr) (n c B : Nat) (ss : List ByteArray) (w : World) (h : Strs w B A n ss) (hB : B ≤ w.heap.size) (hn : n ≤ 1048576) :
    Calls Tryz.prog 53 #[.slice A n c] w (RetS w ss) := by
  obtain ⟨i0, hi0, hz0, hz1, hz2⟩ := info_parts info_str
  have hmk := fun W => run_make_rowN (P := Tryz.prog) 32 9 i0 _ Tryz.underlying32 hi0 hz0 .i64 .i64 n n (Nat.le_refl _) (by rw [hz2]; omega) (by omega) W
  rw [hz1] at hmk
  have hmade := Own.made w #[Value.string ByteArray.empty] n 9
  go_enter Tryz.func53, Tryz.ntmps53
  go_wp2
  go_loopw [4] (fun i wr => ∃ k : Nat, k ≤ n ∧ i = .int .i64 k ∧ Fill wr w.heap.size 9 n k (strAt ss) ∧ Nx w wr) (fun i _ => n - (intOf i).toNat)
  case atStart => exact ⟨0, Nat.zero_le _, rfl, Fill.start hmade, (Nx.refl _).alloc _⟩
  case round =>
    obtain ⟨k, hk, rfl, hf, hnx⟩ := hrel
    by_cases hlt : k < n
    · obtain ⟨b, off, rfl, hb, hc⟩ := (h.below hnx hB).at_ hlt
      obtain ⟨v, hv⟩ := hf.some_ hlt
      have hz := hf.frozen k
      clear hmk hmade
      obtain ⟨s, Hs⟩ : ∃ s, Hid (ss.getD k ByteArray.empty = s) := ⟨_, rfl⟩
      rw [Hs.out] at hc
      go_wp2
      go_roundw
      case rel => exact ⟨k + 1, by omega, by go_num, hf.step hlt (by unfold strAt; rw [Hs.out]), hnx.setCell (Nat.le_refl _) _⟩
      case measure => simp [intOf]; omega
    · obtain rfl : k = n := by omega
      go_wp2
      go_ret
      exact RetS.mk_own h.1 (Nat.le_refl _) (by have := hf.done; rw [← h.1] at this; exact this) hnx

set_option maxHeartbeats 1000000 in
theorem toWrite_c (a : Int) (s : ByteArray) (w : World) :
    Calls Tryz.prog 109 #[.agg #[.int .i64 a, .string s]] w fun e w' => e = .returned (.agg #[.int .i64 a, .string s]) ∧ Nx w w' := by
  go_enter Tryz.func109, Tryz.ntmps109
  go_wp2
  exact bodyPost_ret (v := .agg #[.int .i64 a, .string s]) (by simp [results, Tryz.results109, go_sem]) rfl ⟨rfl, ((((Nx.refl _).alloc _).alloc _).alloc _)⟩

set_option maxHeartbeats 1000000 in
theorem toWriteS_c (A : Option Addr) (n c B : Nat) (ws : List (Int × ByteArray)) (w : World) (h : Wrs w B A n ws) (hB : B ≤ w.heap.size) (hn : n ≤ 1048576) :
    Calls Tryz.prog 54 #[.slice A n c] w (RetW w ws) := by
  obtain ⟨i0, hi0, hz0, hz1, hz2⟩ := info_parts info_wr
  have hmk := fun W => run_make_rowN (P := Tryz.prog) 33 85 i0 _ Tryz.underlying33 hi0 hz0 .i64 .i64 n n (Nat.le_refl _) (by rw [hz2]; omega) (by omega) W
  rw [hz1] at hmk
  have hmade := Own.made w #[Value.int .i64 0, Value.string ByteArray.empty] (n * 2) 85
  go_enter Tryz.func54, Tryz.ntmps54
  go_wp2
  go_loopw [4] (fun i wr => ∃ k : Nat, k ≤ n ∧ i = .int .i64 k ∧ Fill wr w.heap.size 85 (n * 2) (k * 2) (wrAt ws) ∧ Nx w wr) (fun i _ => n - (intOf i).toNat)
  case atStart => exact ⟨0, Nat.zero_le _, rfl, Fill.start hmade, (Nx.refl _).alloc _⟩
  case round =>
    obtain ⟨k, hk, rfl, hf, hnx⟩ := hrel
    by_cases hlt : k < n
    · obtain ⟨b, off, rfl, hb, hc0, hc1⟩ := (h.below hnx hB).at_ hlt
      clear hmk hmade
      obtain ⟨⟨a, s⟩, Hs⟩ : ∃ s, Hid (ws.getD k (0, ByteArray.empty) = s) := ⟨_, rfl⟩
      rw [Hs.out] at hc0 hc1
      go_wp2_with fail
      refine (toWrite_c a s _).mono ?_
      rintro e w1 ⟨rfl, hnx1⟩
      have hf1 := hf.nx hnx1
      obtain ⟨v0, hv0⟩ := hf1.some_ (i := k * 2) (by omega)
      obtain ⟨v1, hv1⟩ := hf1.some_ (i := k * 2 + 1) (by omega)
      have hz0 := hf1.frozen (k * 2)
      have hz1 := hf1.frozen (k * 2 + 1)
      clear hc0 hc1
      go_wp2
      go_roundw
      case rel =>
        refine ⟨k + 1, by omega, by go_num, ?_, ((hnx.trans hnx1).setCell (Nat.le_refl _) _).setCell (Nat.le_refl _) _⟩
        have e2 : (k + 1) * 2 = k * 2 + 1 + 1 := by omega
        rw [e2]
        exact (hf1.step (by omega) (by rw [wrAt_even, Hs.out])).step (by omega) (by rw [wrAt_odd, Hs.out])
      case measure => simp [intOf]; omega
    · obtain rfl : k = n := by omega
      go_wp2
      go_ret
      exact RetW.mk_own h.1 (Nat.le_refl _) (by have := hf.done; rw [← h.1] at this; exact this) hnx

set_option maxHeartbeats 1000000 in
theorem toDisk_c (A A2 : Option Addr) (n c n2 c2 B : Nat) (ss : List ByteArray) (ws : List (Int × ByteArray)) (w : World) (h : Strs w B A n ss) (h2 : Wrs w B A2 n2 ws) (hB : B ≤ w.heap.size) (hn : n ≤ 1048576) (hn2 : n2 ≤ 1048576) :
    Calls Tryz.prog 20 #[.agg #[.slice A n c, .slice A2 n2 c2]] w (RetDisk w ss ws) := by
  go_enter Tryz.func20, Tryz.ntmps20
  go_wp2_with fail
  have b0 := ((Box.new w 49 #[.slice A n c, .slice A2 n2 c2]).alloc (.cells #[.slice none 0 0, .slice none 0 0] 35)).alloc (.cells #[.slice none 0 0, .slice none 0 0] 35)
  have b1 := (Box.new (w.alloc (.cells #[.slice A n c, .slice A2 n2 c2] 49)) 35 #[.slice none 0 0, .slice none 0 0]).alloc (.cells #[.slice none 0 0, .slice none 0 0] 35)
  have b2 := Box.new ((w.alloc (.cells #[.slice A n c, .slice A2 n2 c2] 49)).alloc (.cells #[.slice none 0 0, .slice none 0 0] 35)) 35 #[.slice none 0 0, .slice none 0 0]
  have hnx0 := (((Nx.refl w).alloc (.cells #[.slice A n c, .slice A2 n2 c2] 49)).alloc (.cells #[.slice none 0 0, .slice none 0 0] 35)).alloc (.cells #[.slice none 0 0, .slice none 0 0] 35)
  simp only [World.size_alloc] at b1 b2
  have hsz : (((w.alloc (.cells #[.slice A n c, .slice A2 n2 c2] 49)).alloc (.cells #[.slice none 0 0, .slice none 0 0] 35)).alloc (.cells #[.slice none 0 0, .slice none 0 0] 35)).heap.size = w.heap.size + 1 + 1 + 1 := by simp only [World.size_alloc]
  generalize (((w.alloc (.cells #[.slice A n c, .slice A2 n2 c2] 49)).alloc (.cells #[.slice none 0 0, .slice none 0 0] 35)).alloc (.cells #[.slice none 0 0, .slice none 0 0] 35)) = W at *
  have Hsz := Lib.hid hsz
  clear hsz
  refine (toStringS_c A n c B ss _ (h.below hnx0 hB) (by have := Hsz.out; omega) hn).mono ?_
  rintro e w1 ⟨A3, n3, c3, rfl, hS, hnx1⟩
  have b2' := b2.nx hnx1
  have b0' := b0.nx hnx1
  have c00 := b0'.c0
  have c01 := b0'.c1
  have c20 := b2'.c0
  have f20 := b2'.frozen 0
  go_wp2_with fail
  have b2s := b2'.set0 (.slice A3 n3 c3)
  have b1s := (b1.nx hnx1).far (p := ⟨w.heap.size + 1 + 1, 0, none⟩) (by simp) (.slice A3 n3 c3)
  have hSs := hS.far (p := ⟨w.heap.size + 1 + 1, 0, none⟩) (by have := Hsz.out; simp; omega) (.slice A3 n3 c3)
  have hnx2 := (hnx0.trans hnx1).setCell (p := ⟨w.heap.size + 1 + 1, 0, none⟩) (by simp; omega) (.slice A3 n3 c3)
  generalize w1.setCell ⟨w.heap.size + 1 + 1, 0, none⟩ (.slice A3 n3 c3) = W2 at *
  clear b2' b0' c00 c01 c20 f20 b0 b1 b2 hS hnx1
  refine (toWriteS_c A2 n2 c2 B ws _ (h2.below hnx2 hB) (Nat.le_trans hB hnx2.size) hn2).mono ?_
  rintro e w3 ⟨A4, n4, c4, rfl, hW, hnx3⟩
  have b2t := b2s.nx hnx3
  have b1t := b1s.nx hnx3
  have hSt := hSs.nx hnx3
  have c20 := b2t.c0
  have c21 := b2t.c1
  have f21 := b2t.frozen 1
  have c10 := b1t.c0
  have c11 := b1t.c1
  have f10 := b1t.frozen 0
  have f11 := b1t.frozen 1
  go_wp2
  have hz := Hsz.out
  have hz2 := b2s.lt
  have q := (((b1t.far (p := ⟨w.heap.size + 1 + 1, 1, none⟩) (by simp) (.slice A4 n4 c4)).set0 (.slice A3 n3 c3)).set1 (.slice A4 n4 c4))
  have q0 := q.c0
  have q1 := q.c1
  have hSf := ((hSt.far (p := ⟨w.heap.size + 1 + 1, 1, none⟩) (by simp; omega) (.slice A4 n4 c4)).far (p := ⟨w.heap.size + 1, 0, none⟩) (by simp; omega) (.slice A3 n3 c3)).far (p := ⟨w.heap.size + 1, 1, none⟩) (by simp; omega) (.slice A4 n4 c4)
  have hWf := ((hW.far (p := ⟨w.heap.size + 1 + 1, 1, none⟩) (by simp; omega) (.slice A4 n4 c4)).far (p := ⟨w.heap.size + 1, 0, none⟩) (by simp; omega) (.slice A3 n3 c3)).far (p := ⟨w.heap.size + 1, 1, none⟩) (by simp; omega) (.slice A4 n4 c4)
  have hnf := (((hnx2.trans hnx3).setCell (p := ⟨w.heap.size + 1 + 1, 1, none⟩) (by simp; omega) (.slice A4 n4 c4)).setCell (p := ⟨w.heap.size + 1, 0, none⟩) (by simp) (.slice A3 n3 c3)).setCell (p := ⟨w.heap.size + 1, 1, none⟩) (by simp) (.slice A4 n4 c4)
  generalize ((w3.setCell ⟨w.heap.size + 1 + 1, 1, none⟩ (.slice A4 n4 c4)).setCell ⟨w.heap.size + 1, 0, none⟩ (.slice A3 n3 c3)).setCell ⟨w.heap.size + 1, 1, none⟩ (.slice A4 n4 c4) = Wf at *
  exact bodyPost_ret (v := .agg #[.slice A3 n3 c3, .slice A4 n4 c4]) (by simp [results, Tryz.results20, go_sem, q0, q1]) rfl ⟨A3, n3, c3, A4, n4, c4, rfl, hSf.low (by omega), hWf.low (by have := hnx2.size; omega), hnf⟩
end Go.Proofs.YteckhdkghfidiaaGreatDoor
