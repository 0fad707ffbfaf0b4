/-
  Texts of the proof, in their order.
  Conditions: those of each.
-/
import Derived.Test.YtieoiailjjnnoaaGreatDoorMs5
import Derived.Deep.AppendLies
namespace Go.Proofs.YtieoiailjjnnoaaGreatDoor
set_option linter.unusedVariables false
set_option maxRecDepth 100000
set_option maxHeartbeats 16000000
open Go.RowKit
def RetSU (w : World) (o : Option U6) (bad good : Value) (e : Ending) (w' : World) : Prop :=
 Nx w w' ∧ (o = none → e = .returned (.tuple #[.agg #[ii 0, ii 0, ii 0, ii 0, nsl, nsl], bad])) ∧
 ∀ q : U6, o = some q → ∃ A c A2 c2, e = .returned (.tuple #[.agg #[ii q.1, ii q.2.1, ii q.2.2.1, ii q.2.2.2.1, .slice A q.2.2.2.2.1.length c, .slice A2 q.2.2.2.2.2.length c2], good]) ∧
   q.2.2.2.2.1.length ≤ c ∧ SlI w' w.heap.size A q.2.2.2.2.1 ∧ SlM w' w.heap.size A2 q.2.2.2.2.2
theorem RetSU.no {w w' : World} {o : Option U6} {bad good : Value} (h : o = none) (hn : Nx w w') : RetSU w o bad good (.returned (.tuple #[.agg #[ii 0, ii 0, ii 0, ii 0, nsl, nsl], bad])) w' :=
 ⟨hn, fun _ => rfl, fun q h2 => by rw [h] at h2; cases h2⟩
theorem RetSU.yes {w w' : World} {o : Option U6} {bad good : Value} {g b p t : Int} {xs : List Int} {ms : List Mrk} {c c2 : Nat} {A A2 : Option Addr} (h : o = some (g, b, p, t, xs, ms)) (hc : xs.length ≤ c) (hs : SlI w' w.heap.size A xs) (hm : SlM w' w.heap.size A2 ms) (hn : Nx w w') :
 RetSU w o bad good (.returned (.tuple #[.agg #[ii g, ii b, ii p, ii t, .slice A xs.length c, .slice A2 ms.length c2], good])) w' :=
 ⟨hn, (fun h2 => by rw [h] at h2; cases h2), fun q h2 => by rw [h] at h2; injection h2 with h2; subst h2; exact ⟨A, c, A2, c2, rfl, hc, hs, hm⟩⟩
def dropA (A : Option Addr) (c : Nat) : Option Addr := if c = 4 then A else A.map (·.add (4 * 1))
theorem drop_row {W : World} {B b off c : Nat} {ns : List Nat} (h : ∀ i, i < ns.length → W.cell? ⟨b, off + i, none⟩ = some (intAt ns i)) (hb : b < B) (hl : 4 ≤ ns.length) (hcp : ns.length ≤ c) : Ins W B (dropA (some ⟨b, off, none⟩) c) (intsN (ns.drop 4)) := fun hm => by
 have hl2 : (intsN (ns.drop 4)).length = ns.length - 4 := by rw [intsN_len, List.length_drop]
 rw [hl2] at hm
 refine ⟨b, off + 4, ?_, hb, fun i hi => ?_⟩
 · unfold dropA
   rw [if_neg (by omega)]
   simp [Addr.add]
 · rw [hl2] at hi
   rw [show off + 4 + i = off + (4 + i) by omega, h (4 + i) (by omega), intsN_at _ _ (by rw [List.length_drop]; omega)]
   unfold intAt
   rw [gdE, gdE, List.getElem?_drop]
theorem slice4 {o : Oper} {a : Act} {x : Operand} {A : Option Addr} {n c m : Nat} {W : World} (ho : o.op = .slice 23 x (some (.const (ii 4))) none none) (hx : a.eval x = .slice A n c) (hl : 4 ≤ n) (hm : m = n - 4) :
 (execOp a.eval o).run Tryz.prog W = .ok (.value (.slice (dropA A c) m (c - 4))) W := by
 obtain ⟨i0, hi0, hz0, hz1, hz2⟩ := info_parts info_int
 subst hm
 have he : Tryz.prog.elem 23 = 3 := by kernel_rfl
 have h1 := run_slice_l (P := Tryz.prog) (w := W) 23 A n c (by rw [he]; exact Tryz.underlying23) .i64 4 (by omega) (by omega)
 rw [he] at h1
 have hc : a.eval (.const (ii 4)) = ii 4 := rfl
 unfold execOp
 have h2 := run_sliceAt_slice (P := Tryz.prog) (w := W) 23 (.slice A n c) (some (ii 4)) none none (by rw [he]; exact Tryz.underlying23)
 simp only [ho, hx, hc, Option.map_some, Option.map_none]
 simp [h2, h1, sizeOf, typeInfo, hi0, hz1, sliced, dropA]
theorem marksL_from : ∀ {ws : List (List UInt8)} {ms : List Mrk} {m : Mrk}, marksL ws = some ms → m ∈ ms → ∃ w ∈ ws, wordM w = some m
 | [], ms, m, h, hm => by simp only [marksL, Option.some.injEq] at h; subst h; simp at hm
 | x :: ws, ms, m, h, hm => by
   rw [marksL] at h
   cases hx : wordM x with
   | none => rw [hx] at h; cases h
   | some q =>
     rw [hx, Option.bind_some] at h
     cases hw : marksL ws with
     | none => rw [hw] at h; cases h
     | some ns =>
       rw [hw, Option.map_some, Option.some.injEq] at h
       subst h
       rcases List.mem_cons.1 hm with rfl | hm
       · exact ⟨x, by simp, hx⟩
       · obtain ⟨w, hw', e⟩ := marksL_from hw hm
         exact ⟨w, by simp [hw'], e⟩
theorem wordM_size {l : List UInt8} {m : Mrk} (h : wordM l = some m) : m.1.size ≤ l.length := by
 unfold wordM at h
 split at h
 · injection h with h
   subst h
   show (baL _).size ≤ _
   rw [baL_size]
   exact (cut_len l 61).1
 · cases h
theorem marksO_fit {l : List UInt8} {ms : List Mrk} (hl : l.length ≤ 65536) (h : marksO l = some ms) : ms.length ≤ 1048576 ∧ AllM ms := by
 unfold marksO at h
 split at h
 · injection h with h; subst h
   exact ⟨by simp, fun k => by simp [mrZ]⟩
 · refine ⟨?_, fun k => ?_⟩
   · rw [marksL_len h]; have := cutL_size 44 l; omega
   · by_cases hk : k < ms.length
     · rw [gdE, List.getElem?_eq_getElem hk, Option.getD_some]
       obtain ⟨w, hw, e⟩ := marksL_from h (List.getElem_mem hk)
       have h1 := wordM_size e
       have h2 := cutL_part hw
       omega
     · rw [gdE, List.getElem?_eq_none (by omega)]; simp [mrZ]
theorem numsO_fit {l : List UInt8} {ns : List Nat} (h : numsO l = some ns) : ns.length ≤ l.length := by
 unfold numsO at h
 split at h
 · injection h with h; subst h; rw [numsOf_len]; omega
 · cases h
theorem superOfText_c (t : BA) (w : World) (a0 a1 : Addr) (ht : t.size ≤ 65536) (hE : Er w a0 a1) (hM : Mx w) : Calls Tryz.prog 48 #[.string t] w (RetSU w (rdU t) (.iface 290 (.pointer (some a0))) .nilIface) := by
 have e0 := hE.1
 have hg0 : 0 < w.heap.size := World.block_lt_of_cell? w _ e0
 have b0 := Box.new w 26 #[ii 0, ii 0, ii 0, ii 0, nsl, nsl]
 have hx0 := (Nx.refl w).alloc (.cells #[ii 0, ii 0, ii 0, ii 0, nsl, nsl] 26)
 go_enter Tryz.func48, Tryz.ntmps48
 go_wp2_with fail
 generalize w.alloc (.cells #[ii 0, ii 0, ii 0, ii 0, nsl, nsl] 26) = W at *
 refine (unsealed_c t _ a0 a1 ht (hE.nx hx0)).mono ?_
 rintro e w1 ⟨hnx1, h1, h2⟩
 have b1 := b0.nx hnx1
 have hx1 := hx0.trans hnx1
 clear b0 hx0 hnx1
 cases ho : opensB t with
 | false =>
   obtain rfl := h1 ho
   have HF := qh (rdU_shut ho)
   clear h1 h2 ho
   obtain ⟨u0, u1, u2, u3, u4, u5⟩ := b1.d6
   have f0 := b1.frozen 0
   have f1 := b1.frozen 1
   have f2 := b1.frozen 2
   have f3 := b1.frozen 3
   have f4 := b1.frozen 4
   have f5 := b1.frozen 5
   go_wp2
   have q := (put6_box b1 (ii 0) (ii 0) (ii 0) (ii 0) (nsl) (nsl))
   have hnf := (put6_nx hx1 (Nat.le_refl w.heap.size) (ii 0) (ii 0) (ii 0) (ii 0) (nsl) (nsl))
   change bodyPost _ _ _ _ _ (put6 w1 w.heap.size (ii 0) (ii 0) (ii 0) (ii 0) (nsl) (nsl))
   change Box (put6 w1 w.heap.size (ii 0) (ii 0) (ii 0) (ii 0) (nsl) (nsl)) _ _ _ at q
   generalize put6 w1 w.heap.size (ii 0) (ii 0) (ii 0) (ii 0) (nsl) (nsl) = Wf at *
   obtain ⟨g0, g1, g2, g3, g4, g5⟩ := q.d6
   exact bodyPost_ret (v := .tuple #[.agg #[ii 0, ii 0, ii 0, ii 0, nsl, nsl], .iface 290 (.pointer (some a0))]) (by simp [results, Tryz.results48, go_sem, g0, g1, g2, g3, g4, g5]) rfl (RetSU.no HF.out hnf)
 | true =>
   obtain rfl := h2 ho
   clear h1 h2
   have hbs := bodyOf_size t
   go_wp2_with fail
   refine (cut_c (bodyOf t) 124 _ (by omega) (hM.nx hx1)).mono ?_
   rintro e w2 ⟨he, hnx2⟩
   have b2 := b1.nx hnx2
   have hx2 := hx1.trans hnx2
   clear b1 hx1 hnx2
   rcases part_at 124 (bodyOf t).data.toList with hm | ⟨la, lb, hna, hab⟩
   · rw [cut_miss hm] at he
     have HF := qh (rdU_miss hm)
     clear hm ho hbs
     simp only at he
     generalize baL (bodyOf t).data.toList = z1 at he
     generalize baL [] = z2 at he
     subst he
     obtain ⟨u0, u1, u2, u3, u4, u5⟩ := b2.d6
     have f0 := b2.frozen 0
     have f1 := b2.frozen 1
     have f2 := b2.frozen 2
     have f3 := b2.frozen 3
     have f4 := b2.frozen 4
     have f5 := b2.frozen 5
     have hlt9 := b2.lt
     go_wp2_with fail
     refine wp_lexA [ff, ff, true, ff] (fun w' => w'.cell? ⟨0, 0, none⟩ = some (.iface 290 (.pointer (some a0)))) (by exact ((hx2.drew).cell (p := ⟨0, 0, none⟩) hg0).trans e0) ?_
     repeat ((first | refine HL.tk ?_ | refine HL.sk ?_); try simp only [Act.put, qqA, qqB, qqC])
     refine hLc fun K hK => ?_
     go_simp
     refine hK.out _ _ (by exact ((put6_nx hx2 (Nat.le_refl w.heap.size) (ii 0) (ii 0) (ii 0) (ii 0) (nsl) (nsl)).drew.cell (p := ⟨0, 0, none⟩) hg0).trans e0) ?_
     clear hK K
     try simp only [Act.put, qqA, qqB, qqC]
     repeat ((first | refine HL.tk ?_ | refine HL.sk ?_); try simp only [Act.put, qqA, qqB, qqC])
     refine HL.done ?_
     clear u0 u1 u2 u3 u4 u5 f0 f1 f2 f3 f4 f5
     go_wp2
     have q := (put6_box b2 (ii 0) (ii 0) (ii 0) (ii 0) (nsl) (nsl)).drew
     have hnf := (put6_nx hx2 (Nat.le_refl w.heap.size) (ii 0) (ii 0) (ii 0) (ii 0) (nsl) (nsl)).drew
     change bodyPost _ _ _ _ _ (World.drew (put6 w2 w.heap.size (ii 0) (ii 0) (ii 0) (ii 0) (nsl) (nsl)))
     change Box (World.drew (put6 w2 w.heap.size (ii 0) (ii 0) (ii 0) (ii 0) (nsl) (nsl))) _ _ _ at q
     generalize World.drew (put6 w2 w.heap.size (ii 0) (ii 0) (ii 0) (ii 0) (nsl) (nsl)) = Wf at *
     obtain ⟨g0, g1, g2, g3, g4, g5⟩ := q.d6
     exact bodyPost_ret (v := .tuple #[.agg #[ii 0, ii 0, ii 0, ii 0, nsl, nsl], .iface 290 (.pointer (some a0))]) (by simp [results, Tryz.results48, go_sem, g0, g1, g2, g3, g4, g5]) rfl (RetSU.no HF.out hnf)
   · rw [hab, cut_hit hna] at he
     have HPu := qh (rdU_hit ho hna hab)
     have hla : (baL la).size ≤ 65536 := by rw [baL_size]; have := congrArg List.length hab; rw [← ba_size] at this; simp only [List.length_append, List.length_cons] at this; omega
     have hlb : (baL lb).size ≤ 65536 := by rw [baL_size]; have := congrArg List.length hab; rw [← ba_size] at this; simp only [List.length_append, List.length_cons] at this; omega
     have HLb : Hid (lb.length ≤ 65536) := qh (by rw [← baL_size]; exact hlb)
     have HLa : Hid (la.length ≤ 65536) := qh (by rw [← baL_size]; exact hla)
     clear hab hna ho hbs
     subst he
     obtain ⟨sa, Hsa⟩ : ∃ x, Hid (baL la = x) := ⟨_, rfl⟩
     obtain ⟨sb, Hsb⟩ : ∃ x, Hid (baL lb = x) := ⟨_, rfl⟩
     have Hda := qh (show sa.data.toList = la by rw [← Hsa.out]; rfl)
     have Hdb := qh (show sb.data.toList = lb by rw [← Hsb.out]; rfl)
     rw [Hsa.out] at hla
     rw [Hsb.out] at hlb
     rw [Hsa.out, Hsb.out]
     go_wp2_with fail
     refine (numbersOf_c sa _ a0 a1 hla (hE.nx hx2)).mono ?_
     rintro e w3 ⟨hnx3, h1, h2⟩
     rw [Hda.out] at h1 h2
     have b3 := b2.nx hnx3
     have hx3 := hx2.trans hnx3
     clear b2 hx2 hnx3
     cases hn : numsO la with
     | none =>
       obtain rfl := h1 hn
       have HF := qh (HPu.out.trans (partU_nums hn))
       clear h1 h2 hn
       obtain ⟨u0, u1, u2, u3, u4, u5⟩ := b3.d6
       have f0 := b3.frozen 0
       have f1 := b3.frozen 1
       have f2 := b3.frozen 2
       have f3 := b3.frozen 3
       have f4 := b3.frozen 4
       have f5 := b3.frozen 5
       go_wp2
       have q := (put6_box b3 (ii 0) (ii 0) (ii 0) (ii 0) (nsl) (nsl))
       have hnf := (put6_nx hx3 (Nat.le_refl w.heap.size) (ii 0) (ii 0) (ii 0) (ii 0) (nsl) (nsl))
       change bodyPost _ _ _ _ _ (put6 w3 w.heap.size (ii 0) (ii 0) (ii 0) (ii 0) (nsl) (nsl))
       change Box (put6 w3 w.heap.size (ii 0) (ii 0) (ii 0) (ii 0) (nsl) (nsl)) _ _ _ at q
       generalize put6 w3 w.heap.size (ii 0) (ii 0) (ii 0) (ii 0) (nsl) (nsl) = Wf at *
       obtain ⟨g0, g1, g2, g3, g4, g5⟩ := q.d6
       exact bodyPost_ret (v := .tuple #[.agg #[ii 0, ii 0, ii 0, ii 0, nsl, nsl], .iface 290 (.pointer (some a0))]) (by simp [results, Tryz.results48, go_sem, g0, g1, g2, g3, g4, g5]) rfl (RetSU.no HF.out hnf)
     | some ns =>
       obtain ⟨A, c, rfl, hrow, hcp⟩ := h2 ns hn
       clear h1 h2
       by_cases hl4 : 4 ≤ ns.length
       case neg =>
        have HF := qh (HPu.out.trans (partU_few hn (by omega)))
        have hd4 : decide ((ns.length : Int) < 4) = true := by simp; omega
        clear hn hcp hl4
        obtain ⟨u0, u1, u2, u3, u4, u5⟩ := b3.d6
        have f0 := b3.frozen 0
        have f1 := b3.frozen 1
        have f2 := b3.frozen 2
        have f3 := b3.frozen 3
        have f4 := b3.frozen 4
        have f5 := b3.frozen 5
        have hlt9 := b3.lt
        go_wp2_with fail
        refine wp_lexA [ff, ff, true, ff] (fun w' => w'.cell? ⟨0, 0, none⟩ = some (.iface 290 (.pointer (some a0)))) (by exact ((hx3.drew).cell (p := ⟨0, 0, none⟩) hg0).trans e0) ?_
        repeat ((first | refine HL.tk ?_ | refine HL.sk ?_); try simp only [Act.put, qqA, qqB, qqC])
        refine hLc fun K hK => ?_
        go_simp
        refine hK.out _ _ (by exact ((put6_nx hx3 (Nat.le_refl w.heap.size) (ii 0) (ii 0) (ii 0) (ii 0) (nsl) (nsl)).drew.cell (p := ⟨0, 0, none⟩) hg0).trans e0) ?_
        clear hK K
        try simp only [Act.put, qqA, qqB, qqC]
        repeat ((first | refine HL.tk ?_ | refine HL.sk ?_); try simp only [Act.put, qqA, qqB, qqC])
        refine HL.done ?_
        clear u0 u1 u2 u3 u4 u5 f0 f1 f2 f3 f4 f5
        go_wp2
        have q := (put6_box b3 (ii 0) (ii 0) (ii 0) (ii 0) (nsl) (nsl)).drew
        have hnf := (put6_nx hx3 (Nat.le_refl w.heap.size) (ii 0) (ii 0) (ii 0) (ii 0) (nsl) (nsl)).drew
        change bodyPost _ _ _ _ _ (World.drew (put6 w3 w.heap.size (ii 0) (ii 0) (ii 0) (ii 0) (nsl) (nsl)))
        change Box (World.drew (put6 w3 w.heap.size (ii 0) (ii 0) (ii 0) (ii 0) (nsl) (nsl))) _ _ _ at q
        generalize World.drew (put6 w3 w.heap.size (ii 0) (ii 0) (ii 0) (ii 0) (nsl) (nsl)) = Wf at *
        obtain ⟨g0, g1, g2, g3, g4, g5⟩ := q.d6
        exact bodyPost_ret (v := .tuple #[.agg #[ii 0, ii 0, ii 0, ii 0, nsl, nsl], .iface 290 (.pointer (some a0))]) (by simp [results, Tryz.results48, go_sem, g0, g1, g2, g3, g4, g5]) rfl (RetSU.no HF.out hnf)
       have hd4 : decide ((ns.length : Int) < 4) = false := by simp; omega
       have HNs := qh hn
       have hnl : ns.length ≤ 65536 := by have := numsO_fit hn; have := HLa.out; omega
       clear hn
       go_wp2_with fail
       refine (marksOf_c sb _ a0 a1 hlb (hE.nx hx3) (hM.nx hx3)).mono ?_
       rintro e w4 ⟨hnx4, h1, h2⟩
       rw [Hdb.out] at h1 h2
       have b4 := b3.nx hnx4
       have hx4 := hx3.trans hnx4
       have hrow4 := hrow.below hnx4 nle
       have hsz4 := hnx4.size
       have hsz3 := hx3.size
       have hlt3 := b3.lt
       clear b3 hx3 hrow
       cases hmk : marksO lb with
       | none =>
         obtain rfl := h1 hmk
         have HF := qh (HPu.out.trans (partU_marks HNs.out hmk))
         clear h1 h2 hmk
         obtain ⟨u0, u1, u2, u3, u4, u5⟩ := b4.d6
         have f0 := b4.frozen 0
         have f1 := b4.frozen 1
         have f2 := b4.frozen 2
         have f3 := b4.frozen 3
         have f4 := b4.frozen 4
         have f5 := b4.frozen 5
         go_wp2
         have q := (put6_box b4 (ii 0) (ii 0) (ii 0) (ii 0) (nsl) (nsl))
         have hnf := (put6_nx hx4 (Nat.le_refl w.heap.size) (ii 0) (ii 0) (ii 0) (ii 0) (nsl) (nsl))
         change bodyPost _ _ _ _ _ (put6 w4 w.heap.size (ii 0) (ii 0) (ii 0) (ii 0) (nsl) (nsl))
         change Box (put6 w4 w.heap.size (ii 0) (ii 0) (ii 0) (ii 0) (nsl) (nsl)) _ _ _ at q
         generalize put6 w4 w.heap.size (ii 0) (ii 0) (ii 0) (ii 0) (nsl) (nsl) = Wf at *
         obtain ⟨g0, g1, g2, g3, g4, g5⟩ := q.d6
         exact bodyPost_ret (v := .tuple #[.agg #[ii 0, ii 0, ii 0, ii 0, nsl, nsl], .iface 290 (.pointer (some a0))]) (by simp [results, Tryz.results48, go_sem, g0, g1, g2, g3, g4, g5]) rfl (RetSU.no HF.out hnf)
       | some ms =>
       obtain ⟨A3, c3, rfl, hM4'⟩ := h2 ms hmk
       have hM4 := hM4'
       have hfit := marksO_fit HLb.out hmk
       have hml := hfit.1
       have HAm := qh hfit.2
       have HU := qh (HPu.out.trans (partU_yes HNs.out hl4 hmk))
       clear h1 h2 hmk hfit hnx4 hM4'
       obtain ⟨b, off, rfl, hb3, hcl⟩ := hrow4 (by omega)
       have hb : b < w4.heap.size := by omega
       have HRow := qh (fun W (hW : Nx w4 W) => drop_row (W := W) (B := w4.heap.size) (c := c) (fun i hi => (hW.cell (p := ⟨b, off + i, none⟩) hb).trans (hcl i hi)) hb hl4 hcp)
       obtain ⟨n0, Hn0⟩ : ∃ n, Hid (ns.getD 0 0 = n) := ⟨_, rfl⟩
       obtain ⟨n1, Hn1⟩ : ∃ n, Hid (ns.getD 1 0 = n) := ⟨_, rfl⟩
       obtain ⟨n2, Hn2⟩ : ∃ n, Hid (ns.getD 2 0 = n) := ⟨_, rfl⟩
       obtain ⟨n3, Hn3⟩ : ∃ n, Hid (ns.getD 3 0 = n) := ⟨_, rfl⟩
       have k0 : w4.cell? ⟨b, off, none⟩ = some (ii n0) := by have := hcl 0 (by omega); unfold intAt at this; rw [Hn0.out] at this; exact this
       have k1 : w4.cell? ⟨b, off + 1, none⟩ = some (ii n1) := by have := hcl 1 (by omega); unfold intAt at this; rw [Hn1.out] at this; exact this
       have k2 : w4.cell? ⟨b, off + 2, none⟩ = some (ii n2) := by have := hcl 2 (by omega); unfold intAt at this; rw [Hn2.out] at this; exact this
       have k3 : w4.cell? ⟨b, off + 3, none⟩ = some (ii n3) := by have := hcl 3 (by omega); unfold intAt at this; rw [Hn3.out] at this; exact this
       obtain ⟨xs, Hxs⟩ : ∃ xs, Hid (intsN (ns.drop 4) = xs) := ⟨_, rfl⟩
       have HLen : Hid (xs.length = ns.length - 4) := qh (by rw [← Hxs.out, intsN_len, List.length_drop])
       rw [Hxs.out] at HRow
       have HUx := qh Hxs.out
       have hi0' : (0 : Int) < (ns.length : Int) := by omega
       have hi1' : (1 : Int) < (ns.length : Int) := by omega
       have hi2' : (2 : Int) < (ns.length : Int) := by omega
       have hi3' : (3 : Int) < (ns.length : Int) := by omega
       have hm0 : 0 < ns.length := by omega
       have hm1 : 1 < ns.length := by omega
       have hm2 : 2 < ns.length := by omega
       have hm3 : 3 < ns.length := by omega
       clear hcl hrow4
       go_wp2_with fail
       refine wp_planA (.t 0 (.t 1 (.t 2 (.t 3 (.t 4 (.t 5 (.t 6 (.t 7 (.t 8 (.t 9 (.t 10 (.t 11 (.t 12 (.t 13 (.t 15 (.b 14 (.t 16 (.c 17 (.c 18 .e))) 17 (.c 14 (.t 16 (.c 18 .e))))))))))))))))))) (fun w' => w'.cell? ⟨b, off, none⟩ = some (ii n0) ∧ w'.cell? ⟨b, off + 1, none⟩ = some (ii n1) ∧ w'.cell? ⟨b, off + 2, none⟩ = some (ii n2) ∧ w'.cell? ⟨b, off + 3, none⟩ = some (ii n3)) (by exact ⟨((Nx.refl w4).drew.cell (p := ⟨b, off, none⟩) hb).trans k0, ((Nx.refl w4).drew.cell (p := ⟨b, off + 1, none⟩) hb).trans k1, ((Nx.refl w4).drew.cell (p := ⟨b, off + 2, none⟩) hb).trans k2, ((Nx.refl w4).drew.cell (p := ⟨b, off + 3, none⟩) hb).trans k3⟩) ?_
       simp only [psOf, List.getD_cons_zero, List.getD_cons_succ]
       iterate 13 (refine HP.tk ?_; (try simp only [Act.put, qqA, qqB, qqC]))
       refine HP.take (v := .slice (dropA (some ⟨b, off, none⟩) c) xs.length (c - 4)) (by rfl) (fun W _ => slice4 rfl rfl hl4 HLen.out) ?_
       try simp only [Act.put, qqA, qqB, qqC]
       iterate 1 (refine HP.tk ?_; (try simp only [Act.put, qqA, qqB, qqC]))
       refine HP.both ?_ ?_
       · refine cSt fun K hK => ?_
         go_simp
         refine (copyListI_c (dropA (some ⟨b, off, none⟩) c) (c - 4) _ xs _ (HRow.out _ (Nx.refl w4).drew) (Nx.refl w4).drew.size (by have := HLen.out; omega)).mono ?_
         rintro e w5 ⟨A5, c5, rfl, hc5, hS5, hnx5⟩
         go_wp2_with fail
         refine hK.out _ _ (by exact ⟨(((Nx.refl w4).drew.trans hnx5).cell (p := ⟨b, off, none⟩) hb).trans k0, (((Nx.refl w4).drew.trans hnx5).cell (p := ⟨b, off + 1, none⟩) hb).trans k1, (((Nx.refl w4).drew.trans hnx5).cell (p := ⟨b, off + 2, none⟩) hb).trans k2, (((Nx.refl w4).drew.trans hnx5).cell (p := ⟨b, off + 3, none⟩) hb).trans k3⟩) ?_
         clear hK K
         try simp only [Act.put, qqA, qqB, qqC]
         repeat ((first | refine HP.tk ?_ | refine HP.sk ?_); try simp only [Act.put, qqA, qqB, qqC])
         refine hPc fun K hK => ?_
         go_simp
         refine hK.out _ _ (by exact ⟨((((Nx.refl w4).drew.trans hnx5).alloc (.cells #[ii 0, ii 0, ii 0, ii 0, nsl, nsl] 26)).cell (p := ⟨b, off, none⟩) hb).trans k0, ((((Nx.refl w4).drew.trans hnx5).alloc (.cells #[ii 0, ii 0, ii 0, ii 0, nsl, nsl] 26)).cell (p := ⟨b, off + 1, none⟩) hb).trans k1, ((((Nx.refl w4).drew.trans hnx5).alloc (.cells #[ii 0, ii 0, ii 0, ii 0, nsl, nsl] 26)).cell (p := ⟨b, off + 2, none⟩) hb).trans k2, ((((Nx.refl w4).drew.trans hnx5).alloc (.cells #[ii 0, ii 0, ii 0, ii 0, nsl, nsl] 26)).cell (p := ⟨b, off + 3, none⟩) hb).trans k3⟩) ?_
         clear hK K
         try simp only [Act.put, qqA, qqB, qqC]
         refine hPc fun K hK => ?_
         go_simp
         refine hK.out _ _ (by exact ⟨((((Nx.refl w4).drew.trans hnx5).alloc (.cells #[ii n0, ii n1, ii n2, ii n3, .slice A5 xs.length c5, .slice A3 ms.length c3] 26)).cell (p := ⟨b, off, none⟩) hb).trans k0, ((((Nx.refl w4).drew.trans hnx5).alloc (.cells #[ii n0, ii n1, ii n2, ii n3, .slice A5 xs.length c5, .slice A3 ms.length c3] 26)).cell (p := ⟨b, off + 1, none⟩) hb).trans k1, ((((Nx.refl w4).drew.trans hnx5).alloc (.cells #[ii n0, ii n1, ii n2, ii n3, .slice A5 xs.length c5, .slice A3 ms.length c3] 26)).cell (p := ⟨b, off + 2, none⟩) hb).trans k2, ((((Nx.refl w4).drew.trans hnx5).alloc (.cells #[ii n0, ii n1, ii n2, ii n3, .slice A5 xs.length c5, .slice A3 ms.length c3] 26)).cell (p := ⟨b, off + 3, none⟩) hb).trans k3⟩) ?_
         clear hK K
         try simp only [Act.put, qqA, qqB, qqC]
         refine HP.done ?_
         have bs := Box.new w5 26 #[ii n0, ii n1, ii n2, ii n3, .slice A5 xs.length c5, .slice A3 ms.length c3]
         have hx6 := (((Nx.refl w4).drew.trans hnx5).alloc (.cells #[ii n0, ii n1, ii n2, ii n3, .slice A5 xs.length c5, .slice A3 ms.length c3] 26))
         have hS5b : SlI w5 w4.heap.size A5 xs := hS5
         have hS6 := hS5b.nx ((Nx.refl w5).alloc (.cells #[ii n0, ii n1, ii n2, ii n3, .slice A5 xs.length c5, .slice A3 ms.length c3] 26))
         have hM6 := ((hM4.nx (Nx.refl w4).drew).nx hnx5).nx ((Nx.refl w5).alloc (.cells #[ii n0, ii n1, ii n2, ii n3, .slice A5 xs.length c5, .slice A3 ms.length c3] 26))
         change Exit.then _ _ _ _ (w5.alloc (.cells #[ii n0, ii n1, ii n2, ii n3, .slice A5 xs.length c5, .slice A3 ms.length c3] 26))
         generalize w5.alloc (.cells #[ii n0, ii n1, ii n2, ii n3, .slice A5 xs.length c5, .slice A3 ms.length c3] 26) = w6 at *
         generalize w5.heap.size = gS at *
         have b6 := b4.nx hx6
         have hxw6 := hx4.trans hx6
         have hgl5 : w.heap.size < w4.heap.size := b4.lt
         obtain ⟨y0, y1, y2, y3, y4, y5⟩ := bs.d6
         go_wp2_with fail
         refine (superRight_c n0 n1 n2 n3 A5 A3 c5 c3 _ xs ms _ hS6.row hM6.row nle (by have := HLen.out; omega) hml hc5 HAm.out).mono ?_
         rintro e w7 ⟨rfl, hnx7⟩
         have b7 := b6.nx hnx7
         have bs7 := bs.nx hnx7
         have hx7 := hxw6.trans hnx7
         have hS7 := hS6.nx hnx7
         have hM7 := hM6.nx hnx7
         clear y0 y1 y2 y3 y4 y5
         obtain ⟨y0, y1, y2, y3, y4, y5⟩ := bs7.d6
         cases hf : superB n0 n1 n2 n3 xs ms with
         | false =>
           have HF := qh (HU.out.trans (supOf_no (by rw [Hn0.out, Hn1.out, Hn2.out, Hn3.out, Hxs.out]; exact hf)))
           clear hf
           obtain ⟨u0, u1, u2, u3, u4, u5⟩ := b7.d6
           have f0 := b7.frozen 0
           have f1 := b7.frozen 1
           have f2 := b7.frozen 2
           have f3 := b7.frozen 3
           have f4 := b7.frozen 4
           have f5 := b7.frozen 5
           have hlt9 := b7.lt
           go_wp2_with fail
           refine wp_lexA [ff, ff, true, ff] (fun w' => w'.cell? ⟨0, 0, none⟩ = some (.iface 290 (.pointer (some a0)))) (by exact ((hx7.drew).cell (p := ⟨0, 0, none⟩) hg0).trans e0) ?_
           repeat ((first | refine HL.tk ?_ | refine HL.sk ?_); try simp only [Act.put, qqA, qqB, qqC])
           refine hLc fun K hK => ?_
           go_simp
           refine hK.out _ _ (by exact ((put6_nx hx7 (Nat.le_refl w.heap.size) (ii 0) (ii 0) (ii 0) (ii 0) (nsl) (nsl)).drew.cell (p := ⟨0, 0, none⟩) hg0).trans e0) ?_
           clear hK K
           try simp only [Act.put, qqA, qqB, qqC]
           repeat ((first | refine HL.tk ?_ | refine HL.sk ?_); try simp only [Act.put, qqA, qqB, qqC])
           refine HL.done ?_
           clear u0 u1 u2 u3 u4 u5 f0 f1 f2 f3 f4 f5
           go_wp2
           have q := (put6_box b7 (ii 0) (ii 0) (ii 0) (ii 0) (nsl) (nsl)).drew
           have hnf := (put6_nx hx7 (Nat.le_refl w.heap.size) (ii 0) (ii 0) (ii 0) (ii 0) (nsl) (nsl)).drew
           change bodyPost _ _ _ _ _ (World.drew (put6 w7 w.heap.size (ii 0) (ii 0) (ii 0) (ii 0) (nsl) (nsl)))
           change Box (World.drew (put6 w7 w.heap.size (ii 0) (ii 0) (ii 0) (ii 0) (nsl) (nsl))) _ _ _ at q
           generalize World.drew (put6 w7 w.heap.size (ii 0) (ii 0) (ii 0) (ii 0) (nsl) (nsl)) = Wf at *
           obtain ⟨g0, g1, g2, g3, g4, g5⟩ := q.d6
           exact bodyPost_ret (v := .tuple #[.agg #[ii 0, ii 0, ii 0, ii 0, nsl, nsl], .iface 290 (.pointer (some a0))]) (by simp [results, Tryz.results48, go_sem, g0, g1, g2, g3, g4, g5]) rfl (RetSU.no HF.out hnf)
         | true =>
           have HF := qh (HU.out.trans (supOf_yes (by rw [Hn0.out, Hn1.out, Hn2.out, Hn3.out, Hxs.out]; exact hf)))
           rw [Hn0.out, Hn1.out, Hn2.out, Hn3.out, Hxs.out] at HF
           clear hf
           have hgl : w.heap.size < w4.heap.size := b4.lt
           obtain ⟨u0, u1, u2, u3, u4, u5⟩ := b7.d6
           have f0 := b7.frozen 0
           have f1 := b7.frozen 1
           have f2 := b7.frozen 2
           have f3 := b7.frozen 3
           have f4 := b7.frozen 4
           have f5 := b7.frozen 5
           go_wp2
           have q := (put6_box b7 (ii n0) (ii n1) (ii n2) (ii n3) (.slice A5 xs.length c5) (.slice A3 ms.length c3))
           have hnf := (put6_nx hx7 (Nat.le_refl w.heap.size) (ii n0) (ii n1) (ii n2) (ii n3) (.slice A5 xs.length c5) (.slice A3 ms.length c3))
           have hsf := (hS7.pt6 hgl (ii n0) (ii n1) (ii n2) (ii n3) (.slice A5 xs.length c5) (.slice A3 ms.length c3))
           change Sl (put6 w7 w.heap.size (ii n0) (ii n1) (ii n2) (ii n3) (.slice A5 xs.length c5) (.slice A3 ms.length c3)) _ _ _ _ _ at hsf
           have hmf := (hM7.pt6 hlt3 (ii n0) (ii n1) (ii n2) (ii n3) (.slice A5 xs.length c5) (.slice A3 ms.length c3))
           change Sl (put6 w7 w.heap.size (ii n0) (ii n1) (ii n2) (ii n3) (.slice A5 xs.length c5) (.slice A3 ms.length c3)) _ _ _ _ _ at hmf
           change bodyPost _ _ _ _ _ (put6 w7 w.heap.size (ii n0) (ii n1) (ii n2) (ii n3) (.slice A5 xs.length c5) (.slice A3 ms.length c3))
           change Box (put6 w7 w.heap.size (ii n0) (ii n1) (ii n2) (ii n3) (.slice A5 xs.length c5) (.slice A3 ms.length c3)) _ _ _ at q
           generalize put6 w7 w.heap.size (ii n0) (ii n1) (ii n2) (ii n3) (.slice A5 xs.length c5) (.slice A3 ms.length c3) = Wf at *
           obtain ⟨g0, g1, g2, g3, g4, g5⟩ := q.d6
           exact bodyPost_ret (v := .tuple #[.agg #[ii n0, ii n1, ii n2, ii n3, .slice A5 xs.length c5, .slice A3 ms.length c3], .nilIface]) (by simp [results, Tryz.results48, go_sem, g0, g1, g2, g3, g4, g5]) rfl (RetSU.yes HF.out hc5 (hsf.low (by omega)) (hmf.low (by omega)) hnf)
       · have bz : Box (w4.drew.alloc (.cells #[ii 0, ii 0, ii 0, ii 0, nsl, nsl] 26)) w4.heap.size 26 #[ii 0, ii 0, ii 0, ii 0, nsl, nsl] := Box.new w4.drew 26 #[ii 0, ii 0, ii 0, ii 0, nsl, nsl]
         have hz := (Nx.refl w4).drew.alloc (.cells #[ii 0, ii 0, ii 0, ii 0, nsl, nsl] 26)
         have HM5 := qh ((hM4.nx (Nx.refl w4).drew).nx ((Nx.refl w4.drew).alloc (.cells #[ii 0, ii 0, ii 0, ii 0, nsl, nsl] 26)))
         have zlt := bz.lt
         refine cSt fun K hK => ?_
         go_simp
         refine hK.out _ _ (by exact ⟨(hz.cell (p := ⟨b, off, none⟩) hb).trans k0, (hz.cell (p := ⟨b, off + 1, none⟩) hb).trans k1, (hz.cell (p := ⟨b, off + 2, none⟩) hb).trans k2, (hz.cell (p := ⟨b, off + 3, none⟩) hb).trans k3⟩) ?_
         clear hK K
         try simp only [Act.put, qqA, qqB, qqC]
         change HP _ _ _ _ _ _ (w4.drew.alloc (.cells #[ii 0, ii 0, ii 0, ii 0, nsl, nsl] 26))
         generalize (w4.drew.alloc (.cells #[ii 0, ii 0, ii 0, ii 0, nsl, nsl] 26)) = wz at *
         refine hPc fun K hK => ?_
         go_simp
         refine (copyListI_c (dropA (some ⟨b, off, none⟩) c) (c - 4) _ xs _ (HRow.out _ hz) hz.size (by have := HLen.out; omega)).mono ?_
         rintro e w5 ⟨A5, c5, rfl, hc5, hS5, hnx5⟩
         go_wp2_with fail
         refine hK.out _ _ (by exact ⟨((hz.trans hnx5).cell (p := ⟨b, off, none⟩) hb).trans k0, ((hz.trans hnx5).cell (p := ⟨b, off + 1, none⟩) hb).trans k1, ((hz.trans hnx5).cell (p := ⟨b, off + 2, none⟩) hb).trans k2, ((hz.trans hnx5).cell (p := ⟨b, off + 3, none⟩) hb).trans k3⟩) ?_
         clear hK K
         try simp only [Act.put, qqA, qqB, qqC]
         repeat ((first | refine HP.tk ?_ | refine HP.sk ?_); try simp only [Act.put, qqA, qqB, qqC])
         have b5 := bz.nx hnx5
         have hx5 := hz.trans hnx5
         obtain ⟨r0, r1, r2, r3, r4, r5⟩ := b5.d6
         have rf0 := b5.frozen 0
         have rf1 := b5.frozen 1
         have rf2 := b5.frozen 2
         have rf3 := b5.frozen 3
         have rf4 := b5.frozen 4
         have rf5 := b5.frozen 5
         have rlt := b5.lt
         refine hPc fun K hK => ?_
         go_simp
         refine hK.out _ _ (by exact ⟨((put6_nx hx5 (Nat.le_refl w4.heap.size) (ii n0) (ii n1) (ii n2) (ii n3) (.slice A5 xs.length c5) (.slice A3 ms.length c3)).cell (p := ⟨b, off, none⟩) hb).trans k0, ((put6_nx hx5 (Nat.le_refl w4.heap.size) (ii n0) (ii n1) (ii n2) (ii n3) (.slice A5 xs.length c5) (.slice A3 ms.length c3)).cell (p := ⟨b, off + 1, none⟩) hb).trans k1, ((put6_nx hx5 (Nat.le_refl w4.heap.size) (ii n0) (ii n1) (ii n2) (ii n3) (.slice A5 xs.length c5) (.slice A3 ms.length c3)).cell (p := ⟨b, off + 2, none⟩) hb).trans k2, ((put6_nx hx5 (Nat.le_refl w4.heap.size) (ii n0) (ii n1) (ii n2) (ii n3) (.slice A5 xs.length c5) (.slice A3 ms.length c3)).cell (p := ⟨b, off + 3, none⟩) hb).trans k3⟩) ?_
         clear hK K
         try simp only [Act.put, qqA, qqB, qqC]
         refine HP.done ?_
         clear r0 r1 r2 r3 r4 r5 rf0 rf1 rf2 rf3 rf4 rf5
         have bs := put6_box b5 (ii n0) (ii n1) (ii n2) (ii n3) (.slice A5 xs.length c5) (.slice A3 ms.length c3)
         have hx6 := put6_nx hx5 (Nat.le_refl w4.heap.size) (ii n0) (ii n1) (ii n2) (ii n3) (.slice A5 xs.length c5) (.slice A3 ms.length c3)
         have hS6 := (hS5.pt6 zlt (ii n0) (ii n1) (ii n2) (ii n3) (.slice A5 xs.length c5) (.slice A3 ms.length c3)).low (lo' := w4.heap.size) hz.size
         have hM6 := (HM5.out.nx hnx5).pt6t b5 (by decide) (ii n0) (ii n1) (ii n2) (ii n3) (.slice A5 xs.length c5) (.slice A3 ms.length c3)
         change Exit.then _ _ _ _ (put6 w5 w4.heap.size (ii n0) (ii n1) (ii n2) (ii n3) (.slice A5 xs.length c5) (.slice A3 ms.length c3))
         generalize (put6 w5 w4.heap.size (ii n0) (ii n1) (ii n2) (ii n3) (.slice A5 xs.length c5) (.slice A3 ms.length c3)) = w6 at *
         obtain ⟨gS, hgS⟩ : ∃ g, w4.heap.size = g := ⟨_, rfl⟩
         rw [hgS] at bs ⊢
         have b6 := b4.nx hx6
         have hxw6 := hx4.trans hx6
         have hgl5 : w.heap.size < w4.heap.size := b4.lt
         obtain ⟨y0, y1, y2, y3, y4, y5⟩ := bs.d6
         go_wp2_with fail
         refine (superRight_c n0 n1 n2 n3 A5 A3 c5 c3 _ xs ms _ hS6.row hM6.row nle (by have := HLen.out; omega) hml hc5 HAm.out).mono ?_
         rintro e w7 ⟨rfl, hnx7⟩
         have b7 := b6.nx hnx7
         have bs7 := bs.nx hnx7
         have hx7 := hxw6.trans hnx7
         have hS7 := hS6.nx hnx7
         have hM7 := hM6.nx hnx7
         clear y0 y1 y2 y3 y4 y5
         obtain ⟨y0, y1, y2, y3, y4, y5⟩ := bs7.d6
         cases hf : superB n0 n1 n2 n3 xs ms with
         | false =>
           have HF := qh (HU.out.trans (supOf_no (by rw [Hn0.out, Hn1.out, Hn2.out, Hn3.out, Hxs.out]; exact hf)))
           clear hf
           obtain ⟨u0, u1, u2, u3, u4, u5⟩ := b7.d6
           have f0 := b7.frozen 0
           have f1 := b7.frozen 1
           have f2 := b7.frozen 2
           have f3 := b7.frozen 3
           have f4 := b7.frozen 4
           have f5 := b7.frozen 5
           have hlt9 := b7.lt
           go_wp2_with fail
           refine wp_lexA [ff, ff, true, ff] (fun w' => w'.cell? ⟨0, 0, none⟩ = some (.iface 290 (.pointer (some a0)))) (by exact ((hx7.drew).cell (p := ⟨0, 0, none⟩) hg0).trans e0) ?_
           repeat ((first | refine HL.tk ?_ | refine HL.sk ?_); try simp only [Act.put, qqA, qqB, qqC])
           refine hLc fun K hK => ?_
           go_simp
           refine hK.out _ _ (by exact ((put6_nx hx7 (Nat.le_refl w.heap.size) (ii 0) (ii 0) (ii 0) (ii 0) (nsl) (nsl)).drew.cell (p := ⟨0, 0, none⟩) hg0).trans e0) ?_
           clear hK K
           try simp only [Act.put, qqA, qqB, qqC]
           repeat ((first | refine HL.tk ?_ | refine HL.sk ?_); try simp only [Act.put, qqA, qqB, qqC])
           refine HL.done ?_
           clear u0 u1 u2 u3 u4 u5 f0 f1 f2 f3 f4 f5
           go_wp2
           have q := (put6_box b7 (ii 0) (ii 0) (ii 0) (ii 0) (nsl) (nsl)).drew
           have hnf := (put6_nx hx7 (Nat.le_refl w.heap.size) (ii 0) (ii 0) (ii 0) (ii 0) (nsl) (nsl)).drew
           change bodyPost _ _ _ _ _ (World.drew (put6 w7 w.heap.size (ii 0) (ii 0) (ii 0) (ii 0) (nsl) (nsl)))
           change Box (World.drew (put6 w7 w.heap.size (ii 0) (ii 0) (ii 0) (ii 0) (nsl) (nsl))) _ _ _ at q
           generalize World.drew (put6 w7 w.heap.size (ii 0) (ii 0) (ii 0) (ii 0) (nsl) (nsl)) = Wf at *
           obtain ⟨g0, g1, g2, g3, g4, g5⟩ := q.d6
           exact bodyPost_ret (v := .tuple #[.agg #[ii 0, ii 0, ii 0, ii 0, nsl, nsl], .iface 290 (.pointer (some a0))]) (by simp [results, Tryz.results48, go_sem, g0, g1, g2, g3, g4, g5]) rfl (RetSU.no HF.out hnf)
         | true =>
           have HF := qh (HU.out.trans (supOf_yes (by rw [Hn0.out, Hn1.out, Hn2.out, Hn3.out, Hxs.out]; exact hf)))
           rw [Hn0.out, Hn1.out, Hn2.out, Hn3.out, Hxs.out] at HF
           clear hf
           have hgl : w.heap.size < w4.heap.size := b4.lt
           obtain ⟨u0, u1, u2, u3, u4, u5⟩ := b7.d6
           have f0 := b7.frozen 0
           have f1 := b7.frozen 1
           have f2 := b7.frozen 2
           have f3 := b7.frozen 3
           have f4 := b7.frozen 4
           have f5 := b7.frozen 5
           go_wp2
           have q := (put6_box b7 (ii n0) (ii n1) (ii n2) (ii n3) (.slice A5 xs.length c5) (.slice A3 ms.length c3))
           have hnf := (put6_nx hx7 (Nat.le_refl w.heap.size) (ii n0) (ii n1) (ii n2) (ii n3) (.slice A5 xs.length c5) (.slice A3 ms.length c3))
           have hsf := (hS7.pt6 hgl (ii n0) (ii n1) (ii n2) (ii n3) (.slice A5 xs.length c5) (.slice A3 ms.length c3))
           change Sl (put6 w7 w.heap.size (ii n0) (ii n1) (ii n2) (ii n3) (.slice A5 xs.length c5) (.slice A3 ms.length c3)) _ _ _ _ _ at hsf
           have hmf := (hM7.pt6 hlt3 (ii n0) (ii n1) (ii n2) (ii n3) (.slice A5 xs.length c5) (.slice A3 ms.length c3))
           change Sl (put6 w7 w.heap.size (ii n0) (ii n1) (ii n2) (ii n3) (.slice A5 xs.length c5) (.slice A3 ms.length c3)) _ _ _ _ _ at hmf
           change bodyPost _ _ _ _ _ (put6 w7 w.heap.size (ii n0) (ii n1) (ii n2) (ii n3) (.slice A5 xs.length c5) (.slice A3 ms.length c3))
           change Box (put6 w7 w.heap.size (ii n0) (ii n1) (ii n2) (ii n3) (.slice A5 xs.length c5) (.slice A3 ms.length c3)) _ _ _ at q
           generalize put6 w7 w.heap.size (ii n0) (ii n1) (ii n2) (ii n3) (.slice A5 xs.length c5) (.slice A3 ms.length c3) = Wf at *
           obtain ⟨g0, g1, g2, g3, g4, g5⟩ := q.d6
           exact bodyPost_ret (v := .tuple #[.agg #[ii n0, ii n1, ii n2, ii n3, .slice A5 xs.length c5, .slice A3 ms.length c3], .nilIface]) (by simp [results, Tryz.results48, go_sem, g0, g1, g2, g3, g4, g5]) rfl (RetSU.yes HF.out hc5 (hsf.low (by omega)) (hmf.low (by omega)) hnf)
theorem superOfTextLong_c (t : BA) (w : World) (a0 a1 : Addr) (ht : 65536 < t.size) (hE : Er w a0 a1) :
 Calls Tryz.prog 48 #[.string t] w fun e w' => e = .returned (.tuple #[.agg #[ii 0, ii 0, ii 0, ii 0, nsl, nsl], .iface 290 (.pointer (some a1))]) ∧ Nx w w' := by
 have b0 := Box.new w 26 #[ii 0, ii 0, ii 0, ii 0, nsl, nsl]
 have hx0 := (Nx.refl w).alloc (.cells #[ii 0, ii 0, ii 0, ii 0, nsl, nsl] 26)
 go_enter Tryz.func48, Tryz.ntmps48
 go_wp2_with fail
 generalize w.alloc (.cells #[ii 0, ii 0, ii 0, ii 0, nsl, nsl] 26) = W at *
 refine (unsealedLong_c t _ a0 a1 ht (hE.nx hx0)).mono ?_
 rintro e w1 ⟨rfl, hnx1⟩
 have b1 := b0.nx hnx1
 have hx1 := hx0.trans hnx1
 clear b0 hx0 hnx1
 obtain ⟨u0, u1, u2, u3, u4, u5⟩ := b1.d6
 have f0 := b1.frozen 0
 have f1 := b1.frozen 1
 have f2 := b1.frozen 2
 have f3 := b1.frozen 3
 have f4 := b1.frozen 4
 have f5 := b1.frozen 5
 go_wp2
 have q := (put6_box b1 (ii 0) (ii 0) (ii 0) (ii 0) (nsl) (nsl))
 have hnf := (put6_nx hx1 (Nat.le_refl w.heap.size) (ii 0) (ii 0) (ii 0) (ii 0) (nsl) (nsl))
 change bodyPost _ _ _ _ _ (put6 w1 w.heap.size (ii 0) (ii 0) (ii 0) (ii 0) (nsl) (nsl))
 change Box (put6 w1 w.heap.size (ii 0) (ii 0) (ii 0) (ii 0) (nsl) (nsl)) _ _ _ at q
 generalize put6 w1 w.heap.size (ii 0) (ii 0) (ii 0) (ii 0) (nsl) (nsl) = Wf at *
 obtain ⟨g0, g1, g2, g3, g4, g5⟩ := q.d6
 exact bodyPost_ret (v := .tuple #[.agg #[ii 0, ii 0, ii 0, ii 0, nsl, nsl], .iface 290 (.pointer (some a1))]) (by simp [results, Tryz.results48, go_sem, g0, g1, g2, g3, g4, g5]) rfl ⟨rfl, hnf⟩
def RetL (w : World) (s : BA) (e : Ending) (w' : World) : Prop :=
 ∃ (n : Int) (b : Bool), e = .returned (.tuple #[ii n, .bool b]) ∧ ((plainB s.data.toList = true ∧ b = true ∧ n = ((valL s.data.toList : Nat) : Int)) ∨ (plainB s.data.toList = false ∧ (b = false ∨ n < 0))) ∧ w = w'
theorem plainB_sign {s : BA} (hp : 0 < s.size) (h : (s[0].toNat : Int) = 45) : plainB s.data.toList = false := by
 refine plainB_no (digL_no (k := 0) (by rw [← ba_size]; exact hp) ?_)
 rw [getL s 0 hp]
 unfold digC digI
 rw [h]; decide
theorem sz_tail (s : BA) : (s.extract 1 s.size).size = s.size - 1 := by simp [ByteArray.size_extract]
theorem numS_step {n : Nat} {c : UInt8} (h1 : 48 ≤ (c.toNat : Int)) : (n : Int) * 10 + (c.toNat : Int) - 48 = ((10 * n + (c.toNat - 48) : Nat) : Int) := by omega
theorem l00Number_c (s : BA) (w : World) (hs : s.size ≤ 65536) : Calls Tryz.prog 220 #[.string s] w (RetL w s) := by
 by_cases h0 : s.size = 0
 · have hd0 : decide (0 < (s.size : Int)) = false := decide_eq_false (by omega)
   have hd : ((s.size : Int) == 0) = true := beq_iff_eq.2 (by omega)
   have HF := qh (plainB_size (l := s.data.toList) (.inl (by rw [← ba_size]; exact h0)))
   go_enter Tryz.func220, Tryz.ntmps220
   go_wp2
   go_ret2
   exact ⟨_, _, rfl, .inr ⟨HF.out, .inl rfl⟩, rfl⟩
 have hd0 : decide (0 < (s.size : Int)) = true := by simp; omega
 have hp : 0 < s.size := by omega
 by_cases h45 : (s[0].toNat : Int) = 45
 · have hd1 : ((s[0].toNat : Int) == 45) = true := beq_iff_eq.2 h45
   have HF := qh (plainB_sign hp h45)
   have HFS := HF
   have Hz := qh (sz_tail s)
   clear h45
   have hsl : (1 : Int) ≤ (s.size : Int) := by omega
   obtain ⟨u, hu1⟩ : ∃ u, s.extract 1 s.size = u := ⟨_, rfl⟩
   rw [hu1] at Hz
   have hu : u.size ≤ 65536 := by have := Hz.out; omega
   by_cases g0 : u.size = 0
   · have hg : ((u.size : Int) == 0) = true := beq_iff_eq.2 (by omega)
     go_enter Tryz.func220, Tryz.ntmps220
     go_wp2
     go_ret2
     exact ⟨_, _, rfl, .inr ⟨HF.out, .inl rfl⟩, rfl⟩
   have hg : ((u.size : Int) == 0) = false := beq_eq_false_iff_ne.2 (by omega)
   by_cases g18 : 18 < u.size
   · have hg2 : decide (18 < (u.size : Int)) = true := by simp; omega
     go_enter Tryz.func220, Tryz.ntmps220
     go_wp2
     go_ret2
     exact ⟨_, _, rfl, .inr ⟨HF.out, .inl rfl⟩, rfl⟩
   have hg2 : decide (18 < (u.size : Int)) = false := by simp; omega
   have gp : 0 < u.size := by omega
   by_cases g48 : (u[0].toNat : Int) = 48
   · have hg3 : ((u[0].toNat : Int) == 48) = true := beq_iff_eq.2 g48
     clear g48
     by_cases g1 : 1 < u.size
     · have hg4 : decide (1 < (u.size : Int)) = true := by simp; omega
       go_enter Tryz.func220, Tryz.ntmps220
       go_wp2
       go_ret2
       exact ⟨_, _, rfl, .inr ⟨HF.out, .inl rfl⟩, rfl⟩
     · have hg4 : decide (1 < (u.size : Int)) = false := by simp; omega
       go_enter Tryz.func220, Tryz.ntmps220
       go_wp2
       go_ret2
       exact ⟨_, _, rfl, .inr ⟨HF.out, .inl rfl⟩, rfl⟩
   · have hg3 : ((u[0].toNat : Int) == 48) = false := beq_eq_false_iff_ne.2 g48
     have HP := qh (fun (hD : digL u.data.toList = true) => valL_pos _ rfl hD (fun e => by rw [ba_size, e] at gp; simp at gp) (by rw [head_at gp]; intro e; injection e with e; rw [e] at g48; exact g48 rfl))
     clear g48
     go_enter Tryz.func220, Tryz.ntmps220
     go_wp2
     go_loop [5, 6] (fun n i => ∃ k : Nat, k ≤ u.size ∧ i = ii k ∧ digL (u.data.toList.take k) = true ∧ n = ii ((valTo u k : Nat) : Int)) (fun _ i => u.size - (intOf i).toNat)
     case atStart => exact ⟨0, Nat.zero_le _, rfl, rfl, rfl⟩
     case round =>
      obtain ⟨k, hk, rfl, hd', rfl⟩ := hrel
      have HD := qh hd'
      clear hd'
      by_cases hlt : k < u.size
      · have hbd := valTo_bd17 (s := u) (k := k) (by omega) HD.out
        have HV := qh (valTo_succ u k hlt)
        have HT := qh (take_snoc u k hlt)
        obtain ⟨m, Hm⟩ : ∃ m, Hid (valTo u k = m) := ⟨_, rfl⟩
        rw [Hm.out] at hbd HV ⊢
        cases hC : digI (u[k].toNat : Int) with
        | true =>
          obtain ⟨h1', h2'⟩ := digI_yes hC
          have HC := qh hC
          clear hC
          have hq1 : decide ((u[k].toNat : Int) < 48) = false := by simp; omega
          have hq2 : decide (57 < (u[k].toNat : Int)) = false := by simp; omega
          go_wp2
          go_round
          case rel => exact ⟨k + 1, by omega, by go_num, by rw [HT.out, digL_snoc, HD.out]; exact HC.out, by rw [HV.out, ← numS_step h1']⟩
          case measure => simp [intOf]; omega
        | false =>
          have HF := qh (digL_no (l := u.data.toList) (k := k) (by simpa using hlt) (by rw [getL u k hlt]; exact hC))
          have hC2 : ¬ (48 ≤ (u[k].toNat : Int) ∧ (u[k].toNat : Int) ≤ 57) := by
           intro h; unfold digI at hC; simp only [Bool.and_eq_false_iff, decide_eq_false_iff_not] at hC; omega
          clear hC
          by_cases hq : (u[k].toNat : Int) < 48
          · have hq1 : decide ((u[k].toNat : Int) < 48) = true := by simp; omega
            go_wp2
            go_ret2
            exact ⟨_, _, rfl, .inr ⟨HFS.out, .inl rfl⟩, rfl⟩
          · have hq1 : decide ((u[k].toNat : Int) < 48) = false := by simp; omega
            have hq2 : decide (57 < (u[k].toNat : Int)) = true := by simp; omega
            go_wp2
            go_ret2
            exact ⟨_, _, rfl, .inr ⟨HFS.out, .inl rfl⟩, rfl⟩
      · obtain rfl : k = u.size := by omega
        have e : u.data.toList.take u.size = u.data.toList := List.take_of_length_le (by simp)
        rw [e] at HD
        have HV := qh (show valTo u u.size = valL u.data.toList by unfold valTo; rw [e])
        rw [HV.out]
        clear e
        have hbd := valL_bd18 (l := u.data.toList) (by rw [← ba_size]; omega) HD.out
        obtain ⟨m, Hm⟩ : ∃ m, Hid (valL u.data.toList = m) := ⟨_, rfl⟩
        rw [Hm.out] at hbd ⊢
        have HPm : Hid (1 ≤ m) := qh (by have := HP.out HD.out; rw [Hm.out] at this; exact this)
        go_wp2
        go_ret2
        exact ⟨_, _, rfl, .inr ⟨HFS.out, .inr (by have := HPm.out; omega)⟩, rfl⟩
 · have hd1 : ((s[0].toNat : Int) == 45) = false := beq_eq_false_iff_ne.2 h45
   clear h45
   by_cases g18 : 18 < s.size
   · have hg2 : decide (18 < (s.size : Int)) = true := by simp; omega
     have hg : ((s.size : Int) == 0) = false := beq_eq_false_iff_ne.2 (by omega)
     have HF := qh (plainB_size (l := s.data.toList) (.inr (by rw [← ba_size]; exact g18)))
     go_enter Tryz.func220, Tryz.ntmps220
     go_wp2
     go_ret2
     exact ⟨_, _, rfl, .inr ⟨HF.out, .inl rfl⟩, rfl⟩
   have hg2 : decide (18 < (s.size : Int)) = false := by simp; omega
   have hg : ((s.size : Int) == 0) = false := beq_eq_false_iff_ne.2 (by omega)
   by_cases g48 : (s[0].toNat : Int) = 48
   · have hg3 : ((s[0].toNat : Int) == 48) = true := beq_iff_eq.2 g48
     by_cases g1 : 1 < s.size
     · have hg4 : decide (1 < (s.size : Int)) = true := by simp; omega
       have HF := qh (plainB_nought (l := s.data.toList) (by rw [← ba_size]; exact g1) (by rw [head_at hp, toNat48 g48]))
       clear g48
       go_enter Tryz.func220, Tryz.ntmps220
       go_wp2
       go_ret2
       exact ⟨_, _, rfl, .inr ⟨HF.out, .inl rfl⟩, rfl⟩
     · have hg4 : decide (1 < (s.size : Int)) = false := by simp; omega
       have HPl := qh (plainB_mk (l := s.data.toList) (by rw [← ba_size]; omega) (by rw [← ba_size]; omega) (.inl (by rw [← ba_size]; omega)))
       clear g48
       go_enter Tryz.func220, Tryz.ntmps220
       go_wp2
       go_loop [5, 6] (fun n i => ∃ k : Nat, k ≤ s.size ∧ i = ii k ∧ digL (s.data.toList.take k) = true ∧ n = ii ((valTo s k : Nat) : Int)) (fun _ i => s.size - (intOf i).toNat)
       case atStart => exact ⟨0, Nat.zero_le _, rfl, rfl, rfl⟩
       case round =>
        obtain ⟨k, hk, rfl, hd', rfl⟩ := hrel
        have HD := qh hd'
        clear hd'
        by_cases hlt : k < s.size
        · have hbd := valTo_bd17 (s := s) (k := k) (by omega) HD.out
          have HV := qh (valTo_succ s k hlt)
          have HT := qh (take_snoc s k hlt)
          obtain ⟨m, Hm⟩ : ∃ m, Hid (valTo s k = m) := ⟨_, rfl⟩
          rw [Hm.out] at hbd HV ⊢
          cases hC : digI (s[k].toNat : Int) with
          | true =>
            obtain ⟨h1', h2'⟩ := digI_yes hC
            have HC := qh hC
            clear hC
            have hq1 : decide ((s[k].toNat : Int) < 48) = false := by simp; omega
            have hq2 : decide (57 < (s[k].toNat : Int)) = false := by simp; omega
            go_wp2
            go_round
            case rel => exact ⟨k + 1, by omega, by go_num, by rw [HT.out, digL_snoc, HD.out]; exact HC.out, by rw [HV.out, ← numS_step h1']⟩
            case measure => simp [intOf]; omega
          | false =>
            have HF := qh (digL_no (l := s.data.toList) (k := k) (by simpa using hlt) (by rw [getL s k hlt]; exact hC))
            have hC2 : ¬ (48 ≤ (s[k].toNat : Int) ∧ (s[k].toNat : Int) ≤ 57) := by
             intro h; unfold digI at hC; simp only [Bool.and_eq_false_iff, decide_eq_false_iff_not] at hC; omega
            clear hC
            by_cases hq : (s[k].toNat : Int) < 48
            · have hq1 : decide ((s[k].toNat : Int) < 48) = true := by simp; omega
              go_wp2
              go_ret2
              exact ⟨_, _, rfl, .inr ⟨HPl.out.trans HF.out, .inl rfl⟩, rfl⟩
            · have hq1 : decide ((s[k].toNat : Int) < 48) = false := by simp; omega
              have hq2 : decide (57 < (s[k].toNat : Int)) = true := by simp; omega
              go_wp2
              go_ret2
              exact ⟨_, _, rfl, .inr ⟨HPl.out.trans HF.out, .inl rfl⟩, rfl⟩
        · obtain rfl : k = s.size := by omega
          have e : s.data.toList.take s.size = s.data.toList := List.take_of_length_le (by simp)
          rw [e] at HD
          have HV := qh (show valTo s s.size = valL s.data.toList by unfold valTo; rw [e])
          rw [HV.out]
          clear e
          have hbd := valL_bd18 (l := s.data.toList) (by rw [← ba_size]; omega) HD.out
          obtain ⟨m, Hm⟩ : ∃ m, Hid (valL s.data.toList = m) := ⟨_, rfl⟩
          rw [Hm.out] at hbd ⊢
          skip
          go_wp2
          go_ret2
          exact ⟨_, _, rfl, .inl ⟨HPl.out.trans HD.out, rfl, by rw [Hm.out]⟩, rfl⟩
   · have hg3 : ((s[0].toNat : Int) == 48) = false := beq_eq_false_iff_ne.2 g48
     have HPl := qh (plainB_mk (l := s.data.toList) (by rw [← ba_size]; omega) (by rw [← ba_size]; omega) (.inr (by rw [head_at hp]; intro e; injection e with e; exact g48 (by rw [e]; rfl))))
     clear g48
     go_enter Tryz.func220, Tryz.ntmps220
     go_wp2
     go_loop [5, 6] (fun n i => ∃ k : Nat, k ≤ s.size ∧ i = ii k ∧ digL (s.data.toList.take k) = true ∧ n = ii ((valTo s k : Nat) : Int)) (fun _ i => s.size - (intOf i).toNat)
     case atStart => exact ⟨0, Nat.zero_le _, rfl, rfl, rfl⟩
     case round =>
      obtain ⟨k, hk, rfl, hd', rfl⟩ := hrel
      have HD := qh hd'
      clear hd'
      by_cases hlt : k < s.size
      · have hbd := valTo_bd17 (s := s) (k := k) (by omega) HD.out
        have HV := qh (valTo_succ s k hlt)
        have HT := qh (take_snoc s k hlt)
        obtain ⟨m, Hm⟩ : ∃ m, Hid (valTo s k = m) := ⟨_, rfl⟩
        rw [Hm.out] at hbd HV ⊢
        cases hC : digI (s[k].toNat : Int) with
        | true =>
          obtain ⟨h1', h2'⟩ := digI_yes hC
          have HC := qh hC
          clear hC
          have hq1 : decide ((s[k].toNat : Int) < 48) = false := by simp; omega
          have hq2 : decide (57 < (s[k].toNat : Int)) = false := by simp; omega
          go_wp2
          go_round
          case rel => exact ⟨k + 1, by omega, by go_num, by rw [HT.out, digL_snoc, HD.out]; exact HC.out, by rw [HV.out, ← numS_step h1']⟩
          case measure => simp [intOf]; omega
        | false =>
          have HF := qh (digL_no (l := s.data.toList) (k := k) (by simpa using hlt) (by rw [getL s k hlt]; exact hC))
          have hC2 : ¬ (48 ≤ (s[k].toNat : Int) ∧ (s[k].toNat : Int) ≤ 57) := by
           intro h; unfold digI at hC; simp only [Bool.and_eq_false_iff, decide_eq_false_iff_not] at hC; omega
          clear hC
          by_cases hq : (s[k].toNat : Int) < 48
          · have hq1 : decide ((s[k].toNat : Int) < 48) = true := by simp; omega
            go_wp2
            go_ret2
            exact ⟨_, _, rfl, .inr ⟨HPl.out.trans HF.out, .inl rfl⟩, rfl⟩
          · have hq1 : decide ((s[k].toNat : Int) < 48) = false := by simp; omega
            have hq2 : decide (57 < (s[k].toNat : Int)) = true := by simp; omega
            go_wp2
            go_ret2
            exact ⟨_, _, rfl, .inr ⟨HPl.out.trans HF.out, .inl rfl⟩, rfl⟩
      · obtain rfl : k = s.size := by omega
        have e : s.data.toList.take s.size = s.data.toList := List.take_of_length_le (by simp)
        rw [e] at HD
        have HV := qh (show valTo s s.size = valL s.data.toList by unfold valTo; rw [e])
        rw [HV.out]
        clear e
        have hbd := valL_bd18 (l := s.data.toList) (by rw [← ba_size]; omega) HD.out
        obtain ⟨m, Hm⟩ : ∃ m, Hid (valL s.data.toList = m) := ⟨_, rfl⟩
        rw [Hm.out] at hbd ⊢
        skip
        go_wp2
        go_ret2
        exact ⟨_, _, rfl, .inl ⟨HPl.out.trans HD.out, rfl, by rw [Hm.out]⟩, rfl⟩
def RetL4 (w : World) (s : BA) (e : Ending) (w' : World) : Prop :=
 ∃ n : Int, e = .returned (.tuple #[ii n, .bool (plainB s.data.toList)]) ∧ (plainB s.data.toList = true → n = ((valL s.data.toList : Nat) : Int)) ∧ Nx w w'
theorem l04Number_c (s : BA) (w : World) (hs : s.size ≤ 65536) : Calls Tryz.prog 195 #[.string s] w (RetL4 w s) := by
 go_enter Tryz.func195, Tryz.ntmps195
 go_wp2_with fail
 refine (l00Number_c s _ hs).mono ?_
 rintro e w1 ⟨n, b, rfl, hcase, rfl⟩
 rcases hcase with ⟨hP, rfl, rfl⟩ | ⟨hP, rfl | hneg⟩
 · have HPp := qh hP
   have hbd := valL_bd18 (plainB_len hP).2 (plainB_dig hP)
   have HG := qh (plain_digs hP)
   clear hP
   have HS := qh (show (⟨(digs (valL s.data.toList)).toArray⟩ : BA) = s by rw [HG.out])
   obtain ⟨m, Hm⟩ : ∃ m, Hid (valL s.data.toList = m) := ⟨_, rfl⟩
   rw [Hm.out] at hbd HS ⊢
   have hge : decide ((0 : Int) ≤ (m : Int)) = true := by simp
   go_wp2_with fail
   refine (l00Digits18_c m _ hbd).mono ?_
   rintro e w2 ⟨rfl, hnx⟩
   rw [HS.out]
   have hbq : (s.toList == s.toList) = true := by simp
   go_wp2
   go_ret2
   exact ⟨m, by rw [HPp.out]; rfl, (fun _ => by rw [Hm.out]), hnx⟩
 · have HPp := qh hP
   clear hP
   go_wp2
   go_ret2
   exact ⟨n, by rw [HPp.out]; rfl, (fun h => by rw [HPp.out] at h; cases h), Nx.refl _⟩
 · have HPp := qh hP
   clear hP
   have hge : decide ((0 : Int) ≤ n) = false := by simp; omega
   cases b with
   | false =>
     go_wp2
     go_ret2
     exact ⟨n, by rw [HPp.out]; rfl, (fun h => by rw [HPp.out] at h; cases h), Nx.refl _⟩
   | true =>
     go_wp2
     go_ret2
     exact ⟨n, by rw [HPp.out]; rfl, (fun h => by rw [HPp.out] at h; cases h), Nx.refl _⟩
theorem wp_addAllJ {w : World} {o : Oper} {a : Act} {K : Act → World → Prop} {Q : Exit → Act → World → Prop}
 (s x : Operand) (ho : o.op = .call { callee := .builtin .append, args := #[s, x], argTypes := #[23, 23] })
 (B g0 : Nat) (A : Option Addr) (c : Nat) (xs : List Int) (hs : a.eval s = .slice (some ⟨g0, 0, none⟩) 0 0) (hx : a.eval x = .slice A xs.length c) (hown : RowI w B (.slice (some ⟨g0, 0, none⟩) 0 0) []) {B' : Nat} (hrow : Ins w B' A xs)
 (hm : xs.length ≤ 1048576) (hB : B ≤ w.heap.size)
 (hK : ∀ A' k' w', RowI w' B (.slice A' xs.length k') xs → GrewT 3 B w w' → (∀ k, k < w.heap.size → k ≠ g0 → w'.heap[k]? = w.heap[k]?) → K (a.put o.dst (.slice A' xs.length k')) w') :
 o.wp Tryz.prog a w K Q := by
 obtain ⟨i0, hi0, hz0, hz1, hz2⟩ := info_parts info_int
 rcases Nat.eq_zero_or_pos xs.length with h0 | hp
 · have hgs : xs = [] := List.eq_nil_of_length_eq_zero h0
   subst hgs
   have hrun : (Builtin.append_ #[23, 23] o.type #[.slice (some ⟨g0, 0, none⟩) 0 0, .slice A 0 c]).run Tryz.prog w = .ok (.slice (some ⟨g0, 0, none⟩) 0 0) w := by
    rcases A with _ | a'
    · simp [Builtin.append_, run_underlying Tryz.underlying23, sizeOf, typeInfo, hi0, Builtin.lenOf, Builtin.firstCells, storeCells]
    · simp [Builtin.append_, run_underlying Tryz.underlying23, sizeOf, typeInfo, hi0, Builtin.lenOf, Builtin.firstCells, storeCells, loadCells, loadCellsFrom]
   have hx' : a.eval x = .slice A 0 c := hx
   unfold Oper.wp execOp
   simp only [ho, resolve, invoke, builtin, Sem.run_bind, Sem.run_pure, Result.andThen_ok, List.map_toArray, List.map_cons, List.map_nil, hs, hx', hrun]
   exact hK _ _ w hown (grewT_refl' _ _ _) (fun _ _ _ => rfl)
 · obtain ⟨b, off, rfl, hb, hc⟩ := hrow (by omega)
   refine wp_append_own w s x 23 ho B 3 i0 _ 1 8 Tryz.underlying23 hi0 hz0 hz1 hz2 rfl (by omega) _ 0 _ hs hown ⟨b, off, none⟩ xs.length c (iV xs) hx (by rw [iV_len', Nat.mul_one]) (fun j u hj => ?_) (iV_one' xs) (by unfold maxLen; omega) (by omega) hB ?_
   · have hj' : j < xs.length := by
      have := (List.getElem?_eq_some_iff.1 hj).1
      rwa [iV_len'] at this
     rw [iV_get xs j hj'] at hj
     rw [addr_add', hc j hj']
     exact hj
   · intro v' w' hw' hg' _
     have hr : RowI w' B v' xs := by
      unfold RowI
      have : w'.ownsRow B 3 1 v' (0 + xs.length) (iV [] ++ iV xs) := hw'
      rw [Nat.zero_add] at this
      exact this
     obtain ⟨A', k', rfl, _⟩ := hr.sl
     exact hK A' k' w' hr (grewT_of' hown hg') (fun k hk hne => hg'.block k hk (fun e => hne (by simpa [Value.ownBlock] using e)))
theorem RowM.pt6t {u : World} {B g : Nat} {v : Value} {ms : List Mrk} {t' : TypeId} {a b c d x y : Value} (h : RowM u B v ms) (hb : Box u g t' #[a, b, c, d, x, y]) (ht : t' ≠ 136) (v0 v1 v2 v3 v4 v5 : Value) : RowM (put6 u g v0 v1 v2 v3 v4 v5) B v ms :=
 (((((h.far (p := ⟨g, 0, none⟩) hb ht v0).far (p := ⟨g, 1, none⟩) (hb.set 0 v0) ht v1).far (p := ⟨g, 2, none⟩) ((hb.set 0 v0).set 1 v1) ht v2).far (p := ⟨g, 3, none⟩) (((hb.set 0 v0).set 1 v1).set 2 v2) ht v3).far (p := ⟨g, 4, none⟩) ((((hb.set 0 v0).set 1 v1).set 2 v2).set 3 v3) ht v4).far (p := ⟨g, 5, none⟩) (((((hb.set 0 v0).set 1 v1).set 2 v2).set 3 v3).set 4 v4) ht v5
theorem Sl.grew {w w' : World} {lo B m : Nat} {A : Option Addr} {t t' : TypeId} {f : Nat → Value} (h : Sl w lo A t m f) (hg : GrewT t' B w w') (ht : t ≠ t') : Sl w' lo A t m f := fun hm => by
 obtain ⟨g, e, hl, cs, hc, r⟩ := h hm
 exact ⟨g, e, hl, cs, hg.box g t cs ht hc, r⟩
theorem merge6 {G : Nat → Nat → Nat → Option Addr → Nat → World → Prop} {F : Nat → Nat → Nat → Option Addr → Nat → World → Prop} {R : Prop} (main : (∀ gi gs gm A c W, F gi gs gm A c W → G gi gs gm A c W) → R) (key : ∀ gi gs gm A c W, F gi gs gm A c W → G gi gs gm A c W) : R := main key
end Go.Proofs.YtieoiailjjnnoaaGreatDoor
