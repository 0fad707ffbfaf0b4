/-
  Texts of the proof, in their order.
  Conditions: those of each.
-/
import Derived.Test.YtieoiailjjnnoaaGreatDoorMa4
import Derived.Deep.AppendLies
namespace Go.Proofs.YtieoiailjjnnoaaGreatDoor
set_option linter.unusedVariables false
open _root_.Go.Proofs.Tryz
set_option maxRecDepth 100000
set_option maxHeartbeats 16000000
section
open Go.RowKit
def RetSU (w : World) (o : Option U6) (bad good : Value) (e : Ending) (w' : World) : Prop :=
 Nx w w' /\ (o = none -> e = .returned (.tuple #[.agg #[ii 0, ii 0, ii 0, ii 0, nsl, nsl], bad])) /\
 ∀ q : U6, o = some q -> ∃ A c A2 c2, e = .returned (.tuple #[.agg #[ii q.1, ii q.2.1, ii q.2.2.1, ii q.2.2.2.1, sC A q.2.2.2.2.1.length c, sC A2 q.2.2.2.2.2.length c2], good]) /\
   q.2.2.2.2.1.length <= c /\ SlI w' w.heap.size A q.2.2.2.2.1 /\ SlM w' w.heap.size A2 q.2.2.2.2.2
theorem RetSU.no {w w' : World} {o : Option U6} {bad good : Value} (h : o = none) (hn : Nx w w') : RetSU w o bad good (.returned (.tuple #[.agg #[ii 0, ii 0, ii 0, ii 0, nsl, nsl], bad])) w' :=
 ⟨hn, fun _ => rfl, fun q h2 => by rw [h] at h2; cases h2⟩
theorem RetSU.yes {w w' : World} {o : Option U6} {bad good : Value} {g b p t : Int} {xs : List Int} {ms : List Mrk} {c c2 : Nat} {A A2 : Option Addr} (h : o = some (g, b, p, t, xs, ms)) (hc : xs.length <= c) (hs : SlI w' w.heap.size A xs) (hm : SlM w' w.heap.size A2 ms) (hn : Nx w w') :
 RetSU w o bad good (.returned (.tuple #[.agg #[ii g, ii b, ii p, ii t, sC A xs.length c, sC A2 ms.length c2], good])) w' :=
 ⟨hn, (fun h2 => by rw [h] at h2; cases h2), fun q h2 => by rw [h] at h2; injection h2 with h2; subst h2; exact ⟨A, c, A2, c2, rfl, hc, hs, hm⟩⟩
def dropA (A : Option Addr) (c : Nat) : Option Addr := if c = 4 then A else A.map (·.add (4 * 1))
theorem drop_row {W : World} {B b off c : Nat} {ns : List Nat} (h : ∀ i, i < ns.length -> W.cell? ⟨b, off + i, none⟩ = some (intAt ns i)) (hb : b < B) (hl : 4 <= ns.length) (hcp : ns.length <= c) : Ins W B (dropA (some ⟨b, off, none⟩) c) (intsN (ns.drop 4)) := fun hm => by
 have hl2 : (intsN (ns.drop 4)).length = ns.length - 4 := by rw [intsN_len, List.length_drop]
 rw [hl2] at hm
 refine ⟨b, off + 4, ?_, hb, fun i hi => ?_⟩
 . unfold dropA
   rw [if_neg oM]
   simp [Addr.add]
 . rw [hl2] at hi
   rw [show off + 4 + i = off + (4 + i) by omega, h (4 + i) oM, intsN_at _ _ (by rw [List.length_drop]; omega)]
   unfold intAt
   rw [gdE, gdE, List.getElem?_drop]
theorem slice4 {o : Oper} {a : Act} {x : Operand} {A : Option Addr} {n c m : Nat} {W : World} (ho : o.op = .slice 23 x (some (.const (ii 4))) none none) (hx : a.eval x = sC A n c) (hl : 4 <= n) (hm : m = n - 4) :
 (execOp a.eval o).run Tryz.prog W = .ok (.value (sC (dropA A c) m (c - 4))) W := by
 obtain ⟨i0, hi0, hz0, hz1, hz2⟩ := info_parts info_int
 subst hm
 have he : Tryz.prog.elem 23 = 3 := by kernel_rfl
 have h1 := run_slice_l (P := Tryz.prog) (w := W) 23 A n c (by rw [he]; exact underlying23) .i64 4 oM oM
 rw [he] at h1
 have hc : a.eval (.const (ii 4)) = ii 4 := rfl
 unfold execOp
 have h2 := run_sliceAt_slice (P := Tryz.prog) (w := W) 23 (sC A n c) (some (ii 4)) none none (by rw [he]; exact underlying23)
 simp only [ho, hx, hc, Option.map_some, Option.map_none]
 simp [h2, h1, sizeOf, typeInfo, hi0, hz1, sliced, dropA]
theorem marksL_from : ∀ {ws : List (List UInt8)} {ms : List Mrk} {m : Mrk}, marksL ws = some ms -> m ∈ ms -> ∃ w ∈ ws, wordM w = some m
 | [], ms, m, h, hm => by simp only [marksL, Option.some.injEq] at h; subst h; simp at hm
 | x :: ws, ms, m, h, hm => by
   rw [marksL] at h
   cases hx : wordM x with
   | none => rw [hx] at h; cases h
   | some q =>
     rw [hx, Option.bind_some] at h
     cases hw : marksL ws with
     | none => rw [hw] at h; cases h
     | some ns =>
       rw [hw, Option.map_some, Option.some.injEq] at h
       subst h
       rcases List.mem_cons.1 hm with rfl | hm
       . exact ⟨x, by simp, hx⟩
       . obtain ⟨w, hw', e⟩ := marksL_from hw hm
         exact ⟨w, by simp [hw'], e⟩
theorem wordM_size {l : List UInt8} {m : Mrk} (h : wordM l = some m) : m.1.size <= l.length := by
 unfold wordM at h
 split at h
 . injection h with h
   subst h
   show (baL _).size <= _
   rw [baL_size]
   exact (cut_len l 61).1
 . cases h
theorem marksO_fit {l : List UInt8} {ms : List Mrk} (hl : l.length <= 65536) (h : marksO l = some ms) : ms.length <= 1048576 /\ AllM ms := by
 unfold marksO at h
 split at h
 . injection h with h; subst h
   exact ⟨by simp, fun k => by simp [mrZ]⟩
 . refine ⟨?_, fun k => ?_⟩
   . rw [marksL_len h]; have := cutL_size 44 l; omega
   . by_cases hk : k < ms.length
     . rw [gdE, List.getElem?_eq_getElem hk, Option.getD_some]
       obtain ⟨w, hw, e⟩ := marksL_from h (List.getElem_mem hk)
       have h1 := wordM_size e
       have h2 := cutL_part hw
       omega
     . rw [gdE, List.getElem?_eq_none oM]; simp [mrZ]
theorem numsO_fit {l : List UInt8} {ns : List Nat} (h : numsO l = some ns) : ns.length <= l.length := by
 unfold numsO at h
 split at h
 . injection h with h; subst h; rw [numsOf_len]; omega
 . cases h
theorem superOfText_c (t : BA) (w : World) (a0 a1 : Addr) (ht : t.size <= 65536) (hE : Er w a0 a1) (hM : Mx w) : Calls Tryz.prog 48 #[.string t] w (RetSU w (rdU t) (.iface 290 (.pointer (some a0))) .nilIface) := by
 have e0 := hE.1
 have hg0 : 0 < w.heap.size := World.block_lt_of_cell? w _ e0
 have b0 := Box.new w 26 #[ii 0, ii 0, ii 0, ii 0, nsl, nsl]
 have hx0 := (Nx.refl w).alloc (.cells #[ii 0, ii 0, ii 0, ii 0, nsl, nsl] 26)
 go_enter func48, ntmps48
 go_wp2_with fail
 generalize w.alloc (.cells #[ii 0, ii 0, ii 0, ii 0, nsl, nsl] 26) = W at *
 refine (unsealed_c t _ a0 a1 ht (hE.nx hx0)).mono ?_
 rintro e w1 ⟨hnx1, h1, h2⟩
 have b1 := b0.nx hnx1
 have hx1 := hx0.trans hnx1
 clear b0 hx0 hnx1
 cases ho : opensB t with
 | false =>
   obtain rfl := h1 ho
   have HF := qh (rdU_shut ho)
   clear h1 h2 ho
   obtain ⟨u0, u1, u2, u3, u4, u5⟩ := b1.d6
   have f0 := b1.frozen 0
   have f1 := b1.frozen 1
   have f2 := b1.frozen 2
   have f3 := b1.frozen 3
   have f4 := b1.frozen 4
   have f5 := b1.frozen 5
   go_wp2
   have q := (put6_box b1 (ii 0) (ii 0) (ii 0) (ii 0) (nsl) (nsl))
   have hnf := (put6_nx hx1 (Nat.le_refl w.heap.size) (ii 0) (ii 0) (ii 0) (ii 0) (nsl) (nsl))
   change bodyPost _ _ _ _ _ (put6 w1 w.heap.size (ii 0) (ii 0) (ii 0) (ii 0) (nsl) (nsl))
   change Box (put6 w1 w.heap.size (ii 0) (ii 0) (ii 0) (ii 0) (nsl) (nsl)) _ _ _ at q
   generalize put6 w1 w.heap.size (ii 0) (ii 0) (ii 0) (ii 0) (nsl) (nsl) = Wf at *
   obtain ⟨g0, g1, g2, g3, g4, g5⟩ := q.d6
   exact bodyPost_ret (v := .tuple #[.agg #[ii 0, ii 0, ii 0, ii 0, nsl, nsl], .iface 290 (.pointer (some a0))]) (by simp [results, results48, go_sem, g0, g1, g2, g3, g4, g5]) rfl (RetSU.no HF.out hnf)
 | true =>
   obtain rfl := h2 ho
   clear h1 h2
   have hbs := bodyOf_size t
   go_wp2_with fail
   refine (cut_c (bodyOf t) 124 _ oM (hM.nx hx1)).mono ?_
   rintro e w2 ⟨he, hnx2⟩
   have b2 := b1.nx hnx2
   have hx2 := hx1.trans hnx2
   clear b1 hx1 hnx2
   rcases part_at 124 (bodyOf t).data.toList with hm | ⟨la, lb, hna, hab⟩
   . rw [cut_miss hm] at he
     have HF := qh (rdU_miss hm)
     clear hm ho hbs
     simp only at he
     generalize baL (bodyOf t).data.toList = z1 at he
     generalize baL [] = z2 at he
     subst he
     obtain ⟨u0, u1, u2, u3, u4, u5⟩ := b2.d6
     have f0 := b2.frozen 0
     have f1 := b2.frozen 1
     have f2 := b2.frozen 2
     have f3 := b2.frozen 3
     have f4 := b2.frozen 4
     have f5 := b2.frozen 5
     have hlt9 := b2.lt
     go_wp2_with fail
     refine wp_lexA (kf2 (true :: ff :: [])) (fun w' => CC w' 0 0 (.iface 290 (.pointer (some a0)))) (by exact ((hx2.drew).cell (p := ⟨0, 0, none⟩) hg0).trans e0) ?_
     refine hLr ?_
     refine hLc fun K hK => ?_
     go_simp
     refine hK.out _ _ (by exact ((put6_nx hx2 (Nat.le_refl w.heap.size) (ii 0) (ii 0) (ii 0) (ii 0) (nsl) (nsl)).drew.cell (p := ⟨0, 0, none⟩) hg0).trans e0) ?_
     clear hK K
     refine nZ ?_
     refine hLr ?_
     refine HL.done ?_
     clear u0 u1 u2 u3 u4 u5 f0 f1 f2 f3 f4 f5
     go_wp2
     have q := (put6_box b2 (ii 0) (ii 0) (ii 0) (ii 0) (nsl) (nsl)).drew
     have hnf := (put6_nx hx2 (Nat.le_refl w.heap.size) (ii 0) (ii 0) (ii 0) (ii 0) (nsl) (nsl)).drew
     change bodyPost _ _ _ _ _ (World.drew (put6 w2 w.heap.size (ii 0) (ii 0) (ii 0) (ii 0) (nsl) (nsl)))
     change Box (World.drew (put6 w2 w.heap.size (ii 0) (ii 0) (ii 0) (ii 0) (nsl) (nsl))) _ _ _ at q
     generalize World.drew (put6 w2 w.heap.size (ii 0) (ii 0) (ii 0) (ii 0) (nsl) (nsl)) = Wf at *
     obtain ⟨g0, g1, g2, g3, g4, g5⟩ := q.d6
     exact bodyPost_ret (v := .tuple #[.agg #[ii 0, ii 0, ii 0, ii 0, nsl, nsl], .iface 290 (.pointer (some a0))]) (by simp [results, results48, go_sem, g0, g1, g2, g3, g4, g5]) rfl (RetSU.no HF.out hnf)
   . rw [hab, cut_hit hna] at he
     have HPu := qh (rdU_hit ho hna hab)
     have hla : (baL la).size <= 65536 := by rw [baL_size]; have := congrArg List.length hab; rw [<- ba_size] at this; simp only [List.length_append, List.length_cons] at this; omega
     have hlb : (baL lb).size <= 65536 := by rw [baL_size]; have := congrArg List.length hab; rw [<- ba_size] at this; simp only [List.length_append, List.length_cons] at this; omega
     have HLb : Hid (lb.length <= 65536) := qh (by rw [<- baL_size]; exact hlb)
     have HLa : Hid (la.length <= 65536) := qh (by rw [<- baL_size]; exact hla)
     clear hab hna ho hbs
     subst he
     obtain ⟨sa, Hsa⟩ := nM (baL la)
     obtain ⟨sb, Hsb⟩ := nM (baL lb)
     have Hda := qh (show sa.data.toList = la by rw [<- Hsa.out]; rfl)
     have Hdb := qh (show sb.data.toList = lb by rw [<- Hsb.out]; rfl)
     rw [Hsa.out] at hla
     rw [Hsb.out] at hlb
     rw [Hsa.out, Hsb.out]
     go_wp2_with fail
     refine (numbersOf_c sa _ a0 a1 hla (hE.nx hx2)).mono ?_
     rintro e w3 ⟨hnx3, h1, h2⟩
     rw [Hda.out] at h1 h2
     have b3 := b2.nx hnx3
     have hx3 := hx2.trans hnx3
     clear b2 hx2 hnx3
     cases hn : numsO la with
     | none =>
       obtain rfl := h1 hn
       have HF := qh (HPu.out.trans (partU_nums hn))
       clear h1 h2 hn
       obtain ⟨u0, u1, u2, u3, u4, u5⟩ := b3.d6
       have f0 := b3.frozen 0
       have f1 := b3.frozen 1
       have f2 := b3.frozen 2
       have f3 := b3.frozen 3
       have f4 := b3.frozen 4
       have f5 := b3.frozen 5
       go_wp2
       have q := (put6_box b3 (ii 0) (ii 0) (ii 0) (ii 0) (nsl) (nsl))
       have hnf := (put6_nx hx3 (Nat.le_refl w.heap.size) (ii 0) (ii 0) (ii 0) (ii 0) (nsl) (nsl))
       change bodyPost _ _ _ _ _ (put6 w3 w.heap.size (ii 0) (ii 0) (ii 0) (ii 0) (nsl) (nsl))
       change Box (put6 w3 w.heap.size (ii 0) (ii 0) (ii 0) (ii 0) (nsl) (nsl)) _ _ _ at q
       generalize put6 w3 w.heap.size (ii 0) (ii 0) (ii 0) (ii 0) (nsl) (nsl) = Wf at *
       obtain ⟨g0, g1, g2, g3, g4, g5⟩ := q.d6
       exact bodyPost_ret (v := .tuple #[.agg #[ii 0, ii 0, ii 0, ii 0, nsl, nsl], .iface 290 (.pointer (some a0))]) (by simp [results, results48, go_sem, g0, g1, g2, g3, g4, g5]) rfl (RetSU.no HF.out hnf)
     | some ns =>
       obtain ⟨A, c, rfl, hrow, hcp⟩ := h2 ns hn
       clear h1 h2
       by_cases hl4 : 4 <= ns.length
       case neg =>
        have HF := qh (HPu.out.trans (partU_few hn oM))
        have hd4 : decide ((ns.length : Int) < 4) = true := by simp; omega
        clear hn hcp hl4
        obtain ⟨u0, u1, u2, u3, u4, u5⟩ := b3.d6
        have f0 := b3.frozen 0
        have f1 := b3.frozen 1
        have f2 := b3.frozen 2
        have f3 := b3.frozen 3
        have f4 := b3.frozen 4
        have f5 := b3.frozen 5
        have hlt9 := b3.lt
        go_wp2_with fail
        refine wp_lexA (kf2 (true :: ff :: [])) (fun w' => CC w' 0 0 (.iface 290 (.pointer (some a0)))) (by exact ((hx3.drew).cell (p := ⟨0, 0, none⟩) hg0).trans e0) ?_
        refine hLr ?_
        refine hLc fun K hK => ?_
        go_simp
        refine hK.out _ _ (by exact ((put6_nx hx3 (Nat.le_refl w.heap.size) (ii 0) (ii 0) (ii 0) (ii 0) (nsl) (nsl)).drew.cell (p := ⟨0, 0, none⟩) hg0).trans e0) ?_
        clear hK K
        refine nZ ?_
        refine hLr ?_
        refine HL.done ?_
        clear u0 u1 u2 u3 u4 u5 f0 f1 f2 f3 f4 f5
        go_wp2
        have q := (put6_box b3 (ii 0) (ii 0) (ii 0) (ii 0) (nsl) (nsl)).drew
        have hnf := (put6_nx hx3 (Nat.le_refl w.heap.size) (ii 0) (ii 0) (ii 0) (ii 0) (nsl) (nsl)).drew
        change bodyPost _ _ _ _ _ (World.drew (put6 w3 w.heap.size (ii 0) (ii 0) (ii 0) (ii 0) (nsl) (nsl)))
        change Box (World.drew (put6 w3 w.heap.size (ii 0) (ii 0) (ii 0) (ii 0) (nsl) (nsl))) _ _ _ at q
        generalize World.drew (put6 w3 w.heap.size (ii 0) (ii 0) (ii 0) (ii 0) (nsl) (nsl)) = Wf at *
        obtain ⟨g0, g1, g2, g3, g4, g5⟩ := q.d6
        exact bodyPost_ret (v := .tuple #[.agg #[ii 0, ii 0, ii 0, ii 0, nsl, nsl], .iface 290 (.pointer (some a0))]) (by simp [results, results48, go_sem, g0, g1, g2, g3, g4, g5]) rfl (RetSU.no HF.out hnf)
       have hd4 : decide ((ns.length : Int) < 4) = false := by simp; omega
       have HNs := qh hn
       have hnl : ns.length <= 65536 := by have := numsO_fit hn; have := HLa.out; omega
       clear hn
       go_wp2_with fail
       refine (marksOf_c sb _ a0 a1 hlb (hE.nx hx3) (hM.nx hx3)).mono ?_
       rintro e w4 ⟨hnx4, h1, h2⟩
       rw [Hdb.out] at h1 h2
       have b4 := b3.nx hnx4
       have hx4 := hx3.trans hnx4
       have hrow4 := hrow.below hnx4 nle
       have hsz4 := hnx4.size
       have hsz3 := hx3.size
       have hlt3 := b3.lt
       clear b3 hx3 hrow
       cases hmk : marksO lb with
       | none =>
         obtain rfl := h1 hmk
         have HF := qh (HPu.out.trans (partU_marks HNs.out hmk))
         clear h1 h2 hmk
         obtain ⟨u0, u1, u2, u3, u4, u5⟩ := b4.d6
         have f0 := b4.frozen 0
         have f1 := b4.frozen 1
         have f2 := b4.frozen 2
         have f3 := b4.frozen 3
         have f4 := b4.frozen 4
         have f5 := b4.frozen 5
         go_wp2
         have q := (put6_box b4 (ii 0) (ii 0) (ii 0) (ii 0) (nsl) (nsl))
         have hnf := (put6_nx hx4 (Nat.le_refl w.heap.size) (ii 0) (ii 0) (ii 0) (ii 0) (nsl) (nsl))
         change bodyPost _ _ _ _ _ (put6 w4 w.heap.size (ii 0) (ii 0) (ii 0) (ii 0) (nsl) (nsl))
         change Box (put6 w4 w.heap.size (ii 0) (ii 0) (ii 0) (ii 0) (nsl) (nsl)) _ _ _ at q
         generalize put6 w4 w.heap.size (ii 0) (ii 0) (ii 0) (ii 0) (nsl) (nsl) = Wf at *
         obtain ⟨g0, g1, g2, g3, g4, g5⟩ := q.d6
         exact bodyPost_ret (v := .tuple #[.agg #[ii 0, ii 0, ii 0, ii 0, nsl, nsl], .iface 290 (.pointer (some a0))]) (by simp [results, results48, go_sem, g0, g1, g2, g3, g4, g5]) rfl (RetSU.no HF.out hnf)
       | some ms =>
       obtain ⟨A3, c3, rfl, hM4'⟩ := h2 ms hmk
       have hM4 := hM4'
       have hfit := marksO_fit HLb.out hmk
       have hml := hfit.1
       have HAm := qh hfit.2
       have HU := qh (HPu.out.trans (partU_yes HNs.out hl4 hmk))
       clear h1 h2 hmk hfit hnx4 hM4'
       obtain ⟨b, off, rfl, hb3, hcl⟩ := hrow4 oM
       have hb : b < w4.heap.size := oM
       have HRow := qh (fun W (hW : Nx w4 W) => drop_row (W := W) (B := w4.heap.size) (c := c) (fun i hi => (hW.cell (p := ⟨b, off + i, none⟩) hb).trans (hcl i hi)) hb hl4 hcp)
       obtain ⟨n0, Hn0⟩ := nM (ns.getD 0 0)
       obtain ⟨n1, Hn1⟩ := nM (ns.getD 1 0)
       obtain ⟨n2, Hn2⟩ := nM (ns.getD 2 0)
       obtain ⟨n3, Hn3⟩ := nM (ns.getD 3 0)
       have k0 : w4.cell? ⟨b, off, none⟩ = some (ii n0) := by have := hcl 0 oM; unfold intAt at this; rw [Hn0.out] at this; exact this
       have k1 : w4.cell? ⟨b, off + 1, none⟩ = some (ii n1) := by have := hcl 1 oM; unfold intAt at this; rw [Hn1.out] at this; exact this
       have k2 : w4.cell? ⟨b, off + 2, none⟩ = some (ii n2) := by have := hcl 2 oM; unfold intAt at this; rw [Hn2.out] at this; exact this
       have k3 : w4.cell? ⟨b, off + 3, none⟩ = some (ii n3) := by have := hcl 3 oM; unfold intAt at this; rw [Hn3.out] at this; exact this
       obtain ⟨xs, Hxs⟩ := nM (intsN (ns.drop 4))
       have HLen : Hid (xs.length = ns.length - 4) := qh (by rw [<- Hxs.out, intsN_len, List.length_drop])
       rw [Hxs.out] at HRow
       have HUx := qh Hxs.out
       have hi0' : (0 : Int) < (ns.length : Int) := oM
       have hi1' : (1 : Int) < (ns.length : Int) := oM
       have hi2' : (2 : Int) < (ns.length : Int) := oM
       have hi3' : (3 : Int) < (ns.length : Int) := oM
       have hm0 : 0 < ns.length := oM
       have hm1 : 1 < ns.length := oM
       have hm2 : 2 < ns.length := oM
       have hm3 : 3 < ns.length := oM
       clear hcl hrow4
       go_wp2_with fail
       refine wp_planA (.t 0 (.t 1 (.t 2 (.t 3 (.t 4 (.t 5 (.t 6 (.t 7 (.t 8 (.t 9 (.t 10 (.t 11 (.t 12 (.t 13 (.t 15 (.b 14 (.t 16 (.c 17 (.c 18 .e))) 17 (.c 14 (.t 16 (.c 18 .e))))))))))))))))))) (fun w' => CC w' b off (ii n0) /\ CC w' b (off + 1) (ii n1) /\ CC w' b (off + 2) (ii n2) /\ CC w' b (off + 3) (ii n3)) (by exact ⟨((Nx.refl w4).drew.cell (p := ⟨b, off, none⟩) hb).trans k0, ((Nx.refl w4).drew.cell (p := ⟨b, off + 1, none⟩) hb).trans k1, ((Nx.refl w4).drew.cell (p := ⟨b, off + 2, none⟩) hb).trans k2, ((Nx.refl w4).drew.cell (p := ⟨b, off + 3, none⟩) hb).trans k3⟩) ?_
       simp only [psOf, List.getD_cons_zero, List.getD_cons_succ]
       iterate 13 (refine HP.tk ?_; (try simp only [Act.put, qqA, qqB, qqC]))
       refine HP.take (v := sC (dropA (some ⟨b, off, none⟩) c) xs.length (c - 4)) (by rfl) (fun W _ => slice4 rfl rfl hl4 HLen.out) ?_
       refine nZ ?_
       iterate 1 (refine HP.tk ?_; (try simp only [Act.put, qqA, qqB, qqC]))
       refine HP.both ?_ ?_
       . refine cSt fun K hK => ?_
         go_simp
         refine (copyListI_c (dropA (some ⟨b, off, none⟩) c) (c - 4) _ xs _ (HRow.out _ (Nx.refl w4).drew) (Nx.refl w4).drew.size (by have := HLen.out; omega)).mono ?_
         rintro e w5 ⟨A5, c5, rfl, hc5, hS5, hnx5⟩
         go_wp2_with fail
         refine hK.out _ _ (by exact ⟨(((Nx.refl w4).drew.trans hnx5).cell (p := ⟨b, off, none⟩) hb).trans k0, (((Nx.refl w4).drew.trans hnx5).cell (p := ⟨b, off + 1, none⟩) hb).trans k1, (((Nx.refl w4).drew.trans hnx5).cell (p := ⟨b, off + 2, none⟩) hb).trans k2, (((Nx.refl w4).drew.trans hnx5).cell (p := ⟨b, off + 3, none⟩) hb).trans k3⟩) ?_
         clear hK K
         refine nZ ?_
         refine hPr ?_
         refine hPc fun K hK => ?_
         go_simp
         refine hK.out _ _ (by exact ⟨((((Nx.refl w4).drew.trans hnx5).alloc (.cells #[ii 0, ii 0, ii 0, ii 0, nsl, nsl] 26)).cell (p := ⟨b, off, none⟩) hb).trans k0, ((((Nx.refl w4).drew.trans hnx5).alloc (.cells #[ii 0, ii 0, ii 0, ii 0, nsl, nsl] 26)).cell (p := ⟨b, off + 1, none⟩) hb).trans k1, ((((Nx.refl w4).drew.trans hnx5).alloc (.cells #[ii 0, ii 0, ii 0, ii 0, nsl, nsl] 26)).cell (p := ⟨b, off + 2, none⟩) hb).trans k2, ((((Nx.refl w4).drew.trans hnx5).alloc (.cells #[ii 0, ii 0, ii 0, ii 0, nsl, nsl] 26)).cell (p := ⟨b, off + 3, none⟩) hb).trans k3⟩) ?_
         clear hK K
         refine nZ ?_
         refine hPc fun K hK => ?_
         go_simp
         refine hK.out _ _ (by exact ⟨((((Nx.refl w4).drew.trans hnx5).alloc (.cells #[ii n0, ii n1, ii n2, ii n3, sC A5 xs.length c5, sC A3 ms.length c3] 26)).cell (p := ⟨b, off, none⟩) hb).trans k0, ((((Nx.refl w4).drew.trans hnx5).alloc (.cells #[ii n0, ii n1, ii n2, ii n3, sC A5 xs.length c5, sC A3 ms.length c3] 26)).cell (p := ⟨b, off + 1, none⟩) hb).trans k1, ((((Nx.refl w4).drew.trans hnx5).alloc (.cells #[ii n0, ii n1, ii n2, ii n3, sC A5 xs.length c5, sC A3 ms.length c3] 26)).cell (p := ⟨b, off + 2, none⟩) hb).trans k2, ((((Nx.refl w4).drew.trans hnx5).alloc (.cells #[ii n0, ii n1, ii n2, ii n3, sC A5 xs.length c5, sC A3 ms.length c3] 26)).cell (p := ⟨b, off + 3, none⟩) hb).trans k3⟩) ?_
         clear hK K
         refine nZ ?_
         refine HP.done ?_
         have bs := Box.new w5 26 #[ii n0, ii n1, ii n2, ii n3, sC A5 xs.length c5, sC A3 ms.length c3]
         have hx6 := (((Nx.refl w4).drew.trans hnx5).alloc (.cells #[ii n0, ii n1, ii n2, ii n3, sC A5 xs.length c5, sC A3 ms.length c3] 26))
         have hS5b : SlI w5 w4.heap.size A5 xs := hS5
         have hS6 := hS5b.nx ((Nx.refl w5).alloc (.cells #[ii n0, ii n1, ii n2, ii n3, sC A5 xs.length c5, sC A3 ms.length c3] 26))
         have hM6 := ((hM4.nx (Nx.refl w4).drew).nx hnx5).nx ((Nx.refl w5).alloc (.cells #[ii n0, ii n1, ii n2, ii n3, sC A5 xs.length c5, sC A3 ms.length c3] 26))
         change Exit.then _ _ _ _ (w5.alloc (.cells #[ii n0, ii n1, ii n2, ii n3, sC A5 xs.length c5, sC A3 ms.length c3] 26))
         generalize w5.alloc (.cells #[ii n0, ii n1, ii n2, ii n3, sC A5 xs.length c5, sC A3 ms.length c3] 26) = w6 at *
         generalize w5.heap.size = gS at *
         have b6 := b4.nx hx6
         have hxw6 := hx4.trans hx6
         have hgl5 : w.heap.size < w4.heap.size := b4.lt
         obtain ⟨y0, y1, y2, y3, y4, y5⟩ := bs.d6
         go_wp2_with fail
         refine (superRight_c n0 n1 n2 n3 A5 A3 c5 c3 _ xs ms _ hS6.row hM6.row nle (by have := HLen.out; omega) hml hc5 HAm.out).mono ?_
         rintro e w7 ⟨rfl, hnx7⟩
         have b7 := b6.nx hnx7
         have bs7 := bs.nx hnx7
         have hx7 := hxw6.trans hnx7
         have hS7 := hS6.nx hnx7
         have hM7 := hM6.nx hnx7
         clear y0 y1 y2 y3 y4 y5
         obtain ⟨y0, y1, y2, y3, y4, y5⟩ := bs7.d6
         cases hf : superB n0 n1 n2 n3 xs ms with
         | false =>
           have HF := qh (HU.out.trans (supOf_no (by rw [Hn0.out, Hn1.out, Hn2.out, Hn3.out, Hxs.out]; exact hf)))
           clear hf
           obtain ⟨u0, u1, u2, u3, u4, u5⟩ := b7.d6
           have f0 := b7.frozen 0
           have f1 := b7.frozen 1
           have f2 := b7.frozen 2
           have f3 := b7.frozen 3
           have f4 := b7.frozen 4
           have f5 := b7.frozen 5
           have hlt9 := b7.lt
           go_wp2_with fail
           refine wp_lexA (kf2 (true :: ff :: [])) (fun w' => CC w' 0 0 (.iface 290 (.pointer (some a0)))) (by exact ((hx7.drew).cell (p := ⟨0, 0, none⟩) hg0).trans e0) ?_
           refine hLr ?_
           refine hLc fun K hK => ?_
           go_simp
           refine hK.out _ _ (by exact ((put6_nx hx7 (Nat.le_refl w.heap.size) (ii 0) (ii 0) (ii 0) (ii 0) (nsl) (nsl)).drew.cell (p := ⟨0, 0, none⟩) hg0).trans e0) ?_
           clear hK K
           refine nZ ?_
           refine hLr ?_
           refine HL.done ?_
           clear u0 u1 u2 u3 u4 u5 f0 f1 f2 f3 f4 f5
           go_wp2
           have q := (put6_box b7 (ii 0) (ii 0) (ii 0) (ii 0) (nsl) (nsl)).drew
           have hnf := (put6_nx hx7 (Nat.le_refl w.heap.size) (ii 0) (ii 0) (ii 0) (ii 0) (nsl) (nsl)).drew
           change bodyPost _ _ _ _ _ (World.drew (put6 w7 w.heap.size (ii 0) (ii 0) (ii 0) (ii 0) (nsl) (nsl)))
           change Box (World.drew (put6 w7 w.heap.size (ii 0) (ii 0) (ii 0) (ii 0) (nsl) (nsl))) _ _ _ at q
           generalize World.drew (put6 w7 w.heap.size (ii 0) (ii 0) (ii 0) (ii 0) (nsl) (nsl)) = Wf at *
           obtain ⟨g0, g1, g2, g3, g4, g5⟩ := q.d6
           exact bodyPost_ret (v := .tuple #[.agg #[ii 0, ii 0, ii 0, ii 0, nsl, nsl], .iface 290 (.pointer (some a0))]) (by simp [results, results48, go_sem, g0, g1, g2, g3, g4, g5]) rfl (RetSU.no HF.out hnf)
         | true =>
           have HF := qh (HU.out.trans (supOf_yes (by rw [Hn0.out, Hn1.out, Hn2.out, Hn3.out, Hxs.out]; exact hf)))
           rw [Hn0.out, Hn1.out, Hn2.out, Hn3.out, Hxs.out] at HF
           clear hf
           have hgl : w.heap.size < w4.heap.size := b4.lt
           obtain ⟨u0, u1, u2, u3, u4, u5⟩ := b7.d6
           have f0 := b7.frozen 0
           have f1 := b7.frozen 1
           have f2 := b7.frozen 2
           have f3 := b7.frozen 3
           have f4 := b7.frozen 4
           have f5 := b7.frozen 5
           go_wp2
           have q := (put6_box b7 (ii n0) (ii n1) (ii n2) (ii n3) (sC A5 xs.length c5) (sC A3 ms.length c3))
           have hnf := (put6_nx hx7 (Nat.le_refl w.heap.size) (ii n0) (ii n1) (ii n2) (ii n3) (sC A5 xs.length c5) (sC A3 ms.length c3))
           have hsf := (hS7.pt6 hgl (ii n0) (ii n1) (ii n2) (ii n3) (sC A5 xs.length c5) (sC A3 ms.length c3))
           change Sl (put6 w7 w.heap.size (ii n0) (ii n1) (ii n2) (ii n3) (sC A5 xs.length c5) (sC A3 ms.length c3)) _ _ _ _ _ at hsf
           have hmf := (hM7.pt6 hlt3 (ii n0) (ii n1) (ii n2) (ii n3) (sC A5 xs.length c5) (sC A3 ms.length c3))
           change Sl (put6 w7 w.heap.size (ii n0) (ii n1) (ii n2) (ii n3) (sC A5 xs.length c5) (sC A3 ms.length c3)) _ _ _ _ _ at hmf
           change bodyPost _ _ _ _ _ (put6 w7 w.heap.size (ii n0) (ii n1) (ii n2) (ii n3) (sC A5 xs.length c5) (sC A3 ms.length c3))
           change Box (put6 w7 w.heap.size (ii n0) (ii n1) (ii n2) (ii n3) (sC A5 xs.length c5) (sC A3 ms.length c3)) _ _ _ at q
           generalize put6 w7 w.heap.size (ii n0) (ii n1) (ii n2) (ii n3) (sC A5 xs.length c5) (sC A3 ms.length c3) = Wf at *
           obtain ⟨g0, g1, g2, g3, g4, g5⟩ := q.d6
           exact bodyPost_ret (v := .tuple #[.agg #[ii n0, ii n1, ii n2, ii n3, sC A5 xs.length c5, sC A3 ms.length c3], .nilIface]) (by simp [results, results48, go_sem, g0, g1, g2, g3, g4, g5]) rfl (RetSU.yes HF.out hc5 (hsf.low oM) (hmf.low oM) hnf)
       . have bz : Box (w4.drew.alloc (.cells #[ii 0, ii 0, ii 0, ii 0, nsl, nsl] 26)) w4.heap.size 26 #[ii 0, ii 0, ii 0, ii 0, nsl, nsl] := Box.new w4.drew 26 #[ii 0, ii 0, ii 0, ii 0, nsl, nsl]
         have hz := (Nx.refl w4).drew.alloc (.cells #[ii 0, ii 0, ii 0, ii 0, nsl, nsl] 26)
         have HM5 := qh ((hM4.nx (Nx.refl w4).drew).nx ((Nx.refl w4.drew).alloc (.cells #[ii 0, ii 0, ii 0, ii 0, nsl, nsl] 26)))
         have zlt := bz.lt
         refine cSt fun K hK => ?_
         go_simp
         refine hK.out _ _ (by exact ⟨(hz.cell (p := ⟨b, off, none⟩) hb).trans k0, (hz.cell (p := ⟨b, off + 1, none⟩) hb).trans k1, (hz.cell (p := ⟨b, off + 2, none⟩) hb).trans k2, (hz.cell (p := ⟨b, off + 3, none⟩) hb).trans k3⟩) ?_
         clear hK K
         refine nZ ?_
         change HP _ _ _ _ _ _ (w4.drew.alloc (.cells #[ii 0, ii 0, ii 0, ii 0, nsl, nsl] 26))
         generalize (w4.drew.alloc (.cells #[ii 0, ii 0, ii 0, ii 0, nsl, nsl] 26)) = wz at *
         refine hPc fun K hK => ?_
         go_simp
         refine (copyListI_c (dropA (some ⟨b, off, none⟩) c) (c - 4) _ xs _ (HRow.out _ hz) hz.size (by have := HLen.out; omega)).mono ?_
         rintro e w5 ⟨A5, c5, rfl, hc5, hS5, hnx5⟩
         go_wp2_with fail
         refine hK.out _ _ (by exact ⟨((hz.trans hnx5).cell (p := ⟨b, off, none⟩) hb).trans k0, ((hz.trans hnx5).cell (p := ⟨b, off + 1, none⟩) hb).trans k1, ((hz.trans hnx5).cell (p := ⟨b, off + 2, none⟩) hb).trans k2, ((hz.trans hnx5).cell (p := ⟨b, off + 3, none⟩) hb).trans k3⟩) ?_
         clear hK K
         refine nZ ?_
         refine hPr ?_
         have b5 := bz.nx hnx5
         have hx5 := hz.trans hnx5
         obtain ⟨r0, r1, r2, r3, r4, r5⟩ := b5.d6
         have rf0 := b5.frozen 0
         have rf1 := b5.frozen 1
         have rf2 := b5.frozen 2
         have rf3 := b5.frozen 3
         have rf4 := b5.frozen 4
         have rf5 := b5.frozen 5
         have rlt := b5.lt
         refine hPc fun K hK => ?_
         go_simp
         refine hK.out _ _ (by exact ⟨((put6_nx hx5 (Nat.le_refl w4.heap.size) (ii n0) (ii n1) (ii n2) (ii n3) (sC A5 xs.length c5) (sC A3 ms.length c3)).cell (p := ⟨b, off, none⟩) hb).trans k0, ((put6_nx hx5 (Nat.le_refl w4.heap.size) (ii n0) (ii n1) (ii n2) (ii n3) (sC A5 xs.length c5) (sC A3 ms.length c3)).cell (p := ⟨b, off + 1, none⟩) hb).trans k1, ((put6_nx hx5 (Nat.le_refl w4.heap.size) (ii n0) (ii n1) (ii n2) (ii n3) (sC A5 xs.length c5) (sC A3 ms.length c3)).cell (p := ⟨b, off + 2, none⟩) hb).trans k2, ((put6_nx hx5 (Nat.le_refl w4.heap.size) (ii n0) (ii n1) (ii n2) (ii n3) (sC A5 xs.length c5) (sC A3 ms.length c3)).cell (p := ⟨b, off + 3, none⟩) hb).trans k3⟩) ?_
         clear hK K
         refine nZ ?_
         refine HP.done ?_
         clear r0 r1 r2 r3 r4 r5 rf0 rf1 rf2 rf3 rf4 rf5
         have bs := put6_box b5 (ii n0) (ii n1) (ii n2) (ii n3) (sC A5 xs.length c5) (sC A3 ms.length c3)
         have hx6 := put6_nx hx5 (Nat.le_refl w4.heap.size) (ii n0) (ii n1) (ii n2) (ii n3) (sC A5 xs.length c5) (sC A3 ms.length c3)
         have hS6 := (hS5.pt6 zlt (ii n0) (ii n1) (ii n2) (ii n3) (sC A5 xs.length c5) (sC A3 ms.length c3)).low (lo' := w4.heap.size) hz.size
         have hM6 := (HM5.out.nx hnx5).pt6t b5 dC (ii n0) (ii n1) (ii n2) (ii n3) (sC A5 xs.length c5) (sC A3 ms.length c3)
         change Exit.then _ _ _ _ (put6 w5 w4.heap.size (ii n0) (ii n1) (ii n2) (ii n3) (sC A5 xs.length c5) (sC A3 ms.length c3))
         generalize (put6 w5 w4.heap.size (ii n0) (ii n1) (ii n2) (ii n3) (sC A5 xs.length c5) (sC A3 ms.length c3)) = w6 at *
         obtain ⟨gS, hgS⟩ : ∃ g, w4.heap.size = g := ⟨_, rfl⟩
         rw [hgS] at bs ⊢
         have b6 := b4.nx hx6
         have hxw6 := hx4.trans hx6
         have hgl5 : w.heap.size < w4.heap.size := b4.lt
         obtain ⟨y0, y1, y2, y3, y4, y5⟩ := bs.d6
         go_wp2_with fail
         refine (superRight_c n0 n1 n2 n3 A5 A3 c5 c3 _ xs ms _ hS6.row hM6.row nle (by have := HLen.out; omega) hml hc5 HAm.out).mono ?_
         rintro e w7 ⟨rfl, hnx7⟩
         have b7 := b6.nx hnx7
         have bs7 := bs.nx hnx7
         have hx7 := hxw6.trans hnx7
         have hS7 := hS6.nx hnx7
         have hM7 := hM6.nx hnx7
         clear y0 y1 y2 y3 y4 y5
         obtain ⟨y0, y1, y2, y3, y4, y5⟩ := bs7.d6
         cases hf : superB n0 n1 n2 n3 xs ms with
         | false =>
           have HF := qh (HU.out.trans (supOf_no (by rw [Hn0.out, Hn1.out, Hn2.out, Hn3.out, Hxs.out]; exact hf)))
           clear hf
           obtain ⟨u0, u1, u2, u3, u4, u5⟩ := b7.d6
           have f0 := b7.frozen 0
           have f1 := b7.frozen 1
           have f2 := b7.frozen 2
           have f3 := b7.frozen 3
           have f4 := b7.frozen 4
           have f5 := b7.frozen 5
           have hlt9 := b7.lt
           go_wp2_with fail
           refine wp_lexA (kf2 (true :: ff :: [])) (fun w' => CC w' 0 0 (.iface 290 (.pointer (some a0)))) (by exact ((hx7.drew).cell (p := ⟨0, 0, none⟩) hg0).trans e0) ?_
           refine hLr ?_
           refine hLc fun K hK => ?_
           go_simp
           refine hK.out _ _ (by exact ((put6_nx hx7 (Nat.le_refl w.heap.size) (ii 0) (ii 0) (ii 0) (ii 0) (nsl) (nsl)).drew.cell (p := ⟨0, 0, none⟩) hg0).trans e0) ?_
           clear hK K
           refine nZ ?_
           refine hLr ?_
           refine HL.done ?_
           clear u0 u1 u2 u3 u4 u5 f0 f1 f2 f3 f4 f5
           go_wp2
           have q := (put6_box b7 (ii 0) (ii 0) (ii 0) (ii 0) (nsl) (nsl)).drew
           have hnf := (put6_nx hx7 (Nat.le_refl w.heap.size) (ii 0) (ii 0) (ii 0) (ii 0) (nsl) (nsl)).drew
           change bodyPost _ _ _ _ _ (World.drew (put6 w7 w.heap.size (ii 0) (ii 0) (ii 0) (ii 0) (nsl) (nsl)))
           change Box (World.drew (put6 w7 w.heap.size (ii 0) (ii 0) (ii 0) (ii 0) (nsl) (nsl))) _ _ _ at q
           generalize World.drew (put6 w7 w.heap.size (ii 0) (ii 0) (ii 0) (ii 0) (nsl) (nsl)) = Wf at *
           obtain ⟨g0, g1, g2, g3, g4, g5⟩ := q.d6
           exact bodyPost_ret (v := .tuple #[.agg #[ii 0, ii 0, ii 0, ii 0, nsl, nsl], .iface 290 (.pointer (some a0))]) (by simp [results, results48, go_sem, g0, g1, g2, g3, g4, g5]) rfl (RetSU.no HF.out hnf)
         | true =>
           have HF := qh (HU.out.trans (supOf_yes (by rw [Hn0.out, Hn1.out, Hn2.out, Hn3.out, Hxs.out]; exact hf)))
           rw [Hn0.out, Hn1.out, Hn2.out, Hn3.out, Hxs.out] at HF
           clear hf
           have hgl : w.heap.size < w4.heap.size := b4.lt
           obtain ⟨u0, u1, u2, u3, u4, u5⟩ := b7.d6
           have f0 := b7.frozen 0
           have f1 := b7.frozen 1
           have f2 := b7.frozen 2
           have f3 := b7.frozen 3
           have f4 := b7.frozen 4
           have f5 := b7.frozen 5
           go_wp2
           have q := (put6_box b7 (ii n0) (ii n1) (ii n2) (ii n3) (sC A5 xs.length c5) (sC A3 ms.length c3))
           have hnf := (put6_nx hx7 (Nat.le_refl w.heap.size) (ii n0) (ii n1) (ii n2) (ii n3) (sC A5 xs.length c5) (sC A3 ms.length c3))
           have hsf := (hS7.pt6 hgl (ii n0) (ii n1) (ii n2) (ii n3) (sC A5 xs.length c5) (sC A3 ms.length c3))
           change Sl (put6 w7 w.heap.size (ii n0) (ii n1) (ii n2) (ii n3) (sC A5 xs.length c5) (sC A3 ms.length c3)) _ _ _ _ _ at hsf
           have hmf := (hM7.pt6 hlt3 (ii n0) (ii n1) (ii n2) (ii n3) (sC A5 xs.length c5) (sC A3 ms.length c3))
           change Sl (put6 w7 w.heap.size (ii n0) (ii n1) (ii n2) (ii n3) (sC A5 xs.length c5) (sC A3 ms.length c3)) _ _ _ _ _ at hmf
           change bodyPost _ _ _ _ _ (put6 w7 w.heap.size (ii n0) (ii n1) (ii n2) (ii n3) (sC A5 xs.length c5) (sC A3 ms.length c3))
           change Box (put6 w7 w.heap.size (ii n0) (ii n1) (ii n2) (ii n3) (sC A5 xs.length c5) (sC A3 ms.length c3)) _ _ _ at q
           generalize put6 w7 w.heap.size (ii n0) (ii n1) (ii n2) (ii n3) (sC A5 xs.length c5) (sC A3 ms.length c3) = Wf at *
           obtain ⟨g0, g1, g2, g3, g4, g5⟩ := q.d6
           exact bodyPost_ret (v := .tuple #[.agg #[ii n0, ii n1, ii n2, ii n3, sC A5 xs.length c5, sC A3 ms.length c3], .nilIface]) (by simp [results, results48, go_sem, g0, g1, g2, g3, g4, g5]) rfl (RetSU.yes HF.out hc5 (hsf.low oM) (hmf.low oM) hnf)
def RetL (w : World) (s : BA) (e : Ending) (w' : World) : Prop :=
 ∃ (n : Int) (b : Bool), e = .returned (.tuple #[ii n, .bool b]) /\ ((plainB s.data.toList = true /\ b = true /\ n = ((valL s.data.toList : Nat) : Int)) \/ (plainB s.data.toList = false /\ (b = false \/ n < 0))) /\ w = w'
theorem plainB_sign {s : BA} (hp : 0 < s.size) (h : (s[0].toNat : Int) = 45) : plainB s.data.toList = false := by
 refine plainB_no (digL_no (k := 0) (by rw [<- ba_size]; exact hp) ?_)
 rw [getL s 0 hp]
 unfold digC digI
 rw [h]; decide
theorem sz_tail (s : BA) : (s.extract 1 s.size).size = s.size - 1 := by simp [ByteArray.size_extract]
theorem numS_step {n : Nat} {c : UInt8} (h1 : 48 <= (c.toNat : Int)) : (n : Int) * 10 + (c.toNat : Int) - 48 = ((10 * n + (c.toNat - 48) : Nat) : Int) := oM
theorem l00Number_c (s : BA) (w : World) (hs : s.size <= 65536) : Calls Tryz.prog 220 #[.string s] w (RetL w s) := by
 by_cases h0 : s.size = 0
 . have hd0 : decide (0 < (s.size : Int)) = false := decide_eq_false oM
   have hd : ((s.size : Int) == 0) = true := beq_iff_eq.2 oM
   have HF := qh (plainB_size (l := s.data.toList) (.inl (by rw [<- ba_size]; exact h0)))
   go_enter func220, ntmps220
   go_wp2
   go_ret2
   exact ⟨_, _, rfl, .inr ⟨HF.out, .inl rfl⟩, rfl⟩
 have hd0 : decide (0 < (s.size : Int)) = true := by simp; omega
 have hp : 0 < s.size := oM
 by_cases h45 : (s[0].toNat : Int) = 45
 . have hd1 : ((s[0].toNat : Int) == 45) = true := beq_iff_eq.2 h45
   have HF := qh (plainB_sign hp h45)
   have HFS := HF
   have Hz := qh (sz_tail s)
   clear h45
   have hsl : (1 : Int) <= (s.size : Int) := oM
   obtain ⟨u, hu1⟩ : ∃ u, s.extract 1 s.size = u := ⟨_, rfl⟩
   rw [hu1] at Hz
   have hu : u.size <= 65536 := by have := Hz.out; omega
   by_cases g0 : u.size = 0
   . have hg : ((u.size : Int) == 0) = true := beq_iff_eq.2 oM
     go_enter func220, ntmps220
     go_wp2
     go_ret2
     exact ⟨_, _, rfl, .inr ⟨HF.out, .inl rfl⟩, rfl⟩
   have hg : ((u.size : Int) == 0) = false := beq_eq_false_iff_ne.2 oM
   by_cases g18 : 18 < u.size
   . have hg2 : decide (18 < (u.size : Int)) = true := by simp; omega
     go_enter func220, ntmps220
     go_wp2
     go_ret2
     exact ⟨_, _, rfl, .inr ⟨HF.out, .inl rfl⟩, rfl⟩
   have hg2 : decide (18 < (u.size : Int)) = false := by simp; omega
   have gp : 0 < u.size := oM
   by_cases g48 : (u[0].toNat : Int) = 48
   . have hg3 : ((u[0].toNat : Int) == 48) = true := beq_iff_eq.2 g48
     clear g48
     by_cases g1 : 1 < u.size
     . have hg4 : decide (1 < (u.size : Int)) = true := by simp; omega
       go_enter func220, ntmps220
       go_wp2
       go_ret2
       exact ⟨_, _, rfl, .inr ⟨HF.out, .inl rfl⟩, rfl⟩
     . have hg4 : decide (1 < (u.size : Int)) = false := by simp; omega
       go_enter func220, ntmps220
       go_wp2
       go_ret2
       exact ⟨_, _, rfl, .inr ⟨HF.out, .inl rfl⟩, rfl⟩
   . have hg3 : ((u[0].toNat : Int) == 48) = false := beq_eq_false_iff_ne.2 g48
     have HP := qh (fun (hD : digL u.data.toList = true) => valL_pos _ rfl hD (fun e => by rw [ba_size, e] at gp; simp at gp) (by rw [head_at gp]; intro e; injection e with e; rw [e] at g48; exact g48 rfl))
     clear g48
     go_enter func220, ntmps220
     go_wp2
     go_loop [5, 6] (fun n i => ∃ k : Nat, k <= u.size /\ i = ii k /\ digL (u.data.toList.take k) = true /\ n = ii ((valTo u k : Nat) : Int)) (fun _ i => u.size - (intOf i).toNat)
     case atStart => exact ⟨0, Nat.zero_le _, rfl, rfl, rfl⟩
     case round =>
      obtain ⟨k, hk, rfl, hd', rfl⟩ := hrel
      have HD := qh hd'
      clear hd'
      by_cases hlt : k < u.size
      . have hbd := valTo_bd17 (s := u) (k := k) oM HD.out
        have HV := qh (valTo_succ u k hlt)
        have HT := qh (take_snoc u k hlt)
        obtain ⟨m, Hm⟩ := nM (valTo u k)
        rw [Hm.out] at hbd HV ⊢
        cases hC : digI (u[k].toNat : Int) with
        | true =>
          obtain ⟨h1', h2'⟩ := digI_yes hC
          have HC := qh hC
          clear hC
          have hq1 : decide ((u[k].toNat : Int) < 48) = false := by simp; omega
          have hq2 : decide (57 < (u[k].toNat : Int)) = false := by simp; omega
          go_wp2
          go_round
          case rel => exact ⟨k + 1, oM, by go_num, by rw [HT.out, digL_snoc, HD.out]; exact HC.out, by rw [HV.out, <- numS_step h1']⟩
          case measure => simp [intOf]; omega
        | false =>
          have HF := qh (digL_no (l := u.data.toList) (k := k) (by simpa using hlt) (by rw [getL u k hlt]; exact hC))
          have hC2 : ¬ (48 <= (u[k].toNat : Int) /\ (u[k].toNat : Int) <= 57) := by
           intro h; unfold digI at hC; simp only [Bool.and_eq_false_iff, decide_eq_false_iff_not] at hC; omega
          clear hC
          by_cases hq : (u[k].toNat : Int) < 48
          . have hq1 : decide ((u[k].toNat : Int) < 48) = true := by simp; omega
            go_wp2
            go_ret2
            exact ⟨_, _, rfl, .inr ⟨HFS.out, .inl rfl⟩, rfl⟩
          . have hq1 : decide ((u[k].toNat : Int) < 48) = false := by simp; omega
            have hq2 : decide (57 < (u[k].toNat : Int)) = true := by simp; omega
            go_wp2
            go_ret2
            exact ⟨_, _, rfl, .inr ⟨HFS.out, .inl rfl⟩, rfl⟩
      . obtain rfl : k = u.size := oM
        have e : u.data.toList.take u.size = u.data.toList := List.take_of_length_le (by simp)
        rw [e] at HD
        have HV := qh (show valTo u u.size = valL u.data.toList by unfold valTo; rw [e])
        rw [HV.out]
        clear e
        have hbd := valL_bd18 (l := u.data.toList) (by rw [<- ba_size]; omega) HD.out
        obtain ⟨m, Hm⟩ := nM (valL u.data.toList)
        rw [Hm.out] at hbd ⊢
        have HPm : Hid (1 <= m) := qh (by have := HP.out HD.out; rw [Hm.out] at this; exact this)
        go_wp2
        go_ret2
        exact ⟨_, _, rfl, .inr ⟨HFS.out, .inr (by have := HPm.out; omega)⟩, rfl⟩
 . have hd1 : ((s[0].toNat : Int) == 45) = false := beq_eq_false_iff_ne.2 h45
   clear h45
   by_cases g18 : 18 < s.size
   . have hg2 : decide (18 < (s.size : Int)) = true := by simp; omega
     have hg : ((s.size : Int) == 0) = false := beq_eq_false_iff_ne.2 oM
     have HF := qh (plainB_size (l := s.data.toList) (.inr (by rw [<- ba_size]; exact g18)))
     go_enter func220, ntmps220
     go_wp2
     go_ret2
     exact ⟨_, _, rfl, .inr ⟨HF.out, .inl rfl⟩, rfl⟩
   have hg2 : decide (18 < (s.size : Int)) = false := by simp; omega
   have hg : ((s.size : Int) == 0) = false := beq_eq_false_iff_ne.2 oM
   by_cases g48 : (s[0].toNat : Int) = 48
   . have hg3 : ((s[0].toNat : Int) == 48) = true := beq_iff_eq.2 g48
     by_cases g1 : 1 < s.size
     . have hg4 : decide (1 < (s.size : Int)) = true := by simp; omega
       have HF := qh (plainB_nought (l := s.data.toList) (by rw [<- ba_size]; exact g1) (by rw [head_at hp, toNat48 g48]))
       clear g48
       go_enter func220, ntmps220
       go_wp2
       go_ret2
       exact ⟨_, _, rfl, .inr ⟨HF.out, .inl rfl⟩, rfl⟩
     . have hg4 : decide (1 < (s.size : Int)) = false := by simp; omega
       have HPl := qh (plainB_mk (l := s.data.toList) (by rw [<- ba_size]; omega) (by rw [<- ba_size]; omega) (.inl (by rw [<- ba_size]; omega)))
       clear g48
       go_enter func220, ntmps220
       go_wp2
       go_loop [5, 6] (fun n i => ∃ k : Nat, k <= s.size /\ i = ii k /\ digL (s.data.toList.take k) = true /\ n = ii ((valTo s k : Nat) : Int)) (fun _ i => s.size - (intOf i).toNat)
       case atStart => exact ⟨0, Nat.zero_le _, rfl, rfl, rfl⟩
       case round =>
        obtain ⟨k, hk, rfl, hd', rfl⟩ := hrel
        have HD := qh hd'
        clear hd'
        by_cases hlt : k < s.size
        . have hbd := valTo_bd17 (s := s) (k := k) oM HD.out
          have HV := qh (valTo_succ s k hlt)
          have HT := qh (take_snoc s k hlt)
          obtain ⟨m, Hm⟩ := nM (valTo s k)
          rw [Hm.out] at hbd HV ⊢
          cases hC : digI (s[k].toNat : Int) with
          | true =>
            obtain ⟨h1', h2'⟩ := digI_yes hC
            have HC := qh hC
            clear hC
            have hq1 : decide ((s[k].toNat : Int) < 48) = false := by simp; omega
            have hq2 : decide (57 < (s[k].toNat : Int)) = false := by simp; omega
            go_wp2
            go_round
            case rel => exact ⟨k + 1, oM, by go_num, by rw [HT.out, digL_snoc, HD.out]; exact HC.out, by rw [HV.out, <- numS_step h1']⟩
            case measure => simp [intOf]; omega
          | false =>
            have HF := qh (digL_no (l := s.data.toList) (k := k) (by simpa using hlt) (by rw [getL s k hlt]; exact hC))
            have hC2 : ¬ (48 <= (s[k].toNat : Int) /\ (s[k].toNat : Int) <= 57) := by
             intro h; unfold digI at hC; simp only [Bool.and_eq_false_iff, decide_eq_false_iff_not] at hC; omega
            clear hC
            by_cases hq : (s[k].toNat : Int) < 48
            . have hq1 : decide ((s[k].toNat : Int) < 48) = true := by simp; omega
              go_wp2
              go_ret2
              exact ⟨_, _, rfl, .inr ⟨HPl.out.trans HF.out, .inl rfl⟩, rfl⟩
            . have hq1 : decide ((s[k].toNat : Int) < 48) = false := by simp; omega
              have hq2 : decide (57 < (s[k].toNat : Int)) = true := by simp; omega
              go_wp2
              go_ret2
              exact ⟨_, _, rfl, .inr ⟨HPl.out.trans HF.out, .inl rfl⟩, rfl⟩
        . obtain rfl : k = s.size := oM
          have e : s.data.toList.take s.size = s.data.toList := List.take_of_length_le (by simp)
          rw [e] at HD
          have HV := qh (show valTo s s.size = valL s.data.toList by unfold valTo; rw [e])
          rw [HV.out]
          clear e
          have hbd := valL_bd18 (l := s.data.toList) (by rw [<- ba_size]; omega) HD.out
          obtain ⟨m, Hm⟩ := nM (valL s.data.toList)
          rw [Hm.out] at hbd ⊢
          skip
          go_wp2
          go_ret2
          exact ⟨_, _, rfl, .inl ⟨HPl.out.trans HD.out, rfl, by rw [Hm.out]⟩, rfl⟩
   . have hg3 : ((s[0].toNat : Int) == 48) = false := beq_eq_false_iff_ne.2 g48
     have HPl := qh (plainB_mk (l := s.data.toList) (by rw [<- ba_size]; omega) (by rw [<- ba_size]; omega) (.inr (by rw [head_at hp]; intro e; injection e with e; exact g48 (by rw [e]; rfl))))
     clear g48
     go_enter func220, ntmps220
     go_wp2
     go_loop [5, 6] (fun n i => ∃ k : Nat, k <= s.size /\ i = ii k /\ digL (s.data.toList.take k) = true /\ n = ii ((valTo s k : Nat) : Int)) (fun _ i => s.size - (intOf i).toNat)
     case atStart => exact ⟨0, Nat.zero_le _, rfl, rfl, rfl⟩
     case round =>
      obtain ⟨k, hk, rfl, hd', rfl⟩ := hrel
      have HD := qh hd'
      clear hd'
      by_cases hlt : k < s.size
      . have hbd := valTo_bd17 (s := s) (k := k) oM HD.out
        have HV := qh (valTo_succ s k hlt)
        have HT := qh (take_snoc s k hlt)
        obtain ⟨m, Hm⟩ := nM (valTo s k)
        rw [Hm.out] at hbd HV ⊢
        cases hC : digI (s[k].toNat : Int) with
        | true =>
          obtain ⟨h1', h2'⟩ := digI_yes hC
          have HC := qh hC
          clear hC
          have hq1 : decide ((s[k].toNat : Int) < 48) = false := by simp; omega
          have hq2 : decide (57 < (s[k].toNat : Int)) = false := by simp; omega
          go_wp2
          go_round
          case rel => exact ⟨k + 1, oM, by go_num, by rw [HT.out, digL_snoc, HD.out]; exact HC.out, by rw [HV.out, <- numS_step h1']⟩
          case measure => simp [intOf]; omega
        | false =>
          have HF := qh (digL_no (l := s.data.toList) (k := k) (by simpa using hlt) (by rw [getL s k hlt]; exact hC))
          have hC2 : ¬ (48 <= (s[k].toNat : Int) /\ (s[k].toNat : Int) <= 57) := by
           intro h; unfold digI at hC; simp only [Bool.and_eq_false_iff, decide_eq_false_iff_not] at hC; omega
          clear hC
          by_cases hq : (s[k].toNat : Int) < 48
          . have hq1 : decide ((s[k].toNat : Int) < 48) = true := by simp; omega
            go_wp2
            go_ret2
            exact ⟨_, _, rfl, .inr ⟨HPl.out.trans HF.out, .inl rfl⟩, rfl⟩
          . have hq1 : decide ((s[k].toNat : Int) < 48) = false := by simp; omega
            have hq2 : decide (57 < (s[k].toNat : Int)) = true := by simp; omega
            go_wp2
            go_ret2
            exact ⟨_, _, rfl, .inr ⟨HPl.out.trans HF.out, .inl rfl⟩, rfl⟩
      . obtain rfl : k = s.size := oM
        have e : s.data.toList.take s.size = s.data.toList := List.take_of_length_le (by simp)
        rw [e] at HD
        have HV := qh (show valTo s s.size = valL s.data.toList by unfold valTo; rw [e])
        rw [HV.out]
        clear e
        have hbd := valL_bd18 (l := s.data.toList) (by rw [<- ba_size]; omega) HD.out
        obtain ⟨m, Hm⟩ := nM (valL s.data.toList)
        rw [Hm.out] at hbd ⊢
        skip
        go_wp2
        go_ret2
        exact ⟨_, _, rfl, .inl ⟨HPl.out.trans HD.out, rfl, by rw [Hm.out]⟩, rfl⟩
def RetL4 (w : World) (s : BA) (e : Ending) (w' : World) : Prop :=
 ∃ n : Int, e = .returned (.tuple #[ii n, .bool (plainB s.data.toList)]) /\ (plainB s.data.toList = true -> n = ((valL s.data.toList : Nat) : Int)) /\ Nx w w'
theorem l04Number_c (s : BA) (w : World) (hs : s.size <= 65536) : Calls Tryz.prog 195 #[.string s] w (RetL4 w s) := by
 go_enter func195, ntmps195
 go_wp2_with fail
 refine (l00Number_c s _ hs).mono ?_
 rintro e w1 ⟨n, b, rfl, hcase, rfl⟩
 rcases hcase with ⟨hP, rfl, rfl⟩ | ⟨hP, rfl | hneg⟩
 . have HPp := qh hP
   have hbd := valL_bd18 (plainB_len hP).2 (plainB_dig hP)
   have HG := qh (plain_digs hP)
   clear hP
   have HS := qh (show (⟨(digs (valL s.data.toList)).toArray⟩ : BA) = s by rw [HG.out])
   obtain ⟨m, Hm⟩ := nM (valL s.data.toList)
   rw [Hm.out] at hbd HS ⊢
   have hge : decide ((0 : Int) <= (m : Int)) = true := by simp
   go_wp2_with fail
   refine (l00Digits18_c m _ hbd).mono ?_
   rintro e w2 ⟨rfl, hnx⟩
   rw [HS.out]
   have hbq : (s.toList == s.toList) = true := by simp
   go_wp2
   go_ret2
   exact ⟨m, by rw [HPp.out]; rfl, (fun _ => by rw [Hm.out]), hnx⟩
 . have HPp := qh hP
   clear hP
   go_wp2
   go_ret2
   exact ⟨n, by rw [HPp.out]; rfl, (fun h => by rw [HPp.out] at h; cases h), Nx.refl _⟩
 . have HPp := qh hP
   clear hP
   have hge : decide ((0 : Int) <= n) = false := by simp; omega
   cases b with
   | false =>
     go_wp2
     go_ret2
     exact ⟨n, by rw [HPp.out]; rfl, (fun h => by rw [HPp.out] at h; cases h), Nx.refl _⟩
   | true =>
     go_wp2
     go_ret2
     exact ⟨n, by rw [HPp.out]; rfl, (fun h => by rw [HPp.out] at h; cases h), Nx.refl _⟩
theorem wp_addAllJ {w : World} {o : Oper} {a : Act} {K : Act -> World -> Prop} {Q : Exit -> Act -> World -> Prop}
 (s x : Operand) (ho : o.op = .call { callee := .builtin .append, args := #[s, x], argTypes := #[23, 23] })
 (B g0 : Nat) (A : Option Addr) (c : Nat) (xs : List Int) (hs : a.eval s = sC (some ⟨g0, 0, none⟩) 0 0) (hx : a.eval x = sC A xs.length c) (hown : RowI w B (sC (some ⟨g0, 0, none⟩) 0 0) []) {B' : Nat} (hrow : Ins w B' A xs)
 (hm : xs.length <= 1048576) (hB : B <= w.heap.size)
 (hK : ∀ A' k' w', RowI w' B (sC A' xs.length k') xs -> GrewT 3 B w w' -> (∀ k, k < w.heap.size -> k ≠ g0 -> w'.heap[k]? = w.heap[k]?) -> K (a.put o.dst (sC A' xs.length k')) w') :
 o.wp Tryz.prog a w K Q := by
 obtain ⟨i0, hi0, hz0, hz1, hz2⟩ := info_parts info_int
 rcases Nat.eq_zero_or_pos xs.length with h0 | hp
 . have hgs : xs = [] := List.eq_nil_of_length_eq_zero h0
   subst hgs
   have hrun : (Builtin.append_ #[23, 23] o.type #[sC (some ⟨g0, 0, none⟩) 0 0, sC A 0 c]).run Tryz.prog w = .ok (sC (some ⟨g0, 0, none⟩) 0 0) w := by
    rcases A with _ | a'
    . simp [Builtin.append_, run_underlying underlying23, sizeOf, typeInfo, hi0, Builtin.lenOf, Builtin.firstCells, storeCells]
    . simp [Builtin.append_, run_underlying underlying23, sizeOf, typeInfo, hi0, Builtin.lenOf, Builtin.firstCells, storeCells, loadCells, loadCellsFrom]
   have hx' : a.eval x = sC A 0 c := hx
   unfold Oper.wp execOp
   simp only [ho, resolve, invoke, builtin, Sem.run_bind, Sem.run_pure, Result.andThen_ok, List.map_toArray, List.map_cons, List.map_nil, hs, hx', hrun]
   exact hK _ _ w hown (grewT_refl' _ _ _) (fun _ _ _ => rfl)
 . obtain ⟨b, off, rfl, hb, hc⟩ := hrow oM
   refine wp_append_own w s x 23 ho B 3 i0 _ 1 8 underlying23 hi0 hz0 hz1 hz2 rfl oM _ 0 _ hs hown ⟨b, off, none⟩ xs.length c (iV xs) hx (by rw [iV_len', Nat.mul_one]) (fun j u hj => ?_) (iV_one' xs) (by unfold maxLen; omega) oM hB ?_
   . have hj' : j < xs.length := by
      have := (List.getElem?_eq_some_iff.1 hj).1
      rwa [iV_len'] at this
     rw [iV_get xs j hj'] at hj
     rw [addr_add', hc j hj']
     exact hj
   . intro v' w' hw' hg' _
     have hr : RowI w' B v' xs := by
      unfold RowI
      have : w'.ownsRow B 3 1 v' (0 + xs.length) (iV [] ++ iV xs) := hw'
      rw [Nat.zero_add] at this
      exact this
     obtain ⟨A', k', rfl, _⟩ := hr.sl
     exact hK A' k' w' hr (grewT_of' hown hg') (fun k hk hne => hg'.block k hk (fun e => hne (by simpa [Value.ownBlock] using e)))
theorem RowM.pt6t {u : World} {B g : Nat} {v : Value} {ms : List Mrk} {t' : TypeId} {a b c d x y : Value} (h : RowM u B v ms) (hb : Box u g t' #[a, b, c, d, x, y]) (ht : t' ≠ 136) (v0 v1 v2 v3 v4 v5 : Value) : RowM (put6 u g v0 v1 v2 v3 v4 v5) B v ms :=
 (((((h.far (p := ⟨g, 0, none⟩) hb ht v0).far (p := ⟨g, 1, none⟩) (hb.set 0 v0) ht v1).far (p := ⟨g, 2, none⟩) ((hb.set 0 v0).set 1 v1) ht v2).far (p := ⟨g, 3, none⟩) (((hb.set 0 v0).set 1 v1).set 2 v2) ht v3).far (p := ⟨g, 4, none⟩) ((((hb.set 0 v0).set 1 v1).set 2 v2).set 3 v3) ht v4).far (p := ⟨g, 5, none⟩) (((((hb.set 0 v0).set 1 v1).set 2 v2).set 3 v3).set 4 v4) ht v5
theorem Sl.grew {w w' : World} {lo B m : Nat} {A : Option Addr} {t t' : TypeId} {f : Nat -> Value} (h : Sl w lo A t m f) (hg : GrewT t' B w w') (ht : t ≠ t') : Sl w' lo A t m f := fun hm => by
 obtain ⟨g, e, hl, cs, hc, r⟩ := h hm
 exact ⟨g, e, hl, cs, hg.box g t cs ht hc, r⟩
theorem merge6 {G : Nat -> Nat -> Nat -> Option Addr -> Nat -> World -> Prop} {F : Nat -> Nat -> Nat -> Option Addr -> Nat -> World -> Prop} {R : Prop} (main : (∀ gi gs gm A c W, F gi gs gm A c W -> G gi gs gm A c W) -> R) (key : ∀ gi gs gm A c W, F gi gs gm A c W -> G gi gs gm A c W) : R := main key
theorem Below.cell_far (g g2 : Nat) (w : World) (v : Value) (h : g ≠ g2) {i j : Nat} : (w.setCell ⟨g2, j, none⟩ v).cell? ⟨g, i, none⟩ = w.cell? ⟨g, i, none⟩ := by
 have := Below.heap_setCell w ⟨g2, j, none⟩ v g h
 simp only [World.cell?, this]
theorem Sl.box0 {w : World} {lo m : Nat} {A : Option Addr} {t : TypeId} {f : Nat -> Value} (h : Sl w lo A t m f) (hm : 0 < m) : ∃ g, A = some ⟨g, 0, none⟩ /\ lo <= g /\ g < w.heap.size /\ (∃ cs, Box w g t cs) /\ ∀ i, i < m -> w.cell? ⟨g, i, none⟩ = some (f i) := by
 obtain ⟨g, e, hl, ho⟩ := h hm
 obtain ⟨cs, hc, r⟩ := id ho
 exact ⟨g, e, hl, ho.lt, ⟨cs, hc⟩, fun i hi => ho.cell hi⟩
theorem Box.ne_ty {w : World} {g g' : Nat} {t t' : TypeId} {cs cs' : Array Value} (h : Box w g t cs) (h' : Box w g' t' cs') (ht : t ≠ t') : g ≠ g' := by
 rintro rfl
 unfold Box at h h'
 rw [h] at h'
 injection h' with h'
 injection h' with _ h'
 exact ht h'
theorem getD_two {a b x : BA} {l : List BA} (h : l = [a, b]) : l.getD 0 x = a /\ l.getD 1 x = b := by subst h; exact ⟨rfl, rfl⟩
theorem cutB_two {c : UInt8} {t : BA} {a b : List UInt8} (h : cutL c t.data.toList = [a, b]) : cutB c t = [baL a, baL b] := by unfold cutB; rw [h]; rfl
theorem wordB_two {x : BA} {a b : List UInt8} (h : cutL 61 x.data.toList = [a, b]) : wordB x = if plainB b then some (baL a, ((valL b : Nat) : Int)) else none := wordM_two h
theorem wordB_more {x : BA} (h : (cutB 61 x).length ≠ 2) : wordB x = none := wordM_more (by rw [<- cutB_len]; exact h)
theorem cutL_of2 {c : UInt8} {s : List UInt8} (h : (cutL c s).length = 2) : ∃ a b, cutL c s = [a, b] := by
 obtain ⟨a, b, h1, _⟩ := cutL_two h
 exact ⟨a, b, h1⟩
theorem cutL_parts {c : UInt8} {s a b : List UInt8} (h : cutL c s = [a, b]) : a.length <= s.length /\ b.length <= s.length := ⟨cutL_part (by rw [h]; simp), cutL_part (by rw [h]; simp)⟩
theorem l04Read_c (t : BA) (w : World) (ht : t.size <= 65536) : Calls Tryz.prog 129 #[.string t] w (RetSU w (rdU t) (.bool false) (.bool true)) := by
 have b0 := Box.new w 26 #[ii 0, ii 0, ii 0, ii 0, nsl, nsl]
 have hx0 := (Nx.refl w).alloc (.cells #[ii 0, ii 0, ii 0, ii 0, nsl, nsl] 26)
 go_enter func129, ntmps129
 go_wp2_with fail
 generalize w.alloc (.cells #[ii 0, ii 0, ii 0, ii 0, nsl, nsl] 26) = W at *
 refine (l02Open_c t _ oM).mono ?_
 rintro e w0 ⟨x, rfl, hxs, hxb, hnx0⟩
 go_wp2_with fail
 refine (l00Cut_c x 124 _ oM).mono ?_
 rintro e w1 ⟨A6, c6, rfl, hP1, hnx1⟩
 have b1 := (b0.nx hnx0).nx hnx1
 have hx1 := (hx0.trans hnx0).trans hnx1
 clear b0 hx0 hnx0 hnx1
 cases ho : opensB t with
 | false =>
   have HF := qh (rdU_shut ho)
   clear ho hxb
   obtain ⟨u0, u1, u2, u3, u4, u5⟩ := b1.d6
   have f0 := b1.frozen 0
   have f1 := b1.frozen 1
   have f2 := b1.frozen 2
   have f3 := b1.frozen 3
   have f4 := b1.frozen 4
   have f5 := b1.frozen 5
   go_wp2
   have qx := (put6_box b1 (ii 0) (ii 0) (ii 0) (ii 0) (nsl) (nsl))
   have hnf := (put6_nx hx1 (Nat.le_refl w.heap.size) (ii 0) (ii 0) (ii 0) (ii 0) (nsl) (nsl))
   change bodyPost _ _ _ _ _ (put6 w1 w.heap.size (ii 0) (ii 0) (ii 0) (ii 0) (nsl) (nsl))
   change Box (put6 w1 w.heap.size (ii 0) (ii 0) (ii 0) (ii 0) (nsl) (nsl)) _ _ _ at qx
   generalize put6 w1 w.heap.size (ii 0) (ii 0) (ii 0) (ii 0) (nsl) (nsl) = Wf at *
   obtain ⟨g0, g1, g2, g3, g4, g5⟩ := qx.d6
   exact bodyPost_ret (v := .tuple #[.agg #[ii 0, ii 0, ii 0, ii 0, nsl, nsl], .bool false]) (by simp [results, results129, go_sem, g0, g1, g2, g3, g4, g5]) rfl (RetSU.no HF.out hnf)
 | true =>
   obtain rfl := hxb ho
   clear hxb
   have Hlc := qh (cutB_len 124 (bodyOf t))
   by_cases h2 : (cutB 124 (bodyOf t)).length = 2
   case neg =>
    have HF := qh (rdU_more (t := t) (by rw [<- Hlc.out]; exact h2))
    have hd2 : (((cutB 124 (bodyOf t)).length : Int) != 2) = true := by rw [bne_iff_ne]; omega
    clear ho h2
    obtain ⟨u0, u1, u2, u3, u4, u5⟩ := b1.d6
    have f0 := b1.frozen 0
    have f1 := b1.frozen 1
    have f2 := b1.frozen 2
    have f3 := b1.frozen 3
    have f4 := b1.frozen 4
    have f5 := b1.frozen 5
    go_wp2
    have qx := (put6_box b1 (ii 0) (ii 0) (ii 0) (ii 0) (nsl) (nsl))
    have hnf := (put6_nx hx1 (Nat.le_refl w.heap.size) (ii 0) (ii 0) (ii 0) (ii 0) (nsl) (nsl))
    change bodyPost _ _ _ _ _ (put6 w1 w.heap.size (ii 0) (ii 0) (ii 0) (ii 0) (nsl) (nsl))
    change Box (put6 w1 w.heap.size (ii 0) (ii 0) (ii 0) (ii 0) (nsl) (nsl)) _ _ _ at qx
    generalize put6 w1 w.heap.size (ii 0) (ii 0) (ii 0) (ii 0) (nsl) (nsl) = Wf at *
    obtain ⟨g0, g1, g2, g3, g4, g5⟩ := qx.d6
    exact bodyPost_ret (v := .tuple #[.agg #[ii 0, ii 0, ii 0, ii 0, nsl, nsl], .bool false]) (by simp [results, results129, go_sem, g0, g1, g2, g3, g4, g5]) rfl (RetSU.no HF.out hnf)
   obtain ⟨la, lb, hlab⟩ := cutL_of2 (by rw [<- Hlc.out]; exact h2)
   have HPu := qh (rdU_two ho hlab)
   have hlp := cutL_parts hlab
   have Hps := qh (cutB_two hlab)
   rw [<- ba_size] at hlp
   have hbsz := bodyOf_size t
   have HLa : Hid (la.length <= 65536) := qh oM
   have HLb : Hid (lb.length <= 65536) := qh oM
   obtain ⟨ps, Hpq⟩ := nM (cutB 124 (bodyOf t))
   rw [Hpq.out] at hP1 h2 Hps Hlc ⊢
   have hd2 : ((ps.length : Int) != 2) = false := by rw [bne_eq_false_iff_eq]; omega
   obtain ⟨gp, rfl, _, hgp, _, hcp0⟩ := hP1.box0 oM
   obtain ⟨sa, Hsa⟩ := nM (baL la)
   obtain ⟨sb, Hsb⟩ := nM (baL lb)
   have Hda := qh (show sa.data.toList = la by rw [<- Hsa.out]; rfl)
   have Hdb := qh (show sb.data.toList = lb by rw [<- Hsb.out]; rfl)
   have hla : sa.size <= 65536 := by rw [<- Hsa.out, baL_size]; exact HLa.out
   have hlb : sb.size <= 65536 := by rw [<- Hsb.out, baL_size]; exact HLb.out
   have p0 : w1.cell? ⟨gp, 0, none⟩ = some (.string sa) := by have := hcp0 0 oM; unfold wdAt at this; rw [(getD_two Hps.out).1, Hsa.out] at this; exact this
   have p1 : w1.cell? ⟨gp, 1, none⟩ = some (.string sb) := by have := hcp0 1 oM; unfold wdAt at this; rw [(getD_two Hps.out).2, Hsb.out] at this; exact this
   have hp0' : (0 : Int) < (ps.length : Int) := oM
   have hp1' : (1 : Int) < (ps.length : Int) := oM
   have hpm0 : 0 < ps.length := oM
   have hpm1 : 1 < ps.length := oM
   clear h2 hlab hlp hcp0 hP1 ho hbsz hxs
   go_wp2_with fail
   refine (l02Numbers_c sa _ hla).mono ?_
   rintro e w4 ⟨A, n, c, rfl, hr, hnx4⟩
   rw [Hda.out] at hr ⊢
   have b4 := b1.nx hnx4
   have hx4 := hx1.trans hnx4
   have hgp4 : gp < w4.heap.size := Nat.lt_of_lt_of_le hgp hnx4.size
   have p14 := (hnx4.cell (p := ⟨gp, 1, none⟩) hgp).trans p1
   clear p0 p1 b1 hx1 hnx4
   cases hn : numsO la with
   | none =>
     have HF := qh (HPu.out.trans (partU_nums hn))
     clear hr hn
     simp only [Option.isSome_none]
     obtain ⟨u0, u1, u2, u3, u4, u5⟩ := b4.d6
     have f0 := b4.frozen 0
     have f1 := b4.frozen 1
     have f2 := b4.frozen 2
     have f3 := b4.frozen 3
     have f4 := b4.frozen 4
     have f5 := b4.frozen 5
     go_wp2
     have qx := (put6_box b4 (ii 0) (ii 0) (ii 0) (ii 0) (nsl) (nsl))
     have hnf := (put6_nx hx4 (Nat.le_refl w.heap.size) (ii 0) (ii 0) (ii 0) (ii 0) (nsl) (nsl))
     change bodyPost _ _ _ _ _ (put6 w4 w.heap.size (ii 0) (ii 0) (ii 0) (ii 0) (nsl) (nsl))
     change Box (put6 w4 w.heap.size (ii 0) (ii 0) (ii 0) (ii 0) (nsl) (nsl)) _ _ _ at qx
     generalize put6 w4 w.heap.size (ii 0) (ii 0) (ii 0) (ii 0) (nsl) (nsl) = Wf at *
     obtain ⟨g0, g1, g2, g3, g4, g5⟩ := qx.d6
     exact bodyPost_ret (v := .tuple #[.agg #[ii 0, ii 0, ii 0, ii 0, nsl, nsl], .bool false]) (by simp [results, results129, go_sem, g0, g1, g2, g3, g4, g5]) rfl (RetSU.no HF.out hnf)
   | some ns =>
     obtain ⟨rfl, hrow, hcp⟩ := hr ns hn
     have HNs := qh hn
     have hnl : ns.length <= 65536 := by have := numsO_fit hn; have := HLa.out; omega
     clear hr hn
     simp only [Option.isSome_some]
     by_cases hl4 : 4 <= ns.length
     case neg =>
      have HF := qh (HPu.out.trans (partU_few HNs.out oM))
      have hd4 : decide ((ns.length : Int) < 4) = true := by simp; omega
      obtain ⟨u0, u1, u2, u3, u4, u5⟩ := b4.d6
      have f0 := b4.frozen 0
      have f1 := b4.frozen 1
      have f2 := b4.frozen 2
      have f3 := b4.frozen 3
      have f4 := b4.frozen 4
      have f5 := b4.frozen 5
      go_wp2
      have qx := (put6_box b4 (ii 0) (ii 0) (ii 0) (ii 0) (nsl) (nsl))
      have hnf := (put6_nx hx4 (Nat.le_refl w.heap.size) (ii 0) (ii 0) (ii 0) (ii 0) (nsl) (nsl))
      change bodyPost _ _ _ _ _ (put6 w4 w.heap.size (ii 0) (ii 0) (ii 0) (ii 0) (nsl) (nsl))
      change Box (put6 w4 w.heap.size (ii 0) (ii 0) (ii 0) (ii 0) (nsl) (nsl)) _ _ _ at qx
      generalize put6 w4 w.heap.size (ii 0) (ii 0) (ii 0) (ii 0) (nsl) (nsl) = Wf at *
      obtain ⟨g0, g1, g2, g3, g4, g5⟩ := qx.d6
      exact bodyPost_ret (v := .tuple #[.agg #[ii 0, ii 0, ii 0, ii 0, nsl, nsl], .bool false]) (by simp [results, results129, go_sem, g0, g1, g2, g3, g4, g5]) rfl (RetSU.no HF.out hnf)
     have hd4 : decide ((ns.length : Int) < 4) = false := by simp; omega
     obtain ⟨b, off, rfl, hb, hcl⟩ := hrow oM
     have HRow := qh (fun W (hW : Nx w4 W) => drop_row (W := W) (B := w4.heap.size) (c := c) (fun i hi => (hW.cell (p := ⟨b, off + i, none⟩) hb).trans (hcl i hi)) hb hl4 hcp)
     obtain ⟨n0, Hn0⟩ := nM (ns.getD 0 0)
     obtain ⟨n1, Hn1⟩ := nM (ns.getD 1 0)
     obtain ⟨n2, Hn2⟩ := nM (ns.getD 2 0)
     obtain ⟨n3, Hn3⟩ := nM (ns.getD 3 0)
     have k0 : w4.cell? ⟨b, off, none⟩ = some (ii n0) := by have := hcl 0 oM; unfold intAt at this; rw [Hn0.out] at this; exact this
     have k1 : w4.cell? ⟨b, off + 1, none⟩ = some (ii n1) := by have := hcl 1 oM; unfold intAt at this; rw [Hn1.out] at this; exact this
     have k2 : w4.cell? ⟨b, off + 2, none⟩ = some (ii n2) := by have := hcl 2 oM; unfold intAt at this; rw [Hn2.out] at this; exact this
     have k3 : w4.cell? ⟨b, off + 3, none⟩ = some (ii n3) := by have := hcl 3 oM; unfold intAt at this; rw [Hn3.out] at this; exact this
     obtain ⟨xs, Hxs⟩ := nM (intsN (ns.drop 4))
     have HLen : Hid (xs.length = ns.length - 4) := qh (by rw [<- Hxs.out, intsN_len, List.length_drop])
     rw [Hxs.out] at HRow
     have hi0' : (0 : Int) < (ns.length : Int) := oM
     have hi1' : (1 : Int) < (ns.length : Int) := oM
     have hi2' : (2 : Int) < (ns.length : Int) := oM
     have hi3' : (3 : Int) < (ns.length : Int) := oM
     have hm0 : 0 < ns.length := oM
     have hm1 : 1 < ns.length := oM
     have hm2 : 2 < ns.length := oM
     have hm3 : 3 < ns.length := oM
     clear hcl hrow
     go_wp2_with fail
     refine merge6 (F := (fun _ gS gm A5 c5 W => Box W gS 26 #[ii 0, ii 0, ii 0, ii 0, nsl, nsl] /\ RowM W w4.heap.size (sC (some ⟨gm, 0, none⟩) 0 0) [] /\ RowI W w4.heap.size (sC A5 xs.length c5) xs /\ Nx w4 W /\ w4.heap.size <= gS)) (G := ?_) (fun key => ?_) ?_
     rotate_left
     . have hd := (Nx.refl w4).drew
       refine wp_planA (.t 0 (.t 1 (.t 2 (.t 3 (.t 4 (.t 5 (.t 6 (.t 7 (.t 8 (.t 9 (.t 10 (.t 11 (.t 13 (.t 14 (.d 12 (.d 15 (.b 16 (.t 17 (.c 18 (.c 19 .e))) 18 (.c 16 (.t 17 (.c 19 .e)))) 16 (.b 15 (.t 17 (.c 18 (.c 19 .e))) 18 (.c 15 (.t 17 (.c 19 .e)))) 18 (.b 15 (.c 16 (.t 17 (.c 19 .e))) 16 (.c 15 (.t 17 (.c 19 .e))))) 16 (.b 12 (.b 15 (.t 17 (.c 18 (.c 19 .e))) 18 (.c 15 (.t 17 (.c 19 .e)))) 18 (.c 12 (.c 15 (.t 17 (.c 19 .e))))) 18 (.b 12 (.b 15 (.c 16 (.t 17 (.c 19 .e))) 16 (.c 15 (.t 17 (.c 19 .e)))) 16 (.c 12 (.c 15 (.t 17 (.c 19 .e)))))))))))))))))))) (fun w' => CC w' b off (ii n0) /\ CC w' b (off + 1) (ii n1) /\ CC w' b (off + 2) (ii n2) /\ CC w' b (off + 3) (ii n3)) (by exact ⟨(hd.cell (p := ⟨b, off, none⟩) hb).trans k0, (hd.cell (p := ⟨b, off + 1, none⟩) hb).trans k1, (hd.cell (p := ⟨b, off + 2, none⟩) hb).trans k2, (hd.cell (p := ⟨b, off + 3, none⟩) hb).trans k3⟩) ?_
       simp only [psOf, List.getD_cons_zero, List.getD_cons_succ]
       change HP _ _ _ _ _ _ w4.drew
       generalize w4.drew = wv at hd ⊢
       iterate 13 (refine HP.tk ?_; (try simp only [Act.put, qqA, qqB, qqC]))
       refine HP.take (v := sC (dropA (some ⟨b, off, none⟩) c) xs.length (c - 4)) (by rfl) (fun W _ => slice4 rfl rfl hl4 HLen.out) ?_
       refine nZ ?_
       repeat' (first
        | (have hA := rI; have hB0 := rM; have hC := bS; exact key gi gS gm A5 c5 wv ⟨bS, rM, rI, hd, hgS⟩)
        | (with_reducible refine HP.both ?_ ?_)
        | (with_reducible refine HP.three ?_ ?_ ?_)
        | (with_reducible refine HP.call ?_)
        | (refine HP.tk ?_; (try simp only [Act.put, qqA, qqB, qqC]))
        | (refine cSt fun K hK => ?_; first
          | (have hri := ri; refine wp_addAllJ _ _ rfl w4.heap.size gi (dropA (some ⟨b, off, none⟩) c) (c - 4) xs rfl rfl ri (HRow.out _ hd) (by have := HLen.out; omega) hd.size ?_; intro A5 c5 wv rI hG _; (try replace bS := hG.box _ _ _ dC bS); (try replace rM := rM.grew hG dC); replace hd := hG.nx w4 hd nle; clear ri hri hG; refine hK.out _ _ (by exact ⟨(hd.cell (p := ⟨b, off, none⟩) hb).trans k0, (hd.cell (p := ⟨b, off + 1, none⟩) hb).trans k1, (hd.cell (p := ⟨b, off + 2, none⟩) hb).trans k2, (hd.cell (p := ⟨b, off + 3, none⟩) hb).trans k3⟩) ?_; clear hK K; (try simp only [Act.put]))
          | (go_simp; first
            | (have hsz := hd.size; have hz := (Nx.refl wv).alloc (.cells #[] 3); (try replace ri := ri.nx hz); (try replace rI := rI.nx hz); (try replace rM := rM.nx hz); (try replace bS := bS.nx hz); replace hd := hd.trans hz; have ri := RowI.new wv (B := w4.heap.size) hsz; refine hK.out _ _ (by exact ⟨(hd.cell (p := ⟨b, off, none⟩) hb).trans k0, (hd.cell (p := ⟨b, off + 1, none⟩) hb).trans k1, (hd.cell (p := ⟨b, off + 2, none⟩) hb).trans k2, (hd.cell (p := ⟨b, off + 3, none⟩) hb).trans k3⟩) ?_; clear hK K hsz hz; (try simp only [Act.put, qqA, qqB, qqC]); change HP _ _ _ _ _ _ (wv.alloc (.cells #[] 3)); generalize wv.heap.size = gi at *; generalize wv.alloc (.cells #[] 3) = wv at *)
            | (have hsz := hd.size; have hz := (Nx.refl wv).alloc (.cells #[] 136); (try replace ri := ri.nx hz); (try replace rI := rI.nx hz); (try replace rM := rM.nx hz); (try replace bS := bS.nx hz); replace hd := hd.trans hz; have rM := RowM.new wv (B := w4.heap.size) hsz; refine hK.out _ _ (by exact ⟨(hd.cell (p := ⟨b, off, none⟩) hb).trans k0, (hd.cell (p := ⟨b, off + 1, none⟩) hb).trans k1, (hd.cell (p := ⟨b, off + 2, none⟩) hb).trans k2, (hd.cell (p := ⟨b, off + 3, none⟩) hb).trans k3⟩) ?_; clear hK K hsz hz; (try simp only [Act.put, qqA, qqB, qqC]); change HP _ _ _ _ _ _ (wv.alloc (.cells #[] 136)); generalize wv.heap.size = gm at *; generalize wv.alloc (.cells #[] 136) = wv at *)
            | (have hsz := hd.size; have hz := (Nx.refl wv).alloc (.cells #[ii 0, ii 0, ii 0, ii 0, nsl, nsl] 26); have hgS := hd.size; (try replace ri := ri.nx hz); (try replace rI := rI.nx hz); (try replace rM := rM.nx hz); (try replace bS := bS.nx hz); replace hd := hd.trans hz; have bS := Box.new wv 26 #[ii 0, ii 0, ii 0, ii 0, nsl, nsl]; refine hK.out _ _ (by exact ⟨(hd.cell (p := ⟨b, off, none⟩) hb).trans k0, (hd.cell (p := ⟨b, off + 1, none⟩) hb).trans k1, (hd.cell (p := ⟨b, off + 2, none⟩) hb).trans k2, (hd.cell (p := ⟨b, off + 3, none⟩) hb).trans k3⟩) ?_; clear hK K hsz hz; (try simp only [Act.put, qqA, qqB, qqC]); change HP _ _ _ _ _ _ (wv.alloc (.cells #[ii 0, ii 0, ii 0, ii 0, nsl, nsl] 26)); generalize wv.heap.size = gS at *; generalize wv.alloc (.cells #[ii 0, ii 0, ii 0, ii 0, nsl, nsl] 26) = wv at *))))
     intro gi gS gm A5 c5 w5 hF
     obtain ⟨bS, rM, rI, hx5, hgS⟩ := hF
     obtain ⟨r0, r1, r2, r3, r4, r5⟩ := bS.d6
     have rf0 := bS.frozen 0
     have rf1 := bS.frozen 1
     have rf2 := bS.frozen 2
     have rf3 := bS.frozen 3
     have rf4 := bS.frozen 4
     have rf5 := bS.frozen 5
     have rlt := bS.lt
     show HP _ _ _ _ _ _ _
     refine hPc fun K hK => ?_
     go_simp
     refine hK.out _ _ (by exact ⟨((put6_nx hx5 hgS (ii n0) (ii n1) (ii n2) (ii n3) (sC A5 xs.length c5) (sC (some ⟨gm, 0, none⟩) 0 0)).cell (p := ⟨b, off, none⟩) hb).trans k0, ((put6_nx hx5 hgS (ii n0) (ii n1) (ii n2) (ii n3) (sC A5 xs.length c5) (sC (some ⟨gm, 0, none⟩) 0 0)).cell (p := ⟨b, off + 1, none⟩) hb).trans k1, ((put6_nx hx5 hgS (ii n0) (ii n1) (ii n2) (ii n3) (sC A5 xs.length c5) (sC (some ⟨gm, 0, none⟩) 0 0)).cell (p := ⟨b, off + 2, none⟩) hb).trans k2, ((put6_nx hx5 hgS (ii n0) (ii n1) (ii n2) (ii n3) (sC A5 xs.length c5) (sC (some ⟨gm, 0, none⟩) 0 0)).cell (p := ⟨b, off + 3, none⟩) hb).trans k3⟩) ?_
     clear hK K
     refine nZ ?_
     refine HP.done ?_
     clear r0 r1 r2 r3 r4 r5 rf0 rf1 rf2 rf3 rf4 rf5 rlt
     obtain ⟨A5b, c5b, he5, hc5b, hS5⟩ := rI.slc
     injection he5 with e5a _ e5b
     subst e5a e5b
     have hc5 := hc5b
     have bs := put6_box bS (ii n0) (ii n1) (ii n2) (ii n3) (sC A5 xs.length c5) (sC (some ⟨gm, 0, none⟩) 0 0)
     have hx6 := put6_nx hx5 hgS (ii n0) (ii n1) (ii n2) (ii n3) (sC A5 xs.length c5) (sC (some ⟨gm, 0, none⟩) 0 0)
     have hS6 := hS5.pt6t bS dC (ii n0) (ii n1) (ii n2) (ii n3) (sC A5 xs.length c5) (sC (some ⟨gm, 0, none⟩) 0 0)
     have hM6 := rM.pt6t bS dC (ii n0) (ii n1) (ii n2) (ii n3) (sC A5 xs.length c5) (sC (some ⟨gm, 0, none⟩) 0 0)
     change Exit.then _ _ _ _ (put6 w5 gS (ii n0) (ii n1) (ii n2) (ii n3) (sC A5 xs.length c5) (sC (some ⟨gm, 0, none⟩) 0 0))
     generalize (put6 w5 gS (ii n0) (ii n1) (ii n2) (ii n3) (sC A5 xs.length c5) (sC (some ⟨gm, 0, none⟩) 0 0)) = w6 at *
     clear bS rM rI hx5 hS5
     clear k0 k1 k2 k3 hi0' hi1' hi2' hi3' hm0 hm1 hm2 hm3
     have p16 := (hx6.cell (p := ⟨gp, 1, none⟩) hgp4).trans p14
     go_wp2_with fail
     refine (l00Cut_c sb 44 _ hlb).mono ?_
     rintro e w8 ⟨A9, c9, rfl, hW8, hnx8⟩
     have HO := qh (fun h => marksO_cut (s := sb) h)
     have HPt := qh (fun k => cutB_part (c := 44) (t := sb) k)
     have hl9 : (cutB 44 sb).length <= 65537 := by rw [cutB_len]; have := cutL_size 44 sb.data.toList; rw [<- ba_size] at this; omega
     have hl1 : 1 <= (cutB 44 sb).length := by rw [cutB_len]; exact cutL_pos _ _
     rw [Hdb.out] at HO
     have HZe := qh (fun (h : sb.size = 0) => marksO_nil h)
     rw [Hdb.out] at HZe
     obtain ⟨ws, Hws⟩ := nM (cutB 44 sb)
     rw [Hws.out] at hW8 HO hl9 hl1 HPt ⊢
     have bs8 := bs.nx hnx8
     have hM8 := hM6.nx hnx8
     have hS8 := hS6.nx hnx8
     have hx8 := hx6.trans hnx8
     have hgW : w6.heap.size <= w8.heap.size := hnx8.size
     have hW8' := hW8.low (lo' := w4.heap.size) hx6.size
     clear bs hM6 hS6 hx6 hnx8 p16 hW8
     go_wp2
     go_loopw [11] (fun i wr => ∃ (k : Nat) (v : Value) (ms : List Mrk), k <= ws.length /\ i = ii k /\ Box wr gS 26 #[ii n0, ii n1, ii n2, ii n3, sC A5 xs.length c5, v] /\ RowM wr w4.heap.size v ms /\ SlI wr w4.heap.size A5 xs /\ Sl wr w4.heap.size A9 9 ws.length (wdAt ws) /\ Hid (marksB (ws.take k) = some ms) /\ Hid (sb.size = 0 -> k = 0) /\ Nx w4 wr) (fun i _ => ws.length - (intOf i).toNat)
     case atStart => exact ⟨0, _, [], Nat.zero_le _, rfl, bs8, hM8, hS8, hW8', qh rfl, qh (fun _ => rfl), hx8⟩
     case round =>
      obtain ⟨k, v, ms, hk, rfl, bg, rM, hS, hW, HM, HK, hxr⟩ := hrel
      clear bs8 hM8 hS8 hW8' hx8
      have p1r := (hxr.cell (p := ⟨gp, 1, none⟩) hgp4).trans p14
      by_cases hz : sb.size = 0
      . obtain rfl := HK.out hz
        have hlt0 : 0 < ws.length := oM
        have hq : (sb.toList != []) = false := by
         rw [bne_eq_false_iff_eq, ByteArray.toList_eq]; exact List.eq_nil_of_length_eq_zero (by rw [<- ba_size]; exact hz)
        have hq0 : (sb.toList == []) = true := by
         rw [beq_iff_eq, ByteArray.toList_eq]; exact List.eq_nil_of_length_eq_zero (by rw [<- ba_size]; exact hz)
        have HMs : Hid (marksO lb = some ms) := qh (by rw [HZe.out hz]; exact HM.out)
        clear hz
        obtain ⟨A2, c2, rfl, _, hM⟩ := rM.slc
        have hfit := marksO_fit HLb.out HMs.out
        have hml := hfit.1
        have HAm := qh hfit.2
        have HU := qh (HPu.out.trans (partU_yes HNs.out hl4 HMs.out))
        have b6 := b4.nx hxr
        have hxw6 := hx4.trans hxr
        obtain ⟨y0, y1, y2, y3, y4, y5⟩ := bg.d6
        clear hfit
        go_wp2_with fail
        refine (specSuperOK_c n0 n1 n2 n3 A5 A2 c5 c2 _ xs ms _ hS.row hM.row nle (by have := HLen.out; omega) hml hc5 HAm.out).mono ?_
        rintro e w7 ⟨rfl, hnx7⟩
        have b7 := b6.nx hnx7
        have bs7 := bg.nx hnx7
        have hx7 := hxw6.trans hnx7
        have hS7 := hS.nx hnx7
        have hM7 := hM.nx hnx7
        clear y0 y1 y2 y3 y4 y5
        obtain ⟨y0, y1, y2, y3, y4, y5⟩ := bs7.d6
        cases hf : superB n0 n1 n2 n3 xs ms with
        | false =>
          have HF := qh (HU.out.trans (supOf_no (by rw [Hn0.out, Hn1.out, Hn2.out, Hn3.out, Hxs.out]; exact hf)))
          clear hf
          obtain ⟨u0, u1, u2, u3, u4, u5⟩ := b7.d6
          have f0 := b7.frozen 0
          have f1 := b7.frozen 1
          have f2 := b7.frozen 2
          have f3 := b7.frozen 3
          have f4 := b7.frozen 4
          have f5 := b7.frozen 5
          go_wp2
          have qx := (put6_box b7 (ii 0) (ii 0) (ii 0) (ii 0) (nsl) (nsl))
          have hnf := (put6_nx hx7 (Nat.le_refl w.heap.size) (ii 0) (ii 0) (ii 0) (ii 0) (nsl) (nsl))
          change bodyPost _ _ _ _ _ (put6 w7 w.heap.size (ii 0) (ii 0) (ii 0) (ii 0) (nsl) (nsl))
          change Box (put6 w7 w.heap.size (ii 0) (ii 0) (ii 0) (ii 0) (nsl) (nsl)) _ _ _ at qx
          generalize put6 w7 w.heap.size (ii 0) (ii 0) (ii 0) (ii 0) (nsl) (nsl) = Wf at *
          obtain ⟨g0, g1, g2, g3, g4, g5⟩ := qx.d6
          exact bodyPost_ret (v := .tuple #[.agg #[ii 0, ii 0, ii 0, ii 0, nsl, nsl], .bool false]) (by simp [results, results129, go_sem, g0, g1, g2, g3, g4, g5]) rfl (RetSU.no HF.out hnf)
        | true =>
          have HF := qh (HU.out.trans (supOf_yes (by rw [Hn0.out, Hn1.out, Hn2.out, Hn3.out, Hxs.out]; exact hf)))
          rw [Hn0.out, Hn1.out, Hn2.out, Hn3.out, Hxs.out] at HF
          clear hf
          have hgl : w.heap.size < w4.heap.size := b4.lt
          obtain ⟨u0, u1, u2, u3, u4, u5⟩ := b7.d6
          have f0 := b7.frozen 0
          have f1 := b7.frozen 1
          have f2 := b7.frozen 2
          have f3 := b7.frozen 3
          have f4 := b7.frozen 4
          have f5 := b7.frozen 5
          go_wp2
          have qx := (put6_box b7 (ii n0) (ii n1) (ii n2) (ii n3) (sC A5 xs.length c5) (sC A2 ms.length c2))
          have hnf := (put6_nx hx7 (Nat.le_refl w.heap.size) (ii n0) (ii n1) (ii n2) (ii n3) (sC A5 xs.length c5) (sC A2 ms.length c2))
          have hsf := (hS7.pt6 hgl (ii n0) (ii n1) (ii n2) (ii n3) (sC A5 xs.length c5) (sC A2 ms.length c2))
          change Sl (put6 w7 w.heap.size (ii n0) (ii n1) (ii n2) (ii n3) (sC A5 xs.length c5) (sC A2 ms.length c2)) _ _ _ _ _ at hsf
          have hmf := (hM7.pt6 hgl (ii n0) (ii n1) (ii n2) (ii n3) (sC A5 xs.length c5) (sC A2 ms.length c2))
          change Sl (put6 w7 w.heap.size (ii n0) (ii n1) (ii n2) (ii n3) (sC A5 xs.length c5) (sC A2 ms.length c2)) _ _ _ _ _ at hmf
          change bodyPost _ _ _ _ _ (put6 w7 w.heap.size (ii n0) (ii n1) (ii n2) (ii n3) (sC A5 xs.length c5) (sC A2 ms.length c2))
          change Box (put6 w7 w.heap.size (ii n0) (ii n1) (ii n2) (ii n3) (sC A5 xs.length c5) (sC A2 ms.length c2)) _ _ _ at qx
          generalize put6 w7 w.heap.size (ii n0) (ii n1) (ii n2) (ii n3) (sC A5 xs.length c5) (sC A2 ms.length c2) = Wf at *
          obtain ⟨hmf0, hmf1, hmf2, hmf3, hmf4, hmf5⟩ := qx.d6
          exact bodyPost_ret (v := .tuple #[.agg #[ii n0, ii n1, ii n2, ii n3, sC A5 xs.length c5, sC A2 ms.length c2], .bool true]) (by simp [results, results129, go_sem, hmf0, hmf1, hmf2, hmf3, hmf4, hmf5]) rfl (RetSU.yes HF.out hc5 (hsf.low oM) (hmf.low oM) hnf)
      . have hq : (sb.toList != []) = true := by
         rw [bne_iff_ne, ByteArray.toList_eq]; intro h; exact hz (by rw [ba_size, h]; rfl)
        have hq0 : (sb.toList == []) = false := by
         rw [beq_eq_false_iff_ne, ByteArray.toList_eq]; intro h; exact hz (by rw [ba_size, h]; rfl)
        have HZ := qh hz
        clear hz
        by_cases hlt : k < ws.length
        . obtain ⟨gx, rfl, hgx, hgx2, _, hc0⟩ := hW.box0 oM
          have hc := hc0 k hlt
          clear hc0
          unfold wdAt at hc
          have hsz := HPt.out k
          have HNo := qh (fun h => (HO.out HZ.out).trans (marksB_no hlt h))
          have HYes := qh (fun m (h : wordB (ws.getD k ByteArray.empty) = some m) => marksB_succ hlt HM.out h)
          have hml : ms.length = k := by rw [marksB_len HM.out, List.length_take]; omega
          have Hml := qh hml
          obtain ⟨x, Hx⟩ := nM (ws.getD k ByteArray.empty)
          rw [Hx.out] at hc hsz HNo HYes
          clear hml
          go_wp2_with fail
          refine (l00Cut_c x 61 _ oM).mono ?_
          rintro e w9 ⟨Aw, cw, rfl, hV, hnx9⟩
          have bg9 := bg.nx hnx9
          have rM9 := rM.nx hnx9
          have hS9 := hS.nx hnx9
          have hW9 := hW.nx hnx9
          have hx9 := hxr.trans hnx9
          have b9 := b4.nx hx9
          have hxw9 := hx4.trans hx9
          have hsg9 := hxr.size
          clear bg rM hS hW hxr hnx9 hc p1r
          by_cases h2 : (cutB 61 x).length = 2
          case neg =>
           have HF := qh (HPu.out.trans (partU_marks HNs.out (HNo.out (wordB_more h2))))
           have hd2w : (((cutB 61 x).length : Int) != 2) = true := by rw [bne_iff_ne]; omega
           clear h2 HNo HYes
           obtain ⟨u0, u1, u2, u3, u4, u5⟩ := b9.d6
           have f0 := b9.frozen 0
           have f1 := b9.frozen 1
           have f2 := b9.frozen 2
           have f3 := b9.frozen 3
           have f4 := b9.frozen 4
           have f5 := b9.frozen 5
           go_wp2
           have qx := (put6_box b9 (ii 0) (ii 0) (ii 0) (ii 0) (nsl) (nsl))
           have hnf := (put6_nx hxw9 (Nat.le_refl w.heap.size) (ii 0) (ii 0) (ii 0) (ii 0) (nsl) (nsl))
           change bodyPost _ _ _ _ _ (put6 w9 w.heap.size (ii 0) (ii 0) (ii 0) (ii 0) (nsl) (nsl))
           change Box (put6 w9 w.heap.size (ii 0) (ii 0) (ii 0) (ii 0) (nsl) (nsl)) _ _ _ at qx
           generalize put6 w9 w.heap.size (ii 0) (ii 0) (ii 0) (ii 0) (nsl) (nsl) = Wf at *
           obtain ⟨g0, g1, g2, g3, g4, g5⟩ := qx.d6
           exact bodyPost_ret (v := .tuple #[.agg #[ii 0, ii 0, ii 0, ii 0, nsl, nsl], .bool false]) (by simp [results, results129, go_sem, g0, g1, g2, g3, g4, g5]) rfl (RetSU.no HF.out hnf)
          obtain ⟨qa', qb', hqab⟩ := cutL_of2 (c := 61) (s := x.data.toList) (by rw [<- cutB_len]; exact h2)
          have HWd := qh (wordB_two hqab)
          have Hvs := qh (cutB_two hqab)
          have hqs := cutL_parts hqab
          obtain ⟨qa, Hqa⟩ := nM (baL qa')
          obtain ⟨qb, Hqb⟩ := nM (baL qb')
          have Hdq := qh (show qb.data.toList = qb' by rw [<- Hqb.out]; rfl)
          have hqbs : qb.size <= 65536 := by rw [<- Hqb.out, baL_size]; have := hqs.2; rw [<- ba_size] at this; omega
          rw [Hqa.out] at HWd
          obtain ⟨us, Hus⟩ := nM (cutB 61 x)
          rw [Hus.out] at hV h2 Hvs ⊢
          have hd2w : ((us.length : Int) != 2) = false := by rw [bne_eq_false_iff_eq]; omega
          obtain ⟨gw, rfl, hgwl, hgw9, hBw9, hcu⟩ := hV.box0 oM
          have u0 : w9.cell? ⟨gw, 0, none⟩ = some (.string qa) := by have := hcu 0 oM; unfold wdAt at this; rw [(getD_two Hvs.out).1, Hqa.out] at this; exact this
          have u1 : w9.cell? ⟨gw, 1, none⟩ = some (.string qb) := by have := hcu 1 oM; unfold wdAt at this; rw [(getD_two Hvs.out).2, Hqb.out] at this; exact this
          have hu0' : (0 : Int) < (us.length : Int) := oM
          have hu1' : (1 : Int) < (us.length : Int) := oM
          have hum0 : 0 < us.length := oM
          have hum1 : 1 < us.length := oM
          clear h2 hqab hqs hcu hV
          go_wp2_with fail
          refine (l04Number_c qb _ hqbs).mono ?_
          rintro e w10 ⟨qn, rfl, hqn, hnx10⟩
          rw [Hdq.out] at hqn ⊢
          have bg10 := bg9.nx hnx10
          have rM10 := rM9.nx hnx10
          have hS10 := hS9.nx hnx10
          have hW10 := hW9.nx hnx10
          have hx10 := hx9.trans hnx10
          have b10 := b4.nx hx10
          have hxwA := hx4.trans hx10
          have y0 := (hnx10.cell (p := ⟨gw, 0, none⟩) hgw9).trans u0
          have hgw : gw < w10.heap.size := Nat.lt_of_lt_of_le hgw9 hnx10.size
          obtain ⟨csw, hBx9⟩ := hBw9
          have hBx := hBx9.nx hnx10
          have hne : gw ≠ gS := hBx.ne_ty bg10 dC
          cases hp : plainB qb' with
          | false =>
            have HF := qh (HPu.out.trans (partU_marks HNs.out (HNo.out (by rw [HWd.out, hp]; rfl))))
            clear hp HNo HYes hqn
            obtain ⟨u0, u1, u2, u3, u4, u5⟩ := b10.d6
            have f0 := b10.frozen 0
            have f1 := b10.frozen 1
            have f2 := b10.frozen 2
            have f3 := b10.frozen 3
            have f4 := b10.frozen 4
            have f5 := b10.frozen 5
            go_wp2
            have qx := (put6_box b10 (ii 0) (ii 0) (ii 0) (ii 0) (nsl) (nsl))
            have hnf := (put6_nx hxwA (Nat.le_refl w.heap.size) (ii 0) (ii 0) (ii 0) (ii 0) (nsl) (nsl))
            change bodyPost _ _ _ _ _ (put6 w10 w.heap.size (ii 0) (ii 0) (ii 0) (ii 0) (nsl) (nsl))
            change Box (put6 w10 w.heap.size (ii 0) (ii 0) (ii 0) (ii 0) (nsl) (nsl)) _ _ _ at qx
            generalize put6 w10 w.heap.size (ii 0) (ii 0) (ii 0) (ii 0) (nsl) (nsl) = Wf at *
            obtain ⟨g0, g1, g2, g3, g4, g5⟩ := qx.d6
            exact bodyPost_ret (v := .tuple #[.agg #[ii 0, ii 0, ii 0, ii 0, nsl, nsl], .bool false]) (by simp [results, results129, go_sem, g0, g1, g2, g3, g4, g5]) rfl (RetSU.no HF.out hnf)
          | true =>
          have hqn' := hqn hp
          have HY := qh (HYes.out (qa, qn) (by rw [HWd.out, hp, hqn']; rfl))
          clear hp HNo HYes hqn hqn' u0 u1
          go_wp2_with fail
          refine wp_planA (.t 0 (.t 2 (.t 3 (.t 4 (.t 5 (.t 6 (.b 1 (.c 7 (.c 8 (.t 9 (.c 10 .e)))) 7 (.c 1 (.c 8 (.t 9 (.c 10 .e))))))))))) (fun w' => CC w' gw 0 (.string qa)) (by exact ((Nx.refl w10).drew.cell (p := ⟨gw, 0, none⟩) hgw).trans y0) ?_
          simp only [psOf, List.getD_cons_zero, List.getD_cons_succ]
          refine hPr ?_
          refine HP.both ?_ ?_
          . have hz := (Nx.refl w10).drew.alloc (.cells #[.string qa, ii qn] 136)
            have bm : Box (w10.drew.alloc (.cells #[.string qa, ii qn] 136)) w10.heap.size 136 #[.string qa, ii qn] := Box.new w10.drew _ _
            have bgz := bg10.nx hz
            have rMz := rM10.nx hz
            have hSz := hS10.nx hz
            have hWz := hW10.nx hz
            obtain ⟨_, _, _, _, _, l5⟩ := (bg10.nx (Nx.refl w10).drew).d6
            have l6 : (w10.alloc (.cells #[.string qa, ii qn] 136)).cell? ⟨gS, 5, none⟩ = some v := bgz.d6.2.2.2.2.2
            refine cSt fun K hK => ?_
            go_simp
            refine hK.out _ _ (by exact ((Nx.refl w10).drew.cell (p := ⟨gw, 0, none⟩) hgw).trans y0) ?_
            clear hK K
            refine nZ ?_
            refine hPc fun K hK => ?_
            go_simp
            refine hK.out _ _ (by exact (hz.cell (p := ⟨gw, 0, none⟩) hgw).trans y0) ?_
            clear hK K
            refine nZ ?_
            change HP _ _ _ _ _ _ (w10.drew.alloc (.cells #[.string qa, ii qn] 136))
            generalize w10.drew.alloc (.cells #[.string qa, ii qn] 136) = wz at *
            have hxz := hx10.trans hz
            refine hPc fun K hK => ?_
            refine wp_addM _ _ rfl w4.heap.size w10.heap.size v ms (qa, qn) rfl rfl rMz bm (by have := Hml.out; omega) hxz.size ?_
            intro A12 c12 w12 rM12 hG12
            have bg12 := hG12.box _ _ _ dC bgz
            have hx12 := hG12.nx w4 hxz nle
            have hS12 := hSz.grew hG12 dC
            have hW12 := hWz.grew hG12 dC
            have y12 : w12.cell? ⟨gw, 0, none⟩ = some (.string qa) := ((hG12.box _ _ _ dC (hBx.nx hz)).cell 0).trans ((hBx.cell 0).symm.trans y0)
            refine hK.out _ _ (by exact y12) ?_
            clear hK K
            refine nZ ?_
            refine hPr ?_
            obtain ⟨_, _, _, _, _, d5⟩ := bg12.d6
            have f5 := bg12.frozen 5
            refine hPc fun K hK => ?_
            go_simp
            refine hK.out _ _ (by exact ((Below.cell_far gw gS w12 _ hne).trans y12)) ?_
            clear hK K
            refine nZ ?_
            refine HP.done ?_
            have bg13 := bg12.set 5 (sC A12 (ms.length + 1) c12)
            have rM13 := rM12.far (p := ⟨gS, 5, none⟩) bg12 dC (sC A12 (ms.length + 1) c12)
            have hS13 := hS12.far_ty (p := ⟨gS, 5, none⟩) bg12 dC (sC A12 (ms.length + 1) c12)
            have hW13 := hW12.far_ty (p := ⟨gS, 5, none⟩) bg12 dC (sC A12 (ms.length + 1) c12)
            have hx13 := hx12.setCell (p := ⟨gS, 5, none⟩) hgS (sC A12 (ms.length + 1) c12)
            simp only [List.setIfInBounds_toArray, List.set_cons_zero, List.set_cons_succ] at bg13
            generalize w12.setCell ⟨gS, 5, none⟩ (sC A12 (ms.length + 1) c12) = w13 at *
            clear d5 f5 l5 l6 y12
            go_wp2
            go_roundw
            case rel =>
             refine ⟨k + 1, _, ms ++ [(qa, qn)], oM, by go_num, bg13, rM13, hS13, hW13, HY, qh (fun h => absurd h HZ.out), hx13⟩
            case measure => simp [intOf]; omega
          . have hz := (Nx.refl w10).drew.alloc (.cells #[.string qa, ii qn] 136)
            have bm : Box (w10.drew.alloc (.cells #[.string qa, ii qn] 136)) w10.heap.size 136 #[.string qa, ii qn] := Box.new w10.drew _ _
            have bgz := bg10.nx hz
            have rMz := rM10.nx hz
            have hSz := hS10.nx hz
            have hWz := hW10.nx hz
            obtain ⟨_, _, _, _, _, l5⟩ := (bg10.nx (Nx.refl w10).drew).d6
            have l6 : (w10.alloc (.cells #[.string qa, ii qn] 136)).cell? ⟨gS, 5, none⟩ = some v := bgz.d6.2.2.2.2.2
            refine cSt fun K hK => ?_
            go_simp
            refine hK.out _ _ (by exact (hz.cell (p := ⟨gw, 0, none⟩) hgw).trans y0) ?_
            clear hK K
            refine nZ ?_
            refine hPc fun K hK => ?_
            go_simp
            refine hK.out _ _ (by exact (hz.cell (p := ⟨gw, 0, none⟩) hgw).trans y0) ?_
            clear hK K
            refine nZ ?_
            change HP _ _ _ _ _ _ (w10.drew.alloc (.cells #[.string qa, ii qn] 136))
            generalize w10.drew.alloc (.cells #[.string qa, ii qn] 136) = wz at *
            have hxz := hx10.trans hz
            refine hPc fun K hK => ?_
            refine wp_addM _ _ rfl w4.heap.size w10.heap.size v ms (qa, qn) rfl rfl rMz bm (by have := Hml.out; omega) hxz.size ?_
            intro A12 c12 w12 rM12 hG12
            have bg12 := hG12.box _ _ _ dC bgz
            have hx12 := hG12.nx w4 hxz nle
            have hS12 := hSz.grew hG12 dC
            have hW12 := hWz.grew hG12 dC
            have y12 : w12.cell? ⟨gw, 0, none⟩ = some (.string qa) := ((hG12.box _ _ _ dC (hBx.nx hz)).cell 0).trans ((hBx.cell 0).symm.trans y0)
            refine hK.out _ _ (by exact y12) ?_
            clear hK K
            refine nZ ?_
            refine hPr ?_
            obtain ⟨_, _, _, _, _, d5⟩ := bg12.d6
            have f5 := bg12.frozen 5
            refine hPc fun K hK => ?_
            go_simp
            refine hK.out _ _ (by exact ((Below.cell_far gw gS w12 _ hne).trans y12)) ?_
            clear hK K
            refine nZ ?_
            refine HP.done ?_
            have bg13 := bg12.set 5 (sC A12 (ms.length + 1) c12)
            have rM13 := rM12.far (p := ⟨gS, 5, none⟩) bg12 dC (sC A12 (ms.length + 1) c12)
            have hS13 := hS12.far_ty (p := ⟨gS, 5, none⟩) bg12 dC (sC A12 (ms.length + 1) c12)
            have hW13 := hW12.far_ty (p := ⟨gS, 5, none⟩) bg12 dC (sC A12 (ms.length + 1) c12)
            have hx13 := hx12.setCell (p := ⟨gS, 5, none⟩) hgS (sC A12 (ms.length + 1) c12)
            simp only [List.setIfInBounds_toArray, List.set_cons_zero, List.set_cons_succ] at bg13
            generalize w12.setCell ⟨gS, 5, none⟩ (sC A12 (ms.length + 1) c12) = w13 at *
            clear d5 f5 l5 l6 y12
            go_wp2
            go_roundw
            case rel =>
             refine ⟨k + 1, _, ms ++ [(qa, qn)], oM, by go_num, bg13, rM13, hS13, hW13, HY, qh (fun h => absurd h HZ.out), hx13⟩
            case measure => simp [intOf]; omega
        . obtain rfl : k = ws.length := oM
          have HMs : Hid (marksO lb = some ms) := qh (by rw [HO.out HZ.out, <- HM.out, List.take_length])
          obtain ⟨A2, c2, rfl, _, hM⟩ := rM.slc
          have hfit := marksO_fit HLb.out HMs.out
          have hml := hfit.1
          have HAm := qh hfit.2
          have HU := qh (HPu.out.trans (partU_yes HNs.out hl4 HMs.out))
          have b6 := b4.nx hxr
          have hxw6 := hx4.trans hxr
          obtain ⟨y0, y1, y2, y3, y4, y5⟩ := bg.d6
          clear hfit
          go_wp2_with fail
          refine (specSuperOK_c n0 n1 n2 n3 A5 A2 c5 c2 _ xs ms _ hS.row hM.row nle (by have := HLen.out; omega) hml hc5 HAm.out).mono ?_
          rintro e w7 ⟨rfl, hnx7⟩
          have b7 := b6.nx hnx7
          have bs7 := bg.nx hnx7
          have hx7 := hxw6.trans hnx7
          have hS7 := hS.nx hnx7
          have hM7 := hM.nx hnx7
          clear y0 y1 y2 y3 y4 y5
          obtain ⟨y0, y1, y2, y3, y4, y5⟩ := bs7.d6
          cases hf : superB n0 n1 n2 n3 xs ms with
          | false =>
            have HF := qh (HU.out.trans (supOf_no (by rw [Hn0.out, Hn1.out, Hn2.out, Hn3.out, Hxs.out]; exact hf)))
            clear hf
            obtain ⟨u0, u1, u2, u3, u4, u5⟩ := b7.d6
            have f0 := b7.frozen 0
            have f1 := b7.frozen 1
            have f2 := b7.frozen 2
            have f3 := b7.frozen 3
            have f4 := b7.frozen 4
            have f5 := b7.frozen 5
            go_wp2
            have qx := (put6_box b7 (ii 0) (ii 0) (ii 0) (ii 0) (nsl) (nsl))
            have hnf := (put6_nx hx7 (Nat.le_refl w.heap.size) (ii 0) (ii 0) (ii 0) (ii 0) (nsl) (nsl))
            change bodyPost _ _ _ _ _ (put6 w7 w.heap.size (ii 0) (ii 0) (ii 0) (ii 0) (nsl) (nsl))
            change Box (put6 w7 w.heap.size (ii 0) (ii 0) (ii 0) (ii 0) (nsl) (nsl)) _ _ _ at qx
            generalize put6 w7 w.heap.size (ii 0) (ii 0) (ii 0) (ii 0) (nsl) (nsl) = Wf at *
            obtain ⟨g0, g1, g2, g3, g4, g5⟩ := qx.d6
            exact bodyPost_ret (v := .tuple #[.agg #[ii 0, ii 0, ii 0, ii 0, nsl, nsl], .bool false]) (by simp [results, results129, go_sem, g0, g1, g2, g3, g4, g5]) rfl (RetSU.no HF.out hnf)
          | true =>
            have HF := qh (HU.out.trans (supOf_yes (by rw [Hn0.out, Hn1.out, Hn2.out, Hn3.out, Hxs.out]; exact hf)))
            rw [Hn0.out, Hn1.out, Hn2.out, Hn3.out, Hxs.out] at HF
            clear hf
            have hgl : w.heap.size < w4.heap.size := b4.lt
            obtain ⟨u0, u1, u2, u3, u4, u5⟩ := b7.d6
            have f0 := b7.frozen 0
            have f1 := b7.frozen 1
            have f2 := b7.frozen 2
            have f3 := b7.frozen 3
            have f4 := b7.frozen 4
            have f5 := b7.frozen 5
            go_wp2
            have qx := (put6_box b7 (ii n0) (ii n1) (ii n2) (ii n3) (sC A5 xs.length c5) (sC A2 ms.length c2))
            have hnf := (put6_nx hx7 (Nat.le_refl w.heap.size) (ii n0) (ii n1) (ii n2) (ii n3) (sC A5 xs.length c5) (sC A2 ms.length c2))
            have hsf := (hS7.pt6 hgl (ii n0) (ii n1) (ii n2) (ii n3) (sC A5 xs.length c5) (sC A2 ms.length c2))
            change Sl (put6 w7 w.heap.size (ii n0) (ii n1) (ii n2) (ii n3) (sC A5 xs.length c5) (sC A2 ms.length c2)) _ _ _ _ _ at hsf
            have hmf := (hM7.pt6 hgl (ii n0) (ii n1) (ii n2) (ii n3) (sC A5 xs.length c5) (sC A2 ms.length c2))
            change Sl (put6 w7 w.heap.size (ii n0) (ii n1) (ii n2) (ii n3) (sC A5 xs.length c5) (sC A2 ms.length c2)) _ _ _ _ _ at hmf
            change bodyPost _ _ _ _ _ (put6 w7 w.heap.size (ii n0) (ii n1) (ii n2) (ii n3) (sC A5 xs.length c5) (sC A2 ms.length c2))
            change Box (put6 w7 w.heap.size (ii n0) (ii n1) (ii n2) (ii n3) (sC A5 xs.length c5) (sC A2 ms.length c2)) _ _ _ at qx
            generalize put6 w7 w.heap.size (ii n0) (ii n1) (ii n2) (ii n3) (sC A5 xs.length c5) (sC A2 ms.length c2) = Wf at *
            obtain ⟨hmf0, hmf1, hmf2, hmf3, hmf4, hmf5⟩ := qx.d6
            exact bodyPost_ret (v := .tuple #[.agg #[ii n0, ii n1, ii n2, ii n3, sC A5 xs.length c5, sC A2 ms.length c2], .bool true]) (by simp [results, results129, go_sem, hmf0, hmf1, hmf2, hmf3, hmf4, hmf5]) rfl (RetSU.yes HF.out hc5 (hsf.low oM) (hmf.low oM) hnf)
abbrev F4 := Nat × Nat × Nat × Nat
def zF : F4 := (0, 0, 0, 0)
def vF (q : F4) : Value := .agg #[ii q.1, ii q.2.1, ii q.2.2.1, ii q.2.2.2]


end
end Go.Proofs.YtieoiailjjnnoaaGreatDoor
