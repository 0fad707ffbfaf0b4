/-
  Contracts of ReadFrame, as the model and as the program have it: both answer the same frame and code.
  Conditions: texts of at most 1048576 bytes; the package's errors are known.
-/
import Derived.Test.YtiocbppldpogpaaDoorOpn
namespace Go.Proofs.YtiocbppldpogpaaDoor
set_option linter.unusedVariables false
open Go.RowKit

abbrev F4 := Nat × Nat × Nat × Nat
def frOf : List Nat → Option F4
  | [p, b, v, t] => if frameB p b v t then some (p, b, v, t) else none
  | _ => none
/-- The frame of a text. -/
def rdF (t : ByteArray) : Option F4 := (rdN t).bind frOf
def zF : F4 := (0, 0, 0, 0)
def vF (q : F4) : Value := .agg #[.int .i64 q.1, .int .i64 q.2.1, .int .i64 q.2.2.1, .int .i64 q.2.2.2]
theorem rdF_none {t : ByteArray} (h : rdN t = none) : rdF t = none := by unfold rdF; rw [h]; rfl
theorem rdF_len {t : ByteArray} {ns : List Nat} (h : rdN t = some ns) (hl : ns.length ≠ 4) : rdF t = none := by
  unfold rdF; rw [h]
  match ns, hl with
  | [], _ => rfl
  | [_], _ => rfl
  | [_, _], _ => rfl
  | [_, _, _], _ => rfl
  | [_, _, _, _], hl => exact absurd rfl hl
  | _ :: _ :: _ :: _ :: _ :: _, _ => rfl
theorem rdF_four {t : ByteArray} {n0 n1 n2 n3 : Nat} (h : rdN t = some [n0, n1, n2, n3]) : rdF t = if frameB n0 n1 n2 n3 then some (n0, n1, n2, n3) else none := by
  unfold rdF; rw [h]; rfl
theorem four {ns : List Nat} (h : ns.length = 4) : ∃ a b c d, ns = [a, b, c, d] := by
  match ns, h with
  | [a, b, c, d], _ => exact ⟨a, b, c, d, rfl⟩
theorem Row.four {w : World} {B : Nat} {A : Option Addr} {n0 n1 n2 n3 : Nat} (h : Row w B A 4 (intAt [n0, n1, n2, n3])) :
    ∃ b off, A = some ⟨b, off, none⟩ ∧ b < B ∧ w.cell? ⟨b, off, none⟩ = some (.int .i64 n0) ∧ w.cell? ⟨b, off + 1, none⟩ = some (.int .i64 n1) ∧ w.cell? ⟨b, off + 2, none⟩ = some (.int .i64 n2) ∧ w.cell? ⟨b, off + 3, none⟩ = some (.int .i64 n3) := by
  obtain ⟨b, off, e, hb, hc⟩ := h (by omega)
  exact ⟨b, off, e, hb, hc 0 (by omega), hc 1 (by omega), hc 2 (by omega), hc 3 (by omega)⟩

def RetTF (w : World) (o : Option F4) (e : Ending) (w' : World) : Prop := e = .returned (.tuple #[vF (o.getD zF), .bool o.isSome]) ∧ Nx w w'
set_option maxRecDepth 100000 in
set_option maxHeartbeats 4000000 in
theorem l02ToFrame_c (t : ByteArray) (w : World) (ht : t.size ≤ 65536) : Calls Tryd.prog 48 #[.string t] w (RetTF w (rdF t)) := by
  go_enter Tryd.func48, Tryd.ntmps48
  go_wp2_with fail
  have b0 := Box.new w 28 #[.int .i64 0, .int .i64 0, .int .i64 0, .int .i64 0]
  have hx0 := (Nx.refl w).alloc (.cells #[.int .i64 0, .int .i64 0, .int .i64 0, .int .i64 0] 28)
  generalize w.alloc (.cells #[.int .i64 0, .int .i64 0, .int .i64 0, .int .i64 0] 28) = W at *
  refine (l02Open_c t _ (by omega)).mono ?_
  rintro e w1 ⟨x, rfl, hxs, hxb, hnx1⟩
  go_wp2_with fail
  refine (l02Numbers_c x _ (by omega)).mono ?_
  rintro e w2 ⟨A, n, c, rfl, hr, hnx2⟩
  have b2 := (b0.nx hnx1).nx hnx2
  have hx2 := (hx0.trans hnx1).trans hnx2
  clear b0 hx0 hnx1 hnx2
  cases ho : opensB t with
  | false =>
    have HF := Lib.hid (rdF_none (rdN_no ho))
    clear ho hxb hr
    obtain ⟨c0, c1, c2, c3⟩ := b2.d4
    have f0 := b2.frozen 0
    have f1 := b2.frozen 1
    have f2 := b2.frozen 2
    have f3 := b2.frozen 3
    go_wp2
    have q := put4_box b2 (.int .i64 0) (.int .i64 0) (.int .i64 0) (.int .i64 0)
    have hnf := put4_nx hx2 (Nat.le_refl w.heap.size) (.int .i64 0) (.int .i64 0) (.int .i64 0) (.int .i64 0)
    change bodyPost _ _ _ _ _ (put4 w2 w.heap.size (.int .i64 0) (.int .i64 0) (.int .i64 0) (.int .i64 0))
    generalize put4 w2 w.heap.size (.int .i64 0) (.int .i64 0) (.int .i64 0) (.int .i64 0) = Wf at *
    obtain ⟨g0, g1, g2, g3⟩ := q.d4
    exact bodyPost_ret (v := .tuple #[.agg #[.int .i64 0, .int .i64 0, .int .i64 0, .int .i64 0], .bool false]) (by simp [results, Tryd.results48, go_sem, g0, g1, g2, g3]) rfl ⟨by rw [HF.out]; rfl, hnf⟩
  | true =>
  obtain rfl := hxb ho
  have HR := Lib.hid (rdN_yes ho)
  clear ho hxb
  cases hn : numsO (bodyOf t).data.toList with
  | none =>
    have HF := Lib.hid (rdF_none (HR.out.trans hn))
    clear hr hn
    obtain ⟨c0, c1, c2, c3⟩ := b2.d4
    have f0 := b2.frozen 0
    have f1 := b2.frozen 1
    have f2 := b2.frozen 2
    have f3 := b2.frozen 3
    simp only [Option.isSome_none]
    go_wp2
    have q := put4_box b2 (.int .i64 0) (.int .i64 0) (.int .i64 0) (.int .i64 0)
    have hnf := put4_nx hx2 (Nat.le_refl w.heap.size) (.int .i64 0) (.int .i64 0) (.int .i64 0) (.int .i64 0)
    change bodyPost _ _ _ _ _ (put4 w2 w.heap.size (.int .i64 0) (.int .i64 0) (.int .i64 0) (.int .i64 0))
    generalize put4 w2 w.heap.size (.int .i64 0) (.int .i64 0) (.int .i64 0) (.int .i64 0) = Wf at *
    obtain ⟨g0, g1, g2, g3⟩ := q.d4
    exact bodyPost_ret (v := .tuple #[.agg #[.int .i64 0, .int .i64 0, .int .i64 0, .int .i64 0], .bool false]) (by simp [results, Tryd.results48, go_sem, g0, g1, g2, g3]) rfl ⟨by rw [HF.out]; rfl, hnf⟩
  | some ns =>
    obtain ⟨rfl, hrow⟩ := hr ns hn
    have HN := Lib.hid (HR.out.trans hn)
    clear hr hn
    simp only [Option.isSome_some]
    by_cases hl : ns.length = 4
    case neg =>
      have hl' : ((ns.length : Int) != 4) = true := by rw [bne_iff_ne]; omega
      have HF := Lib.hid (rdF_len HN.out hl)
      obtain ⟨c0, c1, c2, c3⟩ := b2.d4
      have f0 := b2.frozen 0
      have f1 := b2.frozen 1
      have f2 := b2.frozen 2
      have f3 := b2.frozen 3
      go_wp2
      have q := put4_box b2 (.int .i64 0) (.int .i64 0) (.int .i64 0) (.int .i64 0)
      have hnf := put4_nx hx2 (Nat.le_refl w.heap.size) (.int .i64 0) (.int .i64 0) (.int .i64 0) (.int .i64 0)
      change bodyPost _ _ _ _ _ (put4 w2 w.heap.size (.int .i64 0) (.int .i64 0) (.int .i64 0) (.int .i64 0))
      generalize put4 w2 w.heap.size (.int .i64 0) (.int .i64 0) (.int .i64 0) (.int .i64 0) = Wf at *
      obtain ⟨g0, g1, g2, g3⟩ := q.d4
      exact bodyPost_ret (v := .tuple #[.agg #[.int .i64 0, .int .i64 0, .int .i64 0, .int .i64 0], .bool false]) (by simp [results, Tryd.results48, go_sem, g0, g1, g2, g3]) rfl ⟨by rw [HF.out]; rfl, hnf⟩
    case pos =>
      obtain ⟨n0, n1, n2, n3, rfl⟩ := four hl
      clear hl
      simp only [List.length_cons, List.length_nil] at hrow ⊢
      obtain ⟨b, off, rfl, hb, k0, k1, k2, k3⟩ := Row.four hrow
      have HF := Lib.hid (rdF_four HN.out)
      go_wp2_with fail
      refine wp_region_lex [false, false, false, false, false, false, false, false, false, false, false, false, false, true, true] (fun w' => w'.cell? ⟨b, off, none⟩ = some (.int .i64 n0) ∧ w'.cell? ⟨b, off + 1, none⟩ = some (.int .i64 n1) ∧ w'.cell? ⟨b, off + 2, none⟩ = some (.int .i64 n2) ∧ w'.cell? ⟨b, off + 3, none⟩ = some (.int .i64 n3)) (by kernel_rfl) (by kernel_rfl) rfl (by kernel_rfl) (fun _ _ d _ _ h => by cases d <;> exact h) (by exact ⟨k0, k1, k2, k3⟩) ?_
      repeat (first | (refine HL.take (v := ?_) (by rfl) ?_ ?_; rotate_left; (· (intro w hSw; (try dsimp only at hSw); go_simp; try with_reducible rfl)); (try simp only [Act.put, List.setIfInBounds_toArray, List.set_cons_zero, List.set_cons_succ])) | (refine HL.skip (by rfl) ?_; (try simp only [Act.put, List.setIfInBounds_toArray, List.set_cons_zero, List.set_cons_succ])))
      refine HL.call (by rfl) (fun K hK => ?_)
      go_simp
      refine hK.out _ _ (by exact ⟨(((Nx.refl w2).alloc _).cell (p := ⟨b, off, none⟩) hb).trans k0, (((Nx.refl w2).alloc _).cell (p := ⟨b, off + 1, none⟩) hb).trans k1, (((Nx.refl w2).alloc _).cell (p := ⟨b, off + 2, none⟩) hb).trans k2, (((Nx.refl w2).alloc _).cell (p := ⟨b, off + 3, none⟩) hb).trans k3⟩) ?_
      clear hK K
      try simp only [Act.put, List.setIfInBounds_toArray, List.set_cons_zero, List.set_cons_succ]
      refine HL.call (by rfl) (fun K hK => ?_)
      go_simp
      refine hK.out _ _ (by exact ⟨(((Nx.refl w2).alloc _).cell (p := ⟨b, off, none⟩) hb).trans k0, (((Nx.refl w2).alloc _).cell (p := ⟨b, off + 1, none⟩) hb).trans k1, (((Nx.refl w2).alloc _).cell (p := ⟨b, off + 2, none⟩) hb).trans k2, (((Nx.refl w2).alloc _).cell (p := ⟨b, off + 3, none⟩) hb).trans k3⟩) ?_
      clear hK K
      try simp only [Act.put, List.setIfInBounds_toArray, List.set_cons_zero, List.set_cons_succ]
      refine HL.done ?_
      clear k0 k1 k2 k3
      have b3 := b2.alloc (.cells #[.int .i64 n0, .int .i64 n1, .int .i64 n2, .int .i64 n3] 28)
      have bx := Box.new w2 28 #[.int .i64 n0, .int .i64 n1, .int .i64 n2, .int .i64 n3]
      have hx3 := hx2.alloc (.cells #[.int .i64 n0, .int .i64 n1, .int .i64 n2, .int .i64 n3] 28)
      change Exit.then _ _ _ _ (World.drew (w2.alloc (.cells #[.int .i64 n0, .int .i64 n1, .int .i64 n2, .int .i64 n3] 28)))
      replace hx3 := hx3.drew
      change Box (World.drew (w2.alloc (.cells #[.int .i64 n0, .int .i64 n1, .int .i64 n2, .int .i64 n3] 28))) _ _ _ at b3 bx
      generalize World.drew (w2.alloc (.cells #[.int .i64 n0, .int .i64 n1, .int .i64 n2, .int .i64 n3] 28)) = w3 at *
      obtain ⟨x0, x1, x2, x3⟩ := bx.d4
      go_wp2_with fail
      refine (specFrameOK_c n0 n1 n2 n3 _).mono ?_
      rintro e w4 ⟨rfl, hnx4⟩
      have b4 := b3.nx hnx4
      have bx4 := bx.nx hnx4
      have hx4 := hx3.trans hnx4
      clear x0 x1 x2 x3
      obtain ⟨x0, x1, x2, x3⟩ := bx4.d4
      cases hf : frameB n0 n1 n2 n3 with
      | false =>
        rw [hf] at HF
        clear hf
        obtain ⟨c0, c1, c2, c3⟩ := b4.d4
        have f0 := b4.frozen 0
        have f1 := b4.frozen 1
        have f2 := b4.frozen 2
        have f3 := b4.frozen 3
        go_wp2
        have q := put4_box b4 (.int .i64 0) (.int .i64 0) (.int .i64 0) (.int .i64 0)
        have hnf := put4_nx hx4 (Nat.le_refl w.heap.size) (.int .i64 0) (.int .i64 0) (.int .i64 0) (.int .i64 0)
        change bodyPost _ _ _ _ _ (put4 w4 w.heap.size (.int .i64 0) (.int .i64 0) (.int .i64 0) (.int .i64 0))
        generalize put4 w4 w.heap.size (.int .i64 0) (.int .i64 0) (.int .i64 0) (.int .i64 0) = Wf at *
        obtain ⟨g0, g1, g2, g3⟩ := q.d4
        exact bodyPost_ret (v := .tuple #[.agg #[.int .i64 0, .int .i64 0, .int .i64 0, .int .i64 0], .bool false]) (by simp [results, Tryd.results48, go_sem, g0, g1, g2, g3]) rfl ⟨by rw [HF.out]; rfl, hnf⟩
      | true =>
        rw [hf] at HF
        clear hf
        obtain ⟨c0, c1, c2, c3⟩ := b4.d4
        have f0 := b4.frozen 0
        have f1 := b4.frozen 1
        have f2 := b4.frozen 2
        have f3 := b4.frozen 3
        go_wp2
        have q := put4_box b4 (.int .i64 n0) (.int .i64 n1) (.int .i64 n2) (.int .i64 n3)
        have hnf := put4_nx hx4 (Nat.le_refl w.heap.size) (.int .i64 n0) (.int .i64 n1) (.int .i64 n2) (.int .i64 n3)
        change bodyPost _ _ _ _ _ (put4 w4 w.heap.size (.int .i64 n0) (.int .i64 n1) (.int .i64 n2) (.int .i64 n3))
        generalize put4 w4 w.heap.size (.int .i64 n0) (.int .i64 n1) (.int .i64 n2) (.int .i64 n3) = Wf at *
        obtain ⟨g0, g1, g2, g3⟩ := q.d4
        exact bodyPost_ret (v := .tuple #[.agg #[.int .i64 n0, .int .i64 n1, .int .i64 n2, .int .i64 n3], .bool true]) (by simp [results, Tryd.results48, go_sem, g0, g1, g2, g3]) rfl ⟨by rw [HF.out]; rfl, hnf⟩
end Go.Proofs.YtiocbppldpogpaaDoor
