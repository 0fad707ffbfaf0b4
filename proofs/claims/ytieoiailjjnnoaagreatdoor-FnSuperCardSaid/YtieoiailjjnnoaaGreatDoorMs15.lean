/-
  Texts of the proof, in their order.
  Conditions: those of each.
-/
import Derived.Test.YtieoiailjjnnoaaGreatDoorMs14
import Derived.Lib.ConvBytes
import Derived.Laws.BytesArg
import Derived.Outline
import Derived.Deep.QuietTactic
import Derived.BigQuiet
import Derived.Deep.Slices
import Derived.ChangeSame
import Derived.Deep.RegionWith
import Derived.Laws.StructEq
import Derived.Test.YtieoiailjjnnoaaGreatDoorRows
import Derived.LaidHandle
import Derived.Lay
import Derived.HandedShaped
import Derived.Shelf.Vars
import Derived.ProofKit
import Derived.LaidMore
import Derived.OpenShut
import Derived.OpenVars
import Derived.Stop.Joined
import Derived.Stop.LaidTwo
import Derived.Lib.LaidTab
import Derived.LaidLaws
import Derived.ShutString
import Derived.ChangeOld
import Derived.Below
namespace Go.Proofs.YtieoiailjjnnoaaGreatDoor
set_option linter.unusedVariables false
set_option maxRecDepth 100000
set_option maxHeartbeats 16000000
open Go.RowKit
def SuS (w wr : World) (g : Nat) (A : Option Addr) (n c K X : Nat) (cs : Array Value) (vT vM : Value) (xs : List Int) (ms : List Mrk) : Prop :=
 SrcR wr g A n c K ∧ Rg g (g + 1) w wr ∧ Box wr w.heap.size 26 #[ii 0, ii 0, ii 0, ii 0, nsl, nsl] ∧ Box wr X 26 cs ∧ RowI wr (w.heap.size + 1) vT xs ∧ RowM wr (w.heap.size + 1) vM ms
section
variable {w wr w' : World} {g : Nat} {A : Option Addr} {n c K K' X : Nat} {cs : Array Value} {vT vM vT' vM' : Value} {xs xs' : List Int} {ms ms' : List Mrk}
theorem SuS.nx (h : SuS w wr g A n c K X cs vT vM xs ms) (hb : Nx wr w') : SuS w w' g A n c K X cs vT vM xs ms :=
 ⟨h.1.nx hb, h.2.1.trans (Rg.of_nx hb), h.2.2.1.nx hb, h.2.2.2.1.nx hb, h.2.2.2.2.1.nx hb, h.2.2.2.2.2.nx hb⟩
theorem SuS.more (h : SuS w wr g A n c K X cs vT vM xs ms) (hk : K ≤ K') : SuS w wr g A n c K' X cs vT vM xs ms := ⟨h.1.more hk, h.2⟩
theorem SuS.rg (hg : g < w.heap.size) (hX : w.heap.size < X) (h : SuS w wr g A n c K X cs vT vM xs ms) (q : Rg g (g + 1) wr w') (s : SrcR w' g A n c K') : SuS w w' g A n c K' X cs vT vM xs ms :=
 ⟨s, h.2.1.trans q, h.2.2.1.rg q (.inr (by omega)), h.2.2.2.1.rg q (.inr (by omega)), h.2.2.2.2.1.rg q (by omega), h.2.2.2.2.2.rg q (by omega)⟩
theorem SuS.set (hg : g < w.heap.size) (hX : w.heap.size < X) (h : SuS w wr g A n c K X cs vT vM xs ms) (i : Nat) (u : Value) : SuS w (wr.setCell ⟨X, i, none⟩ u) g A n c K X (cs.setIfInBounds i u) vT vM xs ms :=
 ⟨h.1.farU (by simp; omega) u, h.2.1.setNew8 (by simp; omega) u, h.2.2.1.far (by simp; omega) u, h.2.2.2.1.set i u, h.2.2.2.2.1.far (p := ⟨X, i, none⟩) h.2.2.2.1 (by decide) u, h.2.2.2.2.2.far (p := ⟨X, i, none⟩) h.2.2.2.1 (by decide) u⟩
theorem SuS.growI (h : SuS w wr g A n c K X cs vT vM xs ms) (hr : RowI w' (w.heap.size + 1) vT' xs') (G : GrewT 3 (w.heap.size + 1) wr w') : SuS w w' g A n c K X cs vT' vM xs' ms :=
 ⟨h.1.grew G (by decide), G.rg _ _ _ h.2.1 (by omega), G.box _ _ _ (by decide) h.2.2.1, G.box _ _ _ (by decide) h.2.2.2.1, hr, h.2.2.2.2.2.grew G (by decide)⟩
theorem SuS.growM (h : SuS w wr g A n c K X cs vT vM xs ms) (hr : RowM w' (w.heap.size + 1) vM' ms') (G : GrewT 136 (w.heap.size + 1) wr w') : SuS w w' g A n c K X cs vT vM' xs ms' :=
 ⟨h.1.grew G (by decide), G.rg _ _ _ h.2.1 (by omega), G.box _ _ _ (by decide) h.2.2.1, G.box _ _ _ (by decide) h.2.2.2.1, h.2.2.2.2.1.grew G (by decide), hr⟩
theorem SuS.size (h : SuS w wr g A n c K X cs vT vM xs ms) : w.heap.size ≤ wr.heap.size := h.2.1.size
theorem SuS.size1 (h : SuS w wr g A n c K X cs vT vM xs ms) : w.heap.size + 1 ≤ wr.heap.size := h.2.2.1.lt
end
theorem tb_snocU {xs : List Int} {k : Int} (h : TbTo xs xs.length) (h1 : inB 10 63 k = true) (h2 : hasB xs xs.length k = false) : TbTo (xs ++ [k]) (xs.length + 1) := fun j hj => by
 have hg : ∀ i, i < xs.length → (xs ++ [k]).getD i 0 = xs.getD i 0 := fun i hi => by
  rw [gdE, gdE, List.getElem?_append_left hi]
 have ht : ∀ i, i ≤ xs.length → (xs ++ [k]).take i = xs.take i := fun i hi => List.take_append_of_le_length hi
 rcases Nat.lt_or_ge j xs.length with hlt | hge
 · have := h j hlt
   unfold tbOk hasB at this ⊢
   rw [hg j hlt, ht j (by omega)]
   exact this
 · obtain rfl : j = xs.length := by omega
   have hk : (xs ++ [k]).getD xs.length 0 = k := by rw [gdE, List.getElem?_append_right nle]; simp
   unfold tbOk hasB
   rw [hk, ht _ nle, h1]
   unfold hasB at h2
   rw [h2]; rfl
def nmK (k : Nat) : BA := if k = 0 then ⟨#[97]⟩ else if k = 1 then ⟨#[98, 98]⟩ else ⟨#[110, 111, 111, 110]⟩
def MsUp (ms : List Mrk) (k : Nat) : Prop := ms.length ≤ k ∧ MkTo ms ms.length ∧ ∀ j, j < ms.length → ∃ i, i < k ∧ (ms.getD j mrZ).1 = nmK i
theorem nmK_less {i k : Nat} (h : i < k) (hk : k < 3) : Op.bytesLess (nmK i).toList (nmK k).toList = true := by
 have : (i = 0 ∧ k = 1) ∨ (i = 0 ∧ k = 2) ∨ (i = 1 ∧ k = 2) := by omega
 rcases this with ⟨rfl, rfl⟩ | ⟨rfl, rfl⟩ | ⟨rfl, rfl⟩ <;> decide +kernel
theorem nmK_ok (k : Nat) : nmB (nmK k) = true := by
 unfold nmK
 split
 · decide +kernel
 · split <;> decide +kernel
theorem MsUp.zero : MsUp [] 0 := ⟨Nat.le_refl _, MkTo.zero _, fun j hj => absurd hj (by simp)⟩
theorem MsUp.skip {ms : List Mrk} {k : Nat} (h : MsUp ms k) : MsUp ms (k + 1) := ⟨by have := h.1; omega, h.2.1, fun j hj => by obtain ⟨i, hi, e⟩ := h.2.2 j hj; exact ⟨i, by omega, e⟩⟩
theorem MsUp.add {ms : List Mrk} {k v : Nat} (h : MsUp ms k) (hk : k < 3) (hv : v < 20) : MsUp (ms ++ [(nmK k, (v : Int))]) (k + 1) := by
 have hl : (ms ++ [(nmK k, (v : Int))]).length = ms.length + 1 := by simp
 have hg : ∀ i, i < ms.length → (ms ++ [(nmK k, (v : Int))]).getD i mrZ = ms.getD i mrZ := fun i hi => by
  rw [gdE, gdE, List.getElem?_append_left hi]
 have he : (ms ++ [(nmK k, (v : Int))]).getD ms.length mrZ = (nmK k, (v : Int)) := by rw [gdE, List.getElem?_append_right nle]; simp
 refine ⟨by rw [hl]; have := h.1; omega, fun j hj => ?_, fun j hj => ?_⟩
 · rw [hl] at hj
   rcases Nat.lt_or_ge j ms.length with hlt | hge
   · have := h.2.1 j hlt
     unfold okMk at this ⊢
     rw [hg j hlt, hg (j - 1) (by omega)]
     exact this
   · obtain rfl : j = ms.length := by omega
     unfold okMk mkB
     rw [he, nmK_ok, inB_mk (by omega) (by omega)]
     by_cases h0 : ms.length = 0
     · simp [h0]
     · obtain ⟨i, hi, e⟩ := h.2.2 (ms.length - 1) (by omega)
       rw [hg (ms.length - 1) (by omega), e, nmK_less hi hk]; simp
 · rw [hl] at hj
   rcases Nat.lt_or_ge j ms.length with hlt | hge
   · rw [hg j hlt]
     obtain ⟨i, hi, e⟩ := h.2.2 j hlt
     exact ⟨i, by omega, e⟩
   · obtain rfl : j = ms.length := by omega
     exact ⟨k, by omega, by rw [he]⟩
theorem nmK_size (k : Nat) : (nmK k).size ≤ 4 := by
 unfold nmK
 split
 · decide
 · split <;> decide
theorem MsUp.all {ms : List Mrk} {k : Nat} (h : MsUp ms k) : AllM ms := fun j => by
 by_cases hj : j < ms.length
 · obtain ⟨i, _, e⟩ := h.2.2 j hj
   rw [e]
   have := nmK_size i
   omega
 · rw [gdE, List.getElem?_eq_none (by omega)]; simp [mrZ]
theorem chanceU_c (m g : Nat) (A : Option Addr) (n c k B : Nat) (ys : List Nat) (w : World) (hm : 2 ≤ m) (hm2 : m ≤ 256) (hb : SrcR w g A n c k) (h : U8s w B A n ys) (hB : B ≤ g) (hn : n ≤ 1048576) (hk : k + 3 ≤ 1048576) :
 Calls Tryz.prog 98 #[.pointer (some ⟨g, 0, none⟩), ii m] w fun e w' => ∃ b : Bool, e = .returned (.bool b) ∧ SrcR w' g A n c (k + 3) ∧ Rg g (g + 1) w w' := by
 obtain ⟨a, sd, h1, h2, h3⟩ := hb
 obtain ⟨⟨b, a', sd'⟩, HPx⟩ : ∃ x, byteP ys a sd = x := ⟨_, rfl⟩
 obtain ⟨k1, k2, k3⟩ := byteP_lt h.2.1 h2 HPx
 exact (chance_c m g A n c a sd B ys b a' sd' w hm hm2 h3 h hB hn (by omega) h2 HPx).mono fun e w' ⟨he, hs, hr⟩ => ⟨_, he, ⟨a', sd', by omega, k3, hs⟩, hr⟩
theorem nm_cell {k : Nat} (h : k < 3) : (#[.string ⟨#[97]⟩, .string ⟨#[98, 98]⟩, .string ⟨#[110, 111, 111, 110]⟩] : Array Value)[k]? = some (.string (nmK k)) := by
 match k, h with
 | 0, _ => rfl
 | 1, _ => rfl
 | 2, _ => rfl
theorem mergeU {G : Nat → Nat → Nat → World → Prop} {F : Nat → Nat → Nat → World → Prop} {R : Prop} (main : (∀ gs gm v W, F gs gm v W → G gs gm v W) → R) (key : ∀ gs gm v W, F gs gm v W → G gs gm v W) : R := main key
theorem super50_c (g : Nat) (A : Option Addr) (n c B k0 : Nat) (ys : List Nat) (w : World) (hb : SrcR w g A n c k0) (h : U8s w B A n ys) (hB : B ≤ g) (hn : n ≤ 1048576) (hk0 : k0 ≤ 1000000) :
 Calls Tryz.prog 43 #[.pointer (some ⟨g, 0, none⟩)] w fun e w' => ∃ (q0 q1 q2 q3 : Int) (A' : Option Addr) (c' : Nat) (xs : List Int) (A2 : Option Addr) (c2 : Nat) (ms : List Mrk),
  e = .returned (.agg #[ii q0, ii q1, ii q2, ii q3, .slice A' xs.length c', .slice A2 ms.length c2]) ∧ superB q0 q1 q2 q3 xs ms = true ∧ q0 ≤ 50 ∧ xs.length ≤ 5 ∧ xs.length ≤ c' ∧ AllM ms ∧ SlI w' w.heap.size A' xs ∧ SlM w' w.heap.size A2 ms ∧ SrcR w' g A n c (k0 + 100) ∧ Rg g (g + 1) w w' := by
 have hz0 := hb.lt
 have u0 := h
 have bR := Box.new w 26 #[ii 0, ii 0, ii 0, ii 0, nsl, nsl]
 have hx0 := (Nx.refl w).alloc (.cells #[ii 0, ii 0, ii 0, ii 0, nsl, nsl] 26)
 have s0 := hb.nx hx0
 have r0 : Rg g (g + 1) w (w.alloc (.cells #[ii 0, ii 0, ii 0, ii 0, nsl, nsl] 26)) := Rg.of_nx hx0
 clear hb h hx0
 go_enter Tryz.func43, Tryz.ntmps43
 go_wp2_with fail
 generalize w.alloc (.cells #[ii 0, ii 0, ii 0, ii 0, nsl, nsl] 26) = W at *
 refine (nextR_c 50 g A n c k0 B ys _ (by omega) (by omega) s0 (u0.rg r0 hB (Nat.le_of_lt hz0)) hB hn (by omega)).mono ?_
 rintro e w1 ⟨g0, rfl, hg0, s1, r1⟩
 have b1 := bR.rg r1 (.inr (by omega))
 have t1 := r0.trans r1
 clear bR r0 r1 s0
 go_wp2_with fail
 refine (nextR_c 5 g A n c (k0 + 3) B ys _ (by omega) (by omega) s1 (u0.rg t1 hB (Nat.le_of_lt hz0)) hB hn (by omega)).mono ?_
 rintro e w2 ⟨b0, rfl, hb0, s2, r2⟩
 have b2 := b1.rg r2 (.inr (by omega))
 have t2 := t1.trans r2
 clear b1 t1 r2 s1
 have hw2 := b2.lt
 obtain ⟨G, HG⟩ : ∃ q : Int, Hid ((1 : Int) + (g0 : Int) = q) := ⟨_, rfl⟩
 have h3 : SuS w (((w2.alloc (.cells #[] 3)).alloc (.cells #[] 136)).alloc (.cells #[ii (1 + (g0 : Int)), ii b0, ii 0, ii 0, .slice (some ⟨w2.heap.size, 0, none⟩) 0 0, .slice (some ⟨w2.heap.size + 1, 0, none⟩) 0 0] 26)) g A n c (k0 + 3 + 3) (w2.heap.size + 1 + 1)
  #[ii (1 + (g0 : Int)), ii b0, ii 0, ii 0, .slice (some ⟨w2.heap.size, 0, none⟩) 0 0, .slice (some ⟨w2.heap.size + 1, 0, none⟩) 0 0] (.slice (some ⟨w2.heap.size, 0, none⟩) 0 0) (.slice (some ⟨w2.heap.size + 1, 0, none⟩) 0 0) [] [] := by
  have hI := RowI.new w2 (B := w.heap.size + 1) (by omega)
  have hx1 := (Nx.refl w2).alloc (.cells #[] 3)
  have hM := RowM.new (w2.alloc (.cells #[] 3)) (B := w.heap.size + 1) (by simp; omega)
  have hx2 := (Nx.refl (w2.alloc (.cells #[] 3))).alloc (.cells #[] 136)
  have hx3 := (Nx.refl ((w2.alloc (.cells #[] 3)).alloc (.cells #[] 136))).alloc (.cells #[ii (1 + (g0 : Int)), ii b0, ii 0, ii 0, .slice (some ⟨w2.heap.size, 0, none⟩) 0 0, .slice (some ⟨w2.heap.size + 1, 0, none⟩) 0 0] 26)
  have bX := Box.new ((w2.alloc (.cells #[] 3)).alloc (.cells #[] 136)) 26 #[ii (1 + (g0 : Int)), ii b0, ii 0, ii 0, .slice (some ⟨w2.heap.size, 0, none⟩) 0 0, .slice (some ⟨w2.heap.size + 1, 0, none⟩) 0 0]
  simp only [World.size_alloc] at bX hM
  have hx := (hx1.trans hx2).trans hx3
  exact ⟨s2.nx hx, t2.trans (Rg.of_nx hx), b2.nx hx, bX, (hI.nx hx2).nx hx3, hM.nx hx3⟩
 have hX : w.heap.size < w2.heap.size + 1 + 1 := by omega
 go_wp2_with fail
 clear s2 t2 b2
 generalize ((w2.alloc (.cells #[] 3)).alloc (.cells #[] 136)).alloc (.cells #[ii (1 + (g0 : Int)), ii b0, ii 0, ii 0, .slice (some ⟨w2.heap.size, 0, none⟩) 0 0, .slice (some ⟨w2.heap.size + 1, 0, none⟩) 0 0] 26) = w3 at *
 generalize w2.heap.size + 1 + 1 = X at *
 obtain ⟨vT, HvT⟩ : ∃ x, Hid (Value.slice (some ⟨w2.heap.size, 0, none⟩) 0 0 = x) := ⟨_, rfl⟩
 obtain ⟨vM, HvM⟩ : ∃ x, Hid (Value.slice (some ⟨w2.heap.size + 1, 0, none⟩) 0 0 = x) := ⟨_, rfl⟩
 rw [HvT.out, HvM.out, HG.out] at h3
 have h3d := h3.nx (Nx.refl w3).drew
 go_wp2_with fail
 refine wp_planA (.t 0 (.t 1 (.t 2 (.c 3 (.t 4 (.t 5 (.c 6 .e))))))) (fun w' => w'.cell? ⟨X, 1, none⟩ = some (ii (b0 : Int))) (by exact h3d.2.2.2.1.d6.2.1) ?_
 simp only [psOf, List.getD_cons_zero, List.getD_cons_succ]
 repeat ((first | refine HP.tk ?_ | refine HP.sk ?_); try simp only [Act.put, qqA, qqB, qqC])
 refine hPc fun K hK => ?_
 go_simp
 refine (nextR_c 5 g A n c (k0 + 6) B ys _ (by omega) (by omega) h3d.1 (u0.rg h3d.2.1 hB (Nat.le_of_lt hz0)) hB hn (by omega)).mono ?_; rintro e w4 ⟨p0, rfl, hp0, sp0, qp0⟩; have h3e := h3d.rg hz0 hX qp0 sp0; obtain ⟨_, x1, x2, x3, _, _⟩ := h3e.2.2.2.1.d6; have f2 := h3e.2.2.2.1.frozen 2; have hwp0 : IntKind.i64.wrap ((b0 : Int) + (p0 : Int)) = (b0 : Int) + (p0 : Int) := IntWalk.i64_in _ (by omega); have h3s := h3e.set hz0 hX 2 (ii ((b0 : Int) + (p0 : Int)))
 go_wp2_with fail
 refine hK.out _ _ (by exact x1) ?_
 clear hK K
 try simp only [Act.put, qqA, qqB, qqC]
 repeat ((first | refine HP.tk ?_ | refine HP.sk ?_); try simp only [Act.put, qqA, qqB, qqC])
 refine hPc fun K hK => ?_
 go_simp
 refine hK.out _ _ (by exact h3s.2.2.2.1.d6.2.1) ?_
 clear hK K
 try simp only [Act.put, qqA, qqB, qqC]
 refine HP.done ?_
 simp only [List.setIfInBounds_toArray, List.set_cons_zero, List.set_cons_succ] at h3s
 have h4 := h3s
 clear h3 h3d h3e h3s qp0 sp0 x1 x2 x3 f2 hwp0
 generalize w4.setCell ⟨X, 2, none⟩ (ii ((b0 : Int) + (p0 : Int))) = w5 at *
 have h4d := h4.nx (Nx.refl w5).drew
 go_wp2_with fail
 refine wp_planA (.t 0 (.t 1 (.t 2 (.c 3 (.t 4 (.t 5 (.c 6 .e))))))) (fun w' => w'.cell? ⟨X, 1, none⟩ = some (ii (b0 : Int))) (by exact h4d.2.2.2.1.d6.2.1) ?_
 simp only [psOf, List.getD_cons_zero, List.getD_cons_succ]
 repeat ((first | refine HP.tk ?_ | refine HP.sk ?_); try simp only [Act.put, qqA, qqB, qqC])
 refine hPc fun K hK => ?_
 go_simp
 refine (nextR_c 5 g A n c (k0 + 9) B ys _ (by omega) (by omega) h4d.1 (u0.rg h4d.2.1 hB (Nat.le_of_lt hz0)) hB hn (by omega)).mono ?_; rintro e w6 ⟨t0, rfl, ht0, st0, qt0⟩; have h4e := h4d.rg hz0 hX qt0 st0; obtain ⟨_, x1, x2, x3, _, _⟩ := h4e.2.2.2.1.d6; have f2 := h4e.2.2.2.1.frozen 3; have hwt0 : IntKind.i64.wrap ((b0 : Int) + (t0 : Int)) = (b0 : Int) + (t0 : Int) := IntWalk.i64_in _ (by omega); have h4s := h4e.set hz0 hX 3 (ii ((b0 : Int) + (t0 : Int)))
 go_wp2_with fail
 refine hK.out _ _ (by exact x1) ?_
 clear hK K
 try simp only [Act.put, qqA, qqB, qqC]
 repeat ((first | refine HP.tk ?_ | refine HP.sk ?_); try simp only [Act.put, qqA, qqB, qqC])
 refine hPc fun K hK => ?_
 go_simp
 refine hK.out _ _ (by exact h4s.2.2.2.1.d6.2.1) ?_
 clear hK K
 try simp only [Act.put, qqA, qqB, qqC]
 refine HP.done ?_
 simp only [List.setIfInBounds_toArray, List.set_cons_zero, List.set_cons_succ] at h4s
 have h5 := h4s
 clear h4 h4d h4e h4s qt0 st0 x1 x2 x3 f2 hwt0
 generalize w6.setCell ⟨X, 3, none⟩ (ii ((b0 : Int) + (t0 : Int))) = w7 at *
 clear HvT HvM
 obtain ⟨P, HPP⟩ : ∃ q : Int, Hid ((b0 : Int) + (p0 : Int) = q) := ⟨_, rfl⟩
 obtain ⟨Q, HQ⟩ : ∃ q : Int, Hid ((b0 : Int) + (t0 : Int) = q) := ⟨_, rfl⟩
 rw [HPP.out, HQ.out] at h5
 go_wp2_with fail
 refine (nextR_c 6 g A n c (k0 + 12) B ys _ (by omega) (by omega) h5.1 (u0.rg h5.2.1 hB (Nat.le_of_lt hz0)) hB hn (by omega)).mono ?_
 rintro e w8 ⟨m0, rfl, hm0, s8, r8⟩
 have h8 := h5.rg hz0 hX r8 s8
 clear h5 s8 r8
 go_wp2_with fail
 go_loopw [4] (fun i wr => ∃ (j : Nat) (xs : List Int) (vT : Value), j ≤ 5 ∧ i = ii j ∧ xs.length + j ≤ 5 ∧ Hid (TbTo xs xs.length) ∧ SuS w wr g A n c (k0 + (60 - 3 * j)) X #[ii G, ii b0, ii P, ii Q, vT, vM] vT vM xs []) (fun i _ => (intOf i).toNat)
 case atStart => exact ⟨m0, [], vT, by omega, rfl, by simp; omega, qh (TbTo.zero _), h8.more (by omega)⟩
 case round =>
  obtain ⟨j, xs, vU, hj, rfl, hl, HT, hs⟩ := hrel
  clear h8
  obtain ⟨_, _, _, _, x4, _⟩ := hs.2.2.2.1.d6
  by_cases hlt : 0 < j
  · have hdj : decide (0 < (j : Int)) = true := by simp; omega
    have hdj2 : decide (0 < j) = true := by simp; omega
    go_wp2_with fail
    refine (nextR_c 54 g A n c (k0 + (60 - 3 * j)) B ys _ (by omega) (by omega) hs.1 (u0.rg hs.2.1 hB (Nat.le_of_lt hz0)) hB hn (by omega)).mono ?_
    rintro e w9 ⟨d, rfl, hd, s9, r9⟩
    have h9 := (hs.rg hz0 hX r9 s9).more (K' := k0 + (60 - 3 * (j - 1))) (by omega)
    clear hs s9 r9 x4
    obtain ⟨_, _, _, _, x4, _⟩ := h9.2.2.2.1.d6
    have f4 := h9.2.2.2.1.frozen 4
    obtain ⟨q, Hq⟩ : ∃ q : Int, Hid ((10 : Int) + (d : Int) = q) := ⟨_, rfl⟩
    have HI := qh (inB_mk (lo := 10) (hi := 63) (a := q) (by have := Hq.out; omega) (by have := Hq.out; omega))
    obtain ⟨A7, c7, rfl, hc7, hS7⟩ := h9.2.2.2.2.1.slc
    cases hh : hasB xs xs.length q with
    | true =>
      have HX := qh hh
      clear hh
      go_wp2_with (go_at_call 97; rw [Hq.out]; refine (l04In_c A7 xs.length c7 _ xs q _ hS7.row nle (by omega)).mono ?_; rintro e w' ⟨rfl, rfl⟩; rw [HX.out])
      go_roundw
      case rel => exact ⟨j - 1, xs, _, by omega, by go_num, by omega, HT, h9⟩
      case measure => simp [intOf]; omega
    | false =>
      have HX := qh hh
      clear hh
      have ha := h9.nx ((Nx.refl w9).alloc (.cells #[ii q] 3))
      have HB := qh (Box.new w9 3 #[ii q])
      have HR := qh ha.2.2.2.2.1
      have HT2 := qh (tb_snocU HT.out HI.out HX.out)
      have hz9 := ha.size1
      go_wp2_with (first | (go_at_call 97; rw [Hq.out]; refine (l04In_c A7 xs.length c7 _ xs q _ hS7.row nle (by omega)).mono ?_; rintro e w' ⟨rfl, rfl⟩; rw [HX.out]) | (at_builtin; (try rw [Hq.out]); refine wpList_addI rfl _ _ rfl (w.heap.size + 1) w9.heap.size _ xs q rfl rfl HR.out HB.out (by omega) hz9 ?_))
      intro A8 k8 w10 hr10 hG10
      have hb10 := ha.growI hr10 hG10
      have hl10 := hb10.2.2.2.1.lt
      obtain ⟨_, _, _, _, y4, _⟩ := hb10.2.2.2.1.d6
      have g4 := hb10.2.2.2.1.frozen 4
      have hs10 := hb10.set hz0 hX 4 (.slice A8 (xs.length + 1) k8)
      simp only [List.setIfInBounds_toArray, List.set_cons_zero, List.set_cons_succ] at hs10
      clear x4 f4 ha h9 hr10 hG10 hb10 HR HB hS7
      go_wp2
      go_roundw
      case rel => exact ⟨j - 1, xs ++ [q], _, by omega, by go_num, by rw [List.length_append]; simp only [List.length_cons, List.length_nil]; omega, qh (by rw [List.length_append]; exact HT2.out), hs10⟩
      case measure => simp [intOf]; omega
  · have HJ := qh (show j = 0 by omega)
    have hdj : decide (0 < (j : Int)) = false := by simp; omega
    have hdj2 : decide (0 < j) = false := by simp; omega
    clear x4 hlt
    obtain ⟨w11, hw11⟩ : ∃ x, x = wr := ⟨_, rfl⟩
    subst hw11
    go_wp2
    go_loopw [6] (fun i wr => ∃ (k : Nat) (ms : List Mrk) (vM : Value), k ≤ 3 ∧ i = ii k ∧ Hid (MsUp ms k) ∧ SuS w wr g A n c (k0 + (60 + 6 * k)) X #[ii G, ii b0, ii P, ii Q, vU, vM] vU vM xs ms) (fun i _ => 3 - (intOf i).toNat)
    case atStart => exact ⟨0, [], vM, by omega, rfl, qh MsUp.zero, hs.more (by have := HJ.out; omega)⟩
    case round =>
     obtain ⟨k, ms, vN, hk, rfl, HM, hm⟩ := hrel
     clear hs
     have hml : ms.length ≤ 3 := by have := HM.out.1; omega
     by_cases hlt3 : k < 3
     · have hdk : decide ((k : Int) < 3) = true := by simp; omega
       go_wp2_with fail
       refine (chanceU_c 3 g A n c (k0 + (60 + 6 * k)) B ys _ (by omega) (by omega) hm.1 (u0.rg hm.2.1 hB (Nat.le_of_lt hz0)) hB hn (by omega)).mono ?_
       rintro e w12 ⟨ch, rfl, s12, r12⟩
       have h12 := hm.rg hz0 hX r12 s12
       clear hm s12 r12
       cases ch with
       | false =>
         go_wp2
         go_roundw
         case rel => exact ⟨k + 1, ms, vN, by omega, by go_num, qh HM.out.skip, h12.more (by omega)⟩
         case measure => simp [intOf]; omega
       | true =>
         have hi1 : (k : Int) < 3 := by omega
         have hi2 : (0 : Int) ≤ (k : Int) := by omega
         go_wp2_with fail
         refine mergeU (F := (fun gs gm v W => SuS w W g A n c (k0 + (60 + 6 * k) + 6) X #[ii G, ii b0, ii P, ii Q, vU, vN] vU vN xs ms ∧ Box W gm 136 #[.string (nmK k), ii (v : Int)] ∧ v < 20)) (G := ?_) (fun key => ?_) ?_
         rotate_left
         · have hd := h12.nx (Nx.refl w12).drew
           refine wp_planA (.t 0 (.t 3 (.t 6 (.d 1 (.b 2 (.t 4 (.b 5 (.c 7 (.t 8 (.c 9 (.c 10 (.t 11 (.c 12 .e)))))) 7 (.c 5 (.t 8 (.c 9 (.c 10 (.t 11 (.c 12 .e)))))))) 7 (.c 2 (.t 4 (.c 5 (.t 8 (.c 9 (.c 10 (.t 11 (.c 12 .e))))))))) 2 (.t 4 (.d 1 (.b 5 (.c 7 (.t 8 (.c 9 (.c 10 (.t 11 (.c 12 .e)))))) 7 (.c 5 (.t 8 (.c 9 (.c 10 (.t 11 (.c 12 .e))))))) 5 (.b 1 (.c 7 (.t 8 (.c 9 (.c 10 (.t 11 (.c 12 .e)))))) 7 (.t 8 (.b 1 (.c 9 (.c 10 (.t 11 (.c 12 .e)))) 9 (.c 1 (.c 10 (.t 11 (.c 12 .e))))))) 7 (.b 1 (.c 5 (.t 8 (.c 9 (.c 10 (.t 11 (.c 12 .e)))))) 5 (.t 8 (.b 1 (.c 9 (.c 10 (.t 11 (.c 12 .e)))) 9 (.c 1 (.c 10 (.t 11 (.c 12 .e))))))))) 7 (.b 1 (.c 2 (.t 4 (.c 5 (.t 8 (.c 9 (.c 10 (.t 11 (.c 12 .e)))))))) 2 (.t 4 (.b 1 (.c 5 (.t 8 (.c 9 (.c 10 (.t 11 (.c 12 .e)))))) 5 (.t 8 (.b 1 (.c 9 (.c 10 (.t 11 (.c 12 .e)))) 9 (.c 1 (.c 10 (.t 11 (.c 12 .e))))))))))))) (fun _ => True) (by exact True.intro) ?_
           simp only [psOf, List.getD_cons_zero, List.getD_cons_succ]
           change HP _ _ _ _ _ _ w12.drew
           generalize w12.drew = wd at hd ⊢
           repeat ((first | refine HP.tk ?_ | refine HP.sk ?_); try simp only [Act.put, qqA, qqB, qqC])
           refine HP.three ?_ ?_ ?_
           · obtain ⟨_, _, _, _, _, l1⟩ := hd.2.2.2.1.d6
             refine cSt fun K hK => ?_
             go_simp
             refine hK.out _ _ (by exact True.intro) ?_
             clear hK K
             try simp only [Act.put, qqA, qqB, qqC]
             refine HP.both ?_ ?_
             · have HGS : g + 1 ≤ wd.heap.size := by have := hd.size1; omega
               have bs := Box.new wd 9 #[.string ⟨#[97]⟩, .string ⟨#[98, 98]⟩, .string ⟨#[110, 111, 111, 110]⟩]
               have h2 := hd.nx ((Nx.refl wd).alloc (.cells #[.string ⟨#[97]⟩, .string ⟨#[98, 98]⟩, .string ⟨#[110, 111, 111, 110]⟩] 9))
               refine cSt fun K hK => ?_
               go_simp
               refine hK.out _ _ (by exact True.intro) ?_
               clear hK K
               try simp only [Act.put, qqA, qqB, qqC]
               change HP _ _ _ _ _ _ (wd.alloc (.cells #[.string ⟨#[97]⟩, .string ⟨#[98, 98]⟩, .string ⟨#[110, 111, 111, 110]⟩] 9))
               generalize wd.alloc (.cells #[.string ⟨#[97]⟩, .string ⟨#[98, 98]⟩, .string ⟨#[110, 111, 111, 110]⟩] 9) = w2_ at *
               generalize wd.heap.size = gs at *
               have hgs : g + 1 ≤ gs := HGS
               repeat ((first | refine HP.tk ?_ | refine HP.sk ?_); try simp only [Act.put, qqA, qqB, qqC])
               refine HP.both ?_ ?_
               · have n3 := (bs.cell k).trans (nm_cell hlt3)
                 refine cSt fun K hK => ?_
                 go_simp
                 refine hK.out _ _ (by exact True.intro) ?_
                 clear hK K
                 try simp only [Act.put, qqA, qqB, qqC]
                 refine hPc fun K hK => ?_
                 go_simp
                 refine (nextR_c 20 g A n c (k0 + (60 + 6 * k) + 3) B ys _ (by omega) (by omega) h2.1 (u0.rg h2.2.1 hB (Nat.le_of_lt hz0)) hB hn (by omega)).mono ?_; rintro e w4_ ⟨v, rfl, hv, s4, q4⟩; have h4 := h2.rg hz0 hX q4 s4; replace bs := bs.rg q4 (.inr hgs)
                 go_wp2_with fail
                 refine hK.out _ _ (by exact True.intro) ?_
                 clear hK K
                 try simp only [Act.put, qqA, qqB, qqC]
                 repeat ((first | refine HP.tk ?_ | refine HP.sk ?_); try simp only [Act.put, qqA, qqB, qqC])
                 refine HP.call ?_
                 have bm := Box.new w4_ 136 #[.string (nmK k), ii (v : Int)]
                 have h5 := h4.nx ((Nx.refl w4_).alloc (.cells #[.string (nmK k), ii (v : Int)] 136))
                 have bs5 := bs.nx ((Nx.refl w4_).alloc (.cells #[.string (nmK k), ii (v : Int)] 136))
                 refine cSt fun K hK => ?_
                 go_simp
                 refine hK.out _ _ (by exact True.intro) ?_
                 clear hK K
                 try simp only [Act.put, qqA, qqB, qqC]
                 change HP _ _ _ _ _ _ (w4_.alloc (.cells #[.string (nmK k), ii (v : Int)] 136))
                 generalize w4_.alloc (.cells #[.string (nmK k), ii (v : Int)] 136) = w5_ at *
                 generalize w4_.heap.size = gm at *
                 exact key gs gm v w5_ ⟨h5, bm, hv⟩
               · refine cSt fun K hK => ?_
                 go_simp
                 refine (nextR_c 20 g A n c (k0 + (60 + 6 * k) + 3) B ys _ (by omega) (by omega) h2.1 (u0.rg h2.2.1 hB (Nat.le_of_lt hz0)) hB hn (by omega)).mono ?_; rintro e w6_ ⟨v, rfl, hv, s6, q6⟩; have h6 := h2.rg hz0 hX q6 s6; replace bs := bs.rg q6 (.inr hgs)
                 go_wp2_with fail
                 refine hK.out _ _ (by exact True.intro) ?_
                 clear hK K
                 try simp only [Act.put, qqA, qqB, qqC]
                 refine HP.call ?_
                 have n7 := (bs.cell k).trans (nm_cell hlt3)
                 refine cSt fun K hK => ?_
                 go_simp
                 refine hK.out _ _ (by exact True.intro) ?_
                 clear hK K
                 try simp only [Act.put, qqA, qqB, qqC]
                 repeat ((first | refine HP.tk ?_ | refine HP.sk ?_); try simp only [Act.put, qqA, qqB, qqC])
                 refine HP.call ?_
                 have bm := Box.new w6_ 136 #[.string (nmK k), ii (v : Int)]
                 have h8 := h6.nx ((Nx.refl w6_).alloc (.cells #[.string (nmK k), ii (v : Int)] 136))
                 have bs8 := bs.nx ((Nx.refl w6_).alloc (.cells #[.string (nmK k), ii (v : Int)] 136))
                 refine cSt fun K hK => ?_
                 go_simp
                 refine hK.out _ _ (by exact True.intro) ?_
                 clear hK K
                 try simp only [Act.put, qqA, qqB, qqC]
                 change HP _ _ _ _ _ _ (w6_.alloc (.cells #[.string (nmK k), ii (v : Int)] 136))
                 generalize w6_.alloc (.cells #[.string (nmK k), ii (v : Int)] 136) = w8_ at *
                 generalize w6_.heap.size = gm at *
                 exact key gs gm v w8_ ⟨h8, bm, hv⟩
             · refine cSt fun K hK => ?_
               go_simp
               refine (nextR_c 20 g A n c (k0 + (60 + 6 * k) + 3) B ys _ (by omega) (by omega) hd.1 (u0.rg hd.2.1 hB (Nat.le_of_lt hz0)) hB hn (by omega)).mono ?_; rintro e w9_ ⟨v, rfl, hv, s9, q9⟩; have h9 := hd.rg hz0 hX q9 s9
               go_wp2_with fail
               refine hK.out _ _ (by exact True.intro) ?_
               clear hK K
               try simp only [Act.put, qqA, qqB, qqC]
               refine HP.call ?_
               have HGS : g + 1 ≤ w9_.heap.size := by have := h9.size1; omega
               have bs := Box.new w9_ 9 #[.string ⟨#[97]⟩, .string ⟨#[98, 98]⟩, .string ⟨#[110, 111, 111, 110]⟩]
               have h10 := h9.nx ((Nx.refl w9_).alloc (.cells #[.string ⟨#[97]⟩, .string ⟨#[98, 98]⟩, .string ⟨#[110, 111, 111, 110]⟩] 9))
               refine cSt fun K hK => ?_
               go_simp
               refine hK.out _ _ (by exact True.intro) ?_
               clear hK K
               try simp only [Act.put, qqA, qqB, qqC]
               change HP _ _ _ _ _ _ (w9_.alloc (.cells #[.string ⟨#[97]⟩, .string ⟨#[98, 98]⟩, .string ⟨#[110, 111, 111, 110]⟩] 9))
               generalize w9_.alloc (.cells #[.string ⟨#[97]⟩, .string ⟨#[98, 98]⟩, .string ⟨#[110, 111, 111, 110]⟩] 9) = w10_ at *
               generalize w9_.heap.size = gs at *
               have hgs : g + 1 ≤ gs := HGS
               repeat ((first | refine HP.tk ?_ | refine HP.sk ?_); try simp only [Act.put, qqA, qqB, qqC])
               refine HP.call ?_
               have n11 := (bs.cell k).trans (nm_cell hlt3)
               refine cSt fun K hK => ?_
               go_simp
               refine hK.out _ _ (by exact True.intro) ?_
               clear hK K
               try simp only [Act.put, qqA, qqB, qqC]
               repeat ((first | refine HP.tk ?_ | refine HP.sk ?_); try simp only [Act.put, qqA, qqB, qqC])
               refine HP.call ?_
               have bm := Box.new w10_ 136 #[.string (nmK k), ii (v : Int)]
               have h12 := h10.nx ((Nx.refl w10_).alloc (.cells #[.string (nmK k), ii (v : Int)] 136))
               have bs12 := bs.nx ((Nx.refl w10_).alloc (.cells #[.string (nmK k), ii (v : Int)] 136))
               refine cSt fun K hK => ?_
               go_simp
               refine hK.out _ _ (by exact True.intro) ?_
               clear hK K
               try simp only [Act.put, qqA, qqB, qqC]
               change HP _ _ _ _ _ _ (w10_.alloc (.cells #[.string (nmK k), ii (v : Int)] 136))
               generalize w10_.alloc (.cells #[.string (nmK k), ii (v : Int)] 136) = w12_ at *
               generalize w10_.heap.size = gm at *
               exact key gs gm v w12_ ⟨h12, bm, hv⟩
           · have HGS : g + 1 ≤ wd.heap.size := by have := hd.size1; omega
             have bs := Box.new wd 9 #[.string ⟨#[97]⟩, .string ⟨#[98, 98]⟩, .string ⟨#[110, 111, 111, 110]⟩]
             have h13 := hd.nx ((Nx.refl wd).alloc (.cells #[.string ⟨#[97]⟩, .string ⟨#[98, 98]⟩, .string ⟨#[110, 111, 111, 110]⟩] 9))
             refine cSt fun K hK => ?_
             go_simp
             refine hK.out _ _ (by exact True.intro) ?_
             clear hK K
             try simp only [Act.put, qqA, qqB, qqC]
             change HP _ _ _ _ _ _ (wd.alloc (.cells #[.string ⟨#[97]⟩, .string ⟨#[98, 98]⟩, .string ⟨#[110, 111, 111, 110]⟩] 9))
             generalize wd.alloc (.cells #[.string ⟨#[97]⟩, .string ⟨#[98, 98]⟩, .string ⟨#[110, 111, 111, 110]⟩] 9) = w13_ at *
             generalize wd.heap.size = gs at *
             have hgs : g + 1 ≤ gs := HGS
             repeat ((first | refine HP.tk ?_ | refine HP.sk ?_); try simp only [Act.put, qqA, qqB, qqC])
             refine HP.three ?_ ?_ ?_
             · obtain ⟨_, _, _, _, _, l14⟩ := h13.2.2.2.1.d6
               refine cSt fun K hK => ?_
               go_simp
               refine hK.out _ _ (by exact True.intro) ?_
               clear hK K
               try simp only [Act.put, qqA, qqB, qqC]
               refine HP.both ?_ ?_
               · have n15 := (bs.cell k).trans (nm_cell hlt3)
                 refine cSt fun K hK => ?_
                 go_simp
                 refine hK.out _ _ (by exact True.intro) ?_
                 clear hK K
                 try simp only [Act.put, qqA, qqB, qqC]
                 refine hPc fun K hK => ?_
                 go_simp
                 refine (nextR_c 20 g A n c (k0 + (60 + 6 * k) + 3) B ys _ (by omega) (by omega) h13.1 (u0.rg h13.2.1 hB (Nat.le_of_lt hz0)) hB hn (by omega)).mono ?_; rintro e w16_ ⟨v, rfl, hv, s16, q16⟩; have h16 := h13.rg hz0 hX q16 s16; replace bs := bs.rg q16 (.inr hgs)
                 go_wp2_with fail
                 refine hK.out _ _ (by exact True.intro) ?_
                 clear hK K
                 try simp only [Act.put, qqA, qqB, qqC]
                 repeat ((first | refine HP.tk ?_ | refine HP.sk ?_); try simp only [Act.put, qqA, qqB, qqC])
                 refine HP.call ?_
                 have bm := Box.new w16_ 136 #[.string (nmK k), ii (v : Int)]
                 have h17 := h16.nx ((Nx.refl w16_).alloc (.cells #[.string (nmK k), ii (v : Int)] 136))
                 have bs17 := bs.nx ((Nx.refl w16_).alloc (.cells #[.string (nmK k), ii (v : Int)] 136))
                 refine cSt fun K hK => ?_
                 go_simp
                 refine hK.out _ _ (by exact True.intro) ?_
                 clear hK K
                 try simp only [Act.put, qqA, qqB, qqC]
                 change HP _ _ _ _ _ _ (w16_.alloc (.cells #[.string (nmK k), ii (v : Int)] 136))
                 generalize w16_.alloc (.cells #[.string (nmK k), ii (v : Int)] 136) = w17_ at *
                 generalize w16_.heap.size = gm at *
                 exact key gs gm v w17_ ⟨h17, bm, hv⟩
               · refine cSt fun K hK => ?_
                 go_simp
                 refine (nextR_c 20 g A n c (k0 + (60 + 6 * k) + 3) B ys _ (by omega) (by omega) h13.1 (u0.rg h13.2.1 hB (Nat.le_of_lt hz0)) hB hn (by omega)).mono ?_; rintro e w18_ ⟨v, rfl, hv, s18, q18⟩; have h18 := h13.rg hz0 hX q18 s18; replace bs := bs.rg q18 (.inr hgs)
                 go_wp2_with fail
                 refine hK.out _ _ (by exact True.intro) ?_
                 clear hK K
                 try simp only [Act.put, qqA, qqB, qqC]
                 refine HP.call ?_
                 have n19 := (bs.cell k).trans (nm_cell hlt3)
                 refine cSt fun K hK => ?_
                 go_simp
                 refine hK.out _ _ (by exact True.intro) ?_
                 clear hK K
                 try simp only [Act.put, qqA, qqB, qqC]
                 repeat ((first | refine HP.tk ?_ | refine HP.sk ?_); try simp only [Act.put, qqA, qqB, qqC])
                 refine HP.call ?_
                 have bm := Box.new w18_ 136 #[.string (nmK k), ii (v : Int)]
                 have h20 := h18.nx ((Nx.refl w18_).alloc (.cells #[.string (nmK k), ii (v : Int)] 136))
                 have bs20 := bs.nx ((Nx.refl w18_).alloc (.cells #[.string (nmK k), ii (v : Int)] 136))
                 refine cSt fun K hK => ?_
                 go_simp
                 refine hK.out _ _ (by exact True.intro) ?_
                 clear hK K
                 try simp only [Act.put, qqA, qqB, qqC]
                 change HP _ _ _ _ _ _ (w18_.alloc (.cells #[.string (nmK k), ii (v : Int)] 136))
                 generalize w18_.alloc (.cells #[.string (nmK k), ii (v : Int)] 136) = w20_ at *
                 generalize w18_.heap.size = gm at *
                 exact key gs gm v w20_ ⟨h20, bm, hv⟩
             · have n21 := (bs.cell k).trans (nm_cell hlt3)
               refine cSt fun K hK => ?_
               go_simp
               refine hK.out _ _ (by exact True.intro) ?_
               clear hK K
               try simp only [Act.put, qqA, qqB, qqC]
               refine HP.both ?_ ?_
               · obtain ⟨_, _, _, _, _, l22⟩ := h13.2.2.2.1.d6
                 refine cSt fun K hK => ?_
                 go_simp
                 refine hK.out _ _ (by exact True.intro) ?_
                 clear hK K
                 try simp only [Act.put, qqA, qqB, qqC]
                 refine hPc fun K hK => ?_
                 go_simp
                 refine (nextR_c 20 g A n c (k0 + (60 + 6 * k) + 3) B ys _ (by omega) (by omega) h13.1 (u0.rg h13.2.1 hB (Nat.le_of_lt hz0)) hB hn (by omega)).mono ?_; rintro e w23_ ⟨v, rfl, hv, s23, q23⟩; have h23 := h13.rg hz0 hX q23 s23; replace bs := bs.rg q23 (.inr hgs)
                 go_wp2_with fail
                 refine hK.out _ _ (by exact True.intro) ?_
                 clear hK K
                 try simp only [Act.put, qqA, qqB, qqC]
                 repeat ((first | refine HP.tk ?_ | refine HP.sk ?_); try simp only [Act.put, qqA, qqB, qqC])
                 refine HP.call ?_
                 have bm := Box.new w23_ 136 #[.string (nmK k), ii (v : Int)]
                 have h24 := h23.nx ((Nx.refl w23_).alloc (.cells #[.string (nmK k), ii (v : Int)] 136))
                 have bs24 := bs.nx ((Nx.refl w23_).alloc (.cells #[.string (nmK k), ii (v : Int)] 136))
                 refine cSt fun K hK => ?_
                 go_simp
                 refine hK.out _ _ (by exact True.intro) ?_
                 clear hK K
                 try simp only [Act.put, qqA, qqB, qqC]
                 change HP _ _ _ _ _ _ (w23_.alloc (.cells #[.string (nmK k), ii (v : Int)] 136))
                 generalize w23_.alloc (.cells #[.string (nmK k), ii (v : Int)] 136) = w24_ at *
                 generalize w23_.heap.size = gm at *
                 exact key gs gm v w24_ ⟨h24, bm, hv⟩
               · refine cSt fun K hK => ?_
                 go_simp
                 refine (nextR_c 20 g A n c (k0 + (60 + 6 * k) + 3) B ys _ (by omega) (by omega) h13.1 (u0.rg h13.2.1 hB (Nat.le_of_lt hz0)) hB hn (by omega)).mono ?_; rintro e w25_ ⟨v, rfl, hv, s25, q25⟩; have h25 := h13.rg hz0 hX q25 s25; replace bs := bs.rg q25 (.inr hgs)
                 go_wp2_with fail
                 refine hK.out _ _ (by exact True.intro) ?_
                 clear hK K
                 try simp only [Act.put, qqA, qqB, qqC]
                 repeat ((first | refine HP.tk ?_ | refine HP.sk ?_); try simp only [Act.put, qqA, qqB, qqC])
                 refine HP.both ?_ ?_
                 · obtain ⟨_, _, _, _, _, l26⟩ := h25.2.2.2.1.d6
                   refine cSt fun K hK => ?_
                   go_simp
                   refine hK.out _ _ (by exact True.intro) ?_
                   clear hK K
                   try simp only [Act.put, qqA, qqB, qqC]
                   refine HP.call ?_
                   have bm := Box.new w25_ 136 #[.string (nmK k), ii (v : Int)]
                   have h27 := h25.nx ((Nx.refl w25_).alloc (.cells #[.string (nmK k), ii (v : Int)] 136))
                   have bs27 := bs.nx ((Nx.refl w25_).alloc (.cells #[.string (nmK k), ii (v : Int)] 136))
                   refine cSt fun K hK => ?_
                   go_simp
                   refine hK.out _ _ (by exact True.intro) ?_
                   clear hK K
                   try simp only [Act.put, qqA, qqB, qqC]
                   change HP _ _ _ _ _ _ (w25_.alloc (.cells #[.string (nmK k), ii (v : Int)] 136))
                   generalize w25_.alloc (.cells #[.string (nmK k), ii (v : Int)] 136) = w27_ at *
                   generalize w25_.heap.size = gm at *
                   exact key gs gm v w27_ ⟨h27, bm, hv⟩
                 · have bm := Box.new w25_ 136 #[.string (nmK k), ii (v : Int)]
                   have h28 := h25.nx ((Nx.refl w25_).alloc (.cells #[.string (nmK k), ii (v : Int)] 136))
                   have bs28 := bs.nx ((Nx.refl w25_).alloc (.cells #[.string (nmK k), ii (v : Int)] 136))
                   refine cSt fun K hK => ?_
                   go_simp
                   refine hK.out _ _ (by exact True.intro) ?_
                   clear hK K
                   try simp only [Act.put, qqA, qqB, qqC]
                   change HP _ _ _ _ _ _ (w25_.alloc (.cells #[.string (nmK k), ii (v : Int)] 136))
                   generalize w25_.alloc (.cells #[.string (nmK k), ii (v : Int)] 136) = w28_ at *
                   generalize w25_.heap.size = gm at *
                   refine HP.call ?_
                   obtain ⟨_, _, _, _, _, l29⟩ := h28.2.2.2.1.d6
                   refine cSt fun K hK => ?_
                   go_simp
                   refine hK.out _ _ (by exact True.intro) ?_
                   clear hK K
                   try simp only [Act.put, qqA, qqB, qqC]
                   exact key gs gm v w28_ ⟨h28, bm, hv⟩
             · refine cSt fun K hK => ?_
               go_simp
               refine (nextR_c 20 g A n c (k0 + (60 + 6 * k) + 3) B ys _ (by omega) (by omega) h13.1 (u0.rg h13.2.1 hB (Nat.le_of_lt hz0)) hB hn (by omega)).mono ?_; rintro e w30_ ⟨v, rfl, hv, s30, q30⟩; have h30 := h13.rg hz0 hX q30 s30; replace bs := bs.rg q30 (.inr hgs)
               go_wp2_with fail
               refine hK.out _ _ (by exact True.intro) ?_
               clear hK K
               try simp only [Act.put, qqA, qqB, qqC]
               refine HP.both ?_ ?_
               · obtain ⟨_, _, _, _, _, l31⟩ := h30.2.2.2.1.d6
                 refine cSt fun K hK => ?_
                 go_simp
                 refine hK.out _ _ (by exact True.intro) ?_
                 clear hK K
                 try simp only [Act.put, qqA, qqB, qqC]
                 refine HP.call ?_
                 have n32 := (bs.cell k).trans (nm_cell hlt3)
                 refine cSt fun K hK => ?_
                 go_simp
                 refine hK.out _ _ (by exact True.intro) ?_
                 clear hK K
                 try simp only [Act.put, qqA, qqB, qqC]
                 repeat ((first | refine HP.tk ?_ | refine HP.sk ?_); try simp only [Act.put, qqA, qqB, qqC])
                 refine HP.call ?_
                 have bm := Box.new w30_ 136 #[.string (nmK k), ii (v : Int)]
                 have h33 := h30.nx ((Nx.refl w30_).alloc (.cells #[.string (nmK k), ii (v : Int)] 136))
                 have bs33 := bs.nx ((Nx.refl w30_).alloc (.cells #[.string (nmK k), ii (v : Int)] 136))
                 refine cSt fun K hK => ?_
                 go_simp
                 refine hK.out _ _ (by exact True.intro) ?_
                 clear hK K
                 try simp only [Act.put, qqA, qqB, qqC]
                 change HP _ _ _ _ _ _ (w30_.alloc (.cells #[.string (nmK k), ii (v : Int)] 136))
                 generalize w30_.alloc (.cells #[.string (nmK k), ii (v : Int)] 136) = w33_ at *
                 generalize w30_.heap.size = gm at *
                 exact key gs gm v w33_ ⟨h33, bm, hv⟩
               · have n34 := (bs.cell k).trans (nm_cell hlt3)
                 refine cSt fun K hK => ?_
                 go_simp
                 refine hK.out _ _ (by exact True.intro) ?_
                 clear hK K
                 try simp only [Act.put, qqA, qqB, qqC]
                 repeat ((first | refine HP.tk ?_ | refine HP.sk ?_); try simp only [Act.put, qqA, qqB, qqC])
                 refine HP.both ?_ ?_
                 · obtain ⟨_, _, _, _, _, l35⟩ := h30.2.2.2.1.d6
                   refine cSt fun K hK => ?_
                   go_simp
                   refine hK.out _ _ (by exact True.intro) ?_
                   clear hK K
                   try simp only [Act.put, qqA, qqB, qqC]
                   refine HP.call ?_
                   have bm := Box.new w30_ 136 #[.string (nmK k), ii (v : Int)]
                   have h36 := h30.nx ((Nx.refl w30_).alloc (.cells #[.string (nmK k), ii (v : Int)] 136))
                   have bs36 := bs.nx ((Nx.refl w30_).alloc (.cells #[.string (nmK k), ii (v : Int)] 136))
                   refine cSt fun K hK => ?_
                   go_simp
                   refine hK.out _ _ (by exact True.intro) ?_
                   clear hK K
                   try simp only [Act.put, qqA, qqB, qqC]
                   change HP _ _ _ _ _ _ (w30_.alloc (.cells #[.string (nmK k), ii (v : Int)] 136))
                   generalize w30_.alloc (.cells #[.string (nmK k), ii (v : Int)] 136) = w36_ at *
                   generalize w30_.heap.size = gm at *
                   exact key gs gm v w36_ ⟨h36, bm, hv⟩
                 · have bm := Box.new w30_ 136 #[.string (nmK k), ii (v : Int)]
                   have h37 := h30.nx ((Nx.refl w30_).alloc (.cells #[.string (nmK k), ii (v : Int)] 136))
                   have bs37 := bs.nx ((Nx.refl w30_).alloc (.cells #[.string (nmK k), ii (v : Int)] 136))
                   refine cSt fun K hK => ?_
                   go_simp
                   refine hK.out _ _ (by exact True.intro) ?_
                   clear hK K
                   try simp only [Act.put, qqA, qqB, qqC]
                   change HP _ _ _ _ _ _ (w30_.alloc (.cells #[.string (nmK k), ii (v : Int)] 136))
                   generalize w30_.alloc (.cells #[.string (nmK k), ii (v : Int)] 136) = w37_ at *
                   generalize w30_.heap.size = gm at *
                   refine HP.call ?_
                   obtain ⟨_, _, _, _, _, l38⟩ := h37.2.2.2.1.d6
                   refine cSt fun K hK => ?_
                   go_simp
                   refine hK.out _ _ (by exact True.intro) ?_
                   clear hK K
                   try simp only [Act.put, qqA, qqB, qqC]
                   exact key gs gm v w37_ ⟨h37, bm, hv⟩
           · refine cSt fun K hK => ?_
             go_simp
             refine (nextR_c 20 g A n c (k0 + (60 + 6 * k) + 3) B ys _ (by omega) (by omega) hd.1 (u0.rg hd.2.1 hB (Nat.le_of_lt hz0)) hB hn (by omega)).mono ?_; rintro e w39_ ⟨v, rfl, hv, s39, q39⟩; have h39 := hd.rg hz0 hX q39 s39
             go_wp2_with fail
             refine hK.out _ _ (by exact True.intro) ?_
             clear hK K
             try simp only [Act.put, qqA, qqB, qqC]
             refine HP.both ?_ ?_
             · obtain ⟨_, _, _, _, _, l40⟩ := h39.2.2.2.1.d6
               refine cSt fun K hK => ?_
               go_simp
               refine hK.out _ _ (by exact True.intro) ?_
               clear hK K
               try simp only [Act.put, qqA, qqB, qqC]
               refine HP.call ?_
               have HGS : g + 1 ≤ w39_.heap.size := by have := h39.size1; omega
               have bs := Box.new w39_ 9 #[.string ⟨#[97]⟩, .string ⟨#[98, 98]⟩, .string ⟨#[110, 111, 111, 110]⟩]
               have h41 := h39.nx ((Nx.refl w39_).alloc (.cells #[.string ⟨#[97]⟩, .string ⟨#[98, 98]⟩, .string ⟨#[110, 111, 111, 110]⟩] 9))
               refine cSt fun K hK => ?_
               go_simp
               refine hK.out _ _ (by exact True.intro) ?_
               clear hK K
               try simp only [Act.put, qqA, qqB, qqC]
               change HP _ _ _ _ _ _ (w39_.alloc (.cells #[.string ⟨#[97]⟩, .string ⟨#[98, 98]⟩, .string ⟨#[110, 111, 111, 110]⟩] 9))
               generalize w39_.alloc (.cells #[.string ⟨#[97]⟩, .string ⟨#[98, 98]⟩, .string ⟨#[110, 111, 111, 110]⟩] 9) = w41_ at *
               generalize w39_.heap.size = gs at *
               have hgs : g + 1 ≤ gs := HGS
               repeat ((first | refine HP.tk ?_ | refine HP.sk ?_); try simp only [Act.put, qqA, qqB, qqC])
               refine HP.call ?_
               have n42 := (bs.cell k).trans (nm_cell hlt3)
               refine cSt fun K hK => ?_
               go_simp
               refine hK.out _ _ (by exact True.intro) ?_
               clear hK K
               try simp only [Act.put, qqA, qqB, qqC]
               repeat ((first | refine HP.tk ?_ | refine HP.sk ?_); try simp only [Act.put, qqA, qqB, qqC])
               refine HP.call ?_
               have bm := Box.new w41_ 136 #[.string (nmK k), ii (v : Int)]
               have h43 := h41.nx ((Nx.refl w41_).alloc (.cells #[.string (nmK k), ii (v : Int)] 136))
               have bs43 := bs.nx ((Nx.refl w41_).alloc (.cells #[.string (nmK k), ii (v : Int)] 136))
               refine cSt fun K hK => ?_
               go_simp
               refine hK.out _ _ (by exact True.intro) ?_
               clear hK K
               try simp only [Act.put, qqA, qqB, qqC]
               change HP _ _ _ _ _ _ (w41_.alloc (.cells #[.string (nmK k), ii (v : Int)] 136))
               generalize w41_.alloc (.cells #[.string (nmK k), ii (v : Int)] 136) = w43_ at *
               generalize w41_.heap.size = gm at *
               exact key gs gm v w43_ ⟨h43, bm, hv⟩
             · have HGS : g + 1 ≤ w39_.heap.size := by have := h39.size1; omega
               have bs := Box.new w39_ 9 #[.string ⟨#[97]⟩, .string ⟨#[98, 98]⟩, .string ⟨#[110, 111, 111, 110]⟩]
               have h44 := h39.nx ((Nx.refl w39_).alloc (.cells #[.string ⟨#[97]⟩, .string ⟨#[98, 98]⟩, .string ⟨#[110, 111, 111, 110]⟩] 9))
               refine cSt fun K hK => ?_
               go_simp
               refine hK.out _ _ (by exact True.intro) ?_
               clear hK K
               try simp only [Act.put, qqA, qqB, qqC]
               change HP _ _ _ _ _ _ (w39_.alloc (.cells #[.string ⟨#[97]⟩, .string ⟨#[98, 98]⟩, .string ⟨#[110, 111, 111, 110]⟩] 9))
               generalize w39_.alloc (.cells #[.string ⟨#[97]⟩, .string ⟨#[98, 98]⟩, .string ⟨#[110, 111, 111, 110]⟩] 9) = w44_ at *
               generalize w39_.heap.size = gs at *
               have hgs : g + 1 ≤ gs := HGS
               repeat ((first | refine HP.tk ?_ | refine HP.sk ?_); try simp only [Act.put, qqA, qqB, qqC])
               refine HP.both ?_ ?_
               · obtain ⟨_, _, _, _, _, l45⟩ := h44.2.2.2.1.d6
                 refine cSt fun K hK => ?_
                 go_simp
                 refine hK.out _ _ (by exact True.intro) ?_
                 clear hK K
                 try simp only [Act.put, qqA, qqB, qqC]
                 refine HP.call ?_
                 have n46 := (bs.cell k).trans (nm_cell hlt3)
                 refine cSt fun K hK => ?_
                 go_simp
                 refine hK.out _ _ (by exact True.intro) ?_
                 clear hK K
                 try simp only [Act.put, qqA, qqB, qqC]
                 repeat ((first | refine HP.tk ?_ | refine HP.sk ?_); try simp only [Act.put, qqA, qqB, qqC])
                 refine HP.call ?_
                 have bm := Box.new w44_ 136 #[.string (nmK k), ii (v : Int)]
                 have h47 := h44.nx ((Nx.refl w44_).alloc (.cells #[.string (nmK k), ii (v : Int)] 136))
                 have bs47 := bs.nx ((Nx.refl w44_).alloc (.cells #[.string (nmK k), ii (v : Int)] 136))
                 refine cSt fun K hK => ?_
                 go_simp
                 refine hK.out _ _ (by exact True.intro) ?_
                 clear hK K
                 try simp only [Act.put, qqA, qqB, qqC]
                 change HP _ _ _ _ _ _ (w44_.alloc (.cells #[.string (nmK k), ii (v : Int)] 136))
                 generalize w44_.alloc (.cells #[.string (nmK k), ii (v : Int)] 136) = w47_ at *
                 generalize w44_.heap.size = gm at *
                 exact key gs gm v w47_ ⟨h47, bm, hv⟩
               · have n48 := (bs.cell k).trans (nm_cell hlt3)
                 refine cSt fun K hK => ?_
                 go_simp
                 refine hK.out _ _ (by exact True.intro) ?_
                 clear hK K
                 try simp only [Act.put, qqA, qqB, qqC]
                 repeat ((first | refine HP.tk ?_ | refine HP.sk ?_); try simp only [Act.put, qqA, qqB, qqC])
                 refine HP.both ?_ ?_
                 · obtain ⟨_, _, _, _, _, l49⟩ := h44.2.2.2.1.d6
                   refine cSt fun K hK => ?_
                   go_simp
                   refine hK.out _ _ (by exact True.intro) ?_
                   clear hK K
                   try simp only [Act.put, qqA, qqB, qqC]
                   refine HP.call ?_
                   have bm := Box.new w44_ 136 #[.string (nmK k), ii (v : Int)]
                   have h50 := h44.nx ((Nx.refl w44_).alloc (.cells #[.string (nmK k), ii (v : Int)] 136))
                   have bs50 := bs.nx ((Nx.refl w44_).alloc (.cells #[.string (nmK k), ii (v : Int)] 136))
                   refine cSt fun K hK => ?_
                   go_simp
                   refine hK.out _ _ (by exact True.intro) ?_
                   clear hK K
                   try simp only [Act.put, qqA, qqB, qqC]
                   change HP _ _ _ _ _ _ (w44_.alloc (.cells #[.string (nmK k), ii (v : Int)] 136))
                   generalize w44_.alloc (.cells #[.string (nmK k), ii (v : Int)] 136) = w50_ at *
                   generalize w44_.heap.size = gm at *
                   exact key gs gm v w50_ ⟨h50, bm, hv⟩
                 · have bm := Box.new w44_ 136 #[.string (nmK k), ii (v : Int)]
                   have h51 := h44.nx ((Nx.refl w44_).alloc (.cells #[.string (nmK k), ii (v : Int)] 136))
                   have bs51 := bs.nx ((Nx.refl w44_).alloc (.cells #[.string (nmK k), ii (v : Int)] 136))
                   refine cSt fun K hK => ?_
                   go_simp
                   refine hK.out _ _ (by exact True.intro) ?_
                   clear hK K
                   try simp only [Act.put, qqA, qqB, qqC]
                   change HP _ _ _ _ _ _ (w44_.alloc (.cells #[.string (nmK k), ii (v : Int)] 136))
                   generalize w44_.alloc (.cells #[.string (nmK k), ii (v : Int)] 136) = w51_ at *
                   generalize w44_.heap.size = gm at *
                   refine HP.call ?_
                   obtain ⟨_, _, _, _, _, l52⟩ := h51.2.2.2.1.d6
                   refine cSt fun K hK => ?_
                   go_simp
                   refine hK.out _ _ (by exact True.intro) ?_
                   clear hK K
                   try simp only [Act.put, qqA, qqB, qqC]
                   exact key gs gm v w51_ ⟨h51, bm, hv⟩
         rintro gs gm v W ⟨hW, bm, hv⟩
         have hsz := hW.size1
         refine hPc fun K hK => ?_
         refine wp_addM _ _ rfl (w.heap.size + 1) gm _ ms (nmK k, (v : Int)) rfl rfl hW.2.2.2.2.2 bm (by omega) hsz ?_
         intro A9 k9 w13 hr13 hG13
         have hb13 := hW.growM hr13 hG13
         refine hK.out _ _ True.intro ?_
         clear hK K
         try simp only [Act.put, qqA, qqB, qqC]
         repeat ((first | refine HP.tk ?_ | refine HP.sk ?_); try simp only [Act.put, qqA, qqB, qqC])
         have hl13 := hb13.2.2.2.1.lt
         obtain ⟨_, _, _, _, _, y5⟩ := hb13.2.2.2.1.d6
         have g5 := hb13.2.2.2.1.frozen 5
         refine hPc fun K hK => ?_
         go_simp
         refine hK.out _ _ (by exact True.intro) ?_
         clear hK K
         try simp only [Act.put, qqA, qqB, qqC]
         refine HP.done ?_
         have hs13 := hb13.set hz0 hX 5 (.slice A9 (ms.length + 1) k9)
         simp only [List.setIfInBounds_toArray, List.set_cons_zero, List.set_cons_succ] at hs13
         clear y5 g5 hW bm hr13 hG13 hb13
         go_wp2
         go_roundw
         case rel => exact ⟨k + 1, ms ++ [(nmK k, (v : Int))], _, by omega, by go_num, qh (HM.out.add hlt3 hv), hs13.more (by omega)⟩
         case measure => simp [intOf]; omega
     · obtain rfl : k = 3 := by omega
       obtain ⟨A7, c7, rfl, hc7, hS7⟩ := hm.2.2.2.2.1.slc
       obtain ⟨A6, c6, rfl, hc6, hM6⟩ := hm.2.2.2.2.2.slc
       have HOK := qh (show superB G b0 P Q xs ms = true from superB_mk (inB_mk (by have := HG.out; omega) (by have := HG.out; omega)) (inB_mk (by omega) (by omega)) (inB_mk (by have := HPP.out; omega) (by have := HPP.out; omega)) (inB_mk (by have := HQ.out; omega) (by have := HQ.out; omega)) (tbB_mk (by omega) HT.out) (msB_mk (by omega) HM.out.2.1))
       have HAM := qh HM.out.all
       have hdk : decide (((3 : Nat) : Int) < 3) = false := by decide
       obtain ⟨x0, x1, x2, x3, x4, x5⟩ := hm.2.2.2.1.d6
       have bR := hm.2.2.1
       obtain ⟨y0, y1, y2, y3, y4, y5⟩ := bR.d6
       have f0 := bR.frozen 0
       have f1 := bR.frozen 1
       have f2 := bR.frozen 2
       have f3 := bR.frozen 3
       have f4 := bR.frozen 4
       have f5 := bR.frozen 5
       have hlX := hm.2.2.2.1.lt
       have hlR := bR.lt
       go_wp2
       have qq := ((((((bR).set 0 (ii G)).set 1 (ii b0)).set 2 (ii P)).set 3 (ii Q)).set 4 (.slice A7 xs.length c7)).set 5 (.slice A6 ms.length c6)
       have hSf := ((((((hS7.far (p := ⟨w.heap.size, 0, none⟩) (by simp) (ii G)).far (p := ⟨w.heap.size, 1, none⟩) (by simp) (ii b0)).far (p := ⟨w.heap.size, 2, none⟩) (by simp) (ii P)).far (p := ⟨w.heap.size, 3, none⟩) (by simp) (ii Q)).far (p := ⟨w.heap.size, 4, none⟩) (by simp) (.slice A7 xs.length c7)).far (p := ⟨w.heap.size, 5, none⟩) (by simp) (.slice A6 ms.length c6))
       have hMf := ((((((hM6.far (p := ⟨w.heap.size, 0, none⟩) (by simp) (ii G)).far (p := ⟨w.heap.size, 1, none⟩) (by simp) (ii b0)).far (p := ⟨w.heap.size, 2, none⟩) (by simp) (ii P)).far (p := ⟨w.heap.size, 3, none⟩) (by simp) (ii Q)).far (p := ⟨w.heap.size, 4, none⟩) (by simp) (.slice A7 xs.length c7)).far (p := ⟨w.heap.size, 5, none⟩) (by simp) (.slice A6 ms.length c6))
       have hsf := ((((((hm.1.farU (p := ⟨w.heap.size, 0, none⟩) (by simp; omega) (ii G)).farU (p := ⟨w.heap.size, 1, none⟩) (by simp; omega) (ii b0)).farU (p := ⟨w.heap.size, 2, none⟩) (by simp; omega) (ii P)).farU (p := ⟨w.heap.size, 3, none⟩) (by simp; omega) (ii Q)).farU (p := ⟨w.heap.size, 4, none⟩) (by simp; omega) (.slice A7 xs.length c7)).farU (p := ⟨w.heap.size, 5, none⟩) (by simp; omega) (.slice A6 ms.length c6))
       have hrf := ((((((hm.2.1.setNew8 (p := ⟨w.heap.size, 0, none⟩) (by simp) (ii G)).setNew8 (p := ⟨w.heap.size, 1, none⟩) (by simp) (ii b0)).setNew8 (p := ⟨w.heap.size, 2, none⟩) (by simp) (ii P)).setNew8 (p := ⟨w.heap.size, 3, none⟩) (by simp) (ii Q)).setNew8 (p := ⟨w.heap.size, 4, none⟩) (by simp) (.slice A7 xs.length c7)).setNew8 (p := ⟨w.heap.size, 5, none⟩) (by simp) (.slice A6 ms.length c6))
       generalize ((((((wr.setCell ⟨w.heap.size, 0, none⟩ (ii G)).setCell ⟨w.heap.size, 1, none⟩ (ii b0)).setCell ⟨w.heap.size, 2, none⟩ (ii P)).setCell ⟨w.heap.size, 3, none⟩ (ii Q)).setCell ⟨w.heap.size, 4, none⟩ (.slice A7 xs.length c7)).setCell ⟨w.heap.size, 5, none⟩ (.slice A6 ms.length c6)) = Wf at *
       have g0' := qq.cell 0
       have g1' := qq.cell 1
       have g2' := qq.cell 2
       have g3' := qq.cell 3
       have g4' := qq.cell 4
       have g5' := qq.cell 5
       simp at g0' g1' g2' g3' g4' g5'
       exact bodyPost_ret (v := .agg #[ii G, ii b0, ii P, ii Q, .slice A7 xs.length c7, .slice A6 ms.length c6]) (by simp [results, Tryz.results43, go_sem, g0', g1', g2', g3', g4', g5']) rfl ⟨G, b0, P, Q, A7, c7, xs, A6, c6, ms, rfl, HOK.out, by have := HG.out; omega, by omega, hc7, HAM.out, hSf.low (by omega), hMf.low (by omega), hsf.more (by omega), hrf⟩
theorem super_c (g : Nat) (A : Option Addr) (n c B k0 : Nat) (ys : List Nat) (w : World) (hb : SrcR w g A n c k0) (h : U8s w B A n ys) (hB : B ≤ g) (hn : n ≤ 1048576) (hk0 : k0 ≤ 1000000) :
 Calls Tryz.prog 43 #[.pointer (some ⟨g, 0, none⟩)] w fun e w' => ∃ (q0 q1 q2 q3 : Int) (A' : Option Addr) (c' : Nat) (xs : List Int) (A2 : Option Addr) (c2 : Nat) (ms : List Mrk),
  e = .returned (.agg #[ii q0, ii q1, ii q2, ii q3, .slice A' xs.length c', .slice A2 ms.length c2]) ∧ superB q0 q1 q2 q3 xs ms = true ∧ xs.length ≤ 5 ∧ xs.length ≤ c' ∧ AllM ms ∧ SlI w' w.heap.size A' xs ∧ SlM w' w.heap.size A2 ms ∧ SrcR w' g A n c (k0 + 100) ∧ Rg g (g + 1) w w' :=
 (super50_c g A n c B k0 ys w hb h hB hn hk0).mono fun e w' ⟨q0, q1, q2, q3, A', c', xs, A2, c2, ms, he, h1, _, h2⟩ => ⟨q0, q1, q2, q3, A', c', xs, A2, c2, ms, he, h1, h2⟩
theorem next1_c (g : Nat) (w : World) : Calls Tryz.prog 96 #[.pointer (some ⟨g, 0, none⟩), ii 1] w fun e w' => e = .returned (ii 0) ∧ w' = w := by
 go_enter Tryz.func96, Tryz.ntmps96
 go_wp2
 go_ret
 exact ⟨rfl, rfl⟩
theorem nextM_c (m g : Nat) (A : Option Addr) (n c k B : Nat) (ys : List Nat) (w : World) (hm : 1 ≤ m) (hm2 : m ≤ 100000) (hb : SrcR w g A n c k) (h : U8s w B A n ys) (hB : B ≤ g) (hn : n ≤ 1048576) (hk : k + 3 ≤ 1048576) :
 Calls Tryz.prog 96 #[.pointer (some ⟨g, 0, none⟩), ii (m : Int)] w (RetV m g A n c k w) := by
 rcases Nat.lt_or_ge m 2 with h2 | h2
 · obtain rfl : m = 1 := by omega
   refine (next1_c g w).mono ?_
   rintro e w' ⟨rfl, rfl⟩
   exact ⟨0, rfl, by omega, hb.more (by omega), Rg.of_nx (Nx.refl _)⟩
 · exact nextR_c m g A n c k B ys w h2 hm2 hb h hB hn hk
def Byt (w : World) (g : Nat) (xs : List Int) : Prop := ∃ cs, w.heap[g]? = some (.cells cs 5 (cs.size, cs.size + 1)) ∧ xs.length ≤ cs.size ∧ ∀ i, i < xs.length → cs[i]? = some (.int .u8 (xs.getD i 0))
section
variable {w w' : World} {g : Nat} {xs : List Int}
theorem Byt.lt (h : Byt w g xs) : g < w.heap.size := by
 obtain ⟨cs, h, _⟩ := h
 rcases Nat.lt_or_ge g w.heap.size with hlt | hge
 · exact hlt
 · rw [Array.getElem?_eq_none hge] at h; cases h
theorem Byt.rg {lo hi : Nat} (h : Byt w g xs) (hb : Rg lo hi w w') (hg : g < lo ∨ hi ≤ g) : Byt w' g xs := by
 have hl := h.lt
 obtain ⟨cs, h, r⟩ := h
 exact ⟨cs, (hb.block g hl hg).trans h, r⟩
theorem Byt.cell (h : Byt w g xs) {i : Nat} (hi : i < xs.length) : w.cell? ⟨g, i, none⟩ = some (.int .u8 (xs.getD i 0)) := by
 obtain ⟨cs, h, _, hc⟩ := h
 exact (cell_of_row w g i cs _ _ h).trans (hc i hi)
theorem Byt.frozen (h : Byt w g xs) {i : Nat} (hi : i < xs.length) : w.frozen? ⟨g, i, none⟩ = false := by
 obtain ⟨cs, h, hl, _⟩ := h
 have h1 : ¬ cs.size ≤ i := by omega
 simp [World.frozen?, h, h1]
theorem Byt.set (h : Byt w g xs) {k : Nat} (hk : k < xs.length) (c : Int) : Byt (w.setCell ⟨g, k, none⟩ (.int .u8 c)) g (xs.set k c) := by
 obtain ⟨cs, h, hl, hc⟩ := h
 refine ⟨cs.setIfInBounds k (.int .u8 c), ?_, by simpa using hl, fun i hi => ?_⟩
 · simp [World.setCell, Array.getElem?_modify, h]
 · rw [List.length_set] at hi
   rw [Array.getElem?_setIfInBounds, gdE, List.getElem?_set]
   by_cases e : k = i
   · subst e; rw [if_pos rfl, if_pos (by omega), if_pos rfl, if_pos hi]; rfl
   · rw [if_neg e, if_neg e, hc i hi, gdE]
end
def bnums (t : BA) : List Int := t.data.toList.map fun b => ((b.toNat : Nat) : Int)
theorem bnums_len (t : BA) : (bnums t).length = t.size := by unfold bnums; rw [List.length_map, ba_size]
theorem bytes_byt (w : World) (t : BA) : Byt (Lib.bytesWorld w 5 t) w.heap.size (bnums t) := by
 refine ⟨_, Lib.bytesWorld_at_new w _ t, ?_, fun i hi => ?_⟩
 · rw [bnums_len]; unfold Lib.bytesCells; rw [Array.size_append, Array.size_map]; exact Nat.le_add_right _ _
 · rw [bnums_len] at hi
   have hi2 : i < t.data.size := hi
   simp [Lib.bytesCells, Array.getElem?_append, bnums]
   rw [if_pos hi, Array.getElem?_eq_getElem hi2]; rfl
theorem bytes_nx (w : World) (t : BA) : Nx w (Lib.bytesWorld w 5 t) :=
 ⟨rfl, rfl, rfl, by rw [Lib.bytesWorld_size]; omega, fun i hi => Lib.bytesWorld_at_old w _ t i hi⟩
theorem bnums_set (t : BA) (k : Nat) (c : Int) : (strOfNums ((bnums t).set k c)).data.toList = t.data.toList.set k (UInt8.ofNat c.toNat) := by
 unfold strOfNums bnums
 simp [List.map_set, Function.comp_def]
theorem bent_c (g : Nat) (A : Option Addr) (n c k B : Nat) (ys : List Nat) (t : BA) (w : World) (hb : SrcR w g A n c k) (h : U8s w B A n ys) (hB : B ≤ g) (hn : n ≤ 1048576) (hk : k ≤ 1000000) (ht : t.size ≤ 300) :
 Calls Tryz.prog 119 #[.pointer (some ⟨g, 0, none⟩), .string t] w fun e w' => ∃ t', e = .returned (.string t') ∧ Bnt t t' ∧ SrcR w' g A n c (k + 9) ∧ Rg g (g + 1) w w' := by
 have hz0 := hb.lt
 have rr := Rg.of_nx (lo := g) (hi := g + 1) (Nx.refl w)
 by_cases hz : t.size = 0
 · have hd : decide ((0 : Int) < (t.size : Int)) = false := by simp [hz]
   have hd2 : decide (0 < t.size) = false := by simp [hz]
   clear hz
   go_enter Tryz.func119, Tryz.ntmps119
   go_wp2_with fail
   refine (chanceR_c 9 g A n c k B ys w (by omega) (by omega) hb (h.rg rr hB (Nat.le_of_lt hz0)) hB hn (by omega)).mono ?_
   rintro e w5 ⟨q2, rfl, s5, r5⟩
   have r5' := rr.trans r5
   cases q2 with
   | true =>
     obtain ⟨m1, Hm1⟩ : ∃ m : Nat, Hid (m = t.size + 1) := ⟨_, qh rfl⟩
     have hw : IntKind.i64.wrap ((t.size : Int) + 1) = (m1 : Int) := by rw [IntWalk.i64_in _ (by omega)]; have := Hm1.out; omega
     go_wp2_with fail
     refine (nextM_c m1 g A n c (k + 3) B ys w5 (by have := Hm1.out; omega) (by have := Hm1.out; omega) s5 (h.rg r5' hB (Nat.le_of_lt hz0)) hB hn (by omega)).mono ?_
     rintro e w6 ⟨v, rfl, hv, s6, r6⟩
     obtain ⟨k1, Hk1⟩ : ∃ m : Nat, Hid (m = t.size - v) := ⟨_, qh rfl⟩
     have hx : IntKind.i64.wrap ((t.size : Int) - (v : Int)) = (k1 : Int) := by have := Hm1.out; have := Hk1.out; rw [IntWalk.i64_in _ (by omega)]; have := Hk1.out; have := Hm1.out; omega
     have hle : (k1 : Int) ≤ (t.size : Int) := by have := Hk1.out; omega
     have hle2 : k1 ≤ t.size := by omega
     go_wp2
     go_ret
     exact ⟨_, rfl, .inr ⟨k1, by rw [Lib.extract_data]; simp⟩, s6.more (by omega), r5'.trans r6⟩
   | false =>
     go_wp2
     go_ret
     exact ⟨_, rfl, .inr ⟨t.size, by rw [List.take_of_length_le (by rw [← ba_size]; exact Nat.le_refl _)]⟩, s5.more (by omega), r5'⟩
 have hd : decide ((0 : Int) < (t.size : Int)) = true := decide_eq_true (by omega)
 have hd2 : decide (0 < t.size) = true := decide_eq_true (by omega)
 go_enter Tryz.func119, Tryz.ntmps119
 go_wp2_with fail
 refine (chanceR_c 3 g A n c k B ys w (by omega) (by omega) hb h hB hn (by omega)).mono ?_
 rintro e w1 ⟨q, rfl, s1, r1⟩
 cases q with
 | false =>
   go_wp2_with fail
   refine (chanceR_c 9 g A n c (k + 3) B ys w1 (by omega) (by omega) s1 (h.rg r1 hB (Nat.le_of_lt hz0)) hB hn (by omega)).mono ?_
   rintro e w5 ⟨q2, rfl, s5, r5⟩
   have r5' := r1.trans r5
   cases q2 with
   | true =>
     obtain ⟨m1, Hm1⟩ : ∃ m : Nat, Hid (m = t.size + 1) := ⟨_, qh rfl⟩
     have hw : IntKind.i64.wrap ((t.size : Int) + 1) = (m1 : Int) := by rw [IntWalk.i64_in _ (by omega)]; have := Hm1.out; omega
     go_wp2_with fail
     refine (nextM_c m1 g A n c ((k + 3) + 3) B ys w5 (by have := Hm1.out; omega) (by have := Hm1.out; omega) s5 (h.rg r5' hB (Nat.le_of_lt hz0)) hB hn (by omega)).mono ?_
     rintro e w6 ⟨v, rfl, hv, s6, r6⟩
     obtain ⟨k1, Hk1⟩ : ∃ m : Nat, Hid (m = t.size - v) := ⟨_, qh rfl⟩
     have hx : IntKind.i64.wrap ((t.size : Int) - (v : Int)) = (k1 : Int) := by have := Hm1.out; have := Hk1.out; rw [IntWalk.i64_in _ (by omega)]; have := Hk1.out; have := Hm1.out; omega
     have hle : (k1 : Int) ≤ (t.size : Int) := by have := Hk1.out; omega
     have hle2 : k1 ≤ t.size := by omega
     go_wp2
     go_ret
     exact ⟨_, rfl, .inr ⟨k1, by rw [Lib.extract_data]; simp⟩, s6.more (by omega), r5'.trans r6⟩
   | false =>
     go_wp2
     go_ret
     exact ⟨_, rfl, .inr ⟨t.size, by rw [List.take_of_length_le (by rw [← ba_size]; exact Nat.le_refl _)]⟩, s5.more (by omega), r5'⟩
 | true =>
 have hcv := Lib.run_convert_string_bytes (P := Tryz.prog) w1 9 22 5 t Tryz.underlying9 Tryz.underlying22 Tryz.underlying5
 go_wp2_with fail
 have y0 := bytes_byt w1 t
 have n0 := bytes_nx w1 t
 have r2 := r1.trans (Rg.of_nx (lo := g) (hi := g + 1) n0)
 have s2 := s1.nx n0
 have hgz : g + 1 ≤ w1.heap.size := by have := s1.lt; omega
 have hgw : w.heap.size ≤ w1.heap.size := r1.size
 have hbl := bnums_len t
 clear hcv n0
 generalize Lib.bytesWorld w1 5 t = W at *
 generalize grownCap w1 t.size 0 5 = cc at *
 generalize w1.heap.size = gz at *
 refine (nextM_c t.size g A n c (k + 3) B ys W (by omega) (by omega) s2 (h.rg r2 hB (Nat.le_of_lt hz0)) hB hn (by omega)).mono ?_
 rintro e w3 ⟨v, rfl, hv, s3, r3⟩
 have y3 := y0.rg r3 (.inr hgz)
 replace r3 := r2.trans r3
 clear y0 s2 r2
 go_wp2_with fail
 refine (nextR_c 11 g A n c (k + 6) B ys w3 (by omega) (by omega) s3 (h.rg r3 hB (Nat.le_of_lt hz0)) hB hn (by omega)).mono ?_
 rintro e w4 ⟨u, rfl, hu, s4, r4⟩
 have y4 := y3.rg r4 (.inr hgz)
 replace r4 := r3.trans r4
 clear y3 s3 r3
 have hyc := y4.cell (i := v) (by omega)
 have hyf := y4.frozen (i := v) (by omega)
 have hyl := y4.lt
 have hv1 : (v : Int) < (t.size : Int) := by omega
 have hu1 : (u : Int) < 11 := by omega
 have hcv2 : ∀ q : Int, (convert 22 9 (.slice (some ⟨gz, 0, none⟩) t.size cc)).run Tryz.prog (w4.setCell ⟨gz, v, none⟩ (.int .u8 q)) = .ok (.string (strOfNums ((bnums t).set v q))) (w4.setCell ⟨gz, v, none⟩ (.int .u8 q)) := fun q =>
  run_convert_bytes_arg (P := Tryz.prog) _ 22 5 Tryz.underlying22 Tryz.underlying5 gz 0 t.size cc ((bnums t).set v q) (by rw [List.length_set, hbl]) (fun i hi => by rw [Nat.zero_add]; exact (y4.set (by omega) q).cell (by rw [List.length_set, hbl]; exact hi)) 9 Tryz.underlying9
 go_wp2
 go_ret
 exact ⟨_, rfl, .inl ⟨v, _, bnums_set t v _⟩, (s4.farU (by simp; omega) _).more (by omega), r4.setNew8 hgw _⟩
def DisL (ss : List BA) : Prop := ss.length = 64 ∧ ss.all sOk = true ∧ low2 (ss.getD 0 ByteArray.empty) ∧ low2 (ss.getD 1 ByteArray.empty)
def DisF (ss : List BA) : Prop := ss.length = 64 ∧ ss.all sOk = true ∧ lowB (ss.getD 0 ByteArray.empty) ∧ lowB (ss.getD 1 ByteArray.empty)
theorem DisL.f {ss : List BA} (h : DisL ss) : DisF ss := ⟨h.1, h.2.1, h.2.2.1.low, h.2.2.2.low⟩
theorem sOk_set {ss : List BA} {k : Nat} {t : BA} (h : ss.all sOk = true) (ht : t.size ≤ 300) : (ss.set k t).all sOk = true := by
 rw [List.all_eq_true] at h ⊢
 intro x hx
 rcases List.mem_or_eq_of_mem_set hx with hx | rfl
 · exact h x hx
 · unfold sOk; simpa using ht
theorem sOk_at {ss : List BA} (h : ss.all sOk = true) (k : Nat) : (ss.getD k ByteArray.empty).size ≤ 300 := by
 rw [gdE]
 cases hk : ss[k]? with
 | none => exact Nat.zero_le _
 | some t =>
   have := List.all_eq_true.mp h t (List.mem_of_getElem? hk)
   unfold sOk at this
   simpa using this
theorem noS_dis : DisL noS := ⟨noS_len, by decide +kernel, .inl (by rw [noS_at (by omega)]; rfl), .inl (by rw [noS_at (by omega)]; rfl)⟩
theorem getD_setN {ss : List BA} {k j : Nat} {t : BA} (h : k < ss.length) : (ss.set k t).getD j ByteArray.empty = if j = k then t else ss.getD j ByteArray.empty := by
 rw [gdE, List.getElem?_set, gdE]
 by_cases e : k = j
 · subst e; rw [if_pos rfl, if_pos h, if_pos rfl]; rfl
 · rw [if_neg e, if_neg (fun h => e h.symm)]
theorem DisL.set {ss : List BA} {k : Nat} {t : BA} (h : DisL ss) (hk : k < 64) (ht : t.size ≤ 300) (h2 : low2 t) : DisL (ss.set k t) := by
 have hl : k < ss.length := by rw [h.1]; exact hk
 refine ⟨by rw [List.length_set]; exact h.1, sOk_set h.2.1 ht, ?_, ?_⟩
 · rw [getD_setN hl]; split
   · exact h2
   · exact h.2.2.1
 · rw [getD_setN hl]; split
   · exact h2
   · exact h.2.2.2
theorem DisL.bent {ss : List BA} {t : BA} (h : DisL ss) (hb : Bnt (ss.getD 0 ByteArray.empty) t) : DisF (ss.set 0 t) := by
 have hl : 0 < ss.length := by rw [h.1]; decide
 refine ⟨by rw [List.length_set]; exact h.1, sOk_set h.2.1 (ntr hb.size (sOk_at h.2.1 0)), ?_, ?_⟩
 · rw [getD_setN hl, if_pos rfl]; exact h.2.2.1.bent hb
 · rw [getD_setN hl, if_neg (by decide)]; exact h.2.2.2.low
def SdS (w wr : World) (g : Nat) (A : Option Addr) (n c K gd gb cb : Nat) (A2 : Option Addr) (c2 : Nat) (ss : List BA) : Prop :=
 SrcR wr g A n c K ∧ Rg g (g + 1) w wr ∧ Box wr w.heap.size 35 #[nsl, nsl] ∧ Box wr gd 35 #[.slice (some ⟨gb, 0, none⟩) 64 cb, .slice A2 0 c2] ∧ Own wr gb 9 64 (strAt ss)
section
variable {w wr w' : World} {g : Nat} {A : Option Addr} {n c K K' gd gb cb : Nat} {A2 : Option Addr} {c2 : Nat} {ss : List BA}
theorem SdS.nx (h : SdS w wr g A n c K gd gb cb A2 c2 ss) (hb : Nx wr w') : SdS w w' g A n c K gd gb cb A2 c2 ss :=
 ⟨h.1.nx hb, h.2.1.trans (Rg.of_nx hb), h.2.2.1.nx hb, h.2.2.2.1.nx hb, h.2.2.2.2.nx hb⟩
theorem SdS.more (h : SdS w wr g A n c K gd gb cb A2 c2 ss) (hk : K ≤ K') : SdS w wr g A n c K' gd gb cb A2 c2 ss := ⟨h.1.more hk, h.2⟩
theorem SdS.rg (hg : g < w.heap.size) (hd : w.heap.size < gd) (hb : w.heap.size < gb) (h : SdS w wr g A n c K gd gb cb A2 c2 ss) (q : Rg g (g + 1) wr w') (s : SrcR w' g A n c K') : SdS w w' g A n c K' gd gb cb A2 c2 ss :=
 ⟨s, h.2.1.trans q, h.2.2.1.rg q (.inr (by omega)), h.2.2.2.1.rg q (.inr (by omega)), h.2.2.2.2.rg q (.inr (by omega))⟩
theorem SdS.set (hg : g < w.heap.size) (hb : w.heap.size < gb) (hne : gd ≠ gb) (hl : ss.length = 64) (h : SdS w wr g A n c K gd gb cb A2 c2 ss) {k : Nat} (hk : k < 64) (t : BA) : SdS w (wr.setCell ⟨gb, k, none⟩ (.string t)) g A n c K gd gb cb A2 c2 (ss.set k t) := by
 refine ⟨h.1.farU (by simp; omega) _, h.2.1.setNew8 (by simp; omega) _, h.2.2.1.far (by simp; omega) _, h.2.2.2.1.far hne _, (h.2.2.2.2.set hk _).congr fun i hi => ?_⟩
 unfold strAt
 rw [getD_setN (by omega)]
 by_cases e : i = k
 · rw [if_pos e, if_pos e]
 · rw [if_neg e, if_neg e]
theorem SdS.cell (h : SdS w wr g A n c K gd gb cb A2 c2 ss) {k : Nat} (hk : k < 64) : wr.cell? ⟨gb, k, none⟩ = some (.string (ss.getD k ByteArray.empty)) := h.2.2.2.2.cell hk
end
--BODY
theorem superDisk_c (g : Nat) (A : Option Addr) (n c B k0 : Nat) (ys : List Nat) (w : World) (hb : SrcR w g A n c k0) (h : U8s w B A n ys) (hB : B ≤ g) (hn : n ≤ 1048576) (hk0 : k0 ≤ 900000) :
 Calls Tryz.prog 50 #[.pointer (some ⟨g, 0, none⟩)] w fun e w' => ∃ (A1 : Option Addr) (c1 : Nat) (A2 : Option Addr) (c2 : Nat) (ss : List BA), e = .returned (.agg #[.slice A1 64 c1, .slice A2 0 c2]) ∧ DisF ss ∧ SlS w' w.heap.size A1 64 ss ∧ SrcR w' g A n c (k0 + 300) ∧ Rg g (g + 1) w w' := by
 have hz0 := hb.lt
 have bR := Box.new w 35 #[nsl, nsl]
 have hx0 := (Nx.refl w).alloc (.cells #[nsl, nsl] 35)
 go_enter Tryz.func50, Tryz.ntmps50
 go_wp2_with fail
 generalize w.alloc (.cells #[nsl, nsl] 35) = W at *
 refine (specNewDisk_c W).mono ?_
 rintro e w1 ⟨A1, n1, cb, A2, n2, c2, rfl, hS, hW, hn1⟩
 obtain rfl : 64 = n1 := noS_len.symm.trans hS.1
 obtain rfl : 0 = n2 := hW.1
 obtain ⟨gb, rfl, hgb0, ho⟩ := hS.2 (by omega)
 have hWl := bR.lt
 have hgb : w.heap.size < gb := by omega
 have hgbl := Own.lt ho
 clear hS hW
 go_wp2_with fail
 have h3 : SdS w (w1.alloc (.cells #[.slice (some ⟨gb, 0, none⟩) 64 cb, .slice A2 0 c2] 35)) g A n c k0 w1.heap.size gb cb A2 c2 noS := by
  have hx1 := (Nx.refl w1).alloc (.cells #[.slice (some ⟨gb, 0, none⟩) 64 cb, .slice A2 0 c2] 35)
  have hx := (hx0.trans hn1).trans hx1
  unfold OwnS at ho
  rw [noS_len] at ho
  exact ⟨hb.nx hx, Rg.of_nx hx, (bR.nx hn1).nx hx1, Box.new w1 _ _, ho.nx hx1⟩
 have hgd : w.heap.size < w1.heap.size := by have := hn1.size; omega
 have hne : w1.heap.size ≠ gb := by omega
 clear hb bR hx0 hn1 ho
 generalize w1.alloc (.cells #[.slice (some ⟨gb, 0, none⟩) 64 cb, .slice A2 0 c2] 35) = w2 at *
 generalize w1.heap.size = gd at *
 go_loopw [4] (fun i wr => ∃ (k : Nat) (ss : List BA), k ≤ 2 ∧ i = ii k ∧ Hid (DisL ss) ∧ SdS w wr g A n c (k0 + 103 * k) gd gb cb A2 c2 ss) (fun i _ => 2 - (intOf i).toNat)
 case atStart => exact ⟨0, noS, by omega, rfl, qh noS_dis, h3⟩
 case round =>
  obtain ⟨k, ss, hk, rfl, HD, hs⟩ := hrel
  clear h3
  by_cases hlt : k < 2
  · have hdk : decide ((k : Int) < 2) = true := by simp; omega
    go_wp2_with fail
    refine (chanceU_c 5 g A n c (k0 + 103 * k) B ys _ (by omega) (by omega) hs.1 (h.rg hs.2.1 hB (Nat.le_of_lt hz0)) hB hn (by omega)).mono ?_
    rintro e w4 ⟨ch, rfl, s4, r4⟩
    have h4 := hs.rg hz0 hgd hgb r4 s4
    clear hs s4 r4
    cases ch with
    | true =>
      go_wp2
      go_roundw
      case rel => exact ⟨k + 1, ss, by omega, by go_num, HD, h4.more (by omega)⟩
      case measure => simp [intOf]; omega
    | false =>
      have hi1 : (k : Int) < 64 := by omega
      have hi2 : (0 : Int) ≤ (k : Int) := by omega
      go_wp2_with fail
      refine wp_planA (.t 0 (.t 1 (.t 2 (.t 3 (.c 4 (.c 5 (.t 6 (.c 7 .e)))))))) (fun w' => w'.cell? ⟨gd, 0, none⟩ = some (.slice (some ⟨gb, 0, none⟩) 64 cb)) (by exact (h4.nx (Nx.refl w4).drew).2.2.2.1.c0) ?_
      simp only [psOf, List.getD_cons_zero, List.getD_cons_succ]
      repeat ((first | refine HP.tk ?_ | refine HP.sk ?_); try simp only [Act.put, qqA, qqB, qqC])
      refine hPc fun K hK => ?_
      go_simp
      refine (super50_c g A n c B (k0 + 103 * k + 3) ys _ (h4.nx (Nx.refl w4).drew).1 (h.rg (h4.nx (Nx.refl w4).drew).2.1 hB (Nat.le_of_lt hz0)) hB hn (by omega)).mono ?_; rintro e w5 ⟨q0, q1, q2, q3, A7, c7, xs, A8, c8, ms, rfl, hok, h50, hl5, hc7, ham, hS, hM, s5, r5⟩; have h5 := (h4.nx (Nx.refl w4).drew).rg hz0 hgd hgb r5 s5; have HOK := qh hok; have H50 := qh h50; clear hok h50
      go_wp2_with fail
      refine hK.out _ _ (by exact h5.2.2.2.1.c0) ?_
      clear hK K
      try simp only [Act.put, qqA, qqB, qqC]
      refine hPc fun K hK => ?_
      go_simp
      refine (l04Text_c q0 q1 q2 q3 A7 A8 c7 c8 _ xs ms _ hS.row hM.row nle HOK.out).mono ?_; rintro e w6 ⟨rfl, hn6⟩; have h6 := h5.nx hn6; obtain ⟨t, Ht⟩ : ∃ t, Hid (supT q0 q1 q2 q3 xs ms = t) := ⟨_, rfl⟩; rw [show sealS (numsS (supN q0 q1 q2 q3 xs) ++ ⟨#[124]⟩ ++ jn (wds ms)) = t from Ht.out]; have y0 := h6.cell (k := k) (by omega); have yf := h6.2.2.2.2.frozen k; have yl := h6.2.2.2.2.lt
      go_wp2_with fail
      refine hK.out _ _ (by exact h6.2.2.2.1.c0) ?_
      clear hK K
      try simp only [Act.put, qqA, qqB, qqC]
      repeat ((first | refine HP.tk ?_ | refine HP.sk ?_); try simp only [Act.put, qqA, qqB, qqC])
      refine hPc fun K hK => ?_
      go_simp
      refine hK.out _ _ (by exact (h6.2.2.2.1.far (p := ⟨gb, k, none⟩) hne _).c0) ?_
      clear hK K
      try simp only [Act.put, qqA, qqB, qqC]
      refine HP.done ?_
      have h7 := h6.set hz0 hgb hne HD.out.1 (k := k) (by omega) t
      have HT : Hid (DisL (ss.set k t)) := qh (HD.out.set (by omega) (by rw [← Ht.out]; have := supT_size (g := q0 - 1) (b := q1) (p := q2) (t := q3) (xs := xs) (ms := ms) (by rw [Int.sub_add_cancel]; exact HOK.out); rwa [Int.sub_add_cancel] at this) (by rw [← Ht.out]; exact supT_low (by have := (superB_yes HOK.out).1; omega) H50.out))
      clear y0 yf yl
      go_wp2
      go_roundw
      case rel => exact ⟨k + 1, ss.set k t, by omega, by go_num, HT, h7.more (by omega)⟩
      case measure => simp [intOf]; omega
  · have hdk : decide ((k : Int) < 2) = false := by simp; omega
    go_wp2_with fail
    refine (chanceU_c 9 g A n c (k0 + 103 * k) B ys _ (by omega) (by omega) hs.1 (h.rg hs.2.1 hB (Nat.le_of_lt hz0)) hB hn (by omega)).mono ?_
    rintro e w7 ⟨ch, rfl, s4, r4⟩
    have h7 := hs.rg hz0 hgd hgb r4 s4
    clear hs s4 r4
    cases ch with
    | false =>
      obtain ⟨v0, v1⟩ : w7.cell? ⟨gd, 0, none⟩ = some (.slice (some ⟨gb, 0, none⟩) 64 cb) ∧ w7.cell? ⟨gd, 1, none⟩ = some (.slice A2 0 c2) := ⟨h7.2.2.2.1.c0, h7.2.2.2.1.c1⟩
      obtain ⟨r0, r1⟩ : w7.cell? ⟨w.heap.size, 0, none⟩ = some (nsl) ∧ w7.cell? ⟨w.heap.size, 1, none⟩ = some (nsl) := ⟨h7.2.2.1.c0, h7.2.2.1.c1⟩
      have rf0 := h7.2.2.1.frozen 0
      have rf1 := h7.2.2.1.frozen 1
      have rl := h7.2.2.1.lt
      go_wp2
      have rq := (h7.2.2.1.set0 (.slice (some ⟨gb, 0, none⟩) 64 cb)).set1 (.slice A2 0 c2)
      have rs := (h7.1.farU (p := ⟨w.heap.size, 0, none⟩) (by simp; omega) (.slice (some ⟨gb, 0, none⟩) 64 cb)).farU (p := ⟨w.heap.size, 1, none⟩) (by simp; omega) (.slice A2 0 c2)
      have ro := (h7.2.2.2.2.far (p := ⟨w.heap.size, 0, none⟩) (by simp; omega) (.slice (some ⟨gb, 0, none⟩) 64 cb)).far (p := ⟨w.heap.size, 1, none⟩) (by simp; omega) (.slice A2 0 c2)
      have rr := (h7.2.1.setNew8 (p := ⟨w.heap.size, 0, none⟩) (by simp) (.slice (some ⟨gb, 0, none⟩) 64 cb)).setNew8 (p := ⟨w.heap.size, 1, none⟩) (by simp) (.slice A2 0 c2)
      generalize (w7.setCell ⟨w.heap.size, 0, none⟩ (.slice (some ⟨gb, 0, none⟩) 64 cb)).setCell ⟨w.heap.size, 1, none⟩ (.slice A2 0 c2) = Wf at *
      have q0 := rq.c0
      have q1 := rq.c1
      exact bodyPost_ret (v := .agg #[.slice (some ⟨gb, 0, none⟩) 64 cb, .slice A2 0 c2]) (by simp [results, Tryz.results50, go_sem, q0, q1]) rfl ⟨_, cb, A2, c2, ss, rfl, HD.out.f, ⟨HD.out.f.1, fun _ => ⟨gb, rfl, by omega, by unfold OwnS; rw [HD.out.f.1]; exact ro⟩⟩, rs.more (by omega), rr⟩
    | true =>
      go_wp2_with fail
      have h8 := h7.nx (Nx.refl w7).drew
      refine wp_planA (.t 0 (.t 1 (.t 2 (.t 3 (.t 4 (.t 5 (.c 6 (.c 7 (.t 8 (.c 9 .e)))))))))) (fun w' => w'.cell? ⟨gd, 0, none⟩ = some (.slice (some ⟨gb, 0, none⟩) 64 cb)) (by exact h8.2.2.2.1.c0) ?_
      simp only [psOf, List.getD_cons_zero, List.getD_cons_succ]
      change HP _ _ _ _ _ _ w7.drew
      generalize w7.drew = wd at h8 ⊢
      have y0 := h8.cell (k := 0) (by omega)
      repeat ((first | refine HP.tk ?_ | refine HP.sk ?_); try simp only [Act.put, qqA, qqB, qqC])
      refine hPc fun K hK => ?_
      go_simp
      refine hK.out _ _ (by exact h8.2.2.2.1.c0) ?_
      clear hK K
      try simp only [Act.put, qqA, qqB, qqC]
      refine hPc fun K hK => ?_
      go_simp
      refine (bent_c g A n c (k0 + 103 * k + 3) B ys _ _ h8.1 (h.rg h8.2.1 hB (Nat.le_of_lt hz0)) hB hn (by omega) (sOk_at HD.out.2.1 0)).mono ?_; rintro e w8 ⟨t, rfl, hbt, s8, r8⟩; have HB := qh hbt; have h9 := h8.rg hz0 hgd hgb r8 s8; clear hbt y0; have y0 := h9.cell (k := 0) (by omega); have yf := h9.2.2.2.2.frozen 0; have yl := h9.2.2.2.2.lt
      go_wp2_with fail
      refine hK.out _ _ (by exact h9.2.2.2.1.c0) ?_
      clear hK K
      try simp only [Act.put, qqA, qqB, qqC]
      repeat ((first | refine HP.tk ?_ | refine HP.sk ?_); try simp only [Act.put, qqA, qqB, qqC])
      refine hPc fun K hK => ?_
      go_simp
      refine hK.out _ _ (by exact (h9.2.2.2.1.far (p := ⟨gb, 0, none⟩) hne _).c0) ?_
      clear hK K
      try simp only [Act.put, qqA, qqB, qqC]
      refine HP.done ?_
      have h10 := h9.set hz0 hgb hne HD.out.1 (k := 0) (by omega) t
      have HF := qh (HD.out.bent HB.out)
      clear y0 yf yl
      generalize w8.setCell ⟨gb, 0, none⟩ (.string t) = w10 at *
      obtain ⟨v0, v1⟩ : w10.cell? ⟨gd, 0, none⟩ = some (.slice (some ⟨gb, 0, none⟩) 64 cb) ∧ w10.cell? ⟨gd, 1, none⟩ = some (.slice A2 0 c2) := ⟨h10.2.2.2.1.c0, h10.2.2.2.1.c1⟩
      obtain ⟨r0, r1⟩ : w10.cell? ⟨w.heap.size, 0, none⟩ = some (nsl) ∧ w10.cell? ⟨w.heap.size, 1, none⟩ = some (nsl) := ⟨h10.2.2.1.c0, h10.2.2.1.c1⟩
      have rf0 := h10.2.2.1.frozen 0
      have rf1 := h10.2.2.1.frozen 1
      have rl := h10.2.2.1.lt
      go_wp2
      have rq := (h10.2.2.1.set0 (.slice (some ⟨gb, 0, none⟩) 64 cb)).set1 (.slice A2 0 c2)
      have rs := (h10.1.farU (p := ⟨w.heap.size, 0, none⟩) (by simp; omega) (.slice (some ⟨gb, 0, none⟩) 64 cb)).farU (p := ⟨w.heap.size, 1, none⟩) (by simp; omega) (.slice A2 0 c2)
      have ro := (h10.2.2.2.2.far (p := ⟨w.heap.size, 0, none⟩) (by simp; omega) (.slice (some ⟨gb, 0, none⟩) 64 cb)).far (p := ⟨w.heap.size, 1, none⟩) (by simp; omega) (.slice A2 0 c2)
      have rr := (h10.2.1.setNew8 (p := ⟨w.heap.size, 0, none⟩) (by simp) (.slice (some ⟨gb, 0, none⟩) 64 cb)).setNew8 (p := ⟨w.heap.size, 1, none⟩) (by simp) (.slice A2 0 c2)
      generalize (w10.setCell ⟨w.heap.size, 0, none⟩ (.slice (some ⟨gb, 0, none⟩) 64 cb)).setCell ⟨w.heap.size, 1, none⟩ (.slice A2 0 c2) = Wf at *
      have q0 := rq.c0
      have q1 := rq.c1
      exact bodyPost_ret (v := .agg #[.slice (some ⟨gb, 0, none⟩) 64 cb, .slice A2 0 c2]) (by simp [results, Tryz.results50, go_sem, q0, q1]) rfl ⟨_, cb, A2, c2, _, rfl, HF.out, ⟨HF.out.1, fun _ => ⟨gb, rfl, by omega, by unfold OwnS; rw [HF.out.1]; exact ro⟩⟩, rs.more (by omega), rr⟩
def RetWS (w : World) (ss : List BA) (ws : List (Int × BA)) (b p t : Int) (xs : List Int) (ms : List Mrk) (o : Option (U6 × Int)) (e : Ending) (w' : World) : Prop :=
 Nx w w' ∧ (o = none → e = .returned (.tuple #[.agg #[nsl, nsl], slE 1 19])) ∧ (∀ u s, o = some (u, s) → u.1 = 999999 → e = .returned (.tuple #[.agg #[nsl, nsl], slE s 7])) ∧
 ∀ u s, o = some (u, s) → u.1 ≠ 999999 → ∃ A n c A2 n2 c2, e = .returned (.tuple #[.agg #[.slice A n c, .slice A2 n2 c2], .nilIface]) ∧ SlS w' w.heap.size A n (settleTo kpAll ss ws ws.length) ∧ SlW w' w.heap.size A2 n2 ([] ++ [(1 - s, nxtS u b p t xs ms)])
section
variable {w w' : World} {ss : List BA} {ws : List (Int × BA)} {b p t : Int} {xs : List Int} {ms : List Mrk} {o : Option (U6 × Int)} {u : U6} {s : Int}
theorem RetWS.no (h : o = none) (hn : Nx w w') : RetWS w ss ws b p t xs ms o (.returned (.tuple #[.agg #[nsl, nsl], slE 1 19])) w' :=
 ⟨hn, (fun _ => rfl), (fun u s h2 => by rw [h] at h2; cases h2), fun u s h2 => by rw [h] at h2; cases h2⟩
theorem RetWS.full (h : o = some (u, s)) (h9 : u.1 = 999999) (hn : Nx w w') : RetWS w ss ws b p t xs ms o (.returned (.tuple #[.agg #[nsl, nsl], slE s 7])) w' :=
 ⟨hn, (fun h2 => by rw [h] at h2; cases h2), (fun u' s' h2 _ => by rw [h] at h2; cases h2; rfl), fun u' s' h2 h3 => by rw [h] at h2; cases h2; exact absurd h9 h3⟩
theorem RetWS.yes {A A2 : Option Addr} {n c n2 c2 : Nat} {R1 : List BA} (h : o = some (u, s)) (h9 : u.1 ≠ 999999 ∧ R1 = settleTo kpAll ss ws ws.length) (hS : SlS w' w.heap.size A n R1) (hW : SlW w' w.heap.size A2 n2 ([] ++ [(1 - s, nxtS u b p t xs ms)])) (hn : Nx w w') :
 RetWS w ss ws b p t xs ms o (.returned (.tuple #[.agg #[.slice A n c, .slice A2 n2 c2], .nilIface])) w' :=
 ⟨hn, (fun h2 => by rw [h] at h2; cases h2), (fun u' s' h2 h3 => by rw [h] at h2; cases h2; exact absurd h3 h9.1), fun u' s' h2 _ => by rw [h] at h2; cases h2; rw [h9.2] at hS; exact ⟨A, n, c, A2, n2, c2, rfl, hS, hW⟩⟩
end
theorem withSuper_c (A A2 : Option Addr) (n c n2 c2 B : Nat) (ss : List BA) (ws : List (Int × BA)) (g b p t : Int) (Ax Am : Option Addr) (cx cm : Nat) (xs : List Int) (ms : List Mrk) (w : World) (a0 a1 : Addr) (h : Strs w B A n ss) (h2 : Wrs w B A2 n2 ws) (hs : Ins w B Ax xs) (hmk : Mks w B Am ms) (hB : B ≤ w.heap.size) (hD : diskB ss ws = true) (hO : superB g b p t xs ms = true)
 (hE : Er w a0 a1) (hM : Mx w) (hEt : Et w) (hT : Tab w) :
 Calls Tryz.prog 54 #[.agg #[.slice A n c, .slice A2 n2 c2], .agg #[ii g, ii b, ii p, ii t, .slice Ax xs.length cx, .slice Am ms.length cm]] w (RetWS w ss ws b p t xs ms (newU (rdU (readP ss ws 0)) (rdU (readP ss ws 1)))) := by
 have HD := qh hD
 have HO := qh hO
 clear hD hO
 obtain rfl : n = 64 := by rw [← h.1]; exact (diskB_len64 HD.out).1
 have HL64 := qh (diskB_len64 HD.out).1
 have hn80 : n2 ≤ 80 := by rw [← h2.1]; exact (diskB_len64 HD.out).2.1
 have HWo := qh (diskB_len64 HD.out).2.2.2
 have e0 : Box (((w.alloc (.cells #[.slice A 64 c, .slice A2 n2 c2] 35)).alloc (.cells #[ii g, ii b, ii p, ii t, .slice Ax xs.length cx, .slice Am ms.length cm] 26)).alloc (.cells #[nsl, nsl] 35)) w.heap.size 35 #[.slice A 64 c, .slice A2 n2 c2] := ((Box.new w _ _).alloc _).alloc _
 have b0 : Box (((w.alloc (.cells #[.slice A 64 c, .slice A2 n2 c2] 35)).alloc (.cells #[ii g, ii b, ii p, ii t, .slice Ax xs.length cx, .slice Am ms.length cm] 26)).alloc (.cells #[nsl, nsl] 35)) (w.heap.size + 1) 26 #[ii g, ii b, ii p, ii t, .slice Ax xs.length cx, .slice Am ms.length cm] := by have := (Box.new (w.alloc (.cells #[.slice A 64 c, .slice A2 n2 c2] 35)) 26 #[ii g, ii b, ii p, ii t, .slice Ax xs.length cx, .slice Am ms.length cm]).alloc (.cells #[nsl, nsl] 35); rwa [World.size_alloc] at this
 have r0 : Box (((w.alloc (.cells #[.slice A 64 c, .slice A2 n2 c2] 35)).alloc (.cells #[ii g, ii b, ii p, ii t, .slice Ax xs.length cx, .slice Am ms.length cm] 26)).alloc (.cells #[nsl, nsl] 35)) (w.heap.size + 1 + 1) 35 #[nsl, nsl] := by have := Box.new ((w.alloc (.cells #[.slice A 64 c, .slice A2 n2 c2] 35)).alloc (.cells #[ii g, ii b, ii p, ii t, .slice Ax xs.length cx, .slice Am ms.length cm] 26)) 35 #[nsl, nsl]; rwa [World.size_alloc, World.size_alloc] at this
 have hx0 := (((Nx.refl w).alloc (.cells #[.slice A 64 c, .slice A2 n2 c2] 35)).alloc (.cells #[ii g, ii b, ii p, ii t, .slice Ax xs.length cx, .slice Am ms.length cm] 26)).alloc (.cells #[nsl, nsl] 35)
 go_enter Tryz.func54, Tryz.ntmps54
 go_wp2_with fail
 generalize (((w.alloc (.cells #[.slice A 64 c, .slice A2 n2 c2] 35)).alloc (.cells #[ii g, ii b, ii p, ii t, .slice Ax xs.length cx, .slice Am ms.length cm] 26)).alloc (.cells #[nsl, nsl] 35)) = W at *
 obtain ⟨gS, HgS⟩ : ∃ g, Hid (w.heap.size + 1 = g) := ⟨_, rfl⟩
 obtain ⟨gD, HgD⟩ : ∃ g, Hid (w.heap.size + 1 + 1 = g) := ⟨_, rfl⟩
 have hgS : w.heap.size ≤ gS := by have := HgS.out; omega
 have hgD : w.heap.size ≤ gD := by have := HgD.out; omega
 have hneE : w.heap.size ≠ gD := by have := HgD.out; omega
 have hneE2 : w.heap.size ≠ gS := by have := HgS.out; omega
 have hneS : gS ≠ gD := by have := HgS.out; have := HgD.out; omega
 rw [HgD.out, HgS.out]
 rw [HgS.out] at b0
 rw [HgD.out] at r0
 refine (newestSuper_c A A2 64 c n2 c2 B ss ws _ a0 a1 (h.below hx0 hB) (h2.below hx0 hB) (ntr hB hx0.size) (by omega) (by omega) (by omega) (by have := readP_size HD.out 0; omega) (by have := readP_size HD.out 1; omega) (hE.nx hx0) (hM.nx hx0) (hEt.nx hx0)).mono ?_
 rintro e w2 ⟨hnx2, h1', h3⟩
 have e2 := e0.nx hnx2
 have b2 := b0.nx hnx2
 have r2 := r0.nx hnx2
 have hx2 := hx0.trans hnx2
 clear e0 b0 r0 hx0 hnx2
 cases hu : newU (rdU (readP ss ws 0)) (rdU (readP ss ws 1)) with
 | none =>
   have he := h1' hu
   unfold slE at he
   subst he
   have HU := qh hu
   clear h1' h3 hu
   have m0 := r2.c0
   have m1 := r2.c1
   have mf0 := r2.frozen 0
   have mf1 := r2.frozen 1
   have mlt := r2.lt
   go_wp2
   have rq := ((r2.set0 (nsl)).set1 (nsl))
   have hnf := ((hx2.setCell (p := ⟨gD, 0, none⟩) hgD (nsl)).setCell (p := ⟨gD, 1, none⟩) hgD (nsl))
   replace rq := rq.alloc (.cells #[ii 0, ii 0, ii 0, ii 0, nsl, nsl] 26)
   replace hnf := hnf.alloc (.cells #[ii 0, ii 0, ii 0, ii 0, nsl, nsl] 26)
   change bodyPost _ _ _ _ _ (World.alloc ((w2.setCell ⟨gD, 0, none⟩ (nsl)).setCell ⟨gD, 1, none⟩ (nsl)) (.cells #[ii 0, ii 0, ii 0, ii 0, nsl, nsl] 26))
   generalize (World.alloc ((w2.setCell ⟨gD, 0, none⟩ (nsl)).setCell ⟨gD, 1, none⟩ (nsl)) (.cells #[ii 0, ii 0, ii 0, ii 0, nsl, nsl] 26)) = Wf at *
   have q0 := rq.c0
   have q1 := rq.c1
   exact bodyPost_ret (v := .tuple #[.agg #[nsl, nsl], .iface 159 (.agg #[ii 1, ii 19])]) (by simp [results, Tryz.results54, go_sem, q0, q1]) rfl (RetWS.no HU.out hnf)
 | some us =>
   obtain ⟨u, s⟩ := us
   have hsl := newU_slot hu
   have hgn := newU_gen rfl rfl hu
   obtain ⟨Bx, dx, Bm, dm, he, hfit⟩ := h3 u s hu
   have HU := qh hu
   clear h1' h3 hfit hu
   by_cases h9 : u.1 = 999999
   · have H9 := qh h9
     obtain ⟨ug, ub, up, uq, uxs, ums⟩ := u
     have h9' : (ug == 999999) = true := beq_iff_eq.2 h9
     replace he : e = .returned (.tuple #[.agg #[ii ug, ii ub, ii up, ii uq, .slice Bx uxs.length dx, .slice Bm ums.length dm], ii s, .nilIface]) := he
     subst he
     clear h9
     have m0 := r2.c0
     have m1 := r2.c1
     have mf0 := r2.frozen 0
     have mf1 := r2.frozen 1
     have mlt := r2.lt
     go_wp2
     have rq := ((r2.set0 (nsl)).set1 (nsl))
     have hnf := ((hx2.setCell (p := ⟨gD, 0, none⟩) hgD (nsl)).setCell (p := ⟨gD, 1, none⟩) hgD (nsl))
     replace rq := rq.alloc (.cells #[ii ug, ii ub, ii up, ii uq, .slice Bx uxs.length dx, .slice Bm ums.length dm] 26)
     replace hnf := hnf.alloc (.cells #[ii ug, ii ub, ii up, ii uq, .slice Bx uxs.length dx, .slice Bm ums.length dm] 26)
     change bodyPost _ _ _ _ _ (World.alloc ((w2.setCell ⟨gD, 0, none⟩ (nsl)).setCell ⟨gD, 1, none⟩ (nsl)) (.cells #[ii ug, ii ub, ii up, ii uq, .slice Bx uxs.length dx, .slice Bm ums.length dm] 26))
     generalize (World.alloc ((w2.setCell ⟨gD, 0, none⟩ (nsl)).setCell ⟨gD, 1, none⟩ (nsl)) (.cells #[ii ug, ii ub, ii up, ii uq, .slice Bx uxs.length dx, .slice Bm ums.length dm] 26)) = Wf at *
     have q0 := rq.c0
     have q1 := rq.c1
     exact bodyPost_ret (v := .tuple #[.agg #[nsl, nsl], .iface 159 (.agg #[ii s, ii 7])]) (by simp [results, Tryz.results54, go_sem, q0, q1]) rfl (RetWS.full HU.out H9.out hnf)
   · have H9 : Hid (u.1 ≠ 999999 ∧ settleTo kpAll ss ws n2 = settleTo kpAll ss ws ws.length) := qh ⟨h9, by rw [h2.1]⟩
     have HOK' := qh (nxt_super HO.out hgn h9)
     obtain ⟨ug, ub, up, uq, uxs, ums⟩ := u
     have HOK : Hid (superB (ug + 1) b p t xs ms = true) := HOK'
     replace hgn : 1 ≤ ug ∧ ug ≤ 999999 := hgn
     have h9' : (ug == 999999) = false := beq_eq_false_iff_ne.2 h9
     replace he : e = .returned (.tuple #[.agg #[ii ug, ii ub, ii up, ii uq, .slice Bx uxs.length dx, .slice Bm ums.length dm], ii s, .nilIface]) := he
     subst he
     clear h9
     obtain ⟨y0, y1, y2, y3, y4, y5⟩ := b2.d6
     have yf := b2.frozen 0
     have ylt := b2.lt
     go_wp2_with fail
     have e3 := (e2.far (p := ⟨gS, 0, none⟩) hneE2 (ii (ug + 1))).alloc (.cells #[ii ug, ii ub, ii up, ii uq, .slice Bx uxs.length dx, .slice Bm ums.length dm] 26)
     have b3 := (b2.set 0 (ii (ug + 1))).alloc (.cells #[ii ug, ii ub, ii up, ii uq, .slice Bx uxs.length dx, .slice Bm ums.length dm] 26)
     have r3 := (r2.far (p := ⟨gS, 0, none⟩) hneS.symm (ii (ug + 1))).alloc (.cells #[ii ug, ii ub, ii up, ii uq, .slice Bx uxs.length dx, .slice Bm ums.length dm] 26)
     have hx3 := (hx2.setCell (p := ⟨gS, 0, none⟩) hgS (ii (ug + 1))).alloc (.cells #[ii ug, ii ub, ii up, ii uq, .slice Bx uxs.length dx, .slice Bm ums.length dm] 26)
     simp only [List.setIfInBounds_toArray, List.set_cons_zero] at b3
     clear y0 y1 y2 y3 y4 y5 yf ylt e2 b2 r2 hx2
     generalize (w2.setCell ⟨gS, 0, none⟩ (ii (ug + 1))).alloc (.cells #[ii ug, ii ub, ii up, ii uq, .slice Bx uxs.length dx, .slice Bm ums.length dm] 26) = w3 at *
     refine wp_planA (.t 0 (.t 2 (.t 4 (.c 1 (.c 3 (.c 5 (.c 6 (.c 7 (.t 8 .e))))))))) (fun w' => (w'.cell? ⟨w.heap.size, 0, none⟩ = some (.slice A 64 c) ∧ w'.cell? ⟨w.heap.size, 1, none⟩ = some (.slice A2 n2 c2)) ∧ (w'.cell? ⟨gS, 0, none⟩ = some (ii (ug + 1)) ∧ w'.cell? ⟨gS, 1, none⟩ = some (ii b) ∧ w'.cell? ⟨gS, 2, none⟩ = some (ii p) ∧ w'.cell? ⟨gS, 3, none⟩ = some (ii t) ∧ w'.cell? ⟨gS, 4, none⟩ = some (.slice Ax xs.length cx) ∧ w'.cell? ⟨gS, 5, none⟩ = some (.slice Am ms.length cm))) (by exact ⟨⟨e3.c0, e3.c1⟩, b3.d6⟩) ?_
     simp only [psOf, List.getD_cons_zero, List.getD_cons_succ]
     repeat ((first | refine HP.tk ?_ | refine HP.sk ?_); try simp only [Act.put, qqA, qqB, qqC])
     refine hPc fun K hK => ?_
     go_simp
     refine (flushed_c A A2 c n2 c2 B ss ws _ (h.below hx3.drew hB) (h2.below hx3.drew hB) (ntr hB hx3.drew.size) (by omega) HWo.out).mono ?_; rintro e w5 ⟨A5, n5, c5, A6, n6, c6, rfl, hSF, hWF, hny5⟩; obtain rfl : n5 = 64 := (by rw [← hSF.1, settleTo_len]; exact HL64.out); obtain rfl : n6 = 0 := hWF.1.symm; have e5 := e3.nx (Nx.drew_r hny5); have b5 := b3.nx (Nx.drew_r hny5); have r5 := r3.nx (Nx.drew_r hny5); have hx5 := hx3.trans (Nx.drew_r hny5)
     go_wp2_with fail
     refine hK.out _ _ (by exact ⟨⟨e5.c0, e5.c1⟩, b5.d6⟩) ?_
     clear hK K
     try simp only [Act.put, qqA, qqB, qqC]
     refine hPc fun K hK => ?_
     go_simp
     refine (otherSlot_c s _ (by rcases hsl with rfl | rfl <;> omega) (by rcases hsl with rfl | rfl <;> omega)).mono ?_; rintro e w6 ⟨rfl, hq6⟩; have hny6 : Nx w5 w6 := hq6 ▸ Nx.refl _; have e6 := e5.nx hny6; have b6 := b5.nx hny6; have r6 := r5.nx hny6; have hx6 := hx5.trans hny6; have hSF := hSF.nx hny6; have hWF := hWF.nx hny6; clear hq6
     go_wp2_with fail
     refine hK.out _ _ (by exact ⟨⟨e6.c0, e6.c1⟩, b6.d6⟩) ?_
     clear hK K
     try simp only [Act.put, qqA, qqB, qqC]
     refine hPc fun K hK => ?_
     go_simp
     refine (superText_c (ug + 1) b p t Ax Am cx cm B xs ms _ (hs.below hx6 hB) (hmk.below hx6 hB) (ntr hB hx6.size) HOK.out (hT.nx hx6)).mono ?_; rintro e w7 ⟨rfl, hny7⟩; have e7 := e6.nx hny7; have b7 := b6.nx hny7; have r7 := r6.nx hny7; have hx7 := hx6.trans hny7; have hSF := hSF.nx hny7; have hWF := hWF.nx hny7
     go_wp2_with fail
     refine hK.out _ _ (by exact ⟨⟨e7.c0, e7.c1⟩, b7.d6⟩) ?_
     clear hK K
     try simp only [Act.put, qqA, qqB, qqC]
     refine hPc fun K hK => ?_
     go_simp
     refine (written_c A5 A6 64 c5 0 c6 _ _ [] (1 - s) _ _ hSF.strs hWF.wrs nle (by omega) (by omega)).mono ?_; rintro e w8 ⟨A8, n8, c8, A9, n9, c9, rfl, hS8, hW8, hny8⟩; have hlt9 : gD < w7.heap.size := r7.lt; have e8 := e7.nx hny8; have b8 := b7.nx hny8; have r8 := r7.nx hny8; have hx8 := hx7.trans hny8
     go_wp2_with fail
     refine hK.out _ _ (by exact ⟨⟨e8.c0, e8.c1⟩, b8.d6⟩) ?_
     clear hK K
     try simp only [Act.put, qqA, qqB, qqC]
     have m0 := r8.c0
     have m1 := r8.c1
     have mf0 := r8.frozen 0
     have mf1 := r8.frozen 1
     have mlt := r8.lt
     refine hPc fun K hK => ?_
     go_simp
     refine hK.out _ _ (by exact ⟨⟨((e8.far (p := ⟨gD, 0, none⟩) hneE _).far (p := ⟨gD, 1, none⟩) hneE _).c0, ((e8.far (p := ⟨gD, 0, none⟩) hneE _).far (p := ⟨gD, 1, none⟩) hneE _).c1⟩, ((b8.far (p := ⟨gD, 0, none⟩) hneS _).far (p := ⟨gD, 1, none⟩) hneS _).d6⟩) ?_
     clear hK K
     try simp only [Act.put, qqA, qqB, qqC]
     repeat ((first | refine HP.tk ?_ | refine HP.sk ?_); try simp only [Act.put, qqA, qqB, qqC])
     refine HP.done ?_
     clear m0 m1 mf0 mf1
     go_wp2
     have rq := ((r8.set0 (.slice A8 n8 c8)).set1 (.slice A9 n9 c9))
     have hnf := ((hx8.setCell (p := ⟨gD, 0, none⟩) hgD (.slice A8 n8 c8)).setCell (p := ⟨gD, 1, none⟩) hgD (.slice A9 n9 c9))
     have hSf := ((hS8.far (p := ⟨gD, 0, none⟩) hlt9 (.slice A8 n8 c8)).far (p := ⟨gD, 1, none⟩) hlt9 (.slice A9 n9 c9))
     have hWf := ((hW8.far (p := ⟨gD, 0, none⟩) hlt9 (.slice A8 n8 c8)).far (p := ⟨gD, 1, none⟩) hlt9 (.slice A9 n9 c9))
     change bodyPost _ _ _ _ _ ((w8.setCell ⟨gD, 0, none⟩ (.slice A8 n8 c8)).setCell ⟨gD, 1, none⟩ (.slice A9 n9 c9))
     generalize ((w8.setCell ⟨gD, 0, none⟩ (.slice A8 n8 c8)).setCell ⟨gD, 1, none⟩ (.slice A9 n9 c9)) = Wf at *
     have q0 := rq.c0
     have q1 := rq.c1
     exact bodyPost_ret (v := .tuple #[.agg #[.slice A8 n8 c8, .slice A9 n9 c9], .nilIface]) (by simp [results, Tryz.results54, go_sem, q0, q1]) rfl (RetWS.yes HU.out H9.out (hSf.low (by omega)) (hWf.low (by omega)) hnf)
theorem implCommitSuper_c (A A2 : Option Addr) (n c n2 c2 B : Nat) (ss : List BA) (ws : List (Int × BA)) (g b p t : Int) (Ax Am : Option Addr) (cx cm : Nat) (xs : List Int) (ms : List Mrk) (w : World) (a0 a1 : Addr) (h : Strs w B A n ss) (h2 : Wrs w B A2 n2 ws) (hs : Ins w B Ax xs) (hmk : Mks w B Am ms) (hB : B ≤ w.heap.size) (hn : n ≤ 1048576) (hn2 : n2 ≤ 1048576) (hx : xs.length ≤ 1048576) (hms : ms.length ≤ 1048576) (hcx : xs.length ≤ cx) (hAm : AllM ms)
 (hE : Er w a0 a1) (hM : Mx w) (hEt : Et w) (hT : Tab w) :
 Calls Tryz.prog 14 #[.agg #[.slice A n c, .slice A2 n2 c2], .agg #[ii g, ii b, ii p, ii t, .slice Ax xs.length cx, .slice Am ms.length cm]] w (RetDiskCode w (cmP ss ws g b p t xs ms).1.1 (cmP ss ws g b p t xs ms).1.2 (cmP ss ws g b p t xs ms).2) := by
 have e0 : Box (((w.alloc (.cells #[.slice A n c, .slice A2 n2 c2] 35)).alloc (.cells #[ii g, ii b, ii p, ii t, .slice Ax xs.length cx, .slice Am ms.length cm] 26)).alloc (.cells #[nsl, nsl] 35)) w.heap.size 35 #[.slice A n c, .slice A2 n2 c2] := ((Box.new w _ _).alloc _).alloc _
 have b0 : Box (((w.alloc (.cells #[.slice A n c, .slice A2 n2 c2] 35)).alloc (.cells #[ii g, ii b, ii p, ii t, .slice Ax xs.length cx, .slice Am ms.length cm] 26)).alloc (.cells #[nsl, nsl] 35)) (w.heap.size + 1) 26 #[ii g, ii b, ii p, ii t, .slice Ax xs.length cx, .slice Am ms.length cm] := by have := (Box.new (w.alloc (.cells #[.slice A n c, .slice A2 n2 c2] 35)) 26 #[ii g, ii b, ii p, ii t, .slice Ax xs.length cx, .slice Am ms.length cm]).alloc (.cells #[nsl, nsl] 35); rwa [World.size_alloc] at this
 have r0 : Box (((w.alloc (.cells #[.slice A n c, .slice A2 n2 c2] 35)).alloc (.cells #[ii g, ii b, ii p, ii t, .slice Ax xs.length cx, .slice Am ms.length cm] 26)).alloc (.cells #[nsl, nsl] 35)) (w.heap.size + 1 + 1) 35 #[nsl, nsl] := by have := Box.new ((w.alloc (.cells #[.slice A n c, .slice A2 n2 c2] 35)).alloc (.cells #[ii g, ii b, ii p, ii t, .slice Ax xs.length cx, .slice Am ms.length cm] 26)) 35 #[nsl, nsl]; rwa [World.size_alloc, World.size_alloc] at this
 have hx0 := (((Nx.refl w).alloc (.cells #[.slice A n c, .slice A2 n2 c2] 35)).alloc (.cells #[ii g, ii b, ii p, ii t, .slice Ax xs.length cx, .slice Am ms.length cm] 26)).alloc (.cells #[nsl, nsl] 35)
 go_enter Tryz.func14, Tryz.ntmps14
 go_wp2_with fail
 generalize (((w.alloc (.cells #[.slice A n c, .slice A2 n2 c2] 35)).alloc (.cells #[ii g, ii b, ii p, ii t, .slice Ax xs.length cx, .slice Am ms.length cm] 26)).alloc (.cells #[nsl, nsl] 35)) = W at *
 obtain ⟨gS, HgS⟩ : ∃ g, Hid (w.heap.size + 1 = g) := ⟨_, rfl⟩
 obtain ⟨gD, HgD⟩ : ∃ g, Hid (w.heap.size + 1 + 1 = g) := ⟨_, rfl⟩
 have hgS : w.heap.size ≤ gS := by have := HgS.out; omega
 have hgD : w.heap.size ≤ gD := by have := HgD.out; omega
 have hneE : w.heap.size ≠ gD := by have := HgD.out; omega
 have hneE2 : w.heap.size ≠ gS := by have := HgS.out; omega
 have hneS : gS ≠ gD := by have := HgS.out; have := HgD.out; omega
 rw [HgD.out, HgS.out]
 rw [HgS.out] at b0
 rw [HgD.out] at r0
 refine (isRight_c A A2 n c n2 c2 B ss ws _ (h.below hx0 hB) (h2.below hx0 hB) (ntr hB hx0.size) hn hn2).mono ?_
 rintro e w1 ⟨rfl, hnx1⟩
 have e1 := e0.nx hnx1
 have b1 := b0.nx hnx1
 have r1 := r0.nx hnx1
 have hx1 := hx0.trans hnx1
 clear e0 b0 r0 hx0 hnx1
 cases hD : diskB ss ws with
 | false =>
   have HPh := qh (cmP_bad (g := g) (b := b) (p := p) (t := t) (xs := xs) (ms := ms) (show (diskB ss ws && superB g b p t xs ms) = false by rw [hD]; rfl))
   clear hD
   have m0 := r1.c0
   have m1 := r1.c1
   have mf0 := r1.frozen 0
   have mf1 := r1.frozen 1
   have mlt := r1.lt
   go_wp2
   have rq := ((r1.set0 (nsl)).set1 (nsl))
   have hnf := ((hx1.setCell (p := ⟨gD, 0, none⟩) hgD (nsl)).setCell (p := ⟨gD, 1, none⟩) hgD (nsl))
   change bodyPost _ _ _ _ _ ((w1.setCell ⟨gD, 0, none⟩ (nsl)).setCell ⟨gD, 1, none⟩ (nsl))
   generalize ((w1.setCell ⟨gD, 0, none⟩ (nsl)).setCell ⟨gD, 1, none⟩ (nsl)) = Wf at *
   have q0 := rq.c0
   have q1 := rq.c1
   exact bodyPost_ret (v := .tuple #[.agg #[nsl, nsl], ii 1]) (by simp [results, Tryz.results14, go_sem, q0, q1]) rfl (RetDiskCode.zero HPh.out hnf)
 | true =>
   obtain ⟨y0, y1, y2, y3, y4, y5⟩ := b1.d6
   have HD := qh hD
   clear hD
   go_wp2_with fail
   refine (superRight_c g b p t Ax Am cx cm B xs ms _ (hs.below hx1 hB) (hmk.below hx1 hB) (ntr hB hx1.size) hx hms hcx hAm).mono ?_
   rintro e w1b ⟨rfl, hnx1b⟩
   have e1b := e1.nx hnx1b
   have b1b := b1.nx hnx1b
   have r1b := r1.nx hnx1b
   have hx1b := hx1.trans hnx1b
   clear e1 b1 r1 hx1 hnx1b y0 y1 y2 y3 y4 y5
   cases hO : superB g b p t xs ms with
   | false =>
     have HPh := qh (cmP_bad (show (diskB ss ws && superB g b p t xs ms) = false by rw [hO]; simp))
     clear hO
     have m0 := r1b.c0
     have m1 := r1b.c1
     have mf0 := r1b.frozen 0
     have mf1 := r1b.frozen 1
     have mlt := r1b.lt
     go_wp2
     have rq := ((r1b.set0 (nsl)).set1 (nsl))
     have hnf := ((hx1b.setCell (p := ⟨gD, 0, none⟩) hgD (nsl)).setCell (p := ⟨gD, 1, none⟩) hgD (nsl))
     change bodyPost _ _ _ _ _ ((w1b.setCell ⟨gD, 0, none⟩ (nsl)).setCell ⟨gD, 1, none⟩ (nsl))
     generalize ((w1b.setCell ⟨gD, 0, none⟩ (nsl)).setCell ⟨gD, 1, none⟩ (nsl)) = Wf at *
     have q0 := rq.c0
     have q1 := rq.c1
     exact bodyPost_ret (v := .tuple #[.agg #[nsl, nsl], ii 1]) (by simp [results, Tryz.results14, go_sem, q0, q1]) rfl (RetDiskCode.zero HPh.out hnf)
   | true =>
   have HO := qh hO
   clear hO
   obtain rfl : n = 64 := by rw [← h.1]; exact (diskB_len64 HD.out).1
   obtain ⟨y0, y1, y2, y3, y4, y5⟩ := b1b.d6
   have z0 := e1b.c0
   have z1 := e1b.c1
   go_wp2_with fail
   refine (withSuper_c A A2 64 c n2 c2 B ss ws g b p t Ax Am cx cm xs ms _ a0 a1 (h.below hx1b hB) (h2.below hx1b hB) (hs.below hx1b hB) (hmk.below hx1b hB) (ntr hB hx1b.size) HD.out HO.out (hE.nx hx1b) (hM.nx hx1b) (hEt.nx hx1b) (hT.nx hx1b)).mono ?_
   rintro e w2 ⟨hnx2, h1', h7', h3⟩
   have e2 := e1b.nx hnx2
   have b2 := b1b.nx hnx2
   have r2 := r1b.nx hnx2
   have hx2 := hx1b.trans hnx2
   have zz0 := e2.c0
   have zz1 := e2.c1
   have zlt := e2.lt
   clear e1b b1b r1b hx1b z0 z1 y0 y1 y2 y3 y4 y5
   cases hu : newU (rdU (readP ss ws 0)) (rdU (readP ss ws 1)) with
   | none =>
     have he := h1' hu
     have HPh := qh (cmP_none HD.out HO.out hu)
     clear h1' h7' h3 hu hnx2
     unfold slE at he
     subst he
     go_wp2_with fail
     have e3 := e2.alloc (.cells #[nsl, nsl] 35)
     have r3 := r2.alloc (.cells #[nsl, nsl] 35)
     have hx3 := hx2.alloc (.cells #[nsl, nsl] 35)
     change Calls _ _ _ (w2.alloc (.cells #[nsl, nsl] 35)) _
     generalize w2.alloc (.cells #[nsl, nsl] 35) = w3 at *
     refine (copied_c A A2 64 c n2 c2 B ss ws _ (h.below hx3 hB) (h2.below hx3 hB) (ntr hB hx3.size) (by omega) (by omega)).mono ?_
     rintro e w4 ⟨A5, n5, c5, A6, n6, c6, rfl, hS5, hW5, hnx4⟩
     have hlt9 : gD < w3.heap.size := r3.lt
     have r4 := r3.nx hnx4
     have hx4 := hx3.trans hnx4
     go_wp2_with fail
     refine (slotCode_c 1 19 _ (hEt.nx hx4)).mono ?_
     rintro e w5 ⟨rfl, hnx5⟩
     replace hS5 := hS5.nx hnx5
     replace hW5 := hW5.nx hnx5
     have r5 := r4.nx hnx5
     have hx5 := hx4.trans hnx5
     have m0 := r5.c0
     have m1 := r5.c1
     have mf0 := r5.frozen 0
     have mf1 := r5.frozen 1
     have mlt := r5.lt
     go_wp2
     have rq := ((r5.set0 (.slice A5 n5 c5)).set1 (.slice A6 n6 c6))
     have hnf := ((hx5.setCell (p := ⟨gD, 0, none⟩) hgD (.slice A5 n5 c5)).setCell (p := ⟨gD, 1, none⟩) hgD (.slice A6 n6 c6))
     have hSf := ((hS5.far (p := ⟨gD, 0, none⟩) hlt9 (.slice A5 n5 c5)).far (p := ⟨gD, 1, none⟩) hlt9 (.slice A6 n6 c6))
     have hWf := ((hW5.far (p := ⟨gD, 0, none⟩) hlt9 (.slice A5 n5 c5)).far (p := ⟨gD, 1, none⟩) hlt9 (.slice A6 n6 c6))
     change bodyPost _ _ _ _ _ ((w5.setCell ⟨gD, 0, none⟩ (.slice A5 n5 c5)).setCell ⟨gD, 1, none⟩ (.slice A6 n6 c6))
     generalize ((w5.setCell ⟨gD, 0, none⟩ (.slice A5 n5 c5)).setCell ⟨gD, 1, none⟩ (.slice A6 n6 c6)) = Wf at *
     have q0 := rq.c0
     have q1 := rq.c1
     exact bodyPost_ret (v := .tuple #[.agg #[.slice A5 n5 c5, .slice A6 n6 c6], ii 19]) (by simp [results, Tryz.results14, go_sem, q0, q1]) rfl (RetDiskCode.mk HPh.out (hSf.low (by omega)) (hWf.low (by omega)) hnf)
   | some us =>
     obtain ⟨u, s⟩ := us
     by_cases h9 : u.1 = 999999
     · have HPh := qh (cmP_full HD.out HO.out hu h9)
       have he := h7' u s hu h9
       clear h1' h7' h3 hu h9 hnx2
       unfold slE at he
       subst he
       go_wp2_with fail
       have e3 := e2.alloc (.cells #[nsl, nsl] 35)
       have r3 := r2.alloc (.cells #[nsl, nsl] 35)
       have hx3 := hx2.alloc (.cells #[nsl, nsl] 35)
       change Calls _ _ _ (w2.alloc (.cells #[nsl, nsl] 35)) _
       generalize w2.alloc (.cells #[nsl, nsl] 35) = w3 at *
       refine (copied_c A A2 64 c n2 c2 B ss ws _ (h.below hx3 hB) (h2.below hx3 hB) (ntr hB hx3.size) (by omega) (by omega)).mono ?_
       rintro e w4 ⟨A5, n5, c5, A6, n6, c6, rfl, hS5, hW5, hnx4⟩
       have hlt9 : gD < w3.heap.size := r3.lt
       have r4 := r3.nx hnx4
       have hx4 := hx3.trans hnx4
       go_wp2_with fail
       refine (slotCode_c s 7 _ (hEt.nx hx4)).mono ?_
       rintro e w5 ⟨rfl, hnx5⟩
       replace hS5 := hS5.nx hnx5
       replace hW5 := hW5.nx hnx5
       have r5 := r4.nx hnx5
       have hx5 := hx4.trans hnx5
       have m0 := r5.c0
       have m1 := r5.c1
       have mf0 := r5.frozen 0
       have mf1 := r5.frozen 1
       have mlt := r5.lt
       go_wp2
       have rq := ((r5.set0 (.slice A5 n5 c5)).set1 (.slice A6 n6 c6))
       have hnf := ((hx5.setCell (p := ⟨gD, 0, none⟩) hgD (.slice A5 n5 c5)).setCell (p := ⟨gD, 1, none⟩) hgD (.slice A6 n6 c6))
       have hSf := ((hS5.far (p := ⟨gD, 0, none⟩) hlt9 (.slice A5 n5 c5)).far (p := ⟨gD, 1, none⟩) hlt9 (.slice A6 n6 c6))
       have hWf := ((hW5.far (p := ⟨gD, 0, none⟩) hlt9 (.slice A5 n5 c5)).far (p := ⟨gD, 1, none⟩) hlt9 (.slice A6 n6 c6))
       change bodyPost _ _ _ _ _ ((w5.setCell ⟨gD, 0, none⟩ (.slice A5 n5 c5)).setCell ⟨gD, 1, none⟩ (.slice A6 n6 c6))
       generalize ((w5.setCell ⟨gD, 0, none⟩ (.slice A5 n5 c5)).setCell ⟨gD, 1, none⟩ (.slice A6 n6 c6)) = Wf at *
       have q0 := rq.c0
       have q1 := rq.c1
       exact bodyPost_ret (v := .tuple #[.agg #[.slice A5 n5 c5, .slice A6 n6 c6], ii 7]) (by simp [results, Tryz.results14, go_sem, q0, q1]) rfl (RetDiskCode.mk HPh.out (hSf.low (by omega)) (hWf.low (by omega)) hnf)
     · have HPh := qh (cmP_yes HD.out HO.out hu h9)
       have hsl := newU_slot hu
       have HOK := qh (nxt_super HO.out (newU_gen rfl rfl hu) h9)
       have HWn : Hid (List.all ([] ++ [(1 - s, nxtS u b p t xs ms)]) wOk = true) := qh (by
        have hz := nxt_size HOK.out
        simp only [List.nil_append, List.all_cons, List.all_nil, Bool.and_true]
        unfold wOk secB sOk
        simp only [Bool.and_eq_true, decide_eq_true_eq]
        exact ⟨by rcases hsl with rfl | rfl <;> omega, hz⟩)
       obtain ⟨A5, n5, c5, A6, n6, c6, rfl, hS5, hW5⟩ := h3 u s hu h9
       obtain rfl : n5 = 64 := by rw [← hS5.1, settleTo_len]; exact (diskB_len64 HD.out).1
       obtain rfl : n6 = 1 := hW5.1.symm
       clear h1' h7' h3 hu h9 hnx2
       go_wp2_with fail
       have r3 := r2.alloc (.cells #[.slice A5 64 c5, .slice A6 1 c6] 35)
       have hx3 := hx2.alloc (.cells #[.slice A5 64 c5, .slice A6 1 c6] 35)
       replace hS5 := hS5.nx ((Nx.refl _).alloc (.cells #[.slice A5 64 c5, .slice A6 1 c6] 35))
       replace hW5 := hW5.nx ((Nx.refl _).alloc (.cells #[.slice A5 64 c5, .slice A6 1 c6] 35))
       change Calls _ _ _ (w2.alloc (.cells #[.slice A5 64 c5, .slice A6 1 c6] 35)) _
       generalize w2.alloc (.cells #[.slice A5 64 c5, .slice A6 1 c6] 35) = w3 at *
       refine (flushed_c A5 A6 c5 1 c6 _ _ _ _ hS5.strs hW5.wrs nle (by omega) HWn.out).mono ?_
       rintro e w4 ⟨A8, n8, c8, A9, n9, c9, rfl, hS8, hW8, hnx4⟩
       have hlt9 : gD < w3.heap.size := r3.lt
       have r4 := r3.nx hnx4
       have hx4 := hx3.trans hnx4
       have m0 := r4.c0
       have m1 := r4.c1
       have mf0 := r4.frozen 0
       have mf1 := r4.frozen 1
       have mlt := r4.lt
       go_wp2
       have rq := ((r4.set0 (.slice A8 n8 c8)).set1 (.slice A9 n9 c9))
       have hnf := ((hx4.setCell (p := ⟨gD, 0, none⟩) hgD (.slice A8 n8 c8)).setCell (p := ⟨gD, 1, none⟩) hgD (.slice A9 n9 c9))
       have hSf := ((hS8.far (p := ⟨gD, 0, none⟩) hlt9 (.slice A8 n8 c8)).far (p := ⟨gD, 1, none⟩) hlt9 (.slice A9 n9 c9))
       have hWf := ((hW8.far (p := ⟨gD, 0, none⟩) hlt9 (.slice A8 n8 c8)).far (p := ⟨gD, 1, none⟩) hlt9 (.slice A9 n9 c9))
       change bodyPost _ _ _ _ _ ((w4.setCell ⟨gD, 0, none⟩ (.slice A8 n8 c8)).setCell ⟨gD, 1, none⟩ (.slice A9 n9 c9))
       generalize ((w4.setCell ⟨gD, 0, none⟩ (.slice A8 n8 c8)).setCell ⟨gD, 1, none⟩ (.slice A9 n9 c9)) = Wf at *
       have q0 := rq.c0
       have q1 := rq.c1
       exact bodyPost_ret (v := .tuple #[.agg #[.slice A8 n8 c8, .slice A9 n9 c9], ii 0]) (by simp [results, Tryz.results14, go_sem, q0, q1]) rfl (RetDiskCode.mk (HPh.out.trans rfl) (hSf.low (by omega)) (hWf.low (by omega)) hnf)

theorem specCommitSuper_r (A A2 : Option Addr) (n c n2 c2 B : Nat) (ss : List BA) (ws : List (Int × BA)) (g b p t : Int) (Ax Am : Option Addr) (cx cm : Nat) (xs : List Int) (ms : List Mrk) (w : World) (R1 : List BA) (R2 : List (Int × BA)) (cd : Int) (hP : cmP ss ws g b p t xs ms = ((R1, R2), cd)) (h : Strs w B A n ss) (h2 : Wrs w B A2 n2 ws) (hs : Ins w B Ax xs) (hmk : Mks w B Am ms) (hB : B ≤ w.heap.size) (hn : n ≤ 1048576) (hn2 : n2 ≤ 1048576) (hx : xs.length ≤ 1048576) (hms : ms.length ≤ 1048576) (hcx : xs.length ≤ cx) (hAm : AllM ms) :
 Calls Tryz.prog 15 #[.agg #[.slice A n c, .slice A2 n2 c2], .agg #[ii g, ii b, ii p, ii t, .slice Ax xs.length cx, .slice Am ms.length cm]] w (RetDiskCode w R1 R2 cd) := by
 have k := specCommitSuper_c A A2 n c n2 c2 B ss ws g b p t Ax Am cx cm xs ms w h h2 hs hmk hB hn hn2 hx hms hcx hAm
 rw [hP] at k
 exact k
theorem implCommitSuper_r (A A2 : Option Addr) (n c n2 c2 B : Nat) (ss : List BA) (ws : List (Int × BA)) (g b p t : Int) (Ax Am : Option Addr) (cx cm : Nat) (xs : List Int) (ms : List Mrk) (w : World) (a0 a1 : Addr) (R1 : List BA) (R2 : List (Int × BA)) (cd : Int) (hP : cmP ss ws g b p t xs ms = ((R1, R2), cd)) (h : Strs w B A n ss) (h2 : Wrs w B A2 n2 ws) (hs : Ins w B Ax xs) (hmk : Mks w B Am ms) (hB : B ≤ w.heap.size) (hn : n ≤ 1048576) (hn2 : n2 ≤ 1048576) (hx : xs.length ≤ 1048576) (hms : ms.length ≤ 1048576) (hcx : xs.length ≤ cx) (hAm : AllM ms) (hE : Er w a0 a1) (hM : Mx w) (hEt : Et w) (hT : Tab w) :
 Calls Tryz.prog 14 #[.agg #[.slice A n c, .slice A2 n2 c2], .agg #[ii g, ii b, ii p, ii t, .slice Ax xs.length cx, .slice Am ms.length cm]] w (RetDiskCode w R1 R2 cd) := by
 have k := implCommitSuper_c A A2 n c n2 c2 B ss ws g b p t Ax Am cx cm xs ms w a0 a1 h h2 hs hmk hB hn hn2 hx hms hcx hAm hE hM hEt hT
 rw [hP] at k
 exact k
theorem sameIntsU_c (A A2 : Option Addr) (c c2 B : Nat) (xs : List Int) (w : World) (h : Ins w B A xs) (h2 : Ins w B A2 xs) (hB : B ≤ w.heap.size) (hn : xs.length ≤ 1048576) :
 Calls Tryz.prog 19 #[.slice A xs.length c, .slice A2 xs.length c2] w fun e w' => e = .returned (.bool true) ∧ Nx w w' := by
 go_enter Tryz.func19, Tryz.ntmps19
 go_wp2
 go_loopw [5] (fun i wr => ∃ k : Nat, k ≤ xs.length ∧ i = ii k ∧ Nx w wr) (fun i _ => xs.length - (intOf i).toNat)
 case atStart => exact ⟨0, Nat.zero_le _, rfl, Nx.refl _⟩
 case round =>
  obtain ⟨k, hk, rfl, hnx⟩ := hrel
  by_cases hlt : k < xs.length
  · obtain ⟨b, off, rfl, hb, hc⟩ := (h.below hnx hB).at_ hlt
    obtain ⟨b2, off2, rfl, hb2, hc2⟩ := (h2.below hnx hB).at_ hlt
    generalize xs.getD k 0 = s at hc hc2
    go_wp2
    go_quiet (fail)
    go_wp2
    go_roundw
    case rel => exact ⟨k + 1, by omega, by go_num, hnx.drewN _⟩
    case measure => simp [intOf]; omega
  · go_wp2
    go_ret
    exact ⟨rfl, hnx⟩
theorem superDrawn_c (A : Option Addr) (n c : Nat) (ys : List Nat) (w : World) (h : U8s w w.heap.size A n ys) (hn : n ≤ 1048576) :
 Calls Tryz.prog 8 #[.slice A n c] w fun e w' => ∃ (q0 q1 q2 q3 : Int) (A1 : Option Addr) (c1 : Nat) (xs : List Int) (A2 : Option Addr) (c2 : Nat) (ms : List Mrk),
  e = .returned (.agg #[ii q0, ii q1, ii q2, ii q3, .slice A1 xs.length c1, .slice A2 ms.length c2]) ∧ superB q0 q1 q2 q3 xs ms = true ∧ xs.length ≤ 5 ∧ xs.length ≤ c1 ∧ AllM ms ∧ SlI w' w.heap.size A1 xs ∧ SlM w' w.heap.size A2 ms ∧ Nx w w' := by
 go_enter Tryz.func8, Tryz.ntmps8
 go_wp2_with fail
 have b0 := Box.new w 26 #[ii 0, ii 0, ii 0, ii 0, nsl, nsl]
 have hx0 := (Nx.refl w).alloc (.cells #[ii 0, ii 0, ii 0, ii 0, nsl, nsl] 26)
 have u0 := h.below hx0 nle
 generalize w.alloc (.cells #[ii 0, ii 0, ii 0, ii 0, nsl, nsl] 26) = W at *
 have hz := b0.lt
 refine (l00Source_c A n c _ hn).mono ?_
 rintro e w1 ⟨rfl, s1, hnx1⟩
 have u1 := u0.below hnx1 (by omega)
 have hz1 := hnx1.size
 go_wp2_with fail
 refine (super_c W.heap.size A n c w.heap.size 0 ys _ ⟨0, n % 1000, by omega, by omega, s1⟩ u1 (by omega) hn (by omega)).mono ?_
 rintro e w2 ⟨q0, q1, q2, q3, A1, c1, xs, A2, c2, ms, rfl, hok, hl5, hc, ham, hS, hM, _, r2⟩
 have HOK := qh hok
 have HC := qh hc
 have HAM := qh ham
 clear hok hc ham
 have b2 := (b0.nx hnx1).rg r2 (.inl hz)
 have hx2 := Rg.nx_of (hx0.trans hnx1) r2 (by omega)
 have hgl : w.heap.size < w1.heap.size := by omega
 clear u0 u1 b0 hx0 hnx1 r2 s1
 obtain ⟨y0, y1, y2, y3, y4, y5⟩ := b2.d6
 have f0 := b2.frozen 0
 have f1 := b2.frozen 1
 have f2 := b2.frozen 2
 have f3 := b2.frozen 3
 have f4 := b2.frozen 4
 have f5 := b2.frozen 5
 go_wp2
 have qq := ((((((b2).set 0 (ii q0)).set 1 (ii q1)).set 2 (ii q2)).set 3 (ii q3)).set 4 (.slice A1 xs.length c1)).set 5 (.slice A2 ms.length c2)
 have hSf := ((((((hS.far (p := ⟨w.heap.size, 0, none⟩) hgl (ii q0)).far (p := ⟨w.heap.size, 1, none⟩) hgl (ii q1)).far (p := ⟨w.heap.size, 2, none⟩) hgl (ii q2)).far (p := ⟨w.heap.size, 3, none⟩) hgl (ii q3)).far (p := ⟨w.heap.size, 4, none⟩) hgl (.slice A1 xs.length c1)).far (p := ⟨w.heap.size, 5, none⟩) hgl (.slice A2 ms.length c2))
 have hMf := ((((((hM.far (p := ⟨w.heap.size, 0, none⟩) hgl (ii q0)).far (p := ⟨w.heap.size, 1, none⟩) hgl (ii q1)).far (p := ⟨w.heap.size, 2, none⟩) hgl (ii q2)).far (p := ⟨w.heap.size, 3, none⟩) hgl (ii q3)).far (p := ⟨w.heap.size, 4, none⟩) hgl (.slice A1 xs.length c1)).far (p := ⟨w.heap.size, 5, none⟩) hgl (.slice A2 ms.length c2))
 have hnf := ((((((hx2.setCell (p := ⟨w.heap.size, 0, none⟩) nle (ii q0)).setCell (p := ⟨w.heap.size, 1, none⟩) nle (ii q1)).setCell (p := ⟨w.heap.size, 2, none⟩) nle (ii q2)).setCell (p := ⟨w.heap.size, 3, none⟩) nle (ii q3)).setCell (p := ⟨w.heap.size, 4, none⟩) nle (.slice A1 xs.length c1)).setCell (p := ⟨w.heap.size, 5, none⟩) nle (.slice A2 ms.length c2))
 generalize ((((((w2.setCell ⟨w.heap.size, 0, none⟩ (ii q0)).setCell ⟨w.heap.size, 1, none⟩ (ii q1)).setCell ⟨w.heap.size, 2, none⟩ (ii q2)).setCell ⟨w.heap.size, 3, none⟩ (ii q3)).setCell ⟨w.heap.size, 4, none⟩ (.slice A1 xs.length c1)).setCell ⟨w.heap.size, 5, none⟩ (.slice A2 ms.length c2)) = Wf at *
 have g0' := qq.cell 0
 have g1' := qq.cell 1
 have g2' := qq.cell 2
 have g3' := qq.cell 3
 have g4' := qq.cell 4
 have g5' := qq.cell 5
 simp at g0' g1' g2' g3' g4' g5'
 exact bodyPost_ret (v := .agg #[ii q0, ii q1, ii q2, ii q3, .slice A1 xs.length c1, .slice A2 ms.length c2]) (by simp [results, Tryz.results8, go_sem, g0', g1', g2', g3', g4', g5']) rfl ⟨q0, q1, q2, q3, A1, c1, xs, A2, c2, ms, rfl, HOK.out, hl5, HC.out, HAM.out, hSf.low (by omega), hMf.low (by omega), hnf⟩
def Su (w : World) (lo hi : Nat) (A : Option Addr) (c : Nat) (A2 : Option Addr) (c2 : Nat) (g b p q : Int) (xs : List Int) (ms : List Mrk) : Prop :=
 Sr w lo hi A 3 xs.length (inAt xs) ∧ Sr w lo hi A2 136 (ms.length * 2) (mrAt ms) ∧ Box w hi 26 #[ii g, ii b, ii p, ii q, .slice A xs.length c, .slice A2 ms.length c2]
section
variable {w w' : World} {lo hi : Nat} {A : Option Addr} {c : Nat} {A2 : Option Addr} {c2 : Nat} {g b p q : Int} {xs : List Int} {ms : List Mrk}
theorem Su.new (hS : SlI w lo A xs) (hM : SlM w lo A2 ms) : Su (w.alloc (.cells #[ii g, ii b, ii p, ii q, .slice A xs.length c, .slice A2 ms.length c2] 26)) lo w.heap.size A c A2 c2 g b p q xs ms :=
 ⟨hS.sr.nx ((Nx.refl w).alloc _), hM.sr.nx ((Nx.refl w).alloc _), Box.new w _ _⟩
theorem Su.nx (h : Su w lo hi A c A2 c2 g b p q xs ms) (hb : Nx w w') : Su w' lo hi A c A2 c2 g b p q xs ms := ⟨h.1.nx hb, h.2.1.nx hb, h.2.2.nx hb⟩
theorem Su.rg {x y : Nat} (h : Su w lo hi A c A2 c2 g b p q xs ms) (hb : Rg x y w w') (hd : hi < x ∨ y ≤ lo) (hlo : lo ≤ hi) : Su w' lo hi A c A2 c2 g b p q xs ms :=
 ⟨h.1.rg hb (by omega), h.2.1.rg hb (by omega), h.2.2.rg hb (by omega)⟩
theorem Su.d6 (h : Su w lo hi A c A2 c2 g b p q xs ms) : w.cell? ⟨hi, 0, none⟩ = some (ii g) ∧ w.cell? ⟨hi, 1, none⟩ = some (ii b) ∧ w.cell? ⟨hi, 2, none⟩ = some (ii p) ∧ w.cell? ⟨hi, 3, none⟩ = some (ii q) ∧ w.cell? ⟨hi, 4, none⟩ = some (.slice A xs.length c) ∧ w.cell? ⟨hi, 5, none⟩ = some (.slice A2 ms.length c2) := h.2.2.d6
theorem Su.ins (h : Su w lo hi A c A2 c2 g b p q xs ms) : Ins w w.heap.size A xs := h.1.sl.row
theorem Su.mks (h : Su w lo hi A c A2 c2 g b p q xs ms) : Mks w w.heap.size A2 ms := h.2.1.sl.row
end
end Go.Proofs.YtieoiailjjnnoaaGreatDoor
namespace Go.Proofs.YtieoiailjjnnoaaGreatDoor
set_option linter.unusedVariables false
set_option maxRecDepth 100000
set_option maxHeartbeats 16000000
open Go.ChangeShapes Go.WideShapes Go.RowKit Go.Deep
def OwnB (w : World) (g : Nat) (bs : List Bool) : Prop := Own w g 4 bs.length (blAt bs)
def SrB (w : World) (lo hi : Nat) (A : Option Addr) (n : Nat) (bs : List Bool) : Prop := bs.length = n ∧ (0 < n → ∃ g, A = some ⟨g, 0, none⟩ ∧ lo ≤ g ∧ g < hi ∧ OwnB w g bs)
section
variable {w w' : World} {lo hi n a b : Nat} {A : Option Addr} {bs : List Bool}
theorem SrB.nx (h : SrB w lo hi A n bs) (hb : Nx w w') : SrB w' lo hi A n bs := ⟨h.1, fun hn => by obtain ⟨g, e, hl, hh, ho⟩ := h.2 hn; exact ⟨g, e, hl, hh, Own.nx ho hb⟩⟩
theorem SrB.rg (h : SrB w lo hi A n bs) (hb : Rg a b w w') (hd : hi ≤ a ∨ b ≤ lo) : SrB w' lo hi A n bs := ⟨h.1, fun hn => by obtain ⟨g, e, hl, hh, ho⟩ := h.2 hn; exact ⟨g, e, hl, hh, Own.rg ho hb (by omega)⟩⟩
end
end Go.Proofs.YtieoiailjjnnoaaGreatDoor
namespace Go.Proofs.YtieoiailjjnnoaaGreatDoor
set_option linter.unusedVariables false
set_option maxRecDepth 100000
set_option maxHeartbeats 16000000
open Go.RowKit
theorem Rg.grown {lo hi : Nat} {a w w' : World} {row : Option Nat} (h : Rg lo hi a w) (hg : w.grownBy w' row) (hrow : ∀ k, row = some k → a.heap.size ≤ k) : Rg lo hi a w' :=
 ⟨hg.os.trans h.os, hg.tape.trans h.tape, hg.output.trans h.output, ntr h.size hg.size, fun k hk hr => (hg.block k (Nat.lt_of_lt_of_le hk h.size) (fun e => by have := hrow k e.symm; omega)).trans (h.block k hk hr)⟩
theorem box_own {w : World} {g : Nat} {t : TypeId} {cs : Array Value} (h : Box w g t cs) : Own w g t 0 (fun _ => .bool false) := ⟨cs, h, Nat.zero_le _, fun i hi => absurd hi (by omega)⟩
theorem SlS.put {w : World} {lo n gd i : Nat} {A : Option Addr} {ss : List BA} {cs : Array Value} (h : SlS w lo A n ss) (hb : Box w gd 35 cs) (v : Value) : SlS (w.setCell ⟨gd, i, none⟩ v) lo A n ss :=
 ⟨h.1, fun hn => by obtain ⟨g, e, hl, ho⟩ := h.2 hn; exact ⟨g, e, hl, Own.far ho (Own.ne_type (box_own hb) ho (by decide)) v⟩⟩
theorem SlW.put {w : World} {lo n gd i : Nat} {A : Option Addr} {ws : List (Int × BA)} {cs : Array Value} (h : SlW w lo A n ws) (hb : Box w gd 35 cs) (v : Value) : SlW (w.setCell ⟨gd, i, none⟩ v) lo A n ws :=
 ⟨h.1, fun hn => by obtain ⟨g, e, hl, ho⟩ := h.2 hn; exact ⟨g, e, hl, Own.far ho (Own.ne_type (box_own hb) ho (by decide)) v⟩⟩
theorem SlS.rg {w w' : World} {lo n a b : Nat} {A : Option Addr} {ss : List BA} (h : SlS w lo A n ss) (hb : Rg a b w w') (hd : b ≤ lo) : SlS w' lo A n ss := (h.sr.rg hb (.inr hd)).sl
theorem SlW.rg {w w' : World} {lo n a b : Nat} {A : Option Addr} {ws : List (Int × BA)} (h : SlW w lo A n ws) (hb : Rg a b w w') (hd : b ≤ lo) : SlW w' lo A n ws := (h.sr.rg hb (.inr hd)).sl
def SameTo {α : Type} (p : α → α → Bool) (d : α) (l m : List α) (k : Nat) : Prop := ∀ i, i < k → p (l.getD i d) (m.getD i d) = true
section
variable {α : Type} {p : α → α → Bool} {d : α} {l m : List α} {k : Nat}
theorem SameTo.zero : SameTo p d l m 0 := fun i hi => absurd hi (by omega)
theorem SameTo.succ {x y : α} (h : SameTo p d l m k) (hx : l.getD k d = x) (hy : m.getD k d = y) (he : p x y = true) : SameTo p d l m (k + 1) := fun i hi => by
 rcases Nat.lt_or_ge i k with hlt | hge
 · exact h i hlt
 · obtain rfl : i = k := by omega
   rw [hx, hy]; exact he
end
theorem sameTexts_c (A A2 : Option Addr) (n c c2 B : Nat) (ss : List BA) (w : World) (h : Strs w B A n ss) (h2 : Strs w B A2 n ss) (hB : B ≤ w.heap.size) (hn : n ≤ 1048576) :
 Calls Tryz.prog 63 #[.slice A n c, .slice A2 n c2] w fun e w' => e = .returned (.bool true) ∧ Nx w w' := by
 go_enter Tryz.func63, Tryz.ntmps63
 go_wp2
 go_loopw [5] (fun i wr => ∃ k : Nat, k ≤ n ∧ i = ii k ∧ Nx w wr) (fun i _ => n - (intOf i).toNat)
 case atStart => exact ⟨0, Nat.zero_le _, rfl, Nx.refl _⟩
 case round =>
  obtain ⟨k, hk, rfl, hnx⟩ := hrel
  by_cases hlt : k < n
  · obtain ⟨b, off, rfl, hb, hc⟩ := (h.below hnx hB).at_ hlt
    obtain ⟨b2, off2, rfl, hb2, hc2⟩ := (h2.below hnx hB).at_ hlt
    generalize ss.getD k ByteArray.empty = s at hc hc2
    go_wp2
    go_quiet (fail)
    go_wp2
    go_roundw
    case rel => exact ⟨k + 1, by omega, by go_num, hnx.drewN _⟩
    case measure => simp [intOf]; omega
  · go_wp2
    go_ret
    exact ⟨rfl, hnx⟩
theorem sameDisk_c (A A2 A3 A4 : Option Addr) (n c c3 c2 c4 B : Nat) (ss : List BA) (w : World) (h : Strs w B A n ss) (h3 : Strs w B A3 n ss)
 (hB : B ≤ w.heap.size) (hn : n ≤ 1048576) :
 Calls Tryz.prog 18 #[.agg #[.slice A n c, .slice A2 0 c2], .agg #[.slice A3 n c3, .slice A4 0 c4]] w fun e w' => e = .returned (.bool true) ∧ Nx w w' := by
 go_enter Tryz.func18, Tryz.ntmps18
 go_wp2_with fail
 have b0 := (Box.new w 35 #[.slice A n c, .slice A2 0 c2]).alloc (.cells #[.slice A3 n c3, .slice A4 0 c4] 35)
 have b1 := Box.new (w.alloc (.cells #[.slice A n c, .slice A2 0 c2] 35)) 35 #[.slice A3 n c3, .slice A4 0 c4]
 have hnx0 := ((Nx.refl w).alloc (.cells #[.slice A n c, .slice A2 0 c2] 35)).alloc (.cells #[.slice A3 n c3, .slice A4 0 c4] 35)
 simp only [World.size_alloc] at b1
 generalize ((w.alloc (.cells #[.slice A n c, .slice A2 0 c2] 35)).alloc (.cells #[.slice A3 n c3, .slice A4 0 c4] 35)) = W at *
 refine (sameTexts_c A A3 n c c3 B ss _ (h.below hnx0 hB) (h3.below hnx0 hB) (ntr hB hnx0.size) hn).mono ?_
 rintro e w1 ⟨rfl, hnx1⟩
 have b0' := b0.nx hnx1
 have b1' := b1.nx hnx1
 have c00 := b0'.c0
 have c01 := b0'.c1
 have c10 := b1'.c0
 have c11 := b1'.c1
 have hnx2 := hnx0.trans hnx1
 go_wp2
 go_loopw [5] (fun i wr => i = ii 0 ∧ wr = w1) (fun i _ => 0)
 case atStart => exact ⟨rfl, rfl⟩
 case round =>
  obtain ⟨rfl, rfl⟩ := hrel
  go_wp2
  go_ret
  exact ⟨rfl, hnx2⟩
theorem tb_nodup {xs : List Int} (h : tbB xs = true) : xs.Nodup := by
 have h2 := (tbB_yes h).2
 rw [List.Nodup, List.pairwise_iff_getElem]
 intro i j hi hj hij e
 have h3 := h2 j hj
 unfold tbOk at h3
 have hgi : xs.getD i 0 = xs[i] := by rw [gdE, List.getElem?_eq_getElem hi]; rfl
 have hgj : xs.getD j 0 = xs[j] := by rw [gdE, List.getElem?_eq_getElem hj]; rfl
 rw [hasB_yes hij hi (by rw [hgi, hgj, e])] at h3
 simp at h3
theorem free_all {xs : List Int} (h : tbB xs = true) : (freeTo xs 54).length + xs.length = 54 := by
 have hn := tb_nodup h
 have hL := nodup_map_add 54
 have hlen : ((List.range 54).map fun i : Nat => (i : Int) + 10).length = 54 := by rw [List.length_map, List.length_range]
 have he : freeTo xs 54 = ((List.range 54).map fun i : Nat => (i : Int) + 10).filter fun x => !xs.contains x := by
  unfold freeTo
  congr 1
  funext x
  rw [hasB_all]
 have h1 := filter_len hL xs
 rw [← he, hlen] at h1
 have hsub : ∀ a : Int, a ∈ freeTo xs 54 → a ∈ ((List.range 54).map fun i : Nat => (i : Int) + 10) ∧ a ∉ xs := fun a ha => by
  rw [he, List.mem_filter] at ha
  refine ⟨ha.1, fun hx => ?_⟩
  have := ha.2
  rw [List.contains_iff_mem.mpr hx] at this
  cases this
 have hin : ∀ a : Int, a ∈ xs → a ∈ ((List.range 54).map fun i : Nat => (i : Int) + 10) := fun a ha => by
  have := tbB_in h ha
  rw [List.mem_map]
  exact ⟨(a - 10).toNat, List.mem_range.mpr (by omega), by omega⟩
 have hnf : (freeTo xs 54).Nodup := by rw [he]; exact hL.filter _
 have h2 : (freeTo xs 54 ++ xs).length ≤ ((List.range 54).map fun i : Nat => (i : Int) + 10).length := by
  refine List.Nodup.length_le_of_subset (List.nodup_append.mpr ⟨hnf, hn, fun a ha b hb hab => ?_⟩) (fun a ha => ?_)
  · subst hab; exact (hsub a ha).2 hb
  · rcases List.mem_append.mp ha with ha | ha
    · exact (hsub a ha).1
    · exact hin a ha
 rw [List.length_append, hlen] at h2
 omega
def SuOut (R : List BA) (g s k cd : Int) (q1 q2 q3 : Int) (xs : List Int) (ms : List Mrk) : Prop :=
 (k = 19 ∧ cd = 19) ∨ (k = 0 ∧ cd = 0 ∧ newA R [] = ((g + 1, q1, q2, q3, xs, ms), 1 - s, 0) ∧ (1 ≤ g ∧ g ≤ 999998) ∧ (s = 0 ∨ s = 1))
theorem disF_ok {ss : List BA} (h : DisF ss) : diskB ss [] = true := diskB_nil h.1 h.2.1
theorem su_out {ss : List BA} {q0 q1 q2 q3 : Int} {xs : List Int} {ms : List Mrk} (h : DisF ss) (hok : superB q0 q1 q2 q3 xs ms = true) :
 ∃ (R : List BA) (g b p q s k cd : Int) (ys : List Int) (ns : List Mrk), newA ss [] = ((g, b, p, q, ys, ns), s, k) ∧ cmP ss [] q0 q1 q2 q3 xs ms = ((R, []), cd) ∧ R.length = 64 ∧ SuOut R g s k cd q1 q2 q3 xs ms := by
 have hd := disF_ok h
 cases hu : newU (rdU (readP ss [] 0)) (rdU (readP ss [] 1)) with
 | none => exact ⟨ss, 0, 0, 0, 0, 0, 19, 19, [], [], newA_none hd hu, cmP_none hd hok hu, h.1, .inl ⟨rfl, rfl⟩⟩
 | some us =>
   obtain ⟨⟨g, b, p, q, ys, ns⟩, s⟩ := us
   have hg := newU_gen rfl rfl hu
   have h9 : g ≠ 999999 := newU_low (by rw [readP_nil]; exact h.2.2.1) (by rw [readP_nil]; exact h.2.2.2) hu
   replace hg : 1 ≤ g ∧ g ≤ 999999 := hg
   have hs := newU_slot hu
   obtain ⟨h0, h1, h2, h3, h4, h5⟩ := superB_yes hok
   have hok2 : superB (g + 1) q1 q2 q3 xs ms = true := superB_mk (inB_mk (by omega) (by omega)) (inB_mk h1.1 h1.2) (inB_mk h2.1 h2.2) (inB_mk h3.1 h3.2) h4 h5
   have hnx := newU_next (u := (g, b, p, q, ys, ns)) h.1 hu hok2
   have hsz : (nxtS (g, b, p, q, ys, ns) q1 q2 q3 xs ms).size ≤ 300 := nxt_size (u := (g, b, p, q, ys, ns)) hok2
   have hR : (fun l : List BA => l.length = 64 ∧ l.all sOk = true) (ss.set (1 - s).toNat (nxtS (g, b, p, q, ys, ns) q1 q2 q3 xs ms)) := ⟨by rw [List.length_set]; exact h.1, sOk_set h.2.1 hsz⟩
   refine ⟨ss.set (1 - s).toNat (nxtS (g, b, p, q, ys, ns) q1 q2 q3 xs ms), g, b, p, q, s, 0, 0, ys, ns, newA_yes hd hu, ?_, hR.1, .inr ⟨rfl, rfl, newA_yes (diskB_nil hR.1 hR.2) hnx, ⟨hg.1, by omega⟩, hs⟩⟩
   rw [cmP_yes hd hok hu h9]
   rfl
theorem superDiskOf_c (A : Option Addr) (n c : Nat) (ys : List Nat) (w : World) (B : Nat) (h : U8s w B A n ys) (hB : B ≤ w.heap.size) (hn : n ≤ 1048576) :
 Calls Tryz.prog 12 #[.slice A n c] w fun e w' => ∃ (A1 : Option Addr) (c1 : Nat) (A2 : Option Addr) (c2 : Nat) (ss : List BA), e = .returned (.agg #[.slice A1 64 c1, .slice A2 0 c2]) ∧ DisF ss ∧ SlS w' w.heap.size A1 64 ss ∧ Nx w w' := by
 go_enter Tryz.func12, Tryz.ntmps12
 go_wp2_with fail
 have b0 := Box.new w 35 #[nsl, nsl]
 have hx0 := (Nx.refl w).alloc (.cells #[nsl, nsl] 35)
 have u0 := h.below hx0 hB
 generalize w.alloc (.cells #[nsl, nsl] 35) = W at *
 have hz := b0.lt
 refine (l00Source_c A n c _ hn).mono ?_
 rintro e w1 ⟨rfl, s1, hnx1⟩
 have u1 := u0.below hnx1 (by omega)
 have hz1 := hnx1.size
 go_wp2_with fail
 refine (superDisk_c W.heap.size A n c B 0 ys _ ⟨0, n % 1000, by omega, by omega, s1⟩ u1 (by omega) hn (by omega)).mono ?_
 rintro e w2 ⟨A1, c1, A2, c2, ss, rfl, hd, hS, _, r2⟩
 have HD := qh hd
 clear hd
 have b2 := (b0.nx hnx1).rg r2 (.inl hz)
 have hx2 := Rg.nx_of (hx0.trans hnx1) r2 (by omega)
 have hgl : w.heap.size < w1.heap.size := by omega
 clear u0 u1 b0 hx0 hnx1 r2 s1
 have y0 := b2.c0
 have y1 := b2.c1
 have f0 := b2.frozen 0
 have f1 := b2.frozen 1
 go_wp2
 obtain ⟨q0, q1, rS, rW, rx⟩ := fin_box c1 c2 b2 hS (⟨rfl, fun h => absurd h (by omega)⟩ : SlW w2 w1.heap.size A2 0 []) hgl hgl hx2 nle
 generalize (w2.setCell ⟨w.heap.size, 0, none⟩ (.slice A1 64 c1)).setCell ⟨w.heap.size, 1, none⟩ (.slice A2 0 c2) = Wf at *
 exact bodyPost_ret (v := .agg #[.slice A1 64 c1, .slice A2 0 c2]) (by simp [results, Tryz.results12, go_sem, q0, q1]) rfl ⟨A1, c1, A2, c2, ss, rfl, HD.out, rS, rx⟩
section
variable {g b p t : Int} {A A2 : Option Addr} {c c2 B : Nat} {xs : List Int} {ms : List Mrk} {w : World}
theorem implSuperText_y (hok : superB g b p t xs ms = true) (h : Ins w B A xs) (h2 : Mks w B A2 ms) (hB : B ≤ w.heap.size) (hn : xs.length ≤ 1048576) (hn2 : ms.length ≤ 1048576) (hc : xs.length ≤ c) (hm : AllM ms) (ht : Tab w) :
 Calls Tryz.prog 9 #[.agg #[ii g, ii b, ii p, ii t, .slice A xs.length c, .slice A2 ms.length c2]] w fun e w' => e = .returned (.tuple #[.string (supT g b p t xs ms), ii 0]) ∧ Nx w w' := by
 have k := implSuperText_c g b p t A A2 c c2 B xs ms w h h2 hB hn hn2 hc hm ht
 unfold supS codeB at k
 simp only [hok, if_true] at k
 exact k
theorem specSuperText_y (hok : superB g b p t xs ms = true) (h : Ins w B A xs) (h2 : Mks w B A2 ms) (hB : B ≤ w.heap.size) (hn : xs.length ≤ 1048576) (hn2 : ms.length ≤ 1048576) (hc : xs.length ≤ c) (hm : AllM ms) :
 Calls Tryz.prog 10 #[.agg #[ii g, ii b, ii p, ii t, .slice A xs.length c, .slice A2 ms.length c2]] w fun e w' => e = .returned (.tuple #[.string (supT g b p t xs ms), ii 0]) ∧ Nx w w' := by
 have k := specSuperText_c g b p t A A2 c c2 B xs ms w h h2 hB hn hn2 hc hm
 unfold supS codeB at k
 simp only [hok, if_true] at k
 exact k
theorem implFree_y (hok : superB g b p t xs ms = true) (h : Ins w B A xs) (h2 : Mks w B A2 ms) (hB : B ≤ w.heap.size) (hn : xs.length ≤ 1048576) (hn2 : ms.length ≤ 1048576) (hc : xs.length ≤ c) (hm : AllM ms) :
 Calls Tryz.prog 16 #[.agg #[ii g, ii b, ii p, ii t, .slice A xs.length c, .slice A2 ms.length c2]] w (RetIcC w (freeTo xs 54) 0) := by
 have k := implFree_c g b p t A A2 c c2 B xs ms w h h2 hB hn hn2 hc hm
 rw [hok] at k
 exact k
theorem implSuperOK_y (hok : superB g b p t xs ms = true) (h : Ins w B A xs) (h2 : Mks w B A2 ms) (hB : B ≤ w.heap.size) (hn : xs.length ≤ 1048576) (hn2 : ms.length ≤ 1048576) (hc : xs.length ≤ c) (hm : AllM ms) :
 Calls Tryz.prog 17 #[.agg #[ii g, ii b, ii p, ii t, .slice A xs.length c, .slice A2 ms.length c2]] w fun e w' => e = .returned (.bool true) ∧ Nx w w' := by
 have k := implSuperOK_c g b p t A A2 c c2 B xs ms w h h2 hB hn hn2 hc hm
 rw [hok] at k
 exact k
end
theorem lawSuper (A : Option Addr) (n c : Nat) (ys : List Nat) (A2 : Option Addr) (n2 c2 : Nat) (zs : List Nat) (w : World) (a0 a1 : Addr) (hE : Er w a0 a1) (hM : Mx w) (hEt : Et w) (hT : Tab w) (h : U8s w w.heap.size A n ys) (hn9 : n ≤ 2 ^ 63 - 1) (h2 : U8s w w.heap.size A2 n2 zs) (hn29 : n2 ≤ 2 ^ 63 - 1) :
 Calls Tryz.prog 3 #[.slice A n c, .slice A2 n2 c2] w fun e w' => e = .returned (.bool true) ∧ Nx w w' := by
 by_cases hl : n ≤ 1048576
 case neg =>
  have hd : decide (1048576 < (n : Int)) = true := by simp; omega
  go_enter Tryz.func3, Tryz.ntmps3
  go_wp2
  go_ret
  exact ⟨rfl, Nx.refl _⟩
 have hd : decide (1048576 < (n : Int)) = false := by simp; omega
 by_cases hl2 : n2 ≤ 1048576
 case neg =>
  have hd2 : decide (1048576 < (n2 : Int)) = true := by simp; omega
  go_enter Tryz.func3, Tryz.ntmps3
  go_wp2
  go_ret
  exact ⟨rfl, Nx.refl _⟩
 have hd2 : decide (1048576 < (n2 : Int)) = false := by simp; omega
 go_enter Tryz.func3, Tryz.ntmps3
 go_wp2_with fail
 refine (superDrawn_c A n c ys _ h hl).mono ?_
 rintro e w1 ⟨q0, q1, q2, q3, A1, c1, xs, A3, c3, ms, rfl, hok, hl5, hc1, ham, hS1, hM1, hX⟩
 have HOK := qh hok
 have HC := qh hc1
 have HAM := qh ham
 have hml : ms.length ≤ 1048576 := by have := (msB_yes (superB_yes hok).2.2.2.2.2).1; omega
 have hxl : xs.length ≤ 1048576 := by omega
 obtain ⟨t, Ht⟩ : ∃ t, Hid (supT q0 q1 q2 q3 xs ms = t) := ⟨_, rfl⟩
 have Hts := qh (show t.size ≤ 65536 by rw [← Ht.out]; have := supT_size (g := q0 - 1) (b := q1) (p := q2) (t := q3) (xs := xs) (ms := ms) (by rw [Int.sub_add_cancel]; exact hok); rw [Int.sub_add_cancel] at this; omega)
 have Hrd := qh (suA_some Hts.out (by rw [← Ht.out]; exact rdU_back hok))
 have Hfr := qh (free_all (superB_yes hok).2.2.2.2.1)
 clear hok hc1 ham hd hd2 h
 go_wp2_with fail
 have S := Su.new (c := c1) (c2 := c3) (g := q0) (b := q1) (p := q2) (q := q3) hS1 hM1
 have hk := (Nx.refl w1).alloc (.cells #[ii q0, ii q1, ii q2, ii q3, .slice A1 xs.length c1, .slice A3 ms.length c3] 26)
 replace hX := hX.trans hk
 clear hk
 generalize w1.alloc (.cells #[ii q0, ii q1, ii q2, ii q3, .slice A1 xs.length c1, .slice A3 ms.length c3] 26) = w2 at *
 generalize w1.heap.size = gS at *
 refine (implSuperText_y HOK.out S.ins S.mks nle hxl hml HC.out HAM.out (hT.nx hX)).mono ?_
 rintro e w3 ⟨rfl, hk⟩
 rw [Ht.out]
 replace hX := hX.trans hk
 replace S := S.nx hk
 clear hk
 obtain ⟨y0, y1, y2, y3, y4, y5⟩ := S.d6
 go_wp2_with fail
 clear y0 y1 y2 y3 y4 y5
 refine (specSuperText_y HOK.out S.ins S.mks nle hxl hml HC.out HAM.out).mono ?_
 rintro e w4 ⟨rfl, hk⟩
 rw [Ht.out]
 replace hX := hX.trans hk
 replace S := S.nx hk
 clear hk
 go_wp2_with fail
 refine (implReadSuper_c t _ a0 a1 (hE.nx hX) (hM.nx hX)).mono ?_
 intro e w5 hR
 obtain ⟨hk, A4, c4, A5, c5, rfl, hc4, hS4, hM4⟩ := hR.un Hrd.out.1 Hrd.out.2
 have HC4 := qh hc4
 clear hR hc4
 replace hX := hX.trans hk
 replace S := S.nx hk
 clear hk
 go_wp2_with fail
 have K := Su.new (c := c4) (c2 := c5) (g := q0) (b := q1) (p := q2) (q := q3) hS4 hM4
 have hk := (Nx.refl w5).alloc (.cells #[ii q0, ii q1, ii q2, ii q3, .slice A4 xs.length c4, .slice A5 ms.length c5] 26)
 replace hX := hX.trans hk
 replace S := S.nx hk
 clear hk
 generalize w5.alloc (.cells #[ii q0, ii q1, ii q2, ii q3, .slice A4 xs.length c4, .slice A5 ms.length c5] 26) = w6 at *
 generalize w5.heap.size = gK at *
 refine (implSuperText_y HOK.out K.ins K.mks nle hxl hml HC4.out HAM.out (hT.nx hX)).mono ?_
 rintro e w7 ⟨rfl, hk⟩
 rw [Ht.out]
 clear K
 replace hX := hX.trans hk
 replace S := S.nx hk
 clear hk
 go_wp2_with fail
 refine (superDiskOf_c A2 n2 c2 zs _ w.heap.size (h2.below hX nle) hX.size hl2).mono ?_
 rintro e w8 ⟨A6, c6, A7, c7, ss, rfl, hdf, hS6, hk⟩
 obtain ⟨R, g, b, p, q, s, k, cd, us, ns, hN, hP, hRl, ho⟩ := su_out hdf HOK.out
 have HN := qh hN
 have HP2 := qh hP
 have HO := qh ho
 have HRl := qh hRl
 clear hdf hN hP ho hRl
 replace hX := hX.trans hk
 replace S := S.nx hk
 clear hk
 go_wp2_with fail
 have D := Dk.new (c := c6) (c2 := c7) hS6 (⟨rfl, fun h => absurd h (by omega)⟩ : SlW _ _ A7 0 [])
 have hk := (Nx.refl w8).alloc (.cells #[.slice A6 64 c6, .slice A7 0 c7] 35)
 replace hX := hX.trans hk
 replace S := S.nx hk
 clear hk
 generalize w8.alloc (.cells #[.slice A6 64 c6, .slice A7 0 c7] 35) = w9 at *
 generalize w8.heap.size = gD at *
 refine (implNewestSuper_c A6 A7 64 c6 0 c7 _ ss [] _ a0 a1 D.strs D.wrs nle (by omega) (by omega) (hE.nx hX) (hM.nx hX) (hEt.nx hX)).mono ?_
 intro e w10 hR
 obtain ⟨hk, A8, c8, A9, c9, rfl, _, hS8, hM8⟩ := hR.un HN.out
 clear hR
 replace hX := hX.trans hk
 replace S := S.nx hk
 replace D := D.nx hk
 clear hk
 have dy0 := D.c0
 have dy1 := D.c1
 have dyl := D.2.2.lt
 obtain ⟨sy0, sy1, sy2, sy3, sy4, sy5⟩ := S.d6
 have syl := S.2.2.lt
 go_wp2_with fail
 clear dy0 dy1 dyl
 clear sy0 sy1 sy2 sy3 sy4 sy5 syl
 have V := Su.new (c := c8) (c2 := c9) (g := g) (b := b) (p := p) (q := q) hS8 hM8
 have hk := (Nx.refl w10).alloc (.cells #[ii g, ii b, ii p, ii q, .slice A8 us.length c8, .slice A9 ns.length c9] 26)
 replace hX := hX.trans hk
 replace S := S.nx hk
 replace D := D.nx hk
 clear hk
 generalize w10.alloc (.cells #[ii g, ii b, ii p, ii q, .slice A8 us.length c8, .slice A9 ns.length c9] 26) = w11 at *
 generalize w10.heap.size = gV at *
 refine (implCommitSuper_r A6 A7 64 c6 0 c7 _ ss [] q0 q1 q2 q3 A1 A3 c1 c3 xs ms _ a0 a1 R [] cd HP2.out D.strs D.wrs S.ins S.mks nle (by omega) (by omega) hxl hml HC.out HAM.out (hE.nx hX) (hM.nx hX) (hEt.nx hX) (hT.nx hX)).mono ?_
 rintro e w12 ⟨B0, nn, d0, E0, mm, e0, rfl, hSw12, hWw12, hk⟩
 obtain rfl : 64 = nn := HRl.out.symm.trans hSw12.1
 obtain rfl : 0 = mm := hWw12.1
 replace hX := hX.trans hk
 replace S := S.nx hk
 replace D := D.nx hk
 replace V := V.nx hk
 clear hk
 have dy0 := D.c0
 have dy1 := D.c1
 have dyl := D.2.2.lt
 obtain ⟨sy0, sy1, sy2, sy3, sy4, sy5⟩ := S.d6
 have syl := S.2.2.lt
 go_wp2_with fail
 clear dy0 dy1 dyl
 clear sy0 sy1 sy2 sy3 sy4 sy5 syl
 have X := Dk.new (c := d0) (c2 := e0) hSw12 hWw12
 have hk := (Nx.refl w12).alloc (.cells #[.slice B0 64 d0, .slice E0 0 e0] 35)
 replace hX := hX.trans hk
 replace S := S.nx hk
 replace D := D.nx hk
 replace V := V.nx hk
 clear hk
 generalize w12.alloc (.cells #[.slice B0 64 d0, .slice E0 0 e0] 35) = w13 at *
 generalize w12.heap.size = gX at *
 refine (specCommitSuper_r A6 A7 64 c6 0 c7 _ ss [] q0 q1 q2 q3 A1 A3 c1 c3 xs ms _ R [] cd HP2.out D.strs D.wrs S.ins S.mks nle (by omega) (by omega) hxl hml HC.out HAM.out).mono ?_
 rintro e w14 ⟨B1, nn, d1, E1, mm, e1, rfl, hSw14, hWw14, hk⟩
 obtain rfl : 64 = nn := HRl.out.symm.trans hSw14.1
 obtain rfl : 0 = mm := hWw14.1
 replace hX := hX.trans hk
 replace S := S.nx hk
 replace D := D.nx hk
 replace V := V.nx hk
 replace X := X.nx hk
 clear hk
 have dy0 := D.c0
 have dy1 := D.c1
 have dyl := D.2.2.lt
 obtain ⟨sy0, sy1, sy2, sy3, sy4, sy5⟩ := S.d6
 have syl := S.2.2.lt
 go_wp2_with fail
 clear dy0 dy1 dyl
 clear sy0 sy1 sy2 sy3 sy4 sy5 syl
 have Y := Dk.new (c := d1) (c2 := e1) hSw14 hWw14
 have hk := (Nx.refl w14).alloc (.cells #[.slice B1 64 d1, .slice E1 0 e1] 35)
 replace hX := hX.trans hk
 replace S := S.nx hk
 replace D := D.nx hk
 replace V := V.nx hk
 replace X := X.nx hk
 clear hk
 generalize w14.alloc (.cells #[.slice B1 64 d1, .slice E1 0 e1] 35) = w15 at *
 generalize w14.heap.size = gY at *
 refine (implFree_y HOK.out S.ins S.mks nle hxl hml HC.out HAM.out).mono ?_
 rintro e w16 ⟨Af, cf, rfl, _, hSf, hk⟩
 obtain ⟨F, HF⟩ : ∃ F, Hid (freeTo xs 54 = F) := ⟨_, rfl⟩
 rw [HF.out] at hSf ⊢
 have hw54 : IntKind.i64.wrap ((F.length : Int) + (xs.length : Int)) = 54 := by have := Hfr.out; rw [HF.out] at this; rw [IntWalk.i64_in _ (by omega)]; omega
 replace hX := hX.trans hk
 replace S := S.nx hk
 replace D := D.nx hk
 replace V := V.nx hk
 replace X := X.nx hk
 replace Y := Y.nx hk
 clear hk
 obtain ⟨sy0, sy1, sy2, sy3, sy4, sy5⟩ := S.d6
 have syl := S.2.2.lt
 go_wp2_with fail
 clear sy0 sy1 sy2 sy3 sy4 sy5 syl
 refine (implSuperOK_y HOK.out S.ins S.mks nle hxl hml HC.out HAM.out).mono ?_
 rintro e w17 ⟨rfl, hk⟩
 replace hX := hX.trans hk
 replace S := S.nx hk
 replace D := D.nx hk
 replace V := V.nx hk
 replace X := X.nx hk
 replace Y := Y.nx hk
 replace hSf := hSf.nx hk
 clear hk
 have xy0 := X.c0
 have xy1 := X.c1
 have xyl := X.2.2.lt
 have yy0 := Y.c0
 have yy1 := Y.c1
 have yyl := Y.2.2.lt
 go_wp2_with fail
 clear xy0 xy1 xyl
 clear yy0 yy1 yyl
 refine (sameDisk_c B0 E0 B1 E1 64 d0 d1 e0 e1 _ R _ X.strs Y.strs nle (by omega)).mono ?_
 rintro e w18 ⟨rfl, hk⟩
 replace hX := hX.trans hk
 replace S := S.nx hk
 replace D := D.nx hk
 replace V := V.nx hk
 replace X := X.nx hk
 replace Y := Y.nx hk
 replace hSf := hSf.nx hk
 clear hk
 obtain ⟨sy0, sy1, sy2, sy3, sy4, sy5⟩ := S.d6
 have syl := S.2.2.lt
 rcases HO.out with ⟨rfl, rfl⟩ | ⟨rfl, rfl, hN2, hg, hs⟩
 · go_wp2
   go_ret
   exact ⟨rfl, hX⟩
 have HN2 := qh hN2
 clear hN2
 have xy0 := X.c0
 have xy1 := X.c1
 have xyl := X.2.2.lt
 go_wp2_with fail
 clear xy0 xy1 xyl
 clear sy0 sy1 sy2 sy3 sy4 sy5 syl
 refine (implNewestSuper_c B0 E0 64 d0 0 e0 _ R [] _ a0 a1 X.strs X.wrs nle (by omega) (by omega) (hE.nx hX) (hM.nx hX) (hEt.nx hX)).mono ?_
 intro e w19 hR
 obtain ⟨hk, Aa, ca, Ab, cb, rfl, _, hSa, hMa⟩ := hR.un HN2.out
 clear hR
 obtain ⟨g1, Hg1⟩ : ∃ g1, Hid (g + 1 = g1) := ⟨_, rfl⟩
 obtain ⟨s1, Hs1⟩ : ∃ s1, Hid (1 - s = s1) := ⟨_, rfl⟩
 have hwg : IntKind.i64.wrap (g + 1) = g1 := by rw [IntWalk.i64_in _ (by omega)]; exact Hg1.out
 have hws : IntKind.i64.wrap (1 - s) = s1 := by rw [IntWalk.i64_in _ (by rcases hs with rfl | rfl <;> omega)]; exact Hs1.out
 rw [Hg1.out, Hs1.out]
 replace hX := hX.trans hk
 replace S := S.nx hk
 replace D := D.nx hk
 replace V := V.nx hk
 replace X := X.nx hk
 replace Y := Y.nx hk
 replace hSf := hSf.nx hk
 clear hk
 obtain ⟨sy0, sy1, sy2, sy3, sy4, sy5⟩ := S.d6
 have syl := S.2.2.lt
 obtain ⟨vy0, vy1, vy2, vy3, vy4, vy5⟩ := V.d6
 have vyl := V.2.2.lt
 go_wp2_with fail
 clear sy0 sy1 sy2 sy3 sy4 sy5 syl
 clear vy0 vy1 vy2 vy3 vy4 vy5 vyl
 have N := Su.new (c := ca) (c2 := cb) (g := g1) (b := q1) (p := q2) (q := q3) hSa hMa
 have hk := (Nx.refl w19).alloc (.cells #[ii g1, ii q1, ii q2, ii q3, .slice Aa xs.length ca, .slice Ab ms.length cb] 26)
 replace hX := hX.trans hk
 replace S := S.nx hk
 replace D := D.nx hk
 replace V := V.nx hk
 replace X := X.nx hk
 replace Y := Y.nx hk
 replace hSf := hSf.nx hk
 clear hk
 generalize w19.alloc (.cells #[ii g1, ii q1, ii q2, ii q3, .slice Aa xs.length ca, .slice Ab ms.length cb] 26) = w20 at *
 generalize w19.heap.size = gN at *
 refine (sameIntsU_c Aa A1 ca c1 _ xs _ N.ins S.ins nle hxl).mono ?_
 rintro e w21 ⟨rfl, hk⟩
 go_wp2
 go_ret
 exact ⟨rfl, hX.trans hk⟩
end Go.Proofs.YtieoiailjjnnoaaGreatDoor
namespace Go.Proofs.YtieoiailjjnnoaaGreatDoor
set_option linter.unusedVariables false
set_option maxRecDepth 100000
set_option maxHeartbeats 16000000
open Go.ChangeShapes Go.WideShapes Go.ChangeAt Go.WideMaps Go.WideElems Go.RowKit
theorem ownP : ownKnob Tryz.prog.godebug = none := by kernel_rfl
theorem laidOutP : laidOutB Tryz.prog = true := by kernel_rfl
theorem gLongP : Tryz.prog.globalNamed "loop.example/g00608/impl.errTextLong" = some 1 := by kernel_rfl
theorem gFormP : Tryz.prog.globalNamed "loop.example/g00608/impl.errTextForm" = some 0 := by kernel_rfl
theorem tLongP : (Tryz.prog.globals[1]?).map (·.type) = some 86 := by kernel_rfl
theorem tFormP : (Tryz.prog.globals[0]?).map (·.type) = some 86 := by kernel_rfl
theorem starP : "*" ++ "errors.errorString" = "*errors.errorString" := by decide
theorem rowEP (u : TypeId) (h : Tryz.prog.typeName? 3 u = some "*errors.errorString") : u = 290 :=
 typeName_ptr_named (nm := "errors.errorString") (by rw [starP]; kernel_rfl) (by kernel_rfl) (by decide) u (by rw [starP]; exact h)
theorem cellsEP : Tryz.prog.cellsOf 308 = 1 := by kernel_rfl
theorem cellsSP : Tryz.prog.cellsOf 9 = 1 := by kernel_rfl
theorem etP : Tryz.prog.globalNamed "errors.errorType" = some 2 := by kernel_rfl
theorem rtP : (Tryz.prog.cutTypes.find? (·.1 == "internal/reflectlite.rtype")).map (·.2) = some 242 := by kernel_rfl
theorem oneRowP : ((List.range (420 - 100)).filter fun t => Tryz.prog.rowNamed t [101, 114, 114, 111, 114]) = [86] := by kernel_rfl
theorem sizeP : Tryz.prog.types.size = 420 - 100 := by kernel_rfl
noncomputable def typeWorld (os : Os) : World :=
 let w0 := World.holding Tryz.prog os ⟨#[], #[], []⟩
 { w0 with heap := w0.heap.modify 2 fun
  | .cells _ t frozen => .cells #[.iface 242 (.agg #[.pointer (some ⟨9, 86, none⟩)])] t frozen
  | o => o }
theorem et_of_handle {W : World} {l : List (String × DataW Unit)} (h : handlesMet Tryz.prog l W) (hl : ("errors.errorType", Rows.laid_errors_errorType) ∈ l) : Et W := by
 obtain ⟨name, u, ty, e1, e2, e3, e4, e5⟩ := h _ hl
 have en : name = [101, 114, 114, 111, 114] := (Option.some.inj e1).symm
 subst en
 obtain rfl := Option.some.inj (rtP.symm.trans e2)
 have hm : ty ∈ (List.range (420 - 100)).filter fun t => Tryz.prog.rowNamed t [101, 114, 114, 111, 114] := List.mem_filter.2 ⟨List.mem_range.2 (by rw [← sizeP]; exact e3), e4⟩
 rw [oneRowP] at hm
 obtain rfl := List.mem_singleton.1 hm
 have hh : typeHandle Tryz.prog 86 = .pointer (some ⟨9, 86, none⟩) := by kernel_rfl
 rw [hh] at e5
 unfold Et
 simpa using World.var?_cell etP e5 0
theorem laid_over {w0 : World} {laid : List (String × DataW Unit)} (args : Array Value) (hf : w0.layFits Tryz.prog laid [] = true) (hi : w0.layIfaces Tryz.prog laid (w0.layVars Tryz.prog laid) = true) :
 laidMet Tryz.prog laid ((w0.layVars Tryz.prog laid).forCall (fun _ _ => 0) ⟨#[], args, []⟩).memory := by
 have e1 : (laid.filter fun x => (laid.map (·.1)).contains x.1) = laid := List.filter_eq_self.2 fun x hx => List.contains_iff_mem.2 (List.mem_map.2 ⟨x, hx, rfl⟩)
 have e2 : (laid.filter fun x => !(laid.map (·.1)).contains x.1) = [] := List.filter_eq_nil_iff.2 fun x hx => by rw [List.contains_iff_mem.2 (List.mem_map.2 ⟨x, hx, rfl⟩)]; simp
 have h : laidMet Tryz.prog laid (w0.layVars Tryz.prog laid) := laidMet_layVars (w0 := w0) (laid.map (·.1)) [] (by rw [e1]) (by rw [e1]; exact hf) (by rw [e1]; exact hi) (by rw [e2]; exact LaidIn.none)
 exact h.of_heap (by simp [World.memory, World.forCall, Input.heap])
def plainQ : List (String × DataW Unit) := [("math/bits.deBruijn32tab", Rows.laid_math_bits_deBruijn32tab), ("math/bits.deBruijn64tab", Rows.laid_math_bits_deBruijn64tab), ("internal/strconv.uint64pow10", Rows.laid_internal_strconv_uint64pow10), ("unicode/utf8.acceptRanges", Rows.laid_unicode_utf8_acceptRanges), ("loop.example/g00608/impl.errTextLong", Rows.laid_loop_example_g00608_impl_errTextLong), ("loop.example/g00608/impl.errTextForm", Rows.laid_loop_example_g00608_impl_errTextForm), ("unicode/utf8.first", Rows.laid_unicode_utf8_first)]
def laidP : List (String × DataW Unit) := [("math/bits.deBruijn32tab", Rows.laid_math_bits_deBruijn32tab), ("math/bits.deBruijn64tab", Rows.laid_math_bits_deBruijn64tab), ("internal/strconv.uint64pow10", Rows.laid_internal_strconv_uint64pow10), ("unicode/utf8.acceptRanges", Rows.laid_unicode_utf8_acceptRanges), ("errors.errorType", Rows.laid_errors_errorType), ("loop.example/g00608/impl.errTextLong", Rows.laid_loop_example_g00608_impl_errTextLong), ("loop.example/g00608/impl.errTextForm", Rows.laid_loop_example_g00608_impl_errTextForm), ("unicode/utf8.first", Rows.laid_unicode_utf8_first)]
noncomputable def worldP (os : Os) : World := (typeWorld os).layVars Tryz.prog plainQ
theorem worldP_os (os : Os) : (worldP os).os = os := World.layVars_os _ _ _
theorem door_metP (os : Os) (args : Array Value) : laidMetH Tryz.prog laidP ((worldP os).forCall (fun _ _ => 0) ⟨#[], args, []⟩).memory :=
 laidMetH_of_parts (laid_over (laid := plainQ) args (by kernel_rfl) (by kernel_rfl)) (by kernel_rfl)
theorem of_laidP {W : World} (h : laidMetH Tryz.prog laidP W) : (∃ a0 a1, Er W a0 a1) ∧ Et W := by
 have h' : laidMet Tryz.prog plainQ W ∧ handlesMet Tryz.prog [("errors.errorType", Rows.laid_errors_errorType)] W := h
 obtain ⟨a1, a0, s1, s0, c1, c0, t1, t0, hv1, hv0, _, _, _, _, _, _, hne, hb1, hb0⟩ := laid_sentinels2 (laidMet.tail (laidMet.tail (laidMet.tail (laidMet.tail h'.1)))) gLongP tLongP gFormP tFormP Tryz.underlying86 rowEP Tryz.underlying290 Tryz.underlying308 rfl rfl Tryz.underlying9 cellsEP cellsSP
 exact ⟨⟨a0, a1, World.var?_cell gFormP hv0 0, World.var?_cell gLongP hv1 0, hne.symm, ⟨c0, t0, hb0⟩, c1, t1, hb1⟩, et_of_handle h'.2 (List.mem_singleton.2 rfl)⟩
theorem pow_datum : (Rows.laid_internal_strconv_uint64pow10 : DataW Unit) = Lib.tabData .u64 Lib.pow10Tab := by kernel_rfl
theorem gPow : ∃ g, Tryz.prog.globalNamed "internal/strconv.uint64pow10" = some g ∧ (Tryz.prog.globals[g]?).map (·.type) = some 280 := ⟨(Tryz.prog.globalNamed "internal/strconv.uint64pow10").getD 0, by kernel_rfl, by kernel_rfl⟩
theorem tab_of_laidP {W : World} (h : laidMetH Tryz.prog laidP W) : Tab W := by
 have h' : laidMet Tryz.prog plainQ W ∧ handlesMet Tryz.prog [("errors.errorType", Rows.laid_errors_errorType)] W := h
 have h1 := laidMet.tail (laidMet.tail h'.1)
 rw [pow_datum] at h1
 obtain ⟨g, hg, hty⟩ := gPow
 exact Lib.tabIs_of_head hg hty Tryz.underlying280 Tryz.underlying268 (by kernel_rfl) (by kernel_rfl) h1
theorem mx_of_shaped {W : World} (h : W.ShapedOpen Tryz.prog) : Mx W := cell_of_shapedOpen_int (zero := #[ii 0]) h (of_decide_eq_true (by kernel_rfl)) (by kernel_rfl) rfl (by kernel_rfl) (by kernel_rfl) Tryz.underlying3
variable {H : Type} {enc : TypeId × Value → H}
theorem handed_shaped {a : Assume} {C : Checked} {os : Os} {f : FuncId} {fn : Func} {s : ChangeSpec} {conds : List PathCond} {apart fresh handsOn again : Bool} {X : World → Array Value → Prop}
 (hX : ∀ (w w' : World) (args : Array Value), w.heap = w'.heap → X w args → X w' args)
 (own : ownKnob C.prog.godebug = none) (started : os.Started) (noInit : C.prog.inits.idxOf? f = none) (hfn : C.prog.funcs[f]? = some fn)
 (witness : ∃ (w : World) (tape : Tape) (i : Input), w.os = os ∧ (w.forCall tape i).Shaped C.prog ∧ i.vars = [] ∧ Input.okWide C.prog (w.forCall tape i) .any w.heap.size f i ∧
  ((s.pre enc C.prog fn conds apart (w.forCall tape i).memory i.args ∧ X (w.forCall tape i).memory i.args) ∧ sizedMet enc C.prog fn (OpenSpec.ofChange s) apart (w.forCall tape i).memory i.args) ∧ a.holds C.prog (lone (Frame.enter C.prog f i.args .normal) [] (w.forCall tape i)))
 (contract : ∀ (W : World) (base : Nat) (args : Array Value) (ds gs : List (DataW H)) (before : List MemPlace),
  (∀ (j : Nat) t v, fn.params[j]? = some t → args[j]? = some v → Value.okWide C.prog W .any base t v) →
  DataW.Whole enc C.prog fn.params.toList s.vars apart W args.toList ds gs before →
  W.ShapedOpen C.prog → X W args →
  Calls C.prog f args W fun e W' => ∃ v, e = .returned v ∧ s.post enc C.prog fn apart fresh handsOn again W args v W') :
 ReturnsInHanded a C os f .any (fun w args => (s.pre enc C.prog fn conds apart w args ∧ X w args) ∧ sizedMet enc C.prog fn (OpenSpec.ofChange s) apart w args) (s.post enc C.prog fn apart fresh handsOn again) := by
 refine returnsInHanded_of_calls own started noInit witness ?_
 intro w tape i _ hsh _ hok hpre hholds
 obtain ⟨_, _, _, fn', hfn', _, _, _, _, hval⟩ := hok
 have e : fn' = fn := Option.some.inj (hfn'.symm.trans hfn)
 subst e
 obtain ⟨⟨⟨ds, gs, before, hw, hc⟩, hx⟩, hz⟩ := hpre
 have hw' := DataW.Whole.of_heap (w' := w.forCall tape i) (by rfl) hw
 refine (contract (w.forCall tape i) w.heap.size i.args ds gs before hval hw' hsh (hX _ _ _ (by rfl) hx)).mono fun e W' ⟨v, he, hp⟩ => ?_
 subst he
 exact ChangeSpec.post_blind hp
end Go.Proofs.YtieoiailjjnnoaaGreatDoor
