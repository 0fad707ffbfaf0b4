/-
  Texts of the proof, put together in their order: Sud, Frv.
  Conditions: those of each.
-/
import Derived.Test.YtjefjngheolmkaaMw5
/- Drawn supers. Conditions: the code can be read, and holds at most 1048576 bytes. -/
namespace Go.Proofs.Ytjefjngheolmkaa
set_option linter.unusedVariables false
set_option maxRecDepth 100000
open Go.RowKit

/-- A super that is being drawn: the source, the result's block, the variable's block X, its rows. -/
def SuS (w wr : World) (g : Nat) (A : Option Addr) (n c K X : Nat) (cs : Array Value) (vT vM : Value) (xs : List Int) (ms : List Mrk) : Prop :=
  SrcR wr g A n c K ∧ Rg g (g + 1) w wr ∧ Box wr w.heap.size 54 #[.int .i64 0, .int .i64 0, .int .i64 0, .int .i64 0, .slice none 0 0, .slice none 0 0] ∧ Box wr X 54 cs ∧ RowI wr (w.heap.size + 1) vT xs ∧ RowM wr (w.heap.size + 1) vM ms
section
variable {w wr w' : World} {g : Nat} {A : Option Addr} {n c K K' X : Nat} {cs : Array Value} {vT vM vT' vM' : Value} {xs xs' : List Int} {ms ms' : List Mrk}
theorem SuS.nx (h : SuS w wr g A n c K X cs vT vM xs ms) (hb : Nx wr w') : SuS w w' g A n c K X cs vT vM xs ms :=
  ⟨h.1.nx hb, h.2.1.trans (Rg.of_nx hb), h.2.2.1.nx hb, h.2.2.2.1.nx hb, h.2.2.2.2.1.nx hb, h.2.2.2.2.2.nx hb⟩
theorem SuS.more (h : SuS w wr g A n c K X cs vT vM xs ms) (hk : K ≤ K') : SuS w wr g A n c K' X cs vT vM xs ms := ⟨h.1.more hk, h.2⟩
theorem SuS.rg (hg : g < w.heap.size) (hX : w.heap.size < X) (h : SuS w wr g A n c K X cs vT vM xs ms) (q : Rg g (g + 1) wr w') (s : SrcR w' g A n c K') : SuS w w' g A n c K' X cs vT vM xs ms :=
  ⟨s, h.2.1.trans q, h.2.2.1.rg q (.inr (by omega)), h.2.2.2.1.rg q (.inr (by omega)), h.2.2.2.2.1.rg q (by omega), h.2.2.2.2.2.rg q (by omega)⟩
theorem SuS.set (hg : g < w.heap.size) (hX : w.heap.size < X) (h : SuS w wr g A n c K X cs vT vM xs ms) (i : Nat) (u : Value) : SuS w (wr.setCell ⟨X, i, none⟩ u) g A n c K X (cs.setIfInBounds i u) vT vM xs ms :=
  ⟨h.1.farU (by simp; omega) u, h.2.1.setNew8 (by simp; omega) u, h.2.2.1.far (by simp; omega) u, h.2.2.2.1.set i u, h.2.2.2.2.1.far (p := ⟨X, i, none⟩) h.2.2.2.1 (by decide) u, h.2.2.2.2.2.far (p := ⟨X, i, none⟩) h.2.2.2.1 (by decide) u⟩
theorem SuS.growI (h : SuS w wr g A n c K X cs vT vM xs ms) (hr : RowI w' (w.heap.size + 1) vT' xs') (G : GrewT 3 (w.heap.size + 1) wr w') : SuS w w' g A n c K X cs vT' vM xs' ms :=
  ⟨h.1.grew G (by decide), G.rg _ _ _ h.2.1 (by omega), G.box _ _ _ (by decide) h.2.2.1, G.box _ _ _ (by decide) h.2.2.2.1, hr, h.2.2.2.2.2.grew G (by decide)⟩
theorem SuS.growM (h : SuS w wr g A n c K X cs vT vM xs ms) (hr : RowM w' (w.heap.size + 1) vM' ms') (G : GrewT 122 (w.heap.size + 1) wr w') : SuS w w' g A n c K X cs vT vM' xs ms' :=
  ⟨h.1.grew G (by decide), G.rg _ _ _ h.2.1 (by omega), G.box _ _ _ (by decide) h.2.2.1, G.box _ _ _ (by decide) h.2.2.2.1, h.2.2.2.2.1.grew G (by decide), hr⟩
theorem SuS.size (h : SuS w wr g A n c K X cs vT vM xs ms) : w.heap.size ≤ wr.heap.size := h.2.1.size
theorem SuS.size1 (h : SuS w wr g A n c K X cs vT vM xs ms) : w.heap.size + 1 ≤ wr.heap.size := h.2.2.1.lt
end
theorem tb_snoc {xs : List Int} {k : Int} (h : TbTo xs xs.length) (h1 : inB 10 63 k = true) (h2 : hasB xs xs.length k = false) : TbTo (xs ++ [k]) (xs.length + 1) := fun j hj => by
  have hg : ∀ i, i < xs.length → (xs ++ [k]).getD i 0 = xs.getD i 0 := fun i hi => by
    rw [List.getD_eq_getElem?_getD, List.getD_eq_getElem?_getD, List.getElem?_append_left hi]
  have ht : ∀ i, i ≤ xs.length → (xs ++ [k]).take i = xs.take i := fun i hi => List.take_append_of_le_length hi
  rcases Nat.lt_or_ge j xs.length with hlt | hge
  · have := h j hlt
    unfold tbOk hasB at this ⊢
    rw [hg j hlt, ht j (by omega)]
    exact this
  · obtain rfl : j = xs.length := by omega
    have hk : (xs ++ [k]).getD xs.length 0 = k := by rw [List.getD_eq_getElem?_getD, List.getElem?_append_right (Nat.le_refl _)]; simp
    unfold tbOk hasB
    rw [hk, ht _ (Nat.le_refl _), h1]
    unfold hasB at h2
    rw [h2]; rfl
/-- The names of drawn marks. -/
def nmK (k : Nat) : ByteArray := if k = 0 then ⟨#[97]⟩ else if k = 1 then ⟨#[98, 98]⟩ else ⟨#[110, 111, 111, 110]⟩
def MsUp (ms : List Mrk) (k : Nat) : Prop := ms.length ≤ k ∧ MkTo ms ms.length ∧ ∀ j, j < ms.length → ∃ i, i < k ∧ (ms.getD j mrZ).1 = nmK i
theorem nmK_less {i k : Nat} (h : i < k) (hk : k < 3) : Op.bytesLess (nmK i).toList (nmK k).toList = true := by
  have : (i = 0 ∧ k = 1) ∨ (i = 0 ∧ k = 2) ∨ (i = 1 ∧ k = 2) := by omega
  rcases this with ⟨rfl, rfl⟩ | ⟨rfl, rfl⟩ | ⟨rfl, rfl⟩ <;> decide +kernel
theorem nmK_ok (k : Nat) : nmB (nmK k) = true := by
  unfold nmK
  split
  · decide +kernel
  · split <;> decide +kernel
theorem MsUp.zero : MsUp [] 0 := ⟨Nat.le_refl _, MkTo.zero _, fun j hj => absurd hj (by simp)⟩
theorem MsUp.skip {ms : List Mrk} {k : Nat} (h : MsUp ms k) : MsUp ms (k + 1) := ⟨by have := h.1; omega, h.2.1, fun j hj => by obtain ⟨i, hi, e⟩ := h.2.2 j hj; exact ⟨i, by omega, e⟩⟩
theorem MsUp.add {ms : List Mrk} {k v : Nat} (h : MsUp ms k) (hk : k < 3) (hv : v < 20) : MsUp (ms ++ [(nmK k, (v : Int))]) (k + 1) := by
  have hl : (ms ++ [(nmK k, (v : Int))]).length = ms.length + 1 := by simp
  have hg : ∀ i, i < ms.length → (ms ++ [(nmK k, (v : Int))]).getD i mrZ = ms.getD i mrZ := fun i hi => by
    rw [List.getD_eq_getElem?_getD, List.getD_eq_getElem?_getD, List.getElem?_append_left hi]
  have he : (ms ++ [(nmK k, (v : Int))]).getD ms.length mrZ = (nmK k, (v : Int)) := by rw [List.getD_eq_getElem?_getD, List.getElem?_append_right (Nat.le_refl _)]; simp
  refine ⟨by rw [hl]; have := h.1; omega, fun j hj => ?_, fun j hj => ?_⟩
  · rw [hl] at hj
    rcases Nat.lt_or_ge j ms.length with hlt | hge
    · have := h.2.1 j hlt
      unfold okMk at this ⊢
      rw [hg j hlt, hg (j - 1) (by omega)]
      exact this
    · obtain rfl : j = ms.length := by omega
      unfold okMk mkB
      rw [he, nmK_ok, inB_mk (by omega) (by omega)]
      by_cases h0 : ms.length = 0
      · simp [h0]
      · obtain ⟨i, hi, e⟩ := h.2.2 (ms.length - 1) (by omega)
        rw [hg (ms.length - 1) (by omega), e, nmK_less hi hk]; simp
  · rw [hl] at hj
    rcases Nat.lt_or_ge j ms.length with hlt | hge
    · rw [hg j hlt]
      obtain ⟨i, hi, e⟩ := h.2.2 j hlt
      exact ⟨i, by omega, e⟩
    · obtain rfl : j = ms.length := by omega
      exact ⟨k, by omega, by rw [he]⟩
theorem nmK_size (k : Nat) : (nmK k).size ≤ 4 := by
  unfold nmK
  split
  · decide
  · split <;> decide
theorem MsUp.all {ms : List Mrk} {k : Nat} (h : MsUp ms k) : AllM ms := fun j => by
  by_cases hj : j < ms.length
  · obtain ⟨i, _, e⟩ := h.2.2 j hj
    rw [e]
    have := nmK_size i
    omega
  · rw [List.getD_eq_getElem?_getD, List.getElem?_eq_none (by omega)]; simp [mrZ]
theorem chanceU_c (m g : Nat) (A : Option Addr) (n c k B : Nat) (ys : List Nat) (w : World) (hm : 2 ≤ m) (hm2 : m ≤ 256) (hb : SrcR w g A n c k) (h : U8s w B A n ys) (hB : B ≤ g) (hn : n ≤ 1048576) (hk : k + 3 ≤ 1048576) :
    Calls Try.prog 112 #[.pointer (some ⟨g, 0, none⟩), .int .i64 m] w fun e w' => ∃ b : Bool, e = .returned (.bool b) ∧ SrcR w' g A n c (k + 3) ∧ Rg g (g + 1) w w' := by
  obtain ⟨a, sd, h1, h2, h3⟩ := hb
  obtain ⟨⟨b, a', sd'⟩, HPx⟩ : ∃ x, byteP ys a sd = x := ⟨_, rfl⟩
  obtain ⟨k1, k2, k3⟩ := byteP_lt h.2.1 h2 HPx
  exact (chance_c m g A n c a sd B ys b a' sd' w hm hm2 h3 h hB hn (by omega) h2 HPx).mono fun e w' ⟨he, hs, hr⟩ => ⟨_, he, ⟨a', sd', by omega, k3, hs⟩, hr⟩
theorem nm_cell {k : Nat} (h : k < 3) : (#[.string ⟨#[97]⟩, .string ⟨#[98, 98]⟩, .string ⟨#[110, 111, 111, 110]⟩] : Array Value)[k]? = some (.string (nmK k)) := by
  match k, h with
  | 0, _ => rfl
  | 1, _ => rfl
  | 2, _ => rfl
theorem mergeU {G : Nat → Nat → Nat → World → Prop} {F : Nat → Nat → Nat → World → Prop} {R : Prop} (main : (∀ gs gm v W, F gs gm v W → G gs gm v W) → R) (key : ∀ gs gm v W, F gs gm v W → G gs gm v W) : R := main key
set_option maxHeartbeats 16000000 in
theorem super_c (g : Nat) (A : Option Addr) (n c B k0 : Nat) (ys : List Nat) (w : World) (hb : SrcR w g A n c k0) (h : U8s w B A n ys) (hB : B ≤ g) (hn : n ≤ 1048576) (hk0 : k0 ≤ 1000000) :
    Calls Try.prog 73 #[.pointer (some ⟨g, 0, none⟩)] w fun e w' => ∃ (q0 q1 q2 q3 : Int) (A' : Option Addr) (c' : Nat) (xs : List Int) (A2 : Option Addr) (c2 : Nat) (ms : List Mrk),
      e = .returned (.agg #[.int .i64 q0, .int .i64 q1, .int .i64 q2, .int .i64 q3, .slice A' xs.length c', .slice A2 ms.length c2]) ∧ superB q0 q1 q2 q3 xs ms = true ∧ xs.length ≤ 5 ∧ xs.length ≤ c' ∧ AllM ms ∧ SlI w' w.heap.size A' xs ∧ SlM w' w.heap.size A2 ms ∧ SrcR w' g A n c (k0 + 100) ∧ Rg g (g + 1) w w' := by
  have hz0 := hb.lt
  have u0 := h
  have bR := Box.new w 54 #[.int .i64 0, .int .i64 0, .int .i64 0, .int .i64 0, .slice none 0 0, .slice none 0 0]
  have hx0 := (Nx.refl w).alloc (.cells #[.int .i64 0, .int .i64 0, .int .i64 0, .int .i64 0, .slice none 0 0, .slice none 0 0] 54)
  have s0 := hb.nx hx0
  have r0 : Rg g (g + 1) w (w.alloc (.cells #[.int .i64 0, .int .i64 0, .int .i64 0, .int .i64 0, .slice none 0 0, .slice none 0 0] 54)) := Rg.of_nx hx0
  clear hb h hx0
  go_enter Try.func73, Try.ntmps73
  go_wp2_with fail
  generalize w.alloc (.cells #[.int .i64 0, .int .i64 0, .int .i64 0, .int .i64 0, .slice none 0 0, .slice none 0 0] 54) = W at *
  refine (nextR_c 50 g A n c k0 B ys _ (by omega) (by omega) s0 (u0.rg r0 hB (Nat.le_of_lt hz0)) hB hn (by omega)).mono ?_
  rintro e w1 ⟨g0, rfl, hg0, s1, r1⟩
  have b1 := bR.rg r1 (.inr (by omega))
  have t1 := r0.trans r1
  clear bR r0 r1 s0
  go_wp2_with fail
  refine (nextR_c 5 g A n c (k0 + 3) B ys _ (by omega) (by omega) s1 (u0.rg t1 hB (Nat.le_of_lt hz0)) hB hn (by omega)).mono ?_
  rintro e w2 ⟨b0, rfl, hb0, s2, r2⟩
  have b2 := b1.rg r2 (.inr (by omega))
  have t2 := t1.trans r2
  clear b1 t1 r2 s1
  have hw2 := b2.lt
  obtain ⟨G, HG⟩ : ∃ q : Int, Hid ((1 : Int) + (g0 : Int) = q) := ⟨_, rfl⟩
  have h3 : SuS w (((w2.alloc (.cells #[] 3)).alloc (.cells #[] 122)).alloc (.cells #[.int .i64 (1 + (g0 : Int)), .int .i64 b0, .int .i64 0, .int .i64 0, .slice (some ⟨w2.heap.size, 0, none⟩) 0 0, .slice (some ⟨w2.heap.size + 1, 0, none⟩) 0 0] 54)) g A n c (k0 + 3 + 3) (w2.heap.size + 1 + 1)
      #[.int .i64 (1 + (g0 : Int)), .int .i64 b0, .int .i64 0, .int .i64 0, .slice (some ⟨w2.heap.size, 0, none⟩) 0 0, .slice (some ⟨w2.heap.size + 1, 0, none⟩) 0 0] (.slice (some ⟨w2.heap.size, 0, none⟩) 0 0) (.slice (some ⟨w2.heap.size + 1, 0, none⟩) 0 0) [] [] := by
    have hI := RowI.new w2 (B := w.heap.size + 1) (by omega)
    have hx1 := (Nx.refl w2).alloc (.cells #[] 3)
    have hM := RowM.new (w2.alloc (.cells #[] 3)) (B := w.heap.size + 1) (by simp; omega)
    have hx2 := (Nx.refl (w2.alloc (.cells #[] 3))).alloc (.cells #[] 122)
    have hx3 := (Nx.refl ((w2.alloc (.cells #[] 3)).alloc (.cells #[] 122))).alloc (.cells #[.int .i64 (1 + (g0 : Int)), .int .i64 b0, .int .i64 0, .int .i64 0, .slice (some ⟨w2.heap.size, 0, none⟩) 0 0, .slice (some ⟨w2.heap.size + 1, 0, none⟩) 0 0] 54)
    have bX := Box.new ((w2.alloc (.cells #[] 3)).alloc (.cells #[] 122)) 54 #[.int .i64 (1 + (g0 : Int)), .int .i64 b0, .int .i64 0, .int .i64 0, .slice (some ⟨w2.heap.size, 0, none⟩) 0 0, .slice (some ⟨w2.heap.size + 1, 0, none⟩) 0 0]
    simp only [World.size_alloc] at bX hM
    have hx := (hx1.trans hx2).trans hx3
    exact ⟨s2.nx hx, t2.trans (Rg.of_nx hx), b2.nx hx, bX, (hI.nx hx2).nx hx3, hM.nx hx3⟩
  have hX : w.heap.size < w2.heap.size + 1 + 1 := by omega
  go_wp2_with fail
  clear s2 t2 b2
  generalize ((w2.alloc (.cells #[] 3)).alloc (.cells #[] 122)).alloc (.cells #[.int .i64 (1 + (g0 : Int)), .int .i64 b0, .int .i64 0, .int .i64 0, .slice (some ⟨w2.heap.size, 0, none⟩) 0 0, .slice (some ⟨w2.heap.size + 1, 0, none⟩) 0 0] 54) = w3 at *
  generalize w2.heap.size + 1 + 1 = X at *
  obtain ⟨vT, HvT⟩ : ∃ x, Hid (Value.slice (some ⟨w2.heap.size, 0, none⟩) 0 0 = x) := ⟨_, rfl⟩
  obtain ⟨vM, HvM⟩ : ∃ x, Hid (Value.slice (some ⟨w2.heap.size + 1, 0, none⟩) 0 0 = x) := ⟨_, rfl⟩
  rw [HvT.out, HvM.out, HG.out] at h3
  have h3d := h3.nx (Nx.refl w3).drew
  go_wp2_with fail
  refine wp_region_plan (.t 0 (.t 1 (.t 2 (.c 3 (.t 4 (.t 5 (.c 6 .e))))))) (fun w' => w'.cell? ⟨X, 1, none⟩ = some (.int .i64 (b0 : Int))) (by kernel_rfl) (by kernel_rfl) rfl (by kernel_rfl) (fun _ _ d _ _ h => by cases d <;> exact h) (by exact h3d.2.2.2.1.d6.2.1) ?_
  simp only [psOf, List.getD_cons_zero, List.getD_cons_succ]
  repeat (first | (refine HP.take (v := ?_) (by rfl) ?_ ?_; rotate_left; (· (intro w hSw; (try dsimp only at hSw); go_simp; try with_reducible rfl)); (try simp only [Act.put, List.setIfInBounds_toArray, List.set_cons_zero, List.set_cons_succ])) | (refine HP.skip (by rfl) ?_; (try simp only [Act.put, List.setIfInBounds_toArray, List.set_cons_zero, List.set_cons_succ])))
  refine HP.call ?_
  refine CallStep.mk (by rfl) (fun K hK => ?_)
  go_simp
  refine (nextR_c 5 g A n c (k0 + 6) B ys _ (by omega) (by omega) h3d.1 (u0.rg h3d.2.1 hB (Nat.le_of_lt hz0)) hB hn (by omega)).mono ?_; rintro e w4 ⟨p0, rfl, hp0, sp0, qp0⟩; have h3e := h3d.rg hz0 hX qp0 sp0; obtain ⟨_, x1, x2, x3, _, _⟩ := h3e.2.2.2.1.d6; have f2 := h3e.2.2.2.1.frozen 2; have hwp0 : IntKind.i64.wrap ((b0 : Int) + (p0 : Int)) = (b0 : Int) + (p0 : Int) := IntWalk.i64_in _ (by omega); have h3s := h3e.set hz0 hX 2 (.int .i64 ((b0 : Int) + (p0 : Int)))
  go_wp2_with fail
  refine hK.out _ _ (by exact x1) ?_
  clear hK K
  try simp only [Act.put, List.setIfInBounds_toArray, List.set_cons_zero, List.set_cons_succ]
  repeat (first | (refine HP.take (v := ?_) (by rfl) ?_ ?_; rotate_left; (· (intro w hSw; (try dsimp only at hSw); go_simp; try with_reducible rfl)); (try simp only [Act.put, List.setIfInBounds_toArray, List.set_cons_zero, List.set_cons_succ])) | (refine HP.skip (by rfl) ?_; (try simp only [Act.put, List.setIfInBounds_toArray, List.set_cons_zero, List.set_cons_succ])))
  refine HP.call ?_
  refine CallStep.mk (by rfl) (fun K hK => ?_)
  go_simp
  refine hK.out _ _ (by exact h3s.2.2.2.1.d6.2.1) ?_
  clear hK K
  try simp only [Act.put, List.setIfInBounds_toArray, List.set_cons_zero, List.set_cons_succ]
  refine HP.done ?_
  simp only [List.setIfInBounds_toArray, List.set_cons_zero, List.set_cons_succ] at h3s
  have h4 := h3s
  clear h3 h3d h3e h3s qp0 sp0 x1 x2 x3 f2 hwp0
  generalize w4.setCell ⟨X, 2, none⟩ (.int .i64 ((b0 : Int) + (p0 : Int))) = w5 at *
  have h4d := h4.nx (Nx.refl w5).drew
  go_wp2_with fail
  refine wp_region_plan (.t 0 (.t 1 (.t 2 (.c 3 (.t 4 (.t 5 (.c 6 .e))))))) (fun w' => w'.cell? ⟨X, 1, none⟩ = some (.int .i64 (b0 : Int))) (by kernel_rfl) (by kernel_rfl) rfl (by kernel_rfl) (fun _ _ d _ _ h => by cases d <;> exact h) (by exact h4d.2.2.2.1.d6.2.1) ?_
  simp only [psOf, List.getD_cons_zero, List.getD_cons_succ]
  repeat (first | (refine HP.take (v := ?_) (by rfl) ?_ ?_; rotate_left; (· (intro w hSw; (try dsimp only at hSw); go_simp; try with_reducible rfl)); (try simp only [Act.put, List.setIfInBounds_toArray, List.set_cons_zero, List.set_cons_succ])) | (refine HP.skip (by rfl) ?_; (try simp only [Act.put, List.setIfInBounds_toArray, List.set_cons_zero, List.set_cons_succ])))
  refine HP.call ?_
  refine CallStep.mk (by rfl) (fun K hK => ?_)
  go_simp
  refine (nextR_c 5 g A n c (k0 + 9) B ys _ (by omega) (by omega) h4d.1 (u0.rg h4d.2.1 hB (Nat.le_of_lt hz0)) hB hn (by omega)).mono ?_; rintro e w6 ⟨t0, rfl, ht0, st0, qt0⟩; have h4e := h4d.rg hz0 hX qt0 st0; obtain ⟨_, x1, x2, x3, _, _⟩ := h4e.2.2.2.1.d6; have f2 := h4e.2.2.2.1.frozen 3; have hwt0 : IntKind.i64.wrap ((b0 : Int) + (t0 : Int)) = (b0 : Int) + (t0 : Int) := IntWalk.i64_in _ (by omega); have h4s := h4e.set hz0 hX 3 (.int .i64 ((b0 : Int) + (t0 : Int)))
  go_wp2_with fail
  refine hK.out _ _ (by exact x1) ?_
  clear hK K
  try simp only [Act.put, List.setIfInBounds_toArray, List.set_cons_zero, List.set_cons_succ]
  repeat (first | (refine HP.take (v := ?_) (by rfl) ?_ ?_; rotate_left; (· (intro w hSw; (try dsimp only at hSw); go_simp; try with_reducible rfl)); (try simp only [Act.put, List.setIfInBounds_toArray, List.set_cons_zero, List.set_cons_succ])) | (refine HP.skip (by rfl) ?_; (try simp only [Act.put, List.setIfInBounds_toArray, List.set_cons_zero, List.set_cons_succ])))
  refine HP.call ?_
  refine CallStep.mk (by rfl) (fun K hK => ?_)
  go_simp
  refine hK.out _ _ (by exact h4s.2.2.2.1.d6.2.1) ?_
  clear hK K
  try simp only [Act.put, List.setIfInBounds_toArray, List.set_cons_zero, List.set_cons_succ]
  refine HP.done ?_
  simp only [List.setIfInBounds_toArray, List.set_cons_zero, List.set_cons_succ] at h4s
  have h5 := h4s
  clear h4 h4d h4e h4s qt0 st0 x1 x2 x3 f2 hwt0
  generalize w6.setCell ⟨X, 3, none⟩ (.int .i64 ((b0 : Int) + (t0 : Int))) = w7 at *
  clear HvT HvM
  obtain ⟨P, HPP⟩ : ∃ q : Int, Hid ((b0 : Int) + (p0 : Int) = q) := ⟨_, rfl⟩
  obtain ⟨Q, HQ⟩ : ∃ q : Int, Hid ((b0 : Int) + (t0 : Int) = q) := ⟨_, rfl⟩
  rw [HPP.out, HQ.out] at h5
  go_wp2_with fail
  refine (nextR_c 6 g A n c (k0 + 12) B ys _ (by omega) (by omega) h5.1 (u0.rg h5.2.1 hB (Nat.le_of_lt hz0)) hB hn (by omega)).mono ?_
  rintro e w8 ⟨m0, rfl, hm0, s8, r8⟩
  have h8 := h5.rg hz0 hX r8 s8
  clear h5 s8 r8
  go_wp2_with fail
  go_loopw [4] (fun i wr => ∃ (j : Nat) (xs : List Int) (vT : Value), j ≤ 5 ∧ i = .int .i64 j ∧ xs.length + j ≤ 5 ∧ Hid (TbTo xs xs.length) ∧ SuS w wr g A n c (k0 + (60 - 3 * j)) X #[.int .i64 G, .int .i64 b0, .int .i64 P, .int .i64 Q, vT, vM] vT vM xs []) (fun i _ => (intOf i).toNat)
  case atStart => exact ⟨m0, [], vT, by omega, rfl, by simp; omega, Lib.hid (TbTo.zero _), h8.more (by omega)⟩
  case round =>
    obtain ⟨j, xs, vU, hj, rfl, hl, HT, hs⟩ := hrel
    clear h8
    obtain ⟨_, _, _, _, x4, _⟩ := hs.2.2.2.1.d6
    by_cases hlt : 0 < j
    · have hdj : decide (0 < (j : Int)) = true := by simp; omega
      have hdj2 : decide (0 < j) = true := by simp; omega
      go_wp2_with fail
      refine (nextR_c 54 g A n c (k0 + (60 - 3 * j)) B ys _ (by omega) (by omega) hs.1 (u0.rg hs.2.1 hB (Nat.le_of_lt hz0)) hB hn (by omega)).mono ?_
      rintro e w9 ⟨d, rfl, hd, s9, r9⟩
      have h9 := (hs.rg hz0 hX r9 s9).more (K' := k0 + (60 - 3 * (j - 1))) (by omega)
      clear hs s9 r9 x4
      obtain ⟨_, _, _, _, x4, _⟩ := h9.2.2.2.1.d6
      have f4 := h9.2.2.2.1.frozen 4
      obtain ⟨q, Hq⟩ : ∃ q : Int, Hid ((10 : Int) + (d : Int) = q) := ⟨_, rfl⟩
      have HI := Lib.hid (inB_mk (lo := 10) (hi := 63) (a := q) (by have := Hq.out; omega) (by have := Hq.out; omega))
      obtain ⟨A7, c7, rfl, hc7, hS7⟩ := h9.2.2.2.2.1.slc
      cases hh : hasB xs xs.length q with
      | true =>
        have HX := Lib.hid hh
        clear hh
        go_wp2_with (go_at_call 102; rw [Hq.out]; refine (l04In_c A7 xs.length c7 _ xs q _ hS7.row (Nat.le_refl _) (by omega)).mono ?_; rintro e w' ⟨rfl, rfl⟩; rw [HX.out])
        go_roundw
        case rel => exact ⟨j - 1, xs, _, by omega, by go_num, by omega, HT, h9⟩
        case measure => simp [intOf]; omega
      | false =>
        have HX := Lib.hid hh
        clear hh
        have ha := h9.nx ((Nx.refl w9).alloc (.cells #[.int .i64 q] 3))
        have HB := Lib.hid (Box.new w9 3 #[.int .i64 q])
        have HR := Lib.hid ha.2.2.2.2.1
        have HT2 := Lib.hid (tb_snoc HT.out HI.out HX.out)
        have hz9 := ha.size1
        go_wp2_with (first | (go_at_call 102; rw [Hq.out]; refine (l04In_c A7 xs.length c7 _ xs q _ hS7.row (Nat.le_refl _) (by omega)).mono ?_; rintro e w' ⟨rfl, rfl⟩; rw [HX.out]) | (at_builtin; (try rw [Hq.out]); refine wpList_addI rfl _ _ rfl (w.heap.size + 1) w9.heap.size _ xs q rfl rfl HR.out HB.out (by omega) hz9 ?_))
        intro A8 k8 w10 hr10 hG10
        have hb10 := ha.growI hr10 hG10
        have hl10 := hb10.2.2.2.1.lt
        obtain ⟨_, _, _, _, y4, _⟩ := hb10.2.2.2.1.d6
        have g4 := hb10.2.2.2.1.frozen 4
        have hs10 := hb10.set hz0 hX 4 (.slice A8 (xs.length + 1) k8)
        simp only [List.setIfInBounds_toArray, List.set_cons_zero, List.set_cons_succ] at hs10
        clear x4 f4 ha h9 hr10 hG10 hb10 HR HB hS7
        go_wp2
        go_roundw
        case rel => exact ⟨j - 1, xs ++ [q], _, by omega, by go_num, by rw [List.length_append]; simp only [List.length_cons, List.length_nil]; omega, Lib.hid (by rw [List.length_append]; exact HT2.out), hs10⟩
        case measure => simp [intOf]; omega
    · have HJ := Lib.hid (show j = 0 by omega)
      have hdj : decide (0 < (j : Int)) = false := by simp; omega
      have hdj2 : decide (0 < j) = false := by simp; omega
      clear x4 hlt
      obtain ⟨w11, hw11⟩ : ∃ x, x = wr := ⟨_, rfl⟩
      subst hw11
      go_wp2
      go_loopw [6] (fun i wr => ∃ (k : Nat) (ms : List Mrk) (vM : Value), k ≤ 3 ∧ i = .int .i64 k ∧ Hid (MsUp ms k) ∧ SuS w wr g A n c (k0 + (60 + 6 * k)) X #[.int .i64 G, .int .i64 b0, .int .i64 P, .int .i64 Q, vU, vM] vU vM xs ms) (fun i _ => 3 - (intOf i).toNat)
      case atStart => exact ⟨0, [], vM, by omega, rfl, Lib.hid MsUp.zero, hs.more (by have := HJ.out; omega)⟩
      case round =>
        obtain ⟨k, ms, vN, hk, rfl, HM, hm⟩ := hrel
        clear hs
        have hml : ms.length ≤ 3 := by have := HM.out.1; omega
        by_cases hlt3 : k < 3
        · have hdk : decide ((k : Int) < 3) = true := by simp; omega
          go_wp2_with fail
          refine (chanceU_c 3 g A n c (k0 + (60 + 6 * k)) B ys _ (by omega) (by omega) hm.1 (u0.rg hm.2.1 hB (Nat.le_of_lt hz0)) hB hn (by omega)).mono ?_
          rintro e w12 ⟨ch, rfl, s12, r12⟩
          have h12 := hm.rg hz0 hX r12 s12
          clear hm s12 r12
          cases ch with
          | false =>
            go_wp2
            go_roundw
            case rel => exact ⟨k + 1, ms, vN, by omega, by go_num, Lib.hid HM.out.skip, h12.more (by omega)⟩
            case measure => simp [intOf]; omega
          | true =>
            have hi1 : (k : Int) < 3 := by omega
            have hi2 : (0 : Int) ≤ (k : Int) := by omega
            go_wp2_with fail
            refine mergeU (F := (fun gs gm v W => SuS w W g A n c (k0 + (60 + 6 * k) + 6) X #[.int .i64 G, .int .i64 b0, .int .i64 P, .int .i64 Q, vU, vN] vU vN xs ms ∧ Box W gm 122 #[.string (nmK k), .int .i64 (v : Int)] ∧ v < 20)) (G := ?_) (fun key => ?_) ?_
            rotate_left
            · have hd := h12.nx (Nx.refl w12).drew
              refine wp_region_plan (.t 0 (.t 3 (.t 6 (.d 1 (.b 2 (.t 4 (.b 5 (.c 7 (.t 8 (.c 9 (.c 10 (.t 11 (.c 12 .e)))))) 7 (.c 5 (.t 8 (.c 9 (.c 10 (.t 11 (.c 12 .e)))))))) 7 (.c 2 (.t 4 (.c 5 (.t 8 (.c 9 (.c 10 (.t 11 (.c 12 .e))))))))) 2 (.t 4 (.d 1 (.b 5 (.c 7 (.t 8 (.c 9 (.c 10 (.t 11 (.c 12 .e)))))) 7 (.c 5 (.t 8 (.c 9 (.c 10 (.t 11 (.c 12 .e))))))) 5 (.b 1 (.c 7 (.t 8 (.c 9 (.c 10 (.t 11 (.c 12 .e)))))) 7 (.t 8 (.b 1 (.c 9 (.c 10 (.t 11 (.c 12 .e)))) 9 (.c 1 (.c 10 (.t 11 (.c 12 .e))))))) 7 (.b 1 (.c 5 (.t 8 (.c 9 (.c 10 (.t 11 (.c 12 .e)))))) 5 (.t 8 (.b 1 (.c 9 (.c 10 (.t 11 (.c 12 .e)))) 9 (.c 1 (.c 10 (.t 11 (.c 12 .e))))))))) 7 (.b 1 (.c 2 (.t 4 (.c 5 (.t 8 (.c 9 (.c 10 (.t 11 (.c 12 .e)))))))) 2 (.t 4 (.b 1 (.c 5 (.t 8 (.c 9 (.c 10 (.t 11 (.c 12 .e)))))) 5 (.t 8 (.b 1 (.c 9 (.c 10 (.t 11 (.c 12 .e)))) 9 (.c 1 (.c 10 (.t 11 (.c 12 .e))))))))))))) (fun _ => True) (by kernel_rfl) (by kernel_rfl) rfl (by kernel_rfl) (fun _ _ d _ _ h => by cases d <;> exact h) (by exact True.intro) ?_
              simp only [psOf, List.getD_cons_zero, List.getD_cons_succ]
              change HP _ _ _ _ _ _ w12.drew
              generalize w12.drew = wd at hd ⊢
              repeat (first | (refine HP.take (v := ?_) (by rfl) ?_ ?_; rotate_left; (· (intro w hSw; (try dsimp only at hSw); go_simp; try with_reducible rfl)); (try simp only [Act.put, List.setIfInBounds_toArray, List.set_cons_zero, List.set_cons_succ])) | (refine HP.skip (by rfl) ?_; (try simp only [Act.put, List.setIfInBounds_toArray, List.set_cons_zero, List.set_cons_succ])))
              refine HP.three ?_ ?_ ?_
              · obtain ⟨_, _, _, _, _, l1⟩ := hd.2.2.2.1.d6
                refine CallStep.mk (by rfl) (fun K hK => ?_)
                go_simp
                refine hK.out _ _ (by exact True.intro) ?_
                clear hK K
                try simp only [Act.put, List.setIfInBounds_toArray, List.set_cons_zero, List.set_cons_succ]
                refine HP.both ?_ ?_
                · have HGS : g + 1 ≤ wd.heap.size := by have := hd.size1; omega
                  have bs := Box.new wd 9 #[.string ⟨#[97]⟩, .string ⟨#[98, 98]⟩, .string ⟨#[110, 111, 111, 110]⟩]
                  have h2 := hd.nx ((Nx.refl wd).alloc (.cells #[.string ⟨#[97]⟩, .string ⟨#[98, 98]⟩, .string ⟨#[110, 111, 111, 110]⟩] 9))
                  refine CallStep.mk (by rfl) (fun K hK => ?_)
                  go_simp
                  refine hK.out _ _ (by exact True.intro) ?_
                  clear hK K
                  try simp only [Act.put, List.setIfInBounds_toArray, List.set_cons_zero, List.set_cons_succ]
                  change HP _ _ _ _ _ _ (wd.alloc (.cells #[.string ⟨#[97]⟩, .string ⟨#[98, 98]⟩, .string ⟨#[110, 111, 111, 110]⟩] 9))
                  generalize wd.alloc (.cells #[.string ⟨#[97]⟩, .string ⟨#[98, 98]⟩, .string ⟨#[110, 111, 111, 110]⟩] 9) = w2_ at *
                  generalize wd.heap.size = gs at *
                  have hgs : g + 1 ≤ gs := HGS
                  repeat (first | (refine HP.take (v := ?_) (by rfl) ?_ ?_; rotate_left; (· (intro w hSw; (try dsimp only at hSw); go_simp; try with_reducible rfl)); (try simp only [Act.put, List.setIfInBounds_toArray, List.set_cons_zero, List.set_cons_succ])) | (refine HP.skip (by rfl) ?_; (try simp only [Act.put, List.setIfInBounds_toArray, List.set_cons_zero, List.set_cons_succ])))
                  refine HP.both ?_ ?_
                  · have n3 := (bs.cell k).trans (nm_cell hlt3)
                    refine CallStep.mk (by rfl) (fun K hK => ?_)
                    go_simp
                    refine hK.out _ _ (by exact True.intro) ?_
                    clear hK K
                    try simp only [Act.put, List.setIfInBounds_toArray, List.set_cons_zero, List.set_cons_succ]
                    refine HP.call ?_
                    refine CallStep.mk (by rfl) (fun K hK => ?_)
                    go_simp
                    refine (nextR_c 20 g A n c (k0 + (60 + 6 * k) + 3) B ys _ (by omega) (by omega) h2.1 (u0.rg h2.2.1 hB (Nat.le_of_lt hz0)) hB hn (by omega)).mono ?_; rintro e w4_ ⟨v, rfl, hv, s4, q4⟩; have h4 := h2.rg hz0 hX q4 s4; replace bs := bs.rg q4 (.inr hgs)
                    go_wp2_with fail
                    refine hK.out _ _ (by exact True.intro) ?_
                    clear hK K
                    try simp only [Act.put, List.setIfInBounds_toArray, List.set_cons_zero, List.set_cons_succ]
                    repeat (first | (refine HP.take (v := ?_) (by rfl) ?_ ?_; rotate_left; (· (intro w hSw; (try dsimp only at hSw); go_simp; try with_reducible rfl)); (try simp only [Act.put, List.setIfInBounds_toArray, List.set_cons_zero, List.set_cons_succ])) | (refine HP.skip (by rfl) ?_; (try simp only [Act.put, List.setIfInBounds_toArray, List.set_cons_zero, List.set_cons_succ])))
                    refine HP.call ?_
                    have bm := Box.new w4_ 122 #[.string (nmK k), .int .i64 (v : Int)]
                    have h5 := h4.nx ((Nx.refl w4_).alloc (.cells #[.string (nmK k), .int .i64 (v : Int)] 122))
                    have bs5 := bs.nx ((Nx.refl w4_).alloc (.cells #[.string (nmK k), .int .i64 (v : Int)] 122))
                    refine CallStep.mk (by rfl) (fun K hK => ?_)
                    go_simp
                    refine hK.out _ _ (by exact True.intro) ?_
                    clear hK K
                    try simp only [Act.put, List.setIfInBounds_toArray, List.set_cons_zero, List.set_cons_succ]
                    change HP _ _ _ _ _ _ (w4_.alloc (.cells #[.string (nmK k), .int .i64 (v : Int)] 122))
                    generalize w4_.alloc (.cells #[.string (nmK k), .int .i64 (v : Int)] 122) = w5_ at *
                    generalize w4_.heap.size = gm at *
                    exact key gs gm v w5_ ⟨h5, bm, hv⟩
                  · refine CallStep.mk (by rfl) (fun K hK => ?_)
                    go_simp
                    refine (nextR_c 20 g A n c (k0 + (60 + 6 * k) + 3) B ys _ (by omega) (by omega) h2.1 (u0.rg h2.2.1 hB (Nat.le_of_lt hz0)) hB hn (by omega)).mono ?_; rintro e w6_ ⟨v, rfl, hv, s6, q6⟩; have h6 := h2.rg hz0 hX q6 s6; replace bs := bs.rg q6 (.inr hgs)
                    go_wp2_with fail
                    refine hK.out _ _ (by exact True.intro) ?_
                    clear hK K
                    try simp only [Act.put, List.setIfInBounds_toArray, List.set_cons_zero, List.set_cons_succ]
                    refine HP.call ?_
                    have n7 := (bs.cell k).trans (nm_cell hlt3)
                    refine CallStep.mk (by rfl) (fun K hK => ?_)
                    go_simp
                    refine hK.out _ _ (by exact True.intro) ?_
                    clear hK K
                    try simp only [Act.put, List.setIfInBounds_toArray, List.set_cons_zero, List.set_cons_succ]
                    repeat (first | (refine HP.take (v := ?_) (by rfl) ?_ ?_; rotate_left; (· (intro w hSw; (try dsimp only at hSw); go_simp; try with_reducible rfl)); (try simp only [Act.put, List.setIfInBounds_toArray, List.set_cons_zero, List.set_cons_succ])) | (refine HP.skip (by rfl) ?_; (try simp only [Act.put, List.setIfInBounds_toArray, List.set_cons_zero, List.set_cons_succ])))
                    refine HP.call ?_
                    have bm := Box.new w6_ 122 #[.string (nmK k), .int .i64 (v : Int)]
                    have h8 := h6.nx ((Nx.refl w6_).alloc (.cells #[.string (nmK k), .int .i64 (v : Int)] 122))
                    have bs8 := bs.nx ((Nx.refl w6_).alloc (.cells #[.string (nmK k), .int .i64 (v : Int)] 122))
                    refine CallStep.mk (by rfl) (fun K hK => ?_)
                    go_simp
                    refine hK.out _ _ (by exact True.intro) ?_
                    clear hK K
                    try simp only [Act.put, List.setIfInBounds_toArray, List.set_cons_zero, List.set_cons_succ]
                    change HP _ _ _ _ _ _ (w6_.alloc (.cells #[.string (nmK k), .int .i64 (v : Int)] 122))
                    generalize w6_.alloc (.cells #[.string (nmK k), .int .i64 (v : Int)] 122) = w8_ at *
                    generalize w6_.heap.size = gm at *
                    exact key gs gm v w8_ ⟨h8, bm, hv⟩
                · refine CallStep.mk (by rfl) (fun K hK => ?_)
                  go_simp
                  refine (nextR_c 20 g A n c (k0 + (60 + 6 * k) + 3) B ys _ (by omega) (by omega) hd.1 (u0.rg hd.2.1 hB (Nat.le_of_lt hz0)) hB hn (by omega)).mono ?_; rintro e w9_ ⟨v, rfl, hv, s9, q9⟩; have h9 := hd.rg hz0 hX q9 s9
                  go_wp2_with fail
                  refine hK.out _ _ (by exact True.intro) ?_
                  clear hK K
                  try simp only [Act.put, List.setIfInBounds_toArray, List.set_cons_zero, List.set_cons_succ]
                  refine HP.call ?_
                  have HGS : g + 1 ≤ w9_.heap.size := by have := h9.size1; omega
                  have bs := Box.new w9_ 9 #[.string ⟨#[97]⟩, .string ⟨#[98, 98]⟩, .string ⟨#[110, 111, 111, 110]⟩]
                  have h10 := h9.nx ((Nx.refl w9_).alloc (.cells #[.string ⟨#[97]⟩, .string ⟨#[98, 98]⟩, .string ⟨#[110, 111, 111, 110]⟩] 9))
                  refine CallStep.mk (by rfl) (fun K hK => ?_)
                  go_simp
                  refine hK.out _ _ (by exact True.intro) ?_
                  clear hK K
                  try simp only [Act.put, List.setIfInBounds_toArray, List.set_cons_zero, List.set_cons_succ]
                  change HP _ _ _ _ _ _ (w9_.alloc (.cells #[.string ⟨#[97]⟩, .string ⟨#[98, 98]⟩, .string ⟨#[110, 111, 111, 110]⟩] 9))
                  generalize w9_.alloc (.cells #[.string ⟨#[97]⟩, .string ⟨#[98, 98]⟩, .string ⟨#[110, 111, 111, 110]⟩] 9) = w10_ at *
                  generalize w9_.heap.size = gs at *
                  have hgs : g + 1 ≤ gs := HGS
                  repeat (first | (refine HP.take (v := ?_) (by rfl) ?_ ?_; rotate_left; (· (intro w hSw; (try dsimp only at hSw); go_simp; try with_reducible rfl)); (try simp only [Act.put, List.setIfInBounds_toArray, List.set_cons_zero, List.set_cons_succ])) | (refine HP.skip (by rfl) ?_; (try simp only [Act.put, List.setIfInBounds_toArray, List.set_cons_zero, List.set_cons_succ])))
                  refine HP.call ?_
                  have n11 := (bs.cell k).trans (nm_cell hlt3)
                  refine CallStep.mk (by rfl) (fun K hK => ?_)
                  go_simp
                  refine hK.out _ _ (by exact True.intro) ?_
                  clear hK K
                  try simp only [Act.put, List.setIfInBounds_toArray, List.set_cons_zero, List.set_cons_succ]
                  repeat (first | (refine HP.take (v := ?_) (by rfl) ?_ ?_; rotate_left; (· (intro w hSw; (try dsimp only at hSw); go_simp; try with_reducible rfl)); (try simp only [Act.put, List.setIfInBounds_toArray, List.set_cons_zero, List.set_cons_succ])) | (refine HP.skip (by rfl) ?_; (try simp only [Act.put, List.setIfInBounds_toArray, List.set_cons_zero, List.set_cons_succ])))
                  refine HP.call ?_
                  have bm := Box.new w10_ 122 #[.string (nmK k), .int .i64 (v : Int)]
                  have h12 := h10.nx ((Nx.refl w10_).alloc (.cells #[.string (nmK k), .int .i64 (v : Int)] 122))
                  have bs12 := bs.nx ((Nx.refl w10_).alloc (.cells #[.string (nmK k), .int .i64 (v : Int)] 122))
                  refine CallStep.mk (by rfl) (fun K hK => ?_)
                  go_simp
                  refine hK.out _ _ (by exact True.intro) ?_
                  clear hK K
                  try simp only [Act.put, List.setIfInBounds_toArray, List.set_cons_zero, List.set_cons_succ]
                  change HP _ _ _ _ _ _ (w10_.alloc (.cells #[.string (nmK k), .int .i64 (v : Int)] 122))
                  generalize w10_.alloc (.cells #[.string (nmK k), .int .i64 (v : Int)] 122) = w12_ at *
                  generalize w10_.heap.size = gm at *
                  exact key gs gm v w12_ ⟨h12, bm, hv⟩
              · have HGS : g + 1 ≤ wd.heap.size := by have := hd.size1; omega
                have bs := Box.new wd 9 #[.string ⟨#[97]⟩, .string ⟨#[98, 98]⟩, .string ⟨#[110, 111, 111, 110]⟩]
                have h13 := hd.nx ((Nx.refl wd).alloc (.cells #[.string ⟨#[97]⟩, .string ⟨#[98, 98]⟩, .string ⟨#[110, 111, 111, 110]⟩] 9))
                refine CallStep.mk (by rfl) (fun K hK => ?_)
                go_simp
                refine hK.out _ _ (by exact True.intro) ?_
                clear hK K
                try simp only [Act.put, List.setIfInBounds_toArray, List.set_cons_zero, List.set_cons_succ]
                change HP _ _ _ _ _ _ (wd.alloc (.cells #[.string ⟨#[97]⟩, .string ⟨#[98, 98]⟩, .string ⟨#[110, 111, 111, 110]⟩] 9))
                generalize wd.alloc (.cells #[.string ⟨#[97]⟩, .string ⟨#[98, 98]⟩, .string ⟨#[110, 111, 111, 110]⟩] 9) = w13_ at *
                generalize wd.heap.size = gs at *
                have hgs : g + 1 ≤ gs := HGS
                repeat (first | (refine HP.take (v := ?_) (by rfl) ?_ ?_; rotate_left; (· (intro w hSw; (try dsimp only at hSw); go_simp; try with_reducible rfl)); (try simp only [Act.put, List.setIfInBounds_toArray, List.set_cons_zero, List.set_cons_succ])) | (refine HP.skip (by rfl) ?_; (try simp only [Act.put, List.setIfInBounds_toArray, List.set_cons_zero, List.set_cons_succ])))
                refine HP.three ?_ ?_ ?_
                · obtain ⟨_, _, _, _, _, l14⟩ := h13.2.2.2.1.d6
                  refine CallStep.mk (by rfl) (fun K hK => ?_)
                  go_simp
                  refine hK.out _ _ (by exact True.intro) ?_
                  clear hK K
                  try simp only [Act.put, List.setIfInBounds_toArray, List.set_cons_zero, List.set_cons_succ]
                  refine HP.both ?_ ?_
                  · have n15 := (bs.cell k).trans (nm_cell hlt3)
                    refine CallStep.mk (by rfl) (fun K hK => ?_)
                    go_simp
                    refine hK.out _ _ (by exact True.intro) ?_
                    clear hK K
                    try simp only [Act.put, List.setIfInBounds_toArray, List.set_cons_zero, List.set_cons_succ]
                    refine HP.call ?_
                    refine CallStep.mk (by rfl) (fun K hK => ?_)
                    go_simp
                    refine (nextR_c 20 g A n c (k0 + (60 + 6 * k) + 3) B ys _ (by omega) (by omega) h13.1 (u0.rg h13.2.1 hB (Nat.le_of_lt hz0)) hB hn (by omega)).mono ?_; rintro e w16_ ⟨v, rfl, hv, s16, q16⟩; have h16 := h13.rg hz0 hX q16 s16; replace bs := bs.rg q16 (.inr hgs)
                    go_wp2_with fail
                    refine hK.out _ _ (by exact True.intro) ?_
                    clear hK K
                    try simp only [Act.put, List.setIfInBounds_toArray, List.set_cons_zero, List.set_cons_succ]
                    repeat (first | (refine HP.take (v := ?_) (by rfl) ?_ ?_; rotate_left; (· (intro w hSw; (try dsimp only at hSw); go_simp; try with_reducible rfl)); (try simp only [Act.put, List.setIfInBounds_toArray, List.set_cons_zero, List.set_cons_succ])) | (refine HP.skip (by rfl) ?_; (try simp only [Act.put, List.setIfInBounds_toArray, List.set_cons_zero, List.set_cons_succ])))
                    refine HP.call ?_
                    have bm := Box.new w16_ 122 #[.string (nmK k), .int .i64 (v : Int)]
                    have h17 := h16.nx ((Nx.refl w16_).alloc (.cells #[.string (nmK k), .int .i64 (v : Int)] 122))
                    have bs17 := bs.nx ((Nx.refl w16_).alloc (.cells #[.string (nmK k), .int .i64 (v : Int)] 122))
                    refine CallStep.mk (by rfl) (fun K hK => ?_)
                    go_simp
                    refine hK.out _ _ (by exact True.intro) ?_
                    clear hK K
                    try simp only [Act.put, List.setIfInBounds_toArray, List.set_cons_zero, List.set_cons_succ]
                    change HP _ _ _ _ _ _ (w16_.alloc (.cells #[.string (nmK k), .int .i64 (v : Int)] 122))
                    generalize w16_.alloc (.cells #[.string (nmK k), .int .i64 (v : Int)] 122) = w17_ at *
                    generalize w16_.heap.size = gm at *
                    exact key gs gm v w17_ ⟨h17, bm, hv⟩
                  · refine CallStep.mk (by rfl) (fun K hK => ?_)
                    go_simp
                    refine (nextR_c 20 g A n c (k0 + (60 + 6 * k) + 3) B ys _ (by omega) (by omega) h13.1 (u0.rg h13.2.1 hB (Nat.le_of_lt hz0)) hB hn (by omega)).mono ?_; rintro e w18_ ⟨v, rfl, hv, s18, q18⟩; have h18 := h13.rg hz0 hX q18 s18; replace bs := bs.rg q18 (.inr hgs)
                    go_wp2_with fail
                    refine hK.out _ _ (by exact True.intro) ?_
                    clear hK K
                    try simp only [Act.put, List.setIfInBounds_toArray, List.set_cons_zero, List.set_cons_succ]
                    refine HP.call ?_
                    have n19 := (bs.cell k).trans (nm_cell hlt3)
                    refine CallStep.mk (by rfl) (fun K hK => ?_)
                    go_simp
                    refine hK.out _ _ (by exact True.intro) ?_
                    clear hK K
                    try simp only [Act.put, List.setIfInBounds_toArray, List.set_cons_zero, List.set_cons_succ]
                    repeat (first | (refine HP.take (v := ?_) (by rfl) ?_ ?_; rotate_left; (· (intro w hSw; (try dsimp only at hSw); go_simp; try with_reducible rfl)); (try simp only [Act.put, List.setIfInBounds_toArray, List.set_cons_zero, List.set_cons_succ])) | (refine HP.skip (by rfl) ?_; (try simp only [Act.put, List.setIfInBounds_toArray, List.set_cons_zero, List.set_cons_succ])))
                    refine HP.call ?_
                    have bm := Box.new w18_ 122 #[.string (nmK k), .int .i64 (v : Int)]
                    have h20 := h18.nx ((Nx.refl w18_).alloc (.cells #[.string (nmK k), .int .i64 (v : Int)] 122))
                    have bs20 := bs.nx ((Nx.refl w18_).alloc (.cells #[.string (nmK k), .int .i64 (v : Int)] 122))
                    refine CallStep.mk (by rfl) (fun K hK => ?_)
                    go_simp
                    refine hK.out _ _ (by exact True.intro) ?_
                    clear hK K
                    try simp only [Act.put, List.setIfInBounds_toArray, List.set_cons_zero, List.set_cons_succ]
                    change HP _ _ _ _ _ _ (w18_.alloc (.cells #[.string (nmK k), .int .i64 (v : Int)] 122))
                    generalize w18_.alloc (.cells #[.string (nmK k), .int .i64 (v : Int)] 122) = w20_ at *
                    generalize w18_.heap.size = gm at *
                    exact key gs gm v w20_ ⟨h20, bm, hv⟩
                · have n21 := (bs.cell k).trans (nm_cell hlt3)
                  refine CallStep.mk (by rfl) (fun K hK => ?_)
                  go_simp
                  refine hK.out _ _ (by exact True.intro) ?_
                  clear hK K
                  try simp only [Act.put, List.setIfInBounds_toArray, List.set_cons_zero, List.set_cons_succ]
                  refine HP.both ?_ ?_
                  · obtain ⟨_, _, _, _, _, l22⟩ := h13.2.2.2.1.d6
                    refine CallStep.mk (by rfl) (fun K hK => ?_)
                    go_simp
                    refine hK.out _ _ (by exact True.intro) ?_
                    clear hK K
                    try simp only [Act.put, List.setIfInBounds_toArray, List.set_cons_zero, List.set_cons_succ]
                    refine HP.call ?_
                    refine CallStep.mk (by rfl) (fun K hK => ?_)
                    go_simp
                    refine (nextR_c 20 g A n c (k0 + (60 + 6 * k) + 3) B ys _ (by omega) (by omega) h13.1 (u0.rg h13.2.1 hB (Nat.le_of_lt hz0)) hB hn (by omega)).mono ?_; rintro e w23_ ⟨v, rfl, hv, s23, q23⟩; have h23 := h13.rg hz0 hX q23 s23; replace bs := bs.rg q23 (.inr hgs)
                    go_wp2_with fail
                    refine hK.out _ _ (by exact True.intro) ?_
                    clear hK K
                    try simp only [Act.put, List.setIfInBounds_toArray, List.set_cons_zero, List.set_cons_succ]
                    repeat (first | (refine HP.take (v := ?_) (by rfl) ?_ ?_; rotate_left; (· (intro w hSw; (try dsimp only at hSw); go_simp; try with_reducible rfl)); (try simp only [Act.put, List.setIfInBounds_toArray, List.set_cons_zero, List.set_cons_succ])) | (refine HP.skip (by rfl) ?_; (try simp only [Act.put, List.setIfInBounds_toArray, List.set_cons_zero, List.set_cons_succ])))
                    refine HP.call ?_
                    have bm := Box.new w23_ 122 #[.string (nmK k), .int .i64 (v : Int)]
                    have h24 := h23.nx ((Nx.refl w23_).alloc (.cells #[.string (nmK k), .int .i64 (v : Int)] 122))
                    have bs24 := bs.nx ((Nx.refl w23_).alloc (.cells #[.string (nmK k), .int .i64 (v : Int)] 122))
                    refine CallStep.mk (by rfl) (fun K hK => ?_)
                    go_simp
                    refine hK.out _ _ (by exact True.intro) ?_
                    clear hK K
                    try simp only [Act.put, List.setIfInBounds_toArray, List.set_cons_zero, List.set_cons_succ]
                    change HP _ _ _ _ _ _ (w23_.alloc (.cells #[.string (nmK k), .int .i64 (v : Int)] 122))
                    generalize w23_.alloc (.cells #[.string (nmK k), .int .i64 (v : Int)] 122) = w24_ at *
                    generalize w23_.heap.size = gm at *
                    exact key gs gm v w24_ ⟨h24, bm, hv⟩
                  · refine CallStep.mk (by rfl) (fun K hK => ?_)
                    go_simp
                    refine (nextR_c 20 g A n c (k0 + (60 + 6 * k) + 3) B ys _ (by omega) (by omega) h13.1 (u0.rg h13.2.1 hB (Nat.le_of_lt hz0)) hB hn (by omega)).mono ?_; rintro e w25_ ⟨v, rfl, hv, s25, q25⟩; have h25 := h13.rg hz0 hX q25 s25; replace bs := bs.rg q25 (.inr hgs)
                    go_wp2_with fail
                    refine hK.out _ _ (by exact True.intro) ?_
                    clear hK K
                    try simp only [Act.put, List.setIfInBounds_toArray, List.set_cons_zero, List.set_cons_succ]
                    repeat (first | (refine HP.take (v := ?_) (by rfl) ?_ ?_; rotate_left; (· (intro w hSw; (try dsimp only at hSw); go_simp; try with_reducible rfl)); (try simp only [Act.put, List.setIfInBounds_toArray, List.set_cons_zero, List.set_cons_succ])) | (refine HP.skip (by rfl) ?_; (try simp only [Act.put, List.setIfInBounds_toArray, List.set_cons_zero, List.set_cons_succ])))
                    refine HP.both ?_ ?_
                    · obtain ⟨_, _, _, _, _, l26⟩ := h25.2.2.2.1.d6
                      refine CallStep.mk (by rfl) (fun K hK => ?_)
                      go_simp
                      refine hK.out _ _ (by exact True.intro) ?_
                      clear hK K
                      try simp only [Act.put, List.setIfInBounds_toArray, List.set_cons_zero, List.set_cons_succ]
                      refine HP.call ?_
                      have bm := Box.new w25_ 122 #[.string (nmK k), .int .i64 (v : Int)]
                      have h27 := h25.nx ((Nx.refl w25_).alloc (.cells #[.string (nmK k), .int .i64 (v : Int)] 122))
                      have bs27 := bs.nx ((Nx.refl w25_).alloc (.cells #[.string (nmK k), .int .i64 (v : Int)] 122))
                      refine CallStep.mk (by rfl) (fun K hK => ?_)
                      go_simp
                      refine hK.out _ _ (by exact True.intro) ?_
                      clear hK K
                      try simp only [Act.put, List.setIfInBounds_toArray, List.set_cons_zero, List.set_cons_succ]
                      change HP _ _ _ _ _ _ (w25_.alloc (.cells #[.string (nmK k), .int .i64 (v : Int)] 122))
                      generalize w25_.alloc (.cells #[.string (nmK k), .int .i64 (v : Int)] 122) = w27_ at *
                      generalize w25_.heap.size = gm at *
                      exact key gs gm v w27_ ⟨h27, bm, hv⟩
                    · have bm := Box.new w25_ 122 #[.string (nmK k), .int .i64 (v : Int)]
                      have h28 := h25.nx ((Nx.refl w25_).alloc (.cells #[.string (nmK k), .int .i64 (v : Int)] 122))
                      have bs28 := bs.nx ((Nx.refl w25_).alloc (.cells #[.string (nmK k), .int .i64 (v : Int)] 122))
                      refine CallStep.mk (by rfl) (fun K hK => ?_)
                      go_simp
                      refine hK.out _ _ (by exact True.intro) ?_
                      clear hK K
                      try simp only [Act.put, List.setIfInBounds_toArray, List.set_cons_zero, List.set_cons_succ]
                      change HP _ _ _ _ _ _ (w25_.alloc (.cells #[.string (nmK k), .int .i64 (v : Int)] 122))
                      generalize w25_.alloc (.cells #[.string (nmK k), .int .i64 (v : Int)] 122) = w28_ at *
                      generalize w25_.heap.size = gm at *
                      refine HP.call ?_
                      obtain ⟨_, _, _, _, _, l29⟩ := h28.2.2.2.1.d6
                      refine CallStep.mk (by rfl) (fun K hK => ?_)
                      go_simp
                      refine hK.out _ _ (by exact True.intro) ?_
                      clear hK K
                      try simp only [Act.put, List.setIfInBounds_toArray, List.set_cons_zero, List.set_cons_succ]
                      exact key gs gm v w28_ ⟨h28, bm, hv⟩
                · refine CallStep.mk (by rfl) (fun K hK => ?_)
                  go_simp
                  refine (nextR_c 20 g A n c (k0 + (60 + 6 * k) + 3) B ys _ (by omega) (by omega) h13.1 (u0.rg h13.2.1 hB (Nat.le_of_lt hz0)) hB hn (by omega)).mono ?_; rintro e w30_ ⟨v, rfl, hv, s30, q30⟩; have h30 := h13.rg hz0 hX q30 s30; replace bs := bs.rg q30 (.inr hgs)
                  go_wp2_with fail
                  refine hK.out _ _ (by exact True.intro) ?_
                  clear hK K
                  try simp only [Act.put, List.setIfInBounds_toArray, List.set_cons_zero, List.set_cons_succ]
                  refine HP.both ?_ ?_
                  · obtain ⟨_, _, _, _, _, l31⟩ := h30.2.2.2.1.d6
                    refine CallStep.mk (by rfl) (fun K hK => ?_)
                    go_simp
                    refine hK.out _ _ (by exact True.intro) ?_
                    clear hK K
                    try simp only [Act.put, List.setIfInBounds_toArray, List.set_cons_zero, List.set_cons_succ]
                    refine HP.call ?_
                    have n32 := (bs.cell k).trans (nm_cell hlt3)
                    refine CallStep.mk (by rfl) (fun K hK => ?_)
                    go_simp
                    refine hK.out _ _ (by exact True.intro) ?_
                    clear hK K
                    try simp only [Act.put, List.setIfInBounds_toArray, List.set_cons_zero, List.set_cons_succ]
                    repeat (first | (refine HP.take (v := ?_) (by rfl) ?_ ?_; rotate_left; (· (intro w hSw; (try dsimp only at hSw); go_simp; try with_reducible rfl)); (try simp only [Act.put, List.setIfInBounds_toArray, List.set_cons_zero, List.set_cons_succ])) | (refine HP.skip (by rfl) ?_; (try simp only [Act.put, List.setIfInBounds_toArray, List.set_cons_zero, List.set_cons_succ])))
                    refine HP.call ?_
                    have bm := Box.new w30_ 122 #[.string (nmK k), .int .i64 (v : Int)]
                    have h33 := h30.nx ((Nx.refl w30_).alloc (.cells #[.string (nmK k), .int .i64 (v : Int)] 122))
                    have bs33 := bs.nx ((Nx.refl w30_).alloc (.cells #[.string (nmK k), .int .i64 (v : Int)] 122))
                    refine CallStep.mk (by rfl) (fun K hK => ?_)
                    go_simp
                    refine hK.out _ _ (by exact True.intro) ?_
                    clear hK K
                    try simp only [Act.put, List.setIfInBounds_toArray, List.set_cons_zero, List.set_cons_succ]
                    change HP _ _ _ _ _ _ (w30_.alloc (.cells #[.string (nmK k), .int .i64 (v : Int)] 122))
                    generalize w30_.alloc (.cells #[.string (nmK k), .int .i64 (v : Int)] 122) = w33_ at *
                    generalize w30_.heap.size = gm at *
                    exact key gs gm v w33_ ⟨h33, bm, hv⟩
                  · have n34 := (bs.cell k).trans (nm_cell hlt3)
                    refine CallStep.mk (by rfl) (fun K hK => ?_)
                    go_simp
                    refine hK.out _ _ (by exact True.intro) ?_
                    clear hK K
                    try simp only [Act.put, List.setIfInBounds_toArray, List.set_cons_zero, List.set_cons_succ]
                    repeat (first | (refine HP.take (v := ?_) (by rfl) ?_ ?_; rotate_left; (· (intro w hSw; (try dsimp only at hSw); go_simp; try with_reducible rfl)); (try simp only [Act.put, List.setIfInBounds_toArray, List.set_cons_zero, List.set_cons_succ])) | (refine HP.skip (by rfl) ?_; (try simp only [Act.put, List.setIfInBounds_toArray, List.set_cons_zero, List.set_cons_succ])))
                    refine HP.both ?_ ?_
                    · obtain ⟨_, _, _, _, _, l35⟩ := h30.2.2.2.1.d6
                      refine CallStep.mk (by rfl) (fun K hK => ?_)
                      go_simp
                      refine hK.out _ _ (by exact True.intro) ?_
                      clear hK K
                      try simp only [Act.put, List.setIfInBounds_toArray, List.set_cons_zero, List.set_cons_succ]
                      refine HP.call ?_
                      have bm := Box.new w30_ 122 #[.string (nmK k), .int .i64 (v : Int)]
                      have h36 := h30.nx ((Nx.refl w30_).alloc (.cells #[.string (nmK k), .int .i64 (v : Int)] 122))
                      have bs36 := bs.nx ((Nx.refl w30_).alloc (.cells #[.string (nmK k), .int .i64 (v : Int)] 122))
                      refine CallStep.mk (by rfl) (fun K hK => ?_)
                      go_simp
                      refine hK.out _ _ (by exact True.intro) ?_
                      clear hK K
                      try simp only [Act.put, List.setIfInBounds_toArray, List.set_cons_zero, List.set_cons_succ]
                      change HP _ _ _ _ _ _ (w30_.alloc (.cells #[.string (nmK k), .int .i64 (v : Int)] 122))
                      generalize w30_.alloc (.cells #[.string (nmK k), .int .i64 (v : Int)] 122) = w36_ at *
                      generalize w30_.heap.size = gm at *
                      exact key gs gm v w36_ ⟨h36, bm, hv⟩
                    · have bm := Box.new w30_ 122 #[.string (nmK k), .int .i64 (v : Int)]
                      have h37 := h30.nx ((Nx.refl w30_).alloc (.cells #[.string (nmK k), .int .i64 (v : Int)] 122))
                      have bs37 := bs.nx ((Nx.refl w30_).alloc (.cells #[.string (nmK k), .int .i64 (v : Int)] 122))
                      refine CallStep.mk (by rfl) (fun K hK => ?_)
                      go_simp
                      refine hK.out _ _ (by exact True.intro) ?_
                      clear hK K
                      try simp only [Act.put, List.setIfInBounds_toArray, List.set_cons_zero, List.set_cons_succ]
                      change HP _ _ _ _ _ _ (w30_.alloc (.cells #[.string (nmK k), .int .i64 (v : Int)] 122))
                      generalize w30_.alloc (.cells #[.string (nmK k), .int .i64 (v : Int)] 122) = w37_ at *
                      generalize w30_.heap.size = gm at *
                      refine HP.call ?_
                      obtain ⟨_, _, _, _, _, l38⟩ := h37.2.2.2.1.d6
                      refine CallStep.mk (by rfl) (fun K hK => ?_)
                      go_simp
                      refine hK.out _ _ (by exact True.intro) ?_
                      clear hK K
                      try simp only [Act.put, List.setIfInBounds_toArray, List.set_cons_zero, List.set_cons_succ]
                      exact key gs gm v w37_ ⟨h37, bm, hv⟩
              · refine CallStep.mk (by rfl) (fun K hK => ?_)
                go_simp
                refine (nextR_c 20 g A n c (k0 + (60 + 6 * k) + 3) B ys _ (by omega) (by omega) hd.1 (u0.rg hd.2.1 hB (Nat.le_of_lt hz0)) hB hn (by omega)).mono ?_; rintro e w39_ ⟨v, rfl, hv, s39, q39⟩; have h39 := hd.rg hz0 hX q39 s39
                go_wp2_with fail
                refine hK.out _ _ (by exact True.intro) ?_
                clear hK K
                try simp only [Act.put, List.setIfInBounds_toArray, List.set_cons_zero, List.set_cons_succ]
                refine HP.both ?_ ?_
                · obtain ⟨_, _, _, _, _, l40⟩ := h39.2.2.2.1.d6
                  refine CallStep.mk (by rfl) (fun K hK => ?_)
                  go_simp
                  refine hK.out _ _ (by exact True.intro) ?_
                  clear hK K
                  try simp only [Act.put, List.setIfInBounds_toArray, List.set_cons_zero, List.set_cons_succ]
                  refine HP.call ?_
                  have HGS : g + 1 ≤ w39_.heap.size := by have := h39.size1; omega
                  have bs := Box.new w39_ 9 #[.string ⟨#[97]⟩, .string ⟨#[98, 98]⟩, .string ⟨#[110, 111, 111, 110]⟩]
                  have h41 := h39.nx ((Nx.refl w39_).alloc (.cells #[.string ⟨#[97]⟩, .string ⟨#[98, 98]⟩, .string ⟨#[110, 111, 111, 110]⟩] 9))
                  refine CallStep.mk (by rfl) (fun K hK => ?_)
                  go_simp
                  refine hK.out _ _ (by exact True.intro) ?_
                  clear hK K
                  try simp only [Act.put, List.setIfInBounds_toArray, List.set_cons_zero, List.set_cons_succ]
                  change HP _ _ _ _ _ _ (w39_.alloc (.cells #[.string ⟨#[97]⟩, .string ⟨#[98, 98]⟩, .string ⟨#[110, 111, 111, 110]⟩] 9))
                  generalize w39_.alloc (.cells #[.string ⟨#[97]⟩, .string ⟨#[98, 98]⟩, .string ⟨#[110, 111, 111, 110]⟩] 9) = w41_ at *
                  generalize w39_.heap.size = gs at *
                  have hgs : g + 1 ≤ gs := HGS
                  repeat (first | (refine HP.take (v := ?_) (by rfl) ?_ ?_; rotate_left; (· (intro w hSw; (try dsimp only at hSw); go_simp; try with_reducible rfl)); (try simp only [Act.put, List.setIfInBounds_toArray, List.set_cons_zero, List.set_cons_succ])) | (refine HP.skip (by rfl) ?_; (try simp only [Act.put, List.setIfInBounds_toArray, List.set_cons_zero, List.set_cons_succ])))
                  refine HP.call ?_
                  have n42 := (bs.cell k).trans (nm_cell hlt3)
                  refine CallStep.mk (by rfl) (fun K hK => ?_)
                  go_simp
                  refine hK.out _ _ (by exact True.intro) ?_
                  clear hK K
                  try simp only [Act.put, List.setIfInBounds_toArray, List.set_cons_zero, List.set_cons_succ]
                  repeat (first | (refine HP.take (v := ?_) (by rfl) ?_ ?_; rotate_left; (· (intro w hSw; (try dsimp only at hSw); go_simp; try with_reducible rfl)); (try simp only [Act.put, List.setIfInBounds_toArray, List.set_cons_zero, List.set_cons_succ])) | (refine HP.skip (by rfl) ?_; (try simp only [Act.put, List.setIfInBounds_toArray, List.set_cons_zero, List.set_cons_succ])))
                  refine HP.call ?_
                  have bm := Box.new w41_ 122 #[.string (nmK k), .int .i64 (v : Int)]
                  have h43 := h41.nx ((Nx.refl w41_).alloc (.cells #[.string (nmK k), .int .i64 (v : Int)] 122))
                  have bs43 := bs.nx ((Nx.refl w41_).alloc (.cells #[.string (nmK k), .int .i64 (v : Int)] 122))
                  refine CallStep.mk (by rfl) (fun K hK => ?_)
                  go_simp
                  refine hK.out _ _ (by exact True.intro) ?_
                  clear hK K
                  try simp only [Act.put, List.setIfInBounds_toArray, List.set_cons_zero, List.set_cons_succ]
                  change HP _ _ _ _ _ _ (w41_.alloc (.cells #[.string (nmK k), .int .i64 (v : Int)] 122))
                  generalize w41_.alloc (.cells #[.string (nmK k), .int .i64 (v : Int)] 122) = w43_ at *
                  generalize w41_.heap.size = gm at *
                  exact key gs gm v w43_ ⟨h43, bm, hv⟩
                · have HGS : g + 1 ≤ w39_.heap.size := by have := h39.size1; omega
                  have bs := Box.new w39_ 9 #[.string ⟨#[97]⟩, .string ⟨#[98, 98]⟩, .string ⟨#[110, 111, 111, 110]⟩]
                  have h44 := h39.nx ((Nx.refl w39_).alloc (.cells #[.string ⟨#[97]⟩, .string ⟨#[98, 98]⟩, .string ⟨#[110, 111, 111, 110]⟩] 9))
                  refine CallStep.mk (by rfl) (fun K hK => ?_)
                  go_simp
                  refine hK.out _ _ (by exact True.intro) ?_
                  clear hK K
                  try simp only [Act.put, List.setIfInBounds_toArray, List.set_cons_zero, List.set_cons_succ]
                  change HP _ _ _ _ _ _ (w39_.alloc (.cells #[.string ⟨#[97]⟩, .string ⟨#[98, 98]⟩, .string ⟨#[110, 111, 111, 110]⟩] 9))
                  generalize w39_.alloc (.cells #[.string ⟨#[97]⟩, .string ⟨#[98, 98]⟩, .string ⟨#[110, 111, 111, 110]⟩] 9) = w44_ at *
                  generalize w39_.heap.size = gs at *
                  have hgs : g + 1 ≤ gs := HGS
                  repeat (first | (refine HP.take (v := ?_) (by rfl) ?_ ?_; rotate_left; (· (intro w hSw; (try dsimp only at hSw); go_simp; try with_reducible rfl)); (try simp only [Act.put, List.setIfInBounds_toArray, List.set_cons_zero, List.set_cons_succ])) | (refine HP.skip (by rfl) ?_; (try simp only [Act.put, List.setIfInBounds_toArray, List.set_cons_zero, List.set_cons_succ])))
                  refine HP.both ?_ ?_
                  · obtain ⟨_, _, _, _, _, l45⟩ := h44.2.2.2.1.d6
                    refine CallStep.mk (by rfl) (fun K hK => ?_)
                    go_simp
                    refine hK.out _ _ (by exact True.intro) ?_
                    clear hK K
                    try simp only [Act.put, List.setIfInBounds_toArray, List.set_cons_zero, List.set_cons_succ]
                    refine HP.call ?_
                    have n46 := (bs.cell k).trans (nm_cell hlt3)
                    refine CallStep.mk (by rfl) (fun K hK => ?_)
                    go_simp
                    refine hK.out _ _ (by exact True.intro) ?_
                    clear hK K
                    try simp only [Act.put, List.setIfInBounds_toArray, List.set_cons_zero, List.set_cons_succ]
                    repeat (first | (refine HP.take (v := ?_) (by rfl) ?_ ?_; rotate_left; (· (intro w hSw; (try dsimp only at hSw); go_simp; try with_reducible rfl)); (try simp only [Act.put, List.setIfInBounds_toArray, List.set_cons_zero, List.set_cons_succ])) | (refine HP.skip (by rfl) ?_; (try simp only [Act.put, List.setIfInBounds_toArray, List.set_cons_zero, List.set_cons_succ])))
                    refine HP.call ?_
                    have bm := Box.new w44_ 122 #[.string (nmK k), .int .i64 (v : Int)]
                    have h47 := h44.nx ((Nx.refl w44_).alloc (.cells #[.string (nmK k), .int .i64 (v : Int)] 122))
                    have bs47 := bs.nx ((Nx.refl w44_).alloc (.cells #[.string (nmK k), .int .i64 (v : Int)] 122))
                    refine CallStep.mk (by rfl) (fun K hK => ?_)
                    go_simp
                    refine hK.out _ _ (by exact True.intro) ?_
                    clear hK K
                    try simp only [Act.put, List.setIfInBounds_toArray, List.set_cons_zero, List.set_cons_succ]
                    change HP _ _ _ _ _ _ (w44_.alloc (.cells #[.string (nmK k), .int .i64 (v : Int)] 122))
                    generalize w44_.alloc (.cells #[.string (nmK k), .int .i64 (v : Int)] 122) = w47_ at *
                    generalize w44_.heap.size = gm at *
                    exact key gs gm v w47_ ⟨h47, bm, hv⟩
                  · have n48 := (bs.cell k).trans (nm_cell hlt3)
                    refine CallStep.mk (by rfl) (fun K hK => ?_)
                    go_simp
                    refine hK.out _ _ (by exact True.intro) ?_
                    clear hK K
                    try simp only [Act.put, List.setIfInBounds_toArray, List.set_cons_zero, List.set_cons_succ]
                    repeat (first | (refine HP.take (v := ?_) (by rfl) ?_ ?_; rotate_left; (· (intro w hSw; (try dsimp only at hSw); go_simp; try with_reducible rfl)); (try simp only [Act.put, List.setIfInBounds_toArray, List.set_cons_zero, List.set_cons_succ])) | (refine HP.skip (by rfl) ?_; (try simp only [Act.put, List.setIfInBounds_toArray, List.set_cons_zero, List.set_cons_succ])))
                    refine HP.both ?_ ?_
                    · obtain ⟨_, _, _, _, _, l49⟩ := h44.2.2.2.1.d6
                      refine CallStep.mk (by rfl) (fun K hK => ?_)
                      go_simp
                      refine hK.out _ _ (by exact True.intro) ?_
                      clear hK K
                      try simp only [Act.put, List.setIfInBounds_toArray, List.set_cons_zero, List.set_cons_succ]
                      refine HP.call ?_
                      have bm := Box.new w44_ 122 #[.string (nmK k), .int .i64 (v : Int)]
                      have h50 := h44.nx ((Nx.refl w44_).alloc (.cells #[.string (nmK k), .int .i64 (v : Int)] 122))
                      have bs50 := bs.nx ((Nx.refl w44_).alloc (.cells #[.string (nmK k), .int .i64 (v : Int)] 122))
                      refine CallStep.mk (by rfl) (fun K hK => ?_)
                      go_simp
                      refine hK.out _ _ (by exact True.intro) ?_
                      clear hK K
                      try simp only [Act.put, List.setIfInBounds_toArray, List.set_cons_zero, List.set_cons_succ]
                      change HP _ _ _ _ _ _ (w44_.alloc (.cells #[.string (nmK k), .int .i64 (v : Int)] 122))
                      generalize w44_.alloc (.cells #[.string (nmK k), .int .i64 (v : Int)] 122) = w50_ at *
                      generalize w44_.heap.size = gm at *
                      exact key gs gm v w50_ ⟨h50, bm, hv⟩
                    · have bm := Box.new w44_ 122 #[.string (nmK k), .int .i64 (v : Int)]
                      have h51 := h44.nx ((Nx.refl w44_).alloc (.cells #[.string (nmK k), .int .i64 (v : Int)] 122))
                      have bs51 := bs.nx ((Nx.refl w44_).alloc (.cells #[.string (nmK k), .int .i64 (v : Int)] 122))
                      refine CallStep.mk (by rfl) (fun K hK => ?_)
                      go_simp
                      refine hK.out _ _ (by exact True.intro) ?_
                      clear hK K
                      try simp only [Act.put, List.setIfInBounds_toArray, List.set_cons_zero, List.set_cons_succ]
                      change HP _ _ _ _ _ _ (w44_.alloc (.cells #[.string (nmK k), .int .i64 (v : Int)] 122))
                      generalize w44_.alloc (.cells #[.string (nmK k), .int .i64 (v : Int)] 122) = w51_ at *
                      generalize w44_.heap.size = gm at *
                      refine HP.call ?_
                      obtain ⟨_, _, _, _, _, l52⟩ := h51.2.2.2.1.d6
                      refine CallStep.mk (by rfl) (fun K hK => ?_)
                      go_simp
                      refine hK.out _ _ (by exact True.intro) ?_
                      clear hK K
                      try simp only [Act.put, List.setIfInBounds_toArray, List.set_cons_zero, List.set_cons_succ]
                      exact key gs gm v w51_ ⟨h51, bm, hv⟩
            rintro gs gm v W ⟨hW, bm, hv⟩
            have hsz := hW.size1
            refine HP.call ?_
            refine CallStep.mk (by rfl) (fun K hK => ?_)
            refine wp_addM _ _ rfl (w.heap.size + 1) gm _ ms (nmK k, (v : Int)) rfl rfl hW.2.2.2.2.2 bm (by omega) hsz ?_
            intro A9 k9 w13 hr13 hG13
            have hb13 := hW.growM hr13 hG13
            refine hK.out _ _ True.intro ?_
            clear hK K
            try simp only [Act.put, List.setIfInBounds_toArray, List.set_cons_zero, List.set_cons_succ]
            repeat (first | (refine HP.take (v := ?_) (by rfl) ?_ ?_; rotate_left; (· (intro w hSw; (try dsimp only at hSw); go_simp; try with_reducible rfl)); (try simp only [Act.put, List.setIfInBounds_toArray, List.set_cons_zero, List.set_cons_succ])) | (refine HP.skip (by rfl) ?_; (try simp only [Act.put, List.setIfInBounds_toArray, List.set_cons_zero, List.set_cons_succ])))
            have hl13 := hb13.2.2.2.1.lt
            obtain ⟨_, _, _, _, _, y5⟩ := hb13.2.2.2.1.d6
            have g5 := hb13.2.2.2.1.frozen 5
            refine HP.call ?_
            refine CallStep.mk (by rfl) (fun K hK => ?_)
            go_simp
            refine hK.out _ _ (by exact True.intro) ?_
            clear hK K
            try simp only [Act.put, List.setIfInBounds_toArray, List.set_cons_zero, List.set_cons_succ]
            refine HP.done ?_
            have hs13 := hb13.set hz0 hX 5 (.slice A9 (ms.length + 1) k9)
            simp only [List.setIfInBounds_toArray, List.set_cons_zero, List.set_cons_succ] at hs13
            clear y5 g5 hW bm hr13 hG13 hb13
            go_wp2
            go_roundw
            case rel => exact ⟨k + 1, ms ++ [(nmK k, (v : Int))], _, by omega, by go_num, Lib.hid (HM.out.add hlt3 hv), hs13.more (by omega)⟩
            case measure => simp [intOf]; omega
        · obtain rfl : k = 3 := by omega
          obtain ⟨A7, c7, rfl, hc7, hS7⟩ := hm.2.2.2.2.1.slc
          obtain ⟨A6, c6, rfl, hc6, hM6⟩ := hm.2.2.2.2.2.slc
          have HOK := Lib.hid (show superB G b0 P Q xs ms = true from superB_mk (inB_mk (by have := HG.out; omega) (by have := HG.out; omega)) (inB_mk (by omega) (by omega)) (inB_mk (by have := HPP.out; omega) (by have := HPP.out; omega)) (inB_mk (by have := HQ.out; omega) (by have := HQ.out; omega)) (tbB_mk (by omega) HT.out) (msB_mk (by omega) HM.out.2.1))
          have HAM := Lib.hid HM.out.all
          have hdk : decide (((3 : Nat) : Int) < 3) = false := by decide
          obtain ⟨x0, x1, x2, x3, x4, x5⟩ := hm.2.2.2.1.d6
          have bR := hm.2.2.1
          obtain ⟨y0, y1, y2, y3, y4, y5⟩ := bR.d6
          have f0 := bR.frozen 0
          have f1 := bR.frozen 1
          have f2 := bR.frozen 2
          have f3 := bR.frozen 3
          have f4 := bR.frozen 4
          have f5 := bR.frozen 5
          have hlX := hm.2.2.2.1.lt
          have hlR := bR.lt
          go_wp2
          have qq := ((((((bR).set 0 (.int .i64 G)).set 1 (.int .i64 b0)).set 2 (.int .i64 P)).set 3 (.int .i64 Q)).set 4 (.slice A7 xs.length c7)).set 5 (.slice A6 ms.length c6)
          have hSf := ((((((hS7.far (p := ⟨w.heap.size, 0, none⟩) (by simp) (.int .i64 G)).far (p := ⟨w.heap.size, 1, none⟩) (by simp) (.int .i64 b0)).far (p := ⟨w.heap.size, 2, none⟩) (by simp) (.int .i64 P)).far (p := ⟨w.heap.size, 3, none⟩) (by simp) (.int .i64 Q)).far (p := ⟨w.heap.size, 4, none⟩) (by simp) (.slice A7 xs.length c7)).far (p := ⟨w.heap.size, 5, none⟩) (by simp) (.slice A6 ms.length c6))
          have hMf := ((((((hM6.far (p := ⟨w.heap.size, 0, none⟩) (by simp) (.int .i64 G)).far (p := ⟨w.heap.size, 1, none⟩) (by simp) (.int .i64 b0)).far (p := ⟨w.heap.size, 2, none⟩) (by simp) (.int .i64 P)).far (p := ⟨w.heap.size, 3, none⟩) (by simp) (.int .i64 Q)).far (p := ⟨w.heap.size, 4, none⟩) (by simp) (.slice A7 xs.length c7)).far (p := ⟨w.heap.size, 5, none⟩) (by simp) (.slice A6 ms.length c6))
          have hsf := ((((((hm.1.farU (p := ⟨w.heap.size, 0, none⟩) (by simp; omega) (.int .i64 G)).farU (p := ⟨w.heap.size, 1, none⟩) (by simp; omega) (.int .i64 b0)).farU (p := ⟨w.heap.size, 2, none⟩) (by simp; omega) (.int .i64 P)).farU (p := ⟨w.heap.size, 3, none⟩) (by simp; omega) (.int .i64 Q)).farU (p := ⟨w.heap.size, 4, none⟩) (by simp; omega) (.slice A7 xs.length c7)).farU (p := ⟨w.heap.size, 5, none⟩) (by simp; omega) (.slice A6 ms.length c6))
          have hrf := ((((((hm.2.1.setNew8 (p := ⟨w.heap.size, 0, none⟩) (by simp) (.int .i64 G)).setNew8 (p := ⟨w.heap.size, 1, none⟩) (by simp) (.int .i64 b0)).setNew8 (p := ⟨w.heap.size, 2, none⟩) (by simp) (.int .i64 P)).setNew8 (p := ⟨w.heap.size, 3, none⟩) (by simp) (.int .i64 Q)).setNew8 (p := ⟨w.heap.size, 4, none⟩) (by simp) (.slice A7 xs.length c7)).setNew8 (p := ⟨w.heap.size, 5, none⟩) (by simp) (.slice A6 ms.length c6))
          generalize ((((((wr.setCell ⟨w.heap.size, 0, none⟩ (.int .i64 G)).setCell ⟨w.heap.size, 1, none⟩ (.int .i64 b0)).setCell ⟨w.heap.size, 2, none⟩ (.int .i64 P)).setCell ⟨w.heap.size, 3, none⟩ (.int .i64 Q)).setCell ⟨w.heap.size, 4, none⟩ (.slice A7 xs.length c7)).setCell ⟨w.heap.size, 5, none⟩ (.slice A6 ms.length c6)) = Wf at *
          have g0' := qq.cell 0
          have g1' := qq.cell 1
          have g2' := qq.cell 2
          have g3' := qq.cell 3
          have g4' := qq.cell 4
          have g5' := qq.cell 5
          simp at g0' g1' g2' g3' g4' g5'
          exact bodyPost_ret (v := .agg #[.int .i64 G, .int .i64 b0, .int .i64 P, .int .i64 Q, .slice A7 xs.length c7, .slice A6 ms.length c6]) (by simp [results, Try.results73, go_sem, g0', g1', g2', g3', g4', g5']) rfl ⟨G, b0, P, Q, A7, c7, xs, A6, c6, ms, rfl, HOK.out, by omega, hc7, HAM.out, hSf.low (by omega), hMf.low (by omega), hsf.more (by omega), hrf⟩
end Go.Proofs.Ytjefjngheolmkaa
/- What is free: a number from 10 to 63 is free or in the table; beside a short table something is free; appends of a whole list of ints, and of two ints, at one operation of a drawn region. Conditions: those of each theorem. -/
namespace Go.Proofs.Ytjefjngheolmkaa
set_option linter.unusedVariables false
set_option maxRecDepth 100000
open Go.RowKit

theorem hasB_all (xs : List Int) (x : Int) : hasB xs xs.length x = xs.contains x := by unfold hasB; rw [List.take_length]
theorem free_has {xs : List Int} {k : Nat} (hk : k < 54) : hasB (freeTo xs 54) (freeTo xs 54).length ((k : Int) + 10) = !hasB xs xs.length ((k : Int) + 10) := by
  rw [hasB_all]
  rw [Bool.eq_iff_iff, List.contains_iff_mem]
  unfold freeTo
  rw [List.mem_filter, List.mem_map]
  constructor
  · rintro ⟨_, h⟩; exact h
  · intro h; exact ⟨⟨k, by simpa using hk, rfl⟩, h⟩
theorem filter_ne_len {y : Int} : ∀ {M : List Int}, M.Nodup → M.length ≤ (M.filter fun x => !(x == y)).length + 1
  | [], _ => by simp
  | x :: M, h => by
    obtain ⟨h1, h2⟩ := List.nodup_cons.1 h
    by_cases e : x = y
    · subst e
      have : M.filter (fun z => !(z == x)) = M := List.filter_eq_self.2 fun z hz => by
        simp only [Bool.not_eq_true', beq_eq_false_iff_ne]
        rintro rfl
        exact h1 hz
      simp [this]
    · have := filter_ne_len (y := y) h2
      simp [e]; simpa using this
theorem filter_len {L : List Int} (hL : L.Nodup) : ∀ xs : List Int, L.length ≤ (L.filter fun x => !xs.contains x).length + xs.length
  | [] => by
    have : L.filter (fun x => !([] : List Int).contains x) = L := List.filter_eq_self.2 fun z hz => by simp
    rw [this]; simp
  | y :: xs => by
    have h1 := filter_len hL xs
    have h2 := filter_ne_len (y := y) (hL.filter (fun x => !xs.contains x))
    rw [List.filter_filter] at h2
    have e : (L.filter fun x => !(y :: xs).contains x) = L.filter (fun a => !(a == y) && !xs.contains a) := List.filter_congr fun z _ => by rw [List.contains_cons, Bool.not_or]
    rw [e, List.length_cons]
    omega
theorem nodup_map_add (k : Nat) : ((List.range k).map fun i : Nat => (i : Int) + 10).Nodup := by
  rw [List.nodup_iff_pairwise_ne, List.pairwise_map]
  exact (List.nodup_range (n := k)).imp fun h e => h (by omega)
theorem free_some {xs : List Int} (h : xs.length ≤ 5) : ∃ f fs, freeTo xs 54 = f :: fs := by
  have h1 := filter_len (nodup_map_add 54) xs
  have h2 : (freeTo xs 54) = ((List.range 54).map fun i : Nat => (i : Int) + 10).filter fun x => !xs.contains x := by
    unfold freeTo
    exact List.filter_congr fun z _ => by rw [hasB_all]
  rw [← h2] at h1
  simp only [List.length_map, List.length_range] at h1
  match hF : freeTo xs 54 with
  | [] => rw [hF] at h1; simp at h1; omega
  | f :: fs => exact ⟨f, fs, rfl⟩
theorem tb_twice {xs : List Int} {f : Int} : tbB (xs ++ [f, f]) = false := by
  refine tbB_no (k := xs.length + 1) (by simp) ?_
  have h1 : (xs ++ [f, f]).getD (xs.length + 1) 0 = f := by rw [List.getD_eq_getElem?_getD, List.getElem?_append_right (by omega)]; simp
  unfold tbOk hasB
  rw [h1]
  have h2 : ((xs ++ [f, f]).take (xs.length + 1)).contains f = true := by
    rw [List.contains_iff_mem, List.take_append]
    simp
  rw [h2]; simp
set_option maxHeartbeats 1000000 in
theorem within_c (A : Option Addr) (n c B : Nat) (xs : List Int) (x : Int) (w : World) (h : Ins w B A xs) (hnl : n ≤ xs.length) (hn : xs.length ≤ 1048576) :
    Calls Try.prog 33 #[.slice A n c, .int .i64 x] w fun e w' => e = .returned (.bool (hasB xs n x)) ∧ w = w' := by
  go_enter Try.func33, Try.ntmps33
  go_wp2
  go_loop [5] (fun i => ∃ k : Nat, k ≤ n ∧ i = .int .i64 k ∧ NotTo xs k x) (fun i => n - (intOf i).toNat)
  case atStart => exact ⟨0, Nat.zero_le _, rfl, NotTo.zero _ _⟩
  case round =>
    obtain ⟨k, hk, rfl, hto⟩ := hrel
    by_cases hlt : k < n
    · obtain ⟨b, off, rfl, hb, hc⟩ := h.at_ (k := k) (by omega)
      obtain ⟨y, Hy⟩ : ∃ y, Hid (xs.getD k 0 = y) := ⟨_, rfl⟩
      rw [Hy.out] at hc
      by_cases he : y = x
      · have hd : (y == x) = true := by simp [he]
        have HR := Lib.hid (hasB_yes hlt (by omega) (Hy.out.trans he)).symm
        clear he
        go_wp2
        go_ret
        exact ⟨ret_bool HR.out, rfl⟩
      · have hd : (y == x) = false := by simp [he]
        have HT := Lib.hid (hto.succ (by rw [Hy.out]; exact he))
        clear he
        go_wp2
        go_round
        case rel => exact ⟨k + 1, by omega, by go_num, HT.out⟩
        case measure => simp [intOf]; omega
    · obtain rfl : k = n := by omega
      have HR := Lib.hid (hasB_no hto).symm
      go_wp2
      go_ret
      exact ⟨ret_bool HR.out, rfl⟩
theorem GrewT.refl (t : TypeId) (B : Nat) (w : World) : GrewT t B w w := ⟨fun _ h _ => h, fun _ _ _ h _ => h, fun _ _ _ _ h => h, Nat.le_refl _⟩
theorem grewT_of {w w' : World} {B : Nat} {v : Value} {xs : List Int} (hown : RowI w B v xs) (hg' : w.grownBy w' v.ownBlock) : GrewT 3 B w w' := by
  have hrow : ∀ k, Value.ownBlock v = some k → B ≤ k := fun k hk => (World.ownsRow.lt hown k hk).1
  refine ⟨fun b hb hbB => Below.grown hb hg' hb.size (fun k hk => Nat.le_trans hbB (hrow k hk)), fun lo hi b hb hbB => ?_, fun g t xs' ht hbg => hbg.grown hg' (hown.ne hbg ht), hg'.size⟩
  refine ⟨hg'.os.trans hb.os, hg'.tape.trans hb.tape, hg'.output.trans hb.output, Nat.le_trans hb.size hg'.size, fun k hk hr => (hg'.block k (Nat.lt_of_lt_of_le hk hb.size) fun e => ?_).trans (hb.block k hk hr)⟩
  have := hrow k e.symm
  omega
theorem iV_one (xs : List Int) : ∀ u ∈ iV xs, u.oneCell' = true := fun u hu => by
  unfold iV at hu
  obtain ⟨x, _, rfl⟩ := List.mem_map.1 hu
  rfl
theorem iV_len (xs : List Int) : (iV xs).length = xs.length := by unfold iV; simp
set_option maxHeartbeats 1000000 in
/-- append of a whole list of ints onto an empty row, at one operation of a drawn region. -/
theorem wp_addAllI {w : World} {o : Oper} {a : Act} {K : Act → World → Prop} {Q : Exit → Act → World → Prop}
    (s x : Operand) (ho : o.op = .call { callee := .builtin .append, args := #[s, x], argTypes := #[34, 34] })
    (B g0 : Nat) (A : Option Addr) (c : Nat) (xs : List Int) (hs : a.eval s = .slice (some ⟨g0, 0, none⟩) 0 0) (hx : a.eval x = .slice A xs.length c) (hown : RowI w B (.slice (some ⟨g0, 0, none⟩) 0 0) []) {B' : Nat} (hrow : Ins w B' A xs)
    (hm : xs.length ≤ 1048576) (hB : B ≤ w.heap.size)
    (hK : ∀ A' k' w', RowI w' B (.slice A' xs.length k') xs → GrewT 3 B w w' → (∀ k, k < w.heap.size → k ≠ g0 → w'.heap[k]? = w.heap[k]?) → K (a.put o.dst (.slice A' xs.length k')) w') :
    o.wp Try.prog a w K Q := by
  obtain ⟨i0, hi0, hz0, hz1, hz2⟩ := info_parts info_int
  rcases Nat.eq_zero_or_pos xs.length with h0 | hp
  · have hgs : xs = [] := List.eq_nil_of_length_eq_zero h0
    subst hgs
    have hrun : (Builtin.append_ #[34, 34] o.type #[.slice (some ⟨g0, 0, none⟩) 0 0, .slice A 0 c]).run Try.prog w = .ok (.slice (some ⟨g0, 0, none⟩) 0 0) w := by
      rcases A with _ | a'
      · simp [Builtin.append_, run_underlying Try.underlying34, sizeOf, typeInfo, hi0, Builtin.lenOf, Builtin.firstCells, storeCells]
      · simp [Builtin.append_, run_underlying Try.underlying34, sizeOf, typeInfo, hi0, Builtin.lenOf, Builtin.firstCells, storeCells, loadCells, loadCellsFrom]
    have hx' : a.eval x = .slice A 0 c := hx
    unfold Oper.wp execOp
    simp only [ho, resolve, invoke, builtin, Sem.run_bind, Sem.run_pure, Result.andThen_ok, List.map_toArray, List.map_cons, List.map_nil, hs, hx', hrun]
    exact hK _ _ w hown (GrewT.refl _ _ _) (fun _ _ _ => rfl)
  · obtain ⟨b, off, rfl, hb, hc⟩ := hrow (by omega)
    refine wp_append_own w s x 34 ho B 3 i0 _ 1 8 Try.underlying34 hi0 hz0 hz1 hz2 rfl (by omega) _ 0 _ hs hown ⟨b, off, none⟩ xs.length c (iV xs) hx (by rw [iV_len, Nat.mul_one]) (fun j u hj => ?_) (iV_one xs) (by unfold maxLen; omega) (by omega) hB ?_
    · have hj' : j < xs.length := by
        have := (List.getElem?_eq_some_iff.1 hj).1
        rwa [iV_len] at this
      rw [iV_get xs j hj'] at hj
      rw [addr_add', hc j hj']
      exact hj
    · intro v' w' hw' hg' _
      have hr : RowI w' B v' xs := by
        unfold RowI
        have : w'.ownsRow B 3 1 v' (0 + xs.length) (iV [] ++ iV xs) := hw'
        rw [Nat.zero_add] at this
        exact this
      obtain ⟨A', k', rfl, _⟩ := hr.sl
      exact hK A' k' w' hr (grewT_of hown hg') (fun k hk hne => hg'.block k hk (fun e => hne (by simpa [Value.ownBlock] using e)))
set_option maxHeartbeats 1000000 in
/-- append of two ints, at one operation of a drawn region. -/
theorem wp_add2I {w : World} {o : Oper} {a : Act} {K : Act → World → Prop} {Q : Exit → Act → World → Prop}
    (s x : Operand) (ho : o.op = .call { callee := .builtin .append, args := #[s, x], argTypes := #[34, 34] })
    (B gd : Nat) (v : Value) (xs : List Int) (x0 x1 : Int) (hs : a.eval s = v) (hx : a.eval x = .slice (some ⟨gd, 0, none⟩) 2 2) (hown : RowI w B v xs) (hbx : Box w gd 3 #[.int .i64 x0, .int .i64 x1])
    (hl : xs.length ≤ 1048576) (hB : B ≤ w.heap.size)
    (hK : ∀ A' k' w', RowI w' B (.slice A' (xs.length + 2) k') (xs ++ [x0, x1]) → GrewT 3 B w w' → K (a.put o.dst (.slice A' (xs.length + 2) k')) w') :
    o.wp Try.prog a w K Q := by
  obtain ⟨i0, hi0, hz0, hz1, hz2⟩ := info_parts info_int
  refine wp_append_own w s x 34 ho B 3 i0 _ 1 8 Try.underlying34 hi0 hz0 hz1 hz2 rfl (by omega) v xs.length _ hs hown ⟨gd, 0, none⟩ 2 2 [.int .i64 x0, .int .i64 x1] hx rfl (fun j u hj => ?_) (fun u hu => by simp only [List.mem_cons, List.not_mem_nil, or_false] at hu; rcases hu with rfl | rfl <;> rfl) (by unfold maxLen; omega) (by omega) hB ?_
  · rw [addr_add', Nat.zero_add, hbx.cell j]
    rw [← hj]
    rcases j with _ | _ | j <;> simp
  · intro v' w' hw' hg' _
    have hr : RowI w' B v' (xs ++ [x0, x1]) := by
      unfold RowI iV
      rw [List.map_append, List.length_append]
      exact hw'
    obtain ⟨A', k', rfl, _⟩ := hr.sl
    rw [List.length_append] at hr ⊢
    exact hK A' k' w' hr (grewT_of hown hg')
end Go.Proofs.Ytjefjngheolmkaa
