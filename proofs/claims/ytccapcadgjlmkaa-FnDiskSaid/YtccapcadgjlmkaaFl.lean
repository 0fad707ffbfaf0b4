/-
  Contracts of the functions that settle the writes of a disk, as the model and as the program have them.
  Conditions: the disk is right, and can be read.
-/
import Derived.Test.YtccapcadgjlmkaaBase
import Derived.Test.YtccapcadgjlmkaaDok
import Derived.Test.YtccapcadgjlmkaaCp
import Derived.Test.YtccapcadgjlmkaaSw
import Derived.StillTailTactics
import Derived.Outline
namespace Go.Proofs.Ytccapcadgjlmkaa
set_option linter.unusedVariables false
open Go.RowKit

/-- What is sure behind the first k writes, each of which is kept or not. -/
def settleTo (kp : Nat → Bool) (ss : List ByteArray) (ws : List (Int × ByteArray)) : Nat → List ByteArray
  | 0 => ss
  | k + 1 => if kp k = true then (settleTo kp ss ws k).set (ws.getD k (0, ByteArray.empty)).1.toNat (ws.getD k (0, ByteArray.empty)).2 else settleTo kp ss ws k
theorem settleTo_len (kp : Nat → Bool) (ss : List ByteArray) (ws : List (Int × ByteArray)) (k : Nat) : (settleTo kp ss ws k).length = ss.length := by
  induction k with
  | zero => rfl
  | succ k ih => unfold settleTo; split <;> simp [ih]
def kpOf (bs : List Bool) (i : Nat) : Bool := bs.getD (i % bs.length) false
theorem strAt_set (ss : List ByteArray) (a : Nat) (s : ByteArray) (ha : a < ss.length) (i : Nat) : strAt (ss.set a s) i = if i = a then .string s else strAt ss i := by
  unfold strAt
  rw [List.getD_eq_getElem?_getD, List.getElem?_set]
  by_cases h : a = i
  · subst h; rw [if_pos rfl, if_pos rfl, if_pos ha]; rfl
  · rw [if_neg h, if_neg (fun e => h e.symm), ← List.getD_eq_getElem?_getD]
theorem wOk_at {ws : List (Int × ByteArray)} {k : Nat} {x : Int} {s : ByteArray} (h : ws.all wOk = true) (hk : k < ws.length) (hx : ws.getD k (0, ByteArray.empty) = (x, s)) : ∃ a : Nat, x = a ∧ a < 64 := by
  rw [List.all_eq_true] at h
  have : ws[k] = (x, s) := by rw [← hx, List.getD_eq_getElem?_getD, List.getElem?_eq_getElem hk]; rfl
  have := h _ (List.getElem_mem hk)
  rw [‹ws[k] = (x, s)›] at this
  unfold wOk secB at this
  simp only [Bool.and_eq_true, decide_eq_true_eq] at this
  exact ⟨x.toNat, by omega, by omega⟩
theorem settle_yes {kp : Nat → Bool} {ss : List ByteArray} {ws : List (Int × ByteArray)} {k a : Nat} {s : ByteArray} (hk : kp k = true) (hx : ws.getD k (0, ByteArray.empty) = ((a : Int), s)) : settleTo kp ss ws (k + 1) = (settleTo kp ss ws k).set a s := by
  show (if kp k = true then _ else _) = _
  rw [if_pos hk, hx]; simp
theorem settle_no {kp : Nat → Bool} {ss : List ByteArray} {ws : List (Int × ByteArray)} {k : Nat} (hk : kp k = false) : settleTo kp ss ws (k + 1) = settleTo kp ss ws k := by
  show (if kp k = true then _ else _) = _
  rw [if_neg (by simp [hk])]
/-- The row of sure texts, as it is being settled. -/
def SetRow (w : World) (g : Nat) (ss : List ByteArray) : Prop := Own w g 9 64 (strAt ss)
theorem SetRow.set {w : World} {g a : Nat} {ss : List ByteArray} {s : ByteArray} (h : SetRow w g ss) (ha : a < 64) (hl : ss.length = 64) : SetRow (w.setCell ⟨g, a, none⟩ (.string s)) g (ss.set a s) := by
  unfold SetRow at h ⊢
  refine (h.set ha (.string s)).congr fun i _ => ?_
  rw [strAt_set ss a s (by omega) i]

set_option maxRecDepth 100000 in
set_option maxHeartbeats 2000000 in
theorem settled_c (A A2 A3 : Option Addr) (c n2 c2 m c3 B : Nat) (ss : List ByteArray) (ws : List (Int × ByteArray)) (bs : List Bool) (w : World) (h : Strs w B A 64 ss) (h2 : Wrs w B A2 n2 ws) (h3 : Bls w B A3 m bs) (hB : B ≤ w.heap.size) (hn2 : n2 ≤ 80) (hm : 0 < m) (hm2 : m ≤ 1048576) (hall : ws.all wOk = true) :
    Calls Try.prog 50 #[.agg #[.slice A 64 c, .slice A2 n2 c2], .slice A3 m c3] w (RetDisk w (settleTo (kpOf bs) ss ws n2) []) := by
  have HA := Lib.hid hall
  clear hall
  go_enter Try.func50, Try.ntmps50
  go_wp2_with fail
  have b0 := (Box.new w 26 #[.slice A 64 c, .slice A2 n2 c2]).alloc (.cells #[.slice none 0 0, .slice none 0 0] 26)
  have r0 := Box.new (w.alloc (.cells #[.slice A 64 c, .slice A2 n2 c2] 26)) 26 #[.slice none 0 0, .slice none 0 0]
  have hnx0 := ((Nx.refl w).alloc (.cells #[.slice A 64 c, .slice A2 n2 c2] 26)).alloc (.cells #[.slice none 0 0, .slice none 0 0] 26)
  simp only [World.size_alloc] at r0
  generalize (w.alloc (.cells #[.slice A 64 c, .slice A2 n2 c2] 26)).alloc (.cells #[.slice none 0 0, .slice none 0 0] 26) = W at *
  refine (copyListS_c A 64 c B ss _ (h.below hnx0 hB) (Nat.le_trans hB hnx0.size) (by omega)).mono ?_
  rintro e w1 ⟨A4, n4, c4, rfl, hS4, hx4⟩
  obtain rfl : 64 = n4 := h.1.symm.trans hS4.1
  obtain ⟨g, rfl, hg, ho⟩ := hS4.2 (by omega)
  have b1 := b0.nx hx4
  have r1 := r0.nx hx4
  have hx1 := hnx0.trans hx4
  have l0 := r0.lt
  have HL := Lib.hid h.1
  have hset : SetRow w1 g ss := by unfold SetRow; unfold OwnS at ho; rw [h.1] at ho; exact ho
  clear b0 r0 hnx0 hx4 hS4 ho
  have c0 := b1.c0
  have c1 := b1.c1
  go_wp2
  go_loopw [14] (fun i wr => ∃ k : Nat, k ≤ n2 ∧ i = .int .i64 k ∧ SetRow wr g (settleTo (kpOf bs) ss ws k) ∧ Rg g (g + 1) w1 wr) (fun i _ => n2 - (intOf i).toNat)
  case atStart => exact ⟨0, Nat.zero_le _, rfl, hset, Rg.of_nx (Nx.refl _)⟩
  case round =>
    clear c0 c1 hset
    obtain ⟨k, hk, rfl, hset, hr⟩ := hrel
    have hx := Rg.nx_of hx1 hr (by omega)
    by_cases hlt : k < n2
    · obtain ⟨b, off, rfl, hb, hc, hd⟩ := (h2.below hx hB).at_ hlt
      obtain ⟨⟨x, s⟩, Hs⟩ : ∃ s, Hid (ws.getD k (0, ByteArray.empty) = s) := ⟨_, rfl⟩
      rw [Hs.out] at hc hd
      have hkm : k % m < m := Nat.mod_lt _ hm
      obtain ⟨b3, off3, rfl, hb3, hc3⟩ := (h3.below (hx.alloc (.cells #[.int .i64 x, .string s] 80)) hB).at_ hkm
      obtain ⟨a, rfl, ha⟩ := wOk_at HA.out (by rw [h2.1]; exact hlt) Hs.out
      have hs1 : SetRow (wr.alloc (.cells #[.int .i64 (a : Int), .string s] 80)) g (settleTo (kpOf bs) ss ws k) := Own.alloc hset _
      have hlen := Lib.hid ((settleTo_len (kpOf bs) ss ws k).trans HL.out)
      have hr1 : Rg g (g + 1) w1 (wr.alloc (.cells #[.int .i64 (a : Int), .string s] 80)) := hr.trans (Rg.of_nx ((Nx.refl wr).alloc _))
      obtain ⟨v, hv⟩ : ∃ v, (wr.alloc (.cells #[.int .i64 (a : Int), .string s] 80)).cell? ⟨g, a, none⟩ = some v := ⟨_, Own.cell hs1 ha⟩
      have hz := Own.frozen hs1 a
      have hkp : kpOf bs k = bs.getD (k % m) false := by unfold kpOf; rw [h3.1]
      cases hbb : bs.getD (k % m) false with
      | true =>
        have HF := Lib.hid (settle_yes (ss := ss) (hkp.trans hbb) Hs.out)
        rw [hbb] at hc3
        clear hkp hbb
        go_wp2
        go_roundw
        case rel => exact ⟨k + 1, by omega, by go_num, by rw [HF.out]; exact hs1.set ha hlen.out, hr1.setCell (p := ⟨g, a, none⟩) (Nat.le_refl _) (by simp) _⟩
        case measure => simp [intOf]; omega
      | false =>
        have HF := Lib.hid (settle_no (ss := ss) (ws := ws) (hkp.trans hbb))
        rw [hbb] at hc3
        clear hkp hbb
        go_wp2
        go_roundw
        case rel => exact ⟨k + 1, by omega, by go_num, by rw [HF.out]; exact hs1, hr1⟩
        case measure => simp [intOf]; omega
    · obtain rfl : k = n2 := by omega
      have r2 := r1.rg hr (.inl (by omega))
      have s0 := r2.c0
      have s1 := r2.c1
      have f0 := r2.frozen 0
      have f1 := r2.frozen 1
      have hlen := (settleTo_len (kpOf bs) ss ws k).trans HL.out
      have hSs : SlS wr g (some ⟨g, 0, none⟩) 64 (settleTo (kpOf bs) ss ws k) := ⟨hlen, fun _ => ⟨g, rfl, Nat.le_refl _, by unfold OwnS; rw [hlen]; exact hset⟩⟩
      clear hlen
      go_wp2
      obtain ⟨q0, q1, hSf, hWf, hxf⟩ := fin_box c4 0 r2 hSs (SlW.nil wr (w.heap.size + 1 + 1)) (by omega) (by omega) hx (by omega)
      generalize (wr.setCell ⟨w.heap.size + 1, 0, none⟩ (.slice (some ⟨g, 0, none⟩) 64 c4)).setCell ⟨w.heap.size + 1, 1, none⟩ (.slice none 0 0) = Wf at *
      exact bodyPost_ret (v := .agg #[.slice (some ⟨g, 0, none⟩) 64 c4, .slice none 0 0]) (by simp [results, Try.results50, go_sem, q0, q1]) rfl ⟨_, 64, c4, none, 0, 0, rfl, hSf, hWf, hxf⟩

def kpAll (i : Nat) : Bool := true
def kpC (bs : List Bool) (i : Nat) : Bool := decide (0 < bs.length) && bs.getD (i % bs.length) false
theorem kpC_zero {bs : List Bool} {i : Nat} (h : bs.length = 0) : kpC bs i = false := by unfold kpC; rw [h]; rfl
theorem kpC_pos {bs : List Bool} {i : Nat} (h : 0 < bs.length) : kpC bs i = bs.getD (i % bs.length) false := by unfold kpC; rw [decide_eq_true h]; rfl

set_option maxRecDepth 100000 in
set_option maxHeartbeats 2000000 in
theorem l01Flush_c (A A2 : Option Addr) (c n2 c2 B : Nat) (ss : List ByteArray) (ws : List (Int × ByteArray)) (w : World) (h : Strs w B A 64 ss) (h2 : Wrs w B A2 n2 ws) (hB : B ≤ w.heap.size) (hn2 : n2 ≤ 80) (hall : ws.all wOk = true) :
    Calls Try.prog 62 #[.agg #[.slice A 64 c, .slice A2 n2 c2]] w (RetDisk w (settleTo (kpAll) ss ws n2) []) := by
  have HA := Lib.hid hall
  clear hall
  obtain ⟨j0, hj0, hy0, hy1, hy2⟩ := info_parts info_str
  have b0 := ((Box.new w 26 #[.slice A 64 c, .slice A2 n2 c2]).alloc (.cells #[.slice none 0 0, .slice none 0 0] 26)).alloc (.cells #[] 9)
  have r0 := (Box.new (w.alloc (.cells #[.slice A 64 c, .slice A2 n2 c2] 26)) 26 #[.slice none 0 0, .slice none 0 0]).alloc (.cells #[] 9)
  have hnx0 := (((Nx.refl w).alloc (.cells #[.slice A 64 c, .slice A2 n2 c2] 26)).alloc (.cells #[.slice none 0 0, .slice none 0 0] 26)).alloc (.cells #[] 9)
  simp only [World.size_alloc] at r0
  have HL := Lib.hid h.1
  go_enter Try.func62, Try.ntmps62
  go_wp2_with (at_builtin; refine wpList_append_new rfl (.tmp 5) (.tmp 7) 23 rfl 9 j0 _ 1 16 Try.underlying23 hj0 hy0 hy1 hy2 (by decide) (by decide) (w.heap.size + 1 + 1) A 64 c B (strAt ss) rfl rfl (by rw [Nat.mul_one]; exact (h.below hnx0 hB).2) (by omega) ?_)
  intro A4 c4 u1 hN
  obtain ⟨g, rfl, hg, ho⟩ := hN.2 (by omega)
  rw [Nat.mul_one] at ho
  have hset : SetRow u1 g ss := ho
  have hg2 := ho.lt
  have hg1 : w.heap.size + 1 + 1 + 1 ≤ g := by simpa using hg
  have b1 := b0.nx hN.1
  have r1 := r0.nx hN.1
  have hx1 := hnx0.trans hN.1
  clear b0 r0 hnx0 hN hg ho
  have c0 := b1.c0
  have c1 := b1.c1
  go_wp2
  have b2 := (b1.alloc (.cells #[] 80)).alloc (.cells #[.slice (some ⟨g, 0, none⟩) 64 c4, .slice (some ⟨u1.heap.size, 0, none⟩) 0 0] 26)
  have r2 := (r1.alloc (.cells #[] 80)).alloc (.cells #[.slice (some ⟨g, 0, none⟩) 64 c4, .slice (some ⟨u1.heap.size, 0, none⟩) 0 0] 26)
  have o2 := Box.new (u1.alloc (.cells #[] 80)) 26 #[.slice (some ⟨g, 0, none⟩) 64 c4, .slice (some ⟨u1.heap.size, 0, none⟩) 0 0]
  have hx2 := (hx1.alloc (.cells #[] 80)).alloc (.cells #[.slice (some ⟨g, 0, none⟩) 64 c4, .slice (some ⟨u1.heap.size, 0, none⟩) 0 0] 26)
  have hset2 : SetRow ((u1.alloc (.cells #[] 80)).alloc (.cells #[.slice (some ⟨g, 0, none⟩) 64 c4, .slice (some ⟨u1.heap.size, 0, none⟩) 0 0] 26)) g ss := Own.alloc (Own.alloc hset _) _
  simp only [World.size_alloc] at o2
  generalize (u1.alloc (.cells #[] 80)).alloc (.cells #[.slice (some ⟨g, 0, none⟩) 64 c4, .slice (some ⟨u1.heap.size, 0, none⟩) 0 0] 26) = U at *
  clear b1 r1 hx1 hset c0 c1
  go_loopw [4] (fun i wr => ∃ k : Nat, k ≤ n2 ∧ i = .int .i64 k ∧ SetRow wr g (settleTo (kpAll) ss ws k) ∧ Rg g (g + 1) U wr) (fun i _ => n2 - (intOf i).toNat)
  case atStart => exact ⟨0, Nat.zero_le _, rfl, hset2, Rg.of_nx (Nx.refl _)⟩
  case round =>
    clear hset2
    obtain ⟨k, hk, rfl, hset, hr⟩ := hrel
    have hx := Rg.nx_of hx2 hr (by omega)
    have b3 := b2.rg hr (.inl (by omega))
    have o3 := o2.rg hr (.inr (by omega))
    have c0 := b3.c0
    have c1 := b3.c1
    have e0 := o3.c0
    have e1 := o3.c1
    by_cases hlt : k < n2
    · obtain ⟨b, off, rfl, hb, hc, hd⟩ := (h2.below hx hB).at_ hlt
      obtain ⟨⟨x, s⟩, Hs⟩ : ∃ s, Hid (ws.getD k (0, ByteArray.empty) = s) := ⟨_, rfl⟩
      rw [Hs.out] at hc hd
      obtain ⟨a, rfl, ha⟩ := wOk_at HA.out (by rw [h2.1]; exact hlt) Hs.out
      have hlen := Lib.hid ((settleTo_len (kpAll) ss ws k).trans HL.out)
      obtain ⟨v, hv⟩ : ∃ v, wr.cell? ⟨g, a, none⟩ = some v := ⟨_, Own.cell hset ha⟩
      have hz := Own.frozen hset a
      have hai : ((a : Int)) < 64 := by omega
      have HF := Lib.hid (settle_yes (kp := kpAll) (ss := ss) (k := k) rfl Hs.out)
      go_wp2_with fail
      go_still_tail 15, (by kernel_rfl)
      change wpList _ _ _ _ _ wr.drew
      have hsd : SetRow wr.drew g (settleTo (kpAll) ss ws k) := hset
      have hrd : Rg g (g + 1) U wr.drew := hr.trans (Rg.of_nx (Nx.refl wr).drew)
      have hvd : wr.drew.cell? ⟨g, a, none⟩ = some v := hv
      have hzd : wr.drew.frozen? ⟨g, a, none⟩ = false := hz
      clear hv hz hset hr hc hd c0 c1 e0 e1 b3 o3 hx
      generalize wr.drew = wd at *
      go_wp2
      go_roundw
      case rel => exact ⟨k + 1, by omega, by go_num, by rw [HF.out]; exact hsd.set ha hlen.out, hrd.setCell (p := ⟨g, a, none⟩) (Nat.le_refl _) (by simp) _⟩
      case measure => simp [intOf]; omega
    · obtain rfl : k = n2 := by omega
      have r3 := r2.rg hr (.inl (by omega))
      have s0 := r3.c0
      have s1 := r3.c1
      have f0 := r3.frozen 0
      have f1 := r3.frozen 1
      have hlen := (settleTo_len (kpAll) ss ws k).trans HL.out
      have hSs : SlS wr g (some ⟨g, 0, none⟩) 64 (settleTo (kpAll) ss ws k) := ⟨hlen, fun _ => ⟨g, rfl, Nat.le_refl _, by unfold OwnS; rw [hlen]; exact hset⟩⟩
      have hWs : SlW wr g (some ⟨u1.heap.size, 0, none⟩) 0 [] := ⟨rfl, fun h => absurd h (by omega)⟩
      clear hlen
      go_wp2
      obtain ⟨q0, q1, hSf, hWf, hxf⟩ := fin_box c4 0 r3 hSs hWs (by omega) (by omega) hx (by omega)
      generalize (wr.setCell ⟨w.heap.size + 1, 0, none⟩ (.slice (some ⟨g, 0, none⟩) 64 c4)).setCell ⟨w.heap.size + 1, 1, none⟩ (.slice (some ⟨u1.heap.size, 0, none⟩) 0 0) = Wf at *
      exact bodyPost_ret (v := .agg #[.slice (some ⟨g, 0, none⟩) 64 c4, .slice (some ⟨u1.heap.size, 0, none⟩) 0 0]) (by simp [results, Try.results62, go_sem, q0, q1]) rfl ⟨_, 64, c4, _, 0, 0, rfl, hSf, hWf, hxf⟩

set_option maxRecDepth 100000 in
set_option maxHeartbeats 2000000 in
theorem l01Crash_c (A A2 : Option Addr) (c n2 c2 B : Nat) (A3 : Option Addr) (m c3 : Nat) (bs : List Bool) (ss : List ByteArray) (ws : List (Int × ByteArray)) (w : World) (h : Strs w B A 64 ss) (h2 : Wrs w B A2 n2 ws) (h3 : Bls w B A3 m bs) (hm2 : m ≤ 1048576) (hB : B ≤ w.heap.size) (hn2 : n2 ≤ 80) (hall : ws.all wOk = true) :
    Calls Try.prog 53 #[.agg #[.slice A 64 c, .slice A2 n2 c2], .slice A3 m c3] w (RetDisk w (settleTo (kpC bs) ss ws n2) []) := by
  have HA := Lib.hid hall
  clear hall
  obtain ⟨j0, hj0, hy0, hy1, hy2⟩ := info_parts info_str
  have b0 := ((Box.new w 26 #[.slice A 64 c, .slice A2 n2 c2]).alloc (.cells #[.slice none 0 0, .slice none 0 0] 26)).alloc (.cells #[] 9)
  have r0 := (Box.new (w.alloc (.cells #[.slice A 64 c, .slice A2 n2 c2] 26)) 26 #[.slice none 0 0, .slice none 0 0]).alloc (.cells #[] 9)
  have hnx0 := (((Nx.refl w).alloc (.cells #[.slice A 64 c, .slice A2 n2 c2] 26)).alloc (.cells #[.slice none 0 0, .slice none 0 0] 26)).alloc (.cells #[] 9)
  simp only [World.size_alloc] at r0
  have HL := Lib.hid h.1
  go_enter Try.func53, Try.ntmps53
  go_wp2_with (at_builtin; refine wpList_append_new rfl (.tmp 7) (.tmp 9) 23 rfl 9 j0 _ 1 16 Try.underlying23 hj0 hy0 hy1 hy2 (by decide) (by decide) (w.heap.size + 1 + 1) A 64 c B (strAt ss) rfl rfl (by rw [Nat.mul_one]; exact (h.below hnx0 hB).2) (by omega) ?_)
  intro A4 c4 u1 hN
  obtain ⟨g, rfl, hg, ho⟩ := hN.2 (by omega)
  rw [Nat.mul_one] at ho
  have hset : SetRow u1 g ss := ho
  have hg2 := ho.lt
  have hg1 : w.heap.size + 1 + 1 + 1 ≤ g := by simpa using hg
  have b1 := b0.nx hN.1
  have r1 := r0.nx hN.1
  have hx1 := hnx0.trans hN.1
  clear b0 r0 hnx0 hN hg ho
  have c0 := b1.c0
  have c1 := b1.c1
  go_wp2
  have b2 := (b1.alloc (.cells #[] 80)).alloc (.cells #[.slice (some ⟨g, 0, none⟩) 64 c4, .slice (some ⟨u1.heap.size, 0, none⟩) 0 0] 26)
  have r2 := (r1.alloc (.cells #[] 80)).alloc (.cells #[.slice (some ⟨g, 0, none⟩) 64 c4, .slice (some ⟨u1.heap.size, 0, none⟩) 0 0] 26)
  have o2 := Box.new (u1.alloc (.cells #[] 80)) 26 #[.slice (some ⟨g, 0, none⟩) 64 c4, .slice (some ⟨u1.heap.size, 0, none⟩) 0 0]
  have hx2 := (hx1.alloc (.cells #[] 80)).alloc (.cells #[.slice (some ⟨g, 0, none⟩) 64 c4, .slice (some ⟨u1.heap.size, 0, none⟩) 0 0] 26)
  have hset2 : SetRow ((u1.alloc (.cells #[] 80)).alloc (.cells #[.slice (some ⟨g, 0, none⟩) 64 c4, .slice (some ⟨u1.heap.size, 0, none⟩) 0 0] 26)) g ss := Own.alloc (Own.alloc hset _) _
  simp only [World.size_alloc] at o2
  generalize (u1.alloc (.cells #[] 80)).alloc (.cells #[.slice (some ⟨g, 0, none⟩) 64 c4, .slice (some ⟨u1.heap.size, 0, none⟩) 0 0] 26) = U at *
  clear b1 r1 hx1 hset c0 c1
  go_loopw [6] (fun i wr => ∃ k : Nat, k ≤ n2 ∧ i = .int .i64 k ∧ SetRow wr g (settleTo (kpC bs) ss ws k) ∧ Rg g (g + 1) U wr) (fun i _ => n2 - (intOf i).toNat)
  case atStart => exact ⟨0, Nat.zero_le _, rfl, hset2, Rg.of_nx (Nx.refl _)⟩
  case round =>
    clear hset2
    obtain ⟨k, hk, rfl, hset, hr⟩ := hrel
    have hx := Rg.nx_of hx2 hr (by omega)
    have b3 := b2.rg hr (.inl (by omega))
    have o3 := o2.rg hr (.inr (by omega))
    have c0 := b3.c0
    have c1 := b3.c1
    have e0 := o3.c0
    have e1 := o3.c1
    by_cases hlt : k < n2
    · obtain ⟨b, off, rfl, hb, hc, hd⟩ := (h2.below hx hB).at_ hlt
      obtain ⟨⟨x, s⟩, Hs⟩ : ∃ s, Hid (ws.getD k (0, ByteArray.empty) = s) := ⟨_, rfl⟩
      rw [Hs.out] at hc hd
      obtain ⟨a, rfl, ha⟩ := wOk_at HA.out (by rw [h2.1]; exact hlt) Hs.out
      have hlen := Lib.hid ((settleTo_len (kpC bs) ss ws k).trans HL.out)
      obtain ⟨v, hv⟩ : ∃ v, wr.cell? ⟨g, a, none⟩ = some v := ⟨_, Own.cell hset ha⟩
      have hz := Own.frozen hset a
      have hai : ((a : Int)) < 64 := by omega
      rcases Nat.eq_zero_or_pos m with hm0 | hmp
      · subst hm0
        have HF := Lib.hid (settle_no (ss := ss) (ws := ws) (k := k) (kpC_zero (by rw [h3.1])))
        go_wp2
        go_roundw
        case rel => exact ⟨k + 1, by omega, by go_num, by rw [HF.out]; exact hset, hr⟩
        case measure => simp [intOf]; omega
      · have hm0 : decide (0 < (m : Int)) = true := by simp; omega
        have hkm : k % m < m := Nat.mod_lt _ hmp
        obtain ⟨b3_, off3, rfl, hb3, hc3⟩ := (h3.below hx hB).at_ hkm
        have hkp : kpC bs k = bs.getD (k % m) false := by have := kpC_pos (bs := bs) (i := k) (by rw [h3.1]; exact hmp); rw [h3.1] at this; exact this
        cases hbb : bs.getD (k % m) false with
        | true =>
          have HF := Lib.hid (settle_yes (ss := ss) (hkp.trans hbb) Hs.out)
          rw [hbb] at hc3
          clear hkp hbb
          go_wp2_with fail
          go_still_tail 15, (by kernel_rfl)
          change wpList _ _ _ _ _ wr.drew
          have hsd : SetRow wr.drew g (settleTo (kpC bs) ss ws k) := hset
          have hrd : Rg g (g + 1) U wr.drew := hr.trans (Rg.of_nx (Nx.refl wr).drew)
          have hvd : wr.drew.cell? ⟨g, a, none⟩ = some v := hv
          have hzd : wr.drew.frozen? ⟨g, a, none⟩ = false := hz
          clear hc3 hv hz hset hr hc hd c0 c1 e0 e1 b3 o3 hx
          generalize wr.drew = wd at *
          go_wp2
          go_roundw
          case rel => exact ⟨k + 1, by omega, by go_num, by rw [HF.out]; exact hsd.set ha hlen.out, hrd.setCell (p := ⟨g, a, none⟩) (Nat.le_refl _) (by simp) _⟩
          case measure => simp [intOf]; omega
        | false =>
          have HF := Lib.hid (settle_no (ss := ss) (ws := ws) (hkp.trans hbb))
          rw [hbb] at hc3
          clear hkp hbb
          go_wp2
          go_roundw
          case rel => exact ⟨k + 1, by omega, by go_num, by rw [HF.out]; exact hset, hr⟩
          case measure => simp [intOf]; omega
    · obtain rfl : k = n2 := by omega
      have r3 := r2.rg hr (.inl (by omega))
      have s0 := r3.c0
      have s1 := r3.c1
      have f0 := r3.frozen 0
      have f1 := r3.frozen 1
      have hlen := (settleTo_len (kpC bs) ss ws k).trans HL.out
      have hSs : SlS wr g (some ⟨g, 0, none⟩) 64 (settleTo (kpC bs) ss ws k) := ⟨hlen, fun _ => ⟨g, rfl, Nat.le_refl _, by unfold OwnS; rw [hlen]; exact hset⟩⟩
      have hWs : SlW wr g (some ⟨u1.heap.size, 0, none⟩) 0 [] := ⟨rfl, fun h => absurd h (by omega)⟩
      clear hlen
      go_wp2
      obtain ⟨q0, q1, hSf, hWf, hxf⟩ := fin_box c4 0 r3 hSs hWs (by omega) (by omega) hx (by omega)
      generalize (wr.setCell ⟨w.heap.size + 1, 0, none⟩ (.slice (some ⟨g, 0, none⟩) 64 c4)).setCell ⟨w.heap.size + 1, 1, none⟩ (.slice (some ⟨u1.heap.size, 0, none⟩) 0 0) = Wf at *
      exact bodyPost_ret (v := .agg #[.slice (some ⟨g, 0, none⟩) 64 c4, .slice (some ⟨u1.heap.size, 0, none⟩) 0 0]) (by simp [results, Try.results53, go_sem, q0, q1]) rfl ⟨_, 64, c4, _, 0, 0, rfl, hSf, hWf, hxf⟩
end Go.Proofs.Ytccapcadgjlmkaa
