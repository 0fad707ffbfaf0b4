/-
  Texts of the proof, put together in their order: Fl, Cmv, Cms, Fc.
  Conditions: those of each.
-/
import Derived.Test.YteckhdkghfidiaaGreatDoorMc21
import Derived.StillTailTactics
import Derived.Outline
/- Contracts of the functions that settle the writes of a disk, as the model and as the program have them. Conditions: the disk is right, and can be read. -/
namespace Go.Proofs.YteckhdkghfidiaaGreatDoor
set_option linter.unusedVariables false
open Go.RowKit

/-- What is sure behind the first k writes, each of which is kept or not. -/
def settleTo (kp : Nat → Bool) (ss : List ByteArray) (ws : List (Int × ByteArray)) : Nat → List ByteArray
  | 0 => ss
  | k + 1 => if kp k = true then (settleTo kp ss ws k).set (ws.getD k (0, ByteArray.empty)).1.toNat (ws.getD k (0, ByteArray.empty)).2 else settleTo kp ss ws k
theorem settleTo_len (kp : Nat → Bool) (ss : List ByteArray) (ws : List (Int × ByteArray)) (k : Nat) : (settleTo kp ss ws k).length = ss.length := by
  induction k with
  | zero => rfl
  | succ k ih => unfold settleTo; split <;> simp [ih]
def kpOf (bs : List Bool) (i : Nat) : Bool := bs.getD (i % bs.length) false
theorem strAt_set (ss : List ByteArray) (a : Nat) (s : ByteArray) (ha : a < ss.length) (i : Nat) : strAt (ss.set a s) i = if i = a then .string s else strAt ss i := by
  unfold strAt
  rw [List.getD_eq_getElem?_getD, List.getElem?_set]
  by_cases h : a = i
  · subst h; rw [if_pos rfl, if_pos rfl, if_pos ha]; rfl
  · rw [if_neg h, if_neg (fun e => h e.symm), ← List.getD_eq_getElem?_getD]
theorem wOk_at {ws : List (Int × ByteArray)} {k : Nat} {x : Int} {s : ByteArray} (h : ws.all wOk = true) (hk : k < ws.length) (hx : ws.getD k (0, ByteArray.empty) = (x, s)) : ∃ a : Nat, x = a ∧ a < 64 := by
  rw [List.all_eq_true] at h
  have : ws[k] = (x, s) := by rw [← hx, List.getD_eq_getElem?_getD, List.getElem?_eq_getElem hk]; rfl
  have := h _ (List.getElem_mem hk)
  rw [‹ws[k] = (x, s)›] at this
  unfold wOk secB at this
  simp only [Bool.and_eq_true, decide_eq_true_eq] at this
  exact ⟨x.toNat, by omega, by omega⟩
theorem settle_yes {kp : Nat → Bool} {ss : List ByteArray} {ws : List (Int × ByteArray)} {k a : Nat} {s : ByteArray} (hk : kp k = true) (hx : ws.getD k (0, ByteArray.empty) = ((a : Int), s)) : settleTo kp ss ws (k + 1) = (settleTo kp ss ws k).set a s := by
  show (if kp k = true then _ else _) = _
  rw [if_pos hk, hx]; simp
theorem settle_no {kp : Nat → Bool} {ss : List ByteArray} {ws : List (Int × ByteArray)} {k : Nat} (hk : kp k = false) : settleTo kp ss ws (k + 1) = settleTo kp ss ws k := by
  show (if kp k = true then _ else _) = _
  rw [if_neg (by simp [hk])]
/-- The row of sure texts, as it is being settled. -/
def SetRow (w : World) (g : Nat) (ss : List ByteArray) : Prop := Own w g 9 64 (strAt ss)
theorem SetRow.set {w : World} {g a : Nat} {ss : List ByteArray} {s : ByteArray} (h : SetRow w g ss) (ha : a < 64) (hl : ss.length = 64) : SetRow (w.setCell ⟨g, a, none⟩ (.string s)) g (ss.set a s) := by
  unfold SetRow at h ⊢
  refine (h.set ha (.string s)).congr fun i _ => ?_
  rw [strAt_set ss a s (by omega) i]

set_option maxRecDepth 100000 in
set_option maxHeartbeats 2000000 in
theorem settled_c (A A2 A3 : Option Addr) (c n2 c2 m c3 B : Nat) (ss : List ByteArray) (ws : List (Int × ByteArray)) (bs : List Bool) (w : World) (h : Strs w B A 64 ss) (h2 : Wrs w B A2 n2 ws) (h3 : Bls w B A3 m bs) (hB : B ≤ w.heap.size) (hn2 : n2 ≤ 80) (hm : 0 < m) (hm2 : m ≤ 1048576) (hall : ws.all wOk = true) :
    Calls Tryz.prog 103 #[.agg #[.slice A 64 c, .slice A2 n2 c2], .slice A3 m c3] w (RetDisk w (settleTo (kpOf bs) ss ws n2) []) := by
  have HA := Lib.hid hall
  clear hall
  go_enter Tryz.func103, Tryz.ntmps103
  go_wp2_with fail
  have b0 := (Box.new w 35 #[.slice A 64 c, .slice A2 n2 c2]).alloc (.cells #[.slice none 0 0, .slice none 0 0] 35)
  have r0 := Box.new (w.alloc (.cells #[.slice A 64 c, .slice A2 n2 c2] 35)) 35 #[.slice none 0 0, .slice none 0 0]
  have hnx0 := ((Nx.refl w).alloc (.cells #[.slice A 64 c, .slice A2 n2 c2] 35)).alloc (.cells #[.slice none 0 0, .slice none 0 0] 35)
  simp only [World.size_alloc] at r0
  generalize (w.alloc (.cells #[.slice A 64 c, .slice A2 n2 c2] 35)).alloc (.cells #[.slice none 0 0, .slice none 0 0] 35) = W at *
  refine (copyListS_c A 64 c B ss _ (h.below hnx0 hB) (Nat.le_trans hB hnx0.size) (by omega)).mono ?_
  rintro e w1 ⟨A4, n4, c4, rfl, hS4, hx4⟩
  obtain rfl : 64 = n4 := h.1.symm.trans hS4.1
  obtain ⟨g, rfl, hg, ho⟩ := hS4.2 (by omega)
  have b1 := b0.nx hx4
  have r1 := r0.nx hx4
  have hx1 := hnx0.trans hx4
  have l0 := r0.lt
  have HL := Lib.hid h.1
  have hset : SetRow w1 g ss := by unfold SetRow; unfold OwnS at ho; rw [h.1] at ho; exact ho
  clear b0 r0 hnx0 hx4 hS4 ho
  have c0 := b1.c0
  have c1 := b1.c1
  go_wp2
  go_loopw [14] (fun i wr => ∃ k : Nat, k ≤ n2 ∧ i = .int .i64 k ∧ SetRow wr g (settleTo (kpOf bs) ss ws k) ∧ Rg g (g + 1) w1 wr) (fun i _ => n2 - (intOf i).toNat)
  case atStart => exact ⟨0, Nat.zero_le _, rfl, hset, Rg.of_nx (Nx.refl _)⟩
  case round =>
    clear c0 c1 hset
    obtain ⟨k, hk, rfl, hset, hr⟩ := hrel
    have hx := Rg.nx_of hx1 hr (by omega)
    by_cases hlt : k < n2
    · obtain ⟨b, off, rfl, hb, hc, hd⟩ := (h2.below hx hB).at_ hlt
      obtain ⟨⟨x, s⟩, Hs⟩ : ∃ s, Hid (ws.getD k (0, ByteArray.empty) = s) := ⟨_, rfl⟩
      rw [Hs.out] at hc hd
      have hkm : k % m < m := Nat.mod_lt _ hm
      obtain ⟨b3, off3, rfl, hb3, hc3⟩ := (h3.below (hx.alloc (.cells #[.int .i64 x, .string s] 85)) hB).at_ hkm
      obtain ⟨a, rfl, ha⟩ := wOk_at HA.out (by rw [h2.1]; exact hlt) Hs.out
      have hs1 : SetRow (wr.alloc (.cells #[.int .i64 (a : Int), .string s] 85)) g (settleTo (kpOf bs) ss ws k) := Own.alloc hset _
      have hlen := Lib.hid ((settleTo_len (kpOf bs) ss ws k).trans HL.out)
      have hr1 : Rg g (g + 1) w1 (wr.alloc (.cells #[.int .i64 (a : Int), .string s] 85)) := hr.trans (Rg.of_nx ((Nx.refl wr).alloc _))
      obtain ⟨v, hv⟩ : ∃ v, (wr.alloc (.cells #[.int .i64 (a : Int), .string s] 85)).cell? ⟨g, a, none⟩ = some v := ⟨_, Own.cell hs1 ha⟩
      have hz := Own.frozen hs1 a
      have hkp : kpOf bs k = bs.getD (k % m) false := by unfold kpOf; rw [h3.1]
      cases hbb : bs.getD (k % m) false with
      | true =>
        have HF := Lib.hid (settle_yes (ss := ss) (hkp.trans hbb) Hs.out)
        rw [hbb] at hc3
        clear hkp hbb
        go_wp2
        go_roundw
        case rel => exact ⟨k + 1, by omega, by go_num, by rw [HF.out]; exact hs1.set ha hlen.out, hr1.setCell (p := ⟨g, a, none⟩) (Nat.le_refl _) (by simp) _⟩
        case measure => simp [intOf]; omega
      | false =>
        have HF := Lib.hid (settle_no (ss := ss) (ws := ws) (hkp.trans hbb))
        rw [hbb] at hc3
        clear hkp hbb
        go_wp2
        go_roundw
        case rel => exact ⟨k + 1, by omega, by go_num, by rw [HF.out]; exact hs1, hr1⟩
        case measure => simp [intOf]; omega
    · obtain rfl : k = n2 := by omega
      have r2 := r1.rg hr (.inl (by omega))
      have s0 := r2.c0
      have s1 := r2.c1
      have f0 := r2.frozen 0
      have f1 := r2.frozen 1
      have hlen := (settleTo_len (kpOf bs) ss ws k).trans HL.out
      have hSs : SlS wr g (some ⟨g, 0, none⟩) 64 (settleTo (kpOf bs) ss ws k) := ⟨hlen, fun _ => ⟨g, rfl, Nat.le_refl _, by unfold OwnS; rw [hlen]; exact hset⟩⟩
      clear hlen
      go_wp2
      obtain ⟨q0, q1, hSf, hWf, hxf⟩ := fin_box c4 0 r2 hSs (SlW.nil wr (w.heap.size + 1 + 1)) (by omega) (by omega) hx (by omega)
      generalize (wr.setCell ⟨w.heap.size + 1, 0, none⟩ (.slice (some ⟨g, 0, none⟩) 64 c4)).setCell ⟨w.heap.size + 1, 1, none⟩ (.slice none 0 0) = Wf at *
      exact bodyPost_ret (v := .agg #[.slice (some ⟨g, 0, none⟩) 64 c4, .slice none 0 0]) (by simp [results, Tryz.results103, go_sem, q0, q1]) rfl ⟨_, 64, c4, none, 0, 0, rfl, hSf, hWf, hxf⟩

def kpAll (i : Nat) : Bool := true
def kpC (bs : List Bool) (i : Nat) : Bool := decide (0 < bs.length) && bs.getD (i % bs.length) false
theorem kpC_zero {bs : List Bool} {i : Nat} (h : bs.length = 0) : kpC bs i = false := by unfold kpC; rw [h]; rfl
theorem kpC_pos {bs : List Bool} {i : Nat} (h : 0 < bs.length) : kpC bs i = bs.getD (i % bs.length) false := by unfold kpC; rw [decide_eq_true h]; rfl

set_option maxRecDepth 100000 in
set_option maxHeartbeats 2000000 in
theorem l01Flush_c (A A2 : Option Addr) (c n2 c2 B : Nat) (ss : List ByteArray) (ws : List (Int × ByteArray)) (w : World) (h : Strs w B A 64 ss) (h2 : Wrs w B A2 n2 ws) (hB : B ≤ w.heap.size) (hn2 : n2 ≤ 80) (hall : ws.all wOk = true) :
    Calls Tryz.prog 47 #[.agg #[.slice A 64 c, .slice A2 n2 c2]] w (RetDisk w (settleTo (kpAll) ss ws n2) []) := by
  have HA := Lib.hid hall
  clear hall
  obtain ⟨j0, hj0, hy0, hy1, hy2⟩ := info_parts info_str
  have b0 := ((Box.new w 35 #[.slice A 64 c, .slice A2 n2 c2]).alloc (.cells #[.slice none 0 0, .slice none 0 0] 35)).alloc (.cells #[] 9)
  have r0 := (Box.new (w.alloc (.cells #[.slice A 64 c, .slice A2 n2 c2] 35)) 35 #[.slice none 0 0, .slice none 0 0]).alloc (.cells #[] 9)
  have hnx0 := (((Nx.refl w).alloc (.cells #[.slice A 64 c, .slice A2 n2 c2] 35)).alloc (.cells #[.slice none 0 0, .slice none 0 0] 35)).alloc (.cells #[] 9)
  simp only [World.size_alloc] at r0
  have HL := Lib.hid h.1
  go_enter Tryz.func47, Tryz.ntmps47
  go_wp2_with (at_builtin; refine wpList_append_new rfl (.tmp 5) (.tmp 7) 32 rfl 9 j0 _ 1 16 Tryz.underlying32 hj0 hy0 hy1 hy2 (by decide) (by decide) (w.heap.size + 1 + 1) A 64 c B (strAt ss) rfl rfl (by rw [Nat.mul_one]; exact (h.below hnx0 hB).2) (by omega) ?_)
  intro A4 c4 u1 hN
  obtain ⟨g, rfl, hg, ho⟩ := hN.2 (by omega)
  rw [Nat.mul_one] at ho
  have hset : SetRow u1 g ss := ho
  have hg2 := ho.lt
  have hg1 : w.heap.size + 1 + 1 + 1 ≤ g := by simpa using hg
  have b1 := b0.nx hN.1
  have r1 := r0.nx hN.1
  have hx1 := hnx0.trans hN.1
  clear b0 r0 hnx0 hN hg ho
  have c0 := b1.c0
  have c1 := b1.c1
  go_wp2
  have b2 := (b1.alloc (.cells #[] 85)).alloc (.cells #[.slice (some ⟨g, 0, none⟩) 64 c4, .slice (some ⟨u1.heap.size, 0, none⟩) 0 0] 35)
  have r2 := (r1.alloc (.cells #[] 85)).alloc (.cells #[.slice (some ⟨g, 0, none⟩) 64 c4, .slice (some ⟨u1.heap.size, 0, none⟩) 0 0] 35)
  have o2 := Box.new (u1.alloc (.cells #[] 85)) 35 #[.slice (some ⟨g, 0, none⟩) 64 c4, .slice (some ⟨u1.heap.size, 0, none⟩) 0 0]
  have hx2 := (hx1.alloc (.cells #[] 85)).alloc (.cells #[.slice (some ⟨g, 0, none⟩) 64 c4, .slice (some ⟨u1.heap.size, 0, none⟩) 0 0] 35)
  have hset2 : SetRow ((u1.alloc (.cells #[] 85)).alloc (.cells #[.slice (some ⟨g, 0, none⟩) 64 c4, .slice (some ⟨u1.heap.size, 0, none⟩) 0 0] 35)) g ss := Own.alloc (Own.alloc hset _) _
  simp only [World.size_alloc] at o2
  generalize (u1.alloc (.cells #[] 85)).alloc (.cells #[.slice (some ⟨g, 0, none⟩) 64 c4, .slice (some ⟨u1.heap.size, 0, none⟩) 0 0] 35) = U at *
  clear b1 r1 hx1 hset c0 c1
  go_loopw [4] (fun i wr => ∃ k : Nat, k ≤ n2 ∧ i = .int .i64 k ∧ SetRow wr g (settleTo (kpAll) ss ws k) ∧ Rg g (g + 1) U wr) (fun i _ => n2 - (intOf i).toNat)
  case atStart => exact ⟨0, Nat.zero_le _, rfl, hset2, Rg.of_nx (Nx.refl _)⟩
  case round =>
    clear hset2
    obtain ⟨k, hk, rfl, hset, hr⟩ := hrel
    have hx := Rg.nx_of hx2 hr (by omega)
    have b3 := b2.rg hr (.inl (by omega))
    have o3 := o2.rg hr (.inr (by omega))
    have c0 := b3.c0
    have c1 := b3.c1
    have e0 := o3.c0
    have e1 := o3.c1
    by_cases hlt : k < n2
    · obtain ⟨b, off, rfl, hb, hc, hd⟩ := (h2.below hx hB).at_ hlt
      obtain ⟨⟨x, s⟩, Hs⟩ : ∃ s, Hid (ws.getD k (0, ByteArray.empty) = s) := ⟨_, rfl⟩
      rw [Hs.out] at hc hd
      obtain ⟨a, rfl, ha⟩ := wOk_at HA.out (by rw [h2.1]; exact hlt) Hs.out
      have hlen := Lib.hid ((settleTo_len (kpAll) ss ws k).trans HL.out)
      obtain ⟨v, hv⟩ : ∃ v, wr.cell? ⟨g, a, none⟩ = some v := ⟨_, Own.cell hset ha⟩
      have hz := Own.frozen hset a
      have hai : ((a : Int)) < 64 := by omega
      have HF := Lib.hid (settle_yes (kp := kpAll) (ss := ss) (k := k) rfl Hs.out)
      go_wp2_with fail
      go_still_tail 15, (by kernel_rfl)
      change wpList _ _ _ _ _ wr.drew
      have hsd : SetRow wr.drew g (settleTo (kpAll) ss ws k) := hset
      have hrd : Rg g (g + 1) U wr.drew := hr.trans (Rg.of_nx (Nx.refl wr).drew)
      have hvd : wr.drew.cell? ⟨g, a, none⟩ = some v := hv
      have hzd : wr.drew.frozen? ⟨g, a, none⟩ = false := hz
      clear hv hz hset hr hc hd c0 c1 e0 e1 b3 o3 hx
      generalize wr.drew = wd at *
      go_wp2
      go_roundw
      case rel => exact ⟨k + 1, by omega, by go_num, by rw [HF.out]; exact hsd.set ha hlen.out, hrd.setCell (p := ⟨g, a, none⟩) (Nat.le_refl _) (by simp) _⟩
      case measure => simp [intOf]; omega
    · obtain rfl : k = n2 := by omega
      have r3 := r2.rg hr (.inl (by omega))
      have s0 := r3.c0
      have s1 := r3.c1
      have f0 := r3.frozen 0
      have f1 := r3.frozen 1
      have hlen := (settleTo_len (kpAll) ss ws k).trans HL.out
      have hSs : SlS wr g (some ⟨g, 0, none⟩) 64 (settleTo (kpAll) ss ws k) := ⟨hlen, fun _ => ⟨g, rfl, Nat.le_refl _, by unfold OwnS; rw [hlen]; exact hset⟩⟩
      have hWs : SlW wr g (some ⟨u1.heap.size, 0, none⟩) 0 [] := ⟨rfl, fun h => absurd h (by omega)⟩
      clear hlen
      go_wp2
      obtain ⟨q0, q1, hSf, hWf, hxf⟩ := fin_box c4 0 r3 hSs hWs (by omega) (by omega) hx (by omega)
      generalize (wr.setCell ⟨w.heap.size + 1, 0, none⟩ (.slice (some ⟨g, 0, none⟩) 64 c4)).setCell ⟨w.heap.size + 1, 1, none⟩ (.slice (some ⟨u1.heap.size, 0, none⟩) 0 0) = Wf at *
      exact bodyPost_ret (v := .agg #[.slice (some ⟨g, 0, none⟩) 64 c4, .slice (some ⟨u1.heap.size, 0, none⟩) 0 0]) (by simp [results, Tryz.results47, go_sem, q0, q1]) rfl ⟨_, 64, c4, _, 0, 0, rfl, hSf, hWf, hxf⟩

end Go.Proofs.YteckhdkghfidiaaGreatDoor
/- What CommitSuper answers (values alone): a flush keeps what is read; the next super's text fits into a sector. Conditions: none. -/
namespace Go.Proofs.YteckhdkghfidiaaGreatDoor
set_option linter.unusedVariables false
set_option maxRecDepth 100000
open Go.RowKit

theorem settle_at {ss : List ByteArray} {ws : List (Int × ByteArray)} {a : Nat} (ha : a < ss.length) (h : ws.all wOk = true) (h64 : ss.length = 64) : ∀ k, k ≤ ws.length → (settleTo kpAll ss ws k).length = ss.length ∧ (settleTo kpAll ss ws k).getD a ByteArray.empty = (findLast ws a k).getD (ss.getD a ByteArray.empty)
  | 0, _ => ⟨rfl, rfl⟩
  | k + 1, hk => by
    obtain ⟨hl, hg⟩ := settle_at ha h h64 k (by omega)
    have hk' : k < ws.length := by omega
    have hw := List.all_eq_true.1 h _ (List.getElem_mem hk')
    have he : ws.getD k (0, ByteArray.empty) = ws[k] := by rw [List.getD_eq_getElem?_getD, List.getElem?_eq_getElem hk']; rfl
    unfold wOk secB at hw
    simp only [Bool.and_eq_true, decide_eq_true_eq] at hw
    rw [settleTo, findLast]
    simp only [kpAll, if_true, he]
    refine ⟨by simp [hl], ?_⟩
    rw [List.getD_eq_getElem?_getD, List.getElem?_set]
    by_cases hx : ws[k].1.toNat = a
    · have hb : (ws[k].1 == (a : Int)) = true := by rw [beq_iff_eq]; omega
      rw [if_pos hx, if_pos (by omega), if_pos hb]; rfl
    · have hb : ¬ (ws[k].1 == (a : Int)) = true := by rw [beq_iff_eq]; omega
      rw [if_neg hx, if_neg hb, ← List.getD_eq_getElem?_getD, hg]
theorem readP_flush {ss : List ByteArray} {ws : List (Int × ByteArray)} (h : diskB ss ws = true) {a : Nat} (ha : a < 64) : readP (settleTo kpAll ss ws ws.length) [] a = readP ss ws a := by
  obtain ⟨h1, _, _, h4⟩ := diskB_len64 h
  have := (settle_at (a := a) (by omega) h4 h1 ws.length (Nat.le_refl _)).2
  unfold readP
  rw [← this]; rfl
/-- The super that comes behind u. -/
def nxtS (u : U6) (b p t : Int) (xs : List Int) (ms : List Mrk) : ByteArray := sealS (numsS (supN (u.1 + 1) b p t xs) ++ ⟨#[124]⟩ ++ jn (wds ms))
theorem nxt_super {g b p t : Int} {xs : List Int} {ms : List Mrk} {u : U6} (h : superB g b p t xs ms = true) (hu : 1 ≤ u.1 ∧ u.1 ≤ 999999) (hm : u.1 ≠ 999999) : superB (u.1 + 1) b p t xs ms = true := by
  unfold superB at h ⊢
  simp only [Bool.and_eq_true] at h ⊢
  refine ⟨⟨⟨⟨⟨?_, h.1.1.1.1.2⟩, h.1.1.1.2⟩, h.1.1.2⟩, h.1.2⟩, h.2⟩
  unfold inB
  simp only [Bool.and_eq_true, decide_eq_true_eq]
  omega
theorem newU_gen {o0 o1 : Option U6} {t0 t1 : ByteArray} (h0 : o0 = rdU t0) (h1 : o1 = rdU t1) {u : U6} {s : Int} (h : newU o0 o1 = some (u, s)) : 1 ≤ u.1 ∧ u.1 ≤ 999999 := by
  obtain ⟨g, b, p, q, xs, ms⟩ := u
  rcases newU_from h with e | e
  · rw [h0] at e; exact (superB_yes (rdU_super e)).1
  · rw [h1] at e; exact (superB_yes (rdU_super e)).1
/-- What CommitSuper answers: a disk and a code. -/
def cmP (ss : List ByteArray) (ws : List (Int × ByteArray)) (g b p t : Int) (xs : List Int) (ms : List Mrk) : (List ByteArray × List (Int × ByteArray)) × Int :=
  if diskB ss ws && superB g b p t xs ms then
    (match newU (rdU (readP ss ws 0)) (rdU (readP ss ws 1)) with
    | none => ((ss, ws), 19)
    | some (u, s) => if u.1 = 999999 then ((ss, ws), 7) else ((settleTo kpAll (settleTo kpAll ss ws ws.length) [(1 - s, nxtS u b p t xs ms)] 1, []), 0))
  else (([], []), 1)
end Go.Proofs.YteckhdkghfidiaaGreatDoor
/- Contract of the model's l04Put. Conditions: the disk and the super can be read and are right; there is a newest super, whose number is not the last. -/
namespace Go.Proofs.YteckhdkghfidiaaGreatDoor
set_option linter.unusedVariables false
set_option maxRecDepth 100000
open Go.RowKit

set_option maxHeartbeats 1600000 in
theorem l04Put_c (A A2 : Option Addr) (n c n2 c2 B : Nat) (ss : List ByteArray) (ws : List (Int × ByteArray)) (g b p t : Int) (Ax Am : Option Addr) (cx cm : Nat) (xs : List Int) (ms : List Mrk) (w : World) (h : Strs w B A n ss) (h2 : Wrs w B A2 n2 ws) (hs : Ins w B Ax xs) (hmk : Mks w B Am ms) (hB : B ≤ w.heap.size) (ha : 1 < n) (hn : n ≤ 1048576) (hn2 : n2 ≤ 1048575)
    (hr0 : (readP ss ws 0).size ≤ 65536) (hr1 : (readP ss ws 1).size ≤ 65536) (u : U6) (s : Int) (hu : newU (rdU (readP ss ws 0)) (rdU (readP ss ws 1)) = some (u, s)) (hok : superB (u.1 + 1) b p t xs ms = true) :
    Calls Tryz.prog 48 #[.agg #[.slice A n c, .slice A2 n2 c2], .agg #[.int .i64 g, .int .i64 b, .int .i64 p, .int .i64 t, .slice Ax xs.length cx, .slice Am ms.length cm]] w (RetWrite w A n c (ws ++ [(1 - s, nxtS u b p t xs ms)])) := by
  have hsl := newU_slot hu
  have hgn := newU_gen rfl rfl hu
  have e0 : Box (((w.alloc (.cells #[.slice A n c, .slice A2 n2 c2] 35)).alloc (.cells #[.int .i64 g, .int .i64 b, .int .i64 p, .int .i64 t, .slice Ax xs.length cx, .slice Am ms.length cm] 26)).alloc (.cells #[.slice none 0 0, .slice none 0 0] 35)) w.heap.size 35 #[.slice A n c, .slice A2 n2 c2] := ((Box.new w _ _).alloc _).alloc _
  have b0 : Box (((w.alloc (.cells #[.slice A n c, .slice A2 n2 c2] 35)).alloc (.cells #[.int .i64 g, .int .i64 b, .int .i64 p, .int .i64 t, .slice Ax xs.length cx, .slice Am ms.length cm] 26)).alloc (.cells #[.slice none 0 0, .slice none 0 0] 35)) (w.heap.size + 1) 26 #[.int .i64 g, .int .i64 b, .int .i64 p, .int .i64 t, .slice Ax xs.length cx, .slice Am ms.length cm] := by have := (Box.new (w.alloc (.cells #[.slice A n c, .slice A2 n2 c2] 35)) 26 #[.int .i64 g, .int .i64 b, .int .i64 p, .int .i64 t, .slice Ax xs.length cx, .slice Am ms.length cm]).alloc (.cells #[.slice none 0 0, .slice none 0 0] 35); rwa [World.size_alloc] at this
  have r0 : Box (((w.alloc (.cells #[.slice A n c, .slice A2 n2 c2] 35)).alloc (.cells #[.int .i64 g, .int .i64 b, .int .i64 p, .int .i64 t, .slice Ax xs.length cx, .slice Am ms.length cm] 26)).alloc (.cells #[.slice none 0 0, .slice none 0 0] 35)) (w.heap.size + 1 + 1) 35 #[.slice none 0 0, .slice none 0 0] := by have := Box.new ((w.alloc (.cells #[.slice A n c, .slice A2 n2 c2] 35)).alloc (.cells #[.int .i64 g, .int .i64 b, .int .i64 p, .int .i64 t, .slice Ax xs.length cx, .slice Am ms.length cm] 26)) 35 #[.slice none 0 0, .slice none 0 0]; rwa [World.size_alloc, World.size_alloc] at this
  have hx0 := (((Nx.refl w).alloc (.cells #[.slice A n c, .slice A2 n2 c2] 35)).alloc (.cells #[.int .i64 g, .int .i64 b, .int .i64 p, .int .i64 t, .slice Ax xs.length cx, .slice Am ms.length cm] 26)).alloc (.cells #[.slice none 0 0, .slice none 0 0] 35)
  go_enter Tryz.func48, Tryz.ntmps48
  go_wp2_with fail
  generalize (((w.alloc (.cells #[.slice A n c, .slice A2 n2 c2] 35)).alloc (.cells #[.int .i64 g, .int .i64 b, .int .i64 p, .int .i64 t, .slice Ax xs.length cx, .slice Am ms.length cm] 26)).alloc (.cells #[.slice none 0 0, .slice none 0 0] 35)) = W at *
  obtain ⟨gS, HgS⟩ : ∃ g, Hid (w.heap.size + 1 = g) := ⟨_, rfl⟩
  obtain ⟨gD, HgD⟩ : ∃ g, Hid (w.heap.size + 1 + 1 = g) := ⟨_, rfl⟩
  have hgS : w.heap.size ≤ gS := by have := HgS.out; omega
  have hgD : w.heap.size ≤ gD := by have := HgD.out; omega
  have hneE : w.heap.size ≠ gD := by have := HgD.out; omega
  have hneE2 : w.heap.size ≠ gS := by have := HgS.out; omega
  have hneS : gS ≠ gD := by have := HgS.out; have := HgD.out; omega
  rw [HgD.out, HgS.out]
  rw [HgS.out] at b0
  rw [HgD.out] at r0
  refine (l04Newest_c A A2 n c n2 c2 B ss ws _ (h.below hx0 hB) (h2.below hx0 hB) (Nat.le_trans hB hx0.size) ha hn (by omega) hr0 hr1).mono ?_
  rintro e w1 ⟨hnx1, _, h3⟩
  obtain ⟨Bx, dx, Bm, dm, he, hfit⟩ := h3 u s hu
  clear h3 hfit
  have HU := Lib.hid hu
  have HOK' := Lib.hid hok
  obtain ⟨ug, ub, up, uq, uxs, ums⟩ := u
  have HOK : Hid (superB (ug + 1) b p t xs ms = true) := HOK'
  replace hgn : 1 ≤ ug ∧ ug ≤ 999999 := hgn
  replace he : e = .returned (.tuple #[.agg #[.int .i64 ug, .int .i64 ub, .int .i64 up, .int .i64 uq, .slice Bx uxs.length dx, .slice Bm ums.length dm], .int .i64 s]) := he
  subst he
  clear hu hok
  have e1 := e0.nx hnx1
  have b1 := b0.nx hnx1
  have r1 := r0.nx hnx1
  have hx1 := hx0.trans hnx1
  obtain ⟨y0, y1, y2, y3, y4, y5⟩ := b1.d6
  have yf := b1.frozen 0
  have ylt := b1.lt
  clear e0 b0 r0 hx0 hnx1
  go_wp2_with fail
  have e3 := (e1.far (p := ⟨gS, 0, none⟩) hneE2 (.int .i64 (ug + 1))).alloc (.cells #[.int .i64 ug, .int .i64 ub, .int .i64 up, .int .i64 uq, .slice Bx uxs.length dx, .slice Bm ums.length dm] 26)
  have b3 := (b1.set 0 (.int .i64 (ug + 1))).alloc (.cells #[.int .i64 ug, .int .i64 ub, .int .i64 up, .int .i64 uq, .slice Bx uxs.length dx, .slice Bm ums.length dm] 26)
  have r3 := (r1.far (p := ⟨gS, 0, none⟩) hneS.symm (.int .i64 (ug + 1))).alloc (.cells #[.int .i64 ug, .int .i64 ub, .int .i64 up, .int .i64 uq, .slice Bx uxs.length dx, .slice Bm ums.length dm] 26)
  have hx3 := (hx1.setCell (p := ⟨gS, 0, none⟩) hgS (.int .i64 (ug + 1))).alloc (.cells #[.int .i64 ug, .int .i64 ub, .int .i64 up, .int .i64 uq, .slice Bx uxs.length dx, .slice Bm ums.length dm] 26)
  simp only [List.setIfInBounds_toArray, List.set_cons_zero] at b3
  have hsw : IntKind.i64.wrap (1 - s) = 1 - s := IntWalk.i64_in _ (by rcases hsl with rfl | rfl <;> omega)
  clear y0 y1 y2 y3 y4 y5 yf ylt e1 b1 r1 hx1
  generalize (w1.setCell ⟨gS, 0, none⟩ (.int .i64 (ug + 1))).alloc (.cells #[.int .i64 ug, .int .i64 ub, .int .i64 up, .int .i64 uq, .slice Bx uxs.length dx, .slice Bm ums.length dm] 26) = w3 at *
  refine wp_region_lex [false, false, false, false, true, true, true] (fun w' => (w'.cell? ⟨w.heap.size, 0, none⟩ = some (.slice A n c) ∧ w'.cell? ⟨w.heap.size, 1, none⟩ = some (.slice A2 n2 c2)) ∧ (w'.cell? ⟨gS, 0, none⟩ = some (.int .i64 (ug + 1)) ∧ w'.cell? ⟨gS, 1, none⟩ = some (.int .i64 b) ∧ w'.cell? ⟨gS, 2, none⟩ = some (.int .i64 p) ∧ w'.cell? ⟨gS, 3, none⟩ = some (.int .i64 t) ∧ w'.cell? ⟨gS, 4, none⟩ = some (.slice Ax xs.length cx) ∧ w'.cell? ⟨gS, 5, none⟩ = some (.slice Am ms.length cm))) (by kernel_rfl) (by kernel_rfl) rfl (by kernel_rfl) (fun _ _ d _ _ h => by cases d <;> exact h) (by exact ⟨⟨e3.c0, e3.c1⟩, b3.d6⟩) ?_
  repeat (first | (refine HL.take (v := ?_) (by rfl) ?_ ?_; rotate_left; (· (intro w hSw; (try dsimp only at hSw); go_simp; try with_reducible rfl)); (try simp only [Act.put, List.setIfInBounds_toArray, List.set_cons_zero, List.set_cons_succ])) | (refine HL.skip (by rfl) ?_; (try simp only [Act.put, List.setIfInBounds_toArray, List.set_cons_zero, List.set_cons_succ])))
  refine HL.call (by rfl) (fun K hK => ?_)
  go_simp
  refine (l04Text_c (ug + 1) b p t Ax Am cx cm B xs ms _ (hs.below (hx3.drew) hB) (hmk.below (hx3.drew) hB) (Nat.le_trans hB hx3.drew.size) HOK.out).mono ?_; rintro e w4 ⟨rfl, hnx4⟩; have e4 := e3.nx (Nx.drew_r hnx4); have b4 := b3.nx (Nx.drew_r hnx4); have r4 := r3.nx (Nx.drew_r hnx4); have hx4 := hx3.trans (Nx.drew_r hnx4)
  go_wp2_with fail
  refine hK.out _ _ (by exact ⟨⟨e4.c0, e4.c1⟩, b4.d6⟩) ?_
  clear hK K
  try simp only [Act.put, List.setIfInBounds_toArray, List.set_cons_zero, List.set_cons_succ]
  refine HL.call (by rfl) (fun K hK => ?_)
  go_simp
  refine (l01Write_c A A2 n c n2 c2 B ws (1 - s) _ _ (h2.below hx4 hB) (Nat.le_trans hB hx4.size) (by omega)).mono ?_; rintro e w5 ⟨A5, n5, c5, rfl, hW5, hnx5⟩; have e5 := e4.nx hnx5; have b5 := b4.nx hnx5; have r5 := r4.nx hnx5; have hx5 := hx4.trans hnx5; obtain ⟨m0, m1⟩ : w5.cell? ⟨gD, 0, none⟩ = some (.slice none 0 0) ∧ w5.cell? ⟨gD, 1, none⟩ = some (.slice none 0 0) := ⟨r5.c0, r5.c1⟩; have mf0 := r5.frozen 0; have mf1 := r5.frozen 1; have mlt := r5.lt
  go_wp2_with fail
  refine hK.out _ _ (by exact ⟨⟨e5.c0, e5.c1⟩, b5.d6⟩) ?_
  clear hK K
  try simp only [Act.put, List.setIfInBounds_toArray, List.set_cons_zero, List.set_cons_succ]
  refine HL.call (by rfl) (fun K hK => ?_)
  go_simp
  refine hK.out _ _ (by exact ⟨⟨((e5.far (p := ⟨gD, 0, none⟩) hneE _).far (p := ⟨gD, 1, none⟩) hneE _).c0, ((e5.far (p := ⟨gD, 0, none⟩) hneE _).far (p := ⟨gD, 1, none⟩) hneE _).c1⟩, ((b5.far (p := ⟨gD, 0, none⟩) hneS _).far (p := ⟨gD, 1, none⟩) hneS _).d6⟩) ?_
  clear hK K
  try simp only [Act.put, List.setIfInBounds_toArray, List.set_cons_zero, List.set_cons_succ]
  refine HL.done ?_
  clear m0 m1 mf0 mf1
  have rq := (r5.set0 (.slice A n c)).set1 (.slice A5 n5 c5)
  have hnf := (hx5.setCell (p := ⟨gD, 0, none⟩) hgD (.slice A n c)).setCell (p := ⟨gD, 1, none⟩) hgD (.slice A5 n5 c5)
  have hlt4 : gD < w4.heap.size := r4.lt
  have hWf := (hW5.far (p := ⟨gD, 0, none⟩) hlt4 (.slice A n c)).far (p := ⟨gD, 1, none⟩) hlt4 (.slice A5 n5 c5)
  go_wp2
  change bodyPost _ _ _ _ _ ((w5.setCell ⟨gD, 0, none⟩ (.slice A n c)).setCell ⟨gD, 1, none⟩ (.slice A5 n5 c5))
  generalize (w5.setCell ⟨gD, 0, none⟩ (.slice A n c)).setCell ⟨gD, 1, none⟩ (.slice A5 n5 c5) = Wf at *
  have q0 := rq.c0
  have q1 := rq.c1
  exact bodyPost_ret (v := .agg #[.slice A n c, .slice A5 n5 c5]) (by simp [results, Tryz.results48, go_sem, q0, q1]) rfl ⟨A5, n5, c5, rfl, hWf.low (by omega), hnf⟩
theorem nxt_size {u : U6} {b p t : Int} {xs : List Int} {ms : List Mrk} (h : superB (u.1 + 1) b p t xs ms = true) : (nxtS u b p t xs ms).size ≤ 300 := by
  have h1 := (tbB_yes (superB_yes h).2.2.2.2.1).1
  have h2 := superB_yes h
  have h3 := (msB_yes h2.2.2.2.2.2).1
  have h4 := jn_all (wds_size h2.2.2.2.2.2)
  rw [wds_len] at h4
  unfold nxtS sealS
  rw [ByteArray.size_append, ByteArray.size_append, ByteArray.size_append, numsS_size, supN_len]
  have h5 : (⟨#[124]⟩ : ByteArray).size = 1 := rfl
  have h6 : (⟨(sumD (numsS (supN (u.1 + 1) b p t xs) ++ ⟨#[124]⟩ ++ jn (wds ms))).toArray⟩ : ByteArray).size ≤ 3 := by simp [ByteArray.size, sumD, pad_len]
  omega
end Go.Proofs.YteckhdkghfidiaaGreatDoor
/- Contracts of FlushDisk and CrashDisk, as the model and as the program have them: both answer the same disk and the same code, in new memory. Conditions: the disk can be read, and holds at most 1048576 elements of a kind. -/
namespace Go.Proofs.YteckhdkghfidiaaGreatDoor
set_option linter.unusedVariables false
open Go.RowKit

theorem settle_congr {kp kp' : Nat → Bool} (h : ∀ i, kp i = kp' i) (ss : List ByteArray) (ws : List (Int × ByteArray)) (k : Nat) : settleTo kp ss ws k = settleTo kp' ss ws k := by
  rw [funext h]
theorem box_bls {w : World} {g : Nat} {t : TypeId} {b : Bool} (h : Box w g t #[.bool b]) : Bls w w.heap.size (some ⟨g, 0, none⟩) 1 [b] := ⟨rfl, fun _ => ⟨g, 0, rfl, h.lt, fun i hi => by
  obtain rfl : i = 0 := by omega
  exact h.cell 0⟩⟩
def flP (ss : List ByteArray) (ws : List (Int × ByteArray)) : (List ByteArray × List (Int × ByteArray)) × Int := if diskB ss ws = false then (([], []), 1) else ((settleTo kpAll ss ws ws.length, []), 0)
def crP (ss : List ByteArray) (ws : List (Int × ByteArray)) (bs : List Bool) : (List ByteArray × List (Int × ByteArray)) × Int :=
  if 4096 < bs.length then (([], []), 2) else if diskB ss ws = false then (([], []), 1) else ((settleTo (kpC bs) ss ws ws.length, []), 0)
section
variable {ss R1 : List ByteArray} {ws R2 : List (Int × ByteArray)} {bs : List Bool} {cd : Int}
theorem flP_bad (h : diskB ss ws = false) : flP ss ws = (([], []), 1) := by unfold flP; rw [if_pos h]
theorem flP_ok (h : diskB ss ws = true) : flP ss ws = ((settleTo kpAll ss ws ws.length, []), 0) := by unfold flP; rw [if_neg (by simp [h])]
theorem crP_long (h : 4096 < bs.length) : crP ss ws bs = (([], []), 2) := by unfold crP; rw [if_pos h]
theorem crP_bad (h0 : ¬ 4096 < bs.length) (h : diskB ss ws = false) : crP ss ws bs = (([], []), 1) := by unfold crP; rw [if_neg h0, if_pos h]
theorem crP_ok (h0 : ¬ 4096 < bs.length) (h : diskB ss ws = true) : crP ss ws bs = ((settleTo (kpC bs) ss ws ws.length, []), 0) := by unfold crP; rw [if_neg h0, if_neg (by simp [h])]
theorem flP_len (h : flP ss ws = ((R1, R2), cd)) : R1.length ≤ 64 ∧ R2.length ≤ 81 := by
  cases hok : diskB ss ws with
  | false => rw [flP_bad hok] at h; cases h; simp
  | true => rw [flP_ok hok] at h; cases h; rw [settleTo_len, (diskB_len64 hok).1]; simp
theorem crP_len (h : crP ss ws bs = ((R1, R2), cd)) : R1.length ≤ 64 ∧ R2.length ≤ 81 := by
  by_cases h0 : 4096 < bs.length
  · rw [crP_long h0] at h; cases h; simp
  cases hok : diskB ss ws with
  | false => rw [crP_bad h0 hok] at h; cases h; simp
  | true => rw [crP_ok h0 hok] at h; cases h; rw [settleTo_len, (diskB_len64 hok).1]; simp
end

set_option maxRecDepth 100000 in
set_option maxHeartbeats 2000000 in
theorem flushed_c (A A2 : Option Addr) (c n2 c2 B : Nat) (ss : List ByteArray) (ws : List (Int × ByteArray)) (w : World) (h : Strs w B A 64 ss) (h2 : Wrs w B A2 n2 ws) (hB : B ≤ w.heap.size) (hn2 : n2 ≤ 80) (hall : ws.all wOk = true) :
    Calls Tryz.prog 43 #[.agg #[.slice A 64 c, .slice A2 n2 c2]] w (RetDisk w (settleTo kpAll ss ws n2) []) := by
  have HA := Lib.hid hall
  clear hall
  go_enter Tryz.func43, Tryz.ntmps43
  go_wp2_with fail
  have r1 := Box.new (w.alloc (.cells #[.slice A 64 c, .slice A2 n2 c2] 35)) 35 #[.slice none 0 0, .slice none 0 0]
  have hx1 := ((Nx.refl w).alloc (.cells #[.slice A 64 c, .slice A2 n2 c2] 35)).alloc (.cells #[.slice none 0 0, .slice none 0 0] 35)
  have hz1 : w.heap.size + 1 + 1 = ((w.alloc (.cells #[.slice A 64 c, .slice A2 n2 c2] 35)).alloc (.cells #[.slice none 0 0, .slice none 0 0] 35)).heap.size := by simp
  rw [hz1]
  simp only [World.size_alloc] at r1
  generalize (w.alloc (.cells #[.slice A 64 c, .slice A2 n2 c2] 35)).alloc (.cells #[.slice none 0 0, .slice none 0 0] 35) = w1 at *
  have k0 := Box.new w1 4 #[.bool true]
  have hxk := hx1.alloc (.cells #[.bool true] 4)
  have hk : Bls (w1.alloc (.cells #[.bool true] 4)) (w1.alloc (.cells #[.bool true] 4)).heap.size (some ⟨w1.heap.size, 0, none⟩) 1 [true] := box_bls k0
  have hl1 : w1.heap.size ≤ (w1.alloc (.cells #[.bool true] 4)).heap.size := by simp
  have hnk := (Nx.refl w1).alloc (.cells #[.bool true] 4)
  generalize w1.alloc (.cells #[.bool true] 4) = w2 at *
  refine (settled_c A A2 (some ⟨w1.heap.size, 0, none⟩) c n2 c2 1 1 _ ss ws [true] _ ((h.below hxk hB).more (Nat.le_trans hB hxk.size)) ((h2.below hxk hB).more (Nat.le_trans hB hxk.size)) hk (Nat.le_refl _) hn2 (by omega) (by omega) HA.out).mono ?_
  rintro e w3 ⟨A5, n5, c5, A6, n6, c6, rfl, hS3, hW4, hx3'⟩
  rw [show settleTo (kpOf [true]) ss ws n2 = settleTo (kpAll) ss ws n2 from settle_congr (fun i => by simp [kpOf, kpAll, Nat.mod_one]) _ _ _] at hS3
  have hx3 := hnk.trans hx3'
  have r3 := r1.nx hx3
  have s0 := r3.c0
  have s1 := r3.c1
  have f0 := r3.frozen 0
  have f1 := r3.frozen 1
  have l1 := r1.lt
  go_wp2
  obtain ⟨q0, q1, hSf, hWf, hxf⟩ := fin_box c5 c6 r3 hS3 hW4 (by omega) (by omega) (hx1.trans hx3) (by omega)
  generalize (w3.setCell ⟨w.heap.size + 1, 0, none⟩ (.slice A5 n5 c5)).setCell ⟨w.heap.size + 1, 1, none⟩ (.slice A6 n6 c6) = Wf at *
  exact bodyPost_ret (v := .agg #[.slice A5 n5 c5, .slice A6 n6 c6]) (by simp [results, Tryz.results43, go_sem, q0, q1]) rfl ⟨A5, n5, c5, A6, n6, c6, rfl, hSf, hWf, hxf⟩

end Go.Proofs.YteckhdkghfidiaaGreatDoor
