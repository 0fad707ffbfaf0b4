/-
  Texts of the proof, in their order.
  Conditions: those of each.
-/
import Derived.Test.YtieoiailjjnnoaaGreatDoorMs12
import Derived.Deep.QuietTactic
import Derived.BigQuiet
import Derived.StillTailTactics
import Derived.Outline
import Derived.ChangeKeysEq
namespace Go.Proofs.YtieoiailjjnnoaaGreatDoor
set_option linter.unusedVariables false
set_option maxRecDepth 100000
set_option maxHeartbeats 16000000
open Go.RowKit
theorem l04Put_c (A A2 : Option Addr) (n c n2 c2 B : Nat) (ss : List BA) (ws : List (Int × BA)) (g b p t : Int) (Ax Am : Option Addr) (cx cm : Nat) (xs : List Int) (ms : List Mrk) (w : World) (h : Strs w B A n ss) (h2 : Wrs w B A2 n2 ws) (hs : Ins w B Ax xs) (hmk : Mks w B Am ms) (hB : B ≤ w.heap.size) (ha : 1 < n) (hn : n ≤ 1048576) (hn2 : n2 ≤ 1048575)
 (hr0 : (readP ss ws 0).size ≤ 65536) (hr1 : (readP ss ws 1).size ≤ 65536) (u : U6) (s : Int) (hu : newU (rdU (readP ss ws 0)) (rdU (readP ss ws 1)) = some (u, s)) (hok : superB (u.1 + 1) b p t xs ms = true) :
 Calls Tryz.prog 61 #[.agg #[.slice A n c, .slice A2 n2 c2], .agg #[ii g, ii b, ii p, ii t, .slice Ax xs.length cx, .slice Am ms.length cm]] w (RetWrite w A n c (ws ++ [(1 - s, nxtS u b p t xs ms)])) := by
 have hsl := newU_slot hu
 have hgn := newU_gen rfl rfl hu
 have e0 : Box (((w.alloc (.cells #[.slice A n c, .slice A2 n2 c2] 35)).alloc (.cells #[ii g, ii b, ii p, ii t, .slice Ax xs.length cx, .slice Am ms.length cm] 26)).alloc (.cells #[nsl, nsl] 35)) w.heap.size 35 #[.slice A n c, .slice A2 n2 c2] := ((Box.new w _ _).alloc _).alloc _
 have b0 : Box (((w.alloc (.cells #[.slice A n c, .slice A2 n2 c2] 35)).alloc (.cells #[ii g, ii b, ii p, ii t, .slice Ax xs.length cx, .slice Am ms.length cm] 26)).alloc (.cells #[nsl, nsl] 35)) (w.heap.size + 1) 26 #[ii g, ii b, ii p, ii t, .slice Ax xs.length cx, .slice Am ms.length cm] := by have := (Box.new (w.alloc (.cells #[.slice A n c, .slice A2 n2 c2] 35)) 26 #[ii g, ii b, ii p, ii t, .slice Ax xs.length cx, .slice Am ms.length cm]).alloc (.cells #[nsl, nsl] 35); rwa [World.size_alloc] at this
 have r0 : Box (((w.alloc (.cells #[.slice A n c, .slice A2 n2 c2] 35)).alloc (.cells #[ii g, ii b, ii p, ii t, .slice Ax xs.length cx, .slice Am ms.length cm] 26)).alloc (.cells #[nsl, nsl] 35)) (w.heap.size + 1 + 1) 35 #[nsl, nsl] := by have := Box.new ((w.alloc (.cells #[.slice A n c, .slice A2 n2 c2] 35)).alloc (.cells #[ii g, ii b, ii p, ii t, .slice Ax xs.length cx, .slice Am ms.length cm] 26)) 35 #[nsl, nsl]; rwa [World.size_alloc, World.size_alloc] at this
 have hx0 := (((Nx.refl w).alloc (.cells #[.slice A n c, .slice A2 n2 c2] 35)).alloc (.cells #[ii g, ii b, ii p, ii t, .slice Ax xs.length cx, .slice Am ms.length cm] 26)).alloc (.cells #[nsl, nsl] 35)
 go_enter Tryz.func61, Tryz.ntmps61
 go_wp2_with fail
 generalize (((w.alloc (.cells #[.slice A n c, .slice A2 n2 c2] 35)).alloc (.cells #[ii g, ii b, ii p, ii t, .slice Ax xs.length cx, .slice Am ms.length cm] 26)).alloc (.cells #[nsl, nsl] 35)) = W at *
 obtain ⟨gS, HgS⟩ : ∃ g, Hid (w.heap.size + 1 = g) := ⟨_, rfl⟩
 obtain ⟨gD, HgD⟩ : ∃ g, Hid (w.heap.size + 1 + 1 = g) := ⟨_, rfl⟩
 have hgS : w.heap.size ≤ gS := by have := HgS.out; omega
 have hgD : w.heap.size ≤ gD := by have := HgD.out; omega
 have hneE : w.heap.size ≠ gD := by have := HgD.out; omega
 have hneE2 : w.heap.size ≠ gS := by have := HgS.out; omega
 have hneS : gS ≠ gD := by have := HgS.out; have := HgD.out; omega
 rw [HgD.out, HgS.out]
 rw [HgS.out] at b0
 rw [HgD.out] at r0
 refine (l04Newest_c A A2 n c n2 c2 B ss ws _ (h.below hx0 hB) (h2.below hx0 hB) (ntr hB hx0.size) ha hn (by omega) hr0 hr1).mono ?_
 rintro e w1 ⟨hnx1, _, h3⟩
 obtain ⟨Bx, dx, Bm, dm, he, hfit⟩ := h3 u s hu
 clear h3 hfit
 have HU := qh hu
 have HOK' := qh hok
 obtain ⟨ug, ub, up, uq, uxs, ums⟩ := u
 have HOK : Hid (superB (ug + 1) b p t xs ms = true) := HOK'
 replace hgn : 1 ≤ ug ∧ ug ≤ 999999 := hgn
 replace he : e = .returned (.tuple #[.agg #[ii ug, ii ub, ii up, ii uq, .slice Bx uxs.length dx, .slice Bm ums.length dm], ii s]) := he
 subst he
 clear hu hok
 have e1 := e0.nx hnx1
 have b1 := b0.nx hnx1
 have r1 := r0.nx hnx1
 have hx1 := hx0.trans hnx1
 obtain ⟨y0, y1, y2, y3, y4, y5⟩ := b1.d6
 have yf := b1.frozen 0
 have ylt := b1.lt
 clear e0 b0 r0 hx0 hnx1
 go_wp2_with fail
 have e3 := (e1.far (p := ⟨gS, 0, none⟩) hneE2 (ii (ug + 1))).alloc (.cells #[ii ug, ii ub, ii up, ii uq, .slice Bx uxs.length dx, .slice Bm ums.length dm] 26)
 have b3 := (b1.set 0 (ii (ug + 1))).alloc (.cells #[ii ug, ii ub, ii up, ii uq, .slice Bx uxs.length dx, .slice Bm ums.length dm] 26)
 have r3 := (r1.far (p := ⟨gS, 0, none⟩) hneS.symm (ii (ug + 1))).alloc (.cells #[ii ug, ii ub, ii up, ii uq, .slice Bx uxs.length dx, .slice Bm ums.length dm] 26)
 have hx3 := (hx1.setCell (p := ⟨gS, 0, none⟩) hgS (ii (ug + 1))).alloc (.cells #[ii ug, ii ub, ii up, ii uq, .slice Bx uxs.length dx, .slice Bm ums.length dm] 26)
 simp only [List.setIfInBounds_toArray, List.set_cons_zero] at b3
 have hsw : IntKind.i64.wrap (1 - s) = 1 - s := IntWalk.i64_in _ (by rcases hsl with rfl | rfl <;> omega)
 clear y0 y1 y2 y3 y4 y5 yf ylt e1 b1 r1 hx1
 generalize (w1.setCell ⟨gS, 0, none⟩ (ii (ug + 1))).alloc (.cells #[ii ug, ii ub, ii up, ii uq, .slice Bx uxs.length dx, .slice Bm ums.length dm] 26) = w3 at *
 refine wp_lexA [ff, ff, ff, ff, true, true, true] (fun w' => (w'.cell? ⟨w.heap.size, 0, none⟩ = some (.slice A n c) ∧ w'.cell? ⟨w.heap.size, 1, none⟩ = some (.slice A2 n2 c2)) ∧ (w'.cell? ⟨gS, 0, none⟩ = some (ii (ug + 1)) ∧ w'.cell? ⟨gS, 1, none⟩ = some (ii b) ∧ w'.cell? ⟨gS, 2, none⟩ = some (ii p) ∧ w'.cell? ⟨gS, 3, none⟩ = some (ii t) ∧ w'.cell? ⟨gS, 4, none⟩ = some (.slice Ax xs.length cx) ∧ w'.cell? ⟨gS, 5, none⟩ = some (.slice Am ms.length cm))) (by exact ⟨⟨e3.c0, e3.c1⟩, b3.d6⟩) ?_
 repeat ((first | refine HL.tk ?_ | refine HL.sk ?_); try simp only [Act.put, qqA, qqB, qqC])
 refine hLc fun K hK => ?_
 go_simp
 refine (l04Text_c (ug + 1) b p t Ax Am cx cm B xs ms _ (hs.below (hx3.drew) hB) (hmk.below (hx3.drew) hB) (ntr hB hx3.drew.size) HOK.out).mono ?_; rintro e w4 ⟨rfl, hnx4⟩; have e4 := e3.nx (Nx.drew_r hnx4); have b4 := b3.nx (Nx.drew_r hnx4); have r4 := r3.nx (Nx.drew_r hnx4); have hx4 := hx3.trans (Nx.drew_r hnx4)
 go_wp2_with fail
 refine hK.out _ _ (by exact ⟨⟨e4.c0, e4.c1⟩, b4.d6⟩) ?_
 clear hK K
 try simp only [Act.put, qqA, qqB, qqC]
 refine hLc fun K hK => ?_
 go_simp
 refine (l01Write_c A A2 n c n2 c2 B ws (1 - s) _ _ (h2.below hx4 hB) (ntr hB hx4.size) (by omega)).mono ?_; rintro e w5 ⟨A5, n5, c5, rfl, hW5, hnx5⟩; have e5 := e4.nx hnx5; have b5 := b4.nx hnx5; have r5 := r4.nx hnx5; have hx5 := hx4.trans hnx5; obtain ⟨m0, m1⟩ : w5.cell? ⟨gD, 0, none⟩ = some (nsl) ∧ w5.cell? ⟨gD, 1, none⟩ = some (nsl) := ⟨r5.c0, r5.c1⟩; have mf0 := r5.frozen 0; have mf1 := r5.frozen 1; have mlt := r5.lt
 go_wp2_with fail
 refine hK.out _ _ (by exact ⟨⟨e5.c0, e5.c1⟩, b5.d6⟩) ?_
 clear hK K
 try simp only [Act.put, qqA, qqB, qqC]
 refine hLc fun K hK => ?_
 go_simp
 refine hK.out _ _ (by exact ⟨⟨((e5.far (p := ⟨gD, 0, none⟩) hneE _).far (p := ⟨gD, 1, none⟩) hneE _).c0, ((e5.far (p := ⟨gD, 0, none⟩) hneE _).far (p := ⟨gD, 1, none⟩) hneE _).c1⟩, ((b5.far (p := ⟨gD, 0, none⟩) hneS _).far (p := ⟨gD, 1, none⟩) hneS _).d6⟩) ?_
 clear hK K
 try simp only [Act.put, qqA, qqB, qqC]
 refine HL.done ?_
 clear m0 m1 mf0 mf1
 have rq := (r5.set0 (.slice A n c)).set1 (.slice A5 n5 c5)
 have hnf := (hx5.setCell (p := ⟨gD, 0, none⟩) hgD (.slice A n c)).setCell (p := ⟨gD, 1, none⟩) hgD (.slice A5 n5 c5)
 have hlt4 : gD < w4.heap.size := r4.lt
 have hWf := (hW5.far (p := ⟨gD, 0, none⟩) hlt4 (.slice A n c)).far (p := ⟨gD, 1, none⟩) hlt4 (.slice A5 n5 c5)
 go_wp2
 change bodyPost _ _ _ _ _ ((w5.setCell ⟨gD, 0, none⟩ (.slice A n c)).setCell ⟨gD, 1, none⟩ (.slice A5 n5 c5))
 generalize (w5.setCell ⟨gD, 0, none⟩ (.slice A n c)).setCell ⟨gD, 1, none⟩ (.slice A5 n5 c5) = Wf at *
 have q0 := rq.c0
 have q1 := rq.c1
 exact bodyPost_ret (v := .agg #[.slice A n c, .slice A5 n5 c5]) (by simp [results, Tryz.results61, go_sem, q0, q1]) rfl ⟨A5, n5, c5, rfl, hWf.low (by omega), hnf⟩
theorem nxt_size {u : U6} {b p t : Int} {xs : List Int} {ms : List Mrk} (h : superB (u.1 + 1) b p t xs ms = true) : (nxtS u b p t xs ms).size ≤ 300 := by
 have h1 := (tbB_yes (superB_yes h).2.2.2.2.1).1
 have h2 := superB_yes h
 have h3 := (msB_yes h2.2.2.2.2.2).1
 have h4 := jn_all (wds_size h2.2.2.2.2.2)
 rw [wds_len] at h4
 unfold nxtS sealS
 rw [ByteArray.size_append, ByteArray.size_append, ByteArray.size_append, numsS_size, supN_len]
 have h5 : (⟨#[124]⟩ : BA).size = 1 := rfl
 have h6 : (⟨(sumD (numsS (supN (u.1 + 1) b p t xs) ++ ⟨#[124]⟩ ++ jn (wds ms))).toArray⟩ : BA).size ≤ 3 := by simp [ByteArray.size, sumD, pad_len]
 omega

def noS : List BA := List.replicate 64 ByteArray.empty
theorem noS_len : noS.length = 64 := by simp [noS]
theorem noS_at {i : Nat} (h : i < 64) : noS.getD i ByteArray.empty = ByteArray.empty := by
 unfold noS; rw [gdE, List.getElem?_replicate, if_pos h]; rfl
theorem made_noS (w : World) : OwnS (w.alloc (.cells (madeCells #[Value.string ByteArray.empty] 64) 9)) w.heap.size noS := by
 unfold OwnS
 rw [noS_len]
 refine (Own.made w #[Value.string ByteArray.empty] 64 9).congr fun i hi => ?_
 unfold strAt
 rw [noS_at hi]
 simp [Nat.mod_one]
theorem make64 (W : World) : (Instr.makeSlice 32 (ii 64) (ii 64)).run Tryz.prog W = .ok (.slice (some ⟨W.heap.size, 0, none⟩) 64 64) (W.alloc (.cells (madeCells #[Value.string ByteArray.empty] 64) 9)) := by
 obtain ⟨i0, hi0, hz0, hz1, hz2⟩ := info_parts info_str
 have hmk := run_make_rowN (P := Tryz.prog) 32 9 i0 _ Tryz.underlying32 hi0 hz0 .i64 .i64 64 64 nle (by rw [hz2]; omega) (by omega) W
 rw [hz1] at hmk
 exact hmk
theorem specNewDisk_c (w : World) : Calls Tryz.prog 118 #[] w (RetDisk w noS []) := by
 have hmk := make64
 go_enter Tryz.func118, Tryz.ntmps118
 go_wp2
 have ho := Own.alloc (made_noS (w.alloc (.cells #[.slice (some ⟨w.heap.size + 1, 0, none⟩) 64 64, .slice (some ⟨w.heap.size + 1 + 1, 0, none⟩) 0 0] 35))) (.cells #[] 102)
 simp only [World.size_alloc] at ho
 have hx := (((Nx.refl w).alloc (.cells #[.slice (some ⟨w.heap.size + 1, 0, none⟩) 64 64, .slice (some ⟨w.heap.size + 1 + 1, 0, none⟩) 0 0] 35)).alloc (.cells (madeCells #[Value.string ByteArray.empty] 64) 9)).alloc (.cells #[] 102)
 have q := ((Box.new w 35 #[.slice (some ⟨w.heap.size + 1, 0, none⟩) 64 64, .slice (some ⟨w.heap.size + 1 + 1, 0, none⟩) 0 0]).alloc (.cells (madeCells #[Value.string ByteArray.empty] 64) 9)).alloc (.cells #[] 102)
 have q0 := q.c0
 have q1 := q.c1
 generalize ((w.alloc (.cells #[.slice (some ⟨w.heap.size + 1, 0, none⟩) 64 64, .slice (some ⟨w.heap.size + 1 + 1, 0, none⟩) 0 0] 35)).alloc (.cells (madeCells #[Value.string ByteArray.empty] 64) 9)).alloc (.cells #[] 102) = W at *
 exact bodyPost_ret (v := .agg #[.slice (some ⟨w.heap.size + 1, 0, none⟩) 64 64, .slice (some ⟨w.heap.size + 1 + 1, 0, none⟩) 0 0]) (by simp [results, Tryz.results118, go_sem, q0, q1]) rfl
  ⟨_, 64, 64, _, 0, 0, rfl, ⟨noS_len, fun _ => ⟨_, rfl, by omega, ho⟩⟩, ⟨rfl, fun h => absurd h (by omega)⟩, hx⟩

theorem RowI.one (w : World) {B : Nat} (hB : B ≤ w.heap.size) (x : Int) : RowI (w.alloc (.cells #[ii x] 3)) B (.slice (some ⟨w.heap.size, 0, none⟩) 1 1) [x] :=
 ⟨rfl, .inr ⟨_, 1, #[ii x], rfl, hB, heap_alloc_new w _, by simp, by unfold maxLen; omega, rfl, rfl⟩⟩




def Vl.wcells (V : Vl) : Array Value := #[ii V.g, ii V.b, ii V.p, ii V.t, .slice V.A V.xs.length V.c, .slice V.A2 V.ms.length V.c2, .slice V.A3 V.gs.length V.c3, inAt V.im 0, inAt V.im 1, inAt V.im 2, inAt V.im 3, inAt V.im 4, inAt V.im 5, inAt V.im 6, inAt V.im 7]
def Vl.w (V : Vl) : Value := .agg V.wcells
theorem Box.row {w : World} {g : Nat} {t : TypeId} {cs : Array Value} (h : Box w g t cs) (ds : Array Value) : Box (w.setRow g ds) g t ds := setRow_heap w g cs ds t _ h
theorem heap_setRow_ne (w : World) (g : Nat) (ds : Array Value) {k : Nat} (h : k ≠ g) : (w.setRow g ds).heap[k]? = w.heap[k]? := by
 simp only [World.setRow, Array.getElem?_modify]
 rw [if_neg (fun e : g = k => h e.symm)]
theorem size_setRow (w : World) (g : Nat) (ds : Array Value) : (w.setRow g ds).heap.size = w.heap.size := by simp [World.setRow]
theorem Nx.setRow {a w : World} (h : Nx a w) {g : Nat} (hg : a.heap.size ≤ g) (ds : Array Value) : Nx a (w.setRow g ds) :=
 ⟨h.os, h.tape, h.output, by rw [size_setRow]; exact h.size, fun k hk => (heap_setRow_ne w g ds (by omega)).trans (h.block k hk)⟩







theorem Vl.y {V : Vl} (h : V.ok = true) : VltY V.g V.b V.p V.t V.xs V.ms V.gs V.im := vltB_yes h
theorem VltY.ahd {g b p t : Int} {xs : List Int} {ms : List Mrk} {gs : List SgR} {im : List Int} (h : VltY g b p t xs ms gs im) : isRet b gs p = true ∧ (p < t → ahd b gs p < gs.length) ∧ (t < p → 0 < ahd b gs p) :=
 ⟨by have := h.places; unfold plcB at this; simp only [Bool.and_eq_true] at this; exact this.1.2, (stp_le (t := t) im (chainB_lead h.chain) h.places).2⟩
theorem VltY.n4 {g b p t : Int} {xs : List Int} {ms : List Mrk} {gs : List SgR} {im : List Int} (h : VltY g b p t xs ms gs im) : gs.length ≤ 4096 := (chainB_lead h.chain).short

theorem getD_setB (ss : List BA) (a i : Nat) (s : BA) (ha : a < ss.length) : (ss.set a s).getD i ByteArray.empty = if i = a then s else ss.getD i ByteArray.empty := by
 rw [gdE, List.getElem?_set]
 by_cases h : a = i
 · subst h; rw [if_pos rfl, if_pos rfl, if_pos ha]; rfl
 · rw [if_neg h, if_neg (fun e => h e.symm), ← gdE]
theorem readP_nil (ss : List BA) (a : Nat) : readP ss [] a = ss.getD a ByteArray.empty := rfl
theorem segT_size (V : Vl) (p v t : Int) (n : Nat) : (segT (newG V p n v t)).size ≤ 300 := by
 unfold segT
 rw [sealS_size, numsS_size, segN_len]
 show (3 + 3 * 1) * 6 + 3 ≤ 300
 omega
theorem supT_size {g b p t : Int} {xs : List Int} {ms : List Mrk} (h : superB (g + 1) b p t xs ms = true) : (supT (g + 1) b p t xs ms).size ≤ 300 :=
 nxt_size (u := (g, b, p, t, xs, ms)) h
theorem set_all {ss : List BA} {a : Nat} {s : BA} (h : ss.all sOk = true) (hs : s.size ≤ 300) : (ss.set a s).all sOk = true := List.all_eq_true.2 fun x hx => by
 rcases List.mem_or_eq_of_mem_set hx with h1 | rfl
 · exact List.all_eq_true.1 h x h1
 · exact decide_eq_true hs
theorem diskB_nil {ss : List BA} (h1 : ss.length = 64) (h2 : ss.all sOk = true) : diskB ss [] = true := by
 unfold diskB; rw [h1, h2]; rfl
def apS (ss : List BA) (V : Vl) (p : Int) (n : Nat) (v t : Int) : List BA := ss.set (freeS V.xs).toNat (segT (newG V p n v t))
def apU (V : Vl) : BA := supT (V.g + 1) V.b V.p V.t (V.xs ++ [freeS V.xs]) V.ms
structure Asked (ss : List BA) (V : Vl) (p : Int) (n : Nat) (v t : Int) : Prop where
 disk : diskB ss [] = true
 ld : LdY ss [] V
 frame : frameB p (n : Int) v t = true
 next : p = V.tip + 1
 room : V.gs.length ≠ 20
 gen : V.g ≠ 999999
section
variable {ss : List BA} {V : Vl} {p v t : Int} {n : Nat}
theorem Asked.len (h : Asked ss V p n v t) : V.gs.length < 20 ∧ V.xs.length = V.gs.length := by
 have h1 := h.ld.ok.len
 have h2 := (tbB_yes (superB_yes h.ld.ok.super).2.2.2.2.1).1
 have := h.room
 exact ⟨by omega, h1.symm⟩
theorem Asked.y (h : Asked ss V p n v t) : VltY (V.g + 1) V.b V.p V.t (V.xs ++ [freeS V.xs]) V.ms (V.gs ++ [newG V p n v t]) V.im := ext_y h.ld.ok (newG_nxt h.ld.ok h.frame h.next) h.gen h.len.1
theorem Asked.free (h : Asked ss V p n v t) : ∃ a : Nat, freeS V.xs = (a : Int) ∧ 10 ≤ a ∧ a ≤ 63 := by
 obtain ⟨f1, f2, _⟩ := free_ok (xs := V.xs) (by have := h.len; omega)
 exact ⟨(freeS V.xs).toNat, by omega, by omega, by omega⟩
theorem Asked.diskS (h : Asked ss V p n v t) : diskB (apS ss V p n v t) [] = true :=
 diskB_nil (by unfold apS; rw [List.length_set]; exact (diskB_len64 h.disk).1) (set_all (diskB_len64 h.disk).2.2.1 (segT_size V p v t n))
theorem Asked.slot (h : Asked ss V p n v t) : ∃ o : Nat, 1 - sltV ss [] = (o : Int) ∧ o ≤ 1 := by
 rcases h.ld.slot with e | e
 · exact ⟨1, by omega, by omega⟩
 · exact ⟨0, by omega, by omega⟩
theorem Asked.readS (h : Asked ss V p n v t) (a : Nat) : readP (apS ss V p n v t) [] a = if a = (freeS V.xs).toNat then segT (newG V p n v t) else readP ss [] a := by
 obtain ⟨f, ef, h1, h2⟩ := h.free
 rw [readP_nil, readP_nil]
 unfold apS
 rw [getD_setB _ _ _ _ (by rw [(diskB_len64 h.disk).1, ef]; omega)]
theorem Asked.readF (h : Asked ss V p n v t) (a : Nat) : readP ((apS ss V p n v t).set (1 - sltV ss []).toNat (apU V)) [] a = if a = (1 - sltV ss []).toNat then apU V else readP (apS ss V p n v t) [] a := by
 obtain ⟨o, eo, ho⟩ := h.slot
 rw [readP_nil, readP_nil, getD_setB _ _ _ _ (by rw [(diskB_len64 h.diskS).1, eo]; omega)]
theorem newU_at {o0 o1 : Option U6} {u : U6} {s : Int} (h : newU o0 o1 = some (u, s)) : (s = 0 ∧ o0 = some u) ∨ (s = 1 ∧ o1 = some u) := by
 unfold newU at h
 split at h
 · split at h <;> cases h
   · exact .inr ⟨rfl, rfl⟩
   · exact .inl ⟨rfl, rfl⟩
 · cases h; exact .inl ⟨rfl, rfl⟩
 · cases h; exact .inr ⟨rfl, rfl⟩
 · cases h
theorem Asked.new (h : Asked ss V p n v t) : newU (rdU (readP ((apS ss V p n v t).set (1 - sltV ss []).toNat (apU V)) [] 0)) (rdU (readP ((apS ss V p n v t).set (1 - sltV ss []).toNat (apU V)) [] 1)) = some ((V.g + 1, V.b, V.p, V.t, V.xs ++ [freeS V.xs], V.ms), 1 - sltV ss []) := by
 obtain ⟨f, ef, f1, f2⟩ := h.free
 have hb := rdU_back h.y.super
 rw [h.readF 0, h.readF 1, h.readS 0, h.readS 1, if_neg (show ¬ 0 = (freeS V.xs).toNat by omega), if_neg (show ¬ 1 = (freeS V.xs).toNat by omega)]
 rcases newU_at h.ld.nu with ⟨hs, hr⟩ | ⟨hs, hr⟩
 · rw [hs, if_neg (by decide), if_pos (by decide), hr]
   show newU _ (rdU (apU V)) = _
   unfold apU
   rw [hb]
   show (if V.g < V.g + 1 then _ else _) = _
   rw [if_pos (by omega)]; rfl
 · rw [hs, if_pos (by decide), if_neg (by decide), hr]
   show newU (rdU (apU V)) _ = _
   unfold apU
   rw [hb]
   show (if V.g + 1 < V.g then _ else _) = _
   rw [if_neg (by omega)]; rfl
theorem Asked.sec (h : Asked ss V p n v t) {a : Nat} (h1 : 2 ≤ a) (h2 : a ≠ (freeS V.xs).toNat) : readP ((apS ss V p n v t).set (1 - sltV ss []).toNat (apU V)) [] a = readP ss [] a := by
 obtain ⟨o, eo, ho⟩ := h.slot
 rw [h.readF, if_neg (by rw [eo]; omega), h.readS, if_neg h2]
theorem Asked.seg (h : Asked ss V p n v t) : ldG ((apS ss V p n v t).set (1 - sltV ss []).toNat (apU V)) [] (freeS V.xs) = some ((p - 1).toNat, p.toNat, (lastM V.gs t).toNat, [((n : Int), v, V.top.getD n 0)]) := by
 obtain ⟨o, eo, ho⟩ := h.slot
 obtain ⟨f, ef, f1, f2⟩ := h.free
 have hx := newG_nxt h.ld.ok h.frame h.next
 have hs : segB (p - 1) p (lastM V.gs t) [((n : Int), v, V.top.getD n 0)] = true := hx.seg
 obtain ⟨s0, s1, s2, s3, s4⟩ := segB_yes hs
 unfold ldG
 rw [h.readF, if_neg (by rw [eo, ef]; omega), h.readS, if_pos rfl]
 have e0 : (((p - 1).toNat : Nat) : Int) = p - 1 := Int.toNat_of_nonneg (by omega)
 have e1 : ((p.toNat : Nat) : Int) = p := Int.toNat_of_nonneg (by omega)
 have e2 : (((lastM V.gs t).toNat : Nat) : Int) = lastM V.gs t := Int.toNat_of_nonneg (by omega)
 have hs2 : segB (((p - 1).toNat : Nat) : Int) ((p.toNat : Nat) : Int) (((lastM V.gs t).toNat : Nat) : Int) [((n : Int), v, V.top.getD n 0)] = true := by rw [e0, e1, e2]; exact hs
 have hb := rdG_back hs2
 rw [← hb]
 unfold segS segT newG
 rw [if_pos hs2, e0, e1, e2]
theorem Asked.img (h : Asked ss V p n v t) {j : Nat} (hj : j < 8) : ldI ((apS ss V p n v t).set (1 - sltV ss []).toNat (apU V)) [] j = ldI ss [] j := by
 obtain ⟨f, ef, f1, f2⟩ := h.free
 unfold ldI
 rw [h.sec (by omega) (by rw [ef]; omega)]
theorem Asked.keep (h : Asked ss V p n v t) : LdY (apS ss V p n v t) [] V := by
 obtain ⟨f, ef, f1, f2⟩ := h.free
 obtain ⟨_, _, f3⟩ := free_ok (xs := V.xs) (by have := h.len; omega)
 have hsec : ∀ a, a ≠ (freeS V.xs).toNat → readP (apS ss V p n v t) [] a = readP ss [] a := fun a ha => by rw [h.readS, if_neg ha]
 have hn : newU (rdU (readP (apS ss V p n v t) [] 0)) (rdU (readP (apS ss V p n v t) [] 1)) = newU (rdU (readP ss [] 0)) (rdU (readP ss [] 1)) := by
  rw [hsec 0 (by rw [ef]; omega), hsec 1 (by rw [ef]; omega)]
 have hs : sltV (apS ss V p n v t) [] = sltV ss [] := by unfold sltV; rw [hn]
 have hg : ∀ x ∈ V.xs, ldG (apS ss V p n v t) [] x = ldG ss [] x := fun x hx => by
  have h1 := tbB_in (superB_yes h.ld.ok.super).2.2.2.2.1 hx
  unfold ldG
  rw [hsec _ (fun e => f3 (by have : freeS V.xs = x := by omega
                              rw [this]; exact hx))]
 have hi : ∀ j, j < 8 → ldI (apS ss V p n v t) [] j = ldI ss [] j := fun j hj => by unfold ldI; rw [hsec _ (by rw [ef]; omega)]
 have hrd := h.ld.rd
 unfold ldOk at hrd
 rw [Bool.and_eq_true] at hrd
 refine ⟨by rw [hn, hs]; exact h.ld.nu, by rw [hs]; exact h.ld.slot, h.ld.ok, ?_, ?_⟩
 · unfold ldOk
   rw [Bool.and_eq_true]
   exact ⟨List.all_eq_true.2 fun x hx => by rw [hg x hx]; exact List.all_eq_true.1 hrd.1 x hx, List.all_eq_true.2 fun j hj => by rw [hi j (by simpa using hj)]; exact List.all_eq_true.1 hrd.2 j hj⟩
 · have e1 : V.xs.map (ldS (apS ss V p n v t) []) = V.xs.map (ldS ss []) := List.map_congr_left fun x hx => by unfold ldS; rw [hg x hx]
   have e2 : (List.range 8).map (ldX (apS ss V p n v t) []) = (List.range 8).map (ldX ss []) := List.map_congr_left fun j hj => by unfold ldX; rw [hi j (by simpa using hj)]
   refine h.ld.eq.trans ?_
   unfold ldW vlU
   simp only
   rw [e1, e2]
end
theorem settle_congr {kp kp' : Nat → Bool} (h : ∀ i, kp i = kp' i) (ss : List BA) (ws : List (Int × BA)) (k : Nat) : settleTo kp ss ws k = settleTo kp' ss ws k := by
 rw [funext h]
theorem box_bls {w : World} {g : Nat} {t : TypeId} {b : Bool} (h : Box w g t #[.bool b]) : Bls w w.heap.size (some ⟨g, 0, none⟩) 1 [b] := ⟨rfl, fun _ => ⟨g, 0, rfl, h.lt, fun i hi => by
 obtain rfl : i = 0 := by omega
 exact h.cell 0⟩⟩
section
variable {ss R1 : List BA} {ws R2 : List (Int × BA)} {bs : List Bool} {cd : Int}
end
theorem flushed_c (A A2 : Option Addr) (c n2 c2 B : Nat) (ss : List BA) (ws : List (Int × BA)) (w : World) (h : Strs w B A 64 ss) (h2 : Wrs w B A2 n2 ws) (hB : B ≤ w.heap.size) (hn2 : n2 ≤ 80) (hall : ws.all wOk = true) :
 Calls Tryz.prog 56 #[.agg #[.slice A 64 c, .slice A2 n2 c2]] w (RetDisk w (settleTo kpAll ss ws n2) []) := by
 have HA := qh hall
 clear hall
 go_enter Tryz.func56, Tryz.ntmps56
 go_wp2_with fail
 have r1 := Box.new (w.alloc (.cells #[.slice A 64 c, .slice A2 n2 c2] 35)) 35 #[nsl, nsl]
 have hx1 := ((Nx.refl w).alloc (.cells #[.slice A 64 c, .slice A2 n2 c2] 35)).alloc (.cells #[nsl, nsl] 35)
 have hz1 : w.heap.size + 1 + 1 = ((w.alloc (.cells #[.slice A 64 c, .slice A2 n2 c2] 35)).alloc (.cells #[nsl, nsl] 35)).heap.size := by simp
 rw [hz1]
 simp only [World.size_alloc] at r1
 generalize (w.alloc (.cells #[.slice A 64 c, .slice A2 n2 c2] 35)).alloc (.cells #[nsl, nsl] 35) = w1 at *
 have k0 := Box.new w1 4 #[.bool true]
 have hxk := hx1.alloc (.cells #[.bool true] 4)
 have hk : Bls (w1.alloc (.cells #[.bool true] 4)) (w1.alloc (.cells #[.bool true] 4)).heap.size (some ⟨w1.heap.size, 0, none⟩) 1 [true] := box_bls k0
 have hl1 : w1.heap.size ≤ (w1.alloc (.cells #[.bool true] 4)).heap.size := by simp
 have hnk := (Nx.refl w1).alloc (.cells #[.bool true] 4)
 generalize w1.alloc (.cells #[.bool true] 4) = w2 at *
 refine (settled_c A A2 (some ⟨w1.heap.size, 0, none⟩) c n2 c2 1 1 _ ss ws [true] _ ((h.below hxk hB).more (ntr hB hxk.size)) ((h2.below hxk hB).more (ntr hB hxk.size)) hk nle hn2 (by omega) (by omega) HA.out).mono ?_
 rintro e w3 ⟨A5, n5, c5, A6, n6, c6, rfl, hS3, hW4, hx3'⟩
 rw [show settleTo (kpOf [true]) ss ws n2 = settleTo (kpAll) ss ws n2 from settle_congr (fun i => by simp [kpOf, kpAll, Nat.mod_one]) _ _ _] at hS3
 have hx3 := hnk.trans hx3'
 have r3 := r1.nx hx3
 have s0 := r3.c0
 have s1 := r3.c1
 have f0 := r3.frozen 0
 have f1 := r3.frozen 1
 have l1 := r1.lt
 go_wp2
 obtain ⟨q0, q1, hSf, hWf, hxf⟩ := fin_box c5 c6 r3 hS3 hW4 (by omega) (by omega) (hx1.trans hx3) (by omega)
 generalize (w3.setCell ⟨w.heap.size + 1, 0, none⟩ (.slice A5 n5 c5)).setCell ⟨w.heap.size + 1, 1, none⟩ (.slice A6 n6 c6) = Wf at *
 exact bodyPost_ret (v := .agg #[.slice A5 n5 c5, .slice A6 n6 c6]) (by simp [results, Tryz.results56, go_sem, q0, q1]) rfl ⟨A5, n5, c5, A6, n6, c6, rfl, hSf, hWf, hxf⟩
theorem RetDiskCode.mk {w w' : World} {ss : List BA} {ws : List (Int × BA)} {R : (List BA × List (Int × BA)) × Int} {k : Int} {A A2 : Option Addr} {n c n2 c2 : Nat} (hR : R = ((ss, ws), k)) (hS : SlS w' w.heap.size A n ss) (hW : SlW w' w.heap.size A2 n2 ws) (hn : Nx w w') :
 RetDiskCode w R.1.1 R.1.2 R.2 (.returned (.tuple #[.agg #[.slice A n c, .slice A2 n2 c2], ii k])) w' := by subst hR; exact ⟨A, n, c, A2, n2, c2, rfl, hS, hW, hn⟩
theorem RetDiskCode.zero {w w' : World} {R : (List BA × List (Int × BA)) × Int} {k : Int} (hR : R = (([], []), k)) (hn : Nx w w') :
 RetDiskCode w R.1.1 R.1.2 R.2 (.returned (.tuple #[.agg #[nsl, nsl], ii k])) w' := by
 subst hR; exact ⟨none, 0, 0, none, 0, 0, rfl, ⟨rfl, fun h => absurd h (by omega)⟩, ⟨rfl, fun h => absurd h (by omega)⟩, hn⟩
section
variable {ss : List BA} {ws : List (Int × BA)} {g b p t : Int} {xs : List Int} {ms : List Mrk}
theorem cmP_bad (h : (diskB ss ws && superB g b p t xs ms) = false) : cmP ss ws g b p t xs ms = (([], []), 1) := by unfold cmP; rw [h]; rfl
theorem cmP_none (h : diskB ss ws = true) (h2 : superB g b p t xs ms = true) (hu : newU (rdU (readP ss ws 0)) (rdU (readP ss ws 1)) = none) : cmP ss ws g b p t xs ms = ((ss, ws), 19) := by unfold cmP; rw [h, h2, hu]; rfl
theorem cmP_full {u : U6} {s : Int} (h : diskB ss ws = true) (h2 : superB g b p t xs ms = true) (hu : newU (rdU (readP ss ws 0)) (rdU (readP ss ws 1)) = some (u, s)) (h9 : u.1 = 999999) : cmP ss ws g b p t xs ms = ((ss, ws), 7) := by
 unfold cmP; rw [h, h2, hu]; show (if u.1 = 999999 then _ else _) = _; rw [if_pos h9]
theorem cmP_yes {u : U6} {s : Int} (h : diskB ss ws = true) (h2 : superB g b p t xs ms = true) (hu : newU (rdU (readP ss ws 0)) (rdU (readP ss ws 1)) = some (u, s)) (h9 : u.1 ≠ 999999) : cmP ss ws g b p t xs ms = ((settleTo kpAll (settleTo kpAll ss ws ws.length) [(1 - s, nxtS u b p t xs ms)] 1, []), 0) := by
 unfold cmP; rw [h, h2, hu]; show (if u.1 = 999999 then _ else _) = _; rw [if_neg h9]
end
theorem specCommitSuper_c (A A2 : Option Addr) (n c n2 c2 B : Nat) (ss : List BA) (ws : List (Int × BA)) (g b p t : Int) (Ax Am : Option Addr) (cx cm : Nat) (xs : List Int) (ms : List Mrk) (w : World) (h : Strs w B A n ss) (h2 : Wrs w B A2 n2 ws) (hs : Ins w B Ax xs) (hmk : Mks w B Am ms) (hB : B ≤ w.heap.size) (hn : n ≤ 1048576) (hn2 : n2 ≤ 1048576) (hx : xs.length ≤ 1048576) (hms : ms.length ≤ 1048576) (hcx : xs.length ≤ cx) (hAm : AllM ms) :
 Calls Tryz.prog 15 #[.agg #[.slice A n c, .slice A2 n2 c2], .agg #[ii g, ii b, ii p, ii t, .slice Ax xs.length cx, .slice Am ms.length cm]] w (RetDiskCode w (cmP ss ws g b p t xs ms).1.1 (cmP ss ws g b p t xs ms).1.2 (cmP ss ws g b p t xs ms).2) := by
 have e0 : Box (((w.alloc (.cells #[.slice A n c, .slice A2 n2 c2] 35)).alloc (.cells #[ii g, ii b, ii p, ii t, .slice Ax xs.length cx, .slice Am ms.length cm] 26)).alloc (.cells #[nsl, nsl] 35)) w.heap.size 35 #[.slice A n c, .slice A2 n2 c2] := ((Box.new w _ _).alloc _).alloc _
 have b0 : Box (((w.alloc (.cells #[.slice A n c, .slice A2 n2 c2] 35)).alloc (.cells #[ii g, ii b, ii p, ii t, .slice Ax xs.length cx, .slice Am ms.length cm] 26)).alloc (.cells #[nsl, nsl] 35)) (w.heap.size + 1) 26 #[ii g, ii b, ii p, ii t, .slice Ax xs.length cx, .slice Am ms.length cm] := by have := (Box.new (w.alloc (.cells #[.slice A n c, .slice A2 n2 c2] 35)) 26 #[ii g, ii b, ii p, ii t, .slice Ax xs.length cx, .slice Am ms.length cm]).alloc (.cells #[nsl, nsl] 35); rwa [World.size_alloc] at this
 have r0 : Box (((w.alloc (.cells #[.slice A n c, .slice A2 n2 c2] 35)).alloc (.cells #[ii g, ii b, ii p, ii t, .slice Ax xs.length cx, .slice Am ms.length cm] 26)).alloc (.cells #[nsl, nsl] 35)) (w.heap.size + 1 + 1) 35 #[nsl, nsl] := by have := Box.new ((w.alloc (.cells #[.slice A n c, .slice A2 n2 c2] 35)).alloc (.cells #[ii g, ii b, ii p, ii t, .slice Ax xs.length cx, .slice Am ms.length cm] 26)) 35 #[nsl, nsl]; rwa [World.size_alloc, World.size_alloc] at this
 have hx0 := (((Nx.refl w).alloc (.cells #[.slice A n c, .slice A2 n2 c2] 35)).alloc (.cells #[ii g, ii b, ii p, ii t, .slice Ax xs.length cx, .slice Am ms.length cm] 26)).alloc (.cells #[nsl, nsl] 35)
 go_enter Tryz.func15, Tryz.ntmps15
 go_wp2_with fail
 generalize (((w.alloc (.cells #[.slice A n c, .slice A2 n2 c2] 35)).alloc (.cells #[ii g, ii b, ii p, ii t, .slice Ax xs.length cx, .slice Am ms.length cm] 26)).alloc (.cells #[nsl, nsl] 35)) = W at *
 obtain ⟨gS, HgS⟩ : ∃ g, Hid (w.heap.size + 1 = g) := ⟨_, rfl⟩
 obtain ⟨gD, HgD⟩ : ∃ g, Hid (w.heap.size + 1 + 1 = g) := ⟨_, rfl⟩
 have hgS : w.heap.size ≤ gS := by have := HgS.out; omega
 have hgD : w.heap.size ≤ gD := by have := HgD.out; omega
 have hneE : w.heap.size ≠ gD := by have := HgD.out; omega
 have hneE2 : w.heap.size ≠ gS := by have := HgS.out; omega
 have hneS : gS ≠ gD := by have := HgS.out; have := HgD.out; omega
 rw [HgD.out, HgS.out]
 rw [HgS.out] at b0
 rw [HgD.out] at r0
 refine (specDiskOK_c A A2 n c n2 c2 B ss ws _ (h.below hx0 hB) (h2.below hx0 hB) (ntr hB hx0.size) hn hn2).mono ?_
 rintro e w1 ⟨rfl, hnx1⟩
 have e1 := e0.nx hnx1
 have b1 := b0.nx hnx1
 have r1 := r0.nx hnx1
 have hx1 := hx0.trans hnx1
 clear e0 b0 r0 hx0 hnx1
 cases hD : diskB ss ws with
 | false =>
   have HPh := qh (cmP_bad (g := g) (b := b) (p := p) (t := t) (xs := xs) (ms := ms) (show (diskB ss ws && superB g b p t xs ms) = false by rw [hD]; rfl))
   clear hD
   have m0 := r1.c0
   have m1 := r1.c1
   have mf0 := r1.frozen 0
   have mf1 := r1.frozen 1
   have mlt := r1.lt
   go_wp2
   have rq := ((r1.set0 (nsl)).set1 (nsl))
   have hnf := ((hx1.setCell (p := ⟨gD, 0, none⟩) hgD (nsl)).setCell (p := ⟨gD, 1, none⟩) hgD (nsl))
   change bodyPost _ _ _ _ _ ((w1.setCell ⟨gD, 0, none⟩ (nsl)).setCell ⟨gD, 1, none⟩ (nsl))
   generalize ((w1.setCell ⟨gD, 0, none⟩ (nsl)).setCell ⟨gD, 1, none⟩ (nsl)) = Wf at *
   have q0 := rq.c0
   have q1 := rq.c1
   exact bodyPost_ret (v := .tuple #[.agg #[nsl, nsl], ii 1]) (by simp [results, Tryz.results15, go_sem, q0, q1]) rfl (RetDiskCode.zero HPh.out hnf)
 | true =>
   obtain ⟨y0, y1, y2, y3, y4, y5⟩ := b1.d6
   have HD := qh hD
   clear hD
   go_wp2_with fail
   refine (specSuperOK_c g b p t Ax Am cx cm B xs ms _ (hs.below hx1 hB) (hmk.below hx1 hB) (ntr hB hx1.size) hx hms hcx hAm).mono ?_
   rintro e w1b ⟨rfl, hnx1b⟩
   have e1b := e1.nx hnx1b
   have b1b := b1.nx hnx1b
   have r1b := r1.nx hnx1b
   have hx1b := hx1.trans hnx1b
   clear e1 b1 r1 hx1 hnx1b y0 y1 y2 y3 y4 y5
   cases hO : superB g b p t xs ms with
   | false =>
     have HPh := qh (cmP_bad (show (diskB ss ws && superB g b p t xs ms) = false by rw [hO]; simp))
     clear hO
     have m0 := r1b.c0
     have m1 := r1b.c1
     have mf0 := r1b.frozen 0
     have mf1 := r1b.frozen 1
     have mlt := r1b.lt
     go_wp2
     have rq := ((r1b.set0 (nsl)).set1 (nsl))
     have hnf := ((hx1b.setCell (p := ⟨gD, 0, none⟩) hgD (nsl)).setCell (p := ⟨gD, 1, none⟩) hgD (nsl))
     change bodyPost _ _ _ _ _ ((w1b.setCell ⟨gD, 0, none⟩ (nsl)).setCell ⟨gD, 1, none⟩ (nsl))
     generalize ((w1b.setCell ⟨gD, 0, none⟩ (nsl)).setCell ⟨gD, 1, none⟩ (nsl)) = Wf at *
     have q0 := rq.c0
     have q1 := rq.c1
     exact bodyPost_ret (v := .tuple #[.agg #[nsl, nsl], ii 1]) (by simp [results, Tryz.results15, go_sem, q0, q1]) rfl (RetDiskCode.zero HPh.out hnf)
   | true =>
   have HO := qh hO
   clear hO
   obtain rfl : n = 64 := by rw [← h.1]; exact (diskB_len64 HD.out).1
   have HL64 := qh (diskB_len64 HD.out).1
   have hn80 : n2 ≤ 80 := by rw [← h2.1]; exact (diskB_len64 HD.out).2.1
   have HWo := qh (diskB_len64 HD.out).2.2.2
   have z0 := e1b.c0
   have z1 := e1b.c1
   go_wp2_with fail
   refine (l04Newest_c A A2 64 c n2 c2 B ss ws _ (h.below hx1b hB) (h2.below hx1b hB) (ntr hB hx1b.size) (by omega) (by omega) (by omega) (by have := readP_size HD.out 0; omega) (by have := readP_size HD.out 1; omega)).mono ?_
   rintro e w2 ⟨hnx2, h1', h3⟩
   have e2 := e1b.nx hnx2
   have b2 := b1b.nx hnx2
   have r2 := r1b.nx hnx2
   have hx2 := hx1b.trans hnx2
   have zz0 := e2.c0
   have zz1 := e2.c1
   have zlt := e2.lt
   clear e1b b1b r1b hx1b hnx2 z0 z1
   cases hu : newU (rdU (readP ss ws 0)) (rdU (readP ss ws 1)) with
   | none =>
     obtain rfl := h1' hu
     have HPh := qh (cmP_none HD.out HO.out hu)
     clear h1' h3 hu
     go_wp2_with fail
     have e3 := e2.alloc (.cells #[ii 0, ii 0, ii 0, ii 0, nsl, nsl] 26)
     have r3 := r2.alloc (.cells #[ii 0, ii 0, ii 0, ii 0, nsl, nsl] 26)
     have hx3 := hx2.alloc (.cells #[ii 0, ii 0, ii 0, ii 0, nsl, nsl] 26)
     change Calls _ _ _ (w2.alloc (.cells #[ii 0, ii 0, ii 0, ii 0, nsl, nsl] 26)) _
     generalize w2.alloc (.cells #[ii 0, ii 0, ii 0, ii 0, nsl, nsl] 26) = w3 at *
     refine (l01Own_c A A2 64 c n2 c2 B ss ws _ (h.below hx3 hB) (h2.below hx3 hB) (ntr hB hx3.size) (by omega) (by omega)).mono ?_
     rintro e w4 ⟨A5, n5, c5, A6, n6, c6, rfl, hS5, hW5, hnx4⟩
     have hlt9 : gD < w3.heap.size := r3.lt
     have r4 := r3.nx hnx4
     have hx4 := hx3.trans hnx4
     have m0 := r4.c0
     have m1 := r4.c1
     have mf0 := r4.frozen 0
     have mf1 := r4.frozen 1
     have mlt := r4.lt
     go_wp2
     have rq := ((r4.set0 (.slice A5 n5 c5)).set1 (.slice A6 n6 c6))
     have hnf := ((hx4.setCell (p := ⟨gD, 0, none⟩) hgD (.slice A5 n5 c5)).setCell (p := ⟨gD, 1, none⟩) hgD (.slice A6 n6 c6))
     have hSf := ((hS5.far (p := ⟨gD, 0, none⟩) hlt9 (.slice A5 n5 c5)).far (p := ⟨gD, 1, none⟩) hlt9 (.slice A6 n6 c6))
     have hWf := ((hW5.far (p := ⟨gD, 0, none⟩) hlt9 (.slice A5 n5 c5)).far (p := ⟨gD, 1, none⟩) hlt9 (.slice A6 n6 c6))
     change bodyPost _ _ _ _ _ ((w4.setCell ⟨gD, 0, none⟩ (.slice A5 n5 c5)).setCell ⟨gD, 1, none⟩ (.slice A6 n6 c6))
     generalize ((w4.setCell ⟨gD, 0, none⟩ (.slice A5 n5 c5)).setCell ⟨gD, 1, none⟩ (.slice A6 n6 c6)) = Wf at *
     have q0 := rq.c0
     have q1 := rq.c1
     exact bodyPost_ret (v := .tuple #[.agg #[.slice A5 n5 c5, .slice A6 n6 c6], ii 19]) (by simp [results, Tryz.results15, go_sem, q0, q1]) rfl (RetDiskCode.mk HPh.out (hSf.low (by omega)) (hWf.low (by omega)) hnf)
   | some us =>
     obtain ⟨u, s⟩ := us
     have hsl := newU_slot hu
     have hgn := newU_gen rfl rfl hu
     obtain ⟨Bx, dx, Bm, dm, he, hfit⟩ := h3 u s hu
     have HU := qh hu
     clear h1' h3 hfit hu
     have hs0 : decide (s < 0) = false := decide_eq_false (by rcases hsl with rfl | rfl <;> omega)
     have HF0 : Hid ((readP (settleTo kpAll ss ws n2) [] 0).size ≤ 65536) := qh (by rw [← h2.1, readP_flush HD.out (by omega)]; have := readP_size HD.out 0; omega)
     have HF1 : Hid ((readP (settleTo kpAll ss ws n2) [] 1).size ≤ 65536) := qh (by rw [← h2.1, readP_flush HD.out (by omega)]; have := readP_size HD.out 1; omega)
     have HUF : Hid (newU (rdU (readP (settleTo kpAll ss ws n2) [] 0)) (rdU (readP (settleTo kpAll ss ws n2) [] 1)) = some (u, s)) := qh (by rw [← h2.1, readP_flush HD.out (by omega), readP_flush HD.out (by omega)]; exact HU.out)
     by_cases h9 : u.1 = 999999
     · have HPh := qh (cmP_full HD.out HO.out HU.out h9)
       obtain ⟨ug, ub, up, uq, uxs, ums⟩ := u
       have h9' : (ug == 999999) = true := beq_iff_eq.2 h9
       replace he : e = .returned (.tuple #[.agg #[ii ug, ii ub, ii up, ii uq, .slice Bx uxs.length dx, .slice Bm ums.length dm], ii s]) := he
       subst he
       clear h9
       go_wp2_with fail
       have e3 := e2.alloc (.cells #[ii ug, ii ub, ii up, ii uq, .slice Bx uxs.length dx, .slice Bm ums.length dm] 26)
       have r3 := r2.alloc (.cells #[ii ug, ii ub, ii up, ii uq, .slice Bx uxs.length dx, .slice Bm ums.length dm] 26)
       have hx3 := hx2.alloc (.cells #[ii ug, ii ub, ii up, ii uq, .slice Bx uxs.length dx, .slice Bm ums.length dm] 26)
       change Calls _ _ _ (w2.alloc (.cells #[ii ug, ii ub, ii up, ii uq, .slice Bx uxs.length dx, .slice Bm ums.length dm] 26)) _
       generalize w2.alloc (.cells #[ii ug, ii ub, ii up, ii uq, .slice Bx uxs.length dx, .slice Bm ums.length dm] 26) = w3 at *
       refine (l01Own_c A A2 64 c n2 c2 B ss ws _ (h.below hx3 hB) (h2.below hx3 hB) (ntr hB hx3.size) (by omega) (by omega)).mono ?_
       rintro e w4 ⟨A5, n5, c5, A6, n6, c6, rfl, hS5, hW5, hnx4⟩
       have hlt9 : gD < w3.heap.size := r3.lt
       have r4 := r3.nx hnx4
       have hx4 := hx3.trans hnx4
       have m0 := r4.c0
       have m1 := r4.c1
       have mf0 := r4.frozen 0
       have mf1 := r4.frozen 1
       have mlt := r4.lt
       go_wp2
       have rq := ((r4.set0 (.slice A5 n5 c5)).set1 (.slice A6 n6 c6))
       have hnf := ((hx4.setCell (p := ⟨gD, 0, none⟩) hgD (.slice A5 n5 c5)).setCell (p := ⟨gD, 1, none⟩) hgD (.slice A6 n6 c6))
       have hSf := ((hS5.far (p := ⟨gD, 0, none⟩) hlt9 (.slice A5 n5 c5)).far (p := ⟨gD, 1, none⟩) hlt9 (.slice A6 n6 c6))
       have hWf := ((hW5.far (p := ⟨gD, 0, none⟩) hlt9 (.slice A5 n5 c5)).far (p := ⟨gD, 1, none⟩) hlt9 (.slice A6 n6 c6))
       change bodyPost _ _ _ _ _ ((w4.setCell ⟨gD, 0, none⟩ (.slice A5 n5 c5)).setCell ⟨gD, 1, none⟩ (.slice A6 n6 c6))
       generalize ((w4.setCell ⟨gD, 0, none⟩ (.slice A5 n5 c5)).setCell ⟨gD, 1, none⟩ (.slice A6 n6 c6)) = Wf at *
       have q0 := rq.c0
       have q1 := rq.c1
       exact bodyPost_ret (v := .tuple #[.agg #[.slice A5 n5 c5, .slice A6 n6 c6], ii 7]) (by simp [results, Tryz.results15, go_sem, q0, q1]) rfl (RetDiskCode.mk HPh.out (hSf.low (by omega)) (hWf.low (by omega)) hnf)
     · have HPh := qh (cmP_yes HD.out HO.out HU.out h9)
       have HOK := qh (nxt_super HO.out hgn h9)
       have HWn : Hid (List.all ([] ++ [(1 - s, nxtS u b p t xs ms)]) wOk = true) := qh (by
        have hz := nxt_size HOK.out
        simp only [List.nil_append, List.all_cons, List.all_nil, Bool.and_true]
        unfold wOk secB sOk
        simp only [Bool.and_eq_true, decide_eq_true_eq]
        exact ⟨by rcases hsl with rfl | rfl <;> omega, hz⟩)
       obtain ⟨ug, ub, up, uq, uxs, ums⟩ := u
       have h9' : (ug == 999999) = false := beq_eq_false_iff_ne.2 h9
       replace he : e = .returned (.tuple #[.agg #[ii ug, ii ub, ii up, ii uq, .slice Bx uxs.length dx, .slice Bm ums.length dm], ii s]) := he
       subst he
       clear h9
       go_wp2_with fail
       have e3 := e2.alloc (.cells #[ii ug, ii ub, ii up, ii uq, .slice Bx uxs.length dx, .slice Bm ums.length dm] 26)
       have b3 := b2.alloc (.cells #[ii ug, ii ub, ii up, ii uq, .slice Bx uxs.length dx, .slice Bm ums.length dm] 26)
       have r3 := r2.alloc (.cells #[ii ug, ii ub, ii up, ii uq, .slice Bx uxs.length dx, .slice Bm ums.length dm] 26)
       have hx3 := hx2.alloc (.cells #[ii ug, ii ub, ii up, ii uq, .slice Bx uxs.length dx, .slice Bm ums.length dm] 26)
       change Code.wp _ _ _ _ (w2.alloc (.cells #[ii ug, ii ub, ii up, ii uq, .slice Bx uxs.length dx, .slice Bm ums.length dm] 26))
       generalize w2.alloc (.cells #[ii ug, ii ub, ii up, ii uq, .slice Bx uxs.length dx, .slice Bm ums.length dm] 26) = w3 at *
       refine wp_planA (.t 0 (.t 2 (.c 1 (.c 3 (.c 4 (.c 5 (.t 6 .e))))))) (fun w' => (w'.cell? ⟨w.heap.size, 0, none⟩ = some (.slice A 64 c) ∧ w'.cell? ⟨w.heap.size, 1, none⟩ = some (.slice A2 n2 c2)) ∧ (w'.cell? ⟨gS, 0, none⟩ = some (ii g) ∧ w'.cell? ⟨gS, 1, none⟩ = some (ii b) ∧ w'.cell? ⟨gS, 2, none⟩ = some (ii p) ∧ w'.cell? ⟨gS, 3, none⟩ = some (ii t) ∧ w'.cell? ⟨gS, 4, none⟩ = some (.slice Ax xs.length cx) ∧ w'.cell? ⟨gS, 5, none⟩ = some (.slice Am ms.length cm))) (by exact ⟨⟨e3.c0, e3.c1⟩, b3.d6⟩) ?_
       simp only [psOf, List.getD_cons_zero, List.getD_cons_succ]
       repeat ((first | refine HP.tk ?_ | refine HP.sk ?_); try simp only [Act.put, qqA, qqB, qqC])
       refine hPc fun K hK => ?_
       go_simp
       refine (l01Flush_c A A2 c n2 c2 B ss ws _ (h.below hx3.drew hB) (h2.below hx3.drew hB) (ntr hB hx3.drew.size) (by omega) HWo.out).mono ?_; rintro e w4 ⟨A5, n5, c5, A6, n6, c6, rfl, hS5, hW5, hnx4⟩; obtain rfl : n5 = 64 := (by rw [← hS5.1, settleTo_len]; exact HL64.out); obtain rfl : n6 = 0 := hW5.1.symm; have e4 := e3.nx (Nx.drew_r hnx4); have b4 := b3.nx (Nx.drew_r hnx4); have r4 := r3.nx (Nx.drew_r hnx4); have hx4 := hx3.trans (Nx.drew_r hnx4)
       go_wp2_with fail
       refine hK.out _ _ (by exact ⟨⟨e4.c0, e4.c1⟩, b4.d6⟩) ?_
       clear hK K
       try simp only [Act.put, qqA, qqB, qqC]
       refine hPc fun K hK => ?_
       go_simp
       refine (l04Put_c A5 A6 64 c5 0 c6 _ _ [] g b p t Ax Am cx cm xs ms _ hS5.strs hW5.wrs ((hs.below hx4 hB).more (ntr hB hx4.size)) ((hmk.below hx4 hB).more (ntr hB hx4.size)) nle (by omega) (by omega) (by omega) HF0.out HF1.out _ _ HUF.out HOK.out).mono ?_; rintro e w5 ⟨A7, n7, c7, rfl, hW7, hnx5⟩; obtain rfl : n7 = 1 := hW7.1.symm; have hS7 := hS5.nx hnx5; have e5 := e4.nx hnx5; have b5 := b4.nx hnx5; have r5 := r4.nx hnx5; have hx5 := hx4.trans hnx5
       go_wp2_with fail
       refine hK.out _ _ (by exact ⟨⟨e5.c0, e5.c1⟩, b5.d6⟩) ?_
       clear hK K
       try simp only [Act.put, qqA, qqB, qqC]
       refine hPc fun K hK => ?_
       go_simp
       refine (l01Flush_c A5 A7 c5 1 c7 _ _ _ _ hS7.strs hW7.wrs nle (by omega) HWn.out).mono ?_; rintro e w6 ⟨A8, n8, c8, A9, n9, c9, rfl, hS8, hW8, hnx6⟩; have hlt9 : gD < w5.heap.size := r5.lt; have e6 := e5.nx hnx6; have b6 := b5.nx hnx6; have r6 := r5.nx hnx6; have hx6 := hx5.trans hnx6; have m0 := r6.c0; have m1 := r6.c1; have mf0 := r6.frozen 0; have mf1 := r6.frozen 1; have mlt := r6.lt
       go_wp2_with fail
       refine hK.out _ _ (by exact ⟨⟨e6.c0, e6.c1⟩, b6.d6⟩) ?_
       clear hK K
       try simp only [Act.put, qqA, qqB, qqC]
       refine hPc fun K hK => ?_
       go_simp
       refine hK.out _ _ (by exact ⟨⟨((e6.far (p := ⟨gD, 0, none⟩) hneE _).far (p := ⟨gD, 1, none⟩) hneE _).c0, ((e6.far (p := ⟨gD, 0, none⟩) hneE _).far (p := ⟨gD, 1, none⟩) hneE _).c1⟩, ((b6.far (p := ⟨gD, 0, none⟩) hneS _).far (p := ⟨gD, 1, none⟩) hneS _).d6⟩) ?_
       clear hK K
       try simp only [Act.put, qqA, qqB, qqC]
       repeat ((first | refine HP.tk ?_ | refine HP.sk ?_); try simp only [Act.put, qqA, qqB, qqC])
       refine HP.done ?_
       clear m0 m1 mf0 mf1
       go_wp2
       have rq := ((r6.set0 (.slice A8 n8 c8)).set1 (.slice A9 n9 c9))
       have hnf := ((hx6.setCell (p := ⟨gD, 0, none⟩) hgD (.slice A8 n8 c8)).setCell (p := ⟨gD, 1, none⟩) hgD (.slice A9 n9 c9))
       have hSf := ((hS8.far (p := ⟨gD, 0, none⟩) hlt9 (.slice A8 n8 c8)).far (p := ⟨gD, 1, none⟩) hlt9 (.slice A9 n9 c9))
       have hWf := ((hW8.far (p := ⟨gD, 0, none⟩) hlt9 (.slice A8 n8 c8)).far (p := ⟨gD, 1, none⟩) hlt9 (.slice A9 n9 c9))
       change bodyPost _ _ _ _ _ ((w6.setCell ⟨gD, 0, none⟩ (.slice A8 n8 c8)).setCell ⟨gD, 1, none⟩ (.slice A9 n9 c9))
       generalize ((w6.setCell ⟨gD, 0, none⟩ (.slice A8 n8 c8)).setCell ⟨gD, 1, none⟩ (.slice A9 n9 c9)) = Wf at *
       have q0 := rq.c0
       have q1 := rq.c1
       exact bodyPost_ret (v := .tuple #[.agg #[.slice A8 n8 c8, .slice A9 n9 c9], ii 0]) (by simp [results, Tryz.results15, go_sem, q0, q1]) rfl (RetDiskCode.mk (HPh.out.trans (by rw [h2.1]; rfl)) (hSf.low (by omega)) (hWf.low (by omega)) hnf)
def lowB (t : BA) : Prop := t.data.toList.length < 2 ∨ t.data.toList[0]? = some 48 ∨ t.data.toList[1]? = some 48
def low2 (t : BA) : Prop := t.data.toList = [] ∨ (t.data.toList[0]? = some 48 ∧ t.data.toList[1]? = some 48)
def Bnt (t t' : BA) : Prop := (∃ k c, t'.data.toList = t.data.toList.set k c) ∨ ∃ m, t'.data.toList = t.data.toList.take m
theorem low2.low {t : BA} (h : low2 t) : lowB t := h.elim (fun h => .inl (by rw [h]; decide)) fun h => .inr (.inl h.1)
theorem low2.bent {t t' : BA} (h : low2 t) (hb : Bnt t t') : lowB t' := by
 rcases hb with ⟨k, c, e⟩ | ⟨m, e⟩
 · rcases h with h | ⟨h0, h1⟩
   · left; rw [e, h]; simp
   · right
     rw [e]
     by_cases hk : k = 0
     · right; subst hk; rw [List.getElem?_set_ne (by omega)]; exact h1
     · left; rw [List.getElem?_set_ne hk]; exact h0
 · rcases h with h | ⟨h0, h1⟩
   · left; rw [e, h]; simp
   · by_cases hm : m < 2
     · left; rw [e, List.length_take]; omega
     · right; left; rw [e, List.getElem?_take_of_lt (by omega)]; exact h0
theorem Bnt.size {t t' : BA} (h : Bnt t t') : t'.size ≤ t.size := by
 rw [ba_size, ba_size]
 rcases h with ⟨k, c, e⟩ | ⟨m, e⟩
 · rw [e, List.length_set]; exact Nat.le_refl _
 · rw [e, List.length_take]; omega
theorem val6_low {d0 d1 d2 d3 d4 d5 : UInt8} (h : digL [d0, d1, d2, d3, d4, d5] = true) (h2 : d0 = 48 ∨ d1 = 48) : valL [d0, d1, d2, d3, d4, d5] ≠ 999999 := by
 unfold digL digC digI at h
 simp only [List.all_cons, List.all_nil, Bool.and_true, Bool.and_eq_true, decide_eq_true_eq] at h
 have e : valL [d0, d1, d2, d3, d4, d5] = 10 * (10 * (10 * (10 * (10 * (10 * 0 + (d0.toNat - 48)) + (d1.toNat - 48)) + (d2.toNat - 48)) + (d3.toNat - 48)) + (d4.toNat - 48)) + (d5.toNat - 48) := rfl
 rw [e]
 have k : ∀ d : UInt8, d = 48 → d.toNat = 48 := fun d hd => by rw [hd]; rfl
 rcases h2 with h2 | h2
 · have := k _ h2; omega
 · have := k _ h2; omega
theorem body_at {t : BA} {i : Nat} (h : i < (bodyOf t).data.toList.length) : (bodyOf t).data.toList[i]? = t.data.toList[i]? := by
 unfold bodyOf at h ⊢
 rw [Lib.extract_data] at h ⊢
 rw [List.length_take] at h
 rw [List.getElem?_take_of_lt (by omega), List.drop_zero]
theorem low_gen {t : BA} {u : U6} (h : lowB t) (e : rdU t = some u) : u.1 ≠ 999999 := by
 cases ho : opensB t with
 | false => rw [rdU_shut ho] at e; cases e
 | true =>
   rcases part_at 124 (bodyOf t).data.toList with h1 | ⟨a, b, h1, ea⟩
   · rw [rdU_miss h1] at e; cases e
   · rw [rdU_hit ho h1 ea] at e
     unfold partU at e
     cases hn : numsO a with
     | none => rw [hn] at e; cases e
     | some ns =>
       rw [hn, Option.bind_some] at e
       split at e
       · rename_i hl
         cases hm : marksO b with
         | none => rw [hm] at e; cases e
         | some ms =>
           rw [hm, Option.bind_some] at e
           have hu : u.1 = ((ns.getD 0 0 : Nat) : Int) := by
            unfold supOf at e
            split at e
            · injection e with e; rw [← e]
            · cases e
           unfold numsO at hn
           split at hn
           · rename_i hc
             injection hn with hn
             have hla : 24 ≤ a.length := by rw [← hn, numsOf_len] at hl; omega
             have h0 : ns.getD 0 0 = valL (chunk a 0) := by
              rw [← hn]
              unfold numsOf
              have : 0 < a.length / 6 := by omega
              rw [gdE, List.getElem?_map, List.getElem?_range this]; rfl
             have hb : ∀ i, i < 2 → t.data.toList[i]? = a[i]? := fun i hi => by
              rw [← body_at (by rw [ea, List.length_append]; omega), ea, List.getElem?_append_left (by omega)]
             have hlt : 2 ≤ t.data.toList.length := by
              rcases Nat.lt_or_ge t.data.toList.length 2 with h2 | h2
              · have := hb 1 (by omega)
                rw [List.getElem?_eq_none (by omega), List.getElem?_eq_getElem (by omega)] at this
                cases this
              · exact h2
             have hlow : a[0]? = some 48 ∨ a[1]? = some 48 := by
              rcases h with h | h | h
              · omega
              · left; rw [← hb 0 (by omega)]; exact h
              · right; rw [← hb 1 (by omega)]; exact h
             rw [hu, h0]
             have hd := chunk_all hc.2 0
             match a, hla, hlow, hd with
             | d0 :: d1 :: d2 :: d3 :: d4 :: d5 :: r, _, hlow, hd =>
               have ec : chunk (d0 :: d1 :: d2 :: d3 :: d4 :: d5 :: r) 0 = [d0, d1, d2, d3, d4, d5] := rfl
               rw [ec] at hd ⊢
               have := val6_low hd (hlow.imp (fun h => by simpa using h) fun h => by simpa using h)
               omega
           · cases hn
       · cases e
theorem newU_low {t0 t1 : BA} {u : U6} {s : Int} (h0 : lowB t0) (h1 : lowB t1) (h : newU (rdU t0) (rdU t1) = some (u, s)) : u.1 ≠ 999999 := by
 rcases newU_at h with ⟨_, e⟩ | ⟨_, e⟩
 · exact low_gen h0 e
 · exact low_gen h1 e
theorem newU_next {ss : List BA} {u : U6} {s b p t : Int} {xs : List Int} {ms : List Mrk} (hl : ss.length = 64) (hu : newU (rdU (readP ss [] 0)) (rdU (readP ss [] 1)) = some (u, s)) (hok : superB (u.1 + 1) b p t xs ms = true) :
 newU (rdU (readP (ss.set (1 - s).toNat (nxtS u b p t xs ms)) [] 0)) (rdU (readP (ss.set (1 - s).toNat (nxtS u b p t xs ms)) [] 1)) = some ((u.1 + 1, b, p, t, xs, ms), 1 - s) := by
 have hb : rdU (nxtS u b p t xs ms) = some (u.1 + 1, b, p, t, xs, ms) := rdU_back hok
 have hr : ∀ a o : Nat, o < 64 → readP (ss.set o (nxtS u b p t xs ms)) [] a = if a = o then nxtS u b p t xs ms else readP ss [] a := fun a o ho => by
  rw [readP_nil, readP_nil, getD_setB _ _ _ _ (by rw [hl]; exact ho)]
 rcases newU_at hu with ⟨hs, he⟩ | ⟨hs, he⟩
 · subst hs
   rw [show ((1 : Int) - 0).toNat = 1 from rfl, hr 0 1 (by omega), hr 1 1 (by omega), if_neg (by decide), if_pos rfl, he, hb]
   show (if u.1 < u.1 + 1 then _ else _) = _
   rw [if_pos (by omega)]; rfl
 · subst hs
   rw [show ((1 : Int) - 1).toNat = 0 from rfl, hr 0 0 (by omega), hr 1 0 (by omega), if_pos rfl, if_neg (by decide), he, hb]
   show (if u.1 + 1 < u.1 then _ else _) = _
   rw [if_neg (by omega)]; rfl
theorem pad6_low {n : Nat} (h : n ≤ 99) : (pad 6 n)[0]? = some 48 ∧ (pad 6 n)[1]? = some 48 := by
 refine ⟨?_, ?_⟩
 · rw [pad_get 6 n 0 (by omega)]; unfold padAt; rw [show n / 10 ^ (6 - 1 - 0) % 10 = 0 by omega]; rfl
 · rw [pad_get 6 n 1 (by omega)]; unfold padAt; rw [show n / 10 ^ (6 - 1 - 1) % 10 = 0 by omega]; rfl
theorem supT_low {g b p t : Int} {xs : List Int} {ms : List Mrk} (h0 : 0 ≤ g) (h : g ≤ 50) : low2 (supT g b p t xs ms) := by
 right
 have e : ∃ r, (supT g b p t xs ms).data.toList = pad 6 g.toNat ++ r := by
  unfold supT sealS numsS supN supL
  simp only [ByteArray.data_append, Array.toList_append, padAll, List.append_assoc]
  exact ⟨_, rfl⟩
 obtain ⟨r, e⟩ := e
 have hp := pad6_low (n := g.toNat) (by omega)
 rw [e, List.getElem?_append_left (by rw [pad_len]; omega), List.getElem?_append_left (by rw [pad_len]; omega)]
 exact hp
end Go.Proofs.YtieoiailjjnnoaaGreatDoor
