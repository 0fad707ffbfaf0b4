/-
  Texts of the proof, in their order.
  Conditions: those of each.
-/
import Derived.Test.YtieoiailjjnnoaaGreatDoorMa7
import Derived.Deep.AppendLies
import Derived.Shelf.Strings.OnBuilder
import Derived.Shelf.Strconv.Itoa3
import Derived.Shelf.LaysM
import Derived.Test.YtieoiailjjnnoaaGreatDoorProg
import Derived.Lib.AppendIntMem
import Derived.Outline
import Derived.Deep.RegionHeld3
import Derived.StillTailTactics
namespace Go.Proofs.YtieoiailjjnnoaaGreatDoor
set_option linter.unusedVariables false
open _root_.Go.Proofs.Tryz
set_option maxRecDepth 100000
set_option maxHeartbeats 16000000
section
open Go.RowKit
def gR (q : G4) : SgR := ⟨q.1, q.2.1, q.2.2.1, none, 0, q.2.2.2⟩
def ldG (ss : List BA) (ws : List (Int × BA)) (x : Int) : Option G4 := rdG (readP ss ws x.toNat)
def ldS (ss : List BA) (ws : List (Int × BA)) (x : Int) : SgR := ((ldG ss ws x).map gR).getD sgZ
def oneN : Option (List Nat) -> Option Int
 | some [x] => some (x : Int)
 | _ => none
def ldI (ss : List BA) (ws : List (Int × BA)) (j : Nat) : Option Int := oneN (rdN (readP ss ws (2 + j)))
def ldX (ss : List BA) (ws : List (Int × BA)) (j : Nat) : Int := (ldI ss ws j).getD 0
def zVl : Vl := ⟨0, 0, 0, 0, none, 0, [], none, 0, [], none, 0, [], none, 0, []⟩
def vlU (u : U6) (gs : List SgR) (im : List Int) : Vl := ⟨u.1, u.2.1, u.2.2.1, u.2.2.2.1, none, 0, u.2.2.2.2.1, none, 0, u.2.2.2.2.2, none, 0, gs, none, 0, im⟩
def ldOk (ss : List BA) (ws : List (Int × BA)) (u : U6) : Bool := (u.2.2.2.2.1.all fun x => (ldG ss ws x).isSome) && (List.range 8).all fun j => (ldI ss ws j).isSome
def ldW (ss : List BA) (ws : List (Int × BA)) (u : U6) : Vl := vlU u (u.2.2.2.2.1.map (ldS ss ws)) ((List.range 8).map (ldX ss ws))
def ldV (ss : List BA) (ws : List (Int × BA)) : Vl × Int :=
 match newU (rdU (readP ss ws 0)) (rdU (readP ss ws 1)) with
 | none => (zVl, 19)
 | some (u, _) => if ldOk ss ws u && (ldW ss ws u).ok then (ldW ss ws u, 0) else (zVl, 10)
def ldA (ss : List BA) (ws : List (Int × BA)) : Vl × Int := if diskB ss ws then ldV ss ws else (zVl, 1)
theorem ldA_bad {ss : List BA} {ws : List (Int × BA)} (h : diskB ss ws = false) : ldA ss ws = (zVl, 1) := by unfold ldA; rw [h]; rfl
theorem ldA_yes {ss : List BA} {ws : List (Int × BA)} (h : diskB ss ws = true) : ldA ss ws = ldV ss ws := by unfold ldA; rw [h]; rfl
theorem ldV_none {ss : List BA} {ws : List (Int × BA)} (h : newU (rdU (readP ss ws 0)) (rdU (readP ss ws 1)) = none) : ldV ss ws = (zVl, 19) := by unfold ldV; rw [h]
theorem ldV_some {ss : List BA} {ws : List (Int × BA)} {u : U6} {s : Int} (h : newU (rdU (readP ss ws 0)) (rdU (readP ss ws 1)) = some (u, s)) :
 ldV ss ws = if ldOk ss ws u && (ldW ss ws u).ok then (ldW ss ws u, 0) else (zVl, 10) := by unfold ldV; rw [h]
theorem ldV_seg {ss : List BA} {ws : List (Int × BA)} {u : U6} {s : Int} {k : Nat} (h : newU (rdU (readP ss ws 0)) (rdU (readP ss ws 1)) = some (u, s)) (hk : k < u.2.2.2.2.1.length) (hg : ldG ss ws (u.2.2.2.2.1.getD k 0) = none) : ldV ss ws = (zVl, 10) := by
 rw [ldV_some h]
 have : (u.2.2.2.2.1.all fun x => (ldG ss ws x).isSome) = false := List.all_eq_false.2 ⟨u.2.2.2.2.1.getD k 0, by rw [gdE, List.getElem?_eq_getElem hk]; exact List.getElem_mem hk, by rw [hg]; simp⟩
 unfold ldOk; rw [this]; rfl
theorem ldV_img {ss : List BA} {ws : List (Int × BA)} {u : U6} {s : Int} {j : Nat} (h : newU (rdU (readP ss ws 0)) (rdU (readP ss ws 1)) = some (u, s)) (hj : j < 8) (hg : ldI ss ws j = none) : ldV ss ws = (zVl, 10) := by
 rw [ldV_some h]
 have : ((List.range 8).all fun j => (ldI ss ws j).isSome) = false := List.all_eq_false.2 ⟨j, by simpa using hj, by rw [hg]; simp⟩
 unfold ldOk; rw [this]; simp
theorem ldV_wrong {ss : List BA} {ws : List (Int × BA)} {u : U6} {s : Int} (h : newU (rdU (readP ss ws 0)) (rdU (readP ss ws 1)) = some (u, s)) (hv : (ldW ss ws u).ok = false) : ldV ss ws = (zVl, 10) := by
 rw [ldV_some h, hv]; simp
theorem ldV_yes {ss : List BA} {ws : List (Int × BA)} {u : U6} {s : Int} (h : newU (rdU (readP ss ws 0)) (rdU (readP ss ws 1)) = some (u, s)) (ho : ldOk ss ws u = true) (hv : (ldW ss ws u).ok = true) : ldV ss ws = (ldW ss ws u, 0) := by
 rw [ldV_some h, ho, hv]; rfl
structure GsTo (ss : List BA) (ws : List (Int × BA)) (xs : List Int) (k : Nat) (gs : List SgR) : Prop where
 len : gs.length = k
 ok : ∀ j, j < k -> (ldG ss ws (xs.getD j 0)).isSome = true
 v : gs.map SgR.v = (xs.take k).map fun x => (ldS ss ws x).v
theorem GsTo.nil (ss : List BA) (ws : List (Int × BA)) (xs : List Int) : GsTo ss ws xs 0 [] := ⟨rfl, fun j h => absurd h oM, rfl⟩
theorem GsTo.snoc {ss : List BA} {ws : List (Int × BA)} {xs : List Int} {k : Nat} {gs : List SgR} {q : G4} (h : GsTo ss ws xs k gs) (hk : k < xs.length) (hq : ldG ss ws (xs.getD k 0) = some q) (A : Option Addr) (c : Nat) :
 GsTo ss ws xs (k + 1) (gs ++ [⟨q.1, q.2.1, q.2.2.1, A, c, q.2.2.2⟩]) := by
 refine ⟨by rw [List.length_append, h.len]; rfl, fun j hj => ?_, ?_⟩
 . rcases Nat.lt_or_ge j k with hl | hl
   . exact h.ok j hl
   . obtain rfl : j = k := oM
     rw [hq]; rfl
 . have e : xs[k] = xs.getD k 0 := by rw [gdE, List.getElem?_eq_getElem hk]; rfl
   rw [List.map_append, h.v, List.take_succ_eq_append_getElem hk, List.map_append]
   congr 1
   show [_] = [_]
   congr 1
   show _ = (ldS ss ws xs[k]).v
   unfold ldS
   rw [e, hq]; rfl
structure ImTo (ss : List BA) (ws : List (Int × BA)) (k : Nat) (im : List Int) : Prop where
 eq : im = (List.range k).map (ldX ss ws)
 ok : ∀ j, j < k -> (ldI ss ws j).isSome = true
theorem ImTo.nil (ss : List BA) (ws : List (Int × BA)) : ImTo ss ws 0 [] := ⟨rfl, fun j h => absurd h oM⟩
theorem ImTo.len {ss : List BA} {ws : List (Int × BA)} {k : Nat} {im : List Int} (h : ImTo ss ws k im) : im.length = k := by rw [h.eq]; simp
theorem ImTo.snoc {ss : List BA} {ws : List (Int × BA)} {k : Nat} {im : List Int} {x : Int} (h : ImTo ss ws k im) (hx : ldI ss ws k = some x) : ImTo ss ws (k + 1) (im ++ [x]) := by
 refine ⟨?_, fun j hj => ?_⟩
 . rw [List.range_succ, List.map_append, h.eq]
   congr 1
   show [x] = [ldX ss ws k]
   unfold ldX; rw [hx]; rfl
 . rcases Nat.lt_or_ge j k with hl | hl
   . exact h.ok j hl
   . obtain rfl : j = k := oM
     rw [hx]; rfl
theorem ldOk_of {ss : List BA} {ws : List (Int × BA)} {u : U6} {gs : List SgR} {im : List Int} (h : GsTo ss ws u.2.2.2.2.1 u.2.2.2.2.1.length gs) (h2 : ImTo ss ws 8 im) : ldOk ss ws u = true := by
 unfold ldOk
 rw [Bool.and_eq_true]
 refine ⟨List.all_eq_true.2 fun x hx => ?_, List.all_eq_true.2 fun j hj => h2.ok j (by simpa using hj)⟩
 obtain ⟨j, hj, e⟩ := List.getElem_of_mem hx
 have := h.ok j hj
 rw [gdE, List.getElem?_eq_getElem hj] at this
 simpa [e] using this
theorem ldW_s {ss : List BA} {ws : List (Int × BA)} {g b p t : Int} {xs : List Int} {ms : List Mrk} {gs : List SgR} {im : List Int} (h : GsTo ss ws xs xs.length gs) (h2 : ImTo ss ws 8 im) (A : Option Addr) (c : Nat) (A2 : Option Addr) (c2 : Nat) (A3 : Option Addr) (c3 : Nat) (A4 : Option Addr) (c4 : Nat) :
 VlS (ldW ss ws (g, b, p, t, xs, ms)) ⟨g, b, p, t, A, c, xs, A2, c2, ms, A3, c3, gs, A4, c4, im⟩ :=
 ⟨rfl, rfl, rfl, rfl, rfl, rfl, by
  show gs.map SgR.v = (xs.map (ldS ss ws)).map SgR.v
  rw [h.v, List.take_length, List.map_map]; rfl, h2.eq⟩
theorem rdN_le {t : BA} {ns : List Nat} (h : rdN t = some ns) : ns.length <= t.size := by
 unfold rdN at h
 cases ho : opensB t with
 | false => rw [ho] at h; cases h
 | true =>
   rw [ho] at h
   unfold numsO at h
   by_cases hc : (bodyOf t).data.toList.length % 6 = 0 /\ digL (bodyOf t).data.toList = true
   . simp only [if_true, if_pos hc] at h
     injection h with h
     subst h
     rw [numsOf_len, <- ba_size]
     have := bodyOf_size t
     omega
   . simp only [if_true, if_neg hc] at h; cases h
theorem rdG_short {t : BA} {q : G4} (h : rdG t = some q) : q.2.2.2.length <= t.size := by
 unfold rdG at h
 cases hr : rdN t with
 | none => rw [hr] at h; cases h
 | some ns =>
   rw [hr] at h
   have h2 : (if (okLen ns && g4B (sgOf ns)) = true then some (sgOf ns) else none) = some q := h
   have hn := rdN_le hr
   split at h2
   . injection h2 with h2
     subst h2
     show (chOf ns (ns.length / 3 - 1)).length <= _
     rw [chOf_len]; omega
   . cases h2
def Dj (gs : List SgR) : Prop := ∀ i j, i < gs.length -> j < gs.length -> i ≠ j -> 0 < (gs.getD i sgZ).cs.length -> 0 < (gs.getD j sgZ).cs.length -> (gs.getD i sgZ).A ≠ (gs.getD j sgZ).A
theorem Dj.nil : Dj [] := fun i j h => absurd h (by simp)
theorem Dj.snoc {w : World} {lo : Nat} {gs : List SgR} {g : SgR} {w' : World} (h : Dj gs) (hc : ∀ k, k < gs.length -> Sl w lo (gs.getD k sgZ).A 192 ((gs.getD k sgZ).cs.length * 3) (chAt (gs.getD k sgZ).cs)) (hg : Sl w' w.heap.size g.A 192 (g.cs.length * 3) (chAt g.cs)) : Dj (gs ++ [g]) := by
 have key : ∀ i, i < gs.length -> 0 < (gs.getD i sgZ).cs.length -> 0 < g.cs.length -> (gs.getD i sgZ).A ≠ g.A := fun i hi h1 h2 e => by
  obtain ⟨b, e1, _, ho⟩ := hc i hi oM
  obtain ⟨b', e2, hl, _⟩ := hg oM
  have := ho.lt
  rw [e1, e2] at e
  injection e with e
  injection e with e _ _
  omega
 intro i j hi hj hne h1 h2
 rw [List.length_append] at hi hj
 simp only [List.length_cons, List.length_nil] at hi hj
 by_cases ei : i < gs.length
 . rw [getD_app_lt gs g ei] at h1 ⊢
   by_cases ej : j < gs.length
   . rw [getD_app_lt gs g ej] at h2 ⊢
     exact h i j ei ej hne h1 h2
   . obtain rfl : j = gs.length := oM
     rw [getD_app] at h2 ⊢
     exact key i ei h1 h2
 . obtain rfl : i = gs.length := oM
   rw [getD_app] at h1 ⊢
   by_cases ej : j < gs.length
   . rw [getD_app_lt gs g ej] at h2 ⊢
     exact fun e => key j ej h2 h1 e.symm
   . omega
structure VlP (w : World) (lo mid hi : Nat) (V : Vl) : Prop where
 tab : Sr w lo mid V.A 3 V.xs.length (inAt V.xs)
 mks : Sr w lo mid V.A2 136 (V.ms.length * 2) (mrAt V.ms)
 row : Sr w mid hi V.A3 122 (V.gs.length * 4) (sgAt V.gs)
 chs : ∀ k, k < V.gs.length -> Sr w mid hi (V.gs.getD k sgZ).A 192 ((V.gs.getD k sgZ).cs.length * 3) (chAt (V.gs.getD k sgZ).cs)
 img : Sr w mid hi V.A4 3 V.im.length (inAt V.im)
 dj : Dj V.gs
 cap : V.xs.length <= V.c
 cap3 : V.gs.length <= V.c3
 le : lo <= mid
 le2 : mid <= hi
theorem VlP.nx {w w' : World} {lo mid hi : Nat} {V : Vl} (h : VlP w lo mid hi V) (hb : Nx w w') : VlP w' lo mid hi V := ⟨h.tab.nx hb, h.mks.nx hb, h.row.nx hb, fun k hk => (h.chs k hk).nx hb, h.img.nx hb, h.dj, h.cap, h.cap3, h.le, h.le2⟩
theorem Sr.low {w : World} {lo lo' hi m : Nat} {A : Option Addr} {t : TypeId} {f : Nat -> Value} (h : Sr w lo hi A t m f) (hl : lo' <= lo) : Sr w lo' hi A t m f := fun hm => by
 obtain ⟨g, e, h1, h2, ho⟩ := h hm; exact ⟨g, e, oM, h2, ho⟩
theorem Sr.up {w : World} {lo hi hi' m : Nat} {A : Option Addr} {t : TypeId} {f : Nat -> Value} (h : Sr w lo hi A t m f) (hl : hi <= hi') : Sr w lo hi' A t m f := fun hm => by
 obtain ⟨g, e, h1, h2, ho⟩ := h hm; exact ⟨g, e, h1, oM, ho⟩
theorem VlP.own {w : World} {lo mid hi : Nat} {V : Vl} (h : VlP w lo mid hi V) : VlO w lo V :=
 ⟨h.tab.sl, h.mks.sl, ⟨(h.row.low h.le).sl, fun k hk => ((h.chs k hk).low h.le).sl⟩, (h.img.low h.le).sl, h.cap, h.cap3⟩
theorem VlP.low {w : World} {lo lo' mid hi : Nat} {V : Vl} (h : VlP w lo mid hi V) (hl : lo' <= lo) : VlP w lo' mid hi V := ⟨h.tab.low hl, h.mks.low hl, h.row, h.chs, h.img, h.dj, h.cap, h.cap3, by have := h.le; omega, h.le2⟩
theorem VlP.up {w : World} {lo mid hi hi' : Nat} {V : Vl} (h : VlP w lo mid hi V) (hl : hi <= hi') : VlP w lo mid hi' V := ⟨h.tab, h.mks, h.row.up hl, fun k hk => (h.chs k hk).up hl, h.img.up hl, h.dj, h.cap, h.cap3, h.le, by have := h.le2; omega⟩
theorem VlP.zero (w : World) {lo hi : Nat} (h : lo <= hi) : VlP w lo lo hi zVl := ⟨fun h => absurd h (by simp [zVl]), fun h => absurd h (by simp [zVl]), fun h => absurd h (by simp [zVl]), fun k h => absurd h (by simp [zVl]), fun h => absurd h (by simp [zVl]), Dj.nil, Nat.le_refl _, Nat.le_refl _, Nat.le_refl _, h⟩
def RetLd (w : World) (y : Vl × Int) (e : Ending) (w' : World) : Prop :=
 ∃ V' mid, e = .returned (.tuple #[V'.v, ii y.2]) /\ VlS y.1 V' /\ VlP w' w.heap.size mid w'.heap.size V' /\ Nx w w'
theorem VlS.refl (V : Vl) : VlS V V := ⟨rfl, rfl, rfl, rfl, rfl, rfl, rfl, rfl⟩
theorem ldV_size {ss : List BA} {ws : List (Int × BA)} (hD : diskB ss ws = true) : (ldV ss ws).1 = zVl \/ (VltY (ldV ss ws).1.g (ldV ss ws).1.b (ldV ss ws).1.p (ldV ss ws).1.t (ldV ss ws).1.xs (ldV ss ws).1.ms (ldV ss ws).1.gs (ldV ss ws).1.im /\ (ldV ss ws).2 = 0 /\ ∀ k, k < (ldV ss ws).1.gs.length -> ((ldV ss ws).1.gs.getD k sgZ).cs.length <= 300) := by
 cases hu : newU (rdU (readP ss ws 0)) (rdU (readP ss ws 1)) with
 | none => rw [ldV_none hu]; exact .inl rfl
 | some us =>
   obtain ⟨u, s⟩ := us
   rw [ldV_some hu]
   split
   . rename_i hc
     rw [Bool.and_eq_true] at hc
     refine .inr ⟨vltB_yes hc.2, rfl, fun k hk => ?_⟩
     have hl : (ldW ss ws u).gs.length = u.2.2.2.2.1.length := by simp [ldW, vlU]
     have hk' : k < u.2.2.2.2.1.length := by rw [<- hl]; exact hk
     have e : (ldW ss ws u).gs.getD k sgZ = ldS ss ws u.2.2.2.2.1[k] := by
      show (u.2.2.2.2.1.map (ldS ss ws)).getD k sgZ = _
      rw [gdE, List.getElem?_map, List.getElem?_eq_getElem hk']; rfl
     show ((ldW ss ws u).gs.getD k sgZ).cs.length <= 300
     rw [e]
     unfold ldS
     cases hg : ldG ss ws u.2.2.2.2.1[k] with
     | none => exact Nat.zero_le _
     | some q =>
       have h1 := rdG_short hg
       have h2 := readP_size hD u.2.2.2.2.1[k].toNat
       show q.2.2.2.length <= 300
       omega
   . exact .inl rfl
theorem ssum_bound {gs : List SgR} {m : Nat} (h : ∀ k, k < gs.length -> (gs.getD k sgZ).cs.length <= m) : ∀ k, k <= gs.length -> ssum gs k <= k * m
 | 0, _ => by rw [ssum_zero]; omega
 | k + 1, hk => by
   have h1 := ssum_bound h k oM
   have h2 := h k oM
   rw [ssum_succ oM, Nat.succ_mul]; omega
structure VlB (V : Vl) : Prop where
 xs : V.xs.length <= 20
 ms : V.ms.length <= 4
 gs : V.gs.length <= 20
 cs : ∀ k, k < V.gs.length -> (V.gs.getD k sgZ).cs.length <= 300
 im : V.im.length <= 8
 sum : ssum V.gs V.gs.length <= 6000
 mka : AllM V.ms
theorem VlB.zero : VlB zVl := ⟨by simp [zVl], by simp [zVl], by simp [zVl], fun k h => absurd h (by simp [zVl]), by simp [zVl], Nat.zero_le _, fun k => by simp [zVl, mrZ]⟩
theorem VlB.n {V : Vl} (h : VlB V) : VlN V 1048576 := ⟨by have := h.xs; omega, by have := h.ms; omega, by have := h.gs; omega, fun k hk => by have := h.cs k hk; omega, by have := h.im; omega⟩
theorem VlB.s {V V' : Vl} (h : VlB V) (hs : VlS V V') : VlB V' :=
 have hc : ∀ k, k < V'.gs.length -> (V'.gs.getD k sgZ).cs.length <= 300 := v_cs hs.gs h.cs
 ⟨by rw [hs.xs]; exact h.xs, by rw [hs.ms]; exact h.ms, by rw [hs.len]; exact h.gs, hc, by rw [hs.im]; exact h.im, by
  have h1 := ssum_bound hc _ nle
  have h2 := h.gs
  rw [<- hs.len] at h2
  have := Nat.mul_le_mul_right 300 h2
  omega, by rw [hs.ms]; exact h.mka⟩
theorem msB_all {ms : List Mrk} (h : msB ms = true) : AllM ms := fun k => by
 rcases Nat.lt_or_ge k ms.length with hk | hk
 . have h1 := (msB_yes h).2 k hk
   unfold okMk mkB nmB at h1
   simp only [Bool.and_eq_true] at h1
   have := inB_yes h1.1.1.1
   omega
 . rw [gdE, List.getElem?_eq_none hk]; simp [mrZ]
theorem ldV_b {ss : List BA} {ws : List (Int × BA)} (hD : diskB ss ws = true) : VlB (ldV ss ws).1 := by
 rcases ldV_size hD with h | ⟨hy, _, hc⟩
 . rw [h]; exact VlB.zero
 . obtain ⟨_, _, _, _, h5, h6⟩ := superB_yes hy.super
   have h1 := (tbB_yes h5).1
   have h2 := (msB_yes h6).1
   have h3 := hy.len
   have h4 := (contB_yes hy.cont).1
   refine ⟨h1, h2, oM, hc, oM, ?_, msB_all h6⟩
   have h7 := ssum_bound hc _ nle
   have := Nat.mul_le_mul_right 300 (show (ldV ss ws).1.gs.length <= 20 by omega)
   omega
theorem dig_ch (n : Nat) : (UInt8.ofNat (48 + n % 10)).toNat = 48 + n % 10 := by
 have : n % 10 < 10 := Nat.mod_lt _ dC
 simp only [UInt8.toNat_ofNat']
 omega
theorem digL_pad : ∀ k n, digL (pad k n) = true
 | 0, n => rfl
 | k + 1, n => by
   show digL (pad k (n / 10) ++ [UInt8.ofNat (48 + n % 10)]) = true
   have : n % 10 < 10 := Nat.mod_lt _ dC
   rw [digL_snoc, digL_pad k (n / 10)]
   unfold digC digI
   rw [dig_ch]
   simp
   omega
theorem valL_pad : ∀ k n, valL (pad k n) = n % 10 ^ k
 | 0, n => by show 0 = n % 1; omega
 | k + 1, n => by
   show valL (pad k (n / 10) ++ [UInt8.ofNat (48 + n % 10)]) = _
   rw [valL_snoc, valL_pad k (n / 10), dig_ch, show 10 ^ (k + 1) = 10 * 10 ^ k by rw [Nat.pow_succ]; omega, Nat.mod_mul]
   omega
theorem digL_app (a b : List UInt8) : digL (a ++ b) = (digL a && digL b) := by unfold digL; rw [List.all_append]
theorem digL_padAll : ∀ ns, digL (padAll ns) = true
 | [] => rfl
 | n :: ns => by
   show digL (pad 6 n ++ padAll ns) = true
   rw [digL_app, digL_pad, digL_padAll ns]; rfl
theorem chunk_padAll : ∀ (ns : List Nat) (j : Nat), j < ns.length -> chunk (padAll ns) j = pad 6 (ns.getD j 0)
 | [], j, h => by simp at h
 | n :: ns, 0, h => by
   show ((pad 6 n ++ padAll ns).drop (6 * 0)).take 6 = pad 6 n
   simp only [Nat.mul_zero, List.drop_zero]
   exact List.take_left' (pad_len 6 n)
 | n :: ns, j + 1, h => by
   show ((pad 6 n ++ padAll ns).drop (6 * (j + 1))).take 6 = pad 6 (ns.getD j 0)
   rw [<- chunk_padAll ns j (by simpa using h)]
   unfold chunk
   refine congrArg (List.take 6) ?_
   rw [show 6 * (j + 1) = (pad 6 n).length + 6 * j by rw [pad_len]; omega, List.drop_append, List.drop_eq_nil_of_le oM, Nat.add_sub_cancel_left, List.nil_append]
theorem numsO_padAll (ns : List Nat) (h : All6 ns) : numsO (padAll ns) = some ns := by
 have hl := padAll_len ns
 rw [numsO_yes (by rw [hl]; omega) (digL_padAll ns), hl, Nat.mul_div_cancel _ dC]
 congr 1
 unfold numsOf
 apply List.ext_getElem (by simp)
 intro j h1 h2
 have h3 := h j h2
 rw [List.getElem_map, List.getElem_range, chunk_padAll ns j h2, valL_pad, Nat.mod_eq_of_lt oM]
 rw [gdE, List.getElem?_eq_getElem h2]; rfl
theorem sumD_len (s : BA) : (sumD s).length = 3 := pad_len _ _
theorem sealS_list (s : BA) : (sealS s).data.toList = s.data.toList ++ sumD s := by unfold sealS; rw [ba_app]
theorem sealS_size (s : BA) : (sealS s).size = s.size + 3 := by rw [ba_size, sealS_list, List.length_append, sumD_len, <- ba_size]
theorem bodyOf_list (t : BA) : (bodyOf t).data.toList = t.data.toList.take (t.size - 3) := by
 unfold bodyOf
 rw [ByteArray.data_extract]
 simp
theorem ba_ext {a b : BA} (h : a.data.toList = b.data.toList) : a = b := by rw [ba_eq h]
theorem bodyOf_seal (s : BA) : bodyOf (sealS s) = s := by
 apply ba_ext
 rw [bodyOf_list, sealS_size, sealS_list, show s.size + 3 - 3 = s.size by omega]
 exact List.take_left' (ba_size s).symm
theorem opensB_seal (s : BA) : opensB (sealS s) = true := by
 rw [opensB_of (by rw [sealS_size]; omega)]
 unfold sealB
 rw [bodyOf_seal]
 exact beq_self_eq_true _
theorem rdN_seal (ns : List Nat) (h : All6 ns) : rdN (sealS (numsS ns)) = some ns := by
 rw [rdN_yes (opensB_seal _), bodyOf_seal]
 exact numsO_padAll ns h
theorem digL_digs : ∀ n : Nat, digL (digs n) = true := fun n => by
 induction n using Nat.strongRecOn with
 | ind n ih =>
   have h1 : ∀ k, k < 10 -> digL [UInt8.ofNat (48 + k)] = true := fun k hk => by
    have : k = 0 \/ k = 1 \/ k = 2 \/ k = 3 \/ k = 4 \/ k = 5 \/ k = 6 \/ k = 7 \/ k = 8 \/ k = 9 := oM
    rcases this with rfl | rfl | rfl | rfl | rfl | rfl | rfl | rfl | rfl | rfl <;> decide
   by_cases h : n < 10
   . rw [digs_lt h]; exact h1 n h
   . rw [digs_ge h, digL_app, ih (n / 10) oM, h1 _ (Nat.mod_lt _ dC)]; rfl
theorem valL_digs : ∀ n : Nat, valL (digs n) = n := fun n => by
 induction n using Nat.strongRecOn with
 | ind n ih =>
   have h1 : ∀ k, k < 10 -> (UInt8.ofNat (48 + k)).toNat = 48 + k := fun k hk => by simp only [UInt8.toNat_ofNat']; omega
   by_cases h : n < 10
   . rw [digs_lt h]
     have := valL_snoc [] (UInt8.ofNat (48 + n))
     rw [List.nil_append] at this
     rw [this, h1 n h]
     show 10 * valL [] + _ = n
     have e : valL [] = 0 := rfl
     rw [e]; omega
   . rw [digs_ge h, valL_snoc, ih (n / 10) oM, h1 _ (Nat.mod_lt _ dC)]; omega
theorem digs_head : ∀ n : Nat, 10 <= n -> (digs n).head? ≠ some 48 := fun n => by
 induction n using Nat.strongRecOn with
 | ind n ih =>
   intro hn
   rw [digs_ge oM]
   by_cases h : n / 10 < 10
   . rw [digs_lt h]
     intro e
     simp only [List.cons_append, List.nil_append, List.head?_cons, Option.some.injEq] at e
     have e2 := congrArg UInt8.toNat e
     simp only [UInt8.toNat_ofNat'] at e2
     have e3 : (48 : UInt8).toNat = 48 := rfl
     rw [e3] at e2
     omega
   . have := ih (n / 10) oM oM
     intro e
     rw [List.head?_append] at e
     cases hh : (digs (n / 10)).head? with
     | none => rw [List.head?_eq_none_iff] at hh; rw [digs_ge oM] at hh; simp at hh
     | some c => rw [hh] at e this; exact this e
theorem plainB_digs {n : Nat} (h : n <= 999999) : plainB (digs n) = true := by
 have hl := digs_len h
 rw [plainB_mk oM oM ?_]
 . exact digL_digs n
 . by_cases h10 : n < 10
   . rw [digs_lt h10]; exact .inl rfl
   . exact .inr (digs_head n oM)
theorem nmB_let {s : BA} (h : nmB s = true) {c : UInt8} (hc : c.toNat < 97) : c ∉ s.data.toList := fun hm => by
 obtain ⟨k, hk, e⟩ := List.getElem_of_mem hm
 unfold nmB at h
 rw [Bool.and_eq_true] at h
 have h2 := List.all_eq_true.1 h.2 k (by rw [List.mem_range, ba_size]; exact hk)
 unfold letB at h2
 rw [gdE, List.getElem?_eq_getElem hk, e, Bool.and_eq_true] at h2
 have := of_decide_eq_true h2.1
 simp only [Option.getD_some] at this
 omega
theorem mkW_list (m : Mrk) : (mkW m).data.toList = m.1.data.toList ++ 61 :: digs m.2.toNat := by
 unfold mkW
 rw [ba_app, ba_app]
 show m.1.data.toList ++ [61] ++ digs m.2.toNat = _
 simp
theorem okMk_mkB {ms : List Mrk} (h : msB ms = true) {m : Mrk} (hm : m ∈ ms) : nmB m.1 = true /\ 0 <= m.2 /\ m.2 <= 999999 := by
 obtain ⟨k, hk, e⟩ := List.getElem_of_mem hm
 have h1 := (msB_yes h).2 k hk
 unfold okMk mkB at h1
 rw [gdE, List.getElem?_eq_getElem hk, Option.getD_some, e] at h1
 simp only [Bool.and_eq_true] at h1
 exact ⟨h1.1.1, inB_yes h1.1.2⟩
theorem wordM_mkW {m : Mrk} (h1 : nmB m.1 = true) (h2 : 0 <= m.2 /\ m.2 <= 999999) : wordM (mkW m).data.toList = some m := by
 rw [mkW_list, wordM_hit (nmB_let h1 dC), if_pos (plainB_digs oM), valL_digs, baL_self, Int.toNat_of_nonneg h2.1]
theorem mkW_no {m : Mrk} (h1 : nmB m.1 = true) : 44 ∉ (mkW m).data.toList := by
 rw [mkW_list]
 intro h
 rcases List.mem_append.1 h with h | h
 . exact nmB_let h1 dC h
 . rcases List.mem_cons.1 h with h | h
   . exact absurd h dC
   . exact absurd (digL_mem (digL_digs _) h) dC
theorem marksL_wds : ∀ {ms : List Mrk}, (∀ m ∈ ms, nmB m.1 = true /\ 0 <= m.2 /\ m.2 <= 999999) -> marksL (ms.map fun m => (mkW m).data.toList) = some ms
 | [], _ => rfl
 | m :: ms, h => by
   have h1 := h m (by simp)
   rw [List.map_cons, marksL, wordM_mkW h1.1 h1.2, Option.bind_some, marksL_wds (fun q hq => h q (List.mem_cons_of_mem _ hq))]; rfl
theorem cutL_join : ∀ (xs : List (List UInt8)) (x : List UInt8), (∀ y ∈ x :: xs, (44 : UInt8) ∉ y) -> cutL 44 (Lib.join (x :: xs) [44]) = x :: xs
 | [], x, h => by rw [Lib.join_one, cutL_miss 44 x (h x (by simp))]
 | y :: xs, x, h => by
   have e : Lib.join (x :: y :: xs) [44] = x ++ 44 :: Lib.join (y :: xs) [44] := by
    rw [Lib.join_cons, Lib.join_cons]
    simp [Lib.joinTail]
   rw [e, cutL_hit 44 x _ (h x (by simp)), cutL_join xs y (fun z hz => h z (List.mem_cons_of_mem _ hz))]
theorem marksO_jn {ms : List Mrk} (h : msB ms = true) : marksO (jn (wds ms)).data.toList = some ms := by
 have hh := fun m (hm : m ∈ ms) => okMk_mkB h hm
 cases ms with
 | nil => rfl
 | cons m ms =>
   have e : (jn (wds (m :: ms))).data.toList = Lib.join ((mkW m).data.toList :: ms.map fun m => (mkW m).data.toList) [44] := by
    show Lib.join ((wds (m :: ms)).map (·.data.toList)) [44] = _
    unfold wds
    rw [List.map_map]; rfl
   have hn : ∀ y ∈ (mkW m).data.toList :: ms.map (fun m => (mkW m).data.toList), (44 : UInt8) ∉ y := fun y hy => by
    have hy' : y ∈ (m :: ms).map fun m => (mkW m).data.toList := hy
    obtain ⟨q, hq, rfl⟩ := List.mem_map.1 hy'
    exact mkW_no (hh q hq).1
   unfold marksO
   rw [e, if_neg, cutL_join _ _ hn]
   . exact marksL_wds (ms := m :: ms) hh
   . rw [Lib.join_cons, List.length_append, mkW_list]; simp
theorem toNats {xs : List Int} (h : ∀ x ∈ xs, 0 <= x) : intsN (xs.map Int.toNat) = xs := by
 unfold intsN
 rw [List.map_map]
 conv => rhs; rw [<- List.map_id xs]
 exact List.map_congr_left fun x hx => Int.toNat_of_nonneg (h x hx)
def supT (g b p t : Int) (xs : List Int) (ms : List Mrk) : BA := sealS (numsS (supN g b p t xs) ++ ⟨#[124]⟩ ++ jn (wds ms))
theorem rdU_back {g b p t : Int} {xs : List Int} {ms : List Mrk} (h : superB g b p t xs ms = true) : rdU (supT g b p t xs ms) = some (g, b, p, t, xs, ms) := by
 obtain ⟨h0, h1, h2, h3, h4, h5⟩ := superB_yes h
 have e : (bodyOf (supT g b p t xs ms)).data.toList = padAll (supN g b p t xs) ++ 124 :: (jn (wds ms)).data.toList := by
  unfold supT
  rw [bodyOf_seal, ba_app, ba_app]
  show padAll _ ++ [124] ++ _ = _
  simp
 have hno : (124 : UInt8) ∉ padAll (supN g b p t xs) := fun hm => absurd (digL_mem (digL_padAll _) hm) dC
 have hx : ∀ x ∈ xs, 0 <= x := fun x hx => by have := tbB_in h4 hx; omega
 rw [rdU_hit (t := supT g b p t xs ms) (opensB_seal _) hno e, partU_yes (numsO_padAll _ (supN_all h)) (by rw [supN_len]; omega) (marksO_jn h5)]
 have e0 : (supN g b p t xs).getD 0 0 = g.toNat := rfl
 have e1 : (supN g b p t xs).getD 1 0 = b.toNat := rfl
 have e2 : (supN g b p t xs).getD 2 0 = p.toNat := rfl
 have e3 : (supN g b p t xs).getD 3 0 = t.toNat := rfl
 have e4 : intsN ((supN g b p t xs).drop 4) = xs := toNats hx
 have f0 : ((g.toNat : Nat) : Int) = g := Int.toNat_of_nonneg oM
 have f1 : ((b.toNat : Nat) : Int) = b := Int.toNat_of_nonneg oM
 have f2 : ((p.toNat : Nat) : Int) = p := Int.toNat_of_nonneg oM
 have f3 : ((t.toNat : Nat) : Int) = t := Int.toNat_of_nonneg oM
 unfold supOf
 rw [e0, e1, e2, e3, e4, f0, f1, f2, f3, if_pos h]
theorem jn_step0 {ws : List BA} {s x : BA} (h : s = jn (ws.take 0)) (hk : 0 < ws.length) (hx : ws.getD 0 ByteArray.empty = x) : s ++ x = jn (ws.take (0 + 1)) := by
 rw [jn_take hk, List.take_zero, List.nil_append, jn_one, hx, h, List.take_zero, jn_nil]
 exact ba_ext_ (by rw [ba_app]; rfl)
where ba_ext_ {a b : BA} (h : a.data.toList = b.data.toList) : a = b := by rw [ba_eq h]
theorem jn_stepS {ws : List BA} {s x : BA} {k : Nat} (h : s = jn (ws.take k)) (hp : 0 < k) (hk : k < ws.length) (hx : ws.getD k ByteArray.empty = x) : s ++ ⟨#[44]⟩ ++ x = jn (ws.take (k + 1)) := by
 rw [jn_take hk, jn_snoc (by rw [List.length_take]; omega), hx, h]
theorem l00Join_c (A : Option Addr) (c B : Nat) (ws : List BA) (w : World) (h : Row w B A ws.length (wdAt ws)) (hB : B <= w.heap.size) (hn : ws.length <= 4) (hw : ∀ k, (ws.getD k ByteArray.empty).size <= 13) :
 Calls Tryz.prog 111 #[sC A ws.length c, .string ⟨#[44]⟩] w fun e w' => e = .returned (.string (jn ws)) /\ Nx w w' := by
 go_enter func111, ntmps111
 go_wp2
 go_loopw [5, 6] (fun o i wr => ∃ (k : Nat) (s : BA), k <= ws.length /\ i = ii k /\ o = .string s /\ s.size <= 56 /\ Hid (s = jn (ws.take k)) /\ Nx w wr) (fun _ i _ => ws.length - (intOf i).toNat)
 case atStart => exact ⟨0, ⟨#[]⟩, Nat.zero_le _, rfl, rfl, by decide, qh rfl, Nx.refl _⟩
 case round =>
  obtain ⟨k, s, hk, rfl, rfl, hs, HS, hnx⟩ := hrel
  by_cases hlt : k < ws.length
  . obtain ⟨b, off, rfl, hb, hc0⟩ := (h.below hnx hB) oM
    have hc := hc0 k hlt
    clear hc0
    unfold wdAt at hc
    have hx13 := hw k
    have HJ := qh (jn_size (k + 1) ws hw oM)
    obtain ⟨x, Hx⟩ := nM (ws.getD k ByteArray.empty)
    rw [Hx.out] at hc hx13
    rcases Nat.eq_zero_or_pos k with hz | hp
    . subst hz
      have HF := qh (jn_step0 HS.out hlt Hx.out)
      rw [<- HF.out] at HJ
      rw [Nat.add_zero] at hc
      go_wp2
      go_roundw
      case rel => exact ⟨0 + 1, _, oM, by go_num, rfl, by have := HJ.out; omega, HF, hnx⟩
      case measure => simp [intOf]; omega
    . have hd : decide (0 < (k : Int)) = true := by simp; omega
      have HF := qh (jn_stepS HS.out hp hlt Hx.out)
      rw [<- HF.out] at HJ
      have h44 : (⟨#[44]⟩ : BA).size = 1 := rfl
      go_wp2
      go_roundw
      case rel => exact ⟨k + 1, _, oM, by go_num, rfl, by have := HJ.out; omega, HF, hnx⟩
      case measure => simp [intOf]; omega
  . obtain rfl : k = ws.length := oM
    have HR := qh (show s = jn ws by rw [HS.out, List.take_length])
    go_wp2
    go_ret
    exact ⟨ret_str HR.out, hnx⟩
theorem addS_run {o : Oper} {a : Act} {x y : Operand} {s r : BA} {W : World} (ho : o.op = .binOp .add 9 x y 9) (hx : a.eval x = .string s) (hy : a.eval y = .string r) (h : s.size + r.size <= 1000000) :
 (execOp a.eval o).run Tryz.prog W = .ok (.value (.string (s ++ r))) W := by
 have h1 := run_string_add_sum (P := Tryz.prog) W s r oM
 unfold execOp
 simp only [ho, hx, hy, binOp_string_add]
 simp [h1, go_sem]
theorem mkW_of (nm : BA) (q : Nat) : nm ++ ⟨#[61]⟩ ++ ⟨(digs q).toArray⟩ = mkW (nm, (q : Int)) := by
 unfold mkW; simp
theorem wV_succ {ms : List Mrk} {k : Nat} (hk : k < ms.length) {q : Mrk} (hq : ms.getD k mrZ = q) : wV (wds (ms.take (k + 1))) = wV (wds (ms.take k)) ++ [.string (mkW q)] := by
 rw [<- wds_take, <- wds_take, jn_take (by rw [wds_len]; exact hk), wds_at hk, hq]
 unfold wV; simp
theorem wdsT_len {ms : List Mrk} {k : Nat} (hk : k <= ms.length) : (wds (ms.take k)).length = k := by rw [wds_len, List.length_take]; omega
theorem l04Text_c (g b p t : Int) (A A2 : Option Addr) (c c2 B : Nat) (xs : List Int) (ms : List Mrk) (w : World) (h : Ins w B A xs) (h2 : Mks w B A2 ms) (hB : B <= w.heap.size) (hok : superB g b p t xs ms = true) :
 Calls Tryz.prog 47 #[.agg #[ii g, ii b, ii p, ii t, sC A xs.length c, sC A2 ms.length c2]] w fun e w' => e = .returned (.string (sealS (numsS (supN g b p t xs) ++ ⟨#[124]⟩ ++ jn (wds ms)))) /\ Nx w w' := by
 have HK := qh hok
 have hl4 : ms.length <= 4 := (msB_yes (superB_yes hok).2.2.2.2.2).1
 have hl20 : xs.length <= 20 := (tbB_yes (superB_yes hok).2.2.2.2.1).1
 have HM := qh (superB_yes hok).2.2.2.2.2
 clear hok
 obtain ⟨i0, hi0, hz0, hz1, hz2⟩ := info_parts infoS
 go_enter func47, ntmps47
 have b0 := Box.new w 26 #[ii g, ii b, ii p, ii t, sC A xs.length c, sC A2 ms.length c2]
 have hx0 := (Nx.refl w).alloc (.cells #[ii g, ii b, ii p, ii t, sC A xs.length c, sC A2 ms.length c2] 26)
 have b1 := b0.alloc (.cells #[ii g, ii b, ii p, ii t] 3)
 have hx1 := hx0.alloc (.cells #[ii g, ii b, ii p, ii t] 3)
 have hR1 := RowI.new4 (w.alloc (.cells #[ii g, ii b, ii p, ii t, sC A xs.length c, sC A2 ms.length c2] 26)) (B := w.heap.size) g b p t (by simp)
 simp only [World.size_alloc] at hR1
 have HX1 := qh hx1
 have HB1 := qh b1
 have HR1 := qh hR1
 clear hx1 b1 hR1 hx0 b0
 go_wp2_with (at_builtin; refine wpList_app4I rfl _ _ rfl w.heap.size (w.heap.size + 1) A c [g, b, p, t] xs rfl rfl rfl HR1.out (h.below HX1.out hB) oM HX1.out.size ?_)
 intro A' k' w2 hR2 hG2
 have hx2 := hG2.nx w HX1.out nle
 have b2 := hG2.box _ _ _ dC HB1.out
 clear HX1 HB1 HR1 hG2
 have HR2 : Hid (RowI w2 w.heap.size (sC A' (xs.length + 4) k') (supL g b p t xs)) := qh hR2
 clear hR2
 go_wp2_with fail
 have hw0 := RowW.new w2 (B := w2.heap.size) nle
 have hn0 := (Nx.refl w2).alloc (.cells #[] 9)
 go_loopw [4, 5] (fun s i wr => ∃ (k : Nat) (v : Value), k <= ms.length /\ i = ii k /\ v = s /\ RowW wr w2.heap.size v (wds (ms.take k)) /\ Nx w2 wr) (fun _ i _ => ms.length - (intOf i).toNat)
 case atStart => exact ⟨0, _, Nat.zero_le _, rfl, rfl, hw0, hn0⟩
 case round =>
  obtain ⟨k, v, hk, rfl, rfl, hw, hnx⟩ := hrel
  obtain ⟨_, _, _, _, _, c5⟩ := (b2.nx hnx).d6
  clear hw0 hn0
  by_cases hlt : k < ms.length
  . obtain ⟨bb, off, rfl, hb, k0, k1⟩ := (h2.below (hx2.trans hnx) hB).at_ hlt
    have hms := msB_at HM.out hlt
    obtain ⟨⟨q0, q1'⟩, Hq'⟩ : ∃ q, Hid (ms.getD k mrZ = q) := ⟨_, rfl⟩
    rw [Hq'.out] at k0 k1 hms
    obtain ⟨q1, Hq1⟩ : ∃ q : Nat, Hid (q1' = (q : Int)) := ⟨q1'.toNat, qh (by have := hms.2.1; simp only at this; omega)⟩
    rw [Hq1.out] at k1 hms Hq'
    obtain ⟨hs6, _, hq6⟩ := hms
    simp only at k0 k1 hs6 hq6
    have Hq : Hid (ms.getD k mrZ = (q0, (q1 : Int))) := Hq'
    have hbw : bb < w2.heap.size := by have := hx2.size; omega
    have hbv : w.heap.size < w2.heap.size := b2.lt
    have hq7 : q1 <= 999999 := oM
    have hlk : (wds (ms.take k)).length = k := wdsT_len hk
    have hwk : wr.ownsRow w2.heap.size 9 1 v k (wV (wds (ms.take k))) := by have := hw; unfold RowW at this; rwa [hlk] at this
    have h61 : (⟨#[61]⟩ : BA).size = 1 := rfl
    clear hw hlk Hq1 hq6
    go_wp2_with fail
    refine wp_lexA (kf9 (kf5 (true :: ff :: true :: true :: ff :: []))) (fun w' => CC w' w.heap.size 5 (sC (some ⟨bb, off, none⟩) ms.length c2) /\ CC w' bb (off + k * 2) (.string q0) /\ CC w' bb (off + k * 2 + 1) (ii q1)) (by exact ⟨c5, k0, k1⟩) ?_
    iterate 7 (refine HL.tk ?_; (try simp only [Act.put, qqA, qqB, qqC]))
    refine HL.take (v := .string (q0 ++ ⟨#[61]⟩)) (by rfl) (fun W _ => addS_run rfl rfl rfl oM) ?_
    refine nZ ?_
    iterate 6 (refine HL.tk ?_; (try simp only [Act.put, qqA, qqB, qqC]))
    refine hLc fun K hK => ?_
    go_simp
    refine (l00Digits_c q1 _ hq7).mono ?_
    rintro e wd ⟨rfl, hnd⟩
    have hxd := hnx.trans (Nx.drew_r hnd)
    have hwd := (show RowW wr w2.heap.size v (wds (ms.take k)) by unfold RowW; rw [wdsT_len hk]; exact hwk).nx (Nx.drew_r hnd)
    have HW := qh (mkW_of q0 q1)
    obtain ⟨d, Hd⟩ := nM ((⟨(digs q1).toArray⟩ : BA) : BA)
    have hd6 : d.size <= 6 := by rw [<- Hd.out]; have := (digs_len hq7).2; simp [ByteArray.size]; omega
    rw [Hd.out] at HW ⊢
    go_wp2_with fail
    refine hK.out _ _ (by exact ⟨(hxd.of_two' hnx ⟨w.heap.size, 5, none⟩ hbv).trans c5, (hxd.of_two' hnx ⟨bb, off + k * 2, none⟩ hbw).trans k0, (hxd.of_two' hnx ⟨bb, off + k * 2 + 1, none⟩ hbw).trans k1⟩) ?_
    clear hK K
    refine nZ ?_
    refine HL.take (v := .string ((q0 ++ ⟨#[61]⟩) ++ d)) (by rfl) (fun W _ => addS_run rfl rfl rfl (by rw [ByteArray.size_append]; omega)) ?_
    refine nZ ?_
    rw [HW.out]
    refine hLc fun K hK => ?_
    go_simp
    change K _ (wd.alloc _)
    have bz := Box.new wd 9 #[.string (mkW (q0, (q1 : Int)))]
    have hwz := hwd.nx ((Nx.refl wd).alloc (.cells #[.string (mkW (q0, (q1 : Int)))] 9))
    have hxz := hxd.alloc (.cells #[.string (mkW (q0, (q1 : Int)))] 9)
    refine hK.out _ _ (by exact ⟨(hxz.of_two' hnx ⟨w.heap.size, 5, none⟩ hbv).trans c5, (hxz.of_two' hnx ⟨bb, off + k * 2, none⟩ hbw).trans k0, (hxz.of_two' hnx ⟨bb, off + k * 2 + 1, none⟩ hbw).trans k1⟩) ?_
    generalize wd.alloc (.cells #[.string (mkW (q0, (q1 : Int)))] 9) = wz at *
    clear hK K
    refine nZ ?_
    refine hLc fun K hK => ?_
    have hwz' : wz.ownsRow w2.heap.size 9 1 v k (wV (wds (ms.take k))) := by have := hwz; unfold RowW at this; rwa [wdsT_len hk] at this
    refine wp_append_own wz _ _ 32 rfl w2.heap.size 9 i0 _ 1 16 underlying32 hi0 hz0 hz1 hz2 rfl oM v k _ rfl hwz' ⟨wd.heap.size, 0, none⟩ 1 1 [.string (mkW (q0, (q1 : Int)))] rfl rfl (fun j u hj => ?_) (fun u hu => ?_) (by unfold maxLen; omega) oM (by have := hxz.size; omega) ?_
    . rw [addr_add', Nat.zero_add, bz.cell j, <- hj]
      rcases j with _ | j <;> simp
    . simp only [List.mem_cons, List.not_mem_nil, or_false] at hu; rcases hu with rfl; rfl
    intro v2 w3 hw3 hg3 _
    have hx3 : Nx w2 w3 := Below.grown hxz hg3 hxz.size (fun k hk => (hwz'.lt k hk).1)
    refine hK.out _ _ (by exact ⟨(hx3.of_two' hnx ⟨w.heap.size, 5, none⟩ hbv).trans c5, (hx3.of_two' hnx ⟨bb, off + k * 2, none⟩ hbw).trans k0, (hx3.of_two' hnx ⟨bb, off + k * 2 + 1, none⟩ hbw).trans k1⟩) ?_
    clear hK K
    refine nZ ?_
    iterate 1 (refine HL.tk ?_; (try simp only [Act.put, qqA, qqB, qqC]))
    refine HL.done ?_
    go_wp2
    go_roundw
    case rel =>
     refine ⟨k + 1, _, oM, by go_num, rfl, ?_, hx3⟩
     unfold RowW
     rw [wV_succ hlt Hq.out, wdsT_len oM]
     exact hw3
    case measure => simp [intOf]; omega
  . obtain rfl : k = ms.length := oM
    rw [List.take_length] at hw
    obtain ⟨A3, c3, rfl, hS3⟩ := hw.sl
    rw [wds_len] at hS3
    obtain ⟨A5, c5', he5, hS5⟩ := HR2.out.sl
    rw [supL_len] at he5 hS5
    injection he5 with e5 _ _
    subst e5
    have hrow := supN_row HK.out (supN_len g b p t xs).symm (hS5.nx hnx).row
    have Hl := qh (supN_len g b p t xs)
    have Hwl := qh (wds_len ms)
    have hS3r : Row wr wr.heap.size A3 (wds ms).length (wdAt (wds ms)) := by rw [wds_len]; exact hS3.row
    have hc5 : ((xs.length + 4 : Nat) : Int) = (xs.length : Int) + 4 := oM
    rw [<- Hl.out]
    go_wp2_with fail
    refine (l02Join_c A' _ _ (supN g b p t xs) _ hrow nle (supN_all HK.out) (by have := Hl.out; omega)).mono ?_
    obtain ⟨nS, HnS⟩ := nM (numsS (supN g b p t xs))
    rintro e w4 ⟨he, hnx4⟩
    have he' : e = .returned (.string nS) := he.trans (by rw [<- HnS.out]; rfl)
    subst he'
    have hns : nS.size <= 144 := by rw [<- HnS.out, numsS_size, Hl.out]; omega
    have hr4 := hS3r.below hnx4 nle
    clear he
    go_wp2_with fail
    refine (l00Join_c A3 c3 _ (wds ms) _ hr4 hnx4.size (by rw [wds_len]; omega) (wds_size HM.out)).mono ?_
    obtain ⟨jS, HjS⟩ := nM (jn (wds ms))
    have hjs : jS.size <= 56 := by rw [<- HjS.out]; have := jn_all (wds_size HM.out); rw [wds_len] at this; omega
    rw [HjS.out]
    rintro e w5 ⟨rfl, hnx5⟩
    have h124 : (⟨#[124]⟩ : BA).size = 1 := rfl
    go_wp2_with fail
    refine (l02Seal_c _ _ (by rw [ByteArray.size_append, ByteArray.size_append]; omega)).mono ?_
    have HZ := qh (show nS ++ ⟨#[124]⟩ ++ jS ++ ⟨(sumD (nS ++ ⟨#[124]⟩ ++ jS)).toArray⟩ = sealS (numsS (supN g b p t xs) ++ ⟨#[124]⟩ ++ jn (wds ms)) by rw [HnS.out, HjS.out]; rfl)
    rintro e w6 ⟨he, hnx6⟩
    have he6 := he.trans (ret_str HZ.out)
    subst he6
    clear he
    go_wp2
    go_ret
    exact ⟨rfl, (((hx2.trans hnx).trans hnx4).trans hnx5).trans hnx6⟩
end
end Go.Proofs.YtieoiailjjnnoaaGreatDoor
namespace Go.Proofs
set_option linter.unusedVariables false
open _root_.Go.Proofs.Tryz
set_option maxRecDepth 100000
set_option maxHeartbeats 16000000
section
open Go.Shelf
def Tryz.lays156_ren : Go.Shelf.Ren := ⟨fun | 156 => 177 | 165 => 213 | 166 => 174 | 169 => 175 | 240 => 211 | 241 => 231 | 276 => 229 | 277 => 244 | n => n, fun | 31 => 32 | 9 => 9 | 3 => 3 | 4 => 4 | 0 => 0 | 20 => 20 | 72 => 202 | 76 => 203 | 70 => 200 | 37 => 22 | 75 => 86 | 127 => 236 | 164 => 210 | 5 => 5 | 80 => 83 | n => n, fun | n => n⟩
theorem Tryz.lays156 : Go.Proofs.Lays.n156 Tryz.prog Tryz.lays156_ren := {
 mixed := by kernel_rfl
 f156 := func177.trans (congrArg some (by kernel_rfl))
 f165 := func213.trans (congrArg some (by kernel_rfl))
 f166 := func174.trans (congrArg some (by kernel_rfl))
 f169 := func175.trans (congrArg some (by kernel_rfl))
 f240 := func211.trans (congrArg some (by kernel_rfl))
 f241 := func231.trans (congrArg some (by kernel_rfl))
 f276 := func229.trans (congrArg some (by kernel_rfl))
 f277 := func244.trans (congrArg some (by kernel_rfl))
 t0 := underlying0
 a0 := isAgg0
 z0 := sizeOf0
 v0 := zeroValue0
 t3 := underlying3
 a3 := isAgg3
 z3 := sizeOf3
 v3 := zeroValue3
 t4 := underlying4
 a4 := isAgg4
 z4 := sizeOf4
 v4 := zeroValue4
 t9 := underlying9
 a9 := isAgg9
 z9 := sizeOf9
 v9 := zeroValue9
 t20 := underlying20
 a20 := isAgg20
 z20 := sizeOf20
 v20 := zeroValue20
 t31 := underlying32
 a31 := isAgg32
 z31 := sizeOf32
 v31 := zeroValue32
 t37 := underlying22
 a37 := isAgg22
 z37 := sizeOf22
 v37 := zeroValue22
 t70 := underlying200
 a70 := isAgg200
 z70 := sizeOf200
 v70 := zeroValue200
 t72 := underlying202
 a72 := isAgg202
 z72 := sizeOf202
 v72 := zeroValue202
 t75 := underlying86
 a75 := isAgg86
 z75 := sizeOf86
 v75 := zeroValue86
 t76 := underlying203
 a76 := isAgg203
 z76 := sizeOf203
 v76 := zeroValue203
 t127 := underlying236
 a127 := isAgg236
 z127 := sizeOf236
 v127 := zeroValue236
 t164 := underlying210
 a164 := isAgg210
 z164 := sizeOf210
 v164 := zeroValue210 }
def Tryz.laysM171_ren : Go.Shelf.Ren := ⟨fun | 171 => 176 | 243 => 212 | 246 => 230 | 283 => 240 | 284 => 241 | 285 => 242 | 286 => 243 | 129 => 251 | 317 => 250 | 318 => 252 | 319 => 253 | 320 => 254 | 337 => 256 | 338 => 257 | n => n, fun | 3 => 3 | 9 => 9 | 2 => 2 | 4 => 4 | 171 => 267 | 0 => 0 | 53 => 268 | 37 => 22 | 5 => 5 | 173 => 271 | 212 => 280 | 51 => 274 | 20 => 20 | 213 => 281 | 46 => 264 | 232 => 288 | 233 => 289 | n => n, fun | 17 => 4 | 18 => 7 | 19 => 8 | n => n⟩
theorem Tryz.laysM171 : Go.Proofs.LaysM.n171 Tryz.prog Tryz.laysM171_ren := {
 mixed := by kernel_rfl
 f129 := func251.trans (congrArg some (by kernel_rfl))
 f171 := func176.trans (congrArg some (by kernel_rfl))
 f243 := func212.trans (congrArg some (by kernel_rfl))
 f246 := func230.trans (congrArg some (by kernel_rfl))
 f283 := func240.trans (congrArg some (by kernel_rfl))
 f284 := func241.trans (congrArg some (by kernel_rfl))
 f285 := func242.trans (congrArg some (by kernel_rfl))
 f286 := func243.trans (congrArg some (by kernel_rfl))
 f317 := func250.trans (congrArg some (by kernel_rfl))
 f318 := func252.trans (congrArg some (by kernel_rfl))
 f319 := func253.trans (congrArg some (by kernel_rfl))
 f320 := func254.trans (congrArg some (by kernel_rfl))
 f337 := func256.trans (congrArg some (by kernel_rfl))
 f338 := func257.trans (congrArg some (by kernel_rfl))
 t0 := underlying0
 a0 := isAgg0
 z0 := sizeOf0
 v0 := zeroValue0
 t2 := underlying2
 a2 := isAgg2
 z2 := sizeOf2
 v2 := zeroValue2
 t3 := underlying3
 a3 := isAgg3
 z3 := sizeOf3
 v3 := zeroValue3
 t4 := underlying4
 a4 := isAgg4
 z4 := sizeOf4
 v4 := zeroValue4
 t5 := underlying5
 a5 := isAgg5
 z5 := sizeOf5
 v5 := zeroValue5
 t9 := underlying9
 a9 := isAgg9
 z9 := sizeOf9
 v9 := zeroValue9
 t20 := underlying20
 a20 := isAgg20
 z20 := sizeOf20
 v20 := zeroValue20
 t37 := underlying22
 a37 := isAgg22
 z37 := sizeOf22
 v37 := zeroValue22
 t46 := underlying264
 a46 := isAgg264
 z46 := sizeOf264
 v46 := zeroValue264
 t51 := underlying274
 a51 := isAgg274
 z51 := sizeOf274
 v51 := zeroValue274
 t53 := underlying268
 a53 := isAgg268
 z53 := sizeOf268
 v53 := zeroValue268
 t171 := underlying267
 a171 := isAgg267
 z171 := sizeOf267
 v171 := zeroValue267
 t173 := underlying271
 a173 := isAgg271
 z173 := sizeOf271
 v173 := zeroValue271
 t212 := underlying280
 a212 := isAgg280
 z212 := sizeOf280
 v212 := zeroValue280
 t213 := underlying281
 a213 := isAgg281
 z213 := sizeOf281
 t232 := underlying288
 a232 := isAgg288
 z232 := sizeOf288
 v232 := zeroValue288
 t233 := underlying289
 a233 := isAgg289
 z233 := sizeOf289
 v233 := zeroValue289
 g17 := by kernel_rfl
 g18 := by kernel_rfl
 g19 := by kernel_rfl
 i0 := by kernel_rfl
 i2 := by kernel_rfl
 i3 := by kernel_rfl
 i4 := by kernel_rfl
 i5 := by kernel_rfl
 i9 := by kernel_rfl
 i20 := by kernel_rfl
 i37 := by kernel_rfl
 i46 := by kernel_rfl
 i51 := by kernel_rfl
 i53 := by kernel_rfl
 i171 := by kernel_rfl
 i173 := by kernel_rfl
 i212 := by kernel_rfl
 i232 := by kernel_rfl
 i233 := by kernel_rfl
 m17 := by kernel_rfl
 m18 := by kernel_rfl
 m19 := by kernel_rfl }
theorem Tryz.Builder_Extra_156 : Builder.Extra Tryz.prog Tryz.lays156_ren := {
 sizeBuilder := by kernel_rfl
 liesBuilder := by kernel_rfl
 t5 := underlying5
 a5 := isAgg5
 z5 := sizeOf5
 v5 := zeroValue5
 infoByte := by kernel_rfl
 cellsByte := by kernel_rfl
 sizeByte := by kernel_rfl
 neB5 := by decide }
end
end Go.Proofs
namespace Go.Proofs.YtieoiailjjnnoaaGreatDoor
set_option linter.unusedVariables false
open _root_.Go.Proofs.Tryz
set_option maxRecDepth 100000
set_option maxHeartbeats 16000000
section
open Go.RowKit
def Tab (w : World) : Prop := Lib.TabIs Tryz.prog w "internal/strconv.uint64pow10" .u64 Lib.pow10Tab
theorem Tab.nx {w w' : World} (h : Tab w) (hb : Nx w w') : Tab w' := by
 unfold Tab Lib.TabIs at h ⊢
 unfold World.var? at h ⊢
 cases hg : Tryz.prog.globalNamed "internal/strconv.uint64pow10" with
 | none => simp [hg] at h
 | some g =>
   simp only [hg, Option.bind_some] at h ⊢
   have hlt : g < w.heap.size := by
    rcases Nat.lt_or_ge g w.heap.size with h' | h'
    . exact h'
    . simp [Array.getElem?_eq_none h'] at h
   rw [hb.block g hlt]
   exact h
theorem digs_dec : ∀ n : Nat, Lib.decDigits n = digs n := by
 intro n
 induction n using Nat.strongRecOn with
 | _ n ih =>
   rw [Lib.decDigits, digs]
   by_cases h : n < 10
   . rw [dif_pos h, if_pos h]
   . rw [dif_neg h, if_neg h, ih (n / 10) oM]
theorem itoa_digs (n : Nat) : Lib.itoa (n : Int) = digs n := by
 unfold Lib.itoa
 rw [if_neg oM, Int.toNat_natCast, digs_dec]
theorem itoa_c (n : Nat) (w : World) (hn : n <= 999999) (ht : Tab w) : Calls Tryz.prog 176 #[ii n] w fun e w' => e = .returned (.string ⟨(digs n).toArray⟩) /\ Nx w w' := by
 refine (Any.strconv_Itoa Tryz.laysM171 (n : Int) oM oM w ht).mono ?_
 rintro e w' ⟨rfl, k, os, rfl⟩
 rw [itoa_digs]
 exact ⟨rfl, Lib.below_grow _ w nle k os⟩
theorem join_c (A : Option Addr) (c lo : Nat) (ws : List BA) (w : World) (h : Sl w lo A 9 ws.length (wdAt ws)) (hn : ws.length <= 4) (hc : ws.length <= c) (hw : ∀ k, (ws.getD k ByteArray.empty).size <= 13) :
 Calls Tryz.prog 177 #[sC A ws.length c, .string ⟨#[44]⟩] w fun e w' => e = .returned (.string (jn ws)) /\ Nx w w' := by
 rcases Nat.eq_zero_or_pos ws.length with hz | hp
 . have e0 : ws = [] := List.eq_nil_of_length_eq_zero hz
   subst e0
   refine (Any.strings_Join_none Tryz.lays156 Tryz.Builder_Extra_156 A c ⟨#[44]⟩ w).mono ?_
   rintro e w' ⟨rfl, rfl⟩
   exact ⟨rfl, Nx.refl _⟩
 . obtain ⟨g, rfl, _, ho⟩ := h hp
   have hj := jn_all hw
   refine (Any.strings_Join Tryz.lays156 Tryz.Builder_Extra_156 g 0 c ws ⟨#[44]⟩ w (fun j x hj => ?_) ho.lt oM hc (by rw [ba_size] at hj; exact ntr hj oM)).mono ?_
   . have hjl : j < ws.length := (List.getElem?_eq_some_iff.1 hj).1
     rw [Nat.zero_add, ho.cell hjl]
     unfold wdAt
     rw [gdE, hj]; rfl
   . rintro e w' ⟨rfl, hb⟩
     exact ⟨rfl, hb⟩
theorem marksText_c (A2 : Option Addr) (c2 B : Nat) (ms : List Mrk) (w : World) (h2 : Mks w B A2 ms) (hB : B <= w.heap.size) (hms : msB ms = true) (ht : Tab w) :
 Calls Tryz.prog 105 #[sC A2 ms.length c2] w fun e w' => e = .returned (.string (jn (wds ms))) /\ Nx w w' := by
 have HM := qh hms
 have HT := qh ht
 have hl4 : ms.length <= 4 := (msB_yes hms).1
 clear hms ht
 obtain ⟨i0, hi0, hz0, hz1, hz2⟩ := info_parts infoS
 have hmk := fun W => run_make_rowN (P := Tryz.prog) 32 9 i0 _ underlying32 hi0 hz0 .i64 .i64 ms.length ms.length nle (by rw [hz2]; omega) oM W
 rw [hz1] at hmk
 have hmade := Own.made w #[Value.string ByteArray.empty] (ms.length * 1) 9
 rw [Nat.mul_one] at hmade
 go_enter func105, ntmps105
 go_wp2
 go_loopw [11] (fun i wr => ∃ k : Nat, k <= ms.length /\ i = ii k /\ Fill wr w.heap.size 9 ms.length k (wdAt (wds ms)) /\ Nx w wr) (fun i _ => ms.length - (intOf i).toNat)
 case atStart => exact ⟨0, Nat.zero_le _, rfl, Fill.start hmade, (Nx.refl _).alloc _⟩
 case round =>
  obtain ⟨k, hk, rfl, hf, hnx⟩ := hrel
  by_cases hlt : k < ms.length
  . obtain ⟨bb, off, rfl, hb, k0, k1⟩ := (h2.below hnx hB).at_ hlt
    clear hmk hmade
    have hmq := msB_at HM.out hlt
    obtain ⟨⟨q0, q1'⟩, Hq'⟩ : ∃ q, Hid (ms.getD k mrZ = q) := ⟨_, rfl⟩
    rw [Hq'.out] at k0 k1 hmq
    obtain ⟨q1, Hq1⟩ : ∃ q : Nat, Hid (q1' = (q : Int)) := ⟨q1'.toNat, qh (by have := hmq.2.1; simp only at this; omega)⟩
    rw [Hq1.out] at k1 hmq Hq'
    obtain ⟨hs6, _, hq6⟩ := hmq
    simp only at k0 k1 hs6 hq6
    have Hq : Hid (ms.getD k mrZ = (q0, (q1 : Int))) := Hq'
    have hq7 : q1 <= 999999 := oM
    have h61 : (⟨#[61]⟩ : BA).size = 1 := rfl
    clear Hq1 hq6
    go_wp2_with fail
    have bq := Box.new wr 136 #[.string q0, ii q1]
    have hnxq := hnx.alloc (.cells #[.string q0, ii q1] 136)
    have hfq := hf.nx ((Nx.refl wr).alloc (.cells #[.string q0, ii q1] 136))
    generalize wr.alloc (.cells #[.string q0, ii q1] 136) = wq at *
    clear k0 k1
    have k0 := bq.c0
    have k1 := bq.c1
    refine wp_lexA (kf7 (true :: kf2 (true :: []))) (fun w' => CC w' wr.heap.size 0 (.string q0) /\ CC w' wr.heap.size 1 (ii q1)) (by exact ⟨k0, k1⟩) ?_
    iterate 4 (refine HL.tk ?_; (try simp only [Act.put, qqA, qqB, qqC]))
    refine HL.take (v := .string (q0 ++ ⟨#[61]⟩)) (by rfl) (fun W _ => addS_run rfl rfl rfl oM) ?_
    refine nZ ?_
    iterate 2 (refine HL.tk ?_; (try simp only [Act.put, qqA, qqB, qqC]))
    refine hLc fun K hK => ?_
    go_simp
    refine (itoa_c q1 _ hq7 (HT.out.nx hnxq.drew)).mono ?_
    rintro e wd ⟨rfl, hnd⟩
    have hxd := hnxq.trans (Nx.drew_r hnd)
    have bd := bq.nx (Nx.drew_r hnd)
    have hfd := hfq.nx (Nx.drew_r hnd)
    have HW := qh (mkW_of q0 q1)
    obtain ⟨d, Hd⟩ := nM ((⟨(digs q1).toArray⟩ : BA) : BA)
    have hd6 : d.size <= 6 := by rw [<- Hd.out]; have := (digs_len hq7).2; simp [ByteArray.size]; omega
    rw [Hd.out] at HW ⊢
    go_wp2_with fail
    refine hK.out _ _ (by exact ⟨bd.c0, bd.c1⟩) ?_
    clear hK K
    refine nZ ?_
    refine HL.take (v := .string ((q0 ++ ⟨#[61]⟩) ++ d)) (by rfl) (fun W _ => addS_run rfl rfl rfl (by rw [ByteArray.size_append]; omega)) ?_
    refine nZ ?_
    rw [HW.out]
    iterate 1 (refine HL.tk ?_; (try simp only [Act.put, qqA, qqB, qqC]))
    have hne : w.heap.size ≠ wr.heap.size := by have := hf.lt; omega
    obtain ⟨v0, hv0⟩ := hfd.some_ hlt
    have hfz := hfd.frozen k
    have hst := hfd.step (v := .string (mkW (q0, (q1 : Int)))) hlt (by unfold wdAt; rw [wds_at hlt, Hq.out])
    have hxs := hxd.setCell (p := ⟨w.heap.size, k, none⟩) nle (.string (mkW (q0, (q1 : Int))))
    have bs := bd.far (p := ⟨w.heap.size, k, none⟩) (Ne.symm hne) (.string (mkW (q0, (q1 : Int))))
    refine hLc fun K hK => ?_
    go_simp
    refine hK.out _ _ (by exact ⟨bs.c0, bs.c1⟩) ?_
    clear hK K
    refine nZ ?_
    refine HL.done ?_
    go_wp2
    go_roundw
    case rel => exact ⟨k + 1, oM, by go_num, hst, hxs⟩
    case measure => simp [intOf]; omega
  . obtain rfl : k = ms.length := oM
    have hS : Sl wr w.heap.size (some ⟨w.heap.size, 0, none⟩) 9 (wds ms).length (wdAt (wds ms)) := by rw [wds_len]; exact Sl.own hf.done nle
    have Hwl := qh (wds_len ms)
    clear hmk hmade
    go_wp2_with fail
    have hjc := join_c (some ⟨w.heap.size, 0, none⟩) ms.length w.heap.size (wds ms) wr hS (by rw [wds_len]; exact hl4) (by rw [wds_len]; omega) (wds_size HM.out)
    rw [wds_len] at hjc
    refine hjc.mono ?_
    rintro e w4 ⟨rfl, hnx4⟩
    go_wp2
    go_ret
    exact ⟨rfl, hnx.trans hnx4⟩
theorem superText_c (g b p t : Int) (A A2 : Option Addr) (c c2 B : Nat) (xs : List Int) (ms : List Mrk) (w : World) (h : Ins w B A xs) (h2 : Mks w B A2 ms) (hB : B <= w.heap.size) (hok : superB g b p t xs ms = true) (ht : Tab w) :
 Calls Tryz.prog 45 #[.agg #[ii g, ii b, ii p, ii t, sC A xs.length c, sC A2 ms.length c2]] w fun e w' => e = .returned (.string (sealS (numsS (supN g b p t xs) ++ ⟨#[124]⟩ ++ jn (wds ms)))) /\ Nx w w' := by
 have HK := qh hok
 have HT := qh ht
 have hl4 : ms.length <= 4 := (msB_yes (superB_yes hok).2.2.2.2.2).1
 have hl20 : xs.length <= 20 := (tbB_yes (superB_yes hok).2.2.2.2.1).1
 have HM := qh (superB_yes hok).2.2.2.2.2
 clear hok ht
 go_enter func45, ntmps45
 have b0 := Box.new w 26 #[ii g, ii b, ii p, ii t, sC A xs.length c, sC A2 ms.length c2]
 have hx0 := (Nx.refl w).alloc (.cells #[ii g, ii b, ii p, ii t, sC A xs.length c, sC A2 ms.length c2] 26)
 have b1 := b0.alloc (.cells #[ii g, ii b, ii p, ii t] 3)
 have hx1 := hx0.alloc (.cells #[ii g, ii b, ii p, ii t] 3)
 have hR1 := RowI.new4 (w.alloc (.cells #[ii g, ii b, ii p, ii t, sC A xs.length c, sC A2 ms.length c2] 26)) (B := w.heap.size) g b p t (by simp)
 simp only [World.size_alloc] at hR1
 have HX1 := qh hx1
 have HB1 := qh b1
 have HR1 := qh hR1
 clear hx1 b1 hR1 hx0 b0
 go_wp2_with (at_builtin; refine wpList_app4I rfl _ _ rfl w.heap.size (w.heap.size + 1) A c [g, b, p, t] xs rfl rfl rfl HR1.out (h.below HX1.out hB) oM HX1.out.size ?_)
 intro A' k' w2 hR2' hG2
 have hx2 := hG2.nx w HX1.out nle
 have b2 := hG2.box _ _ _ dC HB1.out
 clear HX1 HB1 HR1 hG2
 have hR2 : RowI w2 w.heap.size (sC A' (xs.length + 4) k') (supL g b p t xs) := hR2'
 clear hR2'
 obtain ⟨A5, c5', he5, hS5⟩ := hR2.sl
 clear hR2
 rw [supL_len] at he5 hS5
 injection he5 with e5 _ e6
 subst e5 e6
 have hrow := supN_row HK.out (supN_len g b p t xs).symm hS5.row
 have Hl := qh (supN_len g b p t xs)
 rw [<- Hl.out]
 go_wp2_with fail
 obtain ⟨nS, HnS⟩ := nM (numsS (supN g b p t xs))
 obtain ⟨jS, HjS⟩ := nM (jn (wds ms))
 have hns : nS.size <= 144 := by rw [<- HnS.out, numsS_size, Hl.out]; omega
 have hjs : jS.size <= 56 := by rw [<- HjS.out]; have := jn_all (wds_size HM.out); rw [wds_len] at this; omega
 have h124 : (⟨#[124]⟩ : BA).size = 1 := rfl
 have k5 := b2.d6.2.2.2.2.2
 refine wp_planA (.t 0 (.t 3 (.t 4 (.c 1 (.t 2 (.c 5 (.t 6 (.c 7 (.t 8 .e))))))))) (fun w' => CC w' w.heap.size 5 (sC A2 ms.length c2)) (by exact k5) ?_
 simp only [psOf, List.getD_cons_zero, List.getD_cons_succ]
 iterate 3 (refine HP.tk ?_; (try simp only [Act.put, qqA, qqB, qqC]))
 refine hPc fun K hK => ?_
 go_simp
 refine (numbersText_c A' _ _ (supN g b p t xs) _ (hrow.below (Nx.refl w2).drew nle) nle (supN_all HK.out) (by have := Hl.out; omega) (by have := Hl.out; omega)).mono ?_
 rintro e w3 ⟨he, hnx3⟩
 have he' := he.trans (ret_str HnS.out)
 subst he'
 clear he
 have b3 := b2.nx (Nx.drew_r hnx3)
 have hx3 := hx2.trans (Nx.drew_r hnx3)
 go_wp2_with fail
 refine hK.out _ _ (by exact b3.d6.2.2.2.2.2) ?_
 clear hK K
 refine nZ ?_
 refine HP.take (v := .string (nS ++ ⟨#[124]⟩)) (by rfl) (fun W _ => addS_run rfl rfl rfl oM) ?_
 refine nZ ?_
 refine hPc fun K hK => ?_
 go_simp
 refine (marksText_c A2 c2 B ms _ (h2.below hx3 hB) (ntr hB hx3.size) HM.out (HT.out.nx hx3)).mono ?_
 rintro e w4 ⟨he, hnx4⟩
 have he' := he.trans (ret_str HjS.out)
 subst he'
 clear he
 have b4 := b3.nx hnx4
 have hx4 := hx3.trans hnx4
 go_wp2_with fail
 refine hK.out _ _ (by exact b4.d6.2.2.2.2.2) ?_
 clear hK K
 refine nZ ?_
 refine HP.take (v := .string (nS ++ ⟨#[124]⟩ ++ jS)) (by rfl) (fun W _ => addS_run rfl rfl rfl (by rw [ByteArray.size_append]; omega)) ?_
 refine nZ ?_
 refine hPc fun K hK => ?_
 go_simp
 have HZ := qh (show sealS (nS ++ ⟨#[124]⟩ ++ jS) = sealS (numsS (supN g b p t xs) ++ ⟨#[124]⟩ ++ jn (wds ms)) by rw [HnS.out, HjS.out])
 refine (sealed_c _ _ (by rw [ByteArray.size_append, ByteArray.size_append]; omega)).mono ?_
 rintro e w5 ⟨he, hnx5⟩
 have he' := he.trans (ret_str HZ.out)
 subst he'
 clear he
 have b5 := b4.nx hnx5
 have hx5 := hx4.trans hnx5
 go_wp2_with fail
 refine hK.out _ _ (by exact b5.d6.2.2.2.2.2) ?_
 clear hK K
 refine nZ ?_
 iterate 1 (refine HP.tk ?_; (try simp only [Act.put, qqA, qqB, qqC]))
 refine HP.done ?_
 go_wp2
 go_ret
 exact ⟨rfl, hx5⟩
theorem info_str : (Tryz.prog.info? 9).map (fun i => (i.zero, i.size, i.bytes)) = some (some (.string ByteArray.empty), 1, 16) := by kernel_rfl
theorem info_wr : (Tryz.prog.info? 102).map (fun i => (i.zero, i.size, i.bytes)) = some (some (.agg #[ii 0, .string ByteArray.empty]), 2, 24) := by kernel_rfl
theorem strAt_one (ss : List BA) (k : Nat) : (strAt ss k).oneCell' = true := rfl
theorem wrAt_one (ws : List (Int × BA)) (k : Nat) : (wrAt ws k).oneCell' = true := by unfold wrAt; split <;> rfl
theorem copyListS_c (A : Option Addr) (n c B : Nat) (ss : List BA) (w : World) (h : Strs w B A n ss) (hB : B <= w.heap.size) (hn : n <= 1048576) :
 Calls Tryz.prog 126 #[sC A n c] w (RetS w ss) := by
 rcases Nat.eq_zero_or_pos n with hz | hp
 . subst hz
   have HF := qh h.1
   go_enter func126, ntmps126
   go_wp2
   go_ret
   exact ⟨none, 0, 0, rfl, ⟨HF.out, fun h => absurd h oM⟩, Nx.refl _⟩
 have h0 : ((n : Int) == 0) = false := beq_eq_false_iff_ne.2 oM
 obtain ⟨i0, hi0, hz0, hz1, hz2⟩ := info_parts info_str
 have hmk := fun W => run_make_rowN (P := Tryz.prog) 32 9 i0 _ underlying32 hi0 hz0 .i64 .i64 n n nle (by rw [hz2]; omega) oM W
 rw [hz1] at hmk
 have hmade := Own.made w #[Value.string ByteArray.empty] n 9
 have hnx := (Nx.refl w).alloc (.cells (madeCells #[Value.string ByteArray.empty] n) 9)
 obtain ⟨w1, hrun, ho1, hnx1, _, _⟩ := run_copy_new (P := Tryz.prog) (w.alloc (.cells (madeCells #[Value.string ByteArray.empty] n) 9)) 32 32 3 9 i0 1 underlying32 hi0 hz1
  w.heap.size n n A n c B n 9 (strAt ss) _ hmade oM nle (by rw [Nat.mul_one]; exact (h.below hnx hB).2) (strAt_one ss)
 have hx1 := hnx1 w hnx nle
 have HO := qh (ho1.congr (f' := strAt ss) (fun k hk => by rw [if_pos oM]))
 clear ho1 hnx1 hmade
 go_enter func126, ntmps126
 go_wp2
 go_ret
 exact RetS.mk_own h.1 nle (by have := HO.out; rw [<- h.1] at this; exact this) hx1
theorem copyListW_c (A : Option Addr) (n c B : Nat) (ws : List (Int × BA)) (w : World) (h : Wrs w B A n ws) (hB : B <= w.heap.size) (hn : n <= 1048576) :
 Calls Tryz.prog 127 #[sC A n c] w (RetW w ws) := by
 rcases Nat.eq_zero_or_pos n with hz | hp
 . subst hz
   have HF := qh h.1
   go_enter func127, ntmps127
   go_wp2
   go_ret
   exact ⟨none, 0, 0, rfl, ⟨HF.out, fun h => absurd h oM⟩, Nx.refl _⟩
 have h0 : ((n : Int) == 0) = false := beq_eq_false_iff_ne.2 oM
 obtain ⟨i0, hi0, hz0, hz1, hz2⟩ := info_parts info_wr
 have hmk := fun W => run_make_rowN (P := Tryz.prog) 33 102 i0 _ underlying33 hi0 hz0 .i64 .i64 n n nle (by rw [hz2]; omega) oM W
 rw [hz1] at hmk
 have hmade := Own.made w #[Value.int .i64 0, Value.string ByteArray.empty] (n * 2) 102
 have hnx := (Nx.refl w).alloc (.cells (madeCells #[Value.int .i64 0, Value.string ByteArray.empty] (n * 2)) 102)
 obtain ⟨w1, hrun, ho1, hnx1, _, _⟩ := run_copy_new (P := Tryz.prog) (w.alloc (.cells (madeCells #[Value.int .i64 0, Value.string ByteArray.empty] (n * 2)) 102)) 33 33 3 102 i0 2 underlying33 hi0 hz1
  w.heap.size n n A n c B (n * 2) 102 (wrAt ws) _ hmade nle nle (h.below hnx hB).2 (wrAt_one ws)
 have hx1 := hnx1 w hnx nle
 have HO := qh (ho1.congr (f' := wrAt ws) (fun k hk => by rw [if_pos oM]))
 clear ho1 hnx1 hmade
 go_enter func127, ntmps127
 go_wp2
 go_ret
 exact RetW.mk_own h.1 nle (by have := HO.out; rw [<- h.1] at this; exact this) hx1
theorem copied_c (A A2 : Option Addr) (n c n2 c2 B : Nat) (ss : List BA) (ws : List (Int × BA)) (w : World) (h : Strs w B A n ss) (h2 : Wrs w B A2 n2 ws) (hB : B <= w.heap.size) (hn : n <= 1048576) (hn2 : n2 <= 1048576) :
 Calls Tryz.prog 55 #[.agg #[sC A n c, sC A2 n2 c2]] w (RetDisk w ss ws) := by
 go_enter func55, ntmps55
 go_wp2_with fail
 have b0 := (Box.new w 35 #[sC A n c, sC A2 n2 c2]).alloc (.cells #[nsl, nsl] 35)
 have r0 := Box.new (w.alloc (.cells #[sC A n c, sC A2 n2 c2] 35)) 35 #[nsl, nsl]
 have hnx0 := ((Nx.refl w).alloc (.cells #[sC A n c, sC A2 n2 c2] 35)).alloc (.cells #[nsl, nsl] 35)
 simp only [World.size_alloc] at r0
 generalize (w.alloc (.cells #[sC A n c, sC A2 n2 c2] 35)).alloc (.cells #[nsl, nsl] 35) = W at *
 have rd : Nx w W.drew := hnx0.drew
 have b1 : Box W.drew w.heap.size 35 #[sC A n c, sC A2 n2 c2] := b0
 have r1 : Box W.drew (w.heap.size + 1) 35 #[nsl, nsl] := r0
 have c0 := b1.c0
 have c1 := b1.c1
 go_region_held3 (fun w' => w'.cell? ⟨w.heap.size, 0, none⟩ = some (sC A n c) /\ w'.cell? ⟨w.heap.size, 1, none⟩ = some (sC A2 n2 c2)) (first | exact ⟨c0, c1⟩ | exact ⟨k0, k1⟩ | exact ⟨l0, l1⟩ | exact ⟨m0, m1⟩)
  (first
   | (go_at_call 126; refine (copyListS_c A n c B ss _ (h.below rd hB) (ntr hB rd.size) hn).mono ?_; rintro e u1 ⟨A3, n3, c3, rfl, hS3, hx3⟩; have k0 := (b1.nx hx3).c0; have k1 := (b1.nx hx3).c1; have rd3 := rd.trans hx3)
   | (go_at_call 127; refine (copyListW_c A2 n2 c2 B ws _ (h2.below rd3 hB) (ntr hB rd3.size) hn2).mono ?_; rintro e u2 ⟨A4, n4, c4, rfl, hW4, hx4⟩; have l0 := ((b1.nx hx3).nx hx4).c0; have l1 := ((b1.nx hx3).nx hx4).c1; have r2 := (r1.nx hx3).nx hx4; have s0 := r2.c0; have s1 := r2.c1; have f0 := r2.frozen 0; have f1 := r2.frozen 1; have m0 := (((((b1.nx hx3).nx hx4).far (p := ⟨w.heap.size + 1, 0, none⟩) (by simp) (sC A3 n3 c3))).far (p := ⟨w.heap.size + 1, 1, none⟩) (by simp) (sC A4 n4 c4)).c0; have m1 := (((((b1.nx hx3).nx hx4).far (p := ⟨w.heap.size + 1, 0, none⟩) (by simp) (sC A3 n3 c3))).far (p := ⟨w.heap.size + 1, 1, none⟩) (by simp) (sC A4 n4 c4)).c1))
 have hsz := r1.lt
 have hsz1 := hx3.size
 obtain ⟨q0, q1, hSf, hWf, hxf⟩ := fin_box c3 c4 r2 (hS3.nx hx4) hW4 hsz oM (rd3.trans hx4) oM
 clear m0 m1 l0 l1 k0 k1 c0 c1 s0 s1 f0 f1
 generalize (u2.setCell ⟨w.heap.size + 1, 0, none⟩ (sC A3 n3 c3)).setCell ⟨w.heap.size + 1, 1, none⟩ (sC A4 n4 c4) = Wf at *
 go_wp2
 exact bodyPost_ret (v := .agg #[sC A3 n3 c3, sC A4 n4 c4]) (by simp [results, results55, go_sem, q0, q1]) rfl ⟨A3, n3, c3, A4, n4, c4, rfl, hSf, hWf, hxf⟩
theorem wrAt_snoc (ws : List (Int × BA)) (x : Int) (t : BA) (k : Nat) (hk : k < (ws.length + 1) * 2) :
 wrAt (ws ++ [(x, t)]) k = if k = ws.length * 2 + 1 then .string t else if k = ws.length * 2 then ii x else wrAt ws k := by
 have hlast : (ws ++ [(x, t)]).getD ws.length (0, ByteArray.empty) = (x, t) := by
  rw [gdE, List.getElem?_append_right nle]; simp
 by_cases h1 : k = ws.length * 2 + 1
 . subst h1; rw [if_pos rfl, wrAt_odd, hlast]
 . rw [if_neg h1]
   by_cases h2 : k = ws.length * 2
   . subst h2; rw [if_pos rfl, wrAt_even, hlast]
   . rw [if_neg h2]
     unfold wrAt
     have hd : (ws ++ [(x, t)]).getD (k / 2) (0, ByteArray.empty) = ws.getD (k / 2) (0, ByteArray.empty) := by
      rw [gdE, gdE, List.getElem?_append_left oM]
     rw [hd]
theorem written_c (A A2 : Option Addr) (n c n2 c2 B : Nat) (ss : List BA) (ws : List (Int × BA)) (x : Int) (t : BA) (w : World) (h : Strs w B A n ss) (h2 : Wrs w B A2 n2 ws) (hB : B <= w.heap.size) (hn : n <= 1048575) (hn2 : n2 <= 1048575) :
 Calls Tryz.prog 125 #[.agg #[sC A n c, sC A2 n2 c2], ii x, .string t] w (RetDisk w ss (ws ++ [(x, t)])) := by
 obtain ⟨i0, hi0, hz0, hz1, hz2⟩ := info_parts info_wr
 have hmk := fun W => run_make_rowN (P := Tryz.prog) 33 102 i0 _ underlying33 hi0 hz0 .i64 .i64 (n2 + 1) (n2 + 1) nle (by rw [hz2]; omega) oM W
 rw [hz1] at hmk
 have ec : ((n2 + 1 : Nat) : Int) = (n2 : Int) + 1 := oM
 rw [ec] at hmk
 clear ec
 go_enter func125, ntmps125
 go_wp2
 have b0 := ((Box.new w 35 #[sC A n c, sC A2 n2 c2]).alloc (.cells #[nsl, nsl] 35)).alloc (.cells (madeCells #[Value.int .i64 0, Value.string ByteArray.empty] ((n2 + 1) * 2)) 102)
 have r0 := (Box.new (w.alloc (.cells #[sC A n c, sC A2 n2 c2] 35)) 35 #[nsl, nsl]).alloc (.cells (madeCells #[Value.int .i64 0, Value.string ByteArray.empty] ((n2 + 1) * 2)) 102)
 have m0 := Own.made ((w.alloc (.cells #[sC A n c, sC A2 n2 c2] 35)).alloc (.cells #[nsl, nsl] 35)) #[Value.int .i64 0, Value.string ByteArray.empty] ((n2 + 1) * 2) 102
 have hnx0 := (((Nx.refl w).alloc (.cells #[sC A n c, sC A2 n2 c2] 35)).alloc (.cells #[nsl, nsl] 35)).alloc (.cells (madeCells #[Value.int .i64 0, Value.string ByteArray.empty] ((n2 + 1) * 2)) 102)
 simp only [World.size_alloc] at r0 m0
 generalize (((w.alloc (.cells #[sC A n c, sC A2 n2 c2] 35)).alloc (.cells #[nsl, nsl] 35)).alloc (.cells (madeCells #[Value.int .i64 0, Value.string ByteArray.empty] ((n2 + 1) * 2)) 102)) = W at *
 obtain ⟨w1, hrun, ho1, hnx1, hsz1, hoth⟩ := run_copy_new (P := Tryz.prog) W 33 33 3 102 i0 2 underlying33 hi0 hz1
  (w.heap.size + 1 + 1) (n2 + 1) (n2 + 1) A2 n2 c2 B ((n2 + 1) * 2) 102 (wrAt ws) _ m0 nle oM (h2.below hnx0 hB).2 (wrAt_one ws)
 rw [hrun]
 have b1 : Box w1 w.heap.size 35 #[sC A n c, sC A2 n2 c2] := (hoth _ oM).trans b0
 have r1 : Box w1 (w.heap.size + 1) 35 #[nsl, nsl] := (hoth _ oM).trans r0
 have hx1 := hnx1 w hnx0 oM
 clear hrun hmk hnx0 hnx1 b0 r0 hoth
 have HZ := qh hsz1
 have mlt := m0.lt
 clear m0 hsz1
 have c0 := b1.c0
 have c1 := b1.c1
 have e0 := ho1.cell (i := n2 * 2) oM
 have e1 := ho1.cell (i := n2 * 2 + 1) oM
 have g0 := ho1.frozen (n2 * 2)
 have g1 := ho1.frozen (n2 * 2 + 1)
 obtain ⟨v0, hv0⟩ : ∃ v, w1.cell? ⟨w.heap.size + 1 + 1, n2 * 2, none⟩ = some v := ⟨_, e0⟩
 obtain ⟨v1, hv1⟩ : ∃ v, w1.cell? ⟨w.heap.size + 1 + 1, n2 * 2 + 1, none⟩ = some v := ⟨_, e1⟩
 clear e0 e1
 go_wp2_with fail
 have ho2 := (ho1.set (k := n2 * 2) oM (ii x)).set (k := n2 * 2 + 1) oM (.string t)
 have ho3 : OwnW ((w1.setCell ⟨w.heap.size + 1 + 1, n2 * 2, none⟩ (ii x)).setCell ⟨w.heap.size + 1 + 1, n2 * 2 + 1, none⟩ (.string t)) (w.heap.size + 1 + 1) (ws ++ [(x, t)]) := by
  unfold OwnW
  rw [List.length_append, h2.1]
  refine ho2.congr fun k hk => ?_
  rw [wrAt_snoc ws x t k (by rw [h2.1]; exact hk), h2.1]
  by_cases k1 : k = n2 * 2 + 1
  . rw [if_pos k1, if_pos k1]
  . rw [if_neg k1, if_neg k1]
    by_cases k2 : k = n2 * 2
    . rw [if_pos k2, if_pos k2]
    . rw [if_neg k2, if_neg k2, if_pos oM]
 have b2 := (b1.far (p := ⟨w.heap.size + 1 + 1, n2 * 2, none⟩) sM (ii x)).far (p := ⟨w.heap.size + 1 + 1, n2 * 2 + 1, none⟩) sM (.string t)
 have r2 := (r1.far (p := ⟨w.heap.size + 1 + 1, n2 * 2, none⟩) (by simp) (ii x)).far (p := ⟨w.heap.size + 1 + 1, n2 * 2 + 1, none⟩) (by simp) (.string t)
 have hx2 := (hx1.setCell (p := ⟨w.heap.size + 1 + 1, n2 * 2, none⟩) sM (ii x)).setCell (p := ⟨w.heap.size + 1 + 1, n2 * 2 + 1, none⟩) sM (.string t)
 generalize (w1.setCell ⟨w.heap.size + 1 + 1, n2 * 2, none⟩ (ii x)).setCell ⟨w.heap.size + 1 + 1, n2 * 2 + 1, none⟩ (.string t) = w2 at *
 clear ho1 ho2 b1 r1 hx1 hv0 hv1 g0 g1 c0 c1
 refine (copyListS_c A n c B ss _ (h.below hx2 hB) (ntr hB hx2.size) oM).mono ?_
 rintro e w3 ⟨A3, n3, c3, rfl, hS3, hx3⟩
 have r3 := r2.nx hx3
 have ho4 := Own.nx ho3 hx3
 have s0 := r3.c0
 have s1 := r3.c1
 have f0 := r3.frozen 0
 have f1 := r3.frozen 1
 have hlt3 := Own.lt ho3
 have hW4 : SlW w3 (w.heap.size + 1 + 1) (some ⟨w.heap.size + 1 + 1, 0, none⟩) (n2 + 1) (ws ++ [(x, t)]) := ⟨by rw [List.length_append, h2.1]; rfl, fun _ => ⟨_, rfl, Nat.le_refl _, ho4⟩⟩
 obtain ⟨q0, q1, hSf, hWf, hxf⟩ := fin_box c3 (n2 + 1) r3 hS3 hW4 oM oM (hx2.trans hx3) oM
 go_wp2
 generalize (w3.setCell ⟨w.heap.size + 1, 0, none⟩ (sC A3 n3 c3)).setCell ⟨w.heap.size + 1, 1, none⟩ (sC (some ⟨w.heap.size + 1 + 1, 0, none⟩) (n2 + 1) (n2 + 1)) = Wf at *
 exact bodyPost_ret (v := .agg #[sC A3 n3 c3, sC (some ⟨w.heap.size + 1 + 1, 0, none⟩) (n2 + 1) (n2 + 1)]) (by simp [results, results125, go_sem, q0, q1]) rfl ⟨A3, n3, c3, _, n2 + 1, n2 + 1, rfl, hSf, hWf, hxf⟩
theorem own_of_owns {w : World} {base : Nat} {e : TypeId} {size n : Nat} {v : Value} {N : Nat} {f : Nat -> Value} (h : w.ownsRow base e size v n ((List.range N).map f)) (hn : 0 < n) (hN : N = n * size) :
 ∃ g cap, v = sC (some ⟨g, 0, none⟩) n cap /\ base <= g /\ Own w g e N f := by
 rcases h.2 with ⟨_, h0⟩ | ⟨g, cap, cur, hv, hb, hg, hnc, _, hsz, htake⟩
 . omega
 . refine ⟨g, cap, hv, hb, cur, hg, ?_, fun i hi => ?_⟩
   . rw [hsz, hN]; exact Nat.mul_le_mul_right _ hnc
   . have : (cur.toList.take (n * size))[i]? = some (f i) := by
      rw [htake, List.getElem?_map, List.getElem?_range hi]; rfl
     rw [List.getElem?_take_of_lt oM] at this
     simpa using this
theorem owns_empty (w : World) (g e : Nat) (size base : Nat) (hb : base <= g) (hg : w.heap[g]? = some (.cells #[] e (0, 0))) : w.ownsRow base e size (sC (some ⟨g, 0, none⟩) 0 0) 0 [] :=
 ⟨by simp, .inr ⟨g, 0, #[], rfl, hb, hg, Nat.le_refl _, by unfold maxLen; omega, by simp, by simp⟩⟩
theorem owns_base {w : World} {base : Nat} {e : TypeId} {size n : Nat} {v : Value} {xs : List Value} (h : w.ownsRow base e size v n xs) : ∀ k, v.ownBlock = some k -> base <= k := by
 intro k hk
 rcases h.2 with ⟨rfl, _⟩ | ⟨g, cap, cur, rfl, hb, _⟩
 . simp [Value.ownBlock] at hk
 . simp [Value.ownBlock] at hk; omega
theorem NewRow.slS {w u : World} {A : Option Addr} {n : Nat} {ss : List BA} (h : NewRow w u 9 1 A n (strAt ss)) (hl : ss.length = n) : SlS u w.heap.size A n ss :=
 ⟨hl, fun hn => by
  obtain ⟨g, e, hg, ho⟩ := h.2 hn
  refine ⟨g, e, hg, ?_⟩
  unfold OwnS
  rw [hl]
  rw [Nat.mul_one] at ho
  exact ho⟩
theorem NewRow.slW {w u : World} {A : Option Addr} {n : Nat} {ws : List (Int × BA)} (h : NewRow w u 102 2 A n (wrAt ws)) (hl : ws.length = n) : SlW u w.heap.size A n ws :=
 ⟨hl, fun hn => by
  obtain ⟨g, e, hg, ho⟩ := h.2 hn
  refine ⟨g, e, hg, ?_⟩
  unfold OwnW
  rw [hl]
  exact ho⟩
def RetWrite (w : World) (A : Option Addr) (n c : Nat) (ws : List (Int × BA)) (e : Ending) (w' : World) : Prop :=
 ∃ (A2 : Option Addr) (n2 c2 : Nat), e = .returned (.agg #[sC A n c, sC A2 n2 c2]) /\ SlW w' w.heap.size A2 n2 ws /\ Nx w w'
theorem run_append_row {P : Program} (w : World) (base : Nat) (t ty e : TypeId) (i : TypeInfo) (z : Value) (size bytes : Nat) (ht : P.underlying t = some (.slice e)) (hi : P.info? e = some i) (hz : i.zero = some z)
 (hsize : i.size = size) (hby : i.bytes = bytes) (hzs : z.cells.size = size) (hsz : 0 < size) (v : Value) (n : Nat) (xs : List Value) (hown : w.ownsRow base e size v n xs)
 (A : Option Addr) (m c B : Nat) (f : Nat -> Value) (hrow : Row w B A (m * size) f) (h1 : ∀ k, (f k).oneCell' = true) (h63 : n + m <= maxLen) (hbytes : (n + m) * bytes <= 140737488355328) (hbase : base <= w.heap.size) :
 ∃ v' w', (Builtin.append_ #[t, t] ty #[v, sC A m c]).run P w = .ok v' w' /\ w'.ownsRow base e size v' (n + m) (xs ++ (List.range (m * size)).map f) /\ w.grownBy w' v.ownBlock := by
 rcases A with _ | a
 . have hm : m = 0 := by
    rcases Nat.eq_zero_or_pos m with h0 | h0
    . exact h0
    . obtain ⟨b, off, h, _⟩ := hrow (Nat.mul_pos h0 hsz)
      cases h
   subst hm
   refine ⟨v, w, ?_, by simpa using hown, World.grownBy.refl w _⟩
   rcases hown.2 with ⟨rfl, rfl⟩ | ⟨g, cap, cur, rfl, _, _, hnc, _⟩
   . simp [Builtin.append_, run_underlying ht, sizeOf, typeInfo, hi, Builtin.lenOf, Builtin.firstCells]
   . simp [Builtin.append_, run_underlying ht, sizeOf, typeInfo, hi, Builtin.lenOf, Builtin.firstCells, hnc, storeCells]
 . obtain ⟨v', w', hr, h2, h3, _⟩ := run_append_own (P := P) w base t ty e i z size bytes ht hi hz hsize hby hzs hsz v n xs hown a m c ((List.range (m * size)).map f) (by simp) (fun j u h => by
    obtain ⟨hj, rfl⟩ := cells_list _ _ _ _ h
    obtain ⟨b, off, e1, _, hc⟩ := hrow oM
    injection e1 with e1
    subst e1
    rw [addr_add']; exact hc j hj) (fun u hu => by
    simp only [List.mem_map, List.mem_range] at hu
    obtain ⟨k, _, rfl⟩ := hu
    exact h1 k) h63 hbytes hbase
   exact ⟨v', w', hr, h2, h3⟩
theorem wpList_append_row {P : Program} {ops : Array Oper} {rest : List Oper} {o : Oper} {a : Act} {w : World} {Q : Exit -> Act -> World -> Prop} (hgd : o.guard = none) (s x : Operand) (t : TypeId) (ho : o.op = .call { callee := .builtin .append, args := #[s, x], argTypes := #[t, t] })
 (base : Nat) (e : TypeId) (i : TypeInfo) (z : Value) (size bytes : Nat) (ht : P.underlying t = some (.slice e)) (hi : P.info? e = some i) (hz : i.zero = some z)
 (hsize : i.size = size) (hby : i.bytes = bytes) (hzs : z.cells.size = size) (hsz : 0 < size) (v : Value) (n : Nat) (xs : List Value) (hs : a.eval s = v) (hown : w.ownsRow base e size v n xs)
 (A : Option Addr) (m c B : Nat) (f : Nat -> Value) (hx : a.eval x = sC A m c) (hrow : Row w B A (m * size) f) (h1 : ∀ k, (f k).oneCell' = true) (h63 : n + m <= maxLen) (hbytes : (n + m) * bytes <= 140737488355328) (hbase : base <= w.heap.size)
 (h : ∀ v' w', w'.ownsRow base e size v' (n + m) (xs ++ (List.range (m * size)).map f) -> w.grownBy w' v.ownBlock -> wpList P ops Q rest (a.put o.dst v') w') : wpList P ops Q (o :: rest) a w :=
 wpList_plain hgd fun K hK => by
  obtain ⟨v', w', hrun, h2, h3⟩ := run_append_row (P := P) w base t o.type e i z size bytes ht hi hz hsize hby hzs hsz v n xs hown A m c B f hrow h1 h63 hbytes hbase
  unfold Oper.wp execOp
  simp only [ho, resolve, invoke, builtin, Sem.run_bind, Sem.run_pure, Result.andThen_ok, List.map_toArray, List.map_cons, List.map_nil, hs, hx, hrun]
  exact hK _ _ (h v' w' h2 h3)
def oneW (x : Int) (t : BA) (i : Nat) : Value := if i = 0 then ii x else .string t
theorem oneW_one (x : Int) (t : BA) (k : Nat) : (oneW x t k).oneCell' = true := by unfold oneW; split <;> rfl
theorem wr_list (ws : List (Int × BA)) (x : Int) (t : BA) :
 (List.range (ws.length * 2)).map (wrAt ws) ++ (List.range 2).map (oneW x t) = (List.range ((ws.length + 1) * 2)).map (wrAt (ws ++ [(x, t)])) := by
 apply List.ext_getElem?
 intro k
 by_cases hk : k < (ws.length + 1) * 2
 . rw [List.getElem?_map (l := List.range ((ws.length + 1) * 2)), List.getElem?_range hk, Option.map_some, wrAt_snoc ws x t k hk]
   by_cases h1 : k < ws.length * 2
   . rw [List.getElem?_append_left (by simpa using h1), List.getElem?_map, List.getElem?_range h1, Option.map_some, if_neg oM, if_neg oM]
   . rw [List.getElem?_append_right (by simpa using h1), List.getElem?_map, List.length_map, List.length_range, List.getElem?_range oM, Option.map_some]
     unfold oneW
     by_cases h2 : k = ws.length * 2
     . rw [if_pos oM, if_neg oM, if_pos h2]
     . rw [if_neg oM, if_pos oM]
 . rw [List.getElem?_eq_none sM, List.getElem?_eq_none sM]
theorem box_row {w : World} {g : Nat} {ty : TypeId} {x : Int} {t : BA} (h : Box w g ty #[ii x, .string t]) : Row w w.heap.size (some ⟨g, 0, none⟩) (1 * 2) (oneW x t) := fun _ =>
 ⟨g, 0, rfl, h.lt, fun i hi => by
  rw [Nat.zero_add]
  rcases (show i = 0 \/ i = 1 by omega) with rfl | rfl
  . exact h.c0
  . exact h.c1⟩
theorem l01Write_c (A A2 : Option Addr) (n c n2 c2 B : Nat) (ws : List (Int × BA)) (x : Int) (t : BA) (w : World) (h2 : Wrs w B A2 n2 ws) (hB : B <= w.heap.size) (hn2 : n2 <= 1048575) :
 Calls Tryz.prog 131 #[.agg #[sC A n c, sC A2 n2 c2], ii x, .string t] w (RetWrite w A n c (ws ++ [(x, t)])) := by
 obtain ⟨i0, hi0, hz0, hz1, hz2⟩ := info_parts info_wr
 have b0 := ((Box.new w 35 #[sC A n c, sC A2 n2 c2]).alloc (.cells #[nsl, nsl] 35)).alloc (.cells #[] 102)
 have r0 := (Box.new (w.alloc (.cells #[sC A n c, sC A2 n2 c2] 35)) 35 #[nsl, nsl]).alloc (.cells #[] 102)
 have m0 := Box.new ((w.alloc (.cells #[sC A n c, sC A2 n2 c2] 35)).alloc (.cells #[nsl, nsl] 35)) 102 #[]
 have hnx0 := (((Nx.refl w).alloc (.cells #[sC A n c, sC A2 n2 c2] 35)).alloc (.cells #[nsl, nsl] 35)).alloc (.cells #[] 102)
 simp only [World.size_alloc] at r0 m0
 have hown0 := owns_empty _ (w.heap.size + 1 + 1) 102 2 (w.heap.size + 1 + 1) nle m0
 go_enter func131, ntmps131
 go_wp2_with (at_builtin; refine wpList_append_row rfl (.tmp 7) (.tmp 9) 33 rfl (w.heap.size + 1 + 1) 102 i0 _ 2 24 underlying33 hi0 hz0 hz1 hz2 rfl oM (sC (some ⟨w.heap.size + 1 + 1, 0, none⟩) 0 0) 0 [] rfl hown0 A2 n2 c2 B (wrAt ws) rfl (h2.below hnx0 hB).2 (wrAt_one ws) ?c1 ?c2 ?c3 ?_)
 case c1 => unfold maxLen; omega
 case c2 => omega
 case c3 => simp
 intro v1 w1 hown1 hg1
 have b1 := b0.grown hg1 (by simp [Value.ownBlock]; omega)
 have r1 := r0.grown hg1 (by simp [Value.ownBlock])
 have hx1 : Nx w w1 := Below.grown hnx0 hg1 hnx0.size (fun k hk => by simp [Value.ownBlock] at hk; omega)
 have hsz1 : w.heap.size + 1 + 1 + 1 <= w1.heap.size := by have := hg1.size; simpa using this
 clear b0 r0 m0 hnx0 hown0 hg1
 have b2 := b1.alloc (.cells #[ii x, .string t] 102)
 have r2 := r1.alloc (.cells #[ii x, .string t] 102)
 have hx2 := hx1.alloc (.cells #[ii x, .string t] 102)
 have n0 := Box.new w1 102 #[ii x, .string t]
 have hown2 := hown1.alloc (.cells #[ii x, .string t] 102)
 go_wp2_with (at_builtin; refine wpList_append_row rfl (.tmp 10) (.tmp 14) 33 rfl (w.heap.size + 1 + 1) 102 i0 _ 2 24 underlying33 hi0 hz0 hz1 hz2 rfl oM v1 n2 _ rfl hown2 (some ⟨w1.heap.size, 0, none⟩) 1 1 _ (oneW x t) rfl (box_row n0) (oneW_one x t) ?c1 ?c2 ?c3 ?_)
 case c1 => unfold maxLen; omega
 case c2 => omega
 case c3 => simp; omega
 intro v2 w2 hown3 hg2
 have hbs := owns_base hown1
 have b3 := b2.grown hg2 (fun e => by have := hbs _ e.symm; omega)
 have r3 := r2.grown hg2 (fun e => by have := hbs _ e.symm; omega)
 have hx3 : Nx w w2 := Below.grown hx2 hg2 hx2.size (fun k hk => by have := hbs k hk; omega)
 have hl2 := wr_list ws x t
 rw [h2.1] at hl2
 rw [show ([oneW x t 0, oneW x t 1] : List Value) = (List.range 2).map (oneW x t) from rfl, hl2] at hown3
 obtain ⟨g, cap, rfl, hg, ho⟩ := own_of_owns hown3 oM rfl
 clear b2 r2 hx2 n0 hown2 hown1 hown3 hg2 hbs b1 r1 hl2
 have c0 := b3.c0
 have c1 := b3.c1
 have f1 := b3.frozen 1
 have s0 := r3.c0
 have s1 := r3.c1
 have k0 := r3.frozen 0
 have k1 := r3.frozen 1
 have olt := ho.lt
 go_wp2
 have b4 := b3.set1 (sC (some ⟨g, 0, none⟩) (n2 + 1) cap)
 have r4 := r3.far (p := ⟨w.heap.size, 1, none⟩) (by simp) (sC (some ⟨g, 0, none⟩) (n2 + 1) cap)
 have o4 := ho.far (p := ⟨w.heap.size, 1, none⟩) sM (sC (some ⟨g, 0, none⟩) (n2 + 1) cap)
 have hx4 := hx3.setCell (p := ⟨w.heap.size, 1, none⟩) (by simp) (sC (some ⟨g, 0, none⟩) (n2 + 1) cap)
 have q := (r4.set0 (sC A n c)).set1 (sC (some ⟨g, 0, none⟩) (n2 + 1) cap)
 have q0 := q.c0
 have q1 := q.c1
 have o5 := (o4.far (p := ⟨w.heap.size + 1, 0, none⟩) sM (sC A n c)).far (p := ⟨w.heap.size + 1, 1, none⟩) sM (sC (some ⟨g, 0, none⟩) (n2 + 1) cap)
 have hx5 := (hx4.setCell (p := ⟨w.heap.size + 1, 0, none⟩) (by simp) (sC A n c)).setCell (p := ⟨w.heap.size + 1, 1, none⟩) (by simp) (sC (some ⟨g, 0, none⟩) (n2 + 1) cap)
 generalize ((w2.setCell ⟨w.heap.size, 1, none⟩ (sC (some ⟨g, 0, none⟩) (n2 + 1) cap)).setCell ⟨w.heap.size + 1, 0, none⟩ (sC A n c)).setCell ⟨w.heap.size + 1, 1, none⟩ (sC (some ⟨g, 0, none⟩) (n2 + 1) cap) = Wf at *
 exact bodyPost_ret (v := .agg #[sC A n c, sC (some ⟨g, 0, none⟩) (n2 + 1) cap]) (by simp [results, results131, go_sem, q0, q1]) rfl
  ⟨_, n2 + 1, cap, rfl, ⟨by rw [List.length_append, h2.1]; rfl, fun _ => ⟨g, rfl, oM, by unfold OwnW; rw [List.length_append, h2.1]; exact o5⟩⟩, hx5⟩
theorem l01Own_c (A A2 : Option Addr) (n c n2 c2 B : Nat) (ss : List BA) (ws : List (Int × BA)) (w : World) (h : Strs w B A n ss) (h2 : Wrs w B A2 n2 ws) (hB : B <= w.heap.size) (hn : n <= 1048576) (hn2 : n2 <= 1048576) :
 Calls Tryz.prog 59 #[.agg #[sC A n c, sC A2 n2 c2]] w (RetDisk w ss ws) := by
 obtain ⟨i0, hi0, hz0, hz1, hz2⟩ := info_parts info_wr
 obtain ⟨j0, hj0, hy0, hy1, hy2⟩ := info_parts info_str
 go_enter func59, ntmps59
 go_wp2_with fail
 have b0 := (Box.new w 35 #[sC A n c, sC A2 n2 c2]).alloc (.cells #[nsl, nsl] 35)
 have r0 := Box.new (w.alloc (.cells #[sC A n c, sC A2 n2 c2] 35)) 35 #[nsl, nsl]
 have hnx0 := ((Nx.refl w).alloc (.cells #[sC A n c, sC A2 n2 c2] 35)).alloc (.cells #[nsl, nsl] 35)
 simp only [World.size_alloc] at r0
 generalize (w.alloc (.cells #[sC A n c, sC A2 n2 c2] 35)).alloc (.cells #[nsl, nsl] 35) = W at *
 have c0 := b0.c0
 have c1 := b0.c1
 have hne := World.new_ne W _ c0
 go_region_held3 (fun w' => w'.cell? ⟨w.heap.size, 0, none⟩ = some (sC A n c) /\ w'.cell? ⟨w.heap.size, 1, none⟩ = some (sC A2 n2 c2)) (first | exact ⟨c0, c1⟩ | exact ⟨Box.c0 (b0.alloc _), Box.c1 (b0.alloc _)⟩ | exact ⟨Box.c0 ((b0.alloc _).alloc _), Box.c1 ((b0.alloc _).alloc _)⟩ | exact ⟨Box.c0 bu, Box.c1 bu⟩ | exact ⟨Box.c0 (bu.alloc _), Box.c1 (bu.alloc _)⟩ | exact ⟨Box.c0 bv, Box.c1 bv⟩ | exact ⟨z0, z1⟩)
  (first
   | (refine step_append_new ?_ (.tmp 3) (.tmp 5) 32 ?_ 9 j0 _ 1 16 underlying32 hj0 hy0 hy1 hy2 dC dC (W.heap.size) A n c B (strAt ss) ?_ ?_ ?_ hn ?_
      . rfl
      . rfl
      . rfl
      . rfl
      . rw [Nat.mul_one]; refine (h.below (B' := w.heap.size) ?_ hB).2; first | exact (hnx0.alloc _).drew | exact ((hnx0.alloc _).alloc _).drew
      intro A3 c3 u1 hN3
      have bu : Box u1 w.heap.size 35 #[sC A n c, sC A2 n2 c2] := by refine Box.nx ?_ hN3.1; first | exact b0.alloc _ | exact (b0.alloc _).alloc _
      have ru : Box u1 (w.heap.size + 1) 35 #[nsl, nsl] := by refine Box.nx ?_ hN3.1; first | exact r0.alloc _ | exact (r0.alloc _).alloc _
      have xu : Nx w u1 := by refine Nx.trans ?_ hN3.1; first | exact (hnx0.alloc _).drew | exact ((hnx0.alloc _).alloc _).drew)
   | (refine step_append_new ?_ (.tmp 3) (.tmp 5) 32 ?_ 9 j0 _ 1 16 underlying32 hj0 hy0 hy1 hy2 dC dC (W.heap.size + 1) A n c B (strAt ss) ?_ ?_ ?_ hn ?_
      . rfl
      . rfl
      . rfl
      . rfl
      . rw [Nat.mul_one]; refine (h.below (B' := w.heap.size) ?_ hB).2; first | exact (hnx0.alloc _).drew | exact ((hnx0.alloc _).alloc _).drew
      intro A3 c3 u1 hN3
      have bu : Box u1 w.heap.size 35 #[sC A n c, sC A2 n2 c2] := by refine Box.nx ?_ hN3.1; first | exact b0.alloc _ | exact (b0.alloc _).alloc _
      have ru : Box u1 (w.heap.size + 1) 35 #[nsl, nsl] := by refine Box.nx ?_ hN3.1; first | exact r0.alloc _ | exact (r0.alloc _).alloc _
      have xu : Nx w u1 := by refine Nx.trans ?_ hN3.1; first | exact (hnx0.alloc _).drew | exact ((hnx0.alloc _).alloc _).drew)
   | (refine step_append_new ?_ (.tmp 7) (.tmp 9) 33 ?_ 102 i0 _ 2 24 underlying33 hi0 hz0 hz1 hz2 dC dC (u1.heap.size) A2 n2 c2 B (wrAt ws) ?_ ?_ ?_ hn2 ?_
      . rfl
      . rfl
      . rfl
      . rfl
      . refine (h2.below (B' := w.heap.size) ?_ hB).2; first | exact xu | exact xu.alloc _
      intro A4 c4 u2 hN4
      have bv : Box u2 w.heap.size 35 #[sC A n c, sC A2 n2 c2] := by refine Box.nx ?_ hN4.1; first | exact bu | exact bu.alloc _
      have rv : Box u2 (w.heap.size + 1) 35 #[nsl, nsl] := by refine Box.nx ?_ hN4.1; first | exact ru | exact ru.alloc _
      have xv : Nx w u2 := by refine Nx.trans ?_ hN4.1; first | exact xu | exact xu.alloc _
      have s0 := rv.c0
      have s1 := rv.c1
      have f0 := rv.frozen 0
      have f1 := rv.frozen 1
      have z0 := (((bv.far (p := ⟨w.heap.size + 1, 0, none⟩) (by simp) (sC A3 n c3))).far (p := ⟨w.heap.size + 1, 1, none⟩) (by simp) (sC A4 n2 c4)).c0
      have z1 := (((bv.far (p := ⟨w.heap.size + 1, 0, none⟩) (by simp) (sC A3 n c3))).far (p := ⟨w.heap.size + 1, 1, none⟩) (by simp) (sC A4 n2 c4)).c1)
   | (refine step_append_new ?_ (.tmp 7) (.tmp 9) 33 ?_ 102 i0 _ 2 24 underlying33 hi0 hz0 hz1 hz2 dC dC (W.heap.size + 1) A2 n2 c2 B (wrAt ws) ?_ ?_ ?_ hn2 ?_
      . rfl
      . rfl
      . rfl
      . rfl
      . refine (h2.below (B' := w.heap.size) ?_ hB).2; first | exact xu | exact xu.alloc _
      intro A4 c4 u2 hN4
      have bv : Box u2 w.heap.size 35 #[sC A n c, sC A2 n2 c2] := by refine Box.nx ?_ hN4.1; first | exact bu | exact bu.alloc _
      have rv : Box u2 (w.heap.size + 1) 35 #[nsl, nsl] := by refine Box.nx ?_ hN4.1; first | exact ru | exact ru.alloc _
      have xv : Nx w u2 := by refine Nx.trans ?_ hN4.1; first | exact xu | exact xu.alloc _
      have s0 := rv.c0
      have s1 := rv.c1
      have f0 := rv.frozen 0
      have f1 := rv.frozen 1
      have z0 := (((bv.far (p := ⟨w.heap.size + 1, 0, none⟩) (by simp) (sC A3 n c3))).far (p := ⟨w.heap.size + 1, 1, none⟩) (by simp) (sC A4 n2 c4)).c0
      have z1 := (((bv.far (p := ⟨w.heap.size + 1, 0, none⟩) (by simp) (sC A3 n c3))).far (p := ⟨w.heap.size + 1, 1, none⟩) (by simp) (sC A4 n2 c4)).c1)
   | (refine step_append_new ?_ (.tmp 7) (.tmp 9) 33 ?_ 102 i0 _ 2 24 underlying33 hi0 hz0 hz1 hz2 dC dC (W.heap.size) A2 n2 c2 B (wrAt ws) ?_ ?_ ?_ hn2 ?_
      . rfl
      . rfl
      . rfl
      . rfl
      . refine (h2.below (B' := w.heap.size) ?_ hB).2; first | exact xu | exact xu.alloc _
      intro A4 c4 u2 hN4
      have bv : Box u2 w.heap.size 35 #[sC A n c, sC A2 n2 c2] := by refine Box.nx ?_ hN4.1; first | exact bu | exact bu.alloc _
      have rv : Box u2 (w.heap.size + 1) 35 #[nsl, nsl] := by refine Box.nx ?_ hN4.1; first | exact ru | exact ru.alloc _
      have xv : Nx w u2 := by refine Nx.trans ?_ hN4.1; first | exact xu | exact xu.alloc _
      have s0 := rv.c0
      have s1 := rv.c1
      have f0 := rv.frozen 0
      have f1 := rv.frozen 1
      have z0 := (((bv.far (p := ⟨w.heap.size + 1, 0, none⟩) (by simp) (sC A3 n c3))).far (p := ⟨w.heap.size + 1, 1, none⟩) (by simp) (sC A4 n2 c4)).c0
      have z1 := (((bv.far (p := ⟨w.heap.size + 1, 0, none⟩) (by simp) (sC A3 n c3))).far (p := ⟨w.heap.size + 1, 1, none⟩) (by simp) (sC A4 n2 c4)).c1)
   )
 all_goals
  have l0 := r0.lt
  have l1 := ru.lt
  have n12 : Nx u1 u2 := by first | exact hN4.1 | exact ((Nx.refl u1).alloc _).trans hN4.1
  have hS3 := ((hN3.slS h.1).low (lo' := w.heap.size + 1 + 1) (by first | omega | (simp; omega))).nx n12
  have hW4 := (hN4.slW h2.1).low (lo' := w.heap.size + 1 + 1) (by first | omega | (simp; omega))
  obtain ⟨q0, q1, hSf, hWf, hxf⟩ := fin_box c3 c4 rv hS3 hW4 oM oM xv oM
  clear z0 z1 s0 s1 f0 f1 c0 c1
  generalize (u2.setCell ⟨w.heap.size + 1, 0, none⟩ (sC A3 n c3)).setCell ⟨w.heap.size + 1, 1, none⟩ (sC A4 n2 c4) = Wf at *
  go_wp2
  exact bodyPost_ret (v := .agg #[sC A3 n c3, sC A4 n2 c4]) (by simp [results, results59, go_sem, q0, q1]) rfl ⟨A3, n, c3, A4, n2, c4, rfl, hSf, hWf, hxf⟩
def settleTo (kp : Nat -> Bool) (ss : List BA) (ws : List (Int × BA)) : Nat -> List BA
 | 0 => ss
 | k + 1 => if kp k = true then (settleTo kp ss ws k).set (ws.getD k (0, ByteArray.empty)).1.toNat (ws.getD k (0, ByteArray.empty)).2 else settleTo kp ss ws k
theorem settleTo_len (kp : Nat -> Bool) (ss : List BA) (ws : List (Int × BA)) (k : Nat) : (settleTo kp ss ws k).length = ss.length := by
 induction k with
 | zero => rfl
 | succ k ih => unfold settleTo; split <;> simp [ih]
def kpOf (bs : List Bool) (i : Nat) : Bool := bs.getD (i % bs.length) false
theorem strAt_set (ss : List BA) (a : Nat) (s : BA) (ha : a < ss.length) (i : Nat) : strAt (ss.set a s) i = if i = a then .string s else strAt ss i := by
 unfold strAt
 rw [gdE, List.getElem?_set]
 by_cases h : a = i
 . subst h; rw [if_pos rfl, if_pos rfl, if_pos ha]; rfl
 . rw [if_neg h, if_neg (fun e => h e.symm), <- gdE]
theorem wOk_at {ws : List (Int × BA)} {k : Nat} {x : Int} {s : BA} (h : ws.all wOk = true) (hk : k < ws.length) (hx : ws.getD k (0, ByteArray.empty) = (x, s)) : ∃ a : Nat, x = a /\ a < 64 := by
 rw [List.all_eq_true] at h
 have : ws[k] = (x, s) := by rw [<- hx, gdE, List.getElem?_eq_getElem hk]; rfl
 have := h _ (List.getElem_mem hk)
 rw [‹ws[k] = (x, s)›] at this
 unfold wOk secB at this
 simp only [Bool.and_eq_true, decide_eq_true_eq] at this
 exact ⟨x.toNat, oM, oM⟩
theorem settle_yes {kp : Nat -> Bool} {ss : List BA} {ws : List (Int × BA)} {k a : Nat} {s : BA} (hk : kp k = true) (hx : ws.getD k (0, ByteArray.empty) = ((a : Int), s)) : settleTo kp ss ws (k + 1) = (settleTo kp ss ws k).set a s := by
 show (if kp k = true then _ else _) = _
 rw [if_pos hk, hx]; simp
theorem settle_no {kp : Nat -> Bool} {ss : List BA} {ws : List (Int × BA)} {k : Nat} (hk : kp k = false) : settleTo kp ss ws (k + 1) = settleTo kp ss ws k := by
 show (if kp k = true then _ else _) = _
 rw [if_neg (by simp [hk])]
def SetRow (w : World) (g : Nat) (ss : List BA) : Prop := Own w g 9 64 (strAt ss)
theorem SetRow.set {w : World} {g a : Nat} {ss : List BA} {s : BA} (h : SetRow w g ss) (ha : a < 64) (hl : ss.length = 64) : SetRow (w.setCell ⟨g, a, none⟩ (.string s)) g (ss.set a s) := by
 unfold SetRow at h ⊢
 refine (h.set ha (.string s)).congr fun i _ => ?_
 rw [strAt_set ss a s oM i]
theorem settled_c (A A2 A3 : Option Addr) (c n2 c2 m c3 B : Nat) (ss : List BA) (ws : List (Int × BA)) (bs : List Bool) (w : World) (h : Strs w B A 64 ss) (h2 : Wrs w B A2 n2 ws) (h3 : Bls w B A3 m bs) (hB : B <= w.heap.size) (hn2 : n2 <= 80) (hm : 0 < m) (hm2 : m <= 1048576) (hall : ws.all wOk = true) :
 Calls Tryz.prog 128 #[.agg #[sC A 64 c, sC A2 n2 c2], sC A3 m c3] w (RetDisk w (settleTo (kpOf bs) ss ws n2) []) := by
 have HA := qh hall
 clear hall
 go_enter func128, ntmps128
 go_wp2_with fail
 have b0 := (Box.new w 35 #[sC A 64 c, sC A2 n2 c2]).alloc (.cells #[nsl, nsl] 35)
 have r0 := Box.new (w.alloc (.cells #[sC A 64 c, sC A2 n2 c2] 35)) 35 #[nsl, nsl]
 have hnx0 := ((Nx.refl w).alloc (.cells #[sC A 64 c, sC A2 n2 c2] 35)).alloc (.cells #[nsl, nsl] 35)
 simp only [World.size_alloc] at r0
 generalize (w.alloc (.cells #[sC A 64 c, sC A2 n2 c2] 35)).alloc (.cells #[nsl, nsl] 35) = W at *
 refine (copyListS_c A 64 c B ss _ (h.below hnx0 hB) (ntr hB hnx0.size) oM).mono ?_
 rintro e w1 ⟨A4, n4, c4, rfl, hS4, hx4⟩
 obtain rfl : 64 = n4 := h.1.symm.trans hS4.1
 obtain ⟨g, rfl, hg, ho⟩ := hS4.2 oM
 have b1 := b0.nx hx4
 have r1 := r0.nx hx4
 have hx1 := hnx0.trans hx4
 have l0 := r0.lt
 have HL := qh h.1
 have hset : SetRow w1 g ss := by unfold SetRow; unfold OwnS at ho; rw [h.1] at ho; exact ho
 clear b0 r0 hnx0 hx4 hS4 ho
 have c0 := b1.c0
 have c1 := b1.c1
 go_wp2
 go_loopw [14] (fun i wr => ∃ k : Nat, k <= n2 /\ i = ii k /\ SetRow wr g (settleTo (kpOf bs) ss ws k) /\ Rg g (g + 1) w1 wr) (fun i _ => n2 - (intOf i).toNat)
 case atStart => exact ⟨0, Nat.zero_le _, rfl, hset, Rg.of_nx (Nx.refl _)⟩
 case round =>
  clear c0 c1 hset
  obtain ⟨k, hk, rfl, hset, hr⟩ := hrel
  have hx := Rg.nx_of hx1 hr oM
  by_cases hlt : k < n2
  . obtain ⟨b, off, rfl, hb, hc, hd⟩ := (h2.below hx hB).at_ hlt
    obtain ⟨⟨x, s⟩, Hs⟩ := nM (ws.getD k (0, ByteArray.empty))
    rw [Hs.out] at hc hd
    have hkm : k % m < m := Nat.mod_lt _ hm
    obtain ⟨b3, off3, rfl, hb3, hc3⟩ := (h3.below (hx.alloc (.cells #[ii x, .string s] 102)) hB).at_ hkm
    obtain ⟨a, rfl, ha⟩ := wOk_at HA.out (by rw [h2.1]; exact hlt) Hs.out
    have hs1 : SetRow (wr.alloc (.cells #[ii (a : Int), .string s] 102)) g (settleTo (kpOf bs) ss ws k) := Own.alloc hset _
    have hlen := qh ((settleTo_len (kpOf bs) ss ws k).trans HL.out)
    have hr1 : Rg g (g + 1) w1 (wr.alloc (.cells #[ii (a : Int), .string s] 102)) := hr.trans (Rg.of_nx ((Nx.refl wr).alloc _))
    obtain ⟨v, hv⟩ : ∃ v, (wr.alloc (.cells #[ii (a : Int), .string s] 102)).cell? ⟨g, a, none⟩ = some v := ⟨_, Own.cell hs1 ha⟩
    have hz := Own.frozen hs1 a
    have hkp : kpOf bs k = bs.getD (k % m) false := by unfold kpOf; rw [h3.1]
    cases hbb : bs.getD (k % m) false with
    | true =>
      have HF := qh (settle_yes (ss := ss) (hkp.trans hbb) Hs.out)
      rw [hbb] at hc3
      clear hkp hbb
      go_wp2
      go_roundw
      case rel => exact ⟨k + 1, oM, by go_num, by rw [HF.out]; exact hs1.set ha hlen.out, hr1.setCell (p := ⟨g, a, none⟩) nle (by simp) _⟩
      case measure => simp [intOf]; omega
    | false =>
      have HF := qh (settle_no (ss := ss) (ws := ws) (hkp.trans hbb))
      rw [hbb] at hc3
      clear hkp hbb
      go_wp2
      go_roundw
      case rel => exact ⟨k + 1, oM, by go_num, by rw [HF.out]; exact hs1, hr1⟩
      case measure => simp [intOf]; omega
  . obtain rfl : k = n2 := oM
    have r2 := r1.rg hr (.inl oM)
    have s0 := r2.c0
    have s1 := r2.c1
    have f0 := r2.frozen 0
    have f1 := r2.frozen 1
    have hlen := (settleTo_len (kpOf bs) ss ws k).trans HL.out
    have hSs : SlS wr g (some ⟨g, 0, none⟩) 64 (settleTo (kpOf bs) ss ws k) := ⟨hlen, fun _ => ⟨g, rfl, Nat.le_refl _, by unfold OwnS; rw [hlen]; exact hset⟩⟩
    clear hlen
    go_wp2
    obtain ⟨q0, q1, hSf, hWf, hxf⟩ := fin_box c4 0 r2 hSs (SlW.nil wr (w.heap.size + 1 + 1)) oM oM hx oM
    generalize (wr.setCell ⟨w.heap.size + 1, 0, none⟩ (sC (some ⟨g, 0, none⟩) 64 c4)).setCell ⟨w.heap.size + 1, 1, none⟩ (nsl) = Wf at *
    exact bodyPost_ret (v := .agg #[sC (some ⟨g, 0, none⟩) 64 c4, nsl]) (by simp [results, results128, go_sem, q0, q1]) rfl ⟨_, 64, c4, none, 0, 0, rfl, hSf, hWf, hxf⟩
def kpAll (i : Nat) : Bool := true
theorem l01Flush_c (A A2 : Option Addr) (c n2 c2 B : Nat) (ss : List BA) (ws : List (Int × BA)) (w : World) (h : Strs w B A 64 ss) (h2 : Wrs w B A2 n2 ws) (hB : B <= w.heap.size) (hn2 : n2 <= 80) (hall : ws.all wOk = true) :
 Calls Tryz.prog 60 #[.agg #[sC A 64 c, sC A2 n2 c2]] w (RetDisk w (settleTo (kpAll) ss ws n2) []) := by
 have HA := qh hall
 clear hall
 obtain ⟨j0, hj0, hy0, hy1, hy2⟩ := info_parts info_str
 have b0 := ((Box.new w 35 #[sC A 64 c, sC A2 n2 c2]).alloc (.cells #[nsl, nsl] 35)).alloc (.cells #[] 9)
 have r0 := (Box.new (w.alloc (.cells #[sC A 64 c, sC A2 n2 c2] 35)) 35 #[nsl, nsl]).alloc (.cells #[] 9)
 have hnx0 := (((Nx.refl w).alloc (.cells #[sC A 64 c, sC A2 n2 c2] 35)).alloc (.cells #[nsl, nsl] 35)).alloc (.cells #[] 9)
 simp only [World.size_alloc] at r0
 have HL := qh h.1
 go_enter func60, ntmps60
 go_wp2_with (at_builtin; refine wpList_append_new rfl (.tmp 5) (.tmp 7) 32 rfl 9 j0 _ 1 16 underlying32 hj0 hy0 hy1 hy2 dC dC (w.heap.size + 1 + 1) A 64 c B (strAt ss) rfl rfl (by rw [Nat.mul_one]; exact (h.below hnx0 hB).2) oM ?_)
 intro A4 c4 u1 hN
 obtain ⟨g, rfl, hg, ho⟩ := hN.2 oM
 rw [Nat.mul_one] at ho
 have hset : SetRow u1 g ss := ho
 have hg2 := ho.lt
 have hg1 : w.heap.size + 1 + 1 + 1 <= g := by simpa using hg
 have b1 := b0.nx hN.1
 have r1 := r0.nx hN.1
 have hx1 := hnx0.trans hN.1
 clear b0 r0 hnx0 hN hg ho
 have c0 := b1.c0
 have c1 := b1.c1
 go_wp2
 have b2 := (b1.alloc (.cells #[] 102)).alloc (.cells #[sC (some ⟨g, 0, none⟩) 64 c4, sC (some ⟨u1.heap.size, 0, none⟩) 0 0] 35)
 have r2 := (r1.alloc (.cells #[] 102)).alloc (.cells #[sC (some ⟨g, 0, none⟩) 64 c4, sC (some ⟨u1.heap.size, 0, none⟩) 0 0] 35)
 have o2 := Box.new (u1.alloc (.cells #[] 102)) 35 #[sC (some ⟨g, 0, none⟩) 64 c4, sC (some ⟨u1.heap.size, 0, none⟩) 0 0]
 have hx2 := (hx1.alloc (.cells #[] 102)).alloc (.cells #[sC (some ⟨g, 0, none⟩) 64 c4, sC (some ⟨u1.heap.size, 0, none⟩) 0 0] 35)
 have hset2 : SetRow ((u1.alloc (.cells #[] 102)).alloc (.cells #[sC (some ⟨g, 0, none⟩) 64 c4, sC (some ⟨u1.heap.size, 0, none⟩) 0 0] 35)) g ss := Own.alloc (Own.alloc hset _) _
 simp only [World.size_alloc] at o2
 generalize (u1.alloc (.cells #[] 102)).alloc (.cells #[sC (some ⟨g, 0, none⟩) 64 c4, sC (some ⟨u1.heap.size, 0, none⟩) 0 0] 35) = U at *
 clear b1 r1 hx1 hset c0 c1
 go_loopw [4] (fun i wr => ∃ k : Nat, k <= n2 /\ i = ii k /\ SetRow wr g (settleTo (kpAll) ss ws k) /\ Rg g (g + 1) U wr) (fun i _ => n2 - (intOf i).toNat)
 case atStart => exact ⟨0, Nat.zero_le _, rfl, hset2, Rg.of_nx (Nx.refl _)⟩
 case round =>
  clear hset2
  obtain ⟨k, hk, rfl, hset, hr⟩ := hrel
  have hx := Rg.nx_of hx2 hr oM
  have b3 := b2.rg hr (.inl oM)
  have o3 := o2.rg hr (.inr oM)
  have c0 := b3.c0
  have c1 := b3.c1
  have e0 := o3.c0
  have e1 := o3.c1
  by_cases hlt : k < n2
  . obtain ⟨b, off, rfl, hb, hc, hd⟩ := (h2.below hx hB).at_ hlt
    obtain ⟨⟨x, s⟩, Hs⟩ := nM (ws.getD k (0, ByteArray.empty))
    rw [Hs.out] at hc hd
    obtain ⟨a, rfl, ha⟩ := wOk_at HA.out (by rw [h2.1]; exact hlt) Hs.out
    have hlen := qh ((settleTo_len (kpAll) ss ws k).trans HL.out)
    obtain ⟨v, hv⟩ : ∃ v, wr.cell? ⟨g, a, none⟩ = some v := ⟨_, Own.cell hset ha⟩
    have hz := Own.frozen hset a
    have hai : ((a : Int)) < 64 := oM
    have HF := qh (settle_yes (kp := kpAll) (ss := ss) (k := k) rfl Hs.out)
    go_wp2_with fail
    go_still_tail 15, (by kernel_rfl)
    change wpList _ _ _ _ _ wr.drew
    have hsd : SetRow wr.drew g (settleTo (kpAll) ss ws k) := hset
    have hrd : Rg g (g + 1) U wr.drew := hr.trans (Rg.of_nx (Nx.refl wr).drew)
    have hvd : wr.drew.cell? ⟨g, a, none⟩ = some v := hv
    have hzd : wr.drew.frozen? ⟨g, a, none⟩ = false := hz
    clear hv hz hset hr hc hd c0 c1 e0 e1 b3 o3 hx
    generalize wr.drew = wd at *
    go_wp2
    go_roundw
    case rel => exact ⟨k + 1, oM, by go_num, by rw [HF.out]; exact hsd.set ha hlen.out, hrd.setCell (p := ⟨g, a, none⟩) nle (by simp) _⟩
    case measure => simp [intOf]; omega
  . obtain rfl : k = n2 := oM
    have r3 := r2.rg hr (.inl oM)
    have s0 := r3.c0
    have s1 := r3.c1
    have f0 := r3.frozen 0
    have f1 := r3.frozen 1
    have hlen := (settleTo_len (kpAll) ss ws k).trans HL.out
    have hSs : SlS wr g (some ⟨g, 0, none⟩) 64 (settleTo (kpAll) ss ws k) := ⟨hlen, fun _ => ⟨g, rfl, Nat.le_refl _, by unfold OwnS; rw [hlen]; exact hset⟩⟩
    have hWs : SlW wr g (some ⟨u1.heap.size, 0, none⟩) 0 [] := ⟨rfl, fun h => absurd h oM⟩
    clear hlen
    go_wp2
    obtain ⟨q0, q1, hSf, hWf, hxf⟩ := fin_box c4 0 r3 hSs hWs oM oM hx oM
    generalize (wr.setCell ⟨w.heap.size + 1, 0, none⟩ (sC (some ⟨g, 0, none⟩) 64 c4)).setCell ⟨w.heap.size + 1, 1, none⟩ (sC (some ⟨u1.heap.size, 0, none⟩) 0 0) = Wf at *
    exact bodyPost_ret (v := .agg #[sC (some ⟨g, 0, none⟩) 64 c4, sC (some ⟨u1.heap.size, 0, none⟩) 0 0]) (by simp [results, results60, go_sem, q0, q1]) rfl ⟨_, 64, c4, _, 0, 0, rfl, hSf, hWf, hxf⟩
def nxtS (u : U6) (b p t : Int) (xs : List Int) (ms : List Mrk) : BA := sealS (numsS (supN (u.1 + 1) b p t xs) ++ ⟨#[124]⟩ ++ jn (wds ms))
theorem nxt_super {g b p t : Int} {xs : List Int} {ms : List Mrk} {u : U6} (h : superB g b p t xs ms = true) (hu : 1 <= u.1 /\ u.1 <= 999999) (hm : u.1 ≠ 999999) : superB (u.1 + 1) b p t xs ms = true := by
 unfold superB at h ⊢
 simp only [Bool.and_eq_true] at h ⊢
 refine ⟨⟨⟨⟨⟨?_, h.1.1.1.1.2⟩, h.1.1.1.2⟩, h.1.1.2⟩, h.1.2⟩, h.2⟩
 unfold inB
 simp only [Bool.and_eq_true, decide_eq_true_eq]
 omega
theorem newU_gen {o0 o1 : Option U6} {t0 t1 : BA} (h0 : o0 = rdU t0) (h1 : o1 = rdU t1) {u : U6} {s : Int} (h : newU o0 o1 = some (u, s)) : 1 <= u.1 /\ u.1 <= 999999 := by
 obtain ⟨g, b, p, q, xs, ms⟩ := u
 rcases newU_from h with e | e
 . rw [h0] at e; exact (superB_yes (rdU_super e)).1
 . rw [h1] at e; exact (superB_yes (rdU_super e)).1
end
end Go.Proofs.YtieoiailjjnnoaaGreatDoor
