/-
  Values of vaults: positions that are retained, where a step ends, what fits forwards and back, what a vault is, a content at a position. Nothing here speaks of memory.
  Conditions: none.
-/
import Derived.Test.YtihpadelfpogmaaChv
import Derived.Test.YtihpadelfpogmaaSok
namespace Go.Proofs.Ytihpadelfpogmaa
set_option linter.unusedVariables false
set_option maxRecDepth 100000
open Go.RowKit

/-- Positions that are retained: the base, and where each segment ends. -/
def retL (b : Int) (gs : List SgR) : List Int := b :: gs.map SgR.t
theorem retL_len (b : Int) (gs : List SgR) : (retL b gs).length = gs.length + 1 := by simp [retL]
theorem retL_at (b : Int) (gs : List SgR) : ∀ k, k ≤ gs.length → (retL b gs).getD k 0 = atK b gs k
  | 0, _ => rfl
  | k + 1, h => by
    show ((gs.map SgR.t)).getD k 0 = (gs.getD k sgZ).t
    rw [List.getD_eq_getElem?_getD, List.getD_eq_getElem?_getD, List.getElem?_map, List.getElem?_eq_getElem (by omega)]; rfl
/-- The segments lead on, each later than where it begins. -/
structure Lead (b : Int) (gs : List SgR) : Prop where
  from_ : ∀ k, k < gs.length → (gs.getD k sgZ).f = atK b gs k
  rise : ∀ k, k < gs.length → atK b gs k < atK b gs (k + 1)
  ok : ∀ k, k < gs.length → chsB (gs.getD k sgZ).cs = true
  seg : ∀ k, k < gs.length → segB (gs.getD k sgZ).f (gs.getD k sgZ).t (gs.getD k sgZ).m (gs.getD k sgZ).cs = true
  short : gs.length ≤ 4096
theorem chainB_lead {b : Int} {gs : List SgR} (h : chainB b gs = true) : Lead b gs := by
  unfold chainB at h
  simp only [Bool.and_eq_true, decide_eq_true_eq] at h
  have hk : ∀ k, k < gs.length → lnk b gs k = true := fun k hk => List.all_eq_true.1 h.2 k (by simpa using hk)
  have hs : ∀ k, k < gs.length → sgB (gs.getD k sgZ) = true ∧ (gs.getD k sgZ).f = atK b gs k := fun k hl => by
    have := hk k hl
    unfold lnk at this
    simp only [Bool.and_eq_true, decide_eq_true_eq] at this
    exact ⟨this.1.1.1, this.1.1.2⟩
  refine ⟨fun k hl => (hs k hl).2, fun k hl => ?_, fun k hl => segB_chs (hs k hl).1, fun k hl => (hs k hl).1, h.1.1⟩
  have h1 := (hs k hl).1
  unfold sgB segB at h1
  simp only [Bool.and_eq_true] at h1
  have h2 := of_decide_eq_true h1.1.1.2
  rw [← (hs k hl).2]
  show _ < (gs.getD k sgZ).t
  omega
theorem Lead.lt {b : Int} {gs : List SgR} (h : Lead b gs) {j : Nat} : ∀ k, j < k → k ≤ gs.length → atK b gs j < atK b gs k
  | 0, hj, _ => absurd hj (by omega)
  | k + 1, hj, hk => by
    have := h.rise k (by omega)
    by_cases e : j = k
    · rw [e]; exact this
    · have := h.lt (j := j) k (by omega) (by omega); omega
theorem Lead.le {b : Int} {gs : List SgR} (h : Lead b gs) {j k : Nat} (hj : j ≤ k) (hk : k ≤ gs.length) : atK b gs j ≤ atK b gs k := by
  by_cases e : j = k
  · rw [e]; exact Int.le_refl _
  · have := h.lt k (j := j) (by omega) hk; omega
theorem Lead.inj {b : Int} {gs : List SgR} (h : Lead b gs) {j k : Nat} (hj : j ≤ gs.length) (hk : k ≤ gs.length) (he : atK b gs j = atK b gs k) : j = k := by
  rcases Nat.lt_trichotomy j k with hlt | e | hlt
  · have := h.lt k hlt hk; omega
  · exact e
  · have := h.lt j hlt hj; omega
/-- Where a number stands in a list; its length of none. -/
def idx (xs : List Int) (n : Int) : Nat := (xs.takeWhile fun x => x != n).length
theorem idx_le (xs : List Int) (n : Int) : idx xs n ≤ xs.length := List.Sublist.length_le (List.takeWhile_sublist _)
theorem idx_cons (x : Int) (xs : List Int) (n : Int) : idx (x :: xs) n = if x = n then 0 else idx xs n + 1 := by
  unfold idx
  rw [List.takeWhile_cons]
  by_cases e : x = n
  · rw [if_pos e]; simp [e]
  · rw [if_neg e]; simp [e]
theorem idx_at : ∀ {xs : List Int} {n : Int}, idx xs n < xs.length → xs.getD (idx xs n) 0 = n
  | [], _, h => absurd h (by simp)
  | x :: xs, n, h => by
    rw [idx_cons] at h ⊢
    by_cases e : x = n
    · rw [if_pos e]; exact e
    · rw [if_neg e] at h ⊢
      rw [List.length_cons] at h
      exact idx_at (xs := xs) (by omega)
theorem idx_lt : ∀ {xs : List Int} {n : Int} {k : Nat}, k < xs.length → xs.getD k 0 = n → idx xs n ≤ k
  | [], _, _, h, _ => absurd h (by simp)
  | x :: xs, n, k, h, hk => by
    rw [idx_cons]
    by_cases e : x = n
    · rw [if_pos e]; omega
    · rw [if_neg e]
      match k, h, hk with
      | 0, _, hk => exact absurd hk e
      | k + 1, h, hk =>
        rw [List.length_cons] at h
        have := idx_lt (xs := xs) (k := k) (by omega) hk
        omega
/-- A position is retained. -/
def isRet (b : Int) (gs : List SgR) (n : Int) : Bool := decide (idx (retL b gs) n < gs.length + 1)
/-- How many segments lie ahead of it. -/
def ahd (b : Int) (gs : List SgR) (n : Int) : Nat := idx (retL b gs) n
theorem ahd_at {b : Int} {gs : List SgR} {n : Int} (h : isRet b gs n = true) : ahd b gs n ≤ gs.length ∧ atK b gs (ahd b gs n) = n := by
  unfold isRet at h
  simp only [decide_eq_true_eq] at h
  have h1 : idx (retL b gs) n < (retL b gs).length := by rw [retL_len]; exact h
  have h2 := idx_at h1
  rw [retL_at b gs _ (by omega)] at h2
  exact ⟨by unfold ahd; omega, h2⟩
theorem ahd_of {b : Int} {gs : List SgR} {k : Nat} (h : Lead b gs) (hk : k ≤ gs.length) : isRet b gs (atK b gs k) = true ∧ ahd b gs (atK b gs k) = k := by
  have h1 := idx_lt (xs := retL b gs) (k := k) (n := atK b gs k) (by rw [retL_len]; omega) (retL_at b gs k hk)
  have h2 : isRet b gs (atK b gs k) = true := by unfold isRet; simp; omega
  exact ⟨h2, h.inj (ahd_at h2).1 hk (ahd_at h2).2⟩

/-! Steps, and what fits. -/
/-- The content where the next step ends, and how many segments lie ahead of it. -/
def stp (b p t : Int) (gs : List SgR) (im : List Int) : List Int × Nat :=
  if p < t then (app pN im (gs.getD (ahd b gs p) sgZ).cs, ahd b gs p + 1) else if t < p then (app pO im (gs.getD (ahd b gs p - 1) sgZ).cs, ahd b gs p - 1) else (im, ahd b gs p)
/-- j segments on from the a-th; j back. -/
def fwK (c : List Int) (gs : List SgR) (a : Nat) : Nat → List Int
  | 0 => c
  | j + 1 => app pN (fwK c gs a j) (gs.getD (a + j) sgZ).cs
def bkK (c : List Int) (gs : List SgR) (a : Nat) : Nat → List Int
  | 0 => c
  | j + 1 => app pO (bkK c gs a j) (gs.getD (a - 1 - j) sgZ).cs
theorem fwK_len (c : List Int) (gs : List SgR) (a : Nat) : ∀ j, (fwK c gs a j).length = c.length
  | 0 => rfl
  | j + 1 => by show (app pN _ _).length = _; rw [app_len, fwK_len c gs a j]
theorem bkK_len (c : List Int) (gs : List SgR) (a : Nat) : ∀ j, (bkK c gs a j).length = c.length
  | 0 => rfl
  | j + 1 => by show (app pO _ _).length = _; rw [app_len, bkK_len c gs a j]
def oldB (c : List Int) (g : SgR) : Bool := decide (app pO c g.cs = c)
def newB (c : List Int) (g : SgR) : Bool := decide (app pN c g.cs = c)
def fitF (c : List Int) (gs : List SgR) (a : Nat) : Bool := (List.range (gs.length - a)).all fun j => oldB (fwK c gs a j) (gs.getD (a + j) sgZ)
def fitB (c : List Int) (gs : List SgR) (a : Nat) : Bool := (List.range a).all fun j => newB (bkK c gs a j) (gs.getD (a - 1 - j) sgZ)
def FitF (c : List Int) (gs : List SgR) (a k : Nat) : Prop := ∀ j, j < k → oldB (fwK c gs a j) (gs.getD (a + j) sgZ) = true
def FitB (c : List Int) (gs : List SgR) (a k : Nat) : Prop := ∀ j, j < k → newB (bkK c gs a j) (gs.getD (a - 1 - j) sgZ) = true
theorem FitF.zero (c : List Int) (gs : List SgR) (a : Nat) : FitF c gs a 0 := fun j h => absurd h (by omega)
theorem FitB.zero (c : List Int) (gs : List SgR) (a : Nat) : FitB c gs a 0 := fun j h => absurd h (by omega)
theorem FitF.succ {c : List Int} {gs : List SgR} {a k : Nat} (h : FitF c gs a k) (hk : oldB (fwK c gs a k) (gs.getD (a + k) sgZ) = true) : FitF c gs a (k + 1) := fun j hj => by
  rcases Nat.lt_or_ge j k with hlt | hge
  · exact h j hlt
  · obtain rfl : j = k := by omega
    exact hk
theorem FitB.succ {c : List Int} {gs : List SgR} {a k : Nat} (h : FitB c gs a k) (hk : newB (bkK c gs a k) (gs.getD (a - 1 - k) sgZ) = true) : FitB c gs a (k + 1) := fun j hj => by
  rcases Nat.lt_or_ge j k with hlt | hge
  · exact h j hlt
  · obtain rfl : j = k := by omega
    exact hk
theorem FitF.all {c : List Int} {gs : List SgR} {a : Nat} (h : FitF c gs a (gs.length - a)) : fitF c gs a = true := List.all_eq_true.2 fun j hj => h j (by simpa using hj)
theorem FitB.all {c : List Int} {gs : List SgR} {a : Nat} (h : FitB c gs a a) : fitB c gs a = true := List.all_eq_true.2 fun j hj => h j (by simpa using hj)
theorem fitF_no {c : List Int} {gs : List SgR} {a k : Nat} (hk : a + k < gs.length) (h : oldB (fwK c gs a k) (gs.getD (a + k) sgZ) = false) : fitF c gs a = false :=
  List.all_eq_false.2 ⟨k, by simp; omega, by rw [h]; simp⟩
theorem fitB_no {c : List Int} {gs : List SgR} {a k : Nat} (hk : k < a) (h : newB (bkK c gs a k) (gs.getD (a - 1 - k) sgZ) = false) : fitB c gs a = false :=
  List.all_eq_false.2 ⟨k, by simp; omega, by rw [h]; simp⟩
/-- Turned to what is new, behind a turn of its own: as if turned at once. -/
theorem app_app (p q : Chg → Int) {cs : List Chg} {xs : List Int} (hb : Blk cs) (hl : xs.length = 8) : app p (app q xs cs) cs = app p xs cs := by
  refine ext8 (by rw [app_len, app_len, hl]) (by rw [app_len, hl]) fun j hj => ?_
  rw [app_at0 p hb (by rw [app_len, hl]) hj, app_at0 p hb hl hj, app_at0 q hb hl hj]
  cases noteM noM cs (j : Int) <;> rfl
theorem newB_back {c : List Int} {g : SgR} (hb : chsB g.cs = true) (hl : c.length = 8) : newB c g = decide (app pN (app pO c g.cs) g.cs = c) := by
  unfold newB; rw [app_app pN pO (chsB_blk hb) hl]
/-- All marks are retained. -/
def mksR (b : Int) (gs : List SgR) (ms : List Mrk) : Bool := (List.range ms.length).all fun k => isRet b gs (ms.getD k mrZ).2
def MksTo (b : Int) (gs : List SgR) (ms : List Mrk) (k : Nat) : Prop := ∀ j, j < k → isRet b gs (ms.getD j mrZ).2 = true
theorem MksTo.zero (b : Int) (gs : List SgR) (ms : List Mrk) : MksTo b gs ms 0 := fun j h => absurd h (by omega)
theorem MksTo.succ {b : Int} {gs : List SgR} {ms : List Mrk} {k : Nat} (h : MksTo b gs ms k) (hk : isRet b gs (ms.getD k mrZ).2 = true) : MksTo b gs ms (k + 1) := fun j hj => by
  rcases Nat.lt_or_ge j k with hlt | hge
  · exact h j hlt
  · obtain rfl : j = k := by omega
    exact hk
theorem MksTo.all {b : Int} {gs : List SgR} {ms : List Mrk} (h : MksTo b gs ms ms.length) : mksR b gs ms = true := List.all_eq_true.2 fun j hj => h j (by simpa using hj)
theorem mksR_no {b : Int} {gs : List SgR} {ms : List Mrk} {k : Nat} (hk : k < ms.length) (h : isRet b gs (ms.getD k mrZ).2 = false) : mksR b gs ms = false :=
  List.all_eq_false.2 ⟨k, by simpa using hk, by rw [h]; simp⟩
/-- A vault's places. -/
def plcB (b p t : Int) (gs : List SgR) (ms : List Mrk) : Bool := mksR b gs ms && isRet b gs p && isRet b gs t
/-- What a vault is. -/
def vltB (g b p t : Int) (xs : List Int) (ms : List Mrk) (gs : List SgR) (im : List Int) : Bool :=
  superB g b p t xs ms && contB im && decide (gs.length = xs.length) && chainB b gs && plcB b p t gs ms && fitF (stp b p t gs im).1 gs (stp b p t gs im).2 && fitB (stp b p t gs im).1 gs (stp b p t gs im).2
structure VltY (g b p t : Int) (xs : List Int) (ms : List Mrk) (gs : List SgR) (im : List Int) : Prop where
  super : superB g b p t xs ms = true
  cont : contB im = true
  len : gs.length = xs.length
  chain : chainB b gs = true
  places : plcB b p t gs ms = true
  fwd : fitF (stp b p t gs im).1 gs (stp b p t gs im).2 = true
  bck : fitB (stp b p t gs im).1 gs (stp b p t gs im).2 = true
theorem vltB_yes {g b p t : Int} {xs : List Int} {ms : List Mrk} {gs : List SgR} {im : List Int} (h : vltB g b p t xs ms gs im = true) : VltY g b p t xs ms gs im := by
  unfold vltB at h
  simp only [Bool.and_eq_true, decide_eq_true_eq] at h
  obtain ⟨⟨⟨⟨⟨⟨h1, h2⟩, h3⟩, h4⟩, h5⟩, h6⟩, h7⟩ := h
  exact ⟨h1, h2, h3, h4, h5, h6, h7⟩
theorem VltY.b {g b p t : Int} {xs : List Int} {ms : List Mrk} {gs : List SgR} {im : List Int} (h : VltY g b p t xs ms gs im) : vltB g b p t xs ms gs im = true := by
  unfold vltB; rw [h.super, h.cont, decide_eq_true h.len, h.chain, h.places, h.fwd, h.bck]; rfl
theorem vltB_no {g b p t : Int} {xs : List Int} {ms : List Mrk} {gs : List SgR} {im : List Int}
    (h : superB g b p t xs ms = false ∨ contB im = false ∨ ¬ gs.length = xs.length ∨ chainB b gs = false ∨ plcB b p t gs ms = false ∨ fitF (stp b p t gs im).1 gs (stp b p t gs im).2 = false ∨ fitB (stp b p t gs im).1 gs (stp b p t gs im).2 = false) : vltB g b p t xs ms gs im = false := by
  unfold vltB
  rcases h with h | h | h | h | h | h | h
  · rw [h]; rfl
  · rw [h]; simp
  · rw [decide_eq_false h]; simp
  · rw [h]; simp
  · rw [h]; simp
  · rw [h]; simp
  · rw [h]; simp
/-- The anchor of a place that is right: within the segments. -/
theorem stp_le {b p t : Int} {gs : List SgR} {ms : List Mrk} (im : List Int) (hl : Lead b gs) (h : plcB b p t gs ms = true) : (stp b p t gs im).2 ≤ gs.length ∧ (p < t → ahd b gs p < gs.length) ∧ (t < p → 0 < ahd b gs p) := by
  unfold plcB at h
  simp only [Bool.and_eq_true] at h
  obtain ⟨hp, hp2⟩ := ahd_at h.1.2
  obtain ⟨ht, ht2⟩ := ahd_at h.2
  have h1 : p < t → ahd b gs p < gs.length := fun hlt => by
    rcases Nat.lt_or_ge (ahd b gs p) gs.length with hh | hh
    · exact hh
    · have := hl.le (j := ahd b gs t) (k := ahd b gs p) (by omega) hp; omega
  have h2 : t < p → 0 < ahd b gs p := fun hlt => by
    rcases Nat.eq_zero_or_pos (ahd b gs p) with hh | hh
    · have := hl.le (j := ahd b gs p) (k := ahd b gs t) (by omega) ht; omega
    · exact hh
  refine ⟨?_, h1, h2⟩
  unfold stp
  by_cases hlt : p < t
  · rw [if_pos hlt]; have := h1 hlt; simp only; omega
  · rw [if_neg hlt]
    by_cases hgt : t < p
    · rw [if_pos hgt]; simp only; omega
    · rw [if_neg hgt]; exact hp
theorem stp_len (b p t : Int) (gs : List SgR) (im : List Int) : (stp b p t gs im).1.length = im.length := by
  unfold stp
  by_cases hlt : p < t
  · rw [if_pos hlt]; exact app_len _ _ _
  · rw [if_neg hlt]
    by_cases hgt : t < p
    · rw [if_pos hgt]; exact app_len _ _ _
    · rw [if_neg hgt]
/-- The content at a position that is retained. -/
def cntV (b p t : Int) (gs : List SgR) (im : List Int) (n : Int) : List Int :=
  if (stp b p t gs im).2 ≤ ahd b gs n then fwK (stp b p t gs im).1 gs (stp b p t gs im).2 (ahd b gs n - (stp b p t gs im).2) else bkK (stp b p t gs im).1 gs (stp b p t gs im).2 ((stp b p t gs im).2 - ahd b gs n)
theorem cntV_len (b p t : Int) (gs : List SgR) (im : List Int) (n : Int) : (cntV b p t gs im n).length = im.length := by
  unfold cntV
  split
  · rw [fwK_len, stp_len]
  · rw [bkK_len, stp_len]
/-- The tip. -/
def tipV (b : Int) (gs : List SgR) : Int := atK b gs gs.length
end Go.Proofs.Ytihpadelfpogmaa
