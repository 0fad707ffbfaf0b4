/-
  Texts of the proof, put together in their order: Chv, Vlt, Chm, Ops, Lch, Vlm, Shc, Ctm, Rwm, Mko.
  Conditions: those of each.
-/
import Derived.Test.YtehahodomfbpjaaGreatDoorMm7
import Derived.Lib.SmallJoins
import Derived.Shelf.Strings.Cut
import Derived.Shelf.Strings.Split
import Derived.Test.YtehahodomfbpjaaGreatDoorProg
import Derived.Deep.AppendLies
/- Values: contents turned by changes, block by block; changes put together; chains of segments that fit a content. Conditions: none (no memory is spoken of). -/
namespace Go.Proofs.YtehahodomfbpjaaGreatDoor
set_option linter.unusedVariables false
set_option maxRecDepth 100000
open Go.RowKit

theorem noteM_cons (M : Int → Option Chg) (c : Chg) (cs : List Chg) : noteM M (c :: cs) = noteM (fun k => if c.1 = k then some c else M k) cs := rfl
def Blk (cs : List Chg) : Prop := ∀ c ∈ cs, 0 ≤ c.1 ∧ c.1 ≤ 7
theorem chsB_mem {cs : List Chg} (h : chsB cs = true) : ∀ c ∈ cs, chB c = true := fun c hc => by
  obtain ⟨j, hj, rfl⟩ := List.mem_iff_getElem.1 hc
  have := chsB_to h j hj
  unfold okCh at this
  rw [List.getD_eq_getElem?_getD, List.getElem?_eq_getElem hj] at this
  simp only [Option.getD_some, Bool.and_eq_true] at this
  exact this.1
theorem chB_parts {c : Chg} (h : chB c = true) : (0 ≤ c.1 ∧ c.1 ≤ 7) ∧ (0 ≤ c.2.1 ∧ c.2.1 ≤ 999999) ∧ (0 ≤ c.2.2 ∧ c.2.2 ≤ 999999) := by
  unfold chB at h
  simp only [Bool.and_eq_true] at h
  exact ⟨inB_yes h.1.1, inB_yes h.1.2, inB_yes h.2⟩
theorem chsB_blk {cs : List Chg} (h : chsB cs = true) : Blk cs := fun c hc => (chB_parts (chsB_mem h c hc)).1
theorem app_cons (p : Chg → Int) (xs : List Int) (c : Chg) (cs : List Chg) : app p xs (c :: cs) = app p (xs.set c.1.toNat (p c)) cs := rfl
/-- Block by block. -/
theorem app_at (p : Chg → Int) (d : Nat → Int) : ∀ (cs : List Chg) (xs : List Int) (M : Int → Option Chg), Blk cs → xs.length = 8 → (∀ j : Nat, j < 8 → xs.getD j 0 = ((M (j : Int)).map p).getD (d j)) →
    ∀ j : Nat, j < 8 → (app p xs cs).getD j 0 = ((noteM M cs (j : Int)).map p).getD (d j)
  | [], xs, M, _, _, h, j, hj => h j hj
  | c :: cs, xs, M, hb, hl, h, j, hj => by
    rw [app_cons, noteM_cons]
    obtain ⟨h0, h7⟩ := hb c (by simp)
    refine app_at p d cs _ _ (fun x hx => hb x (by simp [hx])) (by rw [List.length_set]; exact hl) (fun i hi => ?_) j hj
    by_cases e : c.1 = (i : Int)
    · rw [if_pos e, show c.1.toNat = i by omega, getD_set_self (by omega)]; rfl
    · rw [if_neg e, getD_set_ne (by omega)]; exact h i hi
theorem app_at0 (p : Chg → Int) {cs : List Chg} {xs : List Int} (hb : Blk cs) (hl : xs.length = 8) {j : Nat} (hj : j < 8) : (app p xs cs).getD j 0 = ((noteM noM cs (j : Int)).map p).getD (xs.getD j 0) :=
  app_at p (fun j => xs.getD j 0) cs xs noM hb hl (fun i _ => rfl) j hj
theorem ext8 {xs ys : List Int} (h : xs.length = 8) (h2 : ys.length = 8) (he : ∀ j, j < 8 → xs.getD j 0 = ys.getD j 0) : xs = ys := List.ext_getElem (by omega) fun j h3 h4 => by
  have := he j (by omega)
  rw [List.getD_eq_getElem?_getD, List.getD_eq_getElem?_getD, List.getElem?_eq_getElem h3, List.getElem?_eq_getElem h4] at this
  exact this
/-- What was old is what is there. -/
def Fits (x : List Int) (cs : List Chg) : Prop := ∀ j : Nat, j < 8 → ∀ c, noteM noM cs (j : Int) = some c → c.2.2 = x.getD j 0
def Agree (M : Int → Option Chg) (x : List Int) : Prop := ∀ j : Nat, j < 8 → ∀ c, M (j : Int) = some c → c.2.1 = x.getD j 0
theorem Agree.note {M : Int → Option Chg} {x : List Int} {cs : List Chg} (h : Agree M x) (hl : x.length = 8) (hb : Blk cs) : Agree (noteM M cs) (app pN x cs) := fun j hj c hc => by
  have := app_at pN (fun j => x.getD j 0) cs x M hb hl (fun i hi => by
    cases hM : M (i : Int) with
    | none => rfl
    | some d => exact (h i hi d hM).symm) j hj
  rw [this, hc]; rfl
theorem noteM_mem {cs : List Chg} (h : chsB cs = true) {c : Chg} (hc : c ∈ cs) : noteM noM cs c.1 = some c := by
  obtain ⟨k, hk, rfl⟩ := List.mem_iff_getElem.1 hc
  have hto := chsB_to h
  have e : cs.getD k chZ = cs[k] := by rw [List.getD_eq_getElem?_getD, List.getElem?_eq_getElem hk]; rfl
  have step : ∀ n, k < n → n ≤ cs.length → noteM noM (cs.take n) cs[k].1 = some cs[k] := by
    intro n
    induction n with
    | zero => intro h1; omega
    | succ n ih =>
      intro h1 h2
      rw [noteM_succ noM cs (by omega)]
      simp only
      by_cases hn : k = n
      · subst hn
        rw [e, if_pos rfl]
      · have h3 := hto.lt n (by omega) k (by omega)
        rw [e] at h3
        rw [if_neg (by omega)]
        exact ih (by omega) (by omega)
  have := step cs.length hk (Nat.le_refl _)
  rwa [List.take_length] at this
theorem on_of {M : Int → Option Chg} {x : List Int} {cs : List Chg} (hA : Agree M x) (hok : chsB cs = true) (hf : Fits x cs) : onB M cs = true := List.all_eq_true.2 fun c hc => by
  obtain ⟨h0, h7⟩ := chsB_blk hok c hc
  have hm := noteM_mem hok hc
  unfold onC
  cases hM : M c.1 with
  | none => rfl
  | some a =>
    simp only
    rw [decide_eq_true_eq]
    have hj : ((c.1.toNat : Nat) : Int) = c.1 := by omega
    have h1 := hA c.1.toNat (by omega) a (by rw [hj]; exact hM)
    have h2 := hf c.1.toNat (by omega) c (by rw [hj]; exact hm)
    rw [h1, h2]
/-- A map whose entries stand at their blocks, and are right. -/
def Right (M : Int → Option Chg) : Prop := ∀ (j : Nat), j < 8 → ∀ c, M (j : Int) = some c → c.1 = (j : Int) ∧ chB c = true
theorem note_right {cs : List Chg} (h : chsB cs = true) : Right (noteM noM cs) := fun j hj c hc => by
  have key : ∀ (l : List Chg) (M : Int → Option Chg), (∀ d ∈ l, chB d = true) → (∀ k d, M k = some d → d.1 = k ∧ chB d = true) → ∀ k d, noteM M l k = some d → d.1 = k ∧ chB d = true := by
    intro l
    induction l with
    | nil => intro M _ h2; exact h2
    | cons a l ih =>
      intro M h1 h2 k d hd
      rw [noteM_cons] at hd
      refine ih _ (fun x hx => h1 x (by simp [hx])) (fun k' d' hd' => ?_) k d hd
      by_cases e : a.1 = k'
      · rw [if_pos e] at hd'
        obtain rfl := Option.some.inj hd'
        exact ⟨e, h1 a (by simp)⟩
      · rw [if_neg e] at hd'
        exact h2 k' d' hd'
  exact key cs noM (chsB_mem h) (fun k d hd => by cases hd) _ c hc
theorem app_cont {x : List Int} {cs : List Chg} (hx : contB x = true) (h : chsB cs = true) : contB (app pN x cs) = true := by
  obtain ⟨h8, hv⟩ := contB_yes hx
  refine contB_mk (by rw [app_len]; exact h8) fun j hj => ?_
  rw [app_len, h8] at hj
  rw [app_at0 pN (chsB_blk h) h8 hj]
  cases hM : noteM noM cs (j : Int) with
  | none => have := hv j hj; exact inB_mk this.1 this.2
  | some c => have := (chB_parts (note_right h j hj c hM).2).2.1; exact inB_mk this.1 this.2
/-- The content behind the first k. -/
def ctK (c0 : List Int) (gs : List SgR) : Nat → List Int
  | 0 => c0
  | k + 1 => app pN (ctK c0 gs k) (gs.getD k sgZ).cs
/-- A segment that goes on at place k. -/
structure Lk (base : Int) (c0 : List Int) (gs : List SgR) (k : Nat) (g : SgR) : Prop where
  seg : segB g.f g.t g.m g.cs = true
  at_ : g.f = atK base gs k
  tm : tmK gs k ≤ g.m
  fit : Fits (ctK c0 gs k) g.cs
/-- A chain that leads on from a content. -/
def ChI (base : Int) (c0 : List Int) (gs : List SgR) : Prop := ∀ k, k < gs.length → Lk base c0 gs k (gs.getD k sgZ)
theorem getD_pre (gs hs : List SgR) {k : Nat} (h : k < gs.length) : (gs ++ hs).getD k sgZ = gs.getD k sgZ := by
  rw [List.getD_eq_getElem?_getD, List.getD_eq_getElem?_getD, List.getElem?_append_left h]
theorem atK_pre (base : Int) (gs hs : List SgR) : ∀ k, k ≤ gs.length → atK base (gs ++ hs) k = atK base gs k
  | 0, _ => rfl
  | k + 1, h => by show ((gs ++ hs).getD k sgZ).t = (gs.getD k sgZ).t; rw [getD_pre gs hs (by omega)]
theorem tmK_pre (gs hs : List SgR) : ∀ k, k ≤ gs.length → tmK (gs ++ hs) k = tmK gs k
  | 0, _ => rfl
  | k + 1, h => by show ((gs ++ hs).getD k sgZ).m = (gs.getD k sgZ).m; rw [getD_pre gs hs (by omega)]
theorem ctK_pre (c0 : List Int) (gs hs : List SgR) : ∀ k, k ≤ gs.length → ctK c0 (gs ++ hs) k = ctK c0 gs k
  | 0, _ => rfl
  | k + 1, h => by
    show app pN (ctK c0 (gs ++ hs) k) ((gs ++ hs).getD k sgZ).cs = app pN (ctK c0 gs k) (gs.getD k sgZ).cs
    rw [getD_pre gs hs (by omega), ctK_pre c0 gs hs k (by omega)]
theorem Lk.pre {base : Int} {c0 : List Int} {gs : List SgR} {k : Nat} {g : SgR} (hs : List SgR) (hk : k ≤ gs.length) (h : Lk base c0 gs k g) : Lk base c0 (gs ++ hs) k g :=
  ⟨h.seg, by rw [atK_pre base gs hs k hk]; exact h.at_, by rw [tmK_pre gs hs k hk]; exact h.tm, by rw [ctK_pre c0 gs hs k hk]; exact h.fit⟩
theorem ChI.nil (base : Int) (c0 : List Int) : ChI base c0 [] := fun k hk => absurd hk (by simp)
theorem ChI.snoc {base : Int} {c0 : List Int} {gs : List SgR} {g : SgR} (h : ChI base c0 gs) (hg : Lk base c0 gs gs.length g) : ChI base c0 (gs ++ [g]) := fun k hk => by
  rw [List.length_append] at hk
  simp only [List.length_cons, List.length_nil] at hk
  by_cases e : k < gs.length
  · rw [getD_pre gs [g] e]; exact (h k e).pre [g] (by omega)
  · obtain rfl : k = gs.length := by omega
    rw [getD_app]; exact hg.pre [g] (Nat.le_refl _)
theorem ChI.cont {base : Int} {c0 : List Int} {gs : List SgR} (h : ChI base c0 gs) (hc : contB c0 = true) : ∀ k, k ≤ gs.length → contB (ctK c0 gs k) = true
  | 0, _ => hc
  | k + 1, hk => app_cont (h.cont hc k (by omega)) (segB_chs (h k (by omega)).seg)
theorem ChI.agree {base : Int} {c0 : List Int} {gs : List SgR} (h : ChI base c0 gs) (hc : contB c0 = true) : ∀ k, k ≤ gs.length → Agree (mpK gs k) (ctK c0 gs k)
  | 0, _ => fun j _ c hh => by cases hh
  | k + 1, hk => (h.agree hc k (by omega)).note (contB_yes (h.cont hc k (by omega))).1 (chsB_blk (segB_chs (h k (by omega)).seg))
/-- Such a chain is one. -/
theorem ChI.chain {base : Int} {c0 : List Int} {gs : List SgR} (h : ChI base c0 gs) (hc : contB c0 = true) (hb : inB 0 999999 base = true) (hl : gs.length ≤ 4096) : chainB base gs = true :=
  LnTo.all (fun k hk => by
    have L := h k hk
    unfold lnk sgB
    rw [L.seg, decide_eq_true L.at_, decide_eq_true L.tm, on_of (h.agree hc k (by omega)) (segB_chs L.seg) L.fit]; rfl) hl hb
end Go.Proofs.YtehahodomfbpjaaGreatDoor
/- Values of vaults: positions that are retained, where a step ends, what fits forwards and back, what a vault is, a content at a position. Nothing here speaks of memory. Conditions: none. -/
namespace Go.Proofs.YtehahodomfbpjaaGreatDoor
set_option linter.unusedVariables false
set_option maxRecDepth 100000
open Go.RowKit

/-- Positions that are retained: the base, and where each segment ends. -/
def retL (b : Int) (gs : List SgR) : List Int := b :: gs.map SgR.t
theorem retL_len (b : Int) (gs : List SgR) : (retL b gs).length = gs.length + 1 := by simp [retL]
theorem retL_at (b : Int) (gs : List SgR) : ∀ k, k ≤ gs.length → (retL b gs).getD k 0 = atK b gs k
  | 0, _ => rfl
  | k + 1, h => by
    show ((gs.map SgR.t)).getD k 0 = (gs.getD k sgZ).t
    rw [List.getD_eq_getElem?_getD, List.getD_eq_getElem?_getD, List.getElem?_map, List.getElem?_eq_getElem (by omega)]; rfl
/-- The segments lead on, each later than where it begins. -/
structure Lead (b : Int) (gs : List SgR) : Prop where
  from_ : ∀ k, k < gs.length → (gs.getD k sgZ).f = atK b gs k
  rise : ∀ k, k < gs.length → atK b gs k < atK b gs (k + 1)
  ok : ∀ k, k < gs.length → chsB (gs.getD k sgZ).cs = true
  seg : ∀ k, k < gs.length → segB (gs.getD k sgZ).f (gs.getD k sgZ).t (gs.getD k sgZ).m (gs.getD k sgZ).cs = true
  short : gs.length ≤ 4096
theorem chainB_lead {b : Int} {gs : List SgR} (h : chainB b gs = true) : Lead b gs := by
  unfold chainB at h
  simp only [Bool.and_eq_true, decide_eq_true_eq] at h
  have hk : ∀ k, k < gs.length → lnk b gs k = true := fun k hk => List.all_eq_true.1 h.2 k (by simpa using hk)
  have hs : ∀ k, k < gs.length → sgB (gs.getD k sgZ) = true ∧ (gs.getD k sgZ).f = atK b gs k := fun k hl => by
    have := hk k hl
    unfold lnk at this
    simp only [Bool.and_eq_true, decide_eq_true_eq] at this
    exact ⟨this.1.1.1, this.1.1.2⟩
  refine ⟨fun k hl => (hs k hl).2, fun k hl => ?_, fun k hl => segB_chs (hs k hl).1, fun k hl => (hs k hl).1, h.1.1⟩
  have h1 := (hs k hl).1
  unfold sgB segB at h1
  simp only [Bool.and_eq_true] at h1
  have h2 := of_decide_eq_true h1.1.1.2
  rw [← (hs k hl).2]
  show _ < (gs.getD k sgZ).t
  omega
theorem Lead.lt {b : Int} {gs : List SgR} (h : Lead b gs) {j : Nat} : ∀ k, j < k → k ≤ gs.length → atK b gs j < atK b gs k
  | 0, hj, _ => absurd hj (by omega)
  | k + 1, hj, hk => by
    have := h.rise k (by omega)
    by_cases e : j = k
    · rw [e]; exact this
    · have := h.lt (j := j) k (by omega) (by omega); omega
theorem Lead.le {b : Int} {gs : List SgR} (h : Lead b gs) {j k : Nat} (hj : j ≤ k) (hk : k ≤ gs.length) : atK b gs j ≤ atK b gs k := by
  by_cases e : j = k
  · rw [e]; exact Int.le_refl _
  · have := h.lt k (j := j) (by omega) hk; omega
theorem Lead.inj {b : Int} {gs : List SgR} (h : Lead b gs) {j k : Nat} (hj : j ≤ gs.length) (hk : k ≤ gs.length) (he : atK b gs j = atK b gs k) : j = k := by
  rcases Nat.lt_trichotomy j k with hlt | e | hlt
  · have := h.lt k hlt hk; omega
  · exact e
  · have := h.lt j hlt hj; omega
/-- Where a number stands in a list; its length of none. -/
def idx (xs : List Int) (n : Int) : Nat := (xs.takeWhile fun x => x != n).length
theorem idx_cons (x : Int) (xs : List Int) (n : Int) : idx (x :: xs) n = if x = n then 0 else idx xs n + 1 := by
  unfold idx
  rw [List.takeWhile_cons]
  by_cases e : x = n
  · rw [if_pos e]; simp [e]
  · rw [if_neg e]; simp [e]
theorem idx_at : ∀ {xs : List Int} {n : Int}, idx xs n < xs.length → xs.getD (idx xs n) 0 = n
  | [], _, h => absurd h (by simp)
  | x :: xs, n, h => by
    rw [idx_cons] at h ⊢
    by_cases e : x = n
    · rw [if_pos e]; exact e
    · rw [if_neg e] at h ⊢
      rw [List.length_cons] at h
      exact idx_at (xs := xs) (by omega)
theorem idx_lt : ∀ {xs : List Int} {n : Int} {k : Nat}, k < xs.length → xs.getD k 0 = n → idx xs n ≤ k
  | [], _, _, h, _ => absurd h (by simp)
  | x :: xs, n, k, h, hk => by
    rw [idx_cons]
    by_cases e : x = n
    · rw [if_pos e]; omega
    · rw [if_neg e]
      match k, h, hk with
      | 0, _, hk => exact absurd hk e
      | k + 1, h, hk =>
        rw [List.length_cons] at h
        have := idx_lt (xs := xs) (k := k) (by omega) hk
        omega
/-- A position is retained. -/
def isRet (b : Int) (gs : List SgR) (n : Int) : Bool := decide (idx (retL b gs) n < gs.length + 1)
/-- How many segments lie ahead of it. -/
def ahd (b : Int) (gs : List SgR) (n : Int) : Nat := idx (retL b gs) n
theorem ahd_at {b : Int} {gs : List SgR} {n : Int} (h : isRet b gs n = true) : ahd b gs n ≤ gs.length ∧ atK b gs (ahd b gs n) = n := by
  unfold isRet at h
  simp only [decide_eq_true_eq] at h
  have h1 : idx (retL b gs) n < (retL b gs).length := by rw [retL_len]; exact h
  have h2 := idx_at h1
  rw [retL_at b gs _ (by omega)] at h2
  exact ⟨by unfold ahd; omega, h2⟩
/-! Steps, and what fits. -/
/-- The content where the next step ends, and how many segments lie ahead of it. -/
def stp (b p t : Int) (gs : List SgR) (im : List Int) : List Int × Nat :=
  if p < t then (app pN im (gs.getD (ahd b gs p) sgZ).cs, ahd b gs p + 1) else if t < p then (app pO im (gs.getD (ahd b gs p - 1) sgZ).cs, ahd b gs p - 1) else (im, ahd b gs p)
/-- j segments on from the a-th; j back. -/
def fwK (c : List Int) (gs : List SgR) (a : Nat) : Nat → List Int
  | 0 => c
  | j + 1 => app pN (fwK c gs a j) (gs.getD (a + j) sgZ).cs
def bkK (c : List Int) (gs : List SgR) (a : Nat) : Nat → List Int
  | 0 => c
  | j + 1 => app pO (bkK c gs a j) (gs.getD (a - 1 - j) sgZ).cs
theorem fwK_len (c : List Int) (gs : List SgR) (a : Nat) : ∀ j, (fwK c gs a j).length = c.length
  | 0 => rfl
  | j + 1 => by show (app pN _ _).length = _; rw [app_len, fwK_len c gs a j]
theorem bkK_len (c : List Int) (gs : List SgR) (a : Nat) : ∀ j, (bkK c gs a j).length = c.length
  | 0 => rfl
  | j + 1 => by show (app pO _ _).length = _; rw [app_len, bkK_len c gs a j]
def oldB (c : List Int) (g : SgR) : Bool := decide (app pO c g.cs = c)
def newB (c : List Int) (g : SgR) : Bool := decide (app pN c g.cs = c)
def fitF (c : List Int) (gs : List SgR) (a : Nat) : Bool := (List.range (gs.length - a)).all fun j => oldB (fwK c gs a j) (gs.getD (a + j) sgZ)
def fitB (c : List Int) (gs : List SgR) (a : Nat) : Bool := (List.range a).all fun j => newB (bkK c gs a j) (gs.getD (a - 1 - j) sgZ)
def FitF (c : List Int) (gs : List SgR) (a k : Nat) : Prop := ∀ j, j < k → oldB (fwK c gs a j) (gs.getD (a + j) sgZ) = true
def FitB (c : List Int) (gs : List SgR) (a k : Nat) : Prop := ∀ j, j < k → newB (bkK c gs a j) (gs.getD (a - 1 - j) sgZ) = true
theorem FitF.zero (c : List Int) (gs : List SgR) (a : Nat) : FitF c gs a 0 := fun j h => absurd h (by omega)
theorem FitB.zero (c : List Int) (gs : List SgR) (a : Nat) : FitB c gs a 0 := fun j h => absurd h (by omega)
theorem FitF.succ {c : List Int} {gs : List SgR} {a k : Nat} (h : FitF c gs a k) (hk : oldB (fwK c gs a k) (gs.getD (a + k) sgZ) = true) : FitF c gs a (k + 1) := fun j hj => by
  rcases Nat.lt_or_ge j k with hlt | hge
  · exact h j hlt
  · obtain rfl : j = k := by omega
    exact hk
theorem FitB.succ {c : List Int} {gs : List SgR} {a k : Nat} (h : FitB c gs a k) (hk : newB (bkK c gs a k) (gs.getD (a - 1 - k) sgZ) = true) : FitB c gs a (k + 1) := fun j hj => by
  rcases Nat.lt_or_ge j k with hlt | hge
  · exact h j hlt
  · obtain rfl : j = k := by omega
    exact hk
theorem FitF.all {c : List Int} {gs : List SgR} {a : Nat} (h : FitF c gs a (gs.length - a)) : fitF c gs a = true := List.all_eq_true.2 fun j hj => h j (by simpa using hj)
theorem FitB.all {c : List Int} {gs : List SgR} {a : Nat} (h : FitB c gs a a) : fitB c gs a = true := List.all_eq_true.2 fun j hj => h j (by simpa using hj)
theorem fitF_no {c : List Int} {gs : List SgR} {a k : Nat} (hk : a + k < gs.length) (h : oldB (fwK c gs a k) (gs.getD (a + k) sgZ) = false) : fitF c gs a = false :=
  List.all_eq_false.2 ⟨k, by simp; omega, by rw [h]; simp⟩
theorem fitB_no {c : List Int} {gs : List SgR} {a k : Nat} (hk : k < a) (h : newB (bkK c gs a k) (gs.getD (a - 1 - k) sgZ) = false) : fitB c gs a = false :=
  List.all_eq_false.2 ⟨k, by simp; omega, by rw [h]; simp⟩
/-- All marks are retained. -/
def mksR (b : Int) (gs : List SgR) (ms : List Mrk) : Bool := (List.range ms.length).all fun k => isRet b gs (ms.getD k mrZ).2
def MksTo (b : Int) (gs : List SgR) (ms : List Mrk) (k : Nat) : Prop := ∀ j, j < k → isRet b gs (ms.getD j mrZ).2 = true
theorem MksTo.zero (b : Int) (gs : List SgR) (ms : List Mrk) : MksTo b gs ms 0 := fun j h => absurd h (by omega)
theorem MksTo.succ {b : Int} {gs : List SgR} {ms : List Mrk} {k : Nat} (h : MksTo b gs ms k) (hk : isRet b gs (ms.getD k mrZ).2 = true) : MksTo b gs ms (k + 1) := fun j hj => by
  rcases Nat.lt_or_ge j k with hlt | hge
  · exact h j hlt
  · obtain rfl : j = k := by omega
    exact hk
theorem MksTo.all {b : Int} {gs : List SgR} {ms : List Mrk} (h : MksTo b gs ms ms.length) : mksR b gs ms = true := List.all_eq_true.2 fun j hj => h j (by simpa using hj)
theorem mksR_no {b : Int} {gs : List SgR} {ms : List Mrk} {k : Nat} (hk : k < ms.length) (h : isRet b gs (ms.getD k mrZ).2 = false) : mksR b gs ms = false :=
  List.all_eq_false.2 ⟨k, by simpa using hk, by rw [h]; simp⟩
/-- A vault's places. -/
def plcB (b p t : Int) (gs : List SgR) (ms : List Mrk) : Bool := mksR b gs ms && isRet b gs p && isRet b gs t
/-- What a vault is. -/
def vltB (g b p t : Int) (xs : List Int) (ms : List Mrk) (gs : List SgR) (im : List Int) : Bool :=
  superB g b p t xs ms && contB im && decide (gs.length = xs.length) && chainB b gs && plcB b p t gs ms && fitF (stp b p t gs im).1 gs (stp b p t gs im).2 && fitB (stp b p t gs im).1 gs (stp b p t gs im).2
structure VltY (g b p t : Int) (xs : List Int) (ms : List Mrk) (gs : List SgR) (im : List Int) : Prop where
  super : superB g b p t xs ms = true
  cont : contB im = true
  len : gs.length = xs.length
  chain : chainB b gs = true
  places : plcB b p t gs ms = true
  fwd : fitF (stp b p t gs im).1 gs (stp b p t gs im).2 = true
  bck : fitB (stp b p t gs im).1 gs (stp b p t gs im).2 = true
theorem vltB_yes {g b p t : Int} {xs : List Int} {ms : List Mrk} {gs : List SgR} {im : List Int} (h : vltB g b p t xs ms gs im = true) : VltY g b p t xs ms gs im := by
  unfold vltB at h
  simp only [Bool.and_eq_true, decide_eq_true_eq] at h
  obtain ⟨⟨⟨⟨⟨⟨h1, h2⟩, h3⟩, h4⟩, h5⟩, h6⟩, h7⟩ := h
  exact ⟨h1, h2, h3, h4, h5, h6, h7⟩
theorem VltY.b {g b p t : Int} {xs : List Int} {ms : List Mrk} {gs : List SgR} {im : List Int} (h : VltY g b p t xs ms gs im) : vltB g b p t xs ms gs im = true := by
  unfold vltB; rw [h.super, h.cont, decide_eq_true h.len, h.chain, h.places, h.fwd, h.bck]; rfl
theorem vltB_no {g b p t : Int} {xs : List Int} {ms : List Mrk} {gs : List SgR} {im : List Int}
    (h : superB g b p t xs ms = false ∨ contB im = false ∨ ¬ gs.length = xs.length ∨ chainB b gs = false ∨ plcB b p t gs ms = false ∨ fitF (stp b p t gs im).1 gs (stp b p t gs im).2 = false ∨ fitB (stp b p t gs im).1 gs (stp b p t gs im).2 = false) : vltB g b p t xs ms gs im = false := by
  unfold vltB
  rcases h with h | h | h | h | h | h | h
  · rw [h]; rfl
  · rw [h]; simp
  · rw [decide_eq_false h]; simp
  · rw [h]; simp
  · rw [h]; simp
  · rw [h]; simp
  · rw [h]; simp
/-- The anchor of a place that is right: within the segments. -/
theorem stp_le {b p t : Int} {gs : List SgR} {ms : List Mrk} (im : List Int) (hl : Lead b gs) (h : plcB b p t gs ms = true) : (stp b p t gs im).2 ≤ gs.length ∧ (p < t → ahd b gs p < gs.length) ∧ (t < p → 0 < ahd b gs p) := by
  unfold plcB at h
  simp only [Bool.and_eq_true] at h
  obtain ⟨hp, hp2⟩ := ahd_at h.1.2
  obtain ⟨ht, ht2⟩ := ahd_at h.2
  have h1 : p < t → ahd b gs p < gs.length := fun hlt => by
    rcases Nat.lt_or_ge (ahd b gs p) gs.length with hh | hh
    · exact hh
    · have := hl.le (j := ahd b gs t) (k := ahd b gs p) (by omega) hp; omega
  have h2 : t < p → 0 < ahd b gs p := fun hlt => by
    rcases Nat.eq_zero_or_pos (ahd b gs p) with hh | hh
    · have := hl.le (j := ahd b gs p) (k := ahd b gs t) (by omega) ht; omega
    · exact hh
  refine ⟨?_, h1, h2⟩
  unfold stp
  by_cases hlt : p < t
  · rw [if_pos hlt]; have := h1 hlt; simp only; omega
  · rw [if_neg hlt]
    by_cases hgt : t < p
    · rw [if_pos hgt]; simp only; omega
    · rw [if_neg hgt]; exact hp
theorem stp_len (b p t : Int) (gs : List SgR) (im : List Int) : (stp b p t gs im).1.length = im.length := by
  unfold stp
  by_cases hlt : p < t
  · rw [if_pos hlt]; exact app_len _ _ _
  · rw [if_neg hlt]
    by_cases hgt : t < p
    · rw [if_pos hgt]; exact app_len _ _ _
    · rw [if_neg hgt]
/-- The content at a position that is retained. -/
def cntV (b p t : Int) (gs : List SgR) (im : List Int) (n : Int) : List Int :=
  if (stp b p t gs im).2 ≤ ahd b gs n then fwK (stp b p t gs im).1 gs (stp b p t gs im).2 (ahd b gs n - (stp b p t gs im).2) else bkK (stp b p t gs im).1 gs (stp b p t gs im).2 ((stp b p t gs im).2 - ahd b gs n)
theorem cntV_len (b p t : Int) (gs : List SgR) (im : List Int) (n : Int) : (cntV b p t gs im n).length = im.length := by
  unfold cntV
  split
  · rw [fwK_len, stp_len]
  · rw [bkK_len, stp_len]
end Go.Proofs.YtehahodomfbpjaaGreatDoor
/- Contract of ChainOK, as the model has it: the walk. Conditions: the segments can be read, and have at most 1048576 changes each. -/
namespace Go.Proofs.YtehahodomfbpjaaGreatDoor
set_option linter.unusedVariables false
set_option maxRecDepth 100000
open Go.RowKit
end Go.Proofs.YtehahodomfbpjaaGreatDoor
/- A list of segments that comes in, opened. Conditions: none. -/
namespace Go.Proofs.YtehahodomfbpjaaGreatDoor
set_option linter.unusedVariables false
set_option maxRecDepth 100000
open Go.Joins Go.ChangeShapes Go.WideShapes Go.RowKit Go.Deep
section
variable {H : Type} {enc : TypeId × Value → H} {w : World} {base : Nat} {spare : Nat → Bool} {held : Bool}
end
end Go.Proofs.YtehahodomfbpjaaGreatDoor
/- The walk of the law FnExactChainOK. Conditions: the list that comes in can be read. -/
namespace Go.Proofs.YtehahodomfbpjaaGreatDoor
set_option linter.unusedVariables false
set_option maxRecDepth 100000
open Go.RowKit
theorem v_parts {gs hs : List SgR} (h : gs.map SgR.v = hs.map SgR.v) (k : Nat) : (gs.getD k sgZ).f = (hs.getD k sgZ).f ∧ (gs.getD k sgZ).t = (hs.getD k sgZ).t ∧ (gs.getD k sgZ).m = (hs.getD k sgZ).m ∧ (gs.getD k sgZ).cs = (hs.getD k sgZ).cs := by
  have := v_at h k
  unfold SgR.v at this
  simp only [Prod.mk.injEq] at this
  exact this
theorem atK_v {gs hs : List SgR} (h : gs.map SgR.v = hs.map SgR.v) (base : Int) : ∀ k, atK base gs k = atK base hs k
  | 0 => rfl
  | k + 1 => (v_parts h k).2.1
theorem tmK_v {gs hs : List SgR} (h : gs.map SgR.v = hs.map SgR.v) : ∀ k, tmK gs k = tmK hs k
  | 0 => rfl
  | k + 1 => (v_parts h k).2.2.1
theorem mpK_v {gs hs : List SgR} (h : gs.map SgR.v = hs.map SgR.v) : ∀ k, mpK gs k = mpK hs k
  | 0 => rfl
  | k + 1 => by
    show noteM (mpK gs k) (gs.getD k sgZ).cs = noteM (mpK hs k) (hs.getD k sgZ).cs
    rw [mpK_v h k, (v_parts h k).2.2.2]
theorem lnk_v {gs hs : List SgR} (h : gs.map SgR.v = hs.map SgR.v) (base : Int) (k : Nat) : lnk base gs k = lnk base hs k := by
  obtain ⟨h1, h2, h3, h4⟩ := v_parts h k
  unfold lnk sgB
  rw [h1, h2, h3, h4, atK_v h, tmK_v h, mpK_v h]
theorem chainB_v {gs hs : List SgR} (h : gs.map SgR.v = hs.map SgR.v) (base : Int) : chainB base gs = chainB base hs := by
  unfold chainB
  rw [v_len h, show lnk base gs = lnk base hs from funext (lnk_v h base)]
theorem v_cs {gs hs : List SgR} (h : gs.map SgR.v = hs.map SgR.v) {n : Nat} (hm : ∀ k, k < hs.length → (hs.getD k sgZ).cs.length ≤ n) : ∀ k, k < gs.length → (gs.getD k sgZ).cs.length ≤ n := fun k hk => by
  rw [(v_parts h k).2.2.2]; exact hm k (by rw [← v_len h]; exact hk)
end Go.Proofs.YtehahodomfbpjaaGreatDoor
/- Vaults in memory; contracts of the laws' functions that count, make and compare vaults; a vault that comes in, opened. Conditions: what is read can be read; copied or compared: at most 1048576 elements of a kind. -/
namespace Go.Proofs.YtehahodomfbpjaaGreatDoor
set_option linter.unusedVariables false
set_option maxRecDepth 100000
open Go.Joins Go.ChangeShapes Go.WideShapes Go.RowKit Go.Deep

/-- A vault in memory: its super's numbers, and where its lists lie. -/
structure Vl where
  g : Int
  b : Int
  p : Int
  t : Int
  A : Option Addr
  c : Nat
  xs : List Int
  A2 : Option Addr
  c2 : Nat
  ms : List Mrk
  A3 : Option Addr
  c3 : Nat
  gs : List SgR
  A4 : Option Addr
  c4 : Nat
  im : List Int
def Vl.cells (V : Vl) : Array Value := #[.int .i64 V.g, .int .i64 V.b, .int .i64 V.p, .int .i64 V.t, .slice V.A V.xs.length V.c, .slice V.A2 V.ms.length V.c2, .slice V.A3 V.gs.length V.c3, .slice V.A4 V.im.length V.c4]
def Vl.v (V : Vl) : Value := .agg V.cells
/-- What a vault is. -/
def Vl.ok (V : Vl) : Bool := vltB V.g V.b V.p V.t V.xs V.ms V.gs V.im
/-- A vault that is read. -/
structure Vlt (w : World) (B : Nat) (V : Vl) : Prop where
  tab : Ins w B V.A V.xs
  mks : Mks w B V.A2 V.ms
  sgs : Sgs w B V.A3 V.gs
  img : Ins w B V.A4 V.im
theorem Vlt.below {w w' : World} {B B' : Nat} {V : Vl} (h : Vlt w B V) (hb : Below B' w w') (hB : B ≤ B') : Vlt w' B V := ⟨h.tab.below hb hB, h.mks.below hb hB, h.sgs.below hb hB, h.img.below hb hB⟩
theorem Sgs.more {w : World} {B B' : Nat} {A : Option Addr} {gs : List SgR} (h : Sgs w B A gs) (hB : B ≤ B') : Sgs w B' A gs := ⟨h.row.more hB, fun k hk => (h.chs k hk).more hB⟩
theorem Vlt.more {w : World} {B B' : Nat} {V : Vl} (h : Vlt w B V) (hB : B ≤ B') : Vlt w B' V := ⟨h.tab.more hB, h.mks.more hB, h.sgs.more hB, h.img.more hB⟩
/-- How large it is at most. -/
structure VlN (V : Vl) (n : Nat) : Prop where
  xs : V.xs.length ≤ n
  ms : V.ms.length ≤ n
  gs : V.gs.length ≤ n
  cs : ∀ k, k < V.gs.length → (V.gs.getD k sgZ).cs.length ≤ n
  im : V.im.length ≤ n
/-- A vault of the call's own. -/
structure VlO (w : World) (lo : Nat) (V : Vl) : Prop where
  tab : SlI w lo V.A V.xs
  mks : SlM w lo V.A2 V.ms
  sgs : SgO w lo V.A3 V.gs
  img : SlI w lo V.A4 V.im
  cap : V.xs.length ≤ V.c
  cap3 : V.gs.length ≤ V.c3
theorem VlO.nx {w w' : World} {lo : Nat} {V : Vl} (h : VlO w lo V) (hb : Nx w w') : VlO w' lo V := ⟨h.tab.nx hb, h.mks.nx hb, h.sgs.nx hb, h.img.nx hb, h.cap, h.cap3⟩
theorem VlO.low {w : World} {lo lo' : Nat} {V : Vl} (h : VlO w lo V) (hl : lo' ≤ lo) : VlO w lo' V := ⟨h.tab.low hl, h.mks.low hl, h.sgs.low hl, h.img.low hl, h.cap, h.cap3⟩
theorem VlO.vlt {w : World} {lo : Nat} {V : Vl} (h : VlO w lo V) : Vlt w w.heap.size V := ⟨h.tab.row, h.mks.row, h.sgs.sgs, h.img.row⟩
/-- Alike in all that they tell. -/
structure VlS (V V' : Vl) : Prop where
  g : V'.g = V.g
  b : V'.b = V.b
  p : V'.p = V.p
  t : V'.t = V.t
  xs : V'.xs = V.xs
  ms : V'.ms = V.ms
  gs : V'.gs.map SgR.v = V.gs.map SgR.v
  im : V'.im = V.im
theorem VlS.len {V V' : Vl} (h : VlS V V') : V'.gs.length = V.gs.length := v_len h.gs
theorem VlS.n {V V' : Vl} {n : Nat} (h : VlS V V') (hn : VlN V n) : VlN V' n := ⟨by rw [h.xs]; exact hn.xs, by rw [h.ms]; exact hn.ms, by rw [h.len]; exact hn.gs, v_cs h.gs hn.cs, by rw [h.im]; exact hn.im⟩
theorem VlS.symm {V V' : Vl} (h : VlS V V') : VlS V' V := ⟨h.g.symm, h.b.symm, h.p.symm, h.t.symm, h.xs.symm, h.ms.symm, h.gs.symm, h.im.symm⟩
theorem VlS.trans {V V' V2 : Vl} (h : VlS V V') (k : VlS V' V2) : VlS V V2 := ⟨k.g.trans h.g, k.b.trans h.b, k.p.trans h.p, k.t.trans h.t, k.xs.trans h.xs, k.ms.trans h.ms, k.gs.trans h.gs, k.im.trans h.im⟩
theorem Box.e8 {w : World} {g : Nat} {t : TypeId} {v0 v1 v2 v3 v4 v5 v6 v7 : Value} (h : Box w g t #[v0, v1, v2, v3, v4, v5, v6, v7]) : w.cell? ⟨g, 0, none⟩ = some v0 ∧ w.cell? ⟨g, 1, none⟩ = some v1 ∧ w.cell? ⟨g, 2, none⟩ = some v2 ∧ w.cell? ⟨g, 3, none⟩ = some v3 ∧ w.cell? ⟨g, 4, none⟩ = some v4 ∧ w.cell? ⟨g, 5, none⟩ = some v5 ∧ w.cell? ⟨g, 6, none⟩ = some v6 ∧ w.cell? ⟨g, 7, none⟩ = some v7 :=
  ⟨h.cell 0, h.cell 1, h.cell 2, h.cell 3, h.cell 4, h.cell 5, h.cell 6, h.cell 7⟩

end Go.Proofs.YtehahodomfbpjaaGreatDoor
/- The library contracts of strings.Cut and strings.Split at this program (the laying alone, printed by the command that lays them). Conditions: none. -/
namespace Go.Proofs
open Go.Shelf
def Tryz.lays145_ren : Go.Shelf.Ren := ⟨fun | 145 => 196 | 220 => 235 | 219 => 254 | 217 => 262 | 225 => 263 | 224 => 264 | 267 => 265 | 266 => 274 | 314 => 275 | n => n, fun | 9 => 9 | 4 => 4 | 59 => 208 | 3 => 3 | 5 => 5 | 46 => 279 | 146 => 289 | 51 => 288 | n => n, fun | 1 => 3 | n => n⟩
theorem Tryz.lays145 : Go.Proofs.Lays.n145 Tryz.prog Tryz.lays145_ren := {
  mixed := by kernel_rfl
  f145 := Tryz.func196.trans (congrArg some (by kernel_rfl))
  f217 := Tryz.func262.trans (congrArg some (by kernel_rfl))
  f219 := Tryz.func254.trans (congrArg some (by kernel_rfl))
  f220 := Tryz.func235.trans (congrArg some (by kernel_rfl))
  f224 := Tryz.func264.trans (congrArg some (by kernel_rfl))
  f225 := Tryz.func263.trans (congrArg some (by kernel_rfl))
  f266 := Tryz.func274.trans (congrArg some (by kernel_rfl))
  f267 := Tryz.func265.trans (congrArg some (by kernel_rfl))
  f314 := Tryz.func275.trans (congrArg some (by kernel_rfl))
  t3 := Tryz.underlying3
  a3 := Tryz.isAgg3
  z3 := Tryz.sizeOf3
  v3 := Tryz.zeroValue3
  t4 := Tryz.underlying4
  a4 := Tryz.isAgg4
  z4 := Tryz.sizeOf4
  v4 := Tryz.zeroValue4
  t5 := Tryz.underlying5
  a5 := Tryz.isAgg5
  z5 := Tryz.sizeOf5
  v5 := Tryz.zeroValue5
  t9 := Tryz.underlying9
  a9 := Tryz.isAgg9
  z9 := Tryz.sizeOf9
  v9 := Tryz.zeroValue9
  t46 := Tryz.underlying279
  a46 := Tryz.isAgg279
  z46 := Tryz.sizeOf279
  v46 := Tryz.zeroValue279
  t51 := Tryz.underlying288
  a51 := Tryz.isAgg288
  z51 := Tryz.sizeOf288
  v51 := Tryz.zeroValue288
  t59 := Tryz.underlying208
  a59 := Tryz.isAgg208
  z59 := Tryz.sizeOf208
  v59 := Tryz.zeroValue208
  t146 := Tryz.underlying289
  a146 := Tryz.isAgg289
  z146 := Tryz.sizeOf289
  v146 := Tryz.zeroValue289
  g1 := by kernel_rfl }
def Tryz.lays146_ren : Go.Shelf.Ren := ⟨fun | 146 => 237 | 221 => 256 | 268 => 266 | 138 => 267 | 143 => 268 | 195 => 276 | 197 => 277 | 218 => 278 | 219 => 254 | 260 => 284 | 217 => 262 | 225 => 263 | 224 => 264 | 267 => 265 | 266 => 274 | 314 => 275 | n => n, fun | 9 => 9 | 31 => 22 | 3 => 3 | 4 => 4 | 0 => 0 | 105 => 291 | 21 => 21 | 5 => 5 | 46 => 279 | 119 => 298 | 139 => 301 | 138 => 300 | 146 => 289 | 51 => 288 | n => n, fun | 1 => 3 | 3 => 5 | 4 => 6 | n => n⟩
theorem Tryz.lays146 : Go.Proofs.Lays.n146 Tryz.prog Tryz.lays146_ren := {
  mixed := by kernel_rfl
  f138 := Tryz.func267.trans (congrArg some (by kernel_rfl))
  f143 := Tryz.func268.trans (congrArg some (by kernel_rfl))
  f146 := Tryz.func237.trans (congrArg some (by kernel_rfl))
  f195 := Tryz.func276.trans (congrArg some (by kernel_rfl))
  f197 := Tryz.func277.trans (congrArg some (by kernel_rfl))
  f217 := Tryz.func262.trans (congrArg some (by kernel_rfl))
  f218 := Tryz.func278.trans (congrArg some (by kernel_rfl))
  f219 := Tryz.func254.trans (congrArg some (by kernel_rfl))
  f221 := Tryz.func256.trans (congrArg some (by kernel_rfl))
  f224 := Tryz.func264.trans (congrArg some (by kernel_rfl))
  f225 := Tryz.func263.trans (congrArg some (by kernel_rfl))
  f260 := Tryz.func284.trans (congrArg some (by kernel_rfl))
  f266 := Tryz.func274.trans (congrArg some (by kernel_rfl))
  f267 := Tryz.func265.trans (congrArg some (by kernel_rfl))
  f268 := Tryz.func266.trans (congrArg some (by kernel_rfl))
  f314 := Tryz.func275.trans (congrArg some (by kernel_rfl))
  t0 := Tryz.underlying0
  a0 := Tryz.isAgg0
  z0 := Tryz.sizeOf0
  v0 := Tryz.zeroValue0
  t3 := Tryz.underlying3
  a3 := Tryz.isAgg3
  z3 := Tryz.sizeOf3
  v3 := Tryz.zeroValue3
  t4 := Tryz.underlying4
  a4 := Tryz.isAgg4
  z4 := Tryz.sizeOf4
  v4 := Tryz.zeroValue4
  t5 := Tryz.underlying5
  a5 := Tryz.isAgg5
  z5 := Tryz.sizeOf5
  v5 := Tryz.zeroValue5
  t9 := Tryz.underlying9
  a9 := Tryz.isAgg9
  z9 := Tryz.sizeOf9
  v9 := Tryz.zeroValue9
  t21 := Tryz.underlying21
  a21 := Tryz.isAgg21
  z21 := Tryz.sizeOf21
  v21 := Tryz.zeroValue21
  t31 := Tryz.underlying22
  a31 := Tryz.isAgg22
  z31 := Tryz.sizeOf22
  v31 := Tryz.zeroValue22
  t46 := Tryz.underlying279
  a46 := Tryz.isAgg279
  z46 := Tryz.sizeOf279
  v46 := Tryz.zeroValue279
  t51 := Tryz.underlying288
  a51 := Tryz.isAgg288
  z51 := Tryz.sizeOf288
  v51 := Tryz.zeroValue288
  t105 := Tryz.underlying291
  a105 := Tryz.isAgg291
  z105 := Tryz.sizeOf291
  v105 := Tryz.zeroValue291
  t119 := Tryz.underlying298
  a119 := Tryz.isAgg298
  z119 := Tryz.sizeOf298
  t138 := Tryz.underlying300
  a138 := Tryz.isAgg300
  z138 := Tryz.sizeOf300
  v138 := Tryz.zeroValue300
  t139 := Tryz.underlying301
  a139 := Tryz.isAgg301
  z139 := Tryz.sizeOf301
  v139 := Tryz.zeroValue301
  t146 := Tryz.underlying289
  a146 := Tryz.isAgg289
  z146 := Tryz.sizeOf289
  v146 := Tryz.zeroValue289
  g1 := by kernel_rfl
  g3 := by kernel_rfl
  g4 := by kernel_rfl }
end Go.Proofs
/- Contracts of the model's l00Cut and of the library's strings.Cut and strings.Split at a byte. Conditions: texts of at most 65536 bytes; for the library: its variable MaxLen holds a number. -/
namespace Go.Proofs.YtehahodomfbpjaaGreatDoor
set_option linter.unusedVariables false
set_option maxRecDepth 100000
open Go.RowKit

/-- The library's MaxLen holds a number. -/
def Mx (w : World) : Prop := ∃ m : Int, w.cell? ⟨3, 0, none⟩ = some (.int .i64 m)
theorem Mx.nx {w w' : World} (h : Mx w) (hb : Nx w w') : Mx w' := by
  obtain ⟨m, h⟩ := h
  exact ⟨m, (hb.cell (World.block_lt_of_cell? w _ h)).trans h⟩
/-- strings.Cut at a byte. -/
theorem cut_c (s : ByteArray) (c : UInt8) (w : World) (hs : s.size ≤ 65536) (hm : Mx w) :
    Calls Tryz.prog 196 #[.string s, .string ⟨#[c]⟩] w fun e w' => e = .returned (.tuple #[.string (baL (Lib.cut s.data.toList [c]).1), .string (baL (Lib.cut s.data.toList [c]).2.1), .bool (Lib.cut s.data.toList [c]).2.2]) ∧ Nx w w' := by
  obtain ⟨m, hm⟩ := hm
  refine (Any.strings_Cut Tryz.lays145 s ⟨#[c]⟩ m w (by omega) hm).mono ?_
  rintro e w' ⟨he, n, rfl⟩
  exact ⟨he, (Nx.refl w).drewN n⟩
/-- A list of words in new memory. -/
def RetWs (w : World) (ws : List ByteArray) (e : Ending) (w' : World) : Prop := ∃ (A : Option Addr) (c : Nat), e = .returned (.slice A ws.length c) ∧ Sl w' w.heap.size A 9 ws.length (wdAt ws) ∧ Nx w w'
/-- strings.Split at a byte. -/
theorem split_c (s : ByteArray) (c : UInt8) (w : World) (hs : s.size ≤ 65536) (hm : Mx w) :
    Calls Tryz.prog 237 #[.string s, .string ⟨#[c]⟩] w (RetWs w (cutB c s)) := by
  obtain ⟨m, hm⟩ := hm
  refine (Any.strings_Split Tryz.lays146 infoS s ⟨#[c]⟩ m w (by omega) hm (by simp [ByteArray.size])).mono ?_
  rintro e w' ⟨he, rfl⟩
  rw [cutB_count] at he
  refine ⟨_, _, he, ?_, (Nx.refl w).alloc _⟩
  rw [cutB_split]
  refine Sl.own ⟨_, heap_alloc_new w _, by simp, fun i hi => ?_⟩ (Nat.le_refl _)
  rw [List.getElem?_toArray]
  exact wV_get _ i hi

end Go.Proofs.YtehahodomfbpjaaGreatDoor
/- Rows of marks of the call's own that grow by one; what rows of ints and rows of marks are behind a store into another block. Conditions: at most 1048576 elements. -/
namespace Go.Proofs.YtehahodomfbpjaaGreatDoor
set_option linter.unusedVariables false
set_option maxRecDepth 100000
open Go.RowKit

def mV (ms : List Mrk) : List Value := ms.flatMap fun m => [.string m.1, .int .i64 m.2]
theorem mV_snoc (ms : List Mrk) (m : Mrk) : mV (ms ++ [m]) = mV ms ++ [.string m.1, .int .i64 m.2] := by
  unfold mV; rw [List.flatMap_append]; simp
theorem mV_get : ∀ (ms : List Mrk) (i : Nat), i < ms.length * 2 → (mV ms)[i]? = some (mrAt ms i)
  | [], i, h => by simp at h
  | m :: ms, i, h => by
    show ([_, _] ++ mV ms)[i]? = _
    by_cases hi : i < 2
    · rw [List.getElem?_append_left (by simpa using hi)]
      match i, hi with
      | 0, _ => rfl
      | 1, _ => rfl
    · rw [List.getElem?_append_right (by simpa using hi)]
      show (mV ms)[i - 2]? = _
      rw [mV_get ms (i - 2) (by simp at h; omega)]
      have e1 : (i - 2) % 2 = i % 2 := by omega
      have e2 : i / 2 = (i - 2) / 2 + 1 := by omega
      unfold mrAt
      rw [e1, e2, List.getD_cons_succ]
/-- A row of marks of the call's own, from block B on. -/
def RowM (w : World) (B : Nat) (v : Value) (ms : List Mrk) : Prop := w.ownsRow B 199 2 v ms.length (mV ms)
theorem RowM.new (w : World) {B : Nat} (hB : B ≤ w.heap.size) : RowM (w.alloc (.cells #[] 199)) B (.slice (some ⟨w.heap.size, 0, none⟩) 0 0) [] :=
  ⟨rfl, .inr ⟨_, 0, #[], rfl, hB, heap_alloc_new w _, by simp, by unfold maxLen; omega, rfl, rfl⟩⟩
theorem RowM.nil (w : World) (B : Nat) : RowM w B (.slice none 0 0) [] := World.ownsRow_nil w B _ 2
theorem RowM.slc {w : World} {B : Nat} {v : Value} {ms : List Mrk} (h : RowM w B v ms) : ∃ A c, v = .slice A ms.length c ∧ ms.length ≤ c ∧ SlM w B A ms := by
  rcases h.2 with ⟨rfl, h0⟩ | ⟨g, cap, cur, rfl, hb, hg, hnc, _, hcs, htk⟩
  · exact ⟨none, 0, by rw [h0], by omega, fun hn => by omega⟩
  · refine ⟨_, cap, rfl, by omega, Sl.own ⟨cur, hg, by have := Nat.mul_le_mul_right 2 hnc; omega, fun i hi => ?_⟩ hb⟩
    have h1 : (cur.toList.take (ms.length * 2))[i]? = some (mrAt ms i) := by rw [htk]; exact mV_get ms i hi
    rw [List.getElem?_take_of_lt hi] at h1
    simpa using h1
section
variable {w w' : World} {B : Nat} {v : Value} {ms : List Mrk} {xs : List Int}
theorem RowM.nx (h : RowM w B v ms) (hb : Nx w w') : RowM w' B v ms := by
  refine World.ownsRow.kept (row := none) h ⟨hb.os, hb.tape, hb.output, hb.size, fun i hi _ => hb.block i hi⟩ ?_
  cases hv : v.ownBlock with
  | none => exact .inl rfl
  | some g => exact .inr (by simp)
theorem RowM.rg {lo hi : Nat} (h : RowM w B v ms) (hr : Rg lo hi w w') (hh : hi ≤ B) : RowM w' B v ms := by
  rcases h.2 with ⟨rfl, h0⟩ | ⟨g, cap, cur, rfl, hb, hg, r⟩
  · exact ⟨h.1, .inl ⟨rfl, h0⟩⟩
  · have hlt := (World.ownsRow.lt h g rfl).2
    exact ⟨h.1, .inr ⟨g, cap, cur, rfl, hb, (hr.block g hlt (.inr (by omega))).trans hg, r⟩⟩
theorem RowM.ne {g : Nat} {t : TypeId} {ys : Array Value} (h : RowM w B v ms) (hb : Box w g t ys) (ht : t ≠ 199) : some g ≠ v.ownBlock := by
  intro he
  rcases h.2 with ⟨rfl, _⟩ | ⟨g', cap, cur, rfl, _, hg, _⟩
  · simp [Value.ownBlock] at he
  · obtain rfl : g = g' := by simpa [Value.ownBlock] using he
    unfold Box at hb
    rw [hg] at hb
    injection hb with hb
    injection hb with _ hb
    exact ht hb.symm
theorem RowM.far {p : Addr} {t : TypeId} {ys : Array Value} (h : RowM w B v ms) (hb : Box w p.block t ys) (ht : t ≠ 199) (u : Value) : RowM (w.setCell p u) B v ms := by
  have hne := h.ne hb ht
  rcases h.2 with ⟨rfl, h0⟩ | ⟨g, cap, cur, rfl, hb', hg, r⟩
  · exact ⟨h.1, .inl ⟨rfl, h0⟩⟩
  · exact ⟨h.1, .inr ⟨g, cap, cur, rfl, hb', (Below.heap_setCell w p u g (fun e => hne (by rw [e]; rfl))).trans hg, r⟩⟩
theorem RowI.far {p : Addr} {t : TypeId} {ys : Array Value} (h : RowI w B v xs) (hb : Box w p.block t ys) (ht : t ≠ 3) (u : Value) : RowI (w.setCell p u) B v xs := by
  have hne := h.ne hb ht
  rcases h.2 with ⟨rfl, h0⟩ | ⟨g, cap, cur, rfl, hb', hg, r⟩
  · exact ⟨h.1, .inl ⟨rfl, h0⟩⟩
  · exact ⟨h.1, .inr ⟨g, cap, cur, rfl, hb', (Below.heap_setCell w p u g (fun e => hne (by rw [e]; rfl))).trans hg, r⟩⟩
end
end Go.Proofs.YtehahodomfbpjaaGreatDoor
/- Contract of the program's marksOf: the marks of a text. Conditions: texts of at most 65536 bytes; the package's errors are known; the library's variable MaxLen holds a number. -/
namespace Go.Proofs.YtehahodomfbpjaaGreatDoor
set_option linter.unusedVariables false
set_option maxRecDepth 100000
open Go.RowKit

/-- What reading marks leaves: an error, or the marks in new memory. -/
def RetMk (w : World) (o : Option (List Mrk)) (a0 : Addr) (e : Ending) (w' : World) : Prop :=
  Nx w w' ∧ (o = none → e = .returned (.tuple #[.slice none 0 0, .iface 304 (.pointer (some a0))])) ∧
  ∀ ms, o = some ms → ∃ A c, e = .returned (.tuple #[.slice A ms.length c, .nilIface]) ∧ SlM w' w.heap.size A ms
theorem RetMk.no {w w' : World} {o : Option (List Mrk)} {a0 : Addr} (h : o = none) (hn : Nx w w') : RetMk w o a0 (.returned (.tuple #[.slice none 0 0, .iface 304 (.pointer (some a0))])) w' :=
  ⟨hn, fun _ => rfl, fun ns h2 => by rw [h] at h2; cases h2⟩
theorem RetMk.yes {w w' : World} {o : Option (List Mrk)} {a0 : Addr} {ms : List Mrk} {A : Option Addr} {c : Nat} (h : o = some ms) (hr : SlM w' w.heap.size A ms) (hn : Nx w w') : RetMk w o a0 (.returned (.tuple #[.slice A ms.length c, .nilIface])) w' :=
  ⟨hn, (fun h2 => by rw [h] at h2; cases h2), fun ns' h2 => by rw [h] at h2; injection h2 with h2; subst h2; exact ⟨A, c, rfl, hr⟩⟩
theorem wordB_cut {x : ByteArray} {f : Bool} {a b : ByteArray} (hf : (Lib.cut x.data.toList [61]).2.2 = f) (ha : baL (Lib.cut x.data.toList [61]).1 = a) (hb : baL (Lib.cut x.data.toList [61]).2.1 = b) :
    wordB x = if f && plainB b.data.toList then some (a, ((valL b.data.toList : Nat) : Int)) else none := by
  unfold wordB wordM
  rw [← hb, baL_list, hf, ha]
theorem cut_len (l : List UInt8) (c : UInt8) : (Lib.cut l [c]).1.length ≤ l.length ∧ (Lib.cut l [c]).2.1.length ≤ l.length := by
  rcases part_at c l with h | ⟨a, b, h, e⟩
  · rw [cut_miss h]; simp
  · rw [e, cut_hit h]; simp; omega
theorem newM (w : World) (a : ByteArray) (n : Int) : Hid (∀ j u, [Value.string a, .int .i64 n][j]? = some u → (w.alloc (.cells #[.string a, .int .i64 n] 199)).cell? ((Addr.mk w.heap.size 0 none).add j) = some u) := Lib.hid (fun j u hj => by
  have b := Box.new w 199 #[.string a, .int .i64 n]
  rw [addr_add', Nat.zero_add, b.cell j, ← hj]
  rcases j with _ | _ | j <;> simp)
set_option maxHeartbeats 4000000 in
theorem marksOf_c (s : ByteArray) (w : World) (a0 a1 : Addr) (hs : s.size ≤ 65536) (hE : Er w a0 a1) (hM : Mx w) : Calls Tryz.prog 198 #[.string s] w (RetMk w (marksO s.data.toList) a0) := by
  obtain ⟨i0, hi0, hz0, hz1, hz2⟩ := info_parts info_mk
  by_cases h0 : s.size = 0
  · have hd : (s.toList == []) = true := by
      rw [beq_iff_eq, ByteArray.toList_eq]; exact List.eq_nil_of_length_eq_zero (by rw [← ba_size]; exact h0)
    have HF := Lib.hid (marksO_nil h0)
    go_enter Tryz.func198, Tryz.ntmps198
    go_wp2
    go_ret2
    exact RetMk.yes (ms := []) HF.out (Sl.none_ _ _ _ _ _) (Nx.refl _)
  have hd : (s.toList == []) = false := by
    rw [beq_eq_false_iff_ne, ByteArray.toList_eq]; intro h; exact h0 (by rw [ba_size, h]; rfl)
  have HO := Lib.hid (marksO_cut h0)
  go_enter Tryz.func198, Tryz.ntmps198
  go_wp2_with fail
  refine (split_c s 44 _ hs hM).mono ?_
  rintro e w1 ⟨A, cp, rfl, hS, hnx1⟩
  have hl9 : (cutB 44 s).length ≤ 65537 := by rw [cutB_len]; have := cutL_size 44 s.data.toList; rw [← ba_size] at this; omega
  have HPt := Lib.hid (fun k => cutB_part (c := 44) (t := s) k)
  obtain ⟨ws, Hws⟩ : ∃ ws, Hid (cutB 44 s = ws) := ⟨_, rfl⟩
  rw [Hws.out] at hS HO hl9 HPt ⊢
  go_wp2
  go_loopw [4, 17] (fun o i wr => ∃ (k : Nat) (v : Value) (ms : List Mrk), k ≤ ws.length ∧ i = .int .i64 k ∧ v = o ∧ RowM wr w1.heap.size v ms ∧ Hid (marksB (ws.take k) = some ms) ∧ Nx w1 wr) (fun _ i _ => ws.length - (intOf i).toNat)
  case atStart => exact ⟨0, _, [], Nat.zero_le _, rfl, rfl, RowM.nil _ _, Lib.hid rfl, Nx.refl _⟩
  case round =>
    obtain ⟨k, v, ms, hk, rfl, rfl, hw, HM, hnx⟩ := hrel
    by_cases hlt : k < ws.length
    · obtain ⟨b, off, rfl, hb, hc0⟩ := (hS.row.below hnx (Nat.le_refl _)) (by omega)
      have hc := hc0 k hlt
      clear hc0
      unfold wdAt at hc
      have hsz := HPt.out k
      have HNo := Lib.hid (fun h => HO.out.trans (marksB_no hlt h))
      have HYes := Lib.hid (fun m (h : wordB (ws.getD k ByteArray.empty) = some m) => marksB_succ hlt HM.out h)
      have hml : ms.length = k := by rw [marksB_len HM.out, List.length_take]; omega
      have Hml := Lib.hid hml
      obtain ⟨x, Hx⟩ : ∃ x, Hid (ws.getD k ByteArray.empty = x) := ⟨_, rfl⟩
      rw [Hx.out] at hc hsz HNo HYes
      clear hml
      go_wp2_with fail
      refine (cut_c x 61 _ (by omega) ((hM.nx hnx1).nx hnx)).mono ?_
      rintro e w2 ⟨he, hnx2⟩
      have hcl := cut_len x.data.toList 61
      obtain ⟨a, Ha⟩ : ∃ a, Hid (baL (Lib.cut x.data.toList [61]).1 = a) := ⟨_, rfl⟩
      obtain ⟨bb, Hb⟩ : ∃ a, Hid (baL (Lib.cut x.data.toList [61]).2.1 = a) := ⟨_, rfl⟩
      have hbs : bb.size ≤ 65536 := by rw [← Hb.out, baL_size]; have := hcl.2; rw [← ba_size] at this; omega
      clear hcl
      have hx2 := hnx.trans hnx2
      have hE2 := hE.nx (hnx1.trans hx2)
      have hw2 := hw.nx hnx2
      rw [Ha.out, Hb.out] at he
      cases hf : (Lib.cut x.data.toList [61]).2.2 with
      | false =>
        have HF := Lib.hid (HNo.out (by rw [wordB_cut hf Ha.out Hb.out]; rfl))
        rw [hf] at he
        subst he
        clear hf HNo HYes
        obtain ⟨c0, _⟩ := hE2
        go_wp2
        go_quiet (fail)
        go_wp2
        go_ret2
        exact RetMk.no HF.out ((hnx1.trans hx2).drewN _)
      | true =>
        have HWd := Lib.hid (wordB_cut hf Ha.out Hb.out)
        rw [hf] at he
        subst he
        clear hf
        go_wp2_with fail
        refine (plainNumberOf_c bb _ a0 a1 hbs hE2).mono ?_
        rintro e w3 ⟨he3, hnx3⟩
        have hx3 := hx2.trans hnx3
        have hw3 := hw2.nx hnx3
        cases hp : plainB bb.data.toList with
        | false =>
          have HF := Lib.hid (HNo.out (by rw [HWd.out, hp]; rfl))
          rw [← plainV_no hp] at he3
          subst he3
          clear hp HNo HYes
          go_wp2
          go_ret2
          exact RetMk.no HF.out (hnx1.trans hx3)
        | true =>
          have HY := Lib.hid (HYes.out (a, ((valL bb.data.toList : Nat) : Int)) (by rw [HWd.out, hp]; rfl))
          rw [← plainV_yes hp] at he3
          subst he3
          clear hp HNo HYes
          obtain ⟨m, Hm⟩ : ∃ m : Int, Hid (((valL bb.data.toList : Nat) : Int) = m) := ⟨_, rfl⟩
          rw [Hm.out] at HY ⊢
          have hw4 := hw3.nx ((Nx.refl w3).alloc (.cells #[.string a, .int .i64 m] 199))
          have hx4 := hx3.alloc (.cells #[.string a, .int .i64 m] 199)
          have HNW := newM w3 a m
          have HOc : Hid (∀ u ∈ [Value.string a, .int .i64 m], u.oneCell' = true) := Lib.hid (fun u hu => by simp only [List.mem_cons, List.not_mem_nil, or_false] at hu; rcases hu with rfl | rfl <;> rfl)
          unfold RowM at hw4
          go_wp2_with (at_builtin; refine wpList_append_own _ rfl _ _ 28 rfl w1.heap.size 199 i0 _ 2 24 Tryz.underlying28 hi0 hz0 hz1 hz2 rfl (by omega) v ms.length _ rfl hw4 ⟨w3.heap.size, 0, none⟩ 1 1 [.string a, .int .i64 m] rfl rfl HNW.out HOc.out ?c3 ?c4 ?c5 ?_)
          case c3 => unfold maxLen; have := Hml.out; omega
          case c4 => have := Hml.out; omega
          case c5 => have := hx4.size; simp only [World.size_alloc] at this ⊢; omega
          intro v2 w5 hw5 hg5 _
          have hx5 : Nx w1 w5 := Below.grown hx4 hg5 hx4.size (fun k hk => (hw4.lt k hk).1)
          go_wp2
          go_roundw
          case rel =>
            refine ⟨k + 1, v2, ms ++ [(a, m)], by omega, by go_num, rfl, ?_, HY, hx5⟩
            unfold RowM; rw [mV_snoc, List.length_append]; exact hw5
          case measure => simp [intOf]; omega
    · obtain rfl : k = ws.length := by omega
      have HR := Lib.hid (show marksO s.data.toList = some ms by rw [HO.out, ← HM.out, List.take_length])
      obtain ⟨A2, c2, rfl, _, hS2⟩ := hw.slc
      go_wp2
      go_ret2
      exact RetMk.yes HR.out (hS2.low hnx1.size) (hnx1.trans hnx)
end Go.Proofs.YtehahodomfbpjaaGreatDoor
