/-
  Values: contents turned by changes, block by block; changes put together; chains of segments that fit a content.
  Conditions: none (no memory is spoken of).
-/
import Derived.Test.YtihpadelfpogmaaMgv
import Derived.Test.YtihpadelfpogmaaChs
namespace Go.Proofs.Ytihpadelfpogmaa
set_option linter.unusedVariables false
set_option maxRecDepth 100000
open Go.RowKit

theorem noteM_nil (M : Int → Option Chg) : noteM M [] = M := rfl
theorem noteM_cons (M : Int → Option Chg) (c : Chg) (cs : List Chg) : noteM M (c :: cs) = noteM (fun k => if c.1 = k then some c else M k) cs := rfl
theorem noteM_snoc (M : Int → Option Chg) (cs : List Chg) (c : Chg) (k : Int) : noteM M (cs ++ [c]) k = if c.1 = k then some c else noteM M cs k := by
  unfold noteM; rw [List.foldl_append]; rfl
def Blk (cs : List Chg) : Prop := ∀ c ∈ cs, 0 ≤ c.1 ∧ c.1 ≤ 7
theorem chsB_mem {cs : List Chg} (h : chsB cs = true) : ∀ c ∈ cs, chB c = true := fun c hc => by
  obtain ⟨j, hj, rfl⟩ := List.mem_iff_getElem.1 hc
  have := chsB_to h j hj
  unfold okCh at this
  rw [List.getD_eq_getElem?_getD, List.getElem?_eq_getElem hj] at this
  simp only [Option.getD_some, Bool.and_eq_true] at this
  exact this.1
theorem chB_parts {c : Chg} (h : chB c = true) : (0 ≤ c.1 ∧ c.1 ≤ 7) ∧ (0 ≤ c.2.1 ∧ c.2.1 ≤ 999999) ∧ (0 ≤ c.2.2 ∧ c.2.2 ≤ 999999) := by
  unfold chB at h
  simp only [Bool.and_eq_true] at h
  exact ⟨inB_yes h.1.1, inB_yes h.1.2, inB_yes h.2⟩
theorem chsB_blk {cs : List Chg} (h : chsB cs = true) : Blk cs := fun c hc => (chB_parts (chsB_mem h c hc)).1
theorem app_cons (p : Chg → Int) (xs : List Int) (c : Chg) (cs : List Chg) : app p xs (c :: cs) = app p (xs.set c.1.toNat (p c)) cs := rfl
/-- Block by block. -/
theorem app_at (p : Chg → Int) (d : Nat → Int) : ∀ (cs : List Chg) (xs : List Int) (M : Int → Option Chg), Blk cs → xs.length = 8 → (∀ j : Nat, j < 8 → xs.getD j 0 = ((M (j : Int)).map p).getD (d j)) →
    ∀ j : Nat, j < 8 → (app p xs cs).getD j 0 = ((noteM M cs (j : Int)).map p).getD (d j)
  | [], xs, M, _, _, h, j, hj => h j hj
  | c :: cs, xs, M, hb, hl, h, j, hj => by
    rw [app_cons, noteM_cons]
    obtain ⟨h0, h7⟩ := hb c (by simp)
    refine app_at p d cs _ _ (fun x hx => hb x (by simp [hx])) (by rw [List.length_set]; exact hl) (fun i hi => ?_) j hj
    by_cases e : c.1 = (i : Int)
    · rw [if_pos e, show c.1.toNat = i by omega, getD_set_self (by omega)]; rfl
    · rw [if_neg e, getD_set_ne (by omega)]; exact h i hi
theorem app_at0 (p : Chg → Int) {cs : List Chg} {xs : List Int} (hb : Blk cs) (hl : xs.length = 8) {j : Nat} (hj : j < 8) : (app p xs cs).getD j 0 = ((noteM noM cs (j : Int)).map p).getD (xs.getD j 0) :=
  app_at p (fun j => xs.getD j 0) cs xs noM hb hl (fun i _ => rfl) j hj
theorem ext8 {xs ys : List Int} (h : xs.length = 8) (h2 : ys.length = 8) (he : ∀ j, j < 8 → xs.getD j 0 = ys.getD j 0) : xs = ys := List.ext_getElem (by omega) fun j h3 h4 => by
  have := he j (by omega)
  rw [List.getD_eq_getElem?_getD, List.getD_eq_getElem?_getD, List.getElem?_eq_getElem h3, List.getElem?_eq_getElem h4] at this
  exact this
/-- What was old is what is there. -/
def Fits (x : List Int) (cs : List Chg) : Prop := ∀ j : Nat, j < 8 → ∀ c, noteM noM cs (j : Int) = some c → c.2.2 = x.getD j 0
def Agree (M : Int → Option Chg) (x : List Int) : Prop := ∀ j : Nat, j < 8 → ∀ c, M (j : Int) = some c → c.2.1 = x.getD j 0
/-- What is undone is as it was. -/
theorem undo_ {x : List Int} {cs : List Chg} (hl : x.length = 8) (hb : Blk cs) (hf : Fits x cs) : app pO (app pN x cs) cs = x := by
  refine ext8 (by rw [app_len, app_len]; exact hl) hl fun j hj => ?_
  rw [app_at0 pO hb (by rw [app_len]; exact hl) hj]
  cases h : noteM noM cs (j : Int) with
  | none => rw [app_at0 pN hb hl hj, h]; rfl
  | some c => exact hf j hj c h
theorem Agree.note {M : Int → Option Chg} {x : List Int} {cs : List Chg} (h : Agree M x) (hl : x.length = 8) (hb : Blk cs) : Agree (noteM M cs) (app pN x cs) := fun j hj c hc => by
  have := app_at pN (fun j => x.getD j 0) cs x M hb hl (fun i hi => by
    cases hM : M (i : Int) with
    | none => rfl
    | some d => exact (h i hi d hM).symm) j hj
  rw [this, hc]; rfl
theorem noteM_mem {cs : List Chg} (h : chsB cs = true) {c : Chg} (hc : c ∈ cs) : noteM noM cs c.1 = some c := by
  obtain ⟨k, hk, rfl⟩ := List.mem_iff_getElem.1 hc
  have hto := chsB_to h
  have e : cs.getD k chZ = cs[k] := by rw [List.getD_eq_getElem?_getD, List.getElem?_eq_getElem hk]; rfl
  have step : ∀ n, k < n → n ≤ cs.length → noteM noM (cs.take n) cs[k].1 = some cs[k] := by
    intro n
    induction n with
    | zero => intro h1; omega
    | succ n ih =>
      intro h1 h2
      rw [noteM_succ noM cs (by omega)]
      simp only
      by_cases hn : k = n
      · subst hn
        rw [e, if_pos rfl]
      · have h3 := hto.lt n (by omega) k (by omega)
        rw [e] at h3
        rw [if_neg (by omega)]
        exact ih (by omega) (by omega)
  have := step cs.length hk (Nat.le_refl _)
  rwa [List.take_length] at this
theorem on_of {M : Int → Option Chg} {x : List Int} {cs : List Chg} (hA : Agree M x) (hok : chsB cs = true) (hf : Fits x cs) : onB M cs = true := List.all_eq_true.2 fun c hc => by
  obtain ⟨h0, h7⟩ := chsB_blk hok c hc
  have hm := noteM_mem hok hc
  unfold onC
  cases hM : M c.1 with
  | none => rfl
  | some a =>
    simp only
    rw [decide_eq_true_eq]
    have hj : ((c.1.toNat : Nat) : Int) = c.1 := by omega
    have h1 := hA c.1.toNat (by omega) a (by rw [hj]; exact hM)
    have h2 := hf c.1.toNat (by omega) c (by rw [hj]; exact hm)
    rw [h1, h2]
/-- A map whose entries stand at their blocks, and are right. -/
def Right (M : Int → Option Chg) : Prop := ∀ (j : Nat), j < 8 → ∀ c, M (j : Int) = some c → c.1 = (j : Int) ∧ chB c = true
theorem chsB_snoc {cs : List Chg} {c : Chg} (h : chsB cs = true) (hc : chB c = true) (hlt : ∀ d ∈ cs, d.1 < c.1) : chsB (cs ++ [c]) = true := OkTo.all fun j hj => by
  have hto := chsB_to h
  rw [List.length_append] at hj
  simp only [List.length_cons, List.length_nil] at hj
  unfold okCh
  by_cases hjl : j < cs.length
  · have e : ∀ i, i ≤ j → (cs ++ [c]).getD i chZ = cs.getD i chZ := fun i hi => by
      rw [List.getD_eq_getElem?_getD, List.getD_eq_getElem?_getD, List.getElem?_append_left (by omega)]
    rw [e j (Nat.le_refl _), e (j - 1) (by omega)]
    exact hto j hjl
  · obtain rfl : j = cs.length := by omega
    have e : (cs ++ [c]).getD cs.length chZ = c := by rw [List.getD_eq_getElem?_getD, List.getElem?_append_right (Nat.le_refl _)]; simp
    rw [e, hc]
    by_cases h0 : cs.length = 0
    · rw [h0]; rfl
    · have e1 : (cs ++ [c]).getD (cs.length - 1) chZ = cs[cs.length - 1] := by
        rw [List.getD_eq_getElem?_getD, List.getElem?_append_left (by omega), List.getElem?_eq_getElem (by omega)]; rfl
      rw [e1, decide_eq_true (hlt _ (List.getElem_mem _))]; simp
theorem ris_right {M : Int → Option Chg} (h : Right M) : ∀ k, k ≤ 8 → chsB (risM M k) = true ∧ (∀ d ∈ risM M k, d.1 < (k : Int)) ∧ ∀ j : Nat, noteM noM (risM M k) (j : Int) = if j < k then M (j : Int) else none
  | 0, _ => ⟨rfl, (fun d hd => by cases hd), (fun j => by rw [if_neg (by omega)]; rfl)⟩
  | k + 1, hk => by
    obtain ⟨h1, h2, h3⟩ := ris_right h k (by omega)
    rw [risM_succ]
    cases hM : M (k : Int) with
    | none =>
      simp only [Option.toList_none, List.append_nil]
      refine ⟨h1, fun d hd => by have := h2 d hd; omega, fun j => ?_⟩
      rw [h3 j]
      by_cases e : j = k
      · subst e; rw [if_neg (by omega), if_pos (by omega), hM]
      · by_cases e2 : j < k
        · rw [if_pos e2, if_pos (by omega)]
        · rw [if_neg e2, if_neg (by omega)]
    | some c =>
      obtain ⟨hc1, hc2⟩ := h k (by omega) c hM
      simp only [Option.toList_some]
      refine ⟨chsB_snoc h1 hc2 fun d hd => by have := h2 d hd; omega, fun d hd => ?_, fun j => ?_⟩
      · rcases List.mem_append.1 hd with hd | hd
        · have := h2 d hd; omega
        · simp only [List.mem_singleton] at hd; subst hd; omega
      · rw [noteM_snoc, h3 j]
        by_cases e : j = k
        · subst e; rw [if_pos hc1, if_pos (by omega), hM]
        · rw [if_neg (by omega)]
          by_cases e2 : j < k
          · rw [if_pos e2, if_pos (by omega)]
          · rw [if_neg e2, if_neg (by omega)]
theorem note_right {cs : List Chg} (h : chsB cs = true) : Right (noteM noM cs) := fun j hj c hc => by
  have key : ∀ (l : List Chg) (M : Int → Option Chg), (∀ d ∈ l, chB d = true) → (∀ k d, M k = some d → d.1 = k ∧ chB d = true) → ∀ k d, noteM M l k = some d → d.1 = k ∧ chB d = true := by
    intro l
    induction l with
    | nil => intro M _ h2; exact h2
    | cons a l ih =>
      intro M h1 h2 k d hd
      rw [noteM_cons] at hd
      refine ih _ (fun x hx => h1 x (by simp [hx])) (fun k' d' hd' => ?_) k d hd
      by_cases e : a.1 = k'
      · rw [if_pos e] at hd'
        obtain rfl := Option.some.inj hd'
        exact ⟨e, h1 a (by simp)⟩
      · rw [if_neg e] at hd'
        exact h2 k' d' hd'
  exact key cs noM (chsB_mem h) (fun k d hd => by cases hd) _ c hc
theorem app_cont {x : List Int} {cs : List Chg} (hx : contB x = true) (h : chsB cs = true) : contB (app pN x cs) = true := by
  obtain ⟨h8, hv⟩ := contB_yes hx
  refine contB_mk (by rw [app_len]; exact h8) fun j hj => ?_
  rw [app_len, h8] at hj
  rw [app_at0 pN (chsB_blk h) h8 hj]
  cases hM : noteM noM cs (j : Int) with
  | none => have := hv j hj; exact inB_mk this.1 this.2
  | some c => have := (chB_parts (note_right h j hj c hM).2).2.1; exact inB_mk this.1 this.2
theorem fits_one (x : List Int) (b : Nat) (v : Int) : Fits x [((b : Int), v, x.getD b 0)] := fun j hj c hc => by
  have h1 : (if (b : Int) = (j : Int) then some ((b : Int), v, x.getD b 0) else none) = some c := hc
  by_cases e : (b : Int) = (j : Int)
  · rw [if_pos e] at h1
    obtain rfl := Option.some.inj h1
    show x.getD b 0 = x.getD j 0
    rw [show b = j by omega]
  · rw [if_neg e] at h1; cases h1
/-- A write put together with what was ahead of it. -/
theorem mrg_one {x : List Int} {l1 : List Chg} (hx : contB x = true) (h1 : chsB l1 = true) (hf : Fits x l1) {b : Nat} (hb : b < 8) {v o : Int} (hv0 : 0 ≤ v) (hv1 : v ≤ 999999) (ho : (app pN x l1).getD b 0 = o) :
    chsB (mrgC l1 [((b : Int), v, o)]) = true ∧ app pN x (mrgC l1 [((b : Int), v, o)]) = app pN (app pN x l1) [((b : Int), v, o)] ∧ Fits x (mrgC l1 [((b : Int), v, o)]) := by
  have h8 := (contB_yes hx).1
  have hM : ∀ j : Nat, mgM (noteM noM l1) [((b : Int), v, o)] (j : Int) = if (b : Int) = (j : Int) then some ((b : Int), v, ((noteM noM l1 (j : Int)).getD ((b : Int), v, o)).2.2) else noteM noM l1 (j : Int) := fun j => rfl
  have ho2 := (contB_yes (app_cont hx h1)).2 b hb
  rw [ho] at ho2
  have hr := note_right h1
  have hR : Right (mgM (noteM noM l1) [((b : Int), v, o)]) := fun j hj c hc => by
    rw [hM j] at hc
    by_cases e : (b : Int) = (j : Int)
    · rw [if_pos e] at hc
      obtain rfl := Option.some.inj hc
      refine ⟨e, ?_⟩
      cases hN : noteM noM l1 (j : Int) with
      | none => exact chB_mk (by omega) (by omega) hv0 hv1 ho2.1 ho2.2
      | some d => have := (chB_parts (hr j hj d hN).2).2.2; exact chB_mk (by omega) (by omega) hv0 hv1 this.1 this.2
    · rw [if_neg e] at hc
      exact hr j hj c hc
  obtain ⟨q1, _, q3⟩ := ris_right hR 8 (Nat.le_refl _)
  replace q1 : chsB (mrgC l1 [((b : Int), v, o)]) = true := q1
  have q4 : ∀ j : Nat, j < 8 → noteM noM (mrgC l1 [((b : Int), v, o)]) (j : Int) = if (b : Int) = (j : Int) then some ((b : Int), v, ((noteM noM l1 (j : Int)).getD ((b : Int), v, o)).2.2) else noteM noM l1 (j : Int) := fun j hj => by
    have := q3 j
    rw [if_pos hj, hM j] at this
    exact this
  refine ⟨q1, ext8 (by rw [app_len]; exact h8) (by rw [app_len, app_len]; exact h8) fun j hj => ?_, fun j hj c hc => ?_⟩
  · rw [app_at0 pN (chsB_blk q1) h8 hj, q4 j hj, app_one]
    by_cases e : (b : Int) = (j : Int)
    · obtain rfl : b = j := by omega
      rw [if_pos rfl, getD_set_self (by rw [app_len]; omega)]; rfl
    · rw [if_neg e, getD_set_ne (by omega), app_at0 pN (chsB_blk h1) h8 hj]
  · rw [q4 j hj] at hc
    by_cases e : (b : Int) = (j : Int)
    · obtain rfl : b = j := by omega
      rw [if_pos rfl] at hc
      obtain rfl := Option.some.inj hc
      cases hN : noteM noM l1 (b : Int) with
      | none =>
        show o = x.getD b 0
        rw [← ho, app_at0 pN (chsB_blk h1) h8 hj, hN]; rfl
      | some d => exact hf b hj d hN
    · rw [if_neg e] at hc
      exact hf j hj c hc
/-- The content behind the first k. -/
def ctK (c0 : List Int) (gs : List SgR) : Nat → List Int
  | 0 => c0
  | k + 1 => app pN (ctK c0 gs k) (gs.getD k sgZ).cs
/-- A segment that goes on at place k. -/
structure Lk (base : Int) (c0 : List Int) (gs : List SgR) (k : Nat) (g : SgR) : Prop where
  seg : segB g.f g.t g.m g.cs = true
  at_ : g.f = atK base gs k
  tm : tmK gs k ≤ g.m
  fit : Fits (ctK c0 gs k) g.cs
/-- A chain that leads on from a content. -/
def ChI (base : Int) (c0 : List Int) (gs : List SgR) : Prop := ∀ k, k < gs.length → Lk base c0 gs k (gs.getD k sgZ)
theorem getD_pre (gs hs : List SgR) {k : Nat} (h : k < gs.length) : (gs ++ hs).getD k sgZ = gs.getD k sgZ := by
  rw [List.getD_eq_getElem?_getD, List.getD_eq_getElem?_getD, List.getElem?_append_left h]
theorem atK_pre (base : Int) (gs hs : List SgR) : ∀ k, k ≤ gs.length → atK base (gs ++ hs) k = atK base gs k
  | 0, _ => rfl
  | k + 1, h => by show ((gs ++ hs).getD k sgZ).t = (gs.getD k sgZ).t; rw [getD_pre gs hs (by omega)]
theorem tmK_pre (gs hs : List SgR) : ∀ k, k ≤ gs.length → tmK (gs ++ hs) k = tmK gs k
  | 0, _ => rfl
  | k + 1, h => by show ((gs ++ hs).getD k sgZ).m = (gs.getD k sgZ).m; rw [getD_pre gs hs (by omega)]
theorem ctK_pre (c0 : List Int) (gs hs : List SgR) : ∀ k, k ≤ gs.length → ctK c0 (gs ++ hs) k = ctK c0 gs k
  | 0, _ => rfl
  | k + 1, h => by
    show app pN (ctK c0 (gs ++ hs) k) ((gs ++ hs).getD k sgZ).cs = app pN (ctK c0 gs k) (gs.getD k sgZ).cs
    rw [getD_pre gs hs (by omega), ctK_pre c0 gs hs k (by omega)]
theorem Lk.pre {base : Int} {c0 : List Int} {gs : List SgR} {k : Nat} {g : SgR} (hs : List SgR) (hk : k ≤ gs.length) (h : Lk base c0 gs k g) : Lk base c0 (gs ++ hs) k g :=
  ⟨h.seg, by rw [atK_pre base gs hs k hk]; exact h.at_, by rw [tmK_pre gs hs k hk]; exact h.tm, by rw [ctK_pre c0 gs hs k hk]; exact h.fit⟩
theorem Lk.unpre {base : Int} {c0 : List Int} {gs hs : List SgR} {k : Nat} {g : SgR} (hk : k ≤ gs.length) (h : Lk base c0 (gs ++ hs) k g) : Lk base c0 gs k g :=
  ⟨h.seg, by rw [← atK_pre base gs hs k hk]; exact h.at_, by rw [← tmK_pre gs hs k hk]; exact h.tm, by rw [← ctK_pre c0 gs hs k hk]; exact h.fit⟩
theorem ChI.nil (base : Int) (c0 : List Int) : ChI base c0 [] := fun k hk => absurd hk (by simp)
theorem ChI.snoc {base : Int} {c0 : List Int} {gs : List SgR} {g : SgR} (h : ChI base c0 gs) (hg : Lk base c0 gs gs.length g) : ChI base c0 (gs ++ [g]) := fun k hk => by
  rw [List.length_append] at hk
  simp only [List.length_cons, List.length_nil] at hk
  by_cases e : k < gs.length
  · rw [getD_pre gs [g] e]; exact (h k e).pre [g] (by omega)
  · obtain rfl : k = gs.length := by omega
    rw [getD_app]; exact hg.pre [g] (Nat.le_refl _)
theorem ChI.init {base : Int} {c0 : List Int} {gs : List SgR} {g : SgR} (h : ChI base c0 (gs ++ [g])) : ChI base c0 gs ∧ Lk base c0 gs gs.length g := by
  refine ⟨fun k hk => ?_, ?_⟩
  · have := h k (by rw [List.length_append]; omega)
    rw [getD_pre gs [g] hk] at this
    exact this.unpre (by omega)
  · have := h gs.length (by rw [List.length_append]; simp)
    rw [getD_app] at this
    exact this.unpre (Nat.le_refl _)
theorem end_snoc (base : Int) (c0 : List Int) (gs : List SgR) (g : SgR) : atK base (gs ++ [g]) (gs.length + 1) = g.t ∧ tmK (gs ++ [g]) (gs.length + 1) = g.m ∧ ctK c0 (gs ++ [g]) (gs.length + 1) = app pN (ctK c0 gs gs.length) g.cs := by
  refine ⟨?_, ?_, ?_⟩
  · show ((gs ++ [g]).getD gs.length sgZ).t = _
    rw [getD_app]
  · show ((gs ++ [g]).getD gs.length sgZ).m = _
    rw [getD_app]
  · show app pN (ctK c0 (gs ++ [g]) gs.length) ((gs ++ [g]).getD gs.length sgZ).cs = _
    rw [getD_app, ctK_pre c0 gs [g] _ (Nat.le_refl _)]
theorem ChI.cont {base : Int} {c0 : List Int} {gs : List SgR} (h : ChI base c0 gs) (hc : contB c0 = true) : ∀ k, k ≤ gs.length → contB (ctK c0 gs k) = true
  | 0, _ => hc
  | k + 1, hk => app_cont (h.cont hc k (by omega)) (segB_chs (h k (by omega)).seg)
theorem ChI.agree {base : Int} {c0 : List Int} {gs : List SgR} (h : ChI base c0 gs) (hc : contB c0 = true) : ∀ k, k ≤ gs.length → Agree (mpK gs k) (ctK c0 gs k)
  | 0, _ => fun j _ c hh => by cases hh
  | k + 1, hk => (h.agree hc k (by omega)).note (contB_yes (h.cont hc k (by omega))).1 (chsB_blk (segB_chs (h k (by omega)).seg))
/-- Such a chain is one. -/
theorem ChI.chain {base : Int} {c0 : List Int} {gs : List SgR} (h : ChI base c0 gs) (hc : contB c0 = true) (hb : inB 0 999999 base = true) (hl : gs.length ≤ 4096) : chainB base gs = true :=
  LnTo.all (fun k hk => by
    have L := h k hk
    unfold lnk sgB
    rw [L.seg, decide_eq_true L.at_, decide_eq_true L.tm, on_of (h.agree hc k (by omega)) (segB_chs L.seg) L.fit]; rfl) hl hb
theorem ChI.undo {base : Int} {c0 : List Int} {gs : List SgR} (h : ChI base c0 gs) (hc : contB c0 = true) {k : Nat} (hk : k < gs.length) : app pO (ctK c0 gs (k + 1)) (gs.getD k sgZ).cs = ctK c0 gs k :=
  undo_ (contB_yes (h.cont hc k (by omega))).1 (chsB_blk (segB_chs (h k hk).seg)) (h k hk).fit
end Go.Proofs.Ytihpadelfpogmaa
