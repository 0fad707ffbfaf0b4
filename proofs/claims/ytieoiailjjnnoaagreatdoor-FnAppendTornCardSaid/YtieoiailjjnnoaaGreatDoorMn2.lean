/-
  Texts of the proof, in their order.
  Conditions: those of each.
-/
import Derived.Test.YtieoiailjjnnoaaGreatDoorMn1
import Derived.Deep.Strs
import Derived.StillTailTactics
import Derived.IntWalk
import Derived.Laws.Cover1
import Derived.Lib.SmallJoins
import Derived.LaidEql
import Derived.Stop.Asserts
import Derived.RowKitTokens
import Derived.Deep.RegionWith
import Derived.Laws.IdiomStrings
import Derived.Laws.Concat
namespace Go.Proofs.YtieoiailjjnnoaaGreatDoor
set_option linter.unusedVariables false
open _root_.Go.Proofs.Tryz
set_option maxRecDepth 100000
set_option maxHeartbeats 16000000
section
open Go.RowKit
def lastV (M : Int -> Option Chg) (j : Int) : Int := match M j with
 | some c => c.2.1
 | none => -1
def lsAt (M : Int -> Option Chg) (i : Nat) : Value := ii (lastV M (i : Int))
def NonN (M : Int -> Option Chg) : Prop := ∀ j c, M j = some c -> 0 <= c.2.1
theorem OkTo.lt {cs : List Chg} {n : Nat} (h : OkTo cs n) : ∀ j, j < n -> ∀ i, i < j -> (cs.getD i chZ).1 < (cs.getD j chZ).1 := by
 intro j
 induction j with
 | zero => intro _ i hi; omega
 | succ j ih =>
   intro hj i hi
   have h0 := h (j + 1) hj
   unfold okCh at h0
   simp only [Bool.and_eq_true, Bool.or_eq_true, decide_eq_true_eq, Nat.add_sub_cancel] at h0
   have hlt : (cs.getD j chZ).1 < (cs.getD (j + 1) chZ).1 := by
    rcases h0.2 with h2 | h2
    . simp at h2
    . exact h2
   by_cases e : i = j
   . rw [e]; exact hlt
   . have := ih oM i oM
     omega
theorem noteM_far (M : Int -> Option Chg) {cs : List Chg} (h : OkTo cs cs.length) : ∀ k, k <= cs.length -> ∀ x : Int, (∀ i, i < k -> (cs.getD i chZ).1 ≠ x) -> noteM M (cs.take k) x = M x := by
 intro k
 induction k with
 | zero => intro _ x _; rfl
 | succ k ih =>
   intro hk x hx
   rw [noteM_succ M cs oM]
   simp only
   rw [if_neg (fun e => hx k oM e.symm)]
   exact ih oM x fun i hi => hx i oM
theorem noteM_at (M : Int -> Option Chg) {cs : List Chg} (h : OkTo cs cs.length) {k : Nat} (hk : k < cs.length) : noteM M (cs.take k) (cs.getD k chZ).1 = M (cs.getD k chZ).1 :=
 noteM_far M h k oM _ fun i hi => by have := h.lt k hk i hi; omega
theorem NonN.note {M : Int -> Option Chg} (h : NonN M) {cs : List Chg} (hok : OkTo cs cs.length) : ∀ k, k <= cs.length -> NonN (noteM M (cs.take k)) := by
 intro k
 induction k with
 | zero => intro _; exact h
 | succ k ih =>
   intro hk j c hj
   rw [noteM_succ M cs oM] at hj
   simp only at hj
   by_cases e : j = (cs.getD k chZ).1
   . rw [if_pos e] at hj
     obtain rfl := Option.some.inj hj
     have := hok k oM
     unfold okCh chB at this
     simp only [Bool.and_eq_true] at this
     exact (inB_yes this.1.1.2).1
   . rw [if_neg e] at hj
     exact ih oM j c hj
theorem lnk_yes_parts {base : Int} {gs : List SgR} {k : Nat} (h : lnk base gs k = true) : segB (gs.getD k sgZ).f (gs.getD k sgZ).t (gs.getD k sgZ).m (gs.getD k sgZ).cs = true /\ (gs.getD k sgZ).f = atK base gs k := by
 unfold lnk sgB at h
 simp only [Bool.and_eq_true, decide_eq_true_eq] at h
 exact ⟨h.1.1.1, h.1.1.2⟩
theorem LnTo.nonN {base : Int} {gs : List SgR} : ∀ k, LnTo base gs k -> NonN (mpK gs k)
 | 0, _ => fun j c h => by cases h
 | k + 1, h => by
   have h1 := LnTo.nonN k fun j hj => h j oM
   have h2 := chsB_to (segB_chs (lnk_yes_parts (h k oM)).1)
   have h3 := h1.note h2 _ nle
   rw [List.take_length] at h3
   exact h3
theorem segB_range {f t m : Int} {cs : List Chg} (h : segB f t m cs = true) : inB 0 999999 f = true /\ inB 0 999999 t = true /\ inB 0 999999 m = true /\ f < t := by
 unfold segB at h
 simp only [Bool.and_eq_true, decide_eq_true_eq] at h
 exact ⟨h.1.1.1.1, h.1.1.1.2, h.1.2, h.1.1.2⟩
theorem LnTo.end_ {base : Int} {gs : List SgR} {k : Nat} (h : LnTo base gs k) : inB 0 999999 (atK base gs k) = inB 0 999999 base := by
 cases k with
 | zero => rfl
 | succ k =>
   obtain ⟨h1, h2⟩ := lnk_yes_parts (h 0 oM)
   have h3 := (segB_range h1).1
   rw [h2] at h3
   rw [show atK base gs (k + 1) = (gs.getD k sgZ).t from rfl, (segB_range (lnk_yes_parts (h k oM)).1).2.1]
   exact h3.symm
theorem LnTo.chain {base : Int} {gs : List SgR} (h : LnTo base gs gs.length) (hl : gs.length <= 4096) : chainB base gs = inB 0 999999 base := by
 unfold chainB
 rw [decide_eq_true hl, List.all_eq_true.2 fun j hj => h j (by simpa using hj)]; simp
theorem onC_val {M : Int -> Option Chg} (h : NonN M) (q0 q1 q2 : Int) : onC M (q0, q1, q2) = (decide (lastV M q0 < 0) || decide (lastV M q0 = q2)) := by
 unfold onC lastV
 cases hM : M q0 with
 | none => simp
 | some c =>
   have := h q0 c hM
   simp only
   rw [decide_eq_false (by omega : ¬ c.2.1 < 0)]; simp
theorem tmK_zero {gs : List SgR} {m : Int} (h : inB 0 999999 m = true) : tmK gs 0 <= m := (inB_yes h).1
theorem noteM_cons (M : Int -> Option Chg) (c : Chg) (cs : List Chg) : noteM M (c :: cs) = noteM (fun k => if c.1 = k then some c else M k) cs := rfl
def Blk (cs : List Chg) : Prop := ∀ c ∈ cs, 0 <= c.1 /\ c.1 <= 7
theorem chsB_mem {cs : List Chg} (h : chsB cs = true) : ∀ c ∈ cs, chB c = true := fun c hc => by
 obtain ⟨j, hj, rfl⟩ := List.mem_iff_getElem.1 hc
 have := chsB_to h j hj
 unfold okCh at this
 rw [gdE, List.getElem?_eq_getElem hj] at this
 simp only [Option.getD_some, Bool.and_eq_true] at this
 exact this.1
theorem chB_parts {c : Chg} (h : chB c = true) : (0 <= c.1 /\ c.1 <= 7) /\ (0 <= c.2.1 /\ c.2.1 <= 999999) /\ (0 <= c.2.2 /\ c.2.2 <= 999999) := by
 unfold chB at h
 simp only [Bool.and_eq_true] at h
 exact ⟨inB_yes h.1.1, inB_yes h.1.2, inB_yes h.2⟩
theorem chsB_blk {cs : List Chg} (h : chsB cs = true) : Blk cs := fun c hc => (chB_parts (chsB_mem h c hc)).1
theorem app_cons (p : Chg -> Int) (xs : List Int) (c : Chg) (cs : List Chg) : app p xs (c :: cs) = app p (xs.set c.1.toNat (p c)) cs := rfl
theorem app_at (p : Chg -> Int) (d : Nat -> Int) : ∀ (cs : List Chg) (xs : List Int) (M : Int -> Option Chg), Blk cs -> xs.length = 8 -> (∀ j : Nat, j < 8 -> xs.getD j 0 = ((M (j : Int)).map p).getD (d j)) ->
 ∀ j : Nat, j < 8 -> (app p xs cs).getD j 0 = ((noteM M cs (j : Int)).map p).getD (d j)
 | [], xs, M, _, _, h, j, hj => h j hj
 | c :: cs, xs, M, hb, hl, h, j, hj => by
   rw [app_cons, noteM_cons]
   obtain ⟨h0, h7⟩ := hb c (by simp)
   refine app_at p d cs _ _ (fun x hx => hb x (by simp [hx])) (by rw [List.length_set]; exact hl) (fun i hi => ?_) j hj
   by_cases e : c.1 = (i : Int)
   . rw [if_pos e, show c.1.toNat = i by omega, getD_set_self oM]; rfl
   . rw [if_neg e, getD_set_ne oM]; exact h i hi
theorem app_at0 (p : Chg -> Int) {cs : List Chg} {xs : List Int} (hb : Blk cs) (hl : xs.length = 8) {j : Nat} (hj : j < 8) : (app p xs cs).getD j 0 = ((noteM noM cs (j : Int)).map p).getD (xs.getD j 0) :=
 app_at p (fun j => xs.getD j 0) cs xs noM hb hl (fun i _ => rfl) j hj
theorem ext8 {xs ys : List Int} (h : xs.length = 8) (h2 : ys.length = 8) (he : ∀ j, j < 8 -> xs.getD j 0 = ys.getD j 0) : xs = ys := List.ext_getElem oM fun j h3 h4 => by
 have := he j oM
 rw [gdE, gdE, List.getElem?_eq_getElem h3, List.getElem?_eq_getElem h4] at this
 exact this
def Fits (x : List Int) (cs : List Chg) : Prop := ∀ j : Nat, j < 8 -> ∀ c, noteM noM cs (j : Int) = some c -> c.2.2 = x.getD j 0
def Agree (M : Int -> Option Chg) (x : List Int) : Prop := ∀ j : Nat, j < 8 -> ∀ c, M (j : Int) = some c -> c.2.1 = x.getD j 0
theorem Agree.note {M : Int -> Option Chg} {x : List Int} {cs : List Chg} (h : Agree M x) (hl : x.length = 8) (hb : Blk cs) : Agree (noteM M cs) (app pN x cs) := fun j hj c hc => by
 have := app_at pN (fun j => x.getD j 0) cs x M hb hl (fun i hi => by
  cases hM : M (i : Int) with
  | none => rfl
  | some d => exact (h i hi d hM).symm) j hj
 rw [this, hc]; rfl
theorem noteM_mem {cs : List Chg} (h : chsB cs = true) {c : Chg} (hc : c ∈ cs) : noteM noM cs c.1 = some c := by
 obtain ⟨k, hk, rfl⟩ := List.mem_iff_getElem.1 hc
 have hto := chsB_to h
 have e : cs.getD k chZ = cs[k] := by rw [gdE, List.getElem?_eq_getElem hk]; rfl
 have step : ∀ n, k < n -> n <= cs.length -> noteM noM (cs.take n) cs[k].1 = some cs[k] := by
  intro n
  induction n with
  | zero => intro h1; omega
  | succ n ih =>
    intro h1 h2
    rw [noteM_succ noM cs oM]
    simp only
    by_cases hn : k = n
    . subst hn
      rw [e, if_pos rfl]
    . have h3 := hto.lt n oM k oM
      rw [e] at h3
      rw [if_neg oM]
      exact ih oM oM
 have := step cs.length hk nle
 rwa [List.take_length] at this
theorem on_of {M : Int -> Option Chg} {x : List Int} {cs : List Chg} (hA : Agree M x) (hok : chsB cs = true) (hf : Fits x cs) : onB M cs = true := List.all_eq_true.2 fun c hc => by
 obtain ⟨h0, h7⟩ := chsB_blk hok c hc
 have hm := noteM_mem hok hc
 unfold onC
 cases hM : M c.1 with
 | none => rfl
 | some a =>
   simp only
   rw [decide_eq_true_eq]
   have hj : ((c.1.toNat : Nat) : Int) = c.1 := oM
   have h1 := hA c.1.toNat oM a (by rw [hj]; exact hM)
   have h2 := hf c.1.toNat oM c (by rw [hj]; exact hm)
   rw [h1, h2]
def Right (M : Int -> Option Chg) : Prop := ∀ (j : Nat), j < 8 -> ∀ c, M (j : Int) = some c -> c.1 = (j : Int) /\ chB c = true
theorem note_right {cs : List Chg} (h : chsB cs = true) : Right (noteM noM cs) := fun j hj c hc => by
 have key : ∀ (l : List Chg) (M : Int -> Option Chg), (∀ d ∈ l, chB d = true) -> (∀ k d, M k = some d -> d.1 = k /\ chB d = true) -> ∀ k d, noteM M l k = some d -> d.1 = k /\ chB d = true := by
  intro l
  induction l with
  | nil => intro M _ h2; exact h2
  | cons a l ih =>
    intro M h1 h2 k d hd
    rw [noteM_cons] at hd
    refine ih _ (fun x hx => h1 x (by simp [hx])) (fun k' d' hd' => ?_) k d hd
    by_cases e : a.1 = k'
    . rw [if_pos e] at hd'
      obtain rfl := Option.some.inj hd'
      exact ⟨e, h1 a (by simp)⟩
    . rw [if_neg e] at hd'
      exact h2 k' d' hd'
 exact key cs noM (chsB_mem h) (fun k d hd => by cases hd) _ c hc
theorem app_cont {x : List Int} {cs : List Chg} (hx : contB x = true) (h : chsB cs = true) : contB (app pN x cs) = true := by
 obtain ⟨h8, hv⟩ := contB_yes hx
 refine contB_mk (by rw [app_len]; exact h8) fun j hj => ?_
 rw [app_len, h8] at hj
 rw [app_at0 pN (chsB_blk h) h8 hj]
 cases hM : noteM noM cs (j : Int) with
 | none => have := hv j hj; exact inB_mk this.1 this.2
 | some c => have := (chB_parts (note_right h j hj c hM).2).2.1; exact inB_mk this.1 this.2
theorem fits_one (x : List Int) (b : Nat) (v : Int) : Fits x [((b : Int), v, x.getD b 0)] := fun j hj c hc => by
 have h1 : (if (b : Int) = (j : Int) then some ((b : Int), v, x.getD b 0) else none) = some c := hc
 by_cases e : (b : Int) = (j : Int)
 . rw [if_pos e] at h1
   obtain rfl := Option.some.inj h1
   show x.getD b 0 = x.getD j 0
   rw [show b = j by omega]
 . rw [if_neg e] at h1; cases h1
def ctK (c0 : List Int) (gs : List SgR) : Nat -> List Int
 | 0 => c0
 | k + 1 => app pN (ctK c0 gs k) (gs.getD k sgZ).cs
structure Lk (base : Int) (c0 : List Int) (gs : List SgR) (k : Nat) (g : SgR) : Prop where
 seg : segB g.f g.t g.m g.cs = true
 at_ : g.f = atK base gs k
 tm : tmK gs k <= g.m
 fit : Fits (ctK c0 gs k) g.cs
def ChI (base : Int) (c0 : List Int) (gs : List SgR) : Prop := ∀ k, k < gs.length -> Lk base c0 gs k (gs.getD k sgZ)
theorem getD_pre (gs hs : List SgR) {k : Nat} (h : k < gs.length) : (gs ++ hs).getD k sgZ = gs.getD k sgZ := by
 rw [gdE, gdE, List.getElem?_append_left h]
theorem atK_pre (base : Int) (gs hs : List SgR) : ∀ k, k <= gs.length -> atK base (gs ++ hs) k = atK base gs k
 | 0, _ => rfl
 | k + 1, h => by show ((gs ++ hs).getD k sgZ).t = (gs.getD k sgZ).t; rw [getD_pre gs hs oM]
theorem tmK_pre (gs hs : List SgR) : ∀ k, k <= gs.length -> tmK (gs ++ hs) k = tmK gs k
 | 0, _ => rfl
 | k + 1, h => by show ((gs ++ hs).getD k sgZ).m = (gs.getD k sgZ).m; rw [getD_pre gs hs oM]
theorem ctK_pre (c0 : List Int) (gs hs : List SgR) : ∀ k, k <= gs.length -> ctK c0 (gs ++ hs) k = ctK c0 gs k
 | 0, _ => rfl
 | k + 1, h => by
   show app pN (ctK c0 (gs ++ hs) k) ((gs ++ hs).getD k sgZ).cs = app pN (ctK c0 gs k) (gs.getD k sgZ).cs
   rw [getD_pre gs hs oM, ctK_pre c0 gs hs k oM]
theorem Lk.pre {base : Int} {c0 : List Int} {gs : List SgR} {k : Nat} {g : SgR} (hs : List SgR) (hk : k <= gs.length) (h : Lk base c0 gs k g) : Lk base c0 (gs ++ hs) k g :=
 ⟨h.seg, by rw [atK_pre base gs hs k hk]; exact h.at_, by rw [tmK_pre gs hs k hk]; exact h.tm, by rw [ctK_pre c0 gs hs k hk]; exact h.fit⟩
theorem ChI.snoc {base : Int} {c0 : List Int} {gs : List SgR} {g : SgR} (h : ChI base c0 gs) (hg : Lk base c0 gs gs.length g) : ChI base c0 (gs ++ [g]) := fun k hk => by
 rw [List.length_append] at hk
 simp only [List.length_cons, List.length_nil] at hk
 by_cases e : k < gs.length
 . rw [getD_pre gs [g] e]; exact (h k e).pre [g] oM
 . obtain rfl : k = gs.length := oM
   rw [getD_app]; exact hg.pre [g] nle
theorem ChI.cont {base : Int} {c0 : List Int} {gs : List SgR} (h : ChI base c0 gs) (hc : contB c0 = true) : ∀ k, k <= gs.length -> contB (ctK c0 gs k) = true
 | 0, _ => hc
 | k + 1, hk => app_cont (h.cont hc k oM) (segB_chs (h k oM).seg)
theorem ChI.agree {base : Int} {c0 : List Int} {gs : List SgR} (h : ChI base c0 gs) (hc : contB c0 = true) : ∀ k, k <= gs.length -> Agree (mpK gs k) (ctK c0 gs k)
 | 0, _ => fun j _ c hh => by cases hh
 | k + 1, hk => (h.agree hc k oM).note (contB_yes (h.cont hc k oM)).1 (chsB_blk (segB_chs (h k oM).seg))
theorem ChI.chain {base : Int} {c0 : List Int} {gs : List SgR} (h : ChI base c0 gs) (hc : contB c0 = true) (hb : inB 0 999999 base = true) (hl : gs.length <= 4096) : chainB base gs = true :=
 LnTo.all (fun k hk => by
  have L := h k hk
  unfold lnk sgB
  rw [L.seg, decide_eq_true L.at_, decide_eq_true L.tm, on_of (h.agree hc k oM) (segB_chs L.seg) L.fit]; rfl) hl hb
end
section
open Go.Joins Go.ChangeShapes Go.WideShapes Go.RowKit Go.Deep
abbrev Mrk := BA × Int
def mrZ : Mrk := (ByteArray.empty, 0)
def mrAt (ms : List Mrk) (i : Nat) : Value := if i % 2 = 0 then .string (ms.getD (i / 2) mrZ).1 else ii (ms.getD (i / 2) mrZ).2
theorem mrAt0 (ms : List Mrk) (k : Nat) : mrAt ms (k * 2) = .string (ms.getD k mrZ).1 := by
 unfold mrAt; rw [if_pos oM, show k * 2 / 2 = k by omega]
theorem mrAt1 (ms : List Mrk) (k : Nat) : mrAt ms (k * 2 + 1) = ii (ms.getD k mrZ).2 := by
 unfold mrAt; rw [if_neg oM, show (k * 2 + 1) / 2 = k by omega]
def Mks (w : World) (B : Nat) (A : Option Addr) (ms : List Mrk) : Prop := Row w B A (ms.length * 2) (mrAt ms)
theorem Mks.below {w w' : World} {B B' : Nat} {A : Option Addr} {ms : List Mrk} (h : Mks w B A ms) (hb : Below B' w w') (hB : B <= B') : Mks w' B A ms := Row.below h hb hB
theorem Mks.more {w : World} {B B' : Nat} {A : Option Addr} {ms : List Mrk} (h : Mks w B A ms) (hB : B <= B') : Mks w B' A ms := Row.more h hB
theorem Mks.at_ {w : World} {B k : Nat} {A : Option Addr} {ms : List Mrk} (h : Mks w B A ms) (hk : k < ms.length) :
 ∃ b off, A = some ⟨b, off, none⟩ /\ b < B /\ w.cell? ⟨b, off + k * 2, none⟩ = some (.string (ms.getD k mrZ).1) /\ w.cell? ⟨b, off + k * 2 + 1, none⟩ = some (ii (ms.getD k mrZ).2) := by
 obtain ⟨b, off, e, hb, hc⟩ := h oM
 have h0 := hc (k * 2) oM
 have h1 := hc (k * 2 + 1) oM
 rw [mrAt0] at h0
 rw [mrAt1] at h1
 exact ⟨b, off, e, hb, h0, h1⟩
abbrev SlM (w : World) (lo : Nat) (A : Option Addr) (ms : List Mrk) : Prop := Sl w lo A 136 (ms.length * 2) (mrAt ms)
theorem Box.d6 {w : World} {g : Nat} {t : TypeId} {v0 v1 v2 v3 v4 v5 : Value} (h : Box w g t #[v0, v1, v2, v3, v4, v5]) :
 w.cell? ⟨g, 0, none⟩ = some v0 /\ w.cell? ⟨g, 1, none⟩ = some v1 /\ w.cell? ⟨g, 2, none⟩ = some v2 /\ w.cell? ⟨g, 3, none⟩ = some v3 /\ w.cell? ⟨g, 4, none⟩ = some v4 /\ w.cell? ⟨g, 5, none⟩ = some v5 :=
 ⟨h.cell 0, h.cell 1, h.cell 2, h.cell 3, h.cell 4, h.cell 5⟩
def AllM (ms : List Mrk) : Prop := ∀ k, (ms.getD k mrZ).1.size <= 2 ^ 63 - 1
theorem info_mk : (Tryz.prog.info? 136).map (fun i => (i.zero, i.size, i.bytes)) = some (some (.agg #[.string ByteArray.empty, ii 0]), 2, 24) := by kernel_rfl
section
variable {H : Type} {enc : TypeId × Value -> H} {w : World} {base : Nat} {spare : Nat -> Bool} {held : Bool}
end
def RetIc (w : World) (xs : List Int) (e : Ending) (w' : World) : Prop := ∃ (A : Option Addr) (c : Nat), e = .returned (sC A xs.length c) /\ xs.length <= c /\ SlI w' w.heap.size A xs /\ Nx w w'
section
variable {H : Type} {enc : TypeId × Value -> H} {w : World} {base : Nat} {spare : Nat -> Bool} {held : Bool}
end
def letB (s : BA) (k : Nat) : Bool := decide (97 <= (s.data.toList.getD k 0).toNat) && decide ((s.data.toList.getD k 0).toNat <= 122)
def nmB (s : BA) : Bool := inB 1 6 s.size && (List.range s.size).all (letB s)
def LetTo (s : BA) (k : Nat) : Prop := ∀ j, j < k -> letB s j = true
theorem LetTo.zero (s : BA) : LetTo s 0 := fun j h => absurd h oM
theorem LetTo.succ {s : BA} {k : Nat} (h : LetTo s k) (hk : letB s k = true) : LetTo s (k + 1) := fun j hj => by
 rcases Nat.lt_or_ge j k with hlt | hge
 . exact h j hlt
 . obtain rfl : j = k := oM
   exact hk
theorem letB_at {s : BA} {k : Nat} (hk : k < s.size) : letB s k = (decide (97 <= s[k].toNat) && decide (s[k].toNat <= 122)) := by
 unfold letB
 rw [gdE, List.getElem?_eq_getElem (by simpa using hk)]; rfl
theorem nmB_all {s : BA} (h : LetTo s s.size) : (List.range s.size).all (letB s) = true := List.all_eq_true.2 fun j hj => h j (by simpa using hj)
theorem nmB_no {s : BA} {k : Nat} (hk : k < s.size) (h : letB s k = false) : nmB s = false := by
 unfold nmB
 rw [show (List.range s.size).all (letB s) = false from List.all_eq_false.2 ⟨k, by simpa using hk, by simp [h]⟩]; simp
theorem nmB_size {s : BA} (h : inB 1 6 s.size = false) : nmB s = false := by unfold nmB; rw [h]; rfl
theorem nmB_mk {s : BA} (h : inB 1 6 s.size = true) (h2 : LetTo s s.size) : nmB s = true := by unfold nmB; rw [h, nmB_all h2]; rfl
theorem isMarkName_c (s : BA) (w : World) (hs : s.size <= 2 ^ 63 - 1) : Calls Tryz.prog 171 #[.string s] w fun e w' => e = .returned (.bool (nmB s)) /\ w = w' := by
 by_cases h0 : s.size = 0
 . have hd : ((s.size : Int) == 0) = true := by rw [beq_iff_eq]; omega
   have HR := qh (nmB_size (s := s) (inB_no oM)).symm
   go_enter func171, ntmps171
   go_wp2
   go_ret
   exact ⟨ret_bool HR.out, rfl⟩
 have hd : ((s.size : Int) == 0) = false := by rw [beq_eq_false_iff_ne]; omega
 by_cases h6 : 6 < s.size
 . have hd6 : decide (6 < (s.size : Int)) = true := by simp; omega
   have HR := qh (nmB_size (s := s) (inB_no oM)).symm
   go_enter func171, ntmps171
   go_wp2
   go_ret
   exact ⟨ret_bool HR.out, rfl⟩
 have hd6 : decide (6 < (s.size : Int)) = false := by simp; omega
 have HS := qh (inB_mk (lo := 1) (hi := 6) (a := s.size) oM oM)
 go_enter func171, ntmps171
 go_wp2
 go_loop [3] (fun i => ∃ k : Nat, k <= s.size /\ i = ii k /\ LetTo s k) (fun i => s.size - (intOf i).toNat)
 case atStart => exact ⟨0, Nat.zero_le _, rfl, LetTo.zero _⟩
 case round =>
  obtain ⟨k, hk, rfl, hto⟩ := hrel
  by_cases hlt : k < s.size
  . have HL := qh (letB_at hlt)
    have hc1 : (s[k].toNat : Int) <= 255 := by have := s[k].toNat_lt; omega
    by_cases ha : s[k].toNat < 97
    . have hda : decide ((s[k].toNat : Int) < 97) = true := by simp; omega
      have HR := qh (nmB_no hlt (by rw [HL.out]; simp; omega)).symm
      go_wp2
      go_ret
      exact ⟨ret_bool HR.out, rfl⟩
    have hda : decide ((s[k].toNat : Int) < 97) = false := by simp; omega
    by_cases hz : 122 < s[k].toNat
    . have hdz : decide (122 < (s[k].toNat : Int)) = true := by simp; omega
      have HR := qh (nmB_no hlt (by rw [HL.out]; simp; omega)).symm
      go_wp2
      go_ret
      exact ⟨ret_bool HR.out, rfl⟩
    have hdz : decide (122 < (s[k].toNat : Int)) = false := by simp; omega
    go_wp2
    go_round
    case rel => exact ⟨k + 1, oM, by go_num, hto.succ (by rw [HL.out]; simp; omega)⟩
    case measure => simp [intOf]; omega
  . obtain rfl : k = s.size := oM
    have HR := qh (nmB_mk HS.out hto).symm
    go_wp2
    go_ret
    exact ⟨ret_bool HR.out, rfl⟩
theorem l04Mark_c (s : BA) (a : Int) (w : World) (hs : s.size <= 2 ^ 63 - 1) : Calls Tryz.prog 107 #[.agg #[.string s, ii a]] w fun e w' => e = .returned (.bool (nmB s && inB 0 999999 a)) /\ Nx w w' := by
 cases x1 : inB 1 6 s.size with
 | false =>
   have H1 := qh x1
   clear x1
   have HR := qh (show false = (nmB s && inB 0 999999 a) by rw [nmB_size H1.out]; rfl)
   go_enter func107, ntmps107
   go_wp2_with (go_at_call 106; refine (l01In_c _ _ _ _).mono ?_; rintro e w' ⟨rfl, rfl⟩; rw [H1.out])
   go_ret
   exact ⟨ret_bool HR.out, (Nx.refl _).alloc _⟩
 | true =>
 have H1 := qh x1
 clear x1
 cases x2 : inB 0 999999 a with
 | false =>
   have H2 := qh x2
   clear x2
   have HR := qh (show false = (nmB s && false) by simp)
   go_enter func107, ntmps107
   go_wp2_with (go_at_call 106; refine (l01In_c _ _ _ _).mono ?_; rintro e w' ⟨rfl, rfl⟩; first | rw [H1.out] | rw [H2.out])
   go_ret
   exact ⟨ret_bool HR.out, (Nx.refl _).alloc _⟩
 | true =>
 have H2 := qh x2
 clear x2
 rw [Bool.and_true]
 go_enter func107, ntmps107
 go_wp2_with (go_at_call 106; refine (l01In_c _ _ _ _).mono ?_; rintro e w' ⟨rfl, rfl⟩; first | rw [H1.out] | rw [H2.out])
 have c0 := (Box.new w 136 #[.string s, ii a]).c0
 have hx0 := (Nx.refl w).alloc (.cells #[.string s, ii a] 136)
 generalize w.alloc (.cells #[.string s, ii a] 136) = W at *
 go_loop [3] (fun i => ∃ k : Nat, k <= s.size /\ i = ii k /\ LetTo s k) (fun i => s.size - (intOf i).toNat)
 case atStart => exact ⟨0, Nat.zero_le _, rfl, LetTo.zero _⟩
 case round =>
  obtain ⟨k, hk, rfl, hto⟩ := hrel
  by_cases hlt : k < s.size
  . have HL := qh (letB_at hlt)
    have hc1 : (s[k].toNat : Int) <= 255 := by have := s[k].toNat_lt; omega
    by_cases ha : s[k].toNat < 97
    . have hda : decide ((s[k].toNat : Int) < 97) = true := by simp; omega
      have HR := qh (nmB_no hlt (by rw [HL.out]; simp; omega)).symm
      go_wp2
      go_ret
      exact ⟨ret_bool HR.out, hx0⟩
    have hda : decide ((s[k].toNat : Int) < 97) = false := by simp; omega
    by_cases hz : 122 < s[k].toNat
    . have hdz : decide (122 < (s[k].toNat : Int)) = true := by simp; omega
      have HR := qh (nmB_no hlt (by rw [HL.out]; simp; omega)).symm
      go_wp2
      go_ret
      exact ⟨ret_bool HR.out, hx0⟩
    have hdz : decide (122 < (s[k].toNat : Int)) = false := by simp; omega
    go_wp2
    go_round
    case rel => exact ⟨k + 1, oM, by go_num, hto.succ (by rw [HL.out]; simp; omega)⟩
    case measure => simp [intOf]; omega
  . obtain rfl : k = s.size := oM
    have HR := qh (nmB_mk H1.out hto).symm
    go_wp2
    go_ret
    exact ⟨ret_bool HR.out, hx0⟩
def hasB (xs : List Int) (n : Nat) (x : Int) : Bool := (xs.take n).contains x
def NotTo (xs : List Int) (k : Nat) (x : Int) : Prop := ∀ j, j < k -> xs.getD j 0 ≠ x
theorem NotTo.zero (xs : List Int) (x : Int) : NotTo xs 0 x := fun j h => absurd h oM
theorem NotTo.succ {xs : List Int} {k : Nat} {x : Int} (h : NotTo xs k x) (hk : xs.getD k 0 ≠ x) : NotTo xs (k + 1) x := fun j hj => by
 rcases Nat.lt_or_ge j k with hlt | hge
 . exact h j hlt
 . obtain rfl : j = k := oM
   exact hk
theorem hasB_yes {xs : List Int} {n k : Nat} {x : Int} (hk : k < n) (hl : k < xs.length) (h : xs.getD k 0 = x) : hasB xs n x = true := by
 unfold hasB
 rw [List.contains_iff_mem]
 rw [gdE, List.getElem?_eq_getElem hl] at h
 rw [List.mem_take_iff_getElem]
 exact ⟨k, oM, h⟩
theorem hasB_no {xs : List Int} {n : Nat} {x : Int} (h : NotTo xs n x) : hasB xs n x = false := by
 unfold hasB
 rw [Bool.eq_false_iff]
 intro hc
 rw [List.contains_iff_mem, List.mem_take_iff_getElem] at hc
 obtain ⟨k, hk, e⟩ := hc
 have hk2 : k < xs.length := oM
 refine h k oM ?_
 rw [gdE, List.getElem?_eq_getElem hk2]; exact e
theorem l04In_c (A : Option Addr) (n c B : Nat) (xs : List Int) (x : Int) (w : World) (h : Ins w B A xs) (hnl : n <= xs.length) (hn : xs.length <= 1048576) :
 Calls Tryz.prog 97 #[sC A n c, ii x] w fun e w' => e = .returned (.bool (hasB xs n x)) /\ w = w' := by
 go_enter func97, ntmps97
 go_wp2
 go_loop [5] (fun i => ∃ k : Nat, k <= n /\ i = ii k /\ NotTo xs k x) (fun i => n - (intOf i).toNat)
 case atStart => exact ⟨0, Nat.zero_le _, rfl, NotTo.zero _ _⟩
 case round =>
  obtain ⟨k, hk, rfl, hto⟩ := hrel
  by_cases hlt : k < n
  . obtain ⟨b, off, rfl, hb, hc⟩ := h.at_ (k := k) oM
    obtain ⟨y, Hy⟩ := nM (xs.getD k 0)
    rw [Hy.out] at hc
    by_cases he : y = x
    . have hd : (y == x) = true := by simp [he]
      have HR := qh (hasB_yes hlt oM (Hy.out.trans he)).symm
      clear he
      go_wp2
      go_ret
      exact ⟨ret_bool HR.out, rfl⟩
    . have hd : (y == x) = false := by simp [he]
      have HT := qh (hto.succ (by rw [Hy.out]; exact he))
      clear he
      go_wp2
      go_round
      case rel => exact ⟨k + 1, oM, by go_num, HT.out⟩
      case measure => simp [intOf]; omega
  . obtain rfl : k = n := oM
    have HR := qh (hasB_no hto).symm
    go_wp2
    go_ret
    exact ⟨ret_bool HR.out, rfl⟩
theorem index_c (A : Option Addr) (n c B : Nat) (xs : List Int) (x : Int) (w : World) (h : Ins w B A xs) (hnl : n <= xs.length) (hn : xs.length <= 1048576) :
 Calls Tryz.prog 196 #[sC A n c, ii x] w fun e w' => (∃ k : Int, e = .returned (ii k) /\ decide (0 <= k) = hasB xs n x /\ -1 <= k /\ k <= 1048576) /\ w = w' := by
 go_enter func196, ntmps196
 go_wp2
 go_loop [8] (fun i => ∃ k : Nat, k <= n /\ i = ii k /\ NotTo xs k x) (fun i => n - (intOf i).toNat)
 case atStart => exact ⟨0, Nat.zero_le _, rfl, NotTo.zero _ _⟩
 case round =>
  obtain ⟨k, hk, rfl, hto⟩ := hrel
  by_cases hlt : k < n
  . obtain ⟨b, off, rfl, hb, hc⟩ := h.at_ (k := k) oM
    obtain ⟨y, Hy⟩ := nM (xs.getD k 0)
    rw [Hy.out] at hc
    by_cases he : y = x
    . have hd : (x == y) = true := by simp [he]
      have HR := qh (hasB_yes hlt oM (Hy.out.trans he)).symm
      clear he
      go_wp2
      go_ret
      exact ⟨⟨_, rfl, by rw [<- HR.out]; simp, oM, oM⟩, rfl⟩
    . have hd : (x == y) = false := by rw [beq_eq_false_iff_ne]; exact fun h => he h.symm
      have HT := qh (hto.succ (by rw [Hy.out]; exact he))
      clear he
      go_wp2
      go_round
      case rel => exact ⟨k + 1, oM, by go_num, HT.out⟩
      case measure => simp [intOf]; omega
  . obtain rfl : k = n := oM
    have HR := qh (hasB_no hto).symm
    go_wp2
    go_ret
    exact ⟨⟨_, rfl, by rw [<- HR.out]; decide, oM, oM⟩, rfl⟩
theorem contains_c (A : Option Addr) (n c B : Nat) (xs : List Int) (x : Int) (w : World) (h : Ins w B A xs) (hnl : n <= xs.length) (hn : xs.length <= 1048576) :
 Calls Tryz.prog 132 #[sC A n c, ii x] w fun e w' => e = .returned (.bool (hasB xs n x)) /\ w = w' := by
 go_enter func132, ntmps132
 go_wp2_with fail
 refine (index_c A n c B xs x _ h hnl hn).mono ?_
 rintro e w' ⟨⟨k, rfl, hk, h1, h2⟩, rfl⟩
 have HK := qh hk
 clear hk
 go_wp2
 go_ret
 exact ⟨ret_bool HK.out, rfl⟩
end
section
open Go.RowKit
def tbOk (xs : List Int) (k : Nat) : Bool := inB 10 63 (xs.getD k 0) && !hasB xs k (xs.getD k 0)
def tbB (xs : List Int) : Bool := decide (xs.length <= 20) && (List.range xs.length).all (tbOk xs)
def TbTo (xs : List Int) (k : Nat) : Prop := ∀ j, j < k -> tbOk xs j = true
theorem TbTo.zero (xs : List Int) : TbTo xs 0 := fun j h => absurd h oM
theorem TbTo.succ {xs : List Int} {k : Nat} (h : TbTo xs k) (hk : tbOk xs k = true) : TbTo xs (k + 1) := fun j hj => by
 rcases Nat.lt_or_ge j k with hlt | hge
 . exact h j hlt
 . obtain rfl : j = k := oM
   exact hk
theorem tbB_no {xs : List Int} {k : Nat} (hk : k < xs.length) (h : tbOk xs k = false) : tbB xs = false := by
 unfold tbB
 rw [show (List.range xs.length).all (tbOk xs) = false from List.all_eq_false.2 ⟨k, by simpa using hk, by simp [h]⟩]; simp
theorem tbB_len {xs : List Int} (h : 20 < xs.length) : tbB xs = false := by unfold tbB; rw [decide_eq_false oM]; rfl
theorem tbB_mk {xs : List Int} (h : xs.length <= 20) (h2 : TbTo xs xs.length) : tbB xs = true := by
 unfold tbB
 rw [decide_eq_true h, show (List.range xs.length).all (tbOk xs) = true from List.all_eq_true.2 fun j hj => h2 j (by simpa using hj)]; rfl
theorem tbB_yes {xs : List Int} (h : tbB xs = true) : xs.length <= 20 /\ TbTo xs xs.length := by
 unfold tbB at h
 simp only [Bool.and_eq_true, decide_eq_true_eq] at h
 exact ⟨h.1, fun j hj => List.all_eq_true.1 h.2 j (by simpa using hj)⟩
def mkB (m : Mrk) : Bool := nmB m.1 && inB 0 999999 m.2
def okMk (ms : List Mrk) (k : Nat) : Bool := mkB (ms.getD k mrZ) && (k == 0 || Op.bytesLess (ms.getD (k - 1) mrZ).1.toList (ms.getD k mrZ).1.toList)
def msB (ms : List Mrk) : Bool := decide (ms.length <= 4) && (List.range ms.length).all (okMk ms)
def MkTo (ms : List Mrk) (k : Nat) : Prop := ∀ j, j < k -> okMk ms j = true
theorem MkTo.zero (ms : List Mrk) : MkTo ms 0 := fun j h => absurd h oM
theorem MkTo.succ {ms : List Mrk} {k : Nat} (h : MkTo ms k) (hk : okMk ms k = true) : MkTo ms (k + 1) := fun j hj => by
 rcases Nat.lt_or_ge j k with hlt | hge
 . exact h j hlt
 . obtain rfl : j = k := oM
   exact hk
theorem msB_no {ms : List Mrk} {k : Nat} (hk : k < ms.length) (h : okMk ms k = false) : msB ms = false := by
 unfold msB
 rw [show (List.range ms.length).all (okMk ms) = false from List.all_eq_false.2 ⟨k, by simpa using hk, by simp [h]⟩]; simp
theorem msB_len {ms : List Mrk} (h : 4 < ms.length) : msB ms = false := by unfold msB; rw [decide_eq_false oM]; rfl
theorem msB_mk {ms : List Mrk} (h : ms.length <= 4) (h2 : MkTo ms ms.length) : msB ms = true := by
 unfold msB
 rw [decide_eq_true h, show (List.range ms.length).all (okMk ms) = true from List.all_eq_true.2 fun j hj => h2 j (by simpa using hj)]; rfl
theorem msB_yes {ms : List Mrk} (h : msB ms = true) : ms.length <= 4 /\ MkTo ms ms.length := by
 unfold msB at h
 simp only [Bool.and_eq_true, decide_eq_true_eq] at h
 exact ⟨h.1, fun j hj => List.all_eq_true.1 h.2 j (by simpa using hj)⟩
def superB (g b p t : Int) (xs : List Int) (ms : List Mrk) : Bool := inB 1 999999 g && inB 0 999999 b && inB b 999999 p && inB b 999999 t && tbB xs && msB ms
theorem superB_no {g b p t : Int} {xs : List Int} {ms : List Mrk} (h : (inB 1 999999 g && inB 0 999999 b && inB b 999999 p && inB b 999999 t && tbB xs && msB ms) = false) : superB g b p t xs ms = false := h
theorem superB_mk {g b p t : Int} {xs : List Int} {ms : List Mrk} (h0 : inB 1 999999 g = true) (h1 : inB 0 999999 b = true) (h2 : inB b 999999 p = true) (h3 : inB b 999999 t = true) (h4 : tbB xs = true) (h5 : msB ms = true) : superB g b p t xs ms = true := by
 unfold superB; rw [h0, h1, h2, h3, h4, h5]; rfl
theorem specSuperOK_c (g b p t : Int) (A A2 : Option Addr) (c c2 B : Nat) (xs : List Int) (ms : List Mrk) (w : World) (h : Ins w B A xs) (h2 : Mks w B A2 ms) (hB : B <= w.heap.size) (hn : xs.length <= 1048576) (hn2 : ms.length <= 1048576) (hc : xs.length <= c) (hm : AllM ms) :
 Calls Tryz.prog 46 #[.agg #[ii g, ii b, ii p, ii t, sC A xs.length c, sC A2 ms.length c2]] w fun e w' => e = .returned (.bool (superB g b p t xs ms)) /\ Nx w w' := by
 cases x0 : inB 1 999999 g with
 | false =>
   have H0 := qh x0
   clear x0
   have HR := qh (superB_no (g := g) (b := b) (p := p) (t := t) (xs := xs) (ms := ms) (by simp [H0.out])).symm
   go_enter func46, ntmps46
   go_wp2_with (go_at_call 106; refine (l01In_c _ _ _ _).mono ?_; rintro e w' ⟨rfl, rfl⟩; first | rw [H0.out])
   go_ret
   exact ⟨ret_bool HR.out, (Nx.refl _).alloc _⟩
 | true =>
 have H0 := qh x0
 clear x0
 cases x1 : inB 0 999999 b with
 | false =>
   have H1 := qh x1
   clear x1
   have HR := qh (superB_no (g := g) (b := b) (p := p) (t := t) (xs := xs) (ms := ms) (by simp [H1.out])).symm
   go_enter func46, ntmps46
   go_wp2_with (go_at_call 106; refine (l01In_c _ _ _ _).mono ?_; rintro e w' ⟨rfl, rfl⟩; first | rw [H0.out] | rw [H1.out])
   go_ret
   exact ⟨ret_bool HR.out, (Nx.refl _).alloc _⟩
 | true =>
 have H1 := qh x1
 clear x1
 cases x2 : inB b 999999 p with
 | false =>
   have H2 := qh x2
   clear x2
   have HR := qh (superB_no (g := g) (b := b) (p := p) (t := t) (xs := xs) (ms := ms) (by simp [H2.out])).symm
   go_enter func46, ntmps46
   go_wp2_with (go_at_call 106; refine (l01In_c _ _ _ _).mono ?_; rintro e w' ⟨rfl, rfl⟩; first | rw [H0.out] | rw [H1.out] | rw [H2.out])
   go_ret
   exact ⟨ret_bool HR.out, (Nx.refl _).alloc _⟩
 | true =>
 have H2 := qh x2
 clear x2
 cases x3 : inB b 999999 t with
 | false =>
   have H3 := qh x3
   clear x3
   have HR := qh (superB_no (g := g) (b := b) (p := p) (t := t) (xs := xs) (ms := ms) (by simp [H3.out])).symm
   go_enter func46, ntmps46
   go_wp2_with (go_at_call 106; refine (l01In_c _ _ _ _).mono ?_; rintro e w' ⟨rfl, rfl⟩; first | rw [H0.out] | rw [H1.out] | rw [H2.out] | rw [H3.out])
   go_ret
   exact ⟨ret_bool HR.out, (Nx.refl _).alloc _⟩
 | true =>
 have H3 := qh x3
 clear x3
 by_cases hl : xs.length <= 20
 case neg =>
  have hdhl : decide (20 < (xs.length : Int)) = true := by simp; omega
  have HR := qh (superB_no (g := g) (b := b) (p := p) (t := t) (xs := xs) (ms := ms) (by rw [tbB_len (xs := xs) oM]; simp)).symm
  go_enter func46, ntmps46
  go_wp2_with (go_at_call 106; refine (l01In_c _ _ _ _).mono ?_; rintro e w' ⟨rfl, rfl⟩; first | rw [H0.out] | rw [H1.out] | rw [H2.out] | rw [H3.out])
  go_ret
  exact ⟨ret_bool HR.out, (Nx.refl _).alloc _⟩
 have hdhl : decide (20 < (xs.length : Int)) = false := by simp; omega
 by_cases hl2 : ms.length <= 4
 case neg =>
  have hdhl2 : decide (4 < (ms.length : Int)) = true := by simp; omega
  have HR := qh (superB_no (g := g) (b := b) (p := p) (t := t) (xs := xs) (ms := ms) (by rw [msB_len (ms := ms) oM]; simp)).symm
  go_enter func46, ntmps46
  go_wp2_with (go_at_call 106; refine (l01In_c _ _ _ _).mono ?_; rintro e w' ⟨rfl, rfl⟩; first | rw [H0.out] | rw [H1.out] | rw [H2.out] | rw [H3.out])
  go_ret
  exact ⟨ret_bool HR.out, (Nx.refl _).alloc _⟩
 have hdhl2 : decide (4 < (ms.length : Int)) = false := by simp; omega
 go_enter func46, ntmps46
 go_wp2_with (go_at_call 106; refine (l01In_c _ _ _ _).mono ?_; rintro e w' ⟨rfl, rfl⟩; first | rw [H0.out] | rw [H1.out] | rw [H2.out] | rw [H3.out])
 clear hdhl hdhl2
 have b0 := Box.new w 26 #[ii g, ii b, ii p, ii t, sC A xs.length c, sC A2 ms.length c2]
 have hx0 := (Nx.refl w).alloc (.cells #[ii g, ii b, ii p, ii t, sC A xs.length c, sC A2 ms.length c2] 26)
 generalize w.alloc (.cells #[ii g, ii b, ii p, ii t, sC A xs.length c, sC A2 ms.length c2] 26) = W at *
 go_loopw [3] (fun i wr => ∃ k : Nat, k <= xs.length /\ i = ii k /\ TbTo xs k /\ Nx W wr) (fun i _ => xs.length - (intOf i).toNat)
 case atStart => exact ⟨0, Nat.zero_le _, rfl, TbTo.zero _, Nx.refl _⟩
 case round =>
  obtain ⟨k, hk, rfl, hto, hnx⟩ := hrel
  obtain ⟨_, _, _, _, c4, c5⟩ := (b0.nx hnx).d6
  by_cases hlt : k < xs.length
  . obtain ⟨bb, off, rfl, hb, k0⟩ := (h.below (hx0.trans hnx) hB).at_ hlt
    obtain ⟨q, Hq⟩ := nM (xs.getD k 0)
    rw [Hq.out] at k0
    have hxd : Nx w wr.drew := (hx0.trans hnx).drew
    cases hin : inB 10 63 q with
    | false =>
      have HC := qh hin
      have HR := qh (superB_no (g := g) (b := b) (p := p) (t := t) (xs := xs) (ms := ms) (by rw [tbB_no hlt (by unfold tbOk; rw [Hq.out, hin]; rfl)]; simp)).symm
      clear hin
      go_wp2_with fail
      refine wp_lexA (kf5 (true :: kf9 (kf4 ([])))) (fun w' => CC w' w.heap.size 4 (sC (some ⟨bb, off, none⟩) xs.length c) /\ CC w' bb (off + k) (ii q)) (by exact ⟨c4, k0⟩) ?_
      refine hLr ?_
      refine hLc fun K hK => ?_
      go_simp
      refine (l01In_c _ _ _ _).mono ?_; rintro e w' ⟨rfl, rfl⟩; rw [HC.out]
      go_wp2_with fail
      refine hK.out _ _ (by exact ⟨c4, k0⟩) ?_
      clear hK K
      refine nZ ?_
      refine hLr ?_
      refine HL.done ?_
      go_wp2
      go_ret
      exact ⟨ret_bool HR.out, hx0.trans hnx.drew⟩
    | true =>
      have HC := qh hin
      clear hin
      have hkc : (k : Int) <= (c : Int) := oM
      cases hh : hasB xs k q with
      | true =>
        have HX := qh hh
        have HR := qh (superB_no (g := g) (b := b) (p := p) (t := t) (xs := xs) (ms := ms) (by rw [tbB_no hlt (by unfold tbOk; rw [Hq.out, hh]; simp)]; simp)).symm
        clear hh
        go_wp2_with fail
        refine wp_lexA (kf5 (true :: kf9 (kf2 (true :: ff :: [])))) (fun w' => CC w' w.heap.size 4 (sC (some ⟨bb, off, none⟩) xs.length c) /\ CC w' bb (off + k) (ii q)) (by exact ⟨c4, k0⟩) ?_
        refine hLr ?_
        refine hLc fun K hK => ?_
        go_simp
        refine (l01In_c _ _ _ _).mono ?_; rintro e w' ⟨rfl, rfl⟩; rw [HC.out]
        go_wp2_with fail
        refine hK.out _ _ (by exact ⟨c4, k0⟩) ?_
        clear hK K
        refine nZ ?_
        refine hLr ?_
        refine hLc fun K hK => ?_
        go_simp
        refine (l04In_c (some ⟨bb, off, none⟩) k c B xs q _ (h.below hxd hB) oM hn).mono ?_; rintro e w' ⟨rfl, rfl⟩; rw [HX.out]
        go_wp2_with fail
        refine hK.out _ _ (by exact ⟨c4, k0⟩) ?_
        clear hK K
        refine nZ ?_
        refine hLr ?_
        refine HL.done ?_
        go_wp2
        go_ret
        exact ⟨ret_bool HR.out, hx0.trans hnx.drew⟩
      | false =>
        have HX := qh hh
        have HT := qh (hto.succ (by unfold tbOk; rw [Hq.out, HC.out, hh]; rfl))
        clear hh
        go_wp2_with fail
        refine wp_lexA (kf5 (true :: kf9 (kf2 (true :: ff :: [])))) (fun w' => CC w' w.heap.size 4 (sC (some ⟨bb, off, none⟩) xs.length c) /\ CC w' bb (off + k) (ii q)) (by exact ⟨c4, k0⟩) ?_
        refine hLr ?_
        refine hLc fun K hK => ?_
        go_simp
        refine (l01In_c _ _ _ _).mono ?_; rintro e w' ⟨rfl, rfl⟩; rw [HC.out]
        go_wp2_with fail
        refine hK.out _ _ (by exact ⟨c4, k0⟩) ?_
        clear hK K
        refine nZ ?_
        refine hLr ?_
        refine hLc fun K hK => ?_
        go_simp
        refine (l04In_c (some ⟨bb, off, none⟩) k c B xs q _ (h.below hxd hB) oM hn).mono ?_; rintro e w' ⟨rfl, rfl⟩; rw [HX.out]
        go_wp2_with fail
        refine hK.out _ _ (by exact ⟨c4, k0⟩) ?_
        clear hK K
        refine nZ ?_
        refine hLr ?_
        refine HL.done ?_
        go_wp2
        go_roundw
        case rel => exact ⟨k + 1, oM, by go_num, HT.out, hnx.drew⟩
        case measure => simp [intOf]; omega
  . obtain rfl : k = xs.length := oM
    have HT := qh (tbB_mk hl hto)
    clear hto
    obtain ⟨W1, hW1⟩ : ∃ x, x = wr := ⟨_, rfl⟩
    subst hW1
    have b1 := b0.nx hnx
    have hx1 := hx0.trans hnx
    go_wp2
    clear c4 c5 b0 hx0 hnx hlt
    go_loopw [4] (fun i wr => ∃ k : Nat, k <= ms.length /\ i = ii k /\ MkTo ms k /\ Nx W1 wr) (fun i _ => ms.length - (intOf i).toNat)
    case atStart => exact ⟨0, Nat.zero_le _, rfl, MkTo.zero _, Nx.refl _⟩
    case round =>
     obtain ⟨k, hk, rfl, hto, hnx⟩ := hrel
     obtain ⟨_, _, _, _, c4, c5⟩ := (b1.nx hnx).d6
     by_cases hlt : k < ms.length
     . obtain ⟨bb, off, rfl, hb, k0, k1⟩ := (h2.below (hx1.trans hnx) hB).at_ hlt
       have hsz := hm k
       obtain ⟨⟨q0, q1⟩, Hq⟩ := nM (ms.getD k mrZ)
       rw [Hq.out] at k0 k1 hsz
       have hbv : w.heap.size < wr.heap.size := (b1.nx hnx).lt
       have hbw : bb < wr.heap.size := Nat.lt_of_lt_of_le hb (ntr hB (hx1.trans hnx).size)
       cases hch : (nmB q0 && inB 0 999999 q1) with
       | false =>
         have HC := qh hch
         have HR := qh (superB_no (g := g) (b := b) (p := p) (t := t) (xs := xs) (ms := ms) (by rw [msB_no hlt (by unfold okMk mkB; rw [Hq.out]; simp [hch])]; simp)).symm
         clear hch
         go_wp2_with fail
         refine wp_lexA (kf5 (true :: kf9 (kf9 (kf3 ([]))))) (fun w' => CC w' w.heap.size 5 (sC (some ⟨bb, off, none⟩) ms.length c2) /\ CC w' bb (off + k * 2) (.string q0) /\ CC w' bb (off + k * 2 + 1) (ii q1)) (by exact ⟨c5, k0, k1⟩) ?_
         refine hLr ?_
         refine hLc fun K hK => ?_
         go_simp
         refine (l04Mark_c q0 q1 _ hsz).mono ?_; rintro e w1 ⟨rfl, hnx1⟩; rw [HC.out]; have d5 := (hnx1.cell (p := ⟨w.heap.size, 5, none⟩) hbv).trans c5; have l0 := (hnx1.cell (p := ⟨bb, off + k * 2, none⟩) hbw).trans k0; have l1 := (hnx1.cell (p := ⟨bb, off + k * 2 + 1, none⟩) hbw).trans k1
         go_wp2_with fail
         refine hK.out _ _ (by exact ⟨d5, l0, l1⟩) ?_
         clear hK K
         refine nZ ?_
         refine hLr ?_
         refine HL.done ?_
         go_wp2
         go_ret
         exact ⟨ret_bool HR.out, hx1.trans (hnx.drew.trans hnx1)⟩
       | true =>
         have HC := qh hch
         clear hch
         by_cases hk0 : k = 0
         . have hd0 : decide (0 < (k : Int)) = false := by simp; omega
           have hd1 : decide (0 < k) = false := by simp; omega
           have HO := qh (hto.succ (by unfold okMk mkB; rw [Hq.out, HC.out, hk0]; rfl))
           clear hk0
           go_wp2_with fail
           refine wp_lexA (kf5 (true :: kf9 (kf9 (kf3 ([]))))) (fun w' => CC w' w.heap.size 5 (sC (some ⟨bb, off, none⟩) ms.length c2) /\ CC w' bb (off + k * 2) (.string q0) /\ CC w' bb (off + k * 2 + 1) (ii q1)) (by exact ⟨c5, k0, k1⟩) ?_
           refine hLr ?_
           refine hLc fun K hK => ?_
           go_simp
           refine (l04Mark_c q0 q1 _ hsz).mono ?_; rintro e w1 ⟨rfl, hnx1⟩; rw [HC.out]; have d5 := (hnx1.cell (p := ⟨w.heap.size, 5, none⟩) hbv).trans c5; have l0 := (hnx1.cell (p := ⟨bb, off + k * 2, none⟩) hbw).trans k0; have l1 := (hnx1.cell (p := ⟨bb, off + k * 2 + 1, none⟩) hbw).trans k1
           go_wp2_with fail
           refine hK.out _ _ (by exact ⟨d5, l0, l1⟩) ?_
           clear hK K
           refine nZ ?_
           refine hLr ?_
           refine HL.done ?_
           go_wp2
           go_roundw
           case rel => exact ⟨k + 1, oM, by go_num, HO.out, hnx.drew.trans hnx1⟩
           case measure => simp [intOf]; omega
         . obtain ⟨j, rfl⟩ : ∃ j, k = j + 1 := ⟨k - 1, oM⟩
           obtain ⟨b', off', he, _, m0, _⟩ := (h2.below (hx1.trans hnx) hB).at_ (k := j) oM
           obtain ⟨rfl, rfl⟩ : bb = b' /\ off = off' := by simpa using he
           clear he
           obtain ⟨⟨r0, r1⟩, Hr⟩ := nM (ms.getD j mrZ)
           rw [Hr.out] at m0
           have hd0 : decide (0 < ((j : Int) + 1)) = true := by simp
           have hd1 : decide (0 < j + 1) = true := by simp
           have hi1 : (0 : Int) <= (j : Int) + 1 := oM
           have hi2 : (j : Int) + 1 < (ms.length : Int) := oM
           have hi4 : (j : Int) < (ms.length : Int) := oM
           have hi5 : j < ms.length := oM
           have hi3 : ((j : Int) + 1).toNat = j + 1 := oM
           have hw1 : IntKind.i64.wrap ((j : Int) + 1 - 1) = (j : Int) := by rw [Int.add_sub_cancel]; exact IntWalk.i64_in _ oM
           have hw2 : IntKind.i64.wrap (j : Int) = (j : Int) := IntWalk.i64_in _ oM
           have hi6 : (0 : Int) <= (j : Int) := oM
           cases hlt2 : Op.bytesLess r0.toList q0.toList with
           | true =>
             have HO := qh (hto.succ (by unfold okMk mkB; rw [Hq.out, HC.out, Nat.add_sub_cancel, Hr.out, hlt2]; simp))
             go_wp2_with fail
             refine wp_lexA (kf5 (true :: kf9 (kf9 (kf3 ([]))))) (fun w' => CC w' w.heap.size 5 (sC (some ⟨bb, off, none⟩) ms.length c2) /\ CC w' bb (off + (j + 1) * 2) (.string q0) /\ CC w' bb (off + (j + 1) * 2 + 1) (ii q1) /\ CC w' bb (off + j * 2) (.string r0)) (by exact ⟨c5, k0, k1, m0⟩) ?_
             refine hLr ?_
             refine hLc fun K hK => ?_
             go_simp
             refine (l04Mark_c q0 q1 _ hsz).mono ?_; rintro e w1 ⟨rfl, hnx1⟩; rw [HC.out]; have d5 := (hnx1.cell (p := ⟨w.heap.size, 5, none⟩) hbv).trans c5; have l0 := (hnx1.cell (p := ⟨bb, off + (j + 1) * 2, none⟩) hbw).trans k0; have l1 := (hnx1.cell (p := ⟨bb, off + (j + 1) * 2 + 1, none⟩) hbw).trans k1; have n0 := (hnx1.cell (p := ⟨bb, off + j * 2, none⟩) hbw).trans m0
             go_wp2_with fail
             refine hK.out _ _ (by exact ⟨d5, l0, l1, n0⟩) ?_
             clear hK K
             refine nZ ?_
             refine hLr ?_
             refine HL.done ?_
             clear hw1 hw2 hi6 hi1 hi2 hi3 hi4 hi5
             go_wp2
             go_roundw
             case rel => exact ⟨j + 1 + 1, oM, by go_num, HO.out, hnx.drew.trans hnx1⟩
             case measure => simp [intOf]; omega
           | false =>
             have HR := qh (superB_no (g := g) (b := b) (p := p) (t := t) (xs := xs) (ms := ms) (by rw [msB_no hlt (by unfold okMk mkB; rw [Hq.out]; rw [Nat.add_sub_cancel, Hr.out, hlt2]; simp)]; simp)).symm
             go_wp2_with fail
             refine wp_lexA (kf5 (true :: kf9 (kf9 (kf3 ([]))))) (fun w' => CC w' w.heap.size 5 (sC (some ⟨bb, off, none⟩) ms.length c2) /\ CC w' bb (off + (j + 1) * 2) (.string q0) /\ CC w' bb (off + (j + 1) * 2 + 1) (ii q1) /\ CC w' bb (off + j * 2) (.string r0)) (by exact ⟨c5, k0, k1, m0⟩) ?_
             refine hLr ?_
             refine hLc fun K hK => ?_
             go_simp
             refine (l04Mark_c q0 q1 _ hsz).mono ?_; rintro e w1 ⟨rfl, hnx1⟩; rw [HC.out]; have d5 := (hnx1.cell (p := ⟨w.heap.size, 5, none⟩) hbv).trans c5; have l0 := (hnx1.cell (p := ⟨bb, off + (j + 1) * 2, none⟩) hbw).trans k0; have l1 := (hnx1.cell (p := ⟨bb, off + (j + 1) * 2 + 1, none⟩) hbw).trans k1; have n0 := (hnx1.cell (p := ⟨bb, off + j * 2, none⟩) hbw).trans m0
             go_wp2_with fail
             refine hK.out _ _ (by exact ⟨d5, l0, l1, n0⟩) ?_
             clear hK K
             refine nZ ?_
             refine hLr ?_
             refine HL.done ?_
             clear hw1 hw2 hi6 hi1 hi2 hi3 hi4 hi5
             go_wp2
             go_ret
             exact ⟨ret_bool HR.out, hx1.trans (hnx.drew.trans hnx1)⟩
     . obtain rfl : k = ms.length := oM
       have HR := qh (superB_mk H0.out H1.out H2.out H3.out HT.out (msB_mk hl2 hto)).symm
       go_wp2
       go_ret
       exact ⟨ret_bool HR.out, hx1.trans hnx⟩
def retL (b : Int) (gs : List SgR) : List Int := b :: gs.map SgR.t
theorem retL_len (b : Int) (gs : List SgR) : (retL b gs).length = gs.length + 1 := by simp [retL]
theorem retL_at (b : Int) (gs : List SgR) : ∀ k, k <= gs.length -> (retL b gs).getD k 0 = atK b gs k
 | 0, _ => rfl
 | k + 1, h => by
   show ((gs.map SgR.t)).getD k 0 = (gs.getD k sgZ).t
   rw [gdE, gdE, List.getElem?_map, List.getElem?_eq_getElem oM]; rfl
structure Lead (b : Int) (gs : List SgR) : Prop where
 from_ : ∀ k, k < gs.length -> (gs.getD k sgZ).f = atK b gs k
 rise : ∀ k, k < gs.length -> atK b gs k < atK b gs (k + 1)
 ok : ∀ k, k < gs.length -> chsB (gs.getD k sgZ).cs = true
 seg : ∀ k, k < gs.length -> segB (gs.getD k sgZ).f (gs.getD k sgZ).t (gs.getD k sgZ).m (gs.getD k sgZ).cs = true
 short : gs.length <= 4096
theorem chainB_lead {b : Int} {gs : List SgR} (h : chainB b gs = true) : Lead b gs := by
 unfold chainB at h
 simp only [Bool.and_eq_true, decide_eq_true_eq] at h
 have hk : ∀ k, k < gs.length -> lnk b gs k = true := fun k hk => List.all_eq_true.1 h.2 k (by simpa using hk)
 have hs : ∀ k, k < gs.length -> sgB (gs.getD k sgZ) = true /\ (gs.getD k sgZ).f = atK b gs k := fun k hl => by
  have := hk k hl
  unfold lnk at this
  simp only [Bool.and_eq_true, decide_eq_true_eq] at this
  exact ⟨this.1.1.1, this.1.1.2⟩
 refine ⟨fun k hl => (hs k hl).2, fun k hl => ?_, fun k hl => segB_chs (hs k hl).1, fun k hl => (hs k hl).1, h.1.1⟩
 have h1 := (hs k hl).1
 unfold sgB segB at h1
 simp only [Bool.and_eq_true] at h1
 have h2 := of_decide_eq_true h1.1.1.2
 rw [<- (hs k hl).2]
 show _ < (gs.getD k sgZ).t
 omega
theorem Lead.lt {b : Int} {gs : List SgR} (h : Lead b gs) {j : Nat} : ∀ k, j < k -> k <= gs.length -> atK b gs j < atK b gs k
 | 0, hj, _ => absurd hj oM
 | k + 1, hj, hk => by
   have := h.rise k oM
   by_cases e : j = k
   . rw [e]; exact this
   . have := h.lt (j := j) k oM oM; omega
theorem Lead.le {b : Int} {gs : List SgR} (h : Lead b gs) {j k : Nat} (hj : j <= k) (hk : k <= gs.length) : atK b gs j <= atK b gs k := by
 by_cases e : j = k
 . rw [e]; exact Int.le_refl _
 . have := h.lt k (j := j) oM hk; omega
theorem Lead.inj {b : Int} {gs : List SgR} (h : Lead b gs) {j k : Nat} (hj : j <= gs.length) (hk : k <= gs.length) (he : atK b gs j = atK b gs k) : j = k := by
 rcases Nat.lt_trichotomy j k with hlt | e | hlt
 . have := h.lt k hlt hk; omega
 . exact e
 . have := h.lt j hlt hj; omega
def idx (xs : List Int) (n : Int) : Nat := (xs.takeWhile fun x => x != n).length
theorem idx_cons (x : Int) (xs : List Int) (n : Int) : idx (x :: xs) n = if x = n then 0 else idx xs n + 1 := by
 unfold idx
 rw [List.takeWhile_cons]
 by_cases e : x = n
 . rw [if_pos e]; simp [e]
 . rw [if_neg e]; simp [e]
theorem idx_at : ∀ {xs : List Int} {n : Int}, idx xs n < xs.length -> xs.getD (idx xs n) 0 = n
 | [], _, h => absurd h (by simp)
 | x :: xs, n, h => by
   rw [idx_cons] at h ⊢
   by_cases e : x = n
   . rw [if_pos e]; exact e
   . rw [if_neg e] at h ⊢
     rw [List.length_cons] at h
     exact idx_at (xs := xs) oM
theorem idx_lt : ∀ {xs : List Int} {n : Int} {k : Nat}, k < xs.length -> xs.getD k 0 = n -> idx xs n <= k
 | [], _, _, h, _ => absurd h (by simp)
 | x :: xs, n, k, h, hk => by
   rw [idx_cons]
   by_cases e : x = n
   . rw [if_pos e]; omega
   . rw [if_neg e]
     match k, h, hk with
     | 0, _, hk => exact absurd hk e
     | k + 1, h, hk =>
       rw [List.length_cons] at h
       have := idx_lt (xs := xs) (k := k) oM hk
       omega
def isRet (b : Int) (gs : List SgR) (n : Int) : Bool := decide (idx (retL b gs) n < gs.length + 1)
def ahd (b : Int) (gs : List SgR) (n : Int) : Nat := idx (retL b gs) n
theorem ahd_at {b : Int} {gs : List SgR} {n : Int} (h : isRet b gs n = true) : ahd b gs n <= gs.length /\ atK b gs (ahd b gs n) = n := by
 unfold isRet at h
 simp only [decide_eq_true_eq] at h
 have h1 : idx (retL b gs) n < (retL b gs).length := by rw [retL_len]; exact h
 have h2 := idx_at h1
 rw [retL_at b gs _ oM] at h2
 exact ⟨by unfold ahd; omega, h2⟩
theorem ahd_of {b : Int} {gs : List SgR} {k : Nat} (h : Lead b gs) (hk : k <= gs.length) : isRet b gs (atK b gs k) = true /\ ahd b gs (atK b gs k) = k := by
 have h1 := idx_lt (xs := retL b gs) (k := k) (n := atK b gs k) (by rw [retL_len]; omega) (retL_at b gs k hk)
 have h2 : isRet b gs (atK b gs k) = true := by unfold isRet; simp; omega
 exact ⟨h2, h.inj (ahd_at h2).1 hk (ahd_at h2).2⟩
def stp (b p t : Int) (gs : List SgR) (im : List Int) : List Int × Nat :=
 if p < t then (app pN im (gs.getD (ahd b gs p) sgZ).cs, ahd b gs p + 1) else if t < p then (app pO im (gs.getD (ahd b gs p - 1) sgZ).cs, ahd b gs p - 1) else (im, ahd b gs p)
def fwK (c : List Int) (gs : List SgR) (a : Nat) : Nat -> List Int
 | 0 => c
 | j + 1 => app pN (fwK c gs a j) (gs.getD (a + j) sgZ).cs
def bkK (c : List Int) (gs : List SgR) (a : Nat) : Nat -> List Int
 | 0 => c
 | j + 1 => app pO (bkK c gs a j) (gs.getD (a - 1 - j) sgZ).cs
theorem fwK_len (c : List Int) (gs : List SgR) (a : Nat) : ∀ j, (fwK c gs a j).length = c.length
 | 0 => rfl
 | j + 1 => by show (app pN _ _).length = _; rw [app_len, fwK_len c gs a j]
theorem bkK_len (c : List Int) (gs : List SgR) (a : Nat) : ∀ j, (bkK c gs a j).length = c.length
 | 0 => rfl
 | j + 1 => by show (app pO _ _).length = _; rw [app_len, bkK_len c gs a j]
def oldB (c : List Int) (g : SgR) : Bool := decide (app pO c g.cs = c)
def newB (c : List Int) (g : SgR) : Bool := decide (app pN c g.cs = c)
def fitF (c : List Int) (gs : List SgR) (a : Nat) : Bool := (List.range (gs.length - a)).all fun j => oldB (fwK c gs a j) (gs.getD (a + j) sgZ)
def fitB (c : List Int) (gs : List SgR) (a : Nat) : Bool := (List.range a).all fun j => newB (bkK c gs a j) (gs.getD (a - 1 - j) sgZ)
def FitF (c : List Int) (gs : List SgR) (a k : Nat) : Prop := ∀ j, j < k -> oldB (fwK c gs a j) (gs.getD (a + j) sgZ) = true
def FitB (c : List Int) (gs : List SgR) (a k : Nat) : Prop := ∀ j, j < k -> newB (bkK c gs a j) (gs.getD (a - 1 - j) sgZ) = true
theorem FitF.zero (c : List Int) (gs : List SgR) (a : Nat) : FitF c gs a 0 := fun j h => absurd h oM
theorem FitB.zero (c : List Int) (gs : List SgR) (a : Nat) : FitB c gs a 0 := fun j h => absurd h oM
theorem FitF.succ {c : List Int} {gs : List SgR} {a k : Nat} (h : FitF c gs a k) (hk : oldB (fwK c gs a k) (gs.getD (a + k) sgZ) = true) : FitF c gs a (k + 1) := fun j hj => by
 rcases Nat.lt_or_ge j k with hlt | hge
 . exact h j hlt
 . obtain rfl : j = k := oM
   exact hk
theorem FitB.succ {c : List Int} {gs : List SgR} {a k : Nat} (h : FitB c gs a k) (hk : newB (bkK c gs a k) (gs.getD (a - 1 - k) sgZ) = true) : FitB c gs a (k + 1) := fun j hj => by
 rcases Nat.lt_or_ge j k with hlt | hge
 . exact h j hlt
 . obtain rfl : j = k := oM
   exact hk
theorem FitF.all {c : List Int} {gs : List SgR} {a : Nat} (h : FitF c gs a (gs.length - a)) : fitF c gs a = true := List.all_eq_true.2 fun j hj => h j (by simpa using hj)
theorem FitB.all {c : List Int} {gs : List SgR} {a : Nat} (h : FitB c gs a a) : fitB c gs a = true := List.all_eq_true.2 fun j hj => h j (by simpa using hj)
theorem fitF_no {c : List Int} {gs : List SgR} {a k : Nat} (hk : a + k < gs.length) (h : oldB (fwK c gs a k) (gs.getD (a + k) sgZ) = false) : fitF c gs a = false :=
 List.all_eq_false.2 ⟨k, by simp; omega, by rw [h]; simp⟩
theorem fitB_no {c : List Int} {gs : List SgR} {a k : Nat} (hk : k < a) (h : newB (bkK c gs a k) (gs.getD (a - 1 - k) sgZ) = false) : fitB c gs a = false :=
 List.all_eq_false.2 ⟨k, by simp; omega, by rw [h]; simp⟩
theorem app_app (p q : Chg -> Int) {cs : List Chg} {xs : List Int} (hb : Blk cs) (hl : xs.length = 8) : app p (app q xs cs) cs = app p xs cs := by
 refine ext8 (by rw [app_len, app_len, hl]) (by rw [app_len, hl]) fun j hj => ?_
 rw [app_at0 p hb (by rw [app_len, hl]) hj, app_at0 p hb hl hj, app_at0 q hb hl hj]
 cases noteM noM cs (j : Int) <;> rfl
theorem newB_back {c : List Int} {g : SgR} (hb : chsB g.cs = true) (hl : c.length = 8) : newB c g = decide (app pN (app pO c g.cs) g.cs = c) := by
 unfold newB; rw [app_app pN pO (chsB_blk hb) hl]
def mksR (b : Int) (gs : List SgR) (ms : List Mrk) : Bool := (List.range ms.length).all fun k => isRet b gs (ms.getD k mrZ).2
def MksTo (b : Int) (gs : List SgR) (ms : List Mrk) (k : Nat) : Prop := ∀ j, j < k -> isRet b gs (ms.getD j mrZ).2 = true
theorem MksTo.zero (b : Int) (gs : List SgR) (ms : List Mrk) : MksTo b gs ms 0 := fun j h => absurd h oM
theorem MksTo.succ {b : Int} {gs : List SgR} {ms : List Mrk} {k : Nat} (h : MksTo b gs ms k) (hk : isRet b gs (ms.getD k mrZ).2 = true) : MksTo b gs ms (k + 1) := fun j hj => by
 rcases Nat.lt_or_ge j k with hlt | hge
 . exact h j hlt
 . obtain rfl : j = k := oM
   exact hk
theorem MksTo.all {b : Int} {gs : List SgR} {ms : List Mrk} (h : MksTo b gs ms ms.length) : mksR b gs ms = true := List.all_eq_true.2 fun j hj => h j (by simpa using hj)
theorem mksR_no {b : Int} {gs : List SgR} {ms : List Mrk} {k : Nat} (hk : k < ms.length) (h : isRet b gs (ms.getD k mrZ).2 = false) : mksR b gs ms = false :=
 List.all_eq_false.2 ⟨k, by simpa using hk, by rw [h]; simp⟩
def plcB (b p t : Int) (gs : List SgR) (ms : List Mrk) : Bool := mksR b gs ms && isRet b gs p && isRet b gs t
def vltB (g b p t : Int) (xs : List Int) (ms : List Mrk) (gs : List SgR) (im : List Int) : Bool :=
 superB g b p t xs ms && contB im && decide (gs.length = xs.length) && chainB b gs && plcB b p t gs ms && fitF (stp b p t gs im).1 gs (stp b p t gs im).2 && fitB (stp b p t gs im).1 gs (stp b p t gs im).2
structure VltY (g b p t : Int) (xs : List Int) (ms : List Mrk) (gs : List SgR) (im : List Int) : Prop where
 super : superB g b p t xs ms = true
 cont : contB im = true
 len : gs.length = xs.length
 chain : chainB b gs = true
 places : plcB b p t gs ms = true
 fwd : fitF (stp b p t gs im).1 gs (stp b p t gs im).2 = true
 bck : fitB (stp b p t gs im).1 gs (stp b p t gs im).2 = true
theorem vltB_yes {g b p t : Int} {xs : List Int} {ms : List Mrk} {gs : List SgR} {im : List Int} (h : vltB g b p t xs ms gs im = true) : VltY g b p t xs ms gs im := by
 unfold vltB at h
 simp only [Bool.and_eq_true, decide_eq_true_eq] at h
 obtain ⟨⟨⟨⟨⟨⟨h1, h2⟩, h3⟩, h4⟩, h5⟩, h6⟩, h7⟩ := h
 exact ⟨h1, h2, h3, h4, h5, h6, h7⟩
theorem VltY.b {g b p t : Int} {xs : List Int} {ms : List Mrk} {gs : List SgR} {im : List Int} (h : VltY g b p t xs ms gs im) : vltB g b p t xs ms gs im = true := by
 unfold vltB; rw [h.super, h.cont, decide_eq_true h.len, h.chain, h.places, h.fwd, h.bck]; rfl
theorem vltB_no {g b p t : Int} {xs : List Int} {ms : List Mrk} {gs : List SgR} {im : List Int}
 (h : superB g b p t xs ms = false \/ contB im = false \/ ¬ gs.length = xs.length \/ chainB b gs = false \/ plcB b p t gs ms = false \/ fitF (stp b p t gs im).1 gs (stp b p t gs im).2 = false \/ fitB (stp b p t gs im).1 gs (stp b p t gs im).2 = false) : vltB g b p t xs ms gs im = false := by
 unfold vltB
 rcases h with h | h | h | h | h | h | h
 . rw [h]; rfl
 . rw [h]; simp
 . rw [decide_eq_false h]; simp
 . rw [h]; simp
 . rw [h]; simp
 . rw [h]; simp
 . rw [h]; simp
theorem stp_le {b p t : Int} {gs : List SgR} {ms : List Mrk} (im : List Int) (hl : Lead b gs) (h : plcB b p t gs ms = true) : (stp b p t gs im).2 <= gs.length /\ (p < t -> ahd b gs p < gs.length) /\ (t < p -> 0 < ahd b gs p) := by
 unfold plcB at h
 simp only [Bool.and_eq_true] at h
 obtain ⟨hp, hp2⟩ := ahd_at h.1.2
 obtain ⟨ht, ht2⟩ := ahd_at h.2
 have h1 : p < t -> ahd b gs p < gs.length := fun hlt => by
  rcases Nat.lt_or_ge (ahd b gs p) gs.length with hh | hh
  . exact hh
  . have := hl.le (j := ahd b gs t) (k := ahd b gs p) oM hp; omega
 have h2 : t < p -> 0 < ahd b gs p := fun hlt => by
  rcases Nat.eq_zero_or_pos (ahd b gs p) with hh | hh
  . have := hl.le (j := ahd b gs p) (k := ahd b gs t) oM ht; omega
  . exact hh
 refine ⟨?_, h1, h2⟩
 unfold stp
 by_cases hlt : p < t
 . rw [if_pos hlt]; have := h1 hlt; simp only; omega
 . rw [if_neg hlt]
   by_cases hgt : t < p
   . rw [if_pos hgt]; simp only; omega
   . rw [if_neg hgt]; exact hp
theorem stp_len (b p t : Int) (gs : List SgR) (im : List Int) : (stp b p t gs im).1.length = im.length := by
 unfold stp
 by_cases hlt : p < t
 . rw [if_pos hlt]; exact app_len _ _ _
 . rw [if_neg hlt]
   by_cases hgt : t < p
   . rw [if_pos hgt]; exact app_len _ _ _
   . rw [if_neg hgt]
def cntV (b p t : Int) (gs : List SgR) (im : List Int) (n : Int) : List Int :=
 if (stp b p t gs im).2 <= ahd b gs n then fwK (stp b p t gs im).1 gs (stp b p t gs im).2 (ahd b gs n - (stp b p t gs im).2) else bkK (stp b p t gs im).1 gs (stp b p t gs im).2 ((stp b p t gs im).2 - ahd b gs n)
def tipV (b : Int) (gs : List SgR) : Int := atK b gs gs.length
theorem last0 {w : World} {g : Nat} (h : Box w g 3 #[ii (-1), ii (-1), ii (-1), ii (-1), ii (-1), ii (-1), ii (-1), ii (-1)]) : Own w g 3 8 (lsAt noM) := h.own.congr fun i hi => by
 match i, hi with
 | 0, _ => rfl
 | 1, _ => rfl
 | 2, _ => rfl
 | 3, _ => rfl
 | 4, _ => rfl
 | 5, _ => rfl
 | 6, _ => rfl
 | 7, _ => rfl
theorem ls_set {M N : Int -> Option Chg} {n0 : Nat} {q1 q2 : Int} (h : N = fun x => if x = ((n0 : Int), q1, q2).1 then some ((n0 : Int), q1, q2) else M x) : ∀ i, i < 8 -> (if i = n0 then Value.int .i64 q1 else lsAt M i) = lsAt N i := by
 intro i _
 rw [h]
 unfold lsAt lastV
 by_cases e : i = n0
 . rw [if_pos e]
   simp [e]
 . rw [if_neg e]
   have : ¬ (i : Int) = (n0 : Int) := oM
   simp [this]
theorem specChainOK_c (base : Int) (A : Option Addr) (c B : Nat) (gs : List SgR) (w : World) (h : Sgs w B A gs) (hB : B <= w.heap.size) (hn : gs.length <= 1048576) (hm : ∀ k, k < gs.length -> (gs.getD k sgZ).cs.length <= 1048576) :
 Calls Tryz.prog 223 #[ii base, sC A gs.length c] w fun e w' => e = .returned (.bool (chainB base gs)) /\ Nx w w' := by
 obtain ⟨n, Hn⟩ := nM (gs.length)
 rw [Hn.out] at hn ⊢
 by_cases hl : n <= 4096
 case neg =>
  have HR := qh (chainB_long (base := base) (gs := gs) (by rw [Hn.out]; exact hl))
  have hd : decide (4096 < (n : Int)) = true := by simp; omega
  go_enter func223, ntmps223
  go_wp2
  go_ret
  exact ⟨by rw [HR.out]; rfl, Nx.refl _⟩
 have hd : decide (4096 < (n : Int)) = false := by simp; omega
 have hb0 := Box.new w 3 #[ii (-1), ii (-1), ii (-1), ii (-1), ii (-1), ii (-1), ii (-1), ii (-1)]
 have hown0 := last0 hb0
 have hx0 := (Nx.refl w).alloc (.cells #[ii (-1), ii (-1), ii (-1), ii (-1), ii (-1), ii (-1), ii (-1), ii (-1)] 3)
 clear hb0
 go_enter func223, ntmps223
 go_wp2_with fail
 generalize w.alloc (.cells #[ii (-1), ii (-1), ii (-1), ii (-1), ii (-1), ii (-1), ii (-1), ii (-1)] 3) = W at *
 go_loopw [0, 6] (fun a0 i wr => ∃ k : Nat, k <= n /\ i = ii k /\ a0 = ii (atK base gs k) /\ Own wr w.heap.size 3 8 (lsAt (mpK gs k)) /\ LnTo base gs k /\ Nx w wr) (fun _ i _ => n - (intOf i).toNat)
 case atStart => exact ⟨0, Nat.zero_le _, rfl, rfl, hown0, LnTo.zero _ _, hx0⟩
 case round =>
  obtain ⟨k, hk, rfl, rfl, hown, hln, hnx⟩ := hrel
  obtain ⟨wo, hwo⟩ : ∃ x, x = wr := ⟨_, rfl⟩
  subst hwo
  clear hown0 hx0
  by_cases hlt : k < n
  case neg =>
   obtain rfl : k = n := oM
   have HR := qh (show inB 0 999999 (atK base gs k) = chainB base gs by rw [LnTo.chain (by rw [Hn.out]; exact hln) (by rw [Hn.out]; exact hl)]; exact hln.end_)
   go_wp2_with fail
   refine (l01In_c _ _ _ _).mono ?_
   rintro e w' ⟨rfl, rfl⟩
   rw [HR.out]
   go_wp2
   go_ret
   exact ⟨rfl, hnx⟩
  have hlk : k < gs.length := by rw [Hn.out]; exact hlt
  obtain ⟨b, off, rfl, hb, p0, p1, p2, p3⟩ := (h.below hnx hB).row.at4 hlk
  have hrow := (h.below hnx hB).row
  have hch := (h.below hnx hB).chs k hlk
  have hmk' := hm k hlk
  have HNo := qh (fun (hh : lnk base gs k = false) => chainB_no hlk hh)
  have HYes := qh (fun (hh : lnk base gs k = true) => hln.succ hh)
  have HA := qh (show atK base gs (k + 1) = (gs.getD k sgZ).t from rfl)
  have HM := qh (show mpK gs (k + 1) = noteM (mpK gs k) (gs.getD k sgZ).cs from rfl)
  have HNN := qh (LnTo.nonN k hln)
  have HPr : ∀ j, k = j + 1 -> wo.cell? ⟨b, off + j * 4 + 2, none⟩ = some (ii (tmK gs k)) := by
   rintro j rfl
   obtain ⟨b', off', e, _, _, _, q2, _⟩ := hrow.at4 (k := j) oM
   injection e with e
   injection e with e1 e2 _
   subst e1 e2
   exact q2
  clear hln hrow
  obtain ⟨⟨f, t, m, A2, cc, cs⟩, Hs⟩ := nM (gs.getD k sgZ)
  rw [Hs.out] at p0 p1 p2 p3 hch hmk' HA HM
  simp only at p0 p1 p2 p3 hch hmk'
  have bG := Box.new wo 122 #[ii f, ii t, ii m, sC A2 cs.length cc]
  have hxa := (Nx.refl wo).alloc (.cells #[ii f, ii t, ii m, sC A2 cs.length cc] 122)
  have hltw := hown.lt
  obtain ⟨a0, Ha⟩ := nM (atK base gs k)
  obtain ⟨t0, Ht⟩ := nM (tmK gs k)
  obtain ⟨M, HMk⟩ := nM (mpK gs k)
  rw [Ha.out]
  rw [HMk.out] at hown HM HNN
  have HBad := qh (fun hh => HNo.out (lnk_bad (base := base) Hs.out hh))
  have HGood := qh (fun h1 h2 h3 h4 => HYes.out (lnk_yes (base := base) Hs.out h1 h2 h3 h4))
  rw [Ha.out, Ht.out, HMk.out] at HBad HGood
  rw [Ht.out] at HPr
  have HT0 : k = 0 -> inB 0 999999 m = true -> t0 <= m := by
   rintro rfl hh
   rw [<- Ht.out]
   exact tmK_zero hh
  clear HNo HYes hm
  go_wp2_with fail
  generalize hWa : wo.alloc (.cells #[ii f, ii t, ii m, sC A2 cs.length cc] 122) = wa at *
  clear hWa p0 p1 p2 p3
  have hszB0 := ntr hB hnx.size
  have hch0 := h.chs k hlk
  rw [Hs.out] at hch0
  simp only at hch0
  have hnxa : Nx w wa.drew := (hnx.trans hxa).drew
  have hszB : B <= wa.drew.heap.size := ntr hB hnxa.size
  have hchd : Chs wa.drew B A2 cs := hch0.below hnxa hB
  replace hown : Own wa.drew w.heap.size 3 8 (lsAt M) := hown.nx (hxa.drew)
  have hbw : b < wa.drew.heap.size := by have : wa.drew.heap.size = wa.heap.size := rfl; have := hxa.size; omega
  have hPr1 : ∀ j, k = j + 1 -> wa.drew.cell? ⟨b, off + j * 4 + 2, none⟩ = some (ii t0) := fun j hj => (hxa.cell (p := ⟨b, off + j * 4 + 2, none⟩) sM).trans (HPr j hj)
  replace bG : Box wa.drew wo.heap.size 122 #[ii f, ii t, ii m, sC A2 cs.length cc] := bG
  have hwr : wo.heap.size < wa.drew.heap.size := bG.lt
  clear HPr hch
  cases hsb : segB f t m cs
  . have HSB := qh hsb
    have HR := qh (HBad.out (.inl hsb))
    clear hsb HBad HGood
    refine wp_lexA (ff :: true :: kf9 (kf9 (kf4 ([])))) (fun w' => (CC w' wo.heap.size 0 (ii f) /\ CC w' wo.heap.size 1 (ii t) /\ CC w' wo.heap.size 2 (ii m) /\ CC w' wo.heap.size 3 (sC A2 cs.length cc))) (by exact bG.d4) ?_
    refine hLr ?_
    refine hLc fun K hK => ?_
    go_simp
    refine (specSegOK_c f t m A2 cc B cs _ hchd hszB hmk').mono ?_; rintro e w1 ⟨rfl, hx1⟩; rw [HSB.out]
    go_wp2_with fail
    refine hK.out _ _ (by exact (bG.nx hx1).d4) ?_
    clear hK K
    refine nZ ?_
    refine hLr ?_
    refine HL.done ?_
    go_wp2
    go_ret
    exact ⟨by rw [HR.out]; rfl, hnxa.trans hx1⟩
  have HSB := qh hsb
  have hok : chsB cs = true := segB_chs hsb
  have hmr := (segB_range hsb).2.2.1
  clear hsb
  by_cases hfa : f = a0
  case neg =>
   have HR := qh (HBad.out (.inr (.inl hfa)))
   have hd1 : (f != a0) = true := by simp [hfa]
   clear HBad HGood hfa
   refine wp_lexA (ff :: true :: kf9 (kf9 (kf4 ([])))) (fun w' => (CC w' wo.heap.size 0 (ii f) /\ CC w' wo.heap.size 1 (ii t) /\ CC w' wo.heap.size 2 (ii m) /\ CC w' wo.heap.size 3 (sC A2 cs.length cc))) (by exact bG.d4) ?_
   refine hLr ?_
   refine hLc fun K hK => ?_
   go_simp
   refine (specSegOK_c f t m A2 cc B cs _ hchd hszB hmk').mono ?_; rintro e w1 ⟨rfl, hx1⟩; rw [HSB.out]
   go_wp2_with fail
   refine hK.out _ _ (by exact (bG.nx hx1).d4) ?_
   clear hK K
   refine nZ ?_
   refine hLr ?_
   refine HL.done ?_
   go_wp2
   go_ret
   exact ⟨by rw [HR.out]; rfl, hnxa.trans hx1⟩
  have hd1 : (f != a0) = false := by simp [hfa]
  have HFA := qh hfa
  clear hfa
  rcases Nat.eq_zero_or_pos k with hk0 | hk0
  . have HTM := qh (HT0 hk0 hmr)
    have hd2 : decide (0 < k) = false := by simp; omega
    have HGd := qh (fun h4 => HGood.out HSB.out HFA.out HTM.out h4)
    have HBd := qh (fun h4 => HBad.out (.inr (.inr (.inr h4))))
    clear HBad HGood HT0 hPr1 hk0
    refine wp_lexA (ff :: true :: kf9 (kf9 (kf4 ([])))) (fun w' => (CC w' wo.heap.size 0 (ii f) /\ CC w' wo.heap.size 1 (ii t) /\ CC w' wo.heap.size 2 (ii m) /\ CC w' wo.heap.size 3 (sC A2 cs.length cc))) (by exact bG.d4) ?_
    refine hLr ?_
    refine hLc fun K hK => ?_
    go_simp
    refine (specSegOK_c f t m A2 cc B cs _ hchd hszB hmk').mono ?_; rintro e w1 ⟨rfl, hx1⟩; rw [HSB.out]
    go_wp2_with fail
    refine hK.out _ _ (by exact (bG.nx hx1).d4) ?_
    clear hK K
    refine nZ ?_
    refine hLr ?_
    refine HL.done ?_
    have hX1 := hnxa.trans hx1
    have bG1 := bG.nx hx1
    have hown1 := hown.nx hx1
    clear bG hown hchd hnxa hx1 hszB hbw
    obtain ⟨c0, c1, c2, c3⟩ := bG1.d4
    go_wp2_with fail
    go_loopw [8] (fun i ws => ∃ j2 : Nat, j2 <= cs.length /\ i = ii j2 /\ Own ws w.heap.size 3 8 (lsAt (noteM M (cs.take j2))) /\ Box ws wo.heap.size 122 #[ii f, ii t, ii m, sC A2 cs.length cc] /\ OnTo M cs j2 /\ Nx w ws) (fun i _ => cs.length - (intOf i).toNat)
    case atStart => exact ⟨0, Nat.zero_le _, rfl, hown1, bG1, OnTo.zero _ _, hX1⟩
    case round =>
     obtain ⟨j2, hj2, rfl, hown, bG, hon, hnx2⟩ := hrel
     obtain ⟨ws, hws⟩ : ∃ x, x = wr := ⟨_, rfl⟩
     subst hws
     clear c0 c1 c2 c3 hX1 bG1 hown1
     obtain ⟨c0, c1, c2, c3⟩ := bG.d4
     by_cases hlt2 : j2 < cs.length
     case neg =>
      obtain rfl : j2 = cs.length := oM
      have HL2 := qh (HGd.out hon.all)
      rw [List.take_length] at hown
      go_wp2
      go_roundw
      case rel => exact ⟨k + 1, oM, by go_num, by rw [HA.out], by rw [HM.out]; exact hown, HL2.out, hnx2⟩
      case measure => simp [intOf]; omega
     obtain ⟨b2, off2, rfl, hb2, k0, k1, k2⟩ := (hch0.below hnx2 hB).at_ hlt2
     obtain ⟨hr0, hr1⟩ := (chsB_to hok).rise j2 hlt2
     have HNt := qh (noteM_at M (chsB_to hok) hlt2)
     have HNs := qh (noteM_succ M cs hlt2)
     have HoN := qh (fun (hh : onC M (cs.getD j2 chZ) = false) => HBd.out (onB_no hlt2 hh))
     have HoY := qh (fun (hh : onC M (cs.getD j2 chZ) = true) => hon.succ hh)
     obtain ⟨⟨q0, q1, q2⟩, Hq⟩ := nM (cs.getD j2 chZ)
     rw [Hq.out] at k0 k1 k2 hr0 hr1 HNt HNs HoN HoY
     rw [onC_val HNN.out] at HoN HoY
     simp only at hr0 hr1 k0 k1 k2
     obtain ⟨n0, rfl⟩ : ∃ n : Nat, q0 = n := ⟨q0.toNat, oM⟩
     have hn0 : n0 < 8 := oM
     have hn1 : (n0 : Int) < 8 := oM
     obtain ⟨x, Hx⟩ := nM (lastV M (n0 : Int))
     rw [Hx.out] at HoN HoY
     have hv : ws.cell? ⟨w.heap.size, n0, none⟩ = some (ii x) := by
      have h1 := hown.cell hn0
      unfold lsAt lastV at h1
      rw [HNt.out] at h1
      rw [<- Hx.out]
      exact h1
     clear hon hr0 hr1 HNt
     have bC := Box.new ws 192 #[ii (n0 : Int), ii q1, ii q2]
     have hxc := (Nx.refl ws).alloc (.cells #[ii (n0 : Int), ii q1, ii q2] 192)
     go_wp2_with fail
     have hownS := hown
     have bGS := bG
     have hwl := hown.lt
     have hv1 : (ws.alloc (.cells #[ii (n0 : Int), ii q1, ii q2] 192)).drew.cell? ⟨w.heap.size, n0, none⟩ = some (ii x) := (hxc.cell (p := ⟨w.heap.size, n0, none⟩) hown.lt).trans hv
     replace hown : Own (ws.alloc (.cells #[ii (n0 : Int), ii q1, ii q2] 192)).drew w.heap.size 3 8 (lsAt (noteM M (cs.take j2))) := hown.nx hxc.drew
     replace bG : Box (ws.alloc (.cells #[ii (n0 : Int), ii q1, ii q2] 192)).drew wo.heap.size 122 #[ii f, ii t, ii m, sC (some ⟨b2, off2, none⟩) cs.length cc] := bG.nx hxc.drew
     replace bC : Box (ws.alloc (.cells #[ii (n0 : Int), ii q1, ii q2] 192)).drew ws.heap.size 192 #[ii (n0 : Int), ii q1, ii q2] := bC
     have hnx3 : Nx w (ws.alloc (.cells #[ii (n0 : Int), ii q1, ii q2] 192)).drew := (hnx2.trans hxc).drew
     clear c0 c1 c2 c3 k0 k1 k2 hv
     by_cases hx0 : x < 0
     . have hd5 : decide (0 <= x) = false := by simp; omega
       have HO := qh (HoY.out (by rw [decide_eq_true hx0]; rfl))
       clear hx0 HoN HoY
       refine wp_lexA (kf9 (kf7 ([]))) (fun w' => (CC w' ws.heap.size 0 (ii (n0 : Int)) /\ CC w' ws.heap.size 1 (ii q1) /\ CC w' ws.heap.size 2 (ii q2)) /\ CC w' w.heap.size n0 (ii x)) (by exact ⟨bC.d3, hv1⟩) ?_
       refine hLr ?_
       refine HL.done ?_
       obtain ⟨e0, e1, e2⟩ := bC.d3
       have hz := hown.frozen n0
       clear hown bG hnx3
       go_wp2
       go_roundw
       case rel =>
        refine ⟨j2 + 1, oM, by go_num, ?_, (bGS.far (p := ⟨w.heap.size, n0, none⟩) sM _).alloc _, HO.out, ((hnx2.setCell (p := ⟨w.heap.size, n0, none⟩) nle _).alloc _).drew⟩
        exact ((hownS.set hn0 (ii q1)).alloc _).congr (ls_set HNs.out)
       case measure => simp [intOf]; omega
     have hd5 : decide (0 <= x) = true := by simp; omega
     by_cases hxq : x = q2
     . have hd6 : (x != q2) = false := by simp [hxq]
       have HO := qh (HoY.out (by rw [decide_eq_true hxq]; simp))
       clear hx0 hxq HoN HoY
       refine wp_lexA (kf9 (kf7 ([]))) (fun w' => (CC w' ws.heap.size 0 (ii (n0 : Int)) /\ CC w' ws.heap.size 1 (ii q1) /\ CC w' ws.heap.size 2 (ii q2)) /\ CC w' w.heap.size n0 (ii x)) (by exact ⟨bC.d3, hv1⟩) ?_
       refine hLr ?_
       refine HL.done ?_
       obtain ⟨e0, e1, e2⟩ := bC.d3
       have hz := hown.frozen n0
       clear hown bG hnx3
       go_wp2
       go_roundw
       case rel =>
        refine ⟨j2 + 1, oM, by go_num, ?_, (bGS.far (p := ⟨w.heap.size, n0, none⟩) sM _).alloc _, HO.out, ((hnx2.setCell (p := ⟨w.heap.size, n0, none⟩) nle _).alloc _).drew⟩
        exact ((hownS.set hn0 (ii q1)).alloc _).congr (ls_set HNs.out)
       case measure => simp [intOf]; omega
     . have hd6 : (x != q2) = true := by simp [hxq]
       have HO := qh (HoN.out (by rw [decide_eq_false hx0, decide_eq_false hxq]; rfl))
       clear hx0 hxq HoN HoY
       refine wp_lexA (kf9 (kf7 ([]))) (fun w' => (CC w' ws.heap.size 0 (ii (n0 : Int)) /\ CC w' ws.heap.size 1 (ii q1) /\ CC w' ws.heap.size 2 (ii q2)) /\ CC w' w.heap.size n0 (ii x)) (by exact ⟨bC.d3, hv1⟩) ?_
       refine hLr ?_
       refine HL.done ?_
       go_wp2
       go_ret
       exact ⟨by rw [HO.out]; rfl, hnx3⟩
  obtain ⟨j, Hj⟩ : ∃ j, Hid (k = j + 1) := ⟨k - 1, qh oM⟩
  have hPr := hPr1 j Hj.out
  have hd3 : decide (0 < k) = true := by have := Hj.out; simp; omega
  have hsub : (k : Int) - 1 = (j : Int) := by have := Hj.out; omega
  have hjn : (j : Int) < (n : Int) := by have := Hj.out; omega
  have hwj : IntKind.i64.wrap (j : Int) = (j : Int) := IntWalk.i64_in _ oM
  clear hPr1 HT0 hk0
  by_cases htm : t0 <= m
  case neg =>
   have HR := qh (HBad.out (.inr (.inr (.inl oM))))
   have hd2 : decide (m < t0) = true := by simp; omega
   clear HBad HGood htm
   refine wp_lexA (ff :: true :: kf9 (kf9 (kf4 ([])))) (fun w' => (CC w' wo.heap.size 0 (ii f) /\ CC w' wo.heap.size 1 (ii t) /\ CC w' wo.heap.size 2 (ii m) /\ CC w' wo.heap.size 3 (sC A2 cs.length cc)) /\ CC w' b (off + j * 4 + 2) (ii t0)) (by exact ⟨bG.d4, hPr⟩) ?_
   refine hLr ?_
   refine hLc fun K hK => ?_
   go_simp
   refine (specSegOK_c f t m A2 cc B cs _ hchd hszB hmk').mono ?_; rintro e w1 ⟨rfl, hx1⟩; rw [HSB.out]
   go_wp2_with fail
   refine hK.out _ _ (by exact ⟨(bG.nx hx1).d4, (hx1.cell (p := ⟨b, off + j * 4 + 2, none⟩) hbw).trans hPr⟩) ?_
   clear hK K
   refine nZ ?_
   refine hLr ?_
   refine HL.done ?_
   go_wp2
   go_ret
   exact ⟨by rw [HR.out]; rfl, hnxa.trans hx1⟩
  have hd2 : decide (m < t0) = false := by simp; omega
  have HGd := qh (fun h4 => HGood.out HSB.out HFA.out htm h4)
  have HBd := qh (fun h4 => HBad.out (.inr (.inr (.inr h4))))
  clear HBad HGood htm
  refine wp_lexA (ff :: true :: kf9 (kf9 (kf4 ([])))) (fun w' => (CC w' wo.heap.size 0 (ii f) /\ CC w' wo.heap.size 1 (ii t) /\ CC w' wo.heap.size 2 (ii m) /\ CC w' wo.heap.size 3 (sC A2 cs.length cc)) /\ CC w' b (off + j * 4 + 2) (ii t0)) (by exact ⟨bG.d4, hPr⟩) ?_
  refine hLr ?_
  refine hLc fun K hK => ?_
  go_simp
  refine (specSegOK_c f t m A2 cc B cs _ hchd hszB hmk').mono ?_; rintro e w1 ⟨rfl, hx1⟩; rw [HSB.out]
  go_wp2_with fail
  refine hK.out _ _ (by exact ⟨(bG.nx hx1).d4, (hx1.cell (p := ⟨b, off + j * 4 + 2, none⟩) hbw).trans hPr⟩) ?_
  clear hK K
  refine nZ ?_
  refine hLr ?_
  refine HL.done ?_
  have hX1 := hnxa.trans hx1
  have bG1 := bG.nx hx1
  have hown1 := hown.nx hx1
  clear bG hown hchd hnxa hx1 hszB hbw
  obtain ⟨c0, c1, c2, c3⟩ := bG1.d4
  go_wp2_with fail
  go_loopw [8] (fun i ws => ∃ j2 : Nat, j2 <= cs.length /\ i = ii j2 /\ Own ws w.heap.size 3 8 (lsAt (noteM M (cs.take j2))) /\ Box ws wo.heap.size 122 #[ii f, ii t, ii m, sC A2 cs.length cc] /\ OnTo M cs j2 /\ Nx w ws) (fun i _ => cs.length - (intOf i).toNat)
  case atStart => exact ⟨0, Nat.zero_le _, rfl, hown1, bG1, OnTo.zero _ _, hX1⟩
  case round =>
   obtain ⟨j2, hj2, rfl, hown, bG, hon, hnx2⟩ := hrel
   obtain ⟨ws, hws⟩ : ∃ x, x = wr := ⟨_, rfl⟩
   subst hws
   clear c0 c1 c2 c3 hX1 bG1 hown1
   obtain ⟨c0, c1, c2, c3⟩ := bG.d4
   by_cases hlt2 : j2 < cs.length
   case neg =>
    obtain rfl : j2 = cs.length := oM
    have HL2 := qh (HGd.out hon.all)
    rw [List.take_length] at hown
    go_wp2
    go_roundw
    case rel => exact ⟨k + 1, oM, by go_num, by rw [HA.out], by rw [HM.out]; exact hown, HL2.out, hnx2⟩
    case measure => simp [intOf]; omega
   obtain ⟨b2, off2, rfl, hb2, k0, k1, k2⟩ := (hch0.below hnx2 hB).at_ hlt2
   obtain ⟨hr0, hr1⟩ := (chsB_to hok).rise j2 hlt2
   have HNt := qh (noteM_at M (chsB_to hok) hlt2)
   have HNs := qh (noteM_succ M cs hlt2)
   have HoN := qh (fun (hh : onC M (cs.getD j2 chZ) = false) => HBd.out (onB_no hlt2 hh))
   have HoY := qh (fun (hh : onC M (cs.getD j2 chZ) = true) => hon.succ hh)
   obtain ⟨⟨q0, q1, q2⟩, Hq⟩ := nM (cs.getD j2 chZ)
   rw [Hq.out] at k0 k1 k2 hr0 hr1 HNt HNs HoN HoY
   rw [onC_val HNN.out] at HoN HoY
   simp only at hr0 hr1 k0 k1 k2
   obtain ⟨n0, rfl⟩ : ∃ n : Nat, q0 = n := ⟨q0.toNat, oM⟩
   have hn0 : n0 < 8 := oM
   have hn1 : (n0 : Int) < 8 := oM
   obtain ⟨x, Hx⟩ := nM (lastV M (n0 : Int))
   rw [Hx.out] at HoN HoY
   have hv : ws.cell? ⟨w.heap.size, n0, none⟩ = some (ii x) := by
    have h1 := hown.cell hn0
    unfold lsAt lastV at h1
    rw [HNt.out] at h1
    rw [<- Hx.out]
    exact h1
   clear hon hr0 hr1 HNt
   have bC := Box.new ws 192 #[ii (n0 : Int), ii q1, ii q2]
   have hxc := (Nx.refl ws).alloc (.cells #[ii (n0 : Int), ii q1, ii q2] 192)
   go_wp2_with fail
   have hownS := hown
   have bGS := bG
   have hwl := hown.lt
   have hv1 : (ws.alloc (.cells #[ii (n0 : Int), ii q1, ii q2] 192)).drew.cell? ⟨w.heap.size, n0, none⟩ = some (ii x) := (hxc.cell (p := ⟨w.heap.size, n0, none⟩) hown.lt).trans hv
   replace hown : Own (ws.alloc (.cells #[ii (n0 : Int), ii q1, ii q2] 192)).drew w.heap.size 3 8 (lsAt (noteM M (cs.take j2))) := hown.nx hxc.drew
   replace bG : Box (ws.alloc (.cells #[ii (n0 : Int), ii q1, ii q2] 192)).drew wo.heap.size 122 #[ii f, ii t, ii m, sC (some ⟨b2, off2, none⟩) cs.length cc] := bG.nx hxc.drew
   replace bC : Box (ws.alloc (.cells #[ii (n0 : Int), ii q1, ii q2] 192)).drew ws.heap.size 192 #[ii (n0 : Int), ii q1, ii q2] := bC
   have hnx3 : Nx w (ws.alloc (.cells #[ii (n0 : Int), ii q1, ii q2] 192)).drew := (hnx2.trans hxc).drew
   clear c0 c1 c2 c3 k0 k1 k2 hv
   by_cases hx0 : x < 0
   . have hd5 : decide (0 <= x) = false := by simp; omega
     have HO := qh (HoY.out (by rw [decide_eq_true hx0]; rfl))
     clear hx0 HoN HoY
     refine wp_lexA (kf9 (kf7 ([]))) (fun w' => (CC w' ws.heap.size 0 (ii (n0 : Int)) /\ CC w' ws.heap.size 1 (ii q1) /\ CC w' ws.heap.size 2 (ii q2)) /\ CC w' w.heap.size n0 (ii x)) (by exact ⟨bC.d3, hv1⟩) ?_
     refine hLr ?_
     refine HL.done ?_
     obtain ⟨e0, e1, e2⟩ := bC.d3
     have hz := hown.frozen n0
     clear hown bG hnx3
     go_wp2
     go_roundw
     case rel =>
      refine ⟨j2 + 1, oM, by go_num, ?_, (bGS.far (p := ⟨w.heap.size, n0, none⟩) sM _).alloc _, HO.out, ((hnx2.setCell (p := ⟨w.heap.size, n0, none⟩) nle _).alloc _).drew⟩
      exact ((hownS.set hn0 (ii q1)).alloc _).congr (ls_set HNs.out)
     case measure => simp [intOf]; omega
   have hd5 : decide (0 <= x) = true := by simp; omega
   by_cases hxq : x = q2
   . have hd6 : (x != q2) = false := by simp [hxq]
     have HO := qh (HoY.out (by rw [decide_eq_true hxq]; simp))
     clear hx0 hxq HoN HoY
     refine wp_lexA (kf9 (kf7 ([]))) (fun w' => (CC w' ws.heap.size 0 (ii (n0 : Int)) /\ CC w' ws.heap.size 1 (ii q1) /\ CC w' ws.heap.size 2 (ii q2)) /\ CC w' w.heap.size n0 (ii x)) (by exact ⟨bC.d3, hv1⟩) ?_
     refine hLr ?_
     refine HL.done ?_
     obtain ⟨e0, e1, e2⟩ := bC.d3
     have hz := hown.frozen n0
     clear hown bG hnx3
     go_wp2
     go_roundw
     case rel =>
      refine ⟨j2 + 1, oM, by go_num, ?_, (bGS.far (p := ⟨w.heap.size, n0, none⟩) sM _).alloc _, HO.out, ((hnx2.setCell (p := ⟨w.heap.size, n0, none⟩) nle _).alloc _).drew⟩
      exact ((hownS.set hn0 (ii q1)).alloc _).congr (ls_set HNs.out)
     case measure => simp [intOf]; omega
   . have hd6 : (x != q2) = true := by simp [hxq]
     have HO := qh (HoN.out (by rw [decide_eq_false hx0, decide_eq_false hxq]; rfl))
     clear hx0 hxq HoN HoY
     refine wp_lexA (kf9 (kf7 ([]))) (fun w' => (CC w' ws.heap.size 0 (ii (n0 : Int)) /\ CC w' ws.heap.size 1 (ii q1) /\ CC w' ws.heap.size 2 (ii q2)) /\ CC w' w.heap.size n0 (ii x)) (by exact ⟨bC.d3, hv1⟩) ?_
     refine hLr ?_
     refine HL.done ?_
     go_wp2
     go_ret
     exact ⟨by rw [HO.out]; rfl, hnx3⟩
end
section
open Go.Joins Go.ChangeShapes Go.WideShapes Go.RowKit Go.Deep
section
variable {H : Type} {enc : TypeId × Value -> H} {w : World} {base : Nat} {spare : Nat -> Bool} {held : Bool}
end
end
section
open Go.RowKit
theorem v_parts {gs hs : List SgR} (h : gs.map SgR.v = hs.map SgR.v) (k : Nat) : (gs.getD k sgZ).f = (hs.getD k sgZ).f /\ (gs.getD k sgZ).t = (hs.getD k sgZ).t /\ (gs.getD k sgZ).m = (hs.getD k sgZ).m /\ (gs.getD k sgZ).cs = (hs.getD k sgZ).cs := by
 have := v_at h k
 unfold SgR.v at this
 simp only [Prod.mk.injEq] at this
 exact this
theorem atK_v {gs hs : List SgR} (h : gs.map SgR.v = hs.map SgR.v) (base : Int) : ∀ k, atK base gs k = atK base hs k
 | 0 => rfl
 | k + 1 => (v_parts h k).2.1
theorem tmK_v {gs hs : List SgR} (h : gs.map SgR.v = hs.map SgR.v) : ∀ k, tmK gs k = tmK hs k
 | 0 => rfl
 | k + 1 => (v_parts h k).2.2.1
theorem mpK_v {gs hs : List SgR} (h : gs.map SgR.v = hs.map SgR.v) : ∀ k, mpK gs k = mpK hs k
 | 0 => rfl
 | k + 1 => by
   show noteM (mpK gs k) (gs.getD k sgZ).cs = noteM (mpK hs k) (hs.getD k sgZ).cs
   rw [mpK_v h k, (v_parts h k).2.2.2]
theorem lnk_v {gs hs : List SgR} (h : gs.map SgR.v = hs.map SgR.v) (base : Int) (k : Nat) : lnk base gs k = lnk base hs k := by
 obtain ⟨h1, h2, h3, h4⟩ := v_parts h k
 unfold lnk sgB
 rw [h1, h2, h3, h4, atK_v h, tmK_v h, mpK_v h]
theorem chainB_v {gs hs : List SgR} (h : gs.map SgR.v = hs.map SgR.v) (base : Int) : chainB base gs = chainB base hs := by
 unfold chainB
 rw [v_len h, show lnk base gs = lnk base hs from funext (lnk_v h base)]
theorem v_cs {gs hs : List SgR} (h : gs.map SgR.v = hs.map SgR.v) {n : Nat} (hm : ∀ k, k < hs.length -> (hs.getD k sgZ).cs.length <= n) : ∀ k, k < gs.length -> (gs.getD k sgZ).cs.length <= n := fun k hk => by
 rw [(v_parts h k).2.2.2]; exact hm k (by rw [<- v_len h]; exact hk)
end
section
open Go.Joins Go.ChangeShapes Go.WideShapes Go.RowKit Go.Deep
structure Vl where
 g : Int
 b : Int
 p : Int
 t : Int
 A : Option Addr
 c : Nat
 xs : List Int
 A2 : Option Addr
 c2 : Nat
 ms : List Mrk
 A3 : Option Addr
 c3 : Nat
 gs : List SgR
 A4 : Option Addr
 c4 : Nat
 im : List Int
def Vl.cells (V : Vl) : Array Value := #[ii V.g, ii V.b, ii V.p, ii V.t, sC V.A V.xs.length V.c, sC V.A2 V.ms.length V.c2, sC V.A3 V.gs.length V.c3, sC V.A4 V.im.length V.c4]
def Vl.v (V : Vl) : Value := .agg V.cells
def Vl.ok (V : Vl) : Bool := vltB V.g V.b V.p V.t V.xs V.ms V.gs V.im
structure Vlt (w : World) (B : Nat) (V : Vl) : Prop where
 tab : Ins w B V.A V.xs
 mks : Mks w B V.A2 V.ms
 sgs : Sgs w B V.A3 V.gs
 img : Ins w B V.A4 V.im
theorem Vlt.below {w w' : World} {B B' : Nat} {V : Vl} (h : Vlt w B V) (hb : Below B' w w') (hB : B <= B') : Vlt w' B V := ⟨h.tab.below hb hB, h.mks.below hb hB, h.sgs.below hb hB, h.img.below hb hB⟩
structure VlN (V : Vl) (n : Nat) : Prop where
 xs : V.xs.length <= n
 ms : V.ms.length <= n
 gs : V.gs.length <= n
 cs : ∀ k, k < V.gs.length -> (V.gs.getD k sgZ).cs.length <= n
 im : V.im.length <= n
structure VlO (w : World) (lo : Nat) (V : Vl) : Prop where
 tab : SlI w lo V.A V.xs
 mks : SlM w lo V.A2 V.ms
 sgs : SgO w lo V.A3 V.gs
 img : SlI w lo V.A4 V.im
 cap : V.xs.length <= V.c
 cap3 : V.gs.length <= V.c3
theorem VlO.vlt {w : World} {lo : Nat} {V : Vl} (h : VlO w lo V) : Vlt w w.heap.size V := ⟨h.tab.row, h.mks.row, h.sgs.sgs, h.img.row⟩
structure VlS (V V' : Vl) : Prop where
 g : V'.g = V.g
 b : V'.b = V.b
 p : V'.p = V.p
 t : V'.t = V.t
 xs : V'.xs = V.xs
 ms : V'.ms = V.ms
 gs : V'.gs.map SgR.v = V.gs.map SgR.v
 im : V'.im = V.im
theorem VlS.len {V V' : Vl} (h : VlS V V') : V'.gs.length = V.gs.length := v_len h.gs
theorem VlS.n {V V' : Vl} {n : Nat} (h : VlS V V') (hn : VlN V n) : VlN V' n := ⟨by rw [h.xs]; exact hn.xs, by rw [h.ms]; exact hn.ms, by rw [h.len]; exact hn.gs, v_cs h.gs hn.cs, by rw [h.im]; exact hn.im⟩
theorem Box.e8 {w : World} {g : Nat} {t : TypeId} {v0 v1 v2 v3 v4 v5 v6 v7 : Value} (h : Box w g t #[v0, v1, v2, v3, v4, v5, v6, v7]) : w.cell? ⟨g, 0, none⟩ = some v0 /\ w.cell? ⟨g, 1, none⟩ = some v1 /\ w.cell? ⟨g, 2, none⟩ = some v2 /\ w.cell? ⟨g, 3, none⟩ = some v3 /\ w.cell? ⟨g, 4, none⟩ = some v4 /\ w.cell? ⟨g, 5, none⟩ = some v5 /\ w.cell? ⟨g, 6, none⟩ = some v6 /\ w.cell? ⟨g, 7, none⟩ = some v7 :=
 ⟨h.cell 0, h.cell 1, h.cell 2, h.cell 3, h.cell 4, h.cell 5, h.cell 6, h.cell 7⟩
end
section
open Go.RowKit Go.Extern.Stop Go.Stop Go.Extern

end
section
open Go.RowKit
def digs (n : Nat) : List UInt8 := if n < 10 then [UInt8.ofNat (48 + n)] else digs (n / 10) ++ [UInt8.ofNat (48 + n % 10)]
def pad : Nat -> Nat -> List UInt8
 | 0, _ => []
 | k + 1, n => pad k (n / 10) ++ [UInt8.ofNat (48 + n % 10)]
theorem pad_len (k n : Nat) : (pad k n).length = k := by
 induction k generalizing n with
 | zero => rfl
 | succ k ih => simp [pad, ih]
theorem pad_zero (k : Nat) : pad k 0 = List.replicate k 48 := by
 induction k with
 | zero => rfl
 | succ k ih =>
   show pad k 0 ++ [48] = _
   rw [ih, List.replicate_succ']
theorem digs_lt {n : Nat} (h : n < 10) : digs n = [UInt8.ofNat (48 + n)] := by rw [digs, if_pos h]
theorem digs_ge {n : Nat} (h : ¬ n < 10) : digs n = digs (n / 10) ++ [UInt8.ofNat (48 + n % 10)] := by rw [digs, if_neg h]
theorem digs_pad (k : Nat) : ∀ n, n < 10 ^ (k + 1) -> (digs n).length <= k + 1 /\ List.replicate (k + 1 - (digs n).length) 48 ++ digs n = pad (k + 1) n := by
 induction k with
 | zero =>
   intro n h
   have h' : n < 10 := by simpa using h
   rw [digs_lt h']
   refine ⟨by simp, ?_⟩
   show _ = [] ++ [UInt8.ofNat (48 + n % 10)]
   rw [Nat.mod_eq_of_lt h']; simp
 | succ k ih =>
   intro n h
   by_cases h' : n < 10
   . rw [digs_lt h']
     refine ⟨by simp, ?_⟩
     show _ = pad (k + 1) (n / 10) ++ [UInt8.ofNat (48 + n % 10)]
     rw [Nat.mod_eq_of_lt h', Nat.div_eq_of_lt h', pad_zero]; simp
   . have h2 : n / 10 < 10 ^ (k + 1) := by
      rw [Nat.pow_succ] at h
      omega
     obtain ⟨hl, he⟩ := ih (n / 10) h2
     rw [digs_ge h']
     refine ⟨by simp; omega, ?_⟩
     show _ = pad (k + 1) (n / 10) ++ [UInt8.ofNat (48 + n % 10)]
     rw [<- he, <- List.append_assoc]
     congr 2
     simp
theorem digs_len {n : Nat} (h : n <= 999999) : 1 <= (digs n).length /\ (digs n).length <= 6 := by
 refine ⟨?_, (digs_pad 5 n oM).1⟩
 by_cases h' : n < 10
 . rw [digs_lt h']; simp
 . rw [digs_ge h']; simp
theorem cv_one (y : Int) (hy : 0 <= y) (hy2 : y < 256) (W : World) (b : Nat) (h : W.cell? ⟨b, 0, none⟩ = some (.int .u8 y)) :
 (convert 22 9 (sC (some ⟨b, 0, none⟩) 1 1)).run Tryz.prog W = .ok (.string ⟨#[UInt8.ofNat y.toNat]⟩) W := by
 have := run_convert_bytes_back (P := Tryz.prog) W 22 9 5 ⟨b, 0, none⟩ 1 [UInt8.ofNat y.toNat] underlying22 underlying5 underlying9 (fun j hj => by
  obtain rfl : j = 0 := by simpa using hj
  have e : ((UInt8.ofNat y.toNat).toNat : Int) = y := by
   rw [UInt8.toNat_ofNat']
   omega
  simp only [List.getElem_cons_zero, e]
  simpa [Addr.add] using h)
 simpa using this
theorem Nx.cells {a w : World} (h : Nx a w) : ∀ b o, b < a.heap.size -> w.cell? ⟨b, o, none⟩ = a.cell? ⟨b, o, none⟩ := fun b o hb => h.cell (p := ⟨b, o, none⟩) hb
theorem ret_str {a b : BA} (h : a = b) : Ending.returned (.string a) = .returned (.string b) := by rw [h]
theorem l00Digits_c : ∀ (n : Nat) (w : World), n <= 999999 -> Calls Tryz.prog 108 #[ii n] w fun e w' => e = .returned (.string ⟨(digs n).toArray⟩) /\ Nx w w' := by
 intro n
 induction n using Nat.strongRecOn with
 | ind n ih =>
   intro w hn
   by_cases h' : n < 10
   . have hd : decide ((n : Int) < 10) = true := by simp; omega
     have hz : ((n : Int) == -9223372036854775808) = false := beq_eq_false_iff_ne.2 oM
     have HD := qh (digs_lt h')
     have hcv := cv_one (48 + n) oM oM
     go_enter func108, ntmps108
     go_wp2
     go_ret
     refine ⟨ret_str ?_, (Nx.refl _).alloc _⟩
     rw [HD.out]
   . have hd : decide ((n : Int) < 10) = false := by simp; omega
     have hz : ((n : Int) == -9223372036854775808) = false := beq_eq_false_iff_ne.2 oM
     have HD := qh (digs_ge h')
     obtain ⟨q, hq⟩ : ∃ q, n / 10 = q := ⟨_, rfl⟩
     obtain ⟨d, hd'⟩ : ∃ d, n % 10 = d := ⟨_, rfl⟩
     rw [hq, hd'] at HD
     have hd10 : d < 10 := oM
     have ihq := ih q oM
     have hq6 : q <= 999999 := oM
     obtain ⟨hl1, hl2⟩ := digs_len hq6
     have hcv := cv_one (48 + d) oM oM
     have e1 : IntKind.i64.wrap ((n : Int) / 10) = (q : Int) := by
      rw [show (n : Int) / 10 = (q : Int) by omega]; exact IntWalk.i64_in _ oM
     have e3 : (n : Int).tmod 10 = (d : Int) := by rw [Int.tmod_eq_emod_of_nonneg oM]; omega
     have e4 : IntKind.i64.wrap (48 + (d : Int)) = 48 + d := IntWalk.i64_in _ oM
     have e5 : IntKind.u8.wrap (48 + (d : Int)) = 48 + d := IntWalk.u8_in _ oM
     clear hq hd' ih
     go_enter func108, ntmps108
     go_wp2_with fail
     go_region_with (go_at_call 108; refine (ihq _ hq6).mono ?_; rintro e w1 ⟨rfl, hnx1⟩; have hcl := hnx1.cells)
     all_goals
      clear e1 e3 e4 e5 hcv ihq hcl
      go_wp2
      go_ret
      refine ⟨ret_str ?_, ?_⟩
      . rw [HD.out, ByteArray.mk_append_mk]; simp
      . first
         | exact (Nx.drew_r hnx1).alloc _
         | exact ((Nx.refl w).alloc _).drew.trans hnx1
         | exact (((Nx.refl w).alloc _).drew.trans hnx1).drew
def sumL (l : List UInt8) : Int := l.foldl (fun n c => (n * 31 + (c.toNat : Int)) % 997) 7
theorem sumL_snoc (l : List UInt8) (c : UInt8) : sumL (l ++ [c]) = (sumL l * 31 + (c.toNat : Int)) % 997 := by
 unfold sumL; rw [List.foldl_append]; rfl
theorem sumL_bd (l : List UInt8) : 0 <= sumL l /\ sumL l <= 996 := by
 rcases List.eq_nil_or_concat l with rfl | ⟨l', c, rfl⟩
 . exact ⟨by decide, by decide⟩
 . rw [List.concat_eq_append, sumL_snoc]; omega
def sumS (s : BA) : Int := sumL s.data.toList
def sumOfS (s : BA) : Int := if s.size <= 65536 then sumS s else 0
theorem sumOfS_yes {s : BA} (h : s.size <= 65536) : sumS s = sumOfS s := by unfold sumOfS; rw [if_pos h]
theorem sumOfS_no {s : BA} (h : ¬ s.size <= 65536) : 0 = sumOfS s := by unfold sumOfS; rw [if_neg h]
theorem take_snoc (s : BA) (k : Nat) (h : k < s.size) : s.data.toList.take (k + 1) = s.data.toList.take k ++ [s[k]] := by
 rw [List.take_succ_eq_append_getElem (by simpa using h)]; rfl
def sumTo (s : BA) (k : Nat) : Int := sumL (s.data.toList.take k)
theorem sumTo_bd (s : BA) (k : Nat) : 0 <= sumTo s k /\ sumTo s k <= 996 := sumL_bd _
theorem sumTo_succ (s : BA) (k : Nat) (h : k < s.size) : sumTo s (k + 1) = (sumTo s k * 31 + (s[k].toNat : Int)) % 997 := by
 unfold sumTo; rw [take_snoc s k h, sumL_snoc]
theorem sumTo_all (s : BA) : sumTo s s.size = sumS s := by
 unfold sumTo sumS; rw [List.take_of_length_le (by simp)]
theorem l02Sum_c (s : BA) (w : World) (hs : s.size <= maxLen) : Calls Tryz.prog 179 #[.string s] w fun e w' => e = .returned (ii (sumS s)) /\ w = w' := by
 unfold maxLen at hs
 go_enter func179, ntmps179
 go_wp2
 go_loop [3, 4] (fun n i => ∃ k : Nat, k <= s.size /\ i = ii k /\ n = ii (sumTo s k)) (fun _ i => s.size - (intOf i).toNat)
 case atStart => exact ⟨0, Nat.zero_le _, rfl, rfl⟩
 case round =>
  obtain ⟨k, hk, rfl, rfl⟩ := hrel
  obtain ⟨h1, h2⟩ := sumTo_bd s k
  by_cases hlt : k < s.size
  . have HS := qh (sumTo_succ s k hlt)
    have hc1 : (s[k].toNat : Int) <= 255 := by have := s[k].toNat_lt; omega
    go_wp2
    go_round
    case rel => exact ⟨k + 1, oM, by go_num, by rw [HS.out]⟩
    case measure => simp [intOf]; omega
  . obtain rfl : k = s.size := oM
    go_wp2
    go_ret
    exact ⟨ret_int (sumTo_all s), rfl⟩
theorem implSumOf_c (s : BA) (w : World) (hs : s.size <= maxLen) : Calls Tryz.prog 173 #[.string s] w fun e w' => e = .returned (ii (sumOfS s)) /\ w = w' := by
 unfold maxLen at hs
 by_cases hb : s.size <= 65536
 case neg =>
  have hb' : decide (65536 < (s.size : Int)) = true := by simp; omega
  have HF := qh (sumOfS_no hb)
  go_enter func173, ntmps173
  go_wp2
  go_ret
  exact ⟨ret_int HF.out, rfl⟩
 have hb' : decide (65536 < (s.size : Int)) = false := by simp; omega
 have HF := qh (sumOfS_yes hb)
 go_enter func173, ntmps173
 go_wp2
 go_loop [3, 4] (fun n i => ∃ k : Nat, k <= s.size /\ i = ii k /\ n = ii (sumTo s k)) (fun _ i => s.size - (intOf i).toNat)
 case atStart => exact ⟨0, Nat.zero_le _, rfl, rfl⟩
 case round =>
  obtain ⟨k, hk, rfl, rfl⟩ := hrel
  obtain ⟨h1, h2⟩ := sumTo_bd s k
  by_cases hlt : k < s.size
  . have HS := qh (sumTo_succ s k hlt)
    have hc1 : (s[k].toNat : Int) <= 255 := by have := s[k].toNat_lt; omega
    go_wp2
    go_round
    case rel => exact ⟨k + 1, oM, by go_num, by rw [HS.out, Int.mul_comm]⟩
    case measure => simp [intOf]; omega
  . obtain rfl : k = s.size := oM
    go_wp2
    go_ret
    exact ⟨ret_int ((sumTo_all s).trans HF.out), rfl⟩
end
end Go.Proofs.YtieoiailjjnnoaaGreatDoor
