/-
  Contracts of the model's drawn texts and keeps: a text of n letters, a list of at most three keeps that hangs on the code alone.
  Conditions: the code can be read, and holds at most 1048576 bytes.
-/
import Derived.Test.YtccapcadgjlmkaaSrc
import Derived.Test.YtccapcadgjlmkaaSw
import Derived.Test.YtccapcadgjlmkaaBl
import Derived.Laws.BytesArg
namespace Go.Proofs.Ytccapcadgjlmkaa
set_option linter.unusedVariables false
open Go.RowKit

theorem info_u8 : (Try.prog.info? 5).map (fun i => (i.zero, i.size, i.bytes)) = some (some (.int .u8 0), 1, 1) := by kernel_rfl

theorem owns_rg {w w' : World} {base : Nat} {e : TypeId} {size n lo hi : Nat} {v : Value} {xs : List Value} (h : w.ownsRow base e size v n xs) (hr : Rg lo hi w w') (hb : hi ≤ base) : w'.ownsRow base e size v n xs := by
  refine ⟨h.1, ?_⟩
  rcases h.2 with hn | ⟨g, cap, cur, rfl, hbg, hgg, rest⟩
  · exact .inl hn
  · refine .inr ⟨g, cap, cur, rfl, hbg, ?_, rest⟩
    rw [hr.block g ?_ (.inr (by omega))]
    · exact hgg
    · rcases Nat.lt_or_ge g w.heap.size with hlt | hge
      · exact hlt
      · rw [Array.getElem?_eq_none hge] at hgg; cases hgg
theorem Rg.grown {lo hi : Nat} {a w w' : World} {row : Option Nat} (h : Rg lo hi a w) (hg : w.grownBy w' row) (hrow : ∀ k, row = some k → a.heap.size ≤ k) : Rg lo hi a w' :=
  ⟨hg.os.trans h.os, hg.tape.trans h.tape, hg.output.trans h.output, Nat.le_trans h.size hg.size, fun k hk hr => (hg.block k (Nat.lt_of_lt_of_le hk h.size) (fun e => by have := hrow k e.symm; omega)).trans (h.block k hk hr)⟩
theorem box1_row {w : World} {g : Nat} {ty : TypeId} {v : Value} (h : Box w g ty #[v]) : Row w w.heap.size (some ⟨g, 0, none⟩) (1 * 1) (fun _ => v) := fun _ =>
  ⟨g, 0, rfl, h.lt, fun i hi => by
    obtain rfl : i = 0 := by omega
    exact h.cell 0⟩
theorem owns_cells {w : World} {base : Nat} {e : TypeId} {n : Nat} {v : Value} {xs : List Value} (h : w.ownsRow base e 1 v n xs) : xs.length = n ∧ ((v = .slice none 0 0 ∧ n = 0) ∨ ∃ g cap, v = .slice (some ⟨g, 0, none⟩) n cap ∧ base ≤ g ∧ g < w.heap.size ∧ ∀ i, i < n → w.cell? ⟨g, i, none⟩ = xs[i]?) := by
  refine ⟨by have := h.1; omega, ?_⟩
  rcases h.2 with hn | ⟨g, cap, cur, rfl, hbg, hgg, hnc, hcm, hsz, htk⟩
  · exact .inl hn
  · refine .inr ⟨g, cap, rfl, hbg, Box.lt (t := e) (cs := cur) hgg, fun i hi => ?_⟩
    rw [cell_of_row w g i cur e (0, 0) hgg, ← htk, List.getElem?_take, if_pos (by omega)]
    simp

set_option maxRecDepth 100000 in
set_option maxHeartbeats 2000000 in
theorem some_c (m g : Nat) (A : Option Addr) (n c a sd B : Nat) (ys : List Nat) (w : World) (hb : Src w g A n c a sd) (h : U8s w B A n ys) (hB : B ≤ g) (hn : n ≤ 1048576) (ha : a ≤ 100000) (hs : sd < 2147483648) (hm : m ≤ 100) :
    Calls Try.prog 43 #[.pointer (some ⟨g, 0, none⟩), .int .i64 m] w fun e w' => ∃ (t : ByteArray) (sd' : Nat), e = .returned (.string t) ∧ t.size = m ∧ Src w' g A n c (a + m) sd' ∧ sd' < 2147483648 ∧ Rg g (g + 1) w w' := by
  obtain ⟨i0, hi0, hz0, hz1, hz2⟩ := info_parts info_u8
  have hgl := Box.lt hb
  have m0 := Box.new w 5 #[]
  have hown0 := owns_empty _ w.heap.size 5 1 w.heap.size (Nat.le_refl _) m0
  have hnx0 := (Nx.refl w).alloc (.cells #[] 5)
  go_enter Try.func43, Try.ntmps43
  go_wp2
  go_loopw [5, 6] (fun out i wr => ∃ (k sd' : Nat) (xs : List Int), k ≤ m ∧ i = .int .i64 k ∧ xs.length = k ∧ wr.ownsRow w.heap.size 5 1 out k (xs.map (Value.int .u8)) ∧ Src wr g A n c (a + k) sd' ∧ sd' < 2147483648 ∧ Rg g (g + 1) w wr) (fun _ i _ => m - (intOf i).toNat)
  case atStart => exact ⟨0, sd, [], Nat.zero_le _, rfl, rfl, hown0, Box.nx hb hnx0, hs, Rg.of_nx hnx0⟩
  case round =>
    obtain ⟨k, sd', xs, hk, rfl, hxl, hown, hsrc, hsd, hr⟩ := hrel
    clear hb m0 hown0 hnx0
    have hu := h.rg hr hB (Nat.le_of_lt hgl)
    by_cases hlt : k < m
    · obtain ⟨b, a', s2, HP⟩ : ∃ b a' s2, byteP ys (a + k) sd' = (b, a', s2) := ⟨_, _, _, rfl⟩
      obtain ⟨hb256, rfl, hs2⟩ := byteP_lt h.2.1 hsd HP
      have HH := Lib.hid HP
      clear HP
      go_wp2_with fail
      refine (next_c 26 g A n c (a + k) sd' B ys b (a + k + 1) s2 _ (by omega) (by omega) hsrc hu hB hn (by omega) hsd HH.out).mono ?_
      rintro e w1 ⟨rfl, h1, hr1⟩
      have hown1 := owns_rg hown hr1 (by omega)
      have hr2 := hr.trans hr1
      clear hown hsrc hr hr1 hu
      generalize hx : b % 26 = x at *
      have hx26 : x < 26 := by omega
      clear hx
      have hu8 : IntKind.u8.wrap (97 + (x : Int)) = 97 + (x : Int) := IntWalk.u8_in _ (by omega)
      have m1 := Box.new w1 5 #[.int .u8 (97 + (x : Int))]
      have hown2 := hown1.alloc (.cells #[.int .u8 (97 + (x : Int))] 5)
      have h2 := Box.alloc h1 (.cells #[.int .u8 (97 + (x : Int))] 5)
      have hr3 := hr2.trans (Rg.of_nx ((Nx.refl w1).alloc (.cells #[.int .u8 (97 + (x : Int))] 5)))
      have hbs := owns_base hown1
      have hsz := hr3.size
      clear hown1 h1 hr2
      go_wp2_with (at_builtin; refine wpList_append_row rfl (.tmp 13) (.tmp 18) 22 rfl w.heap.size 5 i0 _ 1 1 Try.underlying22 hi0 hz0 hz1 hz2 rfl (by omega) _ k _ rfl hown2 (some ⟨w1.heap.size, 0, none⟩) 1 1 _ (fun _ => .int .u8 (97 + (x : Int))) rfl (box1_row m1) (fun _ => rfl) ?c1 ?c2 ?c3 ?_)
      case c1 => unfold maxLen; omega
      case c2 => omega
      case c3 => exact hsz
      intro v2 w2 hown3 hg2
      have h3 := Box.grown h2 hg2 (fun e => by have := hbs _ e.symm; omega)
      have hr4 := hr3.grown hg2 hbs
      clear m1 hown2 h2 hr3 hg2 hbs hsz
      go_wp2
      go_roundw
      case rel => exact ⟨k + 1, s2, xs ++ [97 + (x : Int)], by omega, by go_num, by simp [hxl], by simpa using hown3, h3, hs2, hr4⟩
      case measure => simp [intOf]; omega
    · obtain rfl : k = m := by omega
      obtain ⟨hl, hc⟩ := owns_cells hown
      have hcv : (convert 22 9 u5).run Try.prog wr = .ok (.string (strOfNums xs)) wr := by
        rcases hc with ⟨rfl, h0⟩ | ⟨g2, cap, rfl, _, _, hcc⟩
        · have : xs = [] := List.length_eq_zero_iff.1 (by omega)
          subst this
          exact run_convert_bytes_nil _ 22 5 Try.underlying22 Try.underlying5 0 0 9 Try.underlying9
        · exact run_convert_bytes_arg _ 22 5 Try.underlying22 Try.underlying5 g2 0 k cap xs hxl (fun i hi => by
            rw [Nat.zero_add, hcc i hi, List.getElem?_map, List.getElem?_eq_getElem (by omega), List.getD_eq_getElem?_getD, List.getElem?_eq_getElem (by omega)]; rfl) 9 Try.underlying9
      clear hc hl hown
      go_wp2
      go_ret
      exact ⟨_, sd', rfl, by rw [strOfNums_size, hxl], hsrc, hsd, hr⟩

/-- The keeps that a source draws: i more of them. -/
def keepsP (ys : List Nat) : Nat → Nat → Nat → List Bool
  | 0, _, _ => []
  | i + 1, a, sd => decide ((byteP ys a sd).1 % 2 = 1) :: keepsP ys i (byteP ys a sd).2.1 (byteP ys a sd).2.2
/-- The keeps of a code. -/
def keepsOf (ys : List Nat) : List Bool := keepsP ys ((byteP ys 0 (ys.length % 1000)).1 % 4) (byteP ys 0 (ys.length % 1000)).2.1 (byteP ys 0 (ys.length % 1000)).2.2
theorem keepsP_len (ys : List Nat) : ∀ i a sd, (keepsP ys i a sd).length = i
  | 0, _, _ => rfl
  | i + 1, a, sd => by unfold keepsP; rw [List.length_cons, keepsP_len ys i]
theorem keepsOf_len (ys : List Nat) : (keepsOf ys).length < 4 := by unfold keepsOf; rw [keepsP_len]; omega

theorem bl_list (bs : List Bool) : bs.map Value.bool = (List.range bs.length).map (blAt bs) := by
  apply List.ext_getElem?
  intro k
  rw [List.getElem?_map, List.getElem?_map]
  by_cases hk : k < bs.length
  · rw [List.getElem?_range hk, List.getElem?_eq_getElem hk]
    show some (Value.bool bs[k]) = some (Value.bool (bs.getD k false))
    rw [List.getD_eq_getElem?_getD, List.getElem?_eq_getElem hk]; rfl
  · rw [List.getElem?_eq_none (by omega), List.getElem?_eq_none (by simpa using hk)]; rfl
theorem srB_of_owns {w : World} {base : Nat} {v : Value} {bs : List Bool} {n : Nat} (h : w.ownsRow base 4 1 v n (bs.map Value.bool)) : ∃ K kc, v = .slice K n kc ∧ SrB w base w.heap.size K n bs := by
  have hl : bs.length = n := by have := h.1; rw [List.length_map] at this; omega
  rcases Nat.eq_zero_or_pos n with h0 | hp
  · subst h0
    rcases h.2 with ⟨rfl, _⟩ | ⟨g, cap, cur, rfl, _⟩
    · exact ⟨_, _, rfl, hl, fun h => absurd h (by omega)⟩
    · exact ⟨_, _, rfl, hl, fun h => absurd h (by omega)⟩
  · rw [bl_list] at h
    obtain ⟨g, cap, rfl, hb, ho⟩ := own_of_owns h hp (by omega)
    exact ⟨_, _, rfl, hl, fun _ => ⟨g, rfl, hb, ho.lt, ho⟩⟩

set_option maxRecDepth 100000 in
set_option maxHeartbeats 2000000 in
theorem keeps_c (g : Nat) (A : Option Addr) (n c B : Nat) (ys : List Nat) (w : World) (hb : Src w g A n c 0 (n % 1000)) (h : U8s w B A n ys) (hB : B ≤ g) (hn : n ≤ 1048576) :
    Calls Try.prog 51 #[.pointer (some ⟨g, 0, none⟩)] w fun e w' => ∃ (K : Option Addr) (m kc : Nat), e = .returned (.slice K m kc) ∧ SrB w' w.heap.size w'.heap.size K m (keepsOf ys) ∧ Rg g (g + 1) w w' := by
  obtain ⟨i0, hi0, hz0, hz1, hz2⟩ := info_parts info_bool
  have hgl := Box.lt hb
  have m0 := Box.new w 4 #[]
  have hown0 := owns_empty _ w.heap.size 4 1 w.heap.size (Nat.le_refl _) m0
  have hnx0 := (Nx.refl w).alloc (.cells #[] 4)
  have hb0 := Box.nx hb hnx0
  have hu0 := h.below (hnx0.mono (Nat.le_of_lt hgl)) hB
  obtain ⟨b, a', s2, HP⟩ : ∃ b a' s2, byteP ys 0 (n % 1000) = (b, a', s2) := ⟨_, _, _, rfl⟩
  obtain ⟨hb256, rfl, hs2⟩ := byteP_lt h.2.1 (by omega) HP
  have HK := Lib.hid (show keepsOf ys = keepsP ys (b % 4) (0 + 1) s2 by unfold keepsOf; rw [h.1, HP])
  have HH := Lib.hid HP
  clear HP
  go_enter Try.func51, Try.ntmps51
  go_wp2_with fail
  refine (next_c 4 g A n c 0 (n % 1000) B ys b (0 + 1) s2 _ (by omega) (by omega) hb0 hu0 hB hn (by omega) (by omega) HH.out).mono ?_
  rintro e w1 ⟨rfl, h1, hr1⟩
  have hown1 := owns_rg hown0 hr1 (by omega)
  have hr2 := (Rg.of_nx (lo := g) (hi := g + 1) hnx0).trans hr1
  clear hown0 hnx0 hb0 hu0 hb hr1 HH m0
  generalize hx : b % 4 = x at *
  have hx4 : x < 4 := by omega
  clear hx
  go_wp2
  go_loopw [3, 4] (fun out i wr => ∃ (j k a' sd' : Nat) (bs : List Bool), i = .int .i64 j ∧ bs.length = k ∧ k + j ≤ 4 ∧ wr.ownsRow w.heap.size 4 1 out k (bs.map Value.bool) ∧ Src wr g A n c a' sd' ∧ a' + j ≤ 5 ∧ sd' < 2147483648 ∧ keepsOf ys = bs ++ keepsP ys j a' sd' ∧ Rg g (g + 1) w wr) (fun _ i _ => (intOf i).toNat)
  case atStart => exact ⟨x, 0, 0 + 1, s2, [], rfl, rfl, by omega, hown1, h1, by omega, hs2, HK.out, hr2⟩
  case round =>
    obtain ⟨j, k, a', sd', bs, rfl, hbl, hkj, hown, hsrc, ha', hsd, hP, hr⟩ := hrel
    clear hown1 h1 hr2 HK
    have hu := h.rg hr hB (Nat.le_of_lt hgl)
    rcases Nat.eq_zero_or_pos j with hz | hp
    · subst hz
      obtain ⟨K, kc, rfl, hB2⟩ := srB_of_owns hown
      have HF := Lib.hid (show keepsOf ys = bs by rw [hP]; unfold keepsP; rw [List.append_nil])
      clear hP hown hu hsrc
      go_wp2
      go_ret
      exact ⟨K, k, kc, rfl, by rw [HF.out]; exact hB2, hr⟩
    · obtain ⟨j', rfl⟩ : ∃ j', j = j' + 1 := ⟨j - 1, by omega⟩
      obtain ⟨b1, a1, s1, HP⟩ : ∃ b a1 s2, byteP ys a' sd' = (b, a1, s2) := ⟨_, _, _, rfl⟩
      obtain ⟨hb1, rfl, hs1⟩ := byteP_lt h.2.1 hsd HP
      have HF := Lib.hid (show keepsOf ys = (bs ++ [decide (b1 % 2 = 1)]) ++ keepsP ys j' (a' + 1) s1 by rw [hP, List.append_assoc]; rw [keepsP, HP]; rfl)
      have HH := Lib.hid HP
      clear HP hP
      have hd2 : decide (0 < ((j' : Int) + 1)) = true := decide_eq_true (by omega)
      go_wp2_with fail
      refine (chance_c 2 g A n c a' sd' B ys b1 (a' + 1) s1 _ (by omega) (by omega) hsrc hu hB hn (by omega) hsd HH.out).mono ?_
      rintro e w2 ⟨rfl, h2, hr2⟩
      rw [show 2 - 1 = 1 from rfl]
      have hown1 := owns_rg hown hr2 (by omega)
      have hr3 := hr.trans hr2
      clear hown hsrc hr hr2 hu HH
      generalize decide (b1 % 2 = 1) = q at *
      have m1 := Box.new w2 4 #[.bool q]
      have hown2 := hown1.alloc (.cells #[.bool q] 4)
      have h3 := Box.alloc h2 (.cells #[.bool q] 4)
      have hr4 := hr3.trans (Rg.of_nx ((Nx.refl w2).alloc (.cells #[.bool q] 4)))
      have hbs := owns_base hown1
      have hsz := hr4.size
      clear hown1 h2 hr3
      go_wp2_with (at_builtin; refine wpList_append_row rfl (.tmp 12) (.tmp 15) 36 rfl w.heap.size 4 i0 _ 1 1 Try.underlying36 hi0 hz0 hz1 hz2 rfl (by omega) _ k _ rfl hown2 (some ⟨w2.heap.size, 0, none⟩) 1 1 _ (fun _ => .bool q) rfl (box1_row m1) (fun _ => rfl) ?c1 ?c2 ?c3 ?_)
      case c1 => unfold maxLen; omega
      case c2 => omega
      case c3 => exact hsz
      intro v2 w3 hown3 hg2
      have h4 := Box.grown h3 hg2 (fun e => by have := hbs _ e.symm; omega)
      have hr5 := hr4.grown hg2 hbs
      clear m1 hown2 h3 hr4 hg2 hbs hsz
      go_wp2
      go_roundw
      case rel => exact ⟨j', k + 1, a' + 1, s1, bs ++ [q], by go_num, by simp [hbl], by omega, by simpa using hown3, h4, by omega, hs1, HF.out, hr5⟩
      case measure => simp [intOf]
end Go.Proofs.Ytccapcadgjlmkaa
