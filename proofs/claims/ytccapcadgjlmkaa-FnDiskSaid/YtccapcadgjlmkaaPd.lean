/-
  Contracts of the model's drawn disk, text and keeps, of a code.
  Conditions: the code can be read, and holds at most 1048576 bytes.
-/
import Derived.Test.YtccapcadgjlmkaaSrc2
import Derived.Test.YtccapcadgjlmkaaNd
import Derived.Test.YtccapcadgjlmkaaFl
import Derived.Deep.RegionWith
namespace Go.Proofs.Ytccapcadgjlmkaa
set_option linter.unusedVariables false
open Go.RowKit

set_option maxRecDepth 100000 in
set_option maxHeartbeats 2000000 in
theorem keepsOf_c (A : Option Addr) (n c B : Nat) (ys : List Nat) (w : World) (h : U8s w B A n ys) (hB : B ≤ w.heap.size) (hn : n ≤ 1048576) :
    Calls Try.prog 15 #[.slice A n c] w (RetB w (keepsOf ys)) := by
  go_enter Try.func15, Try.ntmps15
  go_wp2_with fail
  refine (l00Source_c A n c _ hn).mono ?_
  rintro e w1 ⟨rfl, hs, hx⟩
  go_wp2_with fail
  refine (keeps_c w.heap.size A n c B ys _ hs (h.below hx hB) hB hn).mono ?_
  rintro e w2 ⟨K, m, kc, rfl, hk, hr⟩
  have hz := hx.size
  go_wp2
  go_ret
  refine ⟨K, m, kc, rfl, ⟨hk.1, fun hm => ?_⟩, Rg.nx_of hx hr (Nat.le_refl _)⟩
  obtain ⟨g, e, h1, h2, h3⟩ := hk.2 hm
  exact ⟨g, e, by omega, h2, h3⟩

set_option maxRecDepth 100000 in
set_option maxHeartbeats 2000000 in
theorem textOf_c (m : Nat) (A : Option Addr) (n c B : Nat) (ys : List Nat) (w : World) (h : U8s w B A n ys) (hB : B ≤ w.heap.size) (hn : n ≤ 1048576) (hm : m ≤ 100) :
    Calls Try.prog 10 #[.slice A n c, .int .i64 m] w fun e w' => ∃ t : ByteArray, e = .returned (.string t) ∧ t.size = m ∧ Nx w w' := by
  go_enter Try.func10, Try.ntmps10
  go_wp2_with fail
  refine (l00Source_c A n c _ hn).mono ?_
  rintro e w1 ⟨rfl, hs, hx⟩
  go_wp2_with fail
  refine (some_c m w.heap.size A n c 0 (n % 1000) B ys _ hs (h.below hx hB) hB hn (by omega) (by omega) hm).mono ?_
  rintro e w2 ⟨t, sd', rfl, ht, hs2, hsd, hr⟩
  go_wp2
  go_ret
  exact ⟨t, rfl, ht, Rg.nx_of hx hr (Nat.le_refl _)⟩

theorem diskB_write {ss : List ByteArray} {ws : List (Int × ByteArray)} {a : Int} {t : ByteArray} (h : diskB ss ws = true) (hl : ws.length < 80) (ha : secB a = true) (ht : t.size ≤ 300) : diskB ss (ws ++ [(a, t)]) = true := by
  obtain ⟨h1, h2, h3, h4⟩ := diskB_len64 h
  refine (diskB_yes h1 (by simp; omega) h3 ?_).symm
  rw [List.all_append, h4]
  simp [wOk, ha, sOk, ht]
theorem settle_sOk {kp : Nat → Bool} {ss : List ByteArray} {ws : List (Int × ByteArray)} (h3 : ss.all sOk = true) (h4 : ws.all wOk = true) : ∀ k, k ≤ ws.length → (settleTo kp ss ws k).all sOk = true
  | 0, _ => h3
  | k + 1, hk => by
    have ih := settle_sOk (kp := kp) h3 h4 k (by omega)
    unfold settleTo
    split
    · rw [List.all_eq_true] at ih ⊢
      intro x hx
      rcases List.mem_or_eq_of_mem_set hx with hm | rfl
      · exact ih x hm
      · rw [List.all_eq_true] at h4
        have hw := h4 _ (List.getElem_mem (show k < ws.length by omega))
        rw [List.getD_eq_getElem?_getD, List.getElem?_eq_getElem (by omega)]
        unfold wOk at hw
        simp only [Bool.and_eq_true] at hw
        exact hw.2
    · exact ih
theorem diskB_settle {kp : Nat → Bool} {ss : List ByteArray} {ws : List (Int × ByteArray)} {k : Nat} (h : diskB ss ws = true) (hk : k ≤ ws.length) : diskB (settleTo kp ss ws k) [] = true := by
  obtain ⟨h1, h2, h3, h4⟩ := diskB_len64 h
  exact (diskB_yes ((settleTo_len _ _ _ _).trans h1) (by simp) (settle_sOk h3 h4 k hk) rfl).symm
theorem diskB_new : diskB noS [] = true := (diskB_yes (by simp [noS]) (by simp) (by simp [noS, sOk]) rfl).symm
theorem box_own {w : World} {g : Nat} {t : TypeId} {cs : Array Value} (h : Box w g t cs) : Own w g t 0 (fun _ => .bool false) := ⟨cs, h, Nat.zero_le _, fun i hi => absurd hi (by omega)⟩
theorem SlS.put {w : World} {lo n gd i : Nat} {A : Option Addr} {ss : List ByteArray} {cs : Array Value} (h : SlS w lo A n ss) (hb : Box w gd 26 cs) (v : Value) : SlS (w.setCell ⟨gd, i, none⟩ v) lo A n ss :=
  ⟨h.1, fun hn => by obtain ⟨g, e, hl, ho⟩ := h.2 hn; exact ⟨g, e, hl, Own.far ho (Own.ne_type (box_own hb) ho (by decide)) v⟩⟩
theorem SlW.put {w : World} {lo n gd i : Nat} {A : Option Addr} {ws : List (Int × ByteArray)} {cs : Array Value} (h : SlW w lo A n ws) (hb : Box w gd 26 cs) (v : Value) : SlW (w.setCell ⟨gd, i, none⟩ v) lo A n ws :=
  ⟨h.1, fun hn => by obtain ⟨g, e, hl, ho⟩ := h.2 hn; exact ⟨g, e, hl, Own.far ho (Own.ne_type (box_own hb) ho (by decide)) v⟩⟩
theorem SlS.rg {w w' : World} {lo n a b : Nat} {A : Option Addr} {ss : List ByteArray} (h : SlS w lo A n ss) (hb : Rg a b w w') (hd : b ≤ lo) : SlS w' lo A n ss := (h.sr.rg hb (.inr hd)).sl
theorem SlW.rg {w w' : World} {lo n a b : Nat} {A : Option Addr} {ws : List (Int × ByteArray)} (h : SlW w lo A n ws) (hb : Rg a b w w') (hd : b ≤ lo) : SlW w' lo A n ws := (h.sr.rg hb (.inr hd)).sl

theorem Rg.setNew {lo hi : Nat} {a w : World} (h : Rg lo hi a w) {p : Addr} (h1 : a.heap.size ≤ p.block) (v : Value) : Rg lo hi a (w.setCell p v) :=
  ⟨h.os, h.tape, h.output, by have := h.size; simp only [World.setCell, Array.size_modify]; exact this, fun k hk hr => (Below.heap_setCell _ _ _ _ (by omega)).trans (h.block k hk hr)⟩

/-- The state of drawing a disk: the source, the disk in its variable, the result's box. -/
def PdSt (w wr : World) (g gd : Nat) (A : Option Addr) (n c j : Nat) : Prop :=
  ∃ (a sd : Nat) (A1 : Option Addr) (c1 : Nat) (A2 : Option Addr) (n2 c2 : Nat) (ss : List ByteArray) (ws : List (Int × ByteArray)),
    Src wr g A n c a sd ∧ a + 9 * j ≤ 80 ∧ sd < 2147483648 ∧ SlS wr w.heap.size A1 64 ss ∧ SlW wr w.heap.size A2 n2 ws ∧ Box wr gd 26 #[.slice A1 64 c1, .slice A2 n2 c2] ∧
    Box wr w.heap.size 26 #[.slice none 0 0, .slice none 0 0] ∧ diskB ss ws = true ∧ n2 + j ≤ 8 ∧ Rg g (g + 1) w wr

set_option maxRecDepth 100000 in
set_option maxHeartbeats 4000000 in
theorem plainDisk_c (g : Nat) (A : Option Addr) (n c B : Nat) (ys : List Nat) (w : World) (hb : Src w g A n c 0 (n % 1000)) (h : U8s w B A n ys) (hB : B ≤ g) (hn : n ≤ 1048576) :
    Calls Try.prog 42 #[.pointer (some ⟨g, 0, none⟩)] w fun e w' => ∃ (A1 : Option Addr) (n1 c1 : Nat) (A2 : Option Addr) (n2 c2 : Nat) (ss : List ByteArray) (ws : List (Int × ByteArray)),
      e = .returned (.agg #[.slice A1 n1 c1, .slice A2 n2 c2]) ∧ SlS w' w.heap.size A1 n1 ss ∧ SlW w' w.heap.size A2 n2 ws ∧ diskB ss ws = true ∧ n2 ≤ 8 ∧ Rg g (g + 1) w w' := by
  have hgl := Box.lt hb
  go_enter Try.func42, Try.ntmps42
  go_wp2_with fail
  have r0 := Box.new w 26 #[.slice none 0 0, .slice none 0 0]
  have hnx0 := (Nx.refl w).alloc (.cells #[.slice none 0 0, .slice none 0 0] 26)
  generalize w.alloc (.cells #[.slice none 0 0, .slice none 0 0] 26) = W at *
  refine (specNewDisk_c _).mono ?_
  rintro e w1 ⟨D1, n1, d1, D2, n2, d2, rfl, dS, dW, hx1⟩
  obtain rfl : 64 = n1 := by have := dS.1; simpa [noS] using this
  obtain rfl : 0 = n2 := dW.1
  have hx1' := hx1.alloc (.cells #[.slice D1 64 d1, .slice D2 0 d2] 26)
  have hx2 := hnx0.trans hx1'
  have b2 := Box.new w1 26 #[.slice D1 64 d1, .slice D2 0 d2]
  have hsz := hnx0.size
  have dS2 := (dS.nx ((Nx.refl w1).alloc (.cells #[.slice D1 64 d1, .slice D2 0 d2] 26))).low hsz
  have dW2 := (dW.nx ((Nx.refl w1).alloc (.cells #[.slice D1 64 d1, .slice D2 0 d2] 26))).low hsz
  have r2 := r0.nx hx1'
  have hb2 := Box.nx hb hx2
  have hgd : w.heap.size < w1.heap.size := Nat.lt_of_lt_of_le r0.lt hx1.size
  go_wp2_with fail
  generalize w1.alloc (.cells #[.slice D1 64 d1, .slice D2 0 d2] 26) = w2 at *
  have hu := h.below (hx2.mono (Nat.le_of_lt hgl)) hB
  obtain ⟨b, a', s2, HP⟩ : ∃ b a' s2, byteP ys 0 (n % 1000) = (b, a', s2) := ⟨_, _, _, rfl⟩
  obtain ⟨hb256, rfl, hs2⟩ := byteP_lt h.2.1 (by omega) HP
  refine (next_c 9 g A n c 0 (n % 1000) B ys b (0 + 1) s2 _ (by omega) (by omega) hb2 hu hB hn (by omega) (by omega) HP).mono ?_
  rintro e w3 ⟨rfl, h3, hr3⟩
  clear HP
  have hr4 := (Rg.of_nx (lo := g) (hi := g + 1) hx2).trans hr3
  have start : PdSt w w3 g w1.heap.size A n c (b % 9) := ⟨0 + 1, s2, D1, d1, D2, 0, d2, noS, [], h3, by omega, hs2, dS2.rg hr3 (by omega), dW2.rg hr3 (by omega), b2.rg hr3 (.inr (by omega)), r2.rg hr3 (.inr (by omega)), diskB_new, by omega, hr4⟩
  generalize hx : b % 9 = x at *
  have hx9 : x < 9 := by omega
  clear hx r0 hnx0 dS dW hx1 hx1' hx2 b2 dS2 dW2 r2 hb2 hu h3 hr3 hr4 hb
  generalize w1.heap.size = gd at *
  go_wp2
  go_loopw [4] (fun i wr => ∃ j : Nat, i = .int .i64 j ∧ PdSt w wr g gd A n c j) (fun i _ => (intOf i).toNat)
  case atStart => exact ⟨x, rfl, start⟩
  case round =>
    obtain ⟨j, rfl, a, sd, A1, c1, A2, n2, c2, ss, ws, hsrc, haj, hsd, hS, hW, hbd, hbr, hok, hnj, hr⟩ := hrel
    clear start
    have hu := h.rg hr hB (Nat.le_of_lt hgl)
    rcases Nat.eq_zero_or_pos j with hz | hp
    · subst hz
      have HO := Lib.hid hok
      have c0 := hbd.c0
      have c1_ := hbd.c1
      have hwr := hr.size
      clear hok hu
      go_wp2_with fail
      refine (l01Own_c A1 A2 64 c1 n2 c2 _ ss ws _ hS.strs hW.wrs (Nat.le_refl _) (by omega) (by omega)).mono ?_
      rintro e w5 ⟨A5, n5, c5, A6, n6, c6, rfl, oS, oW, ox⟩
      obtain rfl : 64 = n5 := hS.1.symm.trans oS.1
      obtain rfl : n2 = n6 := hW.1.symm.trans oW.1
      have er := hbr.nx ox
      have eS := (oS.low hwr).put er (i := 0) (.slice A5 64 c5)
      have eW := (oW.low hwr).put er (i := 0) (.slice A5 64 c5)
      have er1 := er.set0 (.slice A5 64 c5)
      have fS := eS.put er1 (i := 1) (.slice A6 n2 c6)
      have fW := eW.put er1 (i := 1) (.slice A6 n2 c6)
      have er2 := er1.set1 (.slice A6 n2 c6)
      have frg := ((hr.trans (Rg.of_nx ox)).setNew (p := ⟨w.heap.size, 0, none⟩) (Nat.le_refl _) (.slice A5 64 c5)).setNew (p := ⟨w.heap.size, 1, none⟩) (Nat.le_refl _) (.slice A6 n2 c6)
      have s0 := er.c0
      have s1 := er.c1
      have f0 := er.frozen 0
      have f1 := er.frozen 1
      have q0 := er2.c0
      have q1 := er2.c1
      clear c0 c1_ oS oW ox eS eW er1 hbr hbd hS hW hsrc hr
      go_wp2
      generalize (w5.setCell ⟨w.heap.size, 0, none⟩ (.slice A5 64 c5)).setCell ⟨w.heap.size, 1, none⟩ (.slice A6 n2 c6) = Wf at *
      exact bodyPost_ret (v := .agg #[.slice A5 64 c5, .slice A6 n2 c6]) (by simp [results, Try.results42, go_sem, q0, q1]) rfl ⟨A5, 64, c5, A6, n2, c6, ss, ws, rfl, fS, fW, HO.out, by omega, frg⟩
    · obtain ⟨j', rfl⟩ : ∃ j', j = j' + 1 := ⟨j - 1, by omega⟩
      have hd2 : decide (0 < ((j' : Int) + 1)) = true := decide_eq_true (by omega)
      obtain ⟨b1, a1, s1, HP1⟩ : ∃ b a1 s, byteP ys a sd = (b, a1, s) := ⟨_, _, _, rfl⟩
      obtain ⟨hb1, rfl, hs1⟩ := byteP_lt h.2.1 hsd HP1
      obtain ⟨b2, a2, s2, HP2⟩ : ∃ b a1 s, byteP ys (a + 1) s1 = (b, a1, s) := ⟨_, _, _, rfl⟩
      obtain ⟨hb2, rfl, hs2⟩ := byteP_lt h.2.1 hs1 HP2
      have H1 := Lib.hid HP1
      have H2 := Lib.hid HP2
      clear HP1 HP2
      have hwr := hr.size
      have rd : Nx wr wr.drew := (Nx.refl wr).drew
      have dsrc : Src wr.drew g A n c a sd := hsrc
      have du := hu.below rd (show B ≤ wr.heap.size by omega)
      have dS := hS.nx rd
      have dW := hW.nx rd
      have dd : Box wr.drew gd 26 #[.slice A1 64 c1, .slice A2 n2 c2] := hbd
      have dr : Box wr.drew w.heap.size 26 #[.slice none 0 0, .slice none 0 0] := hbr
      have drg : Rg g (g + 1) w wr.drew := hr.trans (Rg.of_nx rd)
      have c0 := dd.c0
      have c1_ := dd.c1
      have hgg : g + 1 ≤ gd := by omega
      have hl : g ≤ wr.drew.heap.size := by have := rd.size; omega
      go_wp2_with fail
      go_region_with (first
          | (go_at_call 82; refine (l01Write_c A1 A2 64 c1 n2 c2 _ ws ((b1 % 6 : Nat) : Int) t _ (dW.rg qr13 (by omega)).wrs (Nat.le_refl _) (by omega)).mono ?_; rintro e v4 ⟨A5, n5, c5, rfl, wW, qx4⟩; have o0 := ((dd.rg qr13 (.inr hgg)).nx qx4).c0; have o1 := ((dd.rg qr13 (.inr hgg)).nx qx4).c1; have p0 := ((dd.rg qr13 (.inr hgg)).nx qx4).frozen 0; have p1 := ((dd.rg qr13 (.inr hgg)).nx qx4).frozen 1)
          | (go_at_call 43; refine (some_c (b2 % 7) g A n c (a + 1 + 1) s2 B ys _ q2 (du.rg qr12 hB hl) hB hn (by omega) hs2 (by omega)).mono ?_; rintro e v3 ⟨t, s3, rfl, ht, q3, hs3, qr3⟩; have qr13 := qr12.trans qr3; have m0 := (dd.rg qr13 (.inr hgg)).c0; have m1 := (dd.rg qr13 (.inr hgg)).c1)
          | (go_at_call 81; refine (next_c 7 g A n c (a + 1) s1 B ys b2 (a + 1 + 1) s2 _ (by omega) (by omega) q1 (du.rg qr1 hB hl) hB hn (by omega) hs1 H2.out).mono ?_; rintro e v2 ⟨rfl, q2, qr2⟩; have qr12 := qr1.trans qr2; have l0 := (dd.rg qr12 (.inr hgg)).c0; have l1 := (dd.rg qr12 (.inr hgg)).c1)
          | (go_at_call 81; refine (next_c 6 g A n c a sd B ys b1 (a + 1) s1 _ (by omega) (by omega) dsrc du hB hn (by omega) hsd H1.out).mono ?_; rintro e v1 ⟨rfl, q1, qr1⟩; have k0 := (dd.rg qr1 (.inr hgg)).c0; have k1 := (dd.rg qr1 (.inr hgg)).c1))
      all_goals (
        obtain rfl : n2 + 1 = n5 := by have := wW.1; rw [List.length_append, hW.1] at this; exact this
        have e3 := Box.nx q3 qx4
        have eS := (dS.rg qr13 (by omega)).nx qx4
        have hv3 := (drg.trans qr13).size
        have eW := wW.low hv3
        have eb := (dd.rg qr13 (.inr hgg)).nx qx4
        have er := (dr.rg qr13 (.inr (by omega))).nx qx4
        have erg := drg.trans (qr13.trans (Rg.of_nx qx4))
        have hok' := Lib.hid (diskB_write (a := ((b1 % 6 : Nat) : Int)) (t := t) hok (by have := hW.1; omega) (by unfold secB; simp; omega) (by omega))
        have hal : a + 1 + 1 + b2 % 7 + 9 * j' ≤ 79 := by omega
        clear k0 k1 l0 l1 m0 m1 q1 q2 q3 qr1 qr2 qr12 qr3 qr13 wW qx4 dS dW dd dr drg dsrc du c0 c1_ hS hW hbd hbr hsrc hr hu H1 H2 hok rd hl
        have fS := (eS.put eb (i := 0) (.slice A1 64 c1)).put (eb.set0 (.slice A1 64 c1)) (i := 1) (.slice A5 (n2 + 1) c5)
        have fW := (eW.put eb (i := 0) (.slice A1 64 c1)).put (eb.set0 (.slice A1 64 c1)) (i := 1) (.slice A5 (n2 + 1) c5)
        have fb := (eb.set0 (.slice A1 64 c1)).set1 (.slice A5 (n2 + 1) c5)
        have fr := (er.far (p := ⟨gd, 0, none⟩) (by simp; omega) (.slice A1 64 c1)).far (p := ⟨gd, 1, none⟩) (by simp; omega) (.slice A5 (n2 + 1) c5)
        have fsrc := (Box.far e3 (p := ⟨gd, 0, none⟩) (by simp; omega) (.slice A1 64 c1)).far (p := ⟨gd, 1, none⟩) (by simp; omega) (.slice A5 (n2 + 1) c5)
        have frg := (erg.setNew (p := ⟨gd, 0, none⟩) (by simp; omega) (.slice A1 64 c1)).setNew (p := ⟨gd, 1, none⟩) (by simp; omega) (.slice A5 (n2 + 1) c5)
        clear e3 eS eW eb er erg o0 o1 p0 p1
        generalize (v4.setCell ⟨gd, 0, none⟩ (.slice A1 64 c1)).setCell ⟨gd, 1, none⟩ (.slice A5 (n2 + 1) c5) = v5 at *
        have fu := h.rg frg hB (Nat.le_of_lt hgl)
        obtain ⟨b4, a4, s4, HP4⟩ : ∃ b a1 s, byteP ys (a + 1 + 1 + b2 % 7) s3 = (b, a1, s) := ⟨_, _, _, rfl⟩
        obtain ⟨hb4, rfl, hs4⟩ := byteP_lt h.2.1 hs3 HP4
        have H4 := Lib.hid HP4
        clear HP4
        go_wp2_with fail
        refine (chance_c 4 g A n c (a + 1 + 1 + b2 % 7) s3 B ys b4 (a + 1 + 1 + b2 % 7 + 1) s4 _ (by omega) (by omega) fsrc fu hB hn (by omega) hs3 H4.out).mono ?_
        rintro e v6 ⟨rfl, gsrc, gr⟩
        have gS := fS.rg gr (by omega)
        have gW := fW.rg gr (by omega)
        have gb := fb.rg gr (.inr (by omega))
        have gbr := fr.rg gr (.inr (by omega))
        have grg := frg.trans gr
        have hv6 := grg.size
        clear fS fW fb fr fsrc frg fu H4 gr
        generalize decide (b4 % 4 = 4 - 1) = q
        cases q with
        | false =>
          go_wp2
          go_roundw
          case rel => exact ⟨j', by go_num, _, s4, A1, c1, A5, n2 + 1, c5, ss, _, gsrc, by omega, hs4, gS, gW, gb, gbr, hok'.out, by omega, grg⟩
          case measure => simp [intOf]
        | true =>
          have c0 := gb.c0
          have c1_ := gb.c1
          have HA := Lib.hid (diskB_len64 hok'.out).2.2.2
          go_wp2_with fail
          refine (l01Flush_c A1 A5 c1 (n2 + 1) c5 _ ss _ _ gS.strs gW.wrs (Nat.le_refl _) (by omega) HA.out).mono ?_
          rintro e v7 ⟨A7, n7, c7, A8, n8, c8, rfl, iS, iW, ix⟩
          have HS := Lib.hid (diskB_settle (kp := kpAll) (k := n2 + 1) hok'.out (by rw [gW.1]; exact Nat.le_refl _))
          obtain rfl : 64 = n7 := by have := iS.1; rw [settleTo_len, gS.1] at this; exact this
          obtain rfl : 0 = n8 := iW.1
          have jb := gb.nx ix
          have jS := ((iS.low hv6).put jb (i := 0) (.slice A7 64 c7)).put (jb.set0 (.slice A7 64 c7)) (i := 1) (.slice A8 0 c8)
          have jW := ((iW.low hv6).put jb (i := 0) (.slice A7 64 c7)).put (jb.set0 (.slice A7 64 c7)) (i := 1) (.slice A8 0 c8)
          have kb := (jb.set0 (.slice A7 64 c7)).set1 (.slice A8 0 c8)
          have kr := ((gbr.nx ix).far (p := ⟨gd, 0, none⟩) (by simp; omega) (.slice A7 64 c7)).far (p := ⟨gd, 1, none⟩) (by simp; omega) (.slice A8 0 c8)
          have ksrc := (Box.far (Box.nx gsrc ix) (p := ⟨gd, 0, none⟩) (by simp; omega) (.slice A7 64 c7)).far (p := ⟨gd, 1, none⟩) (by simp; omega) (.slice A8 0 c8)
          have krg := ((grg.trans (Rg.of_nx ix)).setNew (p := ⟨gd, 0, none⟩) (by simp; omega) (.slice A7 64 c7)).setNew (p := ⟨gd, 1, none⟩) (by simp; omega) (.slice A8 0 c8)
          clear c0 c1_ gS gW gbr gsrc grg iS iW ix HA hok' gb
          have c0 := jb.c0
          have c1_ := jb.c1
          have f0 := jb.frozen 0
          have f1 := jb.frozen 1
          go_wp2
          go_roundw
          case rel => exact ⟨j', by go_num, _, s4, A7, c7, A8, 0, c8, _, _, ksrc, by omega, hs4, jS, jW, kb, kr, HS.out, by omega, krg⟩
          case measure => simp [intOf])
end Go.Proofs.Ytccapcadgjlmkaa
