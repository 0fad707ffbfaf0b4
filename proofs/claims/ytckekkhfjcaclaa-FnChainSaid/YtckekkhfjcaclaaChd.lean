/-
  Drawn chains: each segment goes on from the content ahead of it.
  Conditions: the code and the content can be read; the code holds at most 1048576 bytes.
-/
import Derived.Test.YtckekkhfjcaclaaRgs
namespace Go.Proofs.Ytckekkhfjcaclaa
set_option linter.unusedVariables false
open Go.RowKit
theorem chanceR_c (m g : Nat) (A : Option Addr) (n c k B : Nat) (ys : List Nat) (w : World) (hm : 2 ≤ m) (hm2 : m ≤ 256) (hb : SrcR w g A n c k) (h : U8s w B A n ys) (hB : B ≤ g) (hn : n ≤ 1048576) (hk : k + 3 ≤ 1048576) :
    Calls Try.prog 74 #[.pointer (some ⟨g, 0, none⟩), .int .i64 m] w fun e w' => ∃ q : Bool, e = .returned (.bool q) ∧ SrcR w' g A n c (k + 3) ∧ Rg g (g + 1) w w' := by
  obtain ⟨a, sd, h1, h2, h3⟩ := hb
  obtain ⟨⟨b, a', sd'⟩, HP⟩ : ∃ x, byteP ys a sd = x := ⟨_, rfl⟩
  obtain ⟨k1, k2, k3⟩ := byteP_lt h.2.1 h2 HP
  exact (chance_c m g A n c a sd B ys b a' sd' w hm hm2 h3 h hB hn (by omega) h2 HP).mono fun e w' ⟨he, hs, hr⟩ => ⟨_, he, ⟨a', sd', by omega, k3, hs⟩, hr⟩
theorem SrcR.grew {w w' : World} {B : Nat} {g n c k : Nat} {A : Option Addr} (h : SrcR w g A n c k) (hb : GrewS B w w') : SrcR w' g A n c k := by
  obtain ⟨a, sd, h1, h2, h3⟩ := h
  unfold Src at h3
  exact ⟨a, sd, h1, h2, hb.box _ _ _ (by decide) h3⟩
/-- The state of the loop. -/
structure Cst (g : Nat) (A : Option Addr) (n c k0 : Nat) (w : World) (base : Nat) (c0 : List Int) (cnt tm : Nat) (gs : List SgR) (Ac : Option Addr) (x : List Int) (u : Value) (wr : World) : Prop where
  tm_ : tm ≤ 20 + 9 * cnt
  con : CI wr g w.heap.size Ac x
  row : RowS wr w.heap.size u gs
  cho : ChO wr w.heap.size gs
  chn : ChI (base : Int) c0 gs
  end_ : atK (base : Int) gs gs.length = ((base + cnt : Nat) : Int)
  tme : tmK gs gs.length ≤ (tm : Int)
  cte : ctK c0 gs gs.length = x
  len : gs.length ≤ cnt
  src : SrcR wr g A n c (k0 + 6 + 12 * cnt)
  rg : Rg g (g + 1) w wr
theorem snoc_cases (gs : List SgR) : gs = [] ∨ ∃ gs0 y, gs = gs0 ++ [y] := by
  rcases List.eq_nil_or_concat gs with h | ⟨L, b, h⟩
  · exact .inl h
  · exact .inr ⟨L, b, by simpa using h⟩
/-- What of the state speaks of no memory. -/
abbrev Cvs (base : Nat) (c0 : List Int) (cnt tm : Nat) (gs : List SgR) (x : List Int) : Prop :=
  tm ≤ 20 + 9 * cnt ∧ ChI (base : Int) c0 gs ∧ atK (base : Int) gs gs.length = ((base + cnt : Nat) : Int) ∧ tmK gs gs.length ≤ (tm : Int) ∧ ctK c0 gs gs.length = x ∧ gs.length ≤ cnt
theorem Cvs.add {base : Nat} {c0 : List Int} {cnt tm : Nat} {gs : List SgR} {x : List Int} (h : Cvs base c0 cnt tm gs x) (hcx : contB x = true) {q dt tm2 b v : Nat} {o : Int} (A6 : Option Addr) (c6 : Nat) (hq : base + cnt = q) (ht : tm + dt = tm2) (hdt : dt < 9) (hq9 : q ≤ 40) (htm2 : tm2 ≤ 300) (hb : b < 8) (hv : v < 90) (ho : x.getD b 0 = o) :
    Cvs base c0 (cnt + 1) tm2 (gs ++ [⟨(q : Int), (q : Int) + 1, (tm2 : Int), A6, c6, [((b : Int), (v : Int), o)]⟩]) (app pN x [((b : Int), (v : Int), o)]) := by
  obtain ⟨h1, h2, h3, h4, h5, h6⟩ := h
  have hov := (contB_yes hcx).2 b hb
  rw [ho] at hov
  have L : Lk (base : Int) c0 gs gs.length ⟨(q : Int), (q : Int) + 1, (tm2 : Int), A6, c6, [((b : Int), (v : Int), o)]⟩ := ⟨segB_mk (by show (0 : Int) ≤ (q : Int); omega) (by show (q : Int) < (q : Int) + 1; omega) (by show (q : Int) + 1 ≤ 999999; omega) (inB_mk (by show (0 : Int) ≤ (tm2 : Int); omega) (by show (tm2 : Int) ≤ 999999; omega)) (ch_one (chB_mk (by omega) (by omega) (by omega) (by omega) hov.1 hov.2)),
    by show (q : Int) = _; rw [h3, hq], by show _ ≤ (tm2 : Int); omega, by rw [h5, ← ho]; exact fits_one x b v⟩
  obtain ⟨e1, e2, e3⟩ := end_snoc (base : Int) c0 gs ⟨(q : Int), (q : Int) + 1, (tm2 : Int), A6, c6, [((b : Int), (v : Int), o)]⟩
  have hl : ∀ z : SgR, (gs ++ [z]).length = gs.length + 1 := fun z => by simp
  refine ⟨by omega, h2.snoc L, ?_, ?_, ?_, by rw [hl]; omega⟩
  · rw [hl, e1]; show (q : Int) + 1 = _; omega
  · rw [hl, e2]; show (tm2 : Int) ≤ _; omega
  · rw [hl, e3, h5]
theorem Cvs.mrg {base : Nat} {c0 : List Int} {cnt tm : Nat} {gs : List SgR} {y : SgR} {x : List Int} (h : Cvs base c0 cnt tm (gs ++ [y]) x) (hcont : contB c0 = true) {q dt tm2 b v : Nat} {o : Int} (A6 : Option Addr) (c6 : Nat) (hq : base + cnt = q) (ht : tm + dt = tm2) (hdt : dt < 9) (hq9 : q ≤ 40) (htm2 : tm2 ≤ 300) (hb : b < 8) (hv : v < 90) (ho : x.getD b 0 = o) :
    Cvs base c0 (cnt + 1) tm2 (gs ++ [⟨y.f, (q : Int) + 1, (tm2 : Int), A6, c6, mrgC y.cs [((b : Int), (v : Int), o)]⟩]) (app pN x [((b : Int), (v : Int), o)]) := by
  obtain ⟨h1, h2, h3, h4, h5, h6⟩ := h
  have hl : ∀ z : SgR, (gs ++ [z]).length = gs.length + 1 := fun z => by simp
  obtain ⟨y1, y2, y3⟩ := end_snoc (base : Int) c0 gs y
  rw [hl] at h3 h4 h5 h6
  rw [y1] at h3
  rw [y2] at h4
  rw [y3] at h5
  obtain ⟨hi, hL⟩ := h2.init
  have hc0 := hi.cont hcont gs.length (Nat.le_refl _)
  have hsr := segB_range hL.seg
  have hf0 := inB_yes hsr.1
  obtain ⟨m1, m2, m3⟩ := mrg_one hc0 (segB_chs hL.seg) hL.fit hb (v := (v : Int)) (o := o) (by omega) (by omega) (by rw [h5]; exact ho)
  have hym : tmK gs gs.length ≤ (tm2 : Int) := by have := hL.tm; omega
  have L : Lk (base : Int) c0 gs gs.length ⟨y.f, (q : Int) + 1, (tm2 : Int), A6, c6, mrgC y.cs [((b : Int), (v : Int), o)]⟩ :=
    ⟨segB_mk hf0.1 (by show y.f < (q : Int) + 1; have := hsr.2.2.2; omega) (by show (q : Int) + 1 ≤ 999999; omega) (inB_mk (by show (0 : Int) ≤ (tm2 : Int); omega) (by show (tm2 : Int) ≤ 999999; omega)) m1, hL.at_, hym, m3⟩
  obtain ⟨e1, e2, e3⟩ := end_snoc (base : Int) c0 gs ⟨y.f, (q : Int) + 1, (tm2 : Int), A6, c6, mrgC y.cs [((b : Int), (v : Int), o)]⟩
  refine ⟨by omega, hi.snoc L, ?_, ?_, ?_, by rw [hl]; omega⟩
  · rw [hl, e1]; show (q : Int) + 1 = _; omega
  · rw [hl, e2]; show (tm2 : Int) ≤ _; omega
  · rw [hl, e3]
    show app pN (ctK c0 gs gs.length) (mrgC y.cs [((b : Int), (v : Int), o)]) = _
    rw [m2, h5]
theorem Cst.of {g : Nat} {A : Option Addr} {n c k0 : Nat} {w : World} {base : Nat} {c0 : List Int} {cnt tm : Nat} {gs : List SgR} {Ac : Option Addr} {x : List Int} {u : Value} {wr : World} (V : Cvs base c0 cnt tm gs x) (con : CI wr g w.heap.size Ac x) (row : RowS wr w.heap.size u gs) (cho : ChO wr w.heap.size gs) (src : SrcR wr g A n c (k0 + 6 + 12 * cnt)) (rg : Rg g (g + 1) w wr) :
    Cst g A n c k0 w base c0 cnt tm gs Ac x u wr := ⟨V.1, con, row, cho, V.2.1, V.2.2.1, V.2.2.2.1, V.2.2.2.2.1, V.2.2.2.2.2, src, rg⟩
set_option maxRecDepth 100000 in
set_option maxHeartbeats 8000000 in
theorem chain_c (g : Nat) (A : Option Addr) (n c B k0 base : Nat) (ys : List Nat) (Ac0 : Option Addr) (cc0 : Nat) (c0 : List Int) (w : World) (hb : SrcR w g A n c k0) (h : U8s w B A n ys) (hB : B ≤ g) (hn : n ≤ 1048576) (hk0 : k0 ≤ 1000000) (hc : Ins w g Ac0 c0) (hcont : contB c0 = true) (hbase : base ≤ 20) :
    Calls Try.prog 45 #[.pointer (some ⟨g, 0, none⟩), .int .i64 (base : Int), .slice Ac0 8 cc0, .int .i64 9] w fun e w' =>
      ∃ A' c' gs, e = .returned (.slice A' gs.length c') ∧ gs.length ≤ 9 ∧ SgO w' w.heap.size A' gs ∧ ChI (base : Int) c0 gs ∧ atK (base : Int) gs gs.length ≤ 40 ∧ tmK gs gs.length ≤ 200 ∧ Rg g (g + 1) w w' := by
  have hz0 := hb.lt
  have hrow0 := RowS.new w (Nat.le_refl _)
  have hx0 := (Nx.refl w).alloc (.cells #[] 31)
  have hs0 := hb.nx hx0
  have hr0 : Rg g (g + 1) w (w.alloc (.cells #[] 31)) := Rg.of_nx hx0
  have hz1 : w.heap.size < (w.alloc (.cells #[] 31)).heap.size := by simp
  go_enter Try.func45, Try.ntmps45
  go_wp2_with fail
  generalize w.alloc (.cells #[] 31) = W at *
  refine (nextR_c 20 g A n c k0 B ys _ (by omega) (by omega) hs0 (h.rg hr0 hB (Nat.le_of_lt hz0)) hB hn (by omega)).mono ?_
  rintro e w1 ⟨tm0, rfl, htm0, hs1, hr1⟩
  replace hrow0 := hrow0.rg hr1 (by omega)
  replace hr0 := hr0.trans hr1
  clear hs0 hr1 hx0
  go_wp2_with fail
  refine (nextR_c 10 g A n c (k0 + 3) B ys _ (by omega) (by omega) hs1 (h.rg hr0 hB (Nat.le_of_lt hz0)) hB hn (by omega)).mono ?_
  rintro e w2 ⟨r0, rfl, hr10, hs2, hr1⟩
  replace hrow0 := hrow0.rg hr1 (by omega)
  replace hr0 := hr0.trans hr1
  clear hs1 hr1
  have hst : Cst g A n c k0 w base c0 0 tm0 [] Ac0 c0 (.slice (some ⟨w.heap.size, 0, none⟩) 0 0) w2 :=
    ⟨by omega, .inl (hc.below (hr0.below (Nat.le_of_lt hz0)) (Nat.le_refl _)), hrow0, fun k hk => absurd hk (by simp), ChI.nil _ _, rfl, by show (0 : Int) ≤ _; omega, rfl, Nat.le_refl _, hs2.more (by omega), hr0⟩
  clear hrow0 hs2 hr0 hc
  go_wp2_with fail
  go_loopw [2, 9, 10, 11, 12] (fun cv ov av tv iv wr => ∃ (cnt r tm : Nat) (gs : List SgR) (Ac : Option Addr) (cc : Nat) (x : List Int), cnt + r ≤ 9 ∧ iv = .int .i64 r ∧ av = .int .i64 ((base + cnt : Nat) : Int) ∧ tv = .int .i64 tm ∧ cv = .slice Ac 8 cc ∧ ∃ u, u = ov ∧ Cst g A n c k0 w base c0 cnt tm gs Ac x u wr) (fun _ _ _ _ iv _ => (intOf iv).toNat)
  case atStart => exact ⟨0, r0, tm0, [], Ac0, cc0, c0, by omega, rfl, rfl, rfl, rfl, _, rfl, hst⟩
  case round =>
    obtain ⟨cnt, r, tm, gs, Ac, cc, x, hcr, rfl, rfl, rfl, rfl, u, rfl, st⟩ := hrel
    clear hst
    rcases Nat.eq_zero_or_pos r with hr00 | hrp
    · subst hr00
      obtain ⟨A', c', e, hS⟩ := st.row.sgo st.cho
      subst e
      go_wp2
      go_ret
      exact ⟨A', c', gs, rfl, by have := st.len; omega, hS, st.chn, by rw [st.end_]; omega, by have := st.tme; have := st.tm_; omega, st.rg⟩
    have hrd : decide (0 < r) = true := by simp; omega
    obtain ⟨Au, cu, hu, _⟩ := st.row.sl
    subst hu
    have hX := st.rg
    have hs := st.src
    have hcon := st.con
    have hrow := st.row
    have hcho := st.cho
    have hzg : g < wr.heap.size := hs.lt
    have hgw : g + 1 ≤ w.heap.size := hz0
    have hcx : contB x = true := by rw [← st.cte]; exact st.chn.cont hcont _ (Nat.le_refl _)
    have h8 := (contB_yes hcx).1
    have H8 := Lib.hid h8
    have ST := Lib.hid (And.intro st.tm_ (And.intro st.chn (And.intro st.end_ (And.intro st.tme (And.intro st.cte st.len)))))
    obtain ⟨q, Hq⟩ : ∃ q : Nat, Hid (base + cnt = q) := ⟨_, rfl⟩
    rw [Hq.out]
    have hq9 : q ≤ 40 := by have := Hq.out; omega
    have htm9 : tm ≤ 200 := by have := st.tm_; omega
    have hl9 : gs.length ≤ 9 := by have := st.len; omega
    clear st h8
    go_wp2_with fail
    refine (nextR_c 9 g A n c (k0 + 6 + 12 * cnt) B ys _ (by omega) (by omega) hs (h.rg hX hB (Nat.le_of_lt hz0)) hB hn (by omega)).mono ?_
    rintro e w3 ⟨dt, rfl, hdt, hs', hr⟩
    replace hcon := hcon.rg hr (Nat.le_of_lt hs.lt) hgw
    replace hrow := hrow.rg hr hgw
    replace hcho := hcho.rg hr hgw
    replace hX := hX.trans hr
    replace hs := hs'
    clear hr hs'
    obtain ⟨tm2, Htm2⟩ : ∃ q : Nat, Hid (tm + dt = q) := ⟨_, rfl⟩
    have htm2 : tm2 ≤ 300 := by have := Htm2.out; omega
    go_wp2_with fail
    refine (nextR_c 8 g A n c (k0 + 6 + 12 * cnt + 3) B ys _ (by omega) (by omega) hs (h.rg hX hB (Nat.le_of_lt hz0)) hB hn (by omega)).mono ?_
    rintro e w4 ⟨b, rfl, hb8, hs', hr⟩
    replace hcon := hcon.rg hr (Nat.le_of_lt hs.lt) hgw
    replace hrow := hrow.rg hr hgw
    replace hcho := hcho.rg hr hgw
    replace hX := hX.trans hr
    replace hs := hs'
    clear hr hs'
    go_wp2_with fail
    refine (nextR_c 90 g A n c (k0 + 6 + 12 * cnt + 3 + 3) B ys _ (by omega) (by omega) hs (h.rg hX hB (Nat.le_of_lt hz0)) hB hn (by omega)).mono ?_
    rintro e w5 ⟨v, rfl, hv90, hs', hr⟩
    replace hcon := hcon.rg hr (Nat.le_of_lt hs.lt) hgw
    replace hrow := hrow.rg hr hgw
    replace hcho := hcho.rg hr hgw
    replace hX := hX.trans hr
    replace hs := hs'
    clear hr hs'
    go_wp2_with fail
    rw [show (tm : Int) + (dt : Int) = (tm2 : Int) by rw [← Htm2.out]; omega]
    have hof := l03Of_c Ac cc _ b x ((q : Int) + 1) (v : Int) (tm2 : Int) w5 (hcon.ins (Nat.le_of_lt hs.lt)) (Nat.le_refl _) (by rw [H8.out]; exact hb8) (by rw [H8.out]; omega) (by omega) (by omega)
    rw [H8.out] at hof
    refine hof.mono ?_
    clear hof
    rintro e w6 ⟨A6, c6, rfl, hS6, hx6⟩
    replace hS6 : Sl w6 w5.heap.size A6 45 (1 * 3) (chAt [((b : Int), (v : Int), x.getD b 0)]) := hS6
    rw [show (q : Int) + 1 - 1 = (q : Int) by omega]
    replace hcon := hcon.nx hx6 (Nat.le_of_lt hs.lt)
    replace hrow := hrow.nx hx6
    replace hcho := hcho.nx hx6
    replace hs := hs.nx hx6
    have zx6 := hx6.size
    have zw5 : w.heap.size ≤ w5.heap.size := hX.size
    replace hX := hX.trans (Rg.of_nx hx6)
    replace hS6 := hS6.low (lo' := w.heap.size) zw5
    clear hx6 zx6
    obtain ⟨o, Ho⟩ : ∃ o, Hid (x.getD b 0 = o) := ⟨_, rfl⟩
    rw [Ho.out] at hS6
    have hov := (contB_yes hcx).2 b hb8
    rw [Ho.out] at hov
    have hok : chsB [((b : Int), (v : Int), o)] = true := ch_one (chB_mk (by omega) (by omega) (by omega) (by omega) hov.1 hov.2)
    have hgr6 : ∀ gr, Au = some ⟨gr, 0, none⟩ → 0 < gs.length → gr < w6.heap.size := fun gr e h0 => by
      obtain ⟨A', c', e1, hsl⟩ := hrow.sl
      injection e1 with e2 _ _
      subst e2
      obtain ⟨g', e3, _, ho⟩ := hsl (by omega)
      rw [e] at e3
      injection e3 with e3
      injection e3 with e3
      subst e3
      exact ho.lt
    go_wp2_with fail
    have bG := Box.new w6 31 #[.int .i64 (q : Int), .int .i64 ((q : Int) + 1), .int .i64 (tm2 : Int), .slice A6 1 c6]
    have hxa := (Nx.refl w6).alloc (.cells #[.int .i64 (q : Int), .int .i64 ((q : Int) + 1), .int .i64 (tm2 : Int), .slice A6 1 c6] 31)
    generalize hWa : w6.alloc (.cells #[.int .i64 (q : Int), .int .i64 ((q : Int) + 1), .int .i64 (tm2 : Int), .slice A6 1 c6] 31) = W6 at *
    clear hWa
    have zhxa := hxa.size
    replace hrow := hrow.nx hxa
    replace hcho := hcho.nx hxa
    have hzW : w.heap.size ≤ w6.heap.size := hX.size
    replace hcon := hcon.nx hxa (Nat.le_of_lt hs.lt)
    replace hs := hs.nx hxa
    replace hX := hX.trans (Rg.of_nx hxa)
    replace hS6 := hS6.nx hxa
    clear hxa
    have hfw := l03Forward_c Ac cc _ x (q : Int) ((q : Int) + 1) (tm2 : Int) A6 c6 [((b : Int), (v : Int), o)] W6 (hcon.ins (Nat.le_of_lt hs.lt)) hS6.row (Nat.le_refl _) hok H8.out
    rw [H8.out] at hfw
    refine hfw.mono ?_
    clear hfw
    rintro e w7 ⟨A7, c7, rfl, hS7, hx7⟩
    have hzG := bG.lt
    have zhx7 := hx7.size
    replace hrow := hrow.nx hx7
    replace hcho := hcho.nx hx7
    have hzW : w.heap.size ≤ W6.heap.size := hX.size
    replace hcon := hcon.nx hx7 (Nat.le_of_lt hs.lt)
    replace hs := hs.nx hx7
    replace hX := hX.trans (Rg.of_nx hx7)
    replace hS6 := hS6.nx hx7
    replace bG := bG.nx hx7
    replace hS7 := hS7.low (lo' := w.heap.size) hzW
    rw [app_len, H8.out]
    clear hx7
    have hcon7 : CI w7 g w.heap.size A7 (app pN x [((b : Int), (v : Int), o)]) := .inr hS7
    clear hS7 hcon
    have hzw7 : w.heap.size ≤ w7.heap.size := hX.size
    obtain ⟨d0, d1, d2, d3⟩ := bG.d4
    have dl := bG.lt
    rcases snoc_cases gs with rfl | ⟨gs0, y, rfl⟩
    · go_wp2_with (at_builtin; refine wpList_addS rfl _ _ rfl w.heap.size w7.heap.size _ [] ⟨(q : Int), (q : Int) + 1, (tm2 : Int), A6, c6, [((b : Int), (v : Int), o)]⟩ rfl rfl (hrow.nx ((Nx.refl w7).alloc _)) (Box.new w7 _ _) (by simp) (Nat.le_trans hzw7 ((Nx.refl w7).alloc _).size) ?_)
      intro A9 k9 w10 hrow10 hgr
      have hxe := (Nx.refl w7).alloc (.cells #[.int .i64 (q : Int), .int .i64 ((q : Int) + 1), .int .i64 (tm2 : Int), .slice A6 1 c6] 31)
      go_wp2
      go_roundw
      case rel =>
        exact ⟨cnt + 1, r - 1, tm2, [] ++ [⟨(q : Int), (q : Int) + 1, (tm2 : Int), A6, c6, [((b : Int), (v : Int), o)]⟩], A7, c7, app pN x [((b : Int), (v : Int), o)], by omega, by rw [show ((r - 1 : Nat) : Int) = (r : Int) - 1 by omega], by rw [show ((base + (cnt + 1) : Nat) : Int) = (q : Int) + 1 by have := Hq.out; omega], rfl, rfl, _, rfl,
          Cst.of (Cvs.add ST.out hcx A6 c6 Hq.out Htm2.out hdt hq9 htm2 hb8 hv90 Ho.out) ((hcon7.nx hxe (Nat.le_of_lt hs.lt)).grew hgr (by omega)) hrow10 ((hgr.cho (hcho.nx hxe)).snoc (hgr.sl (hS6.nx hxe) (by decide))) (((hs.nx hxe).grew hgr).more (by omega)) (hgr.rg _ _ _ (hX.trans (Rg.of_nx hxe)) (Nat.le_refl _))⟩
      case measure => simp [intOf]; omega
    have hlen : (gs0 ++ [y]).length = gs0.length + 1 := by simp
    have Hlen := Lib.hid hlen
    obtain ⟨n1, Hn1⟩ : ∃ n1, Hid ((gs0 ++ [y]).length = n1) := ⟨_, rfl⟩
    rw [Hn1.out] at hl9 hrow ⊢
    have HN1 := Lib.hid (Hn1.out.symm.trans hlen)
    have hd : decide (0 < n1) = true := by have := HN1.out; simp; omega
    clear hlen
    go_wp2_with fail
    refine (chanceR_c 3 g A n c (k0 + 6 + 12 * cnt + 3 + 3 + 3) B ys _ (by omega) (by omega) hs (h.rg hX hB (Nat.le_of_lt hz0)) hB hn (by omega)).mono ?_
    rintro e w8 ⟨qb, rfl, hs', hr⟩
    replace hcon7 := hcon7.rg hr (Nat.le_of_lt hs.lt) hgw
    replace hrow := hrow.rg hr hgw
    replace hcho := hcho.rg hr hgw
    replace hS6 := hS6.rgO hr hgw
    replace bG := bG.rg hr (.inr (by omega))
    replace hX := hX.trans hr
    replace hs := hs'
    have hzr := hr.size
    have hzw8 : w.heap.size ≤ w8.heap.size := hX.size
    clear hr hs' d0 d1 d2 d3 dl
    obtain ⟨d0, d1, d2, d3⟩ := bG.d4
    have dl := bG.lt
    cases qb
    · go_wp2_with (at_builtin; refine wpList_addS rfl _ _ rfl w.heap.size w8.heap.size _ (gs0 ++ [y]) ⟨(q : Int), (q : Int) + 1, (tm2 : Int), A6, c6, [((b : Int), (v : Int), o)]⟩ rfl rfl (hrow.nx ((Nx.refl w8).alloc _)) (Box.new w8 _ _) (by rw [Hn1.out]; omega) (Nat.le_trans hzw8 ((Nx.refl w8).alloc _).size) ?_)
      intro A9 k9 w10 hrow10 hgr
      have hxe := (Nx.refl w8).alloc (.cells #[.int .i64 (q : Int), .int .i64 ((q : Int) + 1), .int .i64 (tm2 : Int), .slice A6 1 c6] 31)
      go_wp2
      go_roundw
      case rel =>
        exact ⟨cnt + 1, r - 1, tm2, (gs0 ++ [y]) ++ [⟨(q : Int), (q : Int) + 1, (tm2 : Int), A6, c6, [((b : Int), (v : Int), o)]⟩], A7, c7, app pN x [((b : Int), (v : Int), o)], by omega, by rw [show ((r - 1 : Nat) : Int) = (r : Int) - 1 by omega], by rw [show ((base + (cnt + 1) : Nat) : Int) = (q : Int) + 1 by have := Hq.out; omega], rfl, rfl, _, rfl,
          Cst.of (Cvs.add ST.out hcx A6 c6 Hq.out Htm2.out hdt hq9 htm2 hb8 hv90 Ho.out) ((hcon7.nx hxe (Nat.le_of_lt hs.lt)).grew hgr (by omega)) (by rw [List.append_assoc]; exact hrow10) ((hgr.cho (hcho.nx hxe)).snoc (hgr.sl (hS6.nx hxe) (by decide))) (((hs.nx hxe).grew hgr).more (by omega)) (hgr.rg _ _ _ (hX.trans (Rg.of_nx hxe)) (Nat.le_refl _))⟩
      case measure => simp [intOf]; omega
    obtain ⟨gr, hgr0⟩ : ∃ gr, Au = some ⟨gr, 0, none⟩ := by
      obtain ⟨A', c', e, hsl⟩ := hrow.sl
      injection e with e1 _ _
      subst e1
      obtain ⟨g', e2, _⟩ := hsl (by rw [Hlen.out]; omega)
      exact ⟨g', e2⟩
    subst hgr0
    obtain ⟨hchi, hSy⟩ := hcho.init
    replace hrow : RowS w8 w.heap.size (.slice (some ⟨gr, 0, none⟩) (gs0.length + 1) cu) (gs0 ++ [y]) := by rw [← HN1.out]; exact hrow
    obtain ⟨l0, l1, l2, l3, lf, lB, ll⟩ := hrow.last
    obtain ⟨m, Hm⟩ : ∃ m, Hid (gs0.length = m) := ⟨_, rfl⟩
    rw [Hm.out] at l0 l1 l2 l3
    have hsub : (n1 : Int) - 1 = (m : Int) := by have := HN1.out; have := Hm.out; omega
    have hjn : (m : Int) < (n1 : Int) := by omega
    have hyok : chsB y.cs = true := segB_chs (ST.out.2.1.init.2.seg)
    obtain ⟨yf, yt, ym, yA, yc, ycs⟩ := y
    simp only at l0 l1 l2 l3 hSy hyok
    have hxd : Nx w8 w8.drew := (Nx.refl w8).drew
    replace hcon7 := hcon7.nx hxd (Nat.le_of_lt hs.lt)
    replace hrow := hrow.nx hxd
    replace hchi := hchi.nx hxd
    replace hSy := hSy.nx hxd
    replace hS6 := hS6.nx hxd
    replace bG := bG.nx hxd
    replace hs := hs.nx hxd
    replace hX := hX.trans (Rg.of_nx hxd)
    have m0 : w8.drew.cell? ⟨gr, m * 4, none⟩ = some (.int .i64 yf) := l0
    have m1 : w8.drew.cell? ⟨gr, m * 4 + 1, none⟩ = some (.int .i64 yt) := l1
    have m2 : w8.drew.cell? ⟨gr, m * 4 + 2, none⟩ = some (.int .i64 ym) := l2
    have m3 : w8.drew.cell? ⟨gr, m * 4 + 3, none⟩ = some (.slice yA ycs.length yc) := l3
    have hwm : IntKind.i64.wrap (m : Int) = (m : Int) := IntWalk.i64_in _ (by omega)
    have hzd : w8.drew.heap.size = w8.heap.size := rfl
    have hne : gr ≠ w6.heap.size := fun e => by have := hgr6 gr rfl (by rw [Hlen.out]; omega); omega
    clear d0 d1 d2 d3 l0 l1 l2 l3 hxd
    go_wp2_with fail
    refine wp_region_plan (.t 0 (.t 1 (.t 2 (.t 3 (.t 4 (.t 5 (.t 6 (.t 8 (.c 7 (.c 9 (.t 10 (.c 11 .e)))))))))))) (fun w' => w'.cell? ⟨w6.heap.size, 0, none⟩ = some (.int .i64 (q : Int)) ∧ w'.cell? ⟨w6.heap.size, 1, none⟩ = some (.int .i64 ((q : Int) + 1)) ∧ w'.cell? ⟨w6.heap.size, 2, none⟩ = some (.int .i64 (tm2 : Int)) ∧ w'.cell? ⟨w6.heap.size, 3, none⟩ = some (.slice A6 1 c6)) (by kernel_rfl) (by kernel_rfl) rfl (by kernel_rfl) (fun _ _ d _ _ h => by cases d <;> exact h) (by exact bG.d4) ?_
    simp only [psOf, List.getD_cons_zero, List.getD_cons_succ]
    repeat (first | (refine HP.take (v := ?_) (by rfl) ?_ ?_; rotate_left; (· (intro w hSw; (try dsimp only at hSw); go_simp; try with_reducible rfl)); (try simp only [Act.put, List.setIfInBounds_toArray, List.set_cons_zero, List.set_cons_succ])) | (refine HP.skip (by rfl) ?_; (try simp only [Act.put, List.setIfInBounds_toArray, List.set_cons_zero, List.set_cons_succ])))
    refine HP.call ?_
    refine CallStep.mk (by rfl) (fun K hK => ?_)
    go_simp
    refine hK.out _ _ (by exact bG.d4) ?_
    clear hK K
    try simp only [Act.put, List.setIfInBounds_toArray, List.set_cons_zero, List.set_cons_succ]
    refine HP.call ?_
    refine CallStep.mk (by rfl) (fun K hK => ?_)
    go_simp
    refine (l03Merge_c yf yt ym yA yc ycs (q : Int) ((q : Int) + 1) (tm2 : Int) A6 c6 [((b : Int), (v : Int), o)] _ _ hSy.row hS6.row (Nat.le_refl _) hyok hok).mono ?_; rintro e w9 ⟨A8, c8, rfl, hS8, hx9⟩; replace hcon7 := hcon7.nx hx9 (Nat.le_of_lt hs.lt); replace hrow := hrow.nx hx9; replace hchi := hchi.nx hx9; replace bG := bG.nx hx9; have hzX : w.heap.size ≤ w8.drew.heap.size := hX.size; replace hs := hs.nx hx9; replace hX := hX.trans (Rg.of_nx hx9); replace hS8 := hS8.low (lo' := w.heap.size) hzX; obtain ⟨k0_, k1_, k2_, k3_, nf, nB, nl⟩ := hrow.last; rw [Hm.out] at k0_ k1_ k2_ k3_; simp only at k0_ k1_ k2_ k3_; have nf0 := nf (m * 4); have nf1 := nf (m * 4 + 1); have nf2 := nf (m * 4 + 2); have nf3 := nf (m * 4 + 3); clear m0 m1 m2 m3
    go_wp2_with fail
    refine hK.out _ _ (by exact bG.d4) ?_
    clear hK K
    try simp only [Act.put, List.setIfInBounds_toArray, List.set_cons_zero, List.set_cons_succ]
    repeat (first | (refine HP.take (v := ?_) (by rfl) ?_ ?_; rotate_left; (· (intro w hSw; (try dsimp only at hSw); go_simp; try with_reducible rfl)); (try simp only [Act.put, List.setIfInBounds_toArray, List.set_cons_zero, List.set_cons_succ])) | (refine HP.skip (by rfl) ?_; (try simp only [Act.put, List.setIfInBounds_toArray, List.set_cons_zero, List.set_cons_succ])))
    refine HP.call ?_
    refine CallStep.mk (by rfl) (fun K hK => ?_)
    go_simp
    refine hK.out _ _ (by exact ((((bG.far (p := ⟨gr, m * 4, none⟩) (fun e => hne e.symm) (.int .i64 yf)).far (p := ⟨gr, m * 4 + 1, none⟩) (fun e => hne e.symm) (.int .i64 ((q : Int) + 1))).far (p := ⟨gr, m * 4 + 2, none⟩) (fun e => hne e.symm) (.int .i64 (tm2 : Int))).far (p := ⟨gr, m * 4 + 3, none⟩) (fun e => hne e.symm) (.slice A8 (mrgC ycs [((b : Int), (v : Int), o)]).length c8)).d4) ?_
    clear hK K
    try simp only [Act.put, List.setIfInBounds_toArray, List.set_cons_zero, List.set_cons_succ]
    refine HP.done ?_
    have hput := hrow.put ⟨yf, (q : Int) + 1, (tm2 : Int), A8, c8, mrgC ycs [((b : Int), (v : Int), o)]⟩
    unfold putG at hput
    rw [Hm.out] at hput
    simp only at hput
    generalize (((w9.setCell ⟨gr, m * 4, none⟩ (.int .i64 yf)).setCell ⟨gr, m * 4 + 1, none⟩ (.int .i64 ((q : Int) + 1))).setCell ⟨gr, m * 4 + 2, none⟩ (.int .i64 (tm2 : Int))).setCell ⟨gr, m * 4 + 3, none⟩ (.slice A8 (mrgC ycs [((b : Int), (v : Int), o)]).length c8) = Wf at *
    go_wp2
    go_roundw
    case rel =>
      exact ⟨cnt + 1, r - 1, tm2, gs0 ++ [⟨yf, (q : Int) + 1, (tm2 : Int), A8, c8, mrgC ycs [((b : Int), (v : Int), o)]⟩], A7, c7, app pN x [((b : Int), (v : Int), o)], by omega, by rw [show ((r - 1 : Nat) : Int) = (r : Int) - 1 by omega], by rw [show ((base + (cnt + 1) : Nat) : Int) = (q : Int) + 1 by have := Hq.out; omega], rfl, rfl, _, rfl,
        Cst.of (Cvs.mrg ST.out hcont A8 c8 Hq.out Htm2.out hdt hq9 htm2 hb8 hv90 Ho.out) (hcon7.grew hput.2 (by omega)) (by rw [show n1 = m + 1 by have := HN1.out; have := Hm.out; omega]; exact hput.1) ((hput.2.cho hchi).snoc (hput.2.sl hS8 (by decide))) ((hs.grew hput.2).more (by omega)) (hput.2.rg _ _ _ hX (Nat.le_refl _))⟩
    case measure => simp [intOf]; omega
end Go.Proofs.Ytckekkhfjcaclaa
