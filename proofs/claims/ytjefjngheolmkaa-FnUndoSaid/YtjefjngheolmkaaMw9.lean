/-
  Texts of the proof, put together in their order: Chd, Chm, Ops, Lch, Lun, Lmr, Rga, Rgb, Lcn.
  Conditions: those of each.
-/
import Derived.Test.YtjefjngheolmkaaMw8
import Derived.Lib.SmallJoins
/- Drawn chains: each segment goes on from the content ahead of it. Conditions: the code and the content can be read; the code holds at most 1048576 bytes. -/
namespace Go.Proofs.Ytjefjngheolmkaa
set_option linter.unusedVariables false
set_option maxRecDepth 100000
open Go.RowKit
theorem chanceR_c (m g : Nat) (A : Option Addr) (n c k B : Nat) (ys : List Nat) (w : World) (hm : 2 ≤ m) (hm2 : m ≤ 256) (hb : SrcR w g A n c k) (h : U8s w B A n ys) (hB : B ≤ g) (hn : n ≤ 1048576) (hk : k + 3 ≤ 1048576) :
    Calls Try.prog 112 #[.pointer (some ⟨g, 0, none⟩), .int .i64 m] w fun e w' => ∃ q : Bool, e = .returned (.bool q) ∧ SrcR w' g A n c (k + 3) ∧ Rg g (g + 1) w w' := by
  obtain ⟨a, sd, h1, h2, h3⟩ := hb
  obtain ⟨⟨b, a', sd'⟩, HP⟩ : ∃ x, byteP ys a sd = x := ⟨_, rfl⟩
  obtain ⟨k1, k2, k3⟩ := byteP_lt h.2.1 h2 HP
  exact (chance_c m g A n c a sd B ys b a' sd' w hm hm2 h3 h hB hn (by omega) h2 HP).mono fun e w' ⟨he, hs, hr⟩ => ⟨_, he, ⟨a', sd', by omega, k3, hs⟩, hr⟩
theorem SrcR.grewS {w w' : World} {B : Nat} {g n c k : Nat} {A : Option Addr} (h : SrcR w g A n c k) (hb : GrewS B w w') : SrcR w' g A n c k := by
  obtain ⟨a, sd, h1, h2, h3⟩ := h
  unfold Src at h3
  exact ⟨a, sd, h1, h2, hb.box _ _ _ (by decide) h3⟩
/-- The state of the loop. -/
structure Cst (g : Nat) (A : Option Addr) (n c k0 : Nat) (w : World) (base : Nat) (c0 : List Int) (cnt tm : Nat) (gs : List SgR) (Ac : Option Addr) (x : List Int) (u : Value) (wr : World) : Prop where
  tm_ : tm ≤ 20 + 9 * cnt
  con : CI wr g w.heap.size Ac x
  row : RowS wr w.heap.size u gs
  cho : ChO wr w.heap.size gs
  chn : ChI (base : Int) c0 gs
  end_ : atK (base : Int) gs gs.length = ((base + cnt : Nat) : Int)
  tme : tmK gs gs.length ≤ (tm : Int)
  cte : ctK c0 gs gs.length = x
  len : gs.length ≤ cnt
  src : SrcR wr g A n c (k0 + 6 + 12 * cnt)
  rg : Rg g (g + 1) w wr
theorem snoc_cases (gs : List SgR) : gs = [] ∨ ∃ gs0 y, gs = gs0 ++ [y] := by
  rcases List.eq_nil_or_concat gs with h | ⟨L, b, h⟩
  · exact .inl h
  · exact .inr ⟨L, b, by simpa using h⟩
/-- What of the state speaks of no memory. -/
abbrev Cvs (base : Nat) (c0 : List Int) (cnt tm : Nat) (gs : List SgR) (x : List Int) : Prop :=
  tm ≤ 20 + 9 * cnt ∧ ChI (base : Int) c0 gs ∧ atK (base : Int) gs gs.length = ((base + cnt : Nat) : Int) ∧ tmK gs gs.length ≤ (tm : Int) ∧ ctK c0 gs gs.length = x ∧ gs.length ≤ cnt
theorem Cvs.add {base : Nat} {c0 : List Int} {cnt tm : Nat} {gs : List SgR} {x : List Int} (h : Cvs base c0 cnt tm gs x) (hcx : contB x = true) {q dt tm2 b v : Nat} {o : Int} (A6 : Option Addr) (c6 : Nat) (hq : base + cnt = q) (ht : tm + dt = tm2) (hdt : dt < 9) (hq9 : q ≤ 40) (htm2 : tm2 ≤ 300) (hb : b < 8) (hv : v < 90) (ho : x.getD b 0 = o) :
    Cvs base c0 (cnt + 1) tm2 (gs ++ [⟨(q : Int), (q : Int) + 1, (tm2 : Int), A6, c6, [((b : Int), (v : Int), o)]⟩]) (app pN x [((b : Int), (v : Int), o)]) := by
  obtain ⟨h1, h2, h3, h4, h5, h6⟩ := h
  have hov := (contB_yes hcx).2 b hb
  rw [ho] at hov
  have L : Lk (base : Int) c0 gs gs.length ⟨(q : Int), (q : Int) + 1, (tm2 : Int), A6, c6, [((b : Int), (v : Int), o)]⟩ := ⟨segB_mk (by show (0 : Int) ≤ (q : Int); omega) (by show (q : Int) < (q : Int) + 1; omega) (by show (q : Int) + 1 ≤ 999999; omega) (inB_mk (by show (0 : Int) ≤ (tm2 : Int); omega) (by show (tm2 : Int) ≤ 999999; omega)) (ch_one (chB_mk (by omega) (by omega) (by omega) (by omega) hov.1 hov.2)),
    by show (q : Int) = _; rw [h3, hq], by show _ ≤ (tm2 : Int); omega, by rw [h5, ← ho]; exact fits_one x b v⟩
  obtain ⟨e1, e2, e3⟩ := end_snoc (base : Int) c0 gs ⟨(q : Int), (q : Int) + 1, (tm2 : Int), A6, c6, [((b : Int), (v : Int), o)]⟩
  have hl : ∀ z : SgR, (gs ++ [z]).length = gs.length + 1 := fun z => by simp
  refine ⟨by omega, h2.snoc L, ?_, ?_, ?_, by rw [hl]; omega⟩
  · rw [hl, e1]; show (q : Int) + 1 = _; omega
  · rw [hl, e2]; show (tm2 : Int) ≤ _; omega
  · rw [hl, e3, h5]
theorem Cvs.mrg {base : Nat} {c0 : List Int} {cnt tm : Nat} {gs : List SgR} {y : SgR} {x : List Int} (h : Cvs base c0 cnt tm (gs ++ [y]) x) (hcont : contB c0 = true) {q dt tm2 b v : Nat} {o : Int} (A6 : Option Addr) (c6 : Nat) (hq : base + cnt = q) (ht : tm + dt = tm2) (hdt : dt < 9) (hq9 : q ≤ 40) (htm2 : tm2 ≤ 300) (hb : b < 8) (hv : v < 90) (ho : x.getD b 0 = o) :
    Cvs base c0 (cnt + 1) tm2 (gs ++ [⟨y.f, (q : Int) + 1, (tm2 : Int), A6, c6, mrgC y.cs [((b : Int), (v : Int), o)]⟩]) (app pN x [((b : Int), (v : Int), o)]) := by
  obtain ⟨h1, h2, h3, h4, h5, h6⟩ := h
  have hl : ∀ z : SgR, (gs ++ [z]).length = gs.length + 1 := fun z => by simp
  obtain ⟨y1, y2, y3⟩ := end_snoc (base : Int) c0 gs y
  rw [hl] at h3 h4 h5 h6
  rw [y1] at h3
  rw [y2] at h4
  rw [y3] at h5
  obtain ⟨hi, hL⟩ := h2.init
  have hc0 := hi.cont hcont gs.length (Nat.le_refl _)
  have hsr := segB_range hL.seg
  have hf0 := inB_yes hsr.1
  obtain ⟨m1, m2, m3⟩ := mrg_one hc0 (segB_chs hL.seg) hL.fit hb (v := (v : Int)) (o := o) (by omega) (by omega) (by rw [h5]; exact ho)
  have hym : tmK gs gs.length ≤ (tm2 : Int) := by have := hL.tm; omega
  have L : Lk (base : Int) c0 gs gs.length ⟨y.f, (q : Int) + 1, (tm2 : Int), A6, c6, mrgC y.cs [((b : Int), (v : Int), o)]⟩ :=
    ⟨segB_mk hf0.1 (by show y.f < (q : Int) + 1; have := hsr.2.2.2; omega) (by show (q : Int) + 1 ≤ 999999; omega) (inB_mk (by show (0 : Int) ≤ (tm2 : Int); omega) (by show (tm2 : Int) ≤ 999999; omega)) m1, hL.at_, hym, m3⟩
  obtain ⟨e1, e2, e3⟩ := end_snoc (base : Int) c0 gs ⟨y.f, (q : Int) + 1, (tm2 : Int), A6, c6, mrgC y.cs [((b : Int), (v : Int), o)]⟩
  refine ⟨by omega, hi.snoc L, ?_, ?_, ?_, by rw [hl]; omega⟩
  · rw [hl, e1]; show (q : Int) + 1 = _; omega
  · rw [hl, e2]; show (tm2 : Int) ≤ _; omega
  · rw [hl, e3]
    show app pN (ctK c0 gs gs.length) (mrgC y.cs [((b : Int), (v : Int), o)]) = _
    rw [m2, h5]
theorem Cst.of {g : Nat} {A : Option Addr} {n c k0 : Nat} {w : World} {base : Nat} {c0 : List Int} {cnt tm : Nat} {gs : List SgR} {Ac : Option Addr} {x : List Int} {u : Value} {wr : World} (V : Cvs base c0 cnt tm gs x) (con : CI wr g w.heap.size Ac x) (row : RowS wr w.heap.size u gs) (cho : ChO wr w.heap.size gs) (src : SrcR wr g A n c (k0 + 6 + 12 * cnt)) (rg : Rg g (g + 1) w wr) :
    Cst g A n c k0 w base c0 cnt tm gs Ac x u wr := ⟨V.1, con, row, cho, V.2.1, V.2.2.1, V.2.2.2.1, V.2.2.2.2.1, V.2.2.2.2.2, src, rg⟩
set_option maxRecDepth 100000 in
set_option maxHeartbeats 8000000 in
theorem chain_c (g : Nat) (A : Option Addr) (n c B k0 base : Nat) (ys : List Nat) (Ac0 : Option Addr) (cc0 : Nat) (c0 : List Int) (w : World) (hb : SrcR w g A n c k0) (h : U8s w B A n ys) (hB : B ≤ g) (hn : n ≤ 1048576) (hk0 : k0 ≤ 1000000) (hc : Ins w g Ac0 c0) (hcont : contB c0 = true) (hbase : base ≤ 20) :
    Calls Try.prog 75 #[.pointer (some ⟨g, 0, none⟩), .int .i64 (base : Int), .slice Ac0 8 cc0, .int .i64 9] w fun e w' =>
      ∃ A' c' gs, e = .returned (.slice A' gs.length c') ∧ gs.length ≤ 9 ∧ SgO w' w.heap.size A' gs ∧ ChI (base : Int) c0 gs ∧ atK (base : Int) gs gs.length ≤ 40 ∧ tmK gs gs.length ≤ 200 ∧ Rg g (g + 1) w w' := by
  have hz0 := hb.lt
  have hrow0 := RowS.new w (Nat.le_refl _)
  have hx0 := (Nx.refl w).alloc (.cells #[] 30)
  have hs0 := hb.nx hx0
  have hr0 : Rg g (g + 1) w (w.alloc (.cells #[] 30)) := Rg.of_nx hx0
  have hz1 : w.heap.size < (w.alloc (.cells #[] 30)).heap.size := by simp
  go_enter Try.func75, Try.ntmps75
  go_wp2_with fail
  generalize w.alloc (.cells #[] 30) = W at *
  refine (nextR_c 20 g A n c k0 B ys _ (by omega) (by omega) hs0 (h.rg hr0 hB (Nat.le_of_lt hz0)) hB hn (by omega)).mono ?_
  rintro e w1 ⟨tm0, rfl, htm0, hs1, hr1⟩
  replace hrow0 := hrow0.rg hr1 (by omega)
  replace hr0 := hr0.trans hr1
  clear hs0 hr1 hx0
  go_wp2_with fail
  refine (nextR_c 10 g A n c (k0 + 3) B ys _ (by omega) (by omega) hs1 (h.rg hr0 hB (Nat.le_of_lt hz0)) hB hn (by omega)).mono ?_
  rintro e w2 ⟨r0, rfl, hr10, hs2, hr1⟩
  replace hrow0 := hrow0.rg hr1 (by omega)
  replace hr0 := hr0.trans hr1
  clear hs1 hr1
  have hst : Cst g A n c k0 w base c0 0 tm0 [] Ac0 c0 (.slice (some ⟨w.heap.size, 0, none⟩) 0 0) w2 :=
    ⟨by omega, .inl (hc.below (hr0.below (Nat.le_of_lt hz0)) (Nat.le_refl _)), hrow0, fun k hk => absurd hk (by simp), ChI.nil _ _, rfl, by show (0 : Int) ≤ _; omega, rfl, Nat.le_refl _, hs2.more (by omega), hr0⟩
  clear hrow0 hs2 hr0 hc
  go_wp2_with fail
  go_loopw [2, 9, 10, 11, 12] (fun cv ov av tv iv wr => ∃ (cnt r tm : Nat) (gs : List SgR) (Ac : Option Addr) (cc : Nat) (x : List Int), cnt + r ≤ 9 ∧ iv = .int .i64 r ∧ av = .int .i64 ((base + cnt : Nat) : Int) ∧ tv = .int .i64 tm ∧ cv = .slice Ac 8 cc ∧ ∃ u, u = ov ∧ Cst g A n c k0 w base c0 cnt tm gs Ac x u wr) (fun _ _ _ _ iv _ => (intOf iv).toNat)
  case atStart => exact ⟨0, r0, tm0, [], Ac0, cc0, c0, by omega, rfl, rfl, rfl, rfl, _, rfl, hst⟩
  case round =>
    obtain ⟨cnt, r, tm, gs, Ac, cc, x, hcr, rfl, rfl, rfl, rfl, u, rfl, st⟩ := hrel
    clear hst
    rcases Nat.eq_zero_or_pos r with hr00 | hrp
    · subst hr00
      obtain ⟨A', c', e, hS⟩ := st.row.sgo st.cho
      subst e
      go_wp2
      go_ret
      exact ⟨A', c', gs, rfl, by have := st.len; omega, hS, st.chn, by rw [st.end_]; omega, by have := st.tme; have := st.tm_; omega, st.rg⟩
    have hrd : decide (0 < r) = true := by simp; omega
    obtain ⟨Au, cu, hu, _⟩ := st.row.sl
    subst hu
    have hX := st.rg
    have hs := st.src
    have hcon := st.con
    have hrow := st.row
    have hcho := st.cho
    have hzg : g < wr.heap.size := hs.lt
    have hgw : g + 1 ≤ w.heap.size := hz0
    have hcx : contB x = true := by rw [← st.cte]; exact st.chn.cont hcont _ (Nat.le_refl _)
    have h8 := (contB_yes hcx).1
    have H8 := Lib.hid h8
    have ST := Lib.hid (And.intro st.tm_ (And.intro st.chn (And.intro st.end_ (And.intro st.tme (And.intro st.cte st.len)))))
    obtain ⟨q, Hq⟩ : ∃ q : Nat, Hid (base + cnt = q) := ⟨_, rfl⟩
    rw [Hq.out]
    have hq9 : q ≤ 40 := by have := Hq.out; omega
    have htm9 : tm ≤ 200 := by have := st.tm_; omega
    have hl9 : gs.length ≤ 9 := by have := st.len; omega
    clear st h8
    go_wp2_with fail
    refine (nextR_c 9 g A n c (k0 + 6 + 12 * cnt) B ys _ (by omega) (by omega) hs (h.rg hX hB (Nat.le_of_lt hz0)) hB hn (by omega)).mono ?_
    rintro e w3 ⟨dt, rfl, hdt, hs', hr⟩
    replace hcon := hcon.rg hr (Nat.le_of_lt hs.lt) hgw
    replace hrow := hrow.rg hr hgw
    replace hcho := hcho.rg hr hgw
    replace hX := hX.trans hr
    replace hs := hs'
    clear hr hs'
    obtain ⟨tm2, Htm2⟩ : ∃ q : Nat, Hid (tm + dt = q) := ⟨_, rfl⟩
    have htm2 : tm2 ≤ 300 := by have := Htm2.out; omega
    go_wp2_with fail
    refine (nextR_c 8 g A n c (k0 + 6 + 12 * cnt + 3) B ys _ (by omega) (by omega) hs (h.rg hX hB (Nat.le_of_lt hz0)) hB hn (by omega)).mono ?_
    rintro e w4 ⟨b, rfl, hb8, hs', hr⟩
    replace hcon := hcon.rg hr (Nat.le_of_lt hs.lt) hgw
    replace hrow := hrow.rg hr hgw
    replace hcho := hcho.rg hr hgw
    replace hX := hX.trans hr
    replace hs := hs'
    clear hr hs'
    go_wp2_with fail
    refine (nextR_c 90 g A n c (k0 + 6 + 12 * cnt + 3 + 3) B ys _ (by omega) (by omega) hs (h.rg hX hB (Nat.le_of_lt hz0)) hB hn (by omega)).mono ?_
    rintro e w5 ⟨v, rfl, hv90, hs', hr⟩
    replace hcon := hcon.rg hr (Nat.le_of_lt hs.lt) hgw
    replace hrow := hrow.rg hr hgw
    replace hcho := hcho.rg hr hgw
    replace hX := hX.trans hr
    replace hs := hs'
    clear hr hs'
    go_wp2_with fail
    rw [show (tm : Int) + (dt : Int) = (tm2 : Int) by rw [← Htm2.out]; omega]
    have hof := l03Of_c Ac cc _ b x ((q : Int) + 1) (v : Int) (tm2 : Int) w5 (hcon.ins (Nat.le_of_lt hs.lt)) (Nat.le_refl _) (by rw [H8.out]; exact hb8) (by rw [H8.out]; omega) (by omega) (by omega)
    rw [H8.out] at hof
    refine hof.mono ?_
    clear hof
    rintro e w6 ⟨A6, c6, rfl, hS6, hx6⟩
    replace hS6 : Sl w6 w5.heap.size A6 75 (1 * 3) (chAt [((b : Int), (v : Int), x.getD b 0)]) := hS6
    rw [show (q : Int) + 1 - 1 = (q : Int) by omega]
    replace hcon := hcon.nx hx6 (Nat.le_of_lt hs.lt)
    replace hrow := hrow.nx hx6
    replace hcho := hcho.nx hx6
    replace hs := hs.nx hx6
    have zx6 := hx6.size
    have zw5 : w.heap.size ≤ w5.heap.size := hX.size
    replace hX := hX.trans (Rg.of_nx hx6)
    replace hS6 := hS6.low (lo' := w.heap.size) zw5
    clear hx6 zx6
    obtain ⟨o, Ho⟩ : ∃ o, Hid (x.getD b 0 = o) := ⟨_, rfl⟩
    rw [Ho.out] at hS6
    have hov := (contB_yes hcx).2 b hb8
    rw [Ho.out] at hov
    have hok : chsB [((b : Int), (v : Int), o)] = true := ch_one (chB_mk (by omega) (by omega) (by omega) (by omega) hov.1 hov.2)
    have hgr6 : ∀ gr, Au = some ⟨gr, 0, none⟩ → 0 < gs.length → gr < w6.heap.size := fun gr e h0 => by
      obtain ⟨A', c', e1, hsl⟩ := hrow.sl
      injection e1 with e2 _ _
      subst e2
      obtain ⟨g', e3, _, ho⟩ := hsl (by omega)
      rw [e] at e3
      injection e3 with e3
      injection e3 with e3
      subst e3
      exact ho.lt
    go_wp2_with fail
    have bG := Box.new w6 30 #[.int .i64 (q : Int), .int .i64 ((q : Int) + 1), .int .i64 (tm2 : Int), .slice A6 1 c6]
    have hxa := (Nx.refl w6).alloc (.cells #[.int .i64 (q : Int), .int .i64 ((q : Int) + 1), .int .i64 (tm2 : Int), .slice A6 1 c6] 30)
    generalize hWa : w6.alloc (.cells #[.int .i64 (q : Int), .int .i64 ((q : Int) + 1), .int .i64 (tm2 : Int), .slice A6 1 c6] 30) = W6 at *
    clear hWa
    have zhxa := hxa.size
    replace hrow := hrow.nx hxa
    replace hcho := hcho.nx hxa
    have hzW : w.heap.size ≤ w6.heap.size := hX.size
    replace hcon := hcon.nx hxa (Nat.le_of_lt hs.lt)
    replace hs := hs.nx hxa
    replace hX := hX.trans (Rg.of_nx hxa)
    replace hS6 := hS6.nx hxa
    clear hxa
    have hfw := l03Forward_c Ac cc _ x (q : Int) ((q : Int) + 1) (tm2 : Int) A6 c6 [((b : Int), (v : Int), o)] W6 (hcon.ins (Nat.le_of_lt hs.lt)) hS6.row (Nat.le_refl _) hok H8.out
    rw [H8.out] at hfw
    refine hfw.mono ?_
    clear hfw
    rintro e w7 ⟨A7, c7, rfl, hS7, hx7⟩
    have hzG := bG.lt
    have zhx7 := hx7.size
    replace hrow := hrow.nx hx7
    replace hcho := hcho.nx hx7
    have hzW : w.heap.size ≤ W6.heap.size := hX.size
    replace hcon := hcon.nx hx7 (Nat.le_of_lt hs.lt)
    replace hs := hs.nx hx7
    replace hX := hX.trans (Rg.of_nx hx7)
    replace hS6 := hS6.nx hx7
    replace bG := bG.nx hx7
    replace hS7 := hS7.low (lo' := w.heap.size) hzW
    rw [app_len, H8.out]
    clear hx7
    have hcon7 : CI w7 g w.heap.size A7 (app pN x [((b : Int), (v : Int), o)]) := .inr hS7
    clear hS7 hcon
    have hzw7 : w.heap.size ≤ w7.heap.size := hX.size
    obtain ⟨d0, d1, d2, d3⟩ := bG.d4
    have dl := bG.lt
    rcases snoc_cases gs with rfl | ⟨gs0, y, rfl⟩
    · go_wp2_with (at_builtin; refine wpList_addS rfl _ _ rfl w.heap.size w7.heap.size _ [] ⟨(q : Int), (q : Int) + 1, (tm2 : Int), A6, c6, [((b : Int), (v : Int), o)]⟩ rfl rfl (hrow.nx ((Nx.refl w7).alloc _)) (Box.new w7 _ _) (by simp) (Nat.le_trans hzw7 ((Nx.refl w7).alloc _).size) ?_)
      intro A9 k9 w10 hrow10 hgr
      have hxe := (Nx.refl w7).alloc (.cells #[.int .i64 (q : Int), .int .i64 ((q : Int) + 1), .int .i64 (tm2 : Int), .slice A6 1 c6] 30)
      go_wp2
      go_roundw
      case rel =>
        exact ⟨cnt + 1, r - 1, tm2, [] ++ [⟨(q : Int), (q : Int) + 1, (tm2 : Int), A6, c6, [((b : Int), (v : Int), o)]⟩], A7, c7, app pN x [((b : Int), (v : Int), o)], by omega, by rw [show ((r - 1 : Nat) : Int) = (r : Int) - 1 by omega], by rw [show ((base + (cnt + 1) : Nat) : Int) = (q : Int) + 1 by have := Hq.out; omega], rfl, rfl, _, rfl,
          Cst.of (Cvs.add ST.out hcx A6 c6 Hq.out Htm2.out hdt hq9 htm2 hb8 hv90 Ho.out) ((hcon7.nx hxe (Nat.le_of_lt hs.lt)).grew hgr (by omega)) hrow10 ((hgr.cho (hcho.nx hxe)).snoc (hgr.sl (hS6.nx hxe) (by decide))) (((hs.nx hxe).grewS hgr).more (by omega)) (hgr.rg _ _ _ (hX.trans (Rg.of_nx hxe)) (Nat.le_refl _))⟩
      case measure => simp [intOf]; omega
    have hlen : (gs0 ++ [y]).length = gs0.length + 1 := by simp
    have Hlen := Lib.hid hlen
    obtain ⟨n1, Hn1⟩ : ∃ n1, Hid ((gs0 ++ [y]).length = n1) := ⟨_, rfl⟩
    rw [Hn1.out] at hl9 hrow ⊢
    have HN1 := Lib.hid (Hn1.out.symm.trans hlen)
    have hd : decide (0 < n1) = true := by have := HN1.out; simp; omega
    clear hlen
    go_wp2_with fail
    refine (chanceR_c 3 g A n c (k0 + 6 + 12 * cnt + 3 + 3 + 3) B ys _ (by omega) (by omega) hs (h.rg hX hB (Nat.le_of_lt hz0)) hB hn (by omega)).mono ?_
    rintro e w8 ⟨qb, rfl, hs', hr⟩
    replace hcon7 := hcon7.rg hr (Nat.le_of_lt hs.lt) hgw
    replace hrow := hrow.rg hr hgw
    replace hcho := hcho.rg hr hgw
    replace hS6 := hS6.rgO hr hgw
    replace bG := bG.rg hr (.inr (by omega))
    replace hX := hX.trans hr
    replace hs := hs'
    have hzr := hr.size
    have hzw8 : w.heap.size ≤ w8.heap.size := hX.size
    clear hr hs' d0 d1 d2 d3 dl
    obtain ⟨d0, d1, d2, d3⟩ := bG.d4
    have dl := bG.lt
    cases qb
    · go_wp2_with (at_builtin; refine wpList_addS rfl _ _ rfl w.heap.size w8.heap.size _ (gs0 ++ [y]) ⟨(q : Int), (q : Int) + 1, (tm2 : Int), A6, c6, [((b : Int), (v : Int), o)]⟩ rfl rfl (hrow.nx ((Nx.refl w8).alloc _)) (Box.new w8 _ _) (by rw [Hn1.out]; omega) (Nat.le_trans hzw8 ((Nx.refl w8).alloc _).size) ?_)
      intro A9 k9 w10 hrow10 hgr
      have hxe := (Nx.refl w8).alloc (.cells #[.int .i64 (q : Int), .int .i64 ((q : Int) + 1), .int .i64 (tm2 : Int), .slice A6 1 c6] 30)
      go_wp2
      go_roundw
      case rel =>
        exact ⟨cnt + 1, r - 1, tm2, (gs0 ++ [y]) ++ [⟨(q : Int), (q : Int) + 1, (tm2 : Int), A6, c6, [((b : Int), (v : Int), o)]⟩], A7, c7, app pN x [((b : Int), (v : Int), o)], by omega, by rw [show ((r - 1 : Nat) : Int) = (r : Int) - 1 by omega], by rw [show ((base + (cnt + 1) : Nat) : Int) = (q : Int) + 1 by have := Hq.out; omega], rfl, rfl, _, rfl,
          Cst.of (Cvs.add ST.out hcx A6 c6 Hq.out Htm2.out hdt hq9 htm2 hb8 hv90 Ho.out) ((hcon7.nx hxe (Nat.le_of_lt hs.lt)).grew hgr (by omega)) (by rw [List.append_assoc]; exact hrow10) ((hgr.cho (hcho.nx hxe)).snoc (hgr.sl (hS6.nx hxe) (by decide))) (((hs.nx hxe).grewS hgr).more (by omega)) (hgr.rg _ _ _ (hX.trans (Rg.of_nx hxe)) (Nat.le_refl _))⟩
      case measure => simp [intOf]; omega
    obtain ⟨gr, hgr0⟩ : ∃ gr, Au = some ⟨gr, 0, none⟩ := by
      obtain ⟨A', c', e, hsl⟩ := hrow.sl
      injection e with e1 _ _
      subst e1
      obtain ⟨g', e2, _⟩ := hsl (by rw [Hlen.out]; omega)
      exact ⟨g', e2⟩
    subst hgr0
    obtain ⟨hchi, hSy⟩ := hcho.init
    replace hrow : RowS w8 w.heap.size (.slice (some ⟨gr, 0, none⟩) (gs0.length + 1) cu) (gs0 ++ [y]) := by rw [← HN1.out]; exact hrow
    obtain ⟨l0, l1, l2, l3, lf, lB, ll⟩ := hrow.last
    obtain ⟨m, Hm⟩ : ∃ m, Hid (gs0.length = m) := ⟨_, rfl⟩
    rw [Hm.out] at l0 l1 l2 l3
    have hsub : (n1 : Int) - 1 = (m : Int) := by have := HN1.out; have := Hm.out; omega
    have hjn : (m : Int) < (n1 : Int) := by omega
    have hyok : chsB y.cs = true := segB_chs (ST.out.2.1.init.2.seg)
    obtain ⟨yf, yt, ym, yA, yc, ycs⟩ := y
    simp only at l0 l1 l2 l3 hSy hyok
    have hxd : Nx w8 w8.drew := (Nx.refl w8).drew
    replace hcon7 := hcon7.nx hxd (Nat.le_of_lt hs.lt)
    replace hrow := hrow.nx hxd
    replace hchi := hchi.nx hxd
    replace hSy := hSy.nx hxd
    replace hS6 := hS6.nx hxd
    replace bG := bG.nx hxd
    replace hs := hs.nx hxd
    replace hX := hX.trans (Rg.of_nx hxd)
    have m0 : w8.drew.cell? ⟨gr, m * 4, none⟩ = some (.int .i64 yf) := l0
    have m1 : w8.drew.cell? ⟨gr, m * 4 + 1, none⟩ = some (.int .i64 yt) := l1
    have m2 : w8.drew.cell? ⟨gr, m * 4 + 2, none⟩ = some (.int .i64 ym) := l2
    have m3 : w8.drew.cell? ⟨gr, m * 4 + 3, none⟩ = some (.slice yA ycs.length yc) := l3
    have hwm : IntKind.i64.wrap (m : Int) = (m : Int) := IntWalk.i64_in _ (by omega)
    have hzd : w8.drew.heap.size = w8.heap.size := rfl
    have hne : gr ≠ w6.heap.size := fun e => by have := hgr6 gr rfl (by rw [Hlen.out]; omega); omega
    clear d0 d1 d2 d3 l0 l1 l2 l3 hxd
    go_wp2_with fail
    refine wp_region_plan (.t 0 (.t 1 (.t 2 (.t 3 (.t 4 (.t 5 (.t 6 (.t 8 (.c 7 (.c 9 (.t 10 (.c 11 .e)))))))))))) (fun w' => w'.cell? ⟨w6.heap.size, 0, none⟩ = some (.int .i64 (q : Int)) ∧ w'.cell? ⟨w6.heap.size, 1, none⟩ = some (.int .i64 ((q : Int) + 1)) ∧ w'.cell? ⟨w6.heap.size, 2, none⟩ = some (.int .i64 (tm2 : Int)) ∧ w'.cell? ⟨w6.heap.size, 3, none⟩ = some (.slice A6 1 c6)) (by kernel_rfl) (by kernel_rfl) rfl (by kernel_rfl) (fun _ _ d _ _ h => by cases d <;> exact h) (by exact bG.d4) ?_
    simp only [psOf, List.getD_cons_zero, List.getD_cons_succ]
    repeat (first | (refine HP.take (v := ?_) (by rfl) ?_ ?_; rotate_left; (· (intro w hSw; (try dsimp only at hSw); go_simp; try with_reducible rfl)); (try simp only [Act.put, List.setIfInBounds_toArray, List.set_cons_zero, List.set_cons_succ])) | (refine HP.skip (by rfl) ?_; (try simp only [Act.put, List.setIfInBounds_toArray, List.set_cons_zero, List.set_cons_succ])))
    refine HP.call ?_
    refine CallStep.mk (by rfl) (fun K hK => ?_)
    go_simp
    refine hK.out _ _ (by exact bG.d4) ?_
    clear hK K
    try simp only [Act.put, List.setIfInBounds_toArray, List.set_cons_zero, List.set_cons_succ]
    refine HP.call ?_
    refine CallStep.mk (by rfl) (fun K hK => ?_)
    go_simp
    refine (l03Merge_c yf yt ym yA yc ycs (q : Int) ((q : Int) + 1) (tm2 : Int) A6 c6 [((b : Int), (v : Int), o)] _ _ hSy.row hS6.row (Nat.le_refl _) hyok hok).mono ?_; rintro e w9 ⟨A8, c8, rfl, hS8, hx9⟩; replace hcon7 := hcon7.nx hx9 (Nat.le_of_lt hs.lt); replace hrow := hrow.nx hx9; replace hchi := hchi.nx hx9; replace bG := bG.nx hx9; have hzX : w.heap.size ≤ w8.drew.heap.size := hX.size; replace hs := hs.nx hx9; replace hX := hX.trans (Rg.of_nx hx9); replace hS8 := hS8.low (lo' := w.heap.size) hzX; obtain ⟨k0_, k1_, k2_, k3_, nf, nB, nl⟩ := hrow.last; rw [Hm.out] at k0_ k1_ k2_ k3_; simp only at k0_ k1_ k2_ k3_; have nf0 := nf (m * 4); have nf1 := nf (m * 4 + 1); have nf2 := nf (m * 4 + 2); have nf3 := nf (m * 4 + 3); clear m0 m1 m2 m3
    go_wp2_with fail
    refine hK.out _ _ (by exact bG.d4) ?_
    clear hK K
    try simp only [Act.put, List.setIfInBounds_toArray, List.set_cons_zero, List.set_cons_succ]
    repeat (first | (refine HP.take (v := ?_) (by rfl) ?_ ?_; rotate_left; (· (intro w hSw; (try dsimp only at hSw); go_simp; try with_reducible rfl)); (try simp only [Act.put, List.setIfInBounds_toArray, List.set_cons_zero, List.set_cons_succ])) | (refine HP.skip (by rfl) ?_; (try simp only [Act.put, List.setIfInBounds_toArray, List.set_cons_zero, List.set_cons_succ])))
    refine HP.call ?_
    refine CallStep.mk (by rfl) (fun K hK => ?_)
    go_simp
    refine hK.out _ _ (by exact ((((bG.far (p := ⟨gr, m * 4, none⟩) (fun e => hne e.symm) (.int .i64 yf)).far (p := ⟨gr, m * 4 + 1, none⟩) (fun e => hne e.symm) (.int .i64 ((q : Int) + 1))).far (p := ⟨gr, m * 4 + 2, none⟩) (fun e => hne e.symm) (.int .i64 (tm2 : Int))).far (p := ⟨gr, m * 4 + 3, none⟩) (fun e => hne e.symm) (.slice A8 (mrgC ycs [((b : Int), (v : Int), o)]).length c8)).d4) ?_
    clear hK K
    try simp only [Act.put, List.setIfInBounds_toArray, List.set_cons_zero, List.set_cons_succ]
    refine HP.done ?_
    have hput := hrow.put ⟨yf, (q : Int) + 1, (tm2 : Int), A8, c8, mrgC ycs [((b : Int), (v : Int), o)]⟩
    unfold putG at hput
    rw [Hm.out] at hput
    simp only at hput
    generalize (((w9.setCell ⟨gr, m * 4, none⟩ (.int .i64 yf)).setCell ⟨gr, m * 4 + 1, none⟩ (.int .i64 ((q : Int) + 1))).setCell ⟨gr, m * 4 + 2, none⟩ (.int .i64 (tm2 : Int))).setCell ⟨gr, m * 4 + 3, none⟩ (.slice A8 (mrgC ycs [((b : Int), (v : Int), o)]).length c8) = Wf at *
    go_wp2
    go_roundw
    case rel =>
      exact ⟨cnt + 1, r - 1, tm2, gs0 ++ [⟨yf, (q : Int) + 1, (tm2 : Int), A8, c8, mrgC ycs [((b : Int), (v : Int), o)]⟩], A7, c7, app pN x [((b : Int), (v : Int), o)], by omega, by rw [show ((r - 1 : Nat) : Int) = (r : Int) - 1 by omega], by rw [show ((base + (cnt + 1) : Nat) : Int) = (q : Int) + 1 by have := Hq.out; omega], rfl, rfl, _, rfl,
        Cst.of (Cvs.mrg ST.out hcont A8 c8 Hq.out Htm2.out hdt hq9 htm2 hb8 hv90 Ho.out) (hcon7.grew hput.2 (by omega)) (by rw [show n1 = m + 1 by have := HN1.out; have := Hm.out; omega]; exact hput.1) ((hput.2.cho hchi).snoc (hput.2.sl hS8 (by decide))) ((hs.grewS hput.2).more (by omega)) (hput.2.rg _ _ _ hX (Nat.le_refl _))⟩
    case measure => simp [intOf]; omega
end Go.Proofs.Ytjefjngheolmkaa
/- Contract of ChainOK, as the model has it: the walk. Conditions: the segments can be read, and have at most 1048576 changes each. -/
namespace Go.Proofs.Ytjefjngheolmkaa
set_option linter.unusedVariables false
set_option maxRecDepth 100000
open Go.RowKit
theorem last0 {w : World} {g : Nat} (h : Box w g 3 #[.int .i64 (-1), .int .i64 (-1), .int .i64 (-1), .int .i64 (-1), .int .i64 (-1), .int .i64 (-1), .int .i64 (-1), .int .i64 (-1)]) : Own w g 3 8 (lsAt noM) := h.own.congr fun i hi => by
  match i, hi with
  | 0, _ => rfl
  | 1, _ => rfl
  | 2, _ => rfl
  | 3, _ => rfl
  | 4, _ => rfl
  | 5, _ => rfl
  | 6, _ => rfl
  | 7, _ => rfl
theorem ls_set {M N : Int → Option Chg} {n0 : Nat} {q1 q2 : Int} (h : N = fun x => if x = ((n0 : Int), q1, q2).1 then some ((n0 : Int), q1, q2) else M x) : ∀ i, i < 8 → (if i = n0 then Value.int .i64 q1 else lsAt M i) = lsAt N i := by
  intro i _
  rw [h]
  unfold lsAt lastV
  by_cases e : i = n0
  · rw [if_pos e]
    simp [e]
  · rw [if_neg e]
    have : ¬ (i : Int) = (n0 : Int) := by omega
    simp [this]
set_option maxRecDepth 100000 in
set_option maxHeartbeats 4000000 in
theorem specChainOK_c (base : Int) (A : Option Addr) (c B : Nat) (gs : List SgR) (w : World) (h : Sgs w B A gs) (hB : B ≤ w.heap.size) (hn : gs.length ≤ 1048576) (hm : ∀ k, k < gs.length → (gs.getD k sgZ).cs.length ≤ 1048576) :
    Calls Try.prog 46 #[.int .i64 base, .slice A gs.length c] w fun e w' => e = .returned (.bool (chainB base gs)) ∧ Nx w w' := by
  obtain ⟨n, Hn⟩ : ∃ n, Hid (gs.length = n) := ⟨_, rfl⟩
  rw [Hn.out] at hn ⊢
  by_cases hl : n ≤ 4096
  case neg =>
    have HR := Lib.hid (chainB_long (base := base) (gs := gs) (by rw [Hn.out]; exact hl))
    have hd : decide (4096 < (n : Int)) = true := by simp; omega
    go_enter Try.func46, Try.ntmps46
    go_wp2
    go_ret
    exact ⟨by rw [HR.out]; rfl, Nx.refl _⟩
  have hd : decide (4096 < (n : Int)) = false := by simp; omega
  have hb0 := Box.new w 3 #[.int .i64 (-1), .int .i64 (-1), .int .i64 (-1), .int .i64 (-1), .int .i64 (-1), .int .i64 (-1), .int .i64 (-1), .int .i64 (-1)]
  have hown0 := last0 hb0
  have hx0 := (Nx.refl w).alloc (.cells #[.int .i64 (-1), .int .i64 (-1), .int .i64 (-1), .int .i64 (-1), .int .i64 (-1), .int .i64 (-1), .int .i64 (-1), .int .i64 (-1)] 3)
  clear hb0
  go_enter Try.func46, Try.ntmps46
  go_wp2_with fail
  generalize w.alloc (.cells #[.int .i64 (-1), .int .i64 (-1), .int .i64 (-1), .int .i64 (-1), .int .i64 (-1), .int .i64 (-1), .int .i64 (-1), .int .i64 (-1)] 3) = W at *
  go_loopw [0, 6] (fun a0 i wr => ∃ k : Nat, k ≤ n ∧ i = .int .i64 k ∧ a0 = .int .i64 (atK base gs k) ∧ Own wr w.heap.size 3 8 (lsAt (mpK gs k)) ∧ LnTo base gs k ∧ Nx w wr) (fun _ i _ => n - (intOf i).toNat)
  case atStart => exact ⟨0, Nat.zero_le _, rfl, rfl, hown0, LnTo.zero _ _, hx0⟩
  case round =>
    obtain ⟨k, hk, rfl, rfl, hown, hln, hnx⟩ := hrel
    obtain ⟨wo, hwo⟩ : ∃ x, x = wr := ⟨_, rfl⟩
    subst hwo
    clear hown0 hx0
    by_cases hlt : k < n
    case neg =>
      obtain rfl : k = n := by omega
      have HR := Lib.hid (show inB 0 999999 (atK base gs k) = chainB base gs by rw [LnTo.chain (by rw [Hn.out]; exact hln) (by rw [Hn.out]; exact hl)]; exact hln.end_)
      go_wp2_with fail
      refine (l01In_c _ _ _ _).mono ?_
      rintro e w' ⟨rfl, rfl⟩
      rw [HR.out]
      go_wp2
      go_ret
      exact ⟨rfl, hnx⟩
    have hlk : k < gs.length := by rw [Hn.out]; exact hlt
    obtain ⟨b, off, rfl, hb, p0, p1, p2, p3⟩ := (h.below hnx hB).row.at4 hlk
    have hrow := (h.below hnx hB).row
    have hch := (h.below hnx hB).chs k hlk
    have hmk' := hm k hlk
    have HNo := Lib.hid (fun (hh : lnk base gs k = false) => chainB_no hlk hh)
    have HYes := Lib.hid (fun (hh : lnk base gs k = true) => hln.succ hh)
    have HA := Lib.hid (show atK base gs (k + 1) = (gs.getD k sgZ).t from rfl)
    have HM := Lib.hid (show mpK gs (k + 1) = noteM (mpK gs k) (gs.getD k sgZ).cs from rfl)
    have HNN := Lib.hid (LnTo.nonN k hln)
    have HPr : ∀ j, k = j + 1 → wo.cell? ⟨b, off + j * 4 + 2, none⟩ = some (.int .i64 (tmK gs k)) := by
      rintro j rfl
      obtain ⟨b', off', e, _, _, _, q2, _⟩ := hrow.at4 (k := j) (by omega)
      injection e with e
      injection e with e1 e2 _
      subst e1 e2
      exact q2
    clear hln hrow
    obtain ⟨⟨f, t, m, A2, cc, cs⟩, Hs⟩ : ∃ s, Hid (gs.getD k sgZ = s) := ⟨_, rfl⟩
    rw [Hs.out] at p0 p1 p2 p3 hch hmk' HA HM
    simp only at p0 p1 p2 p3 hch hmk'
    have bG := Box.new wo 30 #[.int .i64 f, .int .i64 t, .int .i64 m, .slice A2 cs.length cc]
    have hxa := (Nx.refl wo).alloc (.cells #[.int .i64 f, .int .i64 t, .int .i64 m, .slice A2 cs.length cc] 30)
    have hltw := hown.lt
    obtain ⟨a0, Ha⟩ : ∃ q, Hid (atK base gs k = q) := ⟨_, rfl⟩
    obtain ⟨t0, Ht⟩ : ∃ q, Hid (tmK gs k = q) := ⟨_, rfl⟩
    obtain ⟨M, HMk⟩ : ∃ q, Hid (mpK gs k = q) := ⟨_, rfl⟩
    rw [Ha.out]
    rw [HMk.out] at hown HM HNN
    have HBad := Lib.hid (fun hh => HNo.out (lnk_bad (base := base) Hs.out hh))
    have HGood := Lib.hid (fun h1 h2 h3 h4 => HYes.out (lnk_yes (base := base) Hs.out h1 h2 h3 h4))
    rw [Ha.out, Ht.out, HMk.out] at HBad HGood
    rw [Ht.out] at HPr
    have HT0 : k = 0 → inB 0 999999 m = true → t0 ≤ m := by
      rintro rfl hh
      rw [← Ht.out]
      exact tmK_zero hh
    clear HNo HYes hm
    go_wp2_with fail
    generalize hWa : wo.alloc (.cells #[.int .i64 f, .int .i64 t, .int .i64 m, .slice A2 cs.length cc] 30) = wa at *
    clear hWa p0 p1 p2 p3
    have hszB0 := Nat.le_trans hB hnx.size
    have hch0 := h.chs k hlk
    rw [Hs.out] at hch0
    simp only at hch0
    have hnxa : Nx w wa.drew := (hnx.trans hxa).drew
    have hszB : B ≤ wa.drew.heap.size := Nat.le_trans hB hnxa.size
    have hchd : Chs wa.drew B A2 cs := hch0.below hnxa hB
    replace hown : Own wa.drew w.heap.size 3 8 (lsAt M) := hown.nx (hxa.drew)
    have hbw : b < wa.drew.heap.size := by have : wa.drew.heap.size = wa.heap.size := rfl; have := hxa.size; omega
    have hPr1 : ∀ j, k = j + 1 → wa.drew.cell? ⟨b, off + j * 4 + 2, none⟩ = some (.int .i64 t0) := fun j hj => (hxa.cell (p := ⟨b, off + j * 4 + 2, none⟩) (by simp; omega)).trans (HPr j hj)
    replace bG : Box wa.drew wo.heap.size 30 #[.int .i64 f, .int .i64 t, .int .i64 m, .slice A2 cs.length cc] := bG
    have hwr : wo.heap.size < wa.drew.heap.size := bG.lt
    clear HPr hch
    cases hsb : segB f t m cs
    · have HSB := Lib.hid hsb
      have HR := Lib.hid (HBad.out (.inl hsb))
      clear hsb HBad HGood
      refine wp_region_lex [false, true, false, false, false, false, false, false, false, false, false, false, false, false, false, false, false, false, false, false, false, false, false, false] (fun w' => (w'.cell? ⟨wo.heap.size, 0, none⟩ = some (.int .i64 f) ∧ w'.cell? ⟨wo.heap.size, 1, none⟩ = some (.int .i64 t) ∧ w'.cell? ⟨wo.heap.size, 2, none⟩ = some (.int .i64 m) ∧ w'.cell? ⟨wo.heap.size, 3, none⟩ = some (.slice A2 cs.length cc))) (by kernel_rfl) (by kernel_rfl) rfl (by kernel_rfl) (fun _ _ d _ _ h => by cases d <;> exact h) (by exact bG.d4) ?_
      repeat (first | (refine HL.take (v := ?_) (by rfl) ?_ ?_; rotate_left; (· (intro w hSw; (try dsimp only at hSw); go_simp; try with_reducible rfl)); (try simp only [Act.put, List.setIfInBounds_toArray, List.set_cons_zero, List.set_cons_succ])) | (refine HL.skip (by rfl) ?_; (try simp only [Act.put, List.setIfInBounds_toArray, List.set_cons_zero, List.set_cons_succ])))
      refine HL.call (by rfl) (fun K hK => ?_)
      go_simp
      refine (specSegOK_c f t m A2 cc B cs _ hchd hszB hmk').mono ?_; rintro e w1 ⟨rfl, hx1⟩; rw [HSB.out]
      go_wp2_with fail
      refine hK.out _ _ (by exact (bG.nx hx1).d4) ?_
      clear hK K
      try simp only [Act.put, List.setIfInBounds_toArray, List.set_cons_zero, List.set_cons_succ]
      repeat (first | (refine HL.take (v := ?_) (by rfl) ?_ ?_; rotate_left; (· (intro w hSw; (try dsimp only at hSw); go_simp; try with_reducible rfl)); (try simp only [Act.put, List.setIfInBounds_toArray, List.set_cons_zero, List.set_cons_succ])) | (refine HL.skip (by rfl) ?_; (try simp only [Act.put, List.setIfInBounds_toArray, List.set_cons_zero, List.set_cons_succ])))
      refine HL.done ?_
      go_wp2
      go_ret
      exact ⟨by rw [HR.out]; rfl, hnxa.trans hx1⟩
    have HSB := Lib.hid hsb
    have hok : chsB cs = true := segB_chs hsb
    have hmr := (segB_range hsb).2.2.1
    clear hsb
    by_cases hfa : f = a0
    case neg =>
      have HR := Lib.hid (HBad.out (.inr (.inl hfa)))
      have hd1 : (f != a0) = true := by simp [hfa]
      clear HBad HGood hfa
      refine wp_region_lex [false, true, false, false, false, false, false, false, false, false, false, false, false, false, false, false, false, false, false, false, false, false, false, false] (fun w' => (w'.cell? ⟨wo.heap.size, 0, none⟩ = some (.int .i64 f) ∧ w'.cell? ⟨wo.heap.size, 1, none⟩ = some (.int .i64 t) ∧ w'.cell? ⟨wo.heap.size, 2, none⟩ = some (.int .i64 m) ∧ w'.cell? ⟨wo.heap.size, 3, none⟩ = some (.slice A2 cs.length cc))) (by kernel_rfl) (by kernel_rfl) rfl (by kernel_rfl) (fun _ _ d _ _ h => by cases d <;> exact h) (by exact bG.d4) ?_
      repeat (first | (refine HL.take (v := ?_) (by rfl) ?_ ?_; rotate_left; (· (intro w hSw; (try dsimp only at hSw); go_simp; try with_reducible rfl)); (try simp only [Act.put, List.setIfInBounds_toArray, List.set_cons_zero, List.set_cons_succ])) | (refine HL.skip (by rfl) ?_; (try simp only [Act.put, List.setIfInBounds_toArray, List.set_cons_zero, List.set_cons_succ])))
      refine HL.call (by rfl) (fun K hK => ?_)
      go_simp
      refine (specSegOK_c f t m A2 cc B cs _ hchd hszB hmk').mono ?_; rintro e w1 ⟨rfl, hx1⟩; rw [HSB.out]
      go_wp2_with fail
      refine hK.out _ _ (by exact (bG.nx hx1).d4) ?_
      clear hK K
      try simp only [Act.put, List.setIfInBounds_toArray, List.set_cons_zero, List.set_cons_succ]
      repeat (first | (refine HL.take (v := ?_) (by rfl) ?_ ?_; rotate_left; (· (intro w hSw; (try dsimp only at hSw); go_simp; try with_reducible rfl)); (try simp only [Act.put, List.setIfInBounds_toArray, List.set_cons_zero, List.set_cons_succ])) | (refine HL.skip (by rfl) ?_; (try simp only [Act.put, List.setIfInBounds_toArray, List.set_cons_zero, List.set_cons_succ])))
      refine HL.done ?_
      go_wp2
      go_ret
      exact ⟨by rw [HR.out]; rfl, hnxa.trans hx1⟩
    have hd1 : (f != a0) = false := by simp [hfa]
    have HFA := Lib.hid hfa
    clear hfa
    rcases Nat.eq_zero_or_pos k with hk0 | hk0
    · have HTM := Lib.hid (HT0 hk0 hmr)
      have hd2 : decide (0 < k) = false := by simp; omega
      have HGd := Lib.hid (fun h4 => HGood.out HSB.out HFA.out HTM.out h4)
      have HBd := Lib.hid (fun h4 => HBad.out (.inr (.inr (.inr h4))))
      clear HBad HGood HT0 hPr1 hk0
      refine wp_region_lex [false, true, false, false, false, false, false, false, false, false, false, false, false, false, false, false, false, false, false, false, false, false, false, false] (fun w' => (w'.cell? ⟨wo.heap.size, 0, none⟩ = some (.int .i64 f) ∧ w'.cell? ⟨wo.heap.size, 1, none⟩ = some (.int .i64 t) ∧ w'.cell? ⟨wo.heap.size, 2, none⟩ = some (.int .i64 m) ∧ w'.cell? ⟨wo.heap.size, 3, none⟩ = some (.slice A2 cs.length cc))) (by kernel_rfl) (by kernel_rfl) rfl (by kernel_rfl) (fun _ _ d _ _ h => by cases d <;> exact h) (by exact bG.d4) ?_
      repeat (first | (refine HL.take (v := ?_) (by rfl) ?_ ?_; rotate_left; (· (intro w hSw; (try dsimp only at hSw); go_simp; try with_reducible rfl)); (try simp only [Act.put, List.setIfInBounds_toArray, List.set_cons_zero, List.set_cons_succ])) | (refine HL.skip (by rfl) ?_; (try simp only [Act.put, List.setIfInBounds_toArray, List.set_cons_zero, List.set_cons_succ])))
      refine HL.call (by rfl) (fun K hK => ?_)
      go_simp
      refine (specSegOK_c f t m A2 cc B cs _ hchd hszB hmk').mono ?_; rintro e w1 ⟨rfl, hx1⟩; rw [HSB.out]
      go_wp2_with fail
      refine hK.out _ _ (by exact (bG.nx hx1).d4) ?_
      clear hK K
      try simp only [Act.put, List.setIfInBounds_toArray, List.set_cons_zero, List.set_cons_succ]
      repeat (first | (refine HL.take (v := ?_) (by rfl) ?_ ?_; rotate_left; (· (intro w hSw; (try dsimp only at hSw); go_simp; try with_reducible rfl)); (try simp only [Act.put, List.setIfInBounds_toArray, List.set_cons_zero, List.set_cons_succ])) | (refine HL.skip (by rfl) ?_; (try simp only [Act.put, List.setIfInBounds_toArray, List.set_cons_zero, List.set_cons_succ])))
      refine HL.done ?_
      have hX1 := hnxa.trans hx1
      have bG1 := bG.nx hx1
      have hown1 := hown.nx hx1
      clear bG hown hchd hnxa hx1 hszB hbw
      obtain ⟨c0, c1, c2, c3⟩ := bG1.d4
      go_wp2_with fail
      go_loopw [8] (fun i ws => ∃ j2 : Nat, j2 ≤ cs.length ∧ i = .int .i64 j2 ∧ Own ws w.heap.size 3 8 (lsAt (noteM M (cs.take j2))) ∧ Box ws wo.heap.size 30 #[.int .i64 f, .int .i64 t, .int .i64 m, .slice A2 cs.length cc] ∧ OnTo M cs j2 ∧ Nx w ws) (fun i _ => cs.length - (intOf i).toNat)
      case atStart => exact ⟨0, Nat.zero_le _, rfl, hown1, bG1, OnTo.zero _ _, hX1⟩
      case round =>
        obtain ⟨j2, hj2, rfl, hown, bG, hon, hnx2⟩ := hrel
        obtain ⟨ws, hws⟩ : ∃ x, x = wr := ⟨_, rfl⟩
        subst hws
        clear c0 c1 c2 c3 hX1 bG1 hown1
        obtain ⟨c0, c1, c2, c3⟩ := bG.d4
        by_cases hlt2 : j2 < cs.length
        case neg =>
          obtain rfl : j2 = cs.length := by omega
          have HL2 := Lib.hid (HGd.out hon.all)
          rw [List.take_length] at hown
          go_wp2
          go_roundw
          case rel => exact ⟨k + 1, by omega, by go_num, by rw [HA.out], by rw [HM.out]; exact hown, HL2.out, hnx2⟩
          case measure => simp [intOf]; omega
        obtain ⟨b2, off2, rfl, hb2, k0, k1, k2⟩ := (hch0.below hnx2 hB).at_ hlt2
        obtain ⟨hr0, hr1⟩ := (chsB_to hok).rise j2 hlt2
        have HNt := Lib.hid (noteM_at M (chsB_to hok) hlt2)
        have HNs := Lib.hid (noteM_succ M cs hlt2)
        have HoN := Lib.hid (fun (hh : onC M (cs.getD j2 chZ) = false) => HBd.out (onB_no hlt2 hh))
        have HoY := Lib.hid (fun (hh : onC M (cs.getD j2 chZ) = true) => hon.succ hh)
        obtain ⟨⟨q0, q1, q2⟩, Hq⟩ : ∃ q, Hid (cs.getD j2 chZ = q) := ⟨_, rfl⟩
        rw [Hq.out] at k0 k1 k2 hr0 hr1 HNt HNs HoN HoY
        rw [onC_val HNN.out] at HoN HoY
        simp only at hr0 hr1 k0 k1 k2
        obtain ⟨n0, rfl⟩ : ∃ n : Nat, q0 = n := ⟨q0.toNat, by omega⟩
        have hn0 : n0 < 8 := by omega
        have hn1 : (n0 : Int) < 8 := by omega
        obtain ⟨x, Hx⟩ : ∃ x, Hid (lastV M (n0 : Int) = x) := ⟨_, rfl⟩
        rw [Hx.out] at HoN HoY
        have hv : ws.cell? ⟨w.heap.size, n0, none⟩ = some (.int .i64 x) := by
          have h1 := hown.cell hn0
          unfold lsAt lastV at h1
          rw [HNt.out] at h1
          rw [← Hx.out]
          exact h1
        clear hon hr0 hr1 HNt
        have bC := Box.new ws 75 #[.int .i64 (n0 : Int), .int .i64 q1, .int .i64 q2]
        have hxc := (Nx.refl ws).alloc (.cells #[.int .i64 (n0 : Int), .int .i64 q1, .int .i64 q2] 75)
        go_wp2_with fail
        have hownS := hown
        have bGS := bG
        have hwl := hown.lt
        have hv1 : (ws.alloc (.cells #[.int .i64 (n0 : Int), .int .i64 q1, .int .i64 q2] 75)).drew.cell? ⟨w.heap.size, n0, none⟩ = some (.int .i64 x) := (hxc.cell (p := ⟨w.heap.size, n0, none⟩) hown.lt).trans hv
        replace hown : Own (ws.alloc (.cells #[.int .i64 (n0 : Int), .int .i64 q1, .int .i64 q2] 75)).drew w.heap.size 3 8 (lsAt (noteM M (cs.take j2))) := hown.nx hxc.drew
        replace bG : Box (ws.alloc (.cells #[.int .i64 (n0 : Int), .int .i64 q1, .int .i64 q2] 75)).drew wo.heap.size 30 #[.int .i64 f, .int .i64 t, .int .i64 m, .slice (some ⟨b2, off2, none⟩) cs.length cc] := bG.nx hxc.drew
        replace bC : Box (ws.alloc (.cells #[.int .i64 (n0 : Int), .int .i64 q1, .int .i64 q2] 75)).drew ws.heap.size 75 #[.int .i64 (n0 : Int), .int .i64 q1, .int .i64 q2] := bC
        have hnx3 : Nx w (ws.alloc (.cells #[.int .i64 (n0 : Int), .int .i64 q1, .int .i64 q2] 75)).drew := (hnx2.trans hxc).drew
        clear c0 c1 c2 c3 k0 k1 k2 hv
        by_cases hx0 : x < 0
        · have hd5 : decide (0 ≤ x) = false := by simp; omega
          have HO := Lib.hid (HoY.out (by rw [decide_eq_true hx0]; rfl))
          clear hx0 HoN HoY
          refine wp_region_lex [false, false, false, false, false, false, false, false, false, false, false, false, false, false, false, false] (fun w' => (w'.cell? ⟨ws.heap.size, 0, none⟩ = some (.int .i64 (n0 : Int)) ∧ w'.cell? ⟨ws.heap.size, 1, none⟩ = some (.int .i64 q1) ∧ w'.cell? ⟨ws.heap.size, 2, none⟩ = some (.int .i64 q2)) ∧ w'.cell? ⟨w.heap.size, n0, none⟩ = some (.int .i64 x)) (by kernel_rfl) (by kernel_rfl) rfl (by kernel_rfl) (fun _ _ d _ _ h => by cases d <;> exact h) (by exact ⟨bC.d3, hv1⟩) ?_
          repeat (first | (refine HL.take (v := ?_) (by rfl) ?_ ?_; rotate_left; (· (intro w hSw; (try dsimp only at hSw); go_simp; try with_reducible rfl)); (try simp only [Act.put, List.setIfInBounds_toArray, List.set_cons_zero, List.set_cons_succ])) | (refine HL.skip (by rfl) ?_; (try simp only [Act.put, List.setIfInBounds_toArray, List.set_cons_zero, List.set_cons_succ])))
          refine HL.done ?_
          obtain ⟨e0, e1, e2⟩ := bC.d3
          have hz := hown.frozen n0
          clear hown bG hnx3
          go_wp2
          go_roundw
          case rel =>
            refine ⟨j2 + 1, by omega, by go_num, ?_, (bGS.far (p := ⟨w.heap.size, n0, none⟩) (by simp; omega) _).alloc _, HO.out, ((hnx2.setCell (p := ⟨w.heap.size, n0, none⟩) (Nat.le_refl _) _).alloc _).drew⟩
            exact ((hownS.set hn0 (.int .i64 q1)).alloc _).congr (ls_set HNs.out)
          case measure => simp [intOf]; omega
        have hd5 : decide (0 ≤ x) = true := by simp; omega
        by_cases hxq : x = q2
        · have hd6 : (x != q2) = false := by simp [hxq]
          have HO := Lib.hid (HoY.out (by rw [decide_eq_true hxq]; simp))
          clear hx0 hxq HoN HoY
          refine wp_region_lex [false, false, false, false, false, false, false, false, false, false, false, false, false, false, false, false] (fun w' => (w'.cell? ⟨ws.heap.size, 0, none⟩ = some (.int .i64 (n0 : Int)) ∧ w'.cell? ⟨ws.heap.size, 1, none⟩ = some (.int .i64 q1) ∧ w'.cell? ⟨ws.heap.size, 2, none⟩ = some (.int .i64 q2)) ∧ w'.cell? ⟨w.heap.size, n0, none⟩ = some (.int .i64 x)) (by kernel_rfl) (by kernel_rfl) rfl (by kernel_rfl) (fun _ _ d _ _ h => by cases d <;> exact h) (by exact ⟨bC.d3, hv1⟩) ?_
          repeat (first | (refine HL.take (v := ?_) (by rfl) ?_ ?_; rotate_left; (· (intro w hSw; (try dsimp only at hSw); go_simp; try with_reducible rfl)); (try simp only [Act.put, List.setIfInBounds_toArray, List.set_cons_zero, List.set_cons_succ])) | (refine HL.skip (by rfl) ?_; (try simp only [Act.put, List.setIfInBounds_toArray, List.set_cons_zero, List.set_cons_succ])))
          refine HL.done ?_
          obtain ⟨e0, e1, e2⟩ := bC.d3
          have hz := hown.frozen n0
          clear hown bG hnx3
          go_wp2
          go_roundw
          case rel =>
            refine ⟨j2 + 1, by omega, by go_num, ?_, (bGS.far (p := ⟨w.heap.size, n0, none⟩) (by simp; omega) _).alloc _, HO.out, ((hnx2.setCell (p := ⟨w.heap.size, n0, none⟩) (Nat.le_refl _) _).alloc _).drew⟩
            exact ((hownS.set hn0 (.int .i64 q1)).alloc _).congr (ls_set HNs.out)
          case measure => simp [intOf]; omega
        · have hd6 : (x != q2) = true := by simp [hxq]
          have HO := Lib.hid (HoN.out (by rw [decide_eq_false hx0, decide_eq_false hxq]; rfl))
          clear hx0 hxq HoN HoY
          refine wp_region_lex [false, false, false, false, false, false, false, false, false, false, false, false, false, false, false, false] (fun w' => (w'.cell? ⟨ws.heap.size, 0, none⟩ = some (.int .i64 (n0 : Int)) ∧ w'.cell? ⟨ws.heap.size, 1, none⟩ = some (.int .i64 q1) ∧ w'.cell? ⟨ws.heap.size, 2, none⟩ = some (.int .i64 q2)) ∧ w'.cell? ⟨w.heap.size, n0, none⟩ = some (.int .i64 x)) (by kernel_rfl) (by kernel_rfl) rfl (by kernel_rfl) (fun _ _ d _ _ h => by cases d <;> exact h) (by exact ⟨bC.d3, hv1⟩) ?_
          repeat (first | (refine HL.take (v := ?_) (by rfl) ?_ ?_; rotate_left; (· (intro w hSw; (try dsimp only at hSw); go_simp; try with_reducible rfl)); (try simp only [Act.put, List.setIfInBounds_toArray, List.set_cons_zero, List.set_cons_succ])) | (refine HL.skip (by rfl) ?_; (try simp only [Act.put, List.setIfInBounds_toArray, List.set_cons_zero, List.set_cons_succ])))
          refine HL.done ?_
          go_wp2
          go_ret
          exact ⟨by rw [HO.out]; rfl, hnx3⟩
    obtain ⟨j, Hj⟩ : ∃ j, Hid (k = j + 1) := ⟨k - 1, Lib.hid (by omega)⟩
    have hPr := hPr1 j Hj.out
    have hd3 : decide (0 < k) = true := by have := Hj.out; simp; omega
    have hsub : (k : Int) - 1 = (j : Int) := by have := Hj.out; omega
    have hjn : (j : Int) < (n : Int) := by have := Hj.out; omega
    have hwj : IntKind.i64.wrap (j : Int) = (j : Int) := IntWalk.i64_in _ (by omega)
    clear hPr1 HT0 hk0
    by_cases htm : t0 ≤ m
    case neg =>
      have HR := Lib.hid (HBad.out (.inr (.inr (.inl (by omega)))))
      have hd2 : decide (m < t0) = true := by simp; omega
      clear HBad HGood htm
      refine wp_region_lex [false, true, false, false, false, false, false, false, false, false, false, false, false, false, false, false, false, false, false, false, false, false, false, false] (fun w' => (w'.cell? ⟨wo.heap.size, 0, none⟩ = some (.int .i64 f) ∧ w'.cell? ⟨wo.heap.size, 1, none⟩ = some (.int .i64 t) ∧ w'.cell? ⟨wo.heap.size, 2, none⟩ = some (.int .i64 m) ∧ w'.cell? ⟨wo.heap.size, 3, none⟩ = some (.slice A2 cs.length cc)) ∧ w'.cell? ⟨b, off + j * 4 + 2, none⟩ = some (.int .i64 t0)) (by kernel_rfl) (by kernel_rfl) rfl (by kernel_rfl) (fun _ _ d _ _ h => by cases d <;> exact h) (by exact ⟨bG.d4, hPr⟩) ?_
      repeat (first | (refine HL.take (v := ?_) (by rfl) ?_ ?_; rotate_left; (· (intro w hSw; (try dsimp only at hSw); go_simp; try with_reducible rfl)); (try simp only [Act.put, List.setIfInBounds_toArray, List.set_cons_zero, List.set_cons_succ])) | (refine HL.skip (by rfl) ?_; (try simp only [Act.put, List.setIfInBounds_toArray, List.set_cons_zero, List.set_cons_succ])))
      refine HL.call (by rfl) (fun K hK => ?_)
      go_simp
      refine (specSegOK_c f t m A2 cc B cs _ hchd hszB hmk').mono ?_; rintro e w1 ⟨rfl, hx1⟩; rw [HSB.out]
      go_wp2_with fail
      refine hK.out _ _ (by exact ⟨(bG.nx hx1).d4, (hx1.cell (p := ⟨b, off + j * 4 + 2, none⟩) hbw).trans hPr⟩) ?_
      clear hK K
      try simp only [Act.put, List.setIfInBounds_toArray, List.set_cons_zero, List.set_cons_succ]
      repeat (first | (refine HL.take (v := ?_) (by rfl) ?_ ?_; rotate_left; (· (intro w hSw; (try dsimp only at hSw); go_simp; try with_reducible rfl)); (try simp only [Act.put, List.setIfInBounds_toArray, List.set_cons_zero, List.set_cons_succ])) | (refine HL.skip (by rfl) ?_; (try simp only [Act.put, List.setIfInBounds_toArray, List.set_cons_zero, List.set_cons_succ])))
      refine HL.done ?_
      go_wp2
      go_ret
      exact ⟨by rw [HR.out]; rfl, hnxa.trans hx1⟩
    have hd2 : decide (m < t0) = false := by simp; omega
    have HGd := Lib.hid (fun h4 => HGood.out HSB.out HFA.out htm h4)
    have HBd := Lib.hid (fun h4 => HBad.out (.inr (.inr (.inr h4))))
    clear HBad HGood htm
    refine wp_region_lex [false, true, false, false, false, false, false, false, false, false, false, false, false, false, false, false, false, false, false, false, false, false, false, false] (fun w' => (w'.cell? ⟨wo.heap.size, 0, none⟩ = some (.int .i64 f) ∧ w'.cell? ⟨wo.heap.size, 1, none⟩ = some (.int .i64 t) ∧ w'.cell? ⟨wo.heap.size, 2, none⟩ = some (.int .i64 m) ∧ w'.cell? ⟨wo.heap.size, 3, none⟩ = some (.slice A2 cs.length cc)) ∧ w'.cell? ⟨b, off + j * 4 + 2, none⟩ = some (.int .i64 t0)) (by kernel_rfl) (by kernel_rfl) rfl (by kernel_rfl) (fun _ _ d _ _ h => by cases d <;> exact h) (by exact ⟨bG.d4, hPr⟩) ?_
    repeat (first | (refine HL.take (v := ?_) (by rfl) ?_ ?_; rotate_left; (· (intro w hSw; (try dsimp only at hSw); go_simp; try with_reducible rfl)); (try simp only [Act.put, List.setIfInBounds_toArray, List.set_cons_zero, List.set_cons_succ])) | (refine HL.skip (by rfl) ?_; (try simp only [Act.put, List.setIfInBounds_toArray, List.set_cons_zero, List.set_cons_succ])))
    refine HL.call (by rfl) (fun K hK => ?_)
    go_simp
    refine (specSegOK_c f t m A2 cc B cs _ hchd hszB hmk').mono ?_; rintro e w1 ⟨rfl, hx1⟩; rw [HSB.out]
    go_wp2_with fail
    refine hK.out _ _ (by exact ⟨(bG.nx hx1).d4, (hx1.cell (p := ⟨b, off + j * 4 + 2, none⟩) hbw).trans hPr⟩) ?_
    clear hK K
    try simp only [Act.put, List.setIfInBounds_toArray, List.set_cons_zero, List.set_cons_succ]
    repeat (first | (refine HL.take (v := ?_) (by rfl) ?_ ?_; rotate_left; (· (intro w hSw; (try dsimp only at hSw); go_simp; try with_reducible rfl)); (try simp only [Act.put, List.setIfInBounds_toArray, List.set_cons_zero, List.set_cons_succ])) | (refine HL.skip (by rfl) ?_; (try simp only [Act.put, List.setIfInBounds_toArray, List.set_cons_zero, List.set_cons_succ])))
    refine HL.done ?_
    have hX1 := hnxa.trans hx1
    have bG1 := bG.nx hx1
    have hown1 := hown.nx hx1
    clear bG hown hchd hnxa hx1 hszB hbw
    obtain ⟨c0, c1, c2, c3⟩ := bG1.d4
    go_wp2_with fail
    go_loopw [8] (fun i ws => ∃ j2 : Nat, j2 ≤ cs.length ∧ i = .int .i64 j2 ∧ Own ws w.heap.size 3 8 (lsAt (noteM M (cs.take j2))) ∧ Box ws wo.heap.size 30 #[.int .i64 f, .int .i64 t, .int .i64 m, .slice A2 cs.length cc] ∧ OnTo M cs j2 ∧ Nx w ws) (fun i _ => cs.length - (intOf i).toNat)
    case atStart => exact ⟨0, Nat.zero_le _, rfl, hown1, bG1, OnTo.zero _ _, hX1⟩
    case round =>
      obtain ⟨j2, hj2, rfl, hown, bG, hon, hnx2⟩ := hrel
      obtain ⟨ws, hws⟩ : ∃ x, x = wr := ⟨_, rfl⟩
      subst hws
      clear c0 c1 c2 c3 hX1 bG1 hown1
      obtain ⟨c0, c1, c2, c3⟩ := bG.d4
      by_cases hlt2 : j2 < cs.length
      case neg =>
        obtain rfl : j2 = cs.length := by omega
        have HL2 := Lib.hid (HGd.out hon.all)
        rw [List.take_length] at hown
        go_wp2
        go_roundw
        case rel => exact ⟨k + 1, by omega, by go_num, by rw [HA.out], by rw [HM.out]; exact hown, HL2.out, hnx2⟩
        case measure => simp [intOf]; omega
      obtain ⟨b2, off2, rfl, hb2, k0, k1, k2⟩ := (hch0.below hnx2 hB).at_ hlt2
      obtain ⟨hr0, hr1⟩ := (chsB_to hok).rise j2 hlt2
      have HNt := Lib.hid (noteM_at M (chsB_to hok) hlt2)
      have HNs := Lib.hid (noteM_succ M cs hlt2)
      have HoN := Lib.hid (fun (hh : onC M (cs.getD j2 chZ) = false) => HBd.out (onB_no hlt2 hh))
      have HoY := Lib.hid (fun (hh : onC M (cs.getD j2 chZ) = true) => hon.succ hh)
      obtain ⟨⟨q0, q1, q2⟩, Hq⟩ : ∃ q, Hid (cs.getD j2 chZ = q) := ⟨_, rfl⟩
      rw [Hq.out] at k0 k1 k2 hr0 hr1 HNt HNs HoN HoY
      rw [onC_val HNN.out] at HoN HoY
      simp only at hr0 hr1 k0 k1 k2
      obtain ⟨n0, rfl⟩ : ∃ n : Nat, q0 = n := ⟨q0.toNat, by omega⟩
      have hn0 : n0 < 8 := by omega
      have hn1 : (n0 : Int) < 8 := by omega
      obtain ⟨x, Hx⟩ : ∃ x, Hid (lastV M (n0 : Int) = x) := ⟨_, rfl⟩
      rw [Hx.out] at HoN HoY
      have hv : ws.cell? ⟨w.heap.size, n0, none⟩ = some (.int .i64 x) := by
        have h1 := hown.cell hn0
        unfold lsAt lastV at h1
        rw [HNt.out] at h1
        rw [← Hx.out]
        exact h1
      clear hon hr0 hr1 HNt
      have bC := Box.new ws 75 #[.int .i64 (n0 : Int), .int .i64 q1, .int .i64 q2]
      have hxc := (Nx.refl ws).alloc (.cells #[.int .i64 (n0 : Int), .int .i64 q1, .int .i64 q2] 75)
      go_wp2_with fail
      have hownS := hown
      have bGS := bG
      have hwl := hown.lt
      have hv1 : (ws.alloc (.cells #[.int .i64 (n0 : Int), .int .i64 q1, .int .i64 q2] 75)).drew.cell? ⟨w.heap.size, n0, none⟩ = some (.int .i64 x) := (hxc.cell (p := ⟨w.heap.size, n0, none⟩) hown.lt).trans hv
      replace hown : Own (ws.alloc (.cells #[.int .i64 (n0 : Int), .int .i64 q1, .int .i64 q2] 75)).drew w.heap.size 3 8 (lsAt (noteM M (cs.take j2))) := hown.nx hxc.drew
      replace bG : Box (ws.alloc (.cells #[.int .i64 (n0 : Int), .int .i64 q1, .int .i64 q2] 75)).drew wo.heap.size 30 #[.int .i64 f, .int .i64 t, .int .i64 m, .slice (some ⟨b2, off2, none⟩) cs.length cc] := bG.nx hxc.drew
      replace bC : Box (ws.alloc (.cells #[.int .i64 (n0 : Int), .int .i64 q1, .int .i64 q2] 75)).drew ws.heap.size 75 #[.int .i64 (n0 : Int), .int .i64 q1, .int .i64 q2] := bC
      have hnx3 : Nx w (ws.alloc (.cells #[.int .i64 (n0 : Int), .int .i64 q1, .int .i64 q2] 75)).drew := (hnx2.trans hxc).drew
      clear c0 c1 c2 c3 k0 k1 k2 hv
      by_cases hx0 : x < 0
      · have hd5 : decide (0 ≤ x) = false := by simp; omega
        have HO := Lib.hid (HoY.out (by rw [decide_eq_true hx0]; rfl))
        clear hx0 HoN HoY
        refine wp_region_lex [false, false, false, false, false, false, false, false, false, false, false, false, false, false, false, false] (fun w' => (w'.cell? ⟨ws.heap.size, 0, none⟩ = some (.int .i64 (n0 : Int)) ∧ w'.cell? ⟨ws.heap.size, 1, none⟩ = some (.int .i64 q1) ∧ w'.cell? ⟨ws.heap.size, 2, none⟩ = some (.int .i64 q2)) ∧ w'.cell? ⟨w.heap.size, n0, none⟩ = some (.int .i64 x)) (by kernel_rfl) (by kernel_rfl) rfl (by kernel_rfl) (fun _ _ d _ _ h => by cases d <;> exact h) (by exact ⟨bC.d3, hv1⟩) ?_
        repeat (first | (refine HL.take (v := ?_) (by rfl) ?_ ?_; rotate_left; (· (intro w hSw; (try dsimp only at hSw); go_simp; try with_reducible rfl)); (try simp only [Act.put, List.setIfInBounds_toArray, List.set_cons_zero, List.set_cons_succ])) | (refine HL.skip (by rfl) ?_; (try simp only [Act.put, List.setIfInBounds_toArray, List.set_cons_zero, List.set_cons_succ])))
        refine HL.done ?_
        obtain ⟨e0, e1, e2⟩ := bC.d3
        have hz := hown.frozen n0
        clear hown bG hnx3
        go_wp2
        go_roundw
        case rel =>
          refine ⟨j2 + 1, by omega, by go_num, ?_, (bGS.far (p := ⟨w.heap.size, n0, none⟩) (by simp; omega) _).alloc _, HO.out, ((hnx2.setCell (p := ⟨w.heap.size, n0, none⟩) (Nat.le_refl _) _).alloc _).drew⟩
          exact ((hownS.set hn0 (.int .i64 q1)).alloc _).congr (ls_set HNs.out)
        case measure => simp [intOf]; omega
      have hd5 : decide (0 ≤ x) = true := by simp; omega
      by_cases hxq : x = q2
      · have hd6 : (x != q2) = false := by simp [hxq]
        have HO := Lib.hid (HoY.out (by rw [decide_eq_true hxq]; simp))
        clear hx0 hxq HoN HoY
        refine wp_region_lex [false, false, false, false, false, false, false, false, false, false, false, false, false, false, false, false] (fun w' => (w'.cell? ⟨ws.heap.size, 0, none⟩ = some (.int .i64 (n0 : Int)) ∧ w'.cell? ⟨ws.heap.size, 1, none⟩ = some (.int .i64 q1) ∧ w'.cell? ⟨ws.heap.size, 2, none⟩ = some (.int .i64 q2)) ∧ w'.cell? ⟨w.heap.size, n0, none⟩ = some (.int .i64 x)) (by kernel_rfl) (by kernel_rfl) rfl (by kernel_rfl) (fun _ _ d _ _ h => by cases d <;> exact h) (by exact ⟨bC.d3, hv1⟩) ?_
        repeat (first | (refine HL.take (v := ?_) (by rfl) ?_ ?_; rotate_left; (· (intro w hSw; (try dsimp only at hSw); go_simp; try with_reducible rfl)); (try simp only [Act.put, List.setIfInBounds_toArray, List.set_cons_zero, List.set_cons_succ])) | (refine HL.skip (by rfl) ?_; (try simp only [Act.put, List.setIfInBounds_toArray, List.set_cons_zero, List.set_cons_succ])))
        refine HL.done ?_
        obtain ⟨e0, e1, e2⟩ := bC.d3
        have hz := hown.frozen n0
        clear hown bG hnx3
        go_wp2
        go_roundw
        case rel =>
          refine ⟨j2 + 1, by omega, by go_num, ?_, (bGS.far (p := ⟨w.heap.size, n0, none⟩) (by simp; omega) _).alloc _, HO.out, ((hnx2.setCell (p := ⟨w.heap.size, n0, none⟩) (Nat.le_refl _) _).alloc _).drew⟩
          exact ((hownS.set hn0 (.int .i64 q1)).alloc _).congr (ls_set HNs.out)
        case measure => simp [intOf]; omega
      · have hd6 : (x != q2) = true := by simp [hxq]
        have HO := Lib.hid (HoN.out (by rw [decide_eq_false hx0, decide_eq_false hxq]; rfl))
        clear hx0 hxq HoN HoY
        refine wp_region_lex [false, false, false, false, false, false, false, false, false, false, false, false, false, false, false, false] (fun w' => (w'.cell? ⟨ws.heap.size, 0, none⟩ = some (.int .i64 (n0 : Int)) ∧ w'.cell? ⟨ws.heap.size, 1, none⟩ = some (.int .i64 q1) ∧ w'.cell? ⟨ws.heap.size, 2, none⟩ = some (.int .i64 q2)) ∧ w'.cell? ⟨w.heap.size, n0, none⟩ = some (.int .i64 x)) (by kernel_rfl) (by kernel_rfl) rfl (by kernel_rfl) (fun _ _ d _ _ h => by cases d <;> exact h) (by exact ⟨bC.d3, hv1⟩) ?_
        repeat (first | (refine HL.take (v := ?_) (by rfl) ?_ ?_; rotate_left; (· (intro w hSw; (try dsimp only at hSw); go_simp; try with_reducible rfl)); (try simp only [Act.put, List.setIfInBounds_toArray, List.set_cons_zero, List.set_cons_succ])) | (refine HL.skip (by rfl) ?_; (try simp only [Act.put, List.setIfInBounds_toArray, List.set_cons_zero, List.set_cons_succ])))
        refine HL.done ?_
        go_wp2
        go_ret
        exact ⟨by rw [HO.out]; rfl, hnx3⟩
end Go.Proofs.Ytjefjngheolmkaa
/- A list of segments that comes in, opened. Conditions: none. -/
namespace Go.Proofs.Ytjefjngheolmkaa
set_option linter.unusedVariables false
set_option maxRecDepth 100000
open Go.Joins Go.ChangeShapes Go.WideShapes Go.RowKit Go.Deep
section
variable {H : Type} {enc : TypeId × Value → H} {w : World} {base : Nat} {spare : Nat → Bool} {held : Bool}
end
end Go.Proofs.Ytjefjngheolmkaa
/- The walk of the law FnExactChainOK. Conditions: the list that comes in can be read. -/
namespace Go.Proofs.Ytjefjngheolmkaa
set_option linter.unusedVariables false
set_option maxRecDepth 100000
open Go.RowKit
theorem v_parts {gs hs : List SgR} (h : gs.map SgR.v = hs.map SgR.v) (k : Nat) : (gs.getD k sgZ).f = (hs.getD k sgZ).f ∧ (gs.getD k sgZ).t = (hs.getD k sgZ).t ∧ (gs.getD k sgZ).m = (hs.getD k sgZ).m ∧ (gs.getD k sgZ).cs = (hs.getD k sgZ).cs := by
  have := v_at h k
  unfold SgR.v at this
  simp only [Prod.mk.injEq] at this
  exact this
theorem atK_v {gs hs : List SgR} (h : gs.map SgR.v = hs.map SgR.v) (base : Int) : ∀ k, atK base gs k = atK base hs k
  | 0 => rfl
  | k + 1 => (v_parts h k).2.1
theorem tmK_v {gs hs : List SgR} (h : gs.map SgR.v = hs.map SgR.v) : ∀ k, tmK gs k = tmK hs k
  | 0 => rfl
  | k + 1 => (v_parts h k).2.2.1
theorem mpK_v {gs hs : List SgR} (h : gs.map SgR.v = hs.map SgR.v) : ∀ k, mpK gs k = mpK hs k
  | 0 => rfl
  | k + 1 => by
    show noteM (mpK gs k) (gs.getD k sgZ).cs = noteM (mpK hs k) (hs.getD k sgZ).cs
    rw [mpK_v h k, (v_parts h k).2.2.2]
theorem lnk_v {gs hs : List SgR} (h : gs.map SgR.v = hs.map SgR.v) (base : Int) (k : Nat) : lnk base gs k = lnk base hs k := by
  obtain ⟨h1, h2, h3, h4⟩ := v_parts h k
  unfold lnk sgB
  rw [h1, h2, h3, h4, atK_v h, tmK_v h, mpK_v h]
theorem chainB_v {gs hs : List SgR} (h : gs.map SgR.v = hs.map SgR.v) (base : Int) : chainB base gs = chainB base hs := by
  unfold chainB
  rw [v_len h, show lnk base gs = lnk base hs from funext (lnk_v h base)]
theorem v_cs {gs hs : List SgR} (h : gs.map SgR.v = hs.map SgR.v) {n : Nat} (hm : ∀ k, k < hs.length → (hs.getD k sgZ).cs.length ≤ n) : ∀ k, k < gs.length → (gs.getD k sgZ).cs.length ≤ n := fun k hk => by
  rw [(v_parts h k).2.2.2]; exact hm k (by rw [← v_len h]; exact hk)
end Go.Proofs.Ytjefjngheolmkaa
/- The walk of the law FnUndo. Conditions: the bytes that come in can be read. -/
namespace Go.Proofs.Ytjefjngheolmkaa
set_option linter.unusedVariables false
set_option maxRecDepth 100000
open Go.RowKit
set_option maxHeartbeats 1000000 in
theorem chainDrawn_c (A : Option Addr) (n c : Nat) (ys : List Nat) (base : Nat) (Ac : Option Addr) (cc : Nat) (c0 : List Int) (w : World) (h : U8s w w.heap.size A n ys) (hn : n ≤ 1048576) (hc : Ins w w.heap.size Ac c0) (hcont : contB c0 = true) (hb : base ≤ 20) :
    Calls Try.prog 35 #[.slice A n c, .int .i64 (base : Int), .slice Ac 8 cc] w fun e w' => ∃ A' c' gs, e = .returned (.slice A' gs.length c') ∧ gs.length ≤ 9 ∧ SgO w' w.heap.size A' gs ∧ ChI (base : Int) c0 gs ∧ atK (base : Int) gs gs.length ≤ 40 ∧ tmK gs gs.length ≤ 200 ∧ Nx w w' := by
  go_enter Try.func35, Try.ntmps35
  go_wp2_with fail
  refine (l00Source_c A n c _ hn).mono ?_
  rintro e w1 ⟨rfl, s1, hnx1⟩
  have u1 := h.below hnx1 (Nat.le_refl _)
  have hc1 := hc.below hnx1 (Nat.le_refl _)
  go_wp2_with fail
  refine (chain_c w.heap.size A n c w.heap.size 0 base ys Ac cc c0 _ ⟨0, n % 1000, by omega, by omega, s1⟩ u1 (Nat.le_refl _) hn (by omega) hc1 hcont hb).mono ?_
  rintro e w2 ⟨A', c', gs, rfl, h9, hS, hI, hat, htm, hr⟩
  have H9 := Lib.hid h9
  clear h9
  go_wp2
  go_ret
  exact ⟨A', c', gs, rfl, H9.out, hS.low hnx1.size, hI, hat, htm, Rg.nx_of hnx1 hr (Nat.le_refl _)⟩
theorem specForward_yes (A : Option Addr) (c B : Nat) (xs : List Int) (f t m : Int) (A2 : Option Addr) (c2 n : Nat) (cs : List Chg) (w : World) (hl : cs.length = n) (h : Ins w B A xs) (hg : Chs w B A2 cs) (hB : B ≤ w.heap.size) (hc : contB xs = true) (hs : segB f t m cs = true) :
    Calls Try.prog 37 #[.slice A 8 c, .agg #[.int .i64 f, .int .i64 t, .int .i64 m, .slice A2 n c2]] w fun e w' =>
      ∃ A9 c9, e = .returned (.tuple #[.slice A9 8 c9, .int .i64 0]) ∧ SlI w' w.heap.size A9 (app pN xs cs) ∧ Nx w w' := by
  subst hl
  have h8 := (contB_yes hc).1
  have := specForward_c A c B xs f t m A2 c2 cs w h hg hB (len8 hc) (by have := chsB_len (segB_chs hs); omega)
  rw [h8] at this
  refine this.mono fun e w' hR => ?_
  rw [askC_yes hc hs, fwV_yes (by rw [hc, hs]; rfl)] at hR
  obtain ⟨A9, c9, h1, h2, h3⟩ := hR
  exact ⟨A9, c9, by rw [h1, app_len, h8], h2, h3⟩
theorem same8_c (A A2 : Option Addr) (c c2 B : Nat) (xs : List Int) (w : World) (hl : xs.length = 8) (h : Ins w B A xs) (h2 : Ins w B A2 xs) (hB : B ≤ w.heap.size) :
    Calls Try.prog 31 #[.slice A 8 c, .slice A2 8 c2] w fun e w' => e = .returned (.bool true) ∧ Nx w w' := by
  have := sameInts_c A A2 c c2 B xs w h h2 hB (by omega)
  rw [hl] at this
  exact this
theorem content8_c (A : Option Addr) (c B : Nat) (xs : List Int) (w : World) (hc : contB xs = true) (h : Ins w B A xs) (hB : B ≤ w.heap.size) :
    Calls Try.prog 39 #[.slice A 8 c] w fun e w' => e = .returned (.bool true) ∧ Nx w w' := by
  have := implContentOK_c A c B xs w h hB (len8 hc)
  rw [(contB_yes hc).1, hc] at this
  exact this
set_option maxRecDepth 100000 in
set_option maxHeartbeats 8000000 in
theorem lawUndo (A1 : Option Addr) (n1 c1 : Nat) (ys1 : List Nat) (A2 : Option Addr) (n2 c2 : Nat) (ys2 : List Nat) (w : World) (h1 : U8s w w.heap.size A1 n1 ys1) (hn1 : n1 ≤ 2 ^ 63 - 1) (h2 : U8s w w.heap.size A2 n2 ys2) (hn2 : n2 ≤ 2 ^ 63 - 1) :
    Calls Try.prog 7 #[.slice A1 n1 c1, .slice A2 n2 c2] w fun e w' => e = .returned (.bool true) ∧ Nx w w' := by
  by_cases hb1 : n1 ≤ 1048576
  case neg =>
    have d1 : decide (1048576 < (n1 : Int)) = true := by simp; omega
    go_enter Try.func7, Try.ntmps7
    go_wp2
    go_ret
    exact ⟨rfl, Nx.refl _⟩
  have d1 : decide (1048576 < (n1 : Int)) = false := by simp; omega
  by_cases hb2 : n2 ≤ 1048576
  case neg =>
    have d2 : decide (1048576 < (n2 : Int)) = true := by simp; omega
    go_enter Try.func7, Try.ntmps7
    go_wp2
    go_ret
    exact ⟨rfl, Nx.refl _⟩
  have d2 : decide (1048576 < (n2 : Int)) = false := by simp; omega
  go_enter Try.func7, Try.ntmps7
  go_wp2_with fail
  refine (contentDrawn_c A1 n1 c1 ys1 _ h1 hb1).mono ?_
  rintro e w1 ⟨Ac, cc, c0, rfl, hl8, hsm, hC, hx1⟩
  have hcont := hsm.cont hl8
  have HL8 := Lib.hid hl8
  clear hl8 hsm d1 d2
  go_wp2_with fail
  refine (chainDrawn_c A2 n2 c2 ys2 3 Ac cc c0 _ ((h2.below hx1 (Nat.le_refl _)).more hx1.size) hb2 hC.row hcont (by omega)).mono ?_
  rintro e w2 ⟨A', c', gs, rfl, h9, hS, hI, _, _, hx2⟩
  replace hC := hC.nx hx2
  have hX := hx1.trans hx2
  replace hS := hS.low hx1.size
  clear hx1 hx2
  obtain ⟨n, Hn⟩ : ∃ n, Hid (gs.length = n) := ⟨_, rfl⟩
  rw [Hn.out] at h9 ⊢
  have hSr := hS.sgs
  go_wp2_with fail
  go_loopw [7, 8] (fun xv iv wr => ∃ (k : Nat) (Ax : Option Addr) (cx : Nat), k ≤ n ∧ iv = .int .i64 k ∧ xv = .slice Ax 8 cx ∧ SlI wr w.heap.size Ax (ctK c0 gs k) ∧ Nx w2 wr) (fun _ iv _ => n - (intOf iv).toNat)
  case atStart => exact ⟨0, Ac, cc, Nat.zero_le _, rfl, rfl, hC, Nx.refl _⟩
  case round =>
    obtain ⟨k, Ax, cx, hk, rfl, rfl, hx, hnx⟩ := hrel
    by_cases hlt : k < n
    case neg =>
      obtain rfl : n = k := by omega
      go_wp2_with fail
      go_loopw [7, 15] (fun xv iv wr => ∃ (k : Nat) (Ax : Option Addr) (cx : Nat), k ≤ n ∧ iv = .int .i64 ((k : Int) - 1) ∧ xv = .slice Ax 8 cx ∧ SlI wr w.heap.size Ax (ctK c0 gs k) ∧ Nx w2 wr) (fun _ iv _ => (intOf iv + 1).toNat)
      case atStart => exact ⟨_, Ax, cx, Nat.le_refl _, rfl, rfl, hx, hnx⟩
      case round =>
        obtain ⟨k, Ax, cx, hk, rfl, rfl, hx, hnx⟩ := hrel
        rcases k with _ | j
        · have hx0 : SlI wr w.heap.size Ax c0 := hx
          go_wp2_with fail
          refine (same8_c Ax Ac cx cc _ c0 _ HL8.out hx0.row (hC.nx hnx).row (Nat.le_refl _)).mono ?_
          rintro e u1 ⟨rfl, hu1⟩
          replace hnx := hnx.trans hu1
          go_wp2_with fail
          have hco := implChainOK_c 3 A' c' _ gs u1 (hS.nx hnx).sgs (Nat.le_refl _) (by rw [Hn.out]; omega) (fun k hk => by have := chsB_len (segB_chs (hI k hk).seg); omega)
          have hch3 : chainB 3 gs = true := hI.chain hcont (by decide) (by rw [Hn.out]; omega)
          rw [Hn.out, hch3] at hco
          refine hco.mono ?_
          rintro e u2 ⟨rfl, hu2⟩
          replace hnx := hnx.trans hu2
          go_wp2_with fail
          refine (content8_c Ac cc _ c0 _ hcont (hC.nx hnx).row (Nat.le_refl _)).mono ?_
          rintro e u3 ⟨rfl, hu3⟩
          go_wp2
          go_ret
          exact ⟨rfl, hX.trans (hnx.trans hu3)⟩
        rw [show (((j + 1 : Nat) : Int) - 1) = (j : Int) by omega]
        have hzw : w.heap.size ≤ wr.heap.size := Nat.le_trans hX.size hnx.size
        have hlk : j < gs.length := by rw [Hn.out]; omega
        have hjn : (j : Int) < (n : Int) := by omega
        have hj0 : decide (0 ≤ (j : Int)) = true := by simp
        obtain ⟨b, off, hA', hb, p0, p1, p2, p3⟩ := ((hS.nx hnx).sgs).row.at4 hlk
        subst hA'
        have hch := (hS.nx hnx).chs j hlk
        have hsg := (hI j hlk).seg
        have hck1 := hI.cont hcont (j + 1) hlk
        have hun := hI.undo hcont hlk
        obtain ⟨⟨f, t, m, A3, c3, cs⟩, Hs⟩ : ∃ s, Hid (gs.getD j sgZ = s) := ⟨_, rfl⟩
        rw [Hs.out] at p0 p1 p2 p3 hch hsg hun
        simp only at p0 p1 p2 p3 hch hsg hun
        have Hun := Lib.hid hun
        clear hun
        go_wp2_with fail
        refine (backward_yes Ax cx _ (ctK c0 gs (j + 1)) f t m A3 c3 cs.length cs _ rfl hx.row hch.row (Nat.le_refl _) hck1 hsg).mono ?_
        rintro e w3 ⟨A4, c4, rfl, hS4, hx3⟩
        rw [Hun.out] at hS4
        go_wp2
        go_roundw
        case rel => exact ⟨j, A4, c4, by omega, by go_num, rfl, hS4.low hzw, hnx.trans hx3⟩
        case measure => simp [intOf] <;> omega
    have hzw : w.heap.size ≤ wr.heap.size := Nat.le_trans hX.size hnx.size
    have hlk : k < gs.length := by rw [Hn.out]; exact hlt
    obtain ⟨b, off, hA', hb, p0, p1, p2, p3⟩ := ((hS.nx hnx).sgs).row.at4 hlk
    subst hA'
    have hbw : b < wr.heap.size := hb
    have hch := (hS.nx hnx).chs k hlk
    have hsg := (hI k hlk).seg
    have hck := hI.cont hcont k (by omega)
    have hcs : ctK c0 gs (k + 1) = app pN (ctK c0 gs k) (gs.getD k sgZ).cs := rfl
    have hck1 := hI.cont hcont (k + 1) hlk
    have hun := hI.undo hcont hlk
    obtain ⟨⟨f, t, m, A3, c3, cs⟩, Hs⟩ : ∃ s, Hid (gs.getD k sgZ = s) := ⟨_, rfl⟩
    rw [Hs.out] at p0 p1 p2 p3 hch hsg hcs hun
    simp only at p0 p1 p2 p3 hch hsg hcs hun
    obtain ⟨x, Hx⟩ : ∃ x, Hid (ctK c0 gs k = x) := ⟨_, rfl⟩
    obtain ⟨y, Hy⟩ : ∃ y, Hid (ctK c0 gs (k + 1) = y) := ⟨_, rfl⟩
    rw [Hx.out] at hx hck hun hcs
    rw [Hy.out] at hck1 hun hcs
    have Hcs := Lib.hid hcs
    have Hun := Lib.hid hun
    clear hcs hun
    go_wp2_with fail
    refine (forward_yes Ax cx _ x f t m A3 c3 cs.length cs _ rfl hx.row hch.row (Nat.le_refl _) hck hsg).mono ?_
    rintro e w3 ⟨A4, c4, rfl, hS4, hx3⟩
    rw [← Hcs.out] at hS4
    replace hx := hx.nx hx3
    replace hch := hch.nx hx3
    replace p0 := (hx3.cell (p := ⟨b, off + k * 4, none⟩) hbw).trans p0
    replace p1 := (hx3.cell (p := ⟨b, off + k * 4 + 1, none⟩) hbw).trans p1
    replace p2 := (hx3.cell (p := ⟨b, off + k * 4 + 2, none⟩) hbw).trans p2
    replace p3 := (hx3.cell (p := ⟨b, off + k * 4 + 3, none⟩) hbw).trans p3
    replace hbw : b < w3.heap.size := Nat.lt_of_lt_of_le hbw hx3.size
    replace hnx := hnx.trans hx3
    clear hx3
    go_wp2_with fail
    refine (specForward_yes Ax cx _ x f t m A3 c3 cs.length cs _ rfl hx.row hch.row (Nat.le_refl _) hck hsg).mono ?_
    rintro e w4 ⟨A5, c5, rfl, hS5, hx4⟩
    rw [← Hcs.out] at hS5
    replace hx := hx.nx hx4
    replace hch := hch.nx hx4
    replace hS4 := hS4.nx hx4
    replace p0 := (hx4.cell (p := ⟨b, off + k * 4, none⟩) hbw).trans p0
    replace p1 := (hx4.cell (p := ⟨b, off + k * 4 + 1, none⟩) hbw).trans p1
    replace p2 := (hx4.cell (p := ⟨b, off + k * 4 + 2, none⟩) hbw).trans p2
    replace p3 := (hx4.cell (p := ⟨b, off + k * 4 + 3, none⟩) hbw).trans p3
    replace hbw : b < w4.heap.size := Nat.lt_of_lt_of_le hbw hx4.size
    replace hnx := hnx.trans hx4
    clear hx4
    go_wp2_with fail
    refine (backward_yes A4 c4 _ y f t m A3 c3 cs.length cs _ rfl hS4.row hch.row (Nat.le_refl _) hck1 hsg).mono ?_
    rintro e w5 ⟨A6, c6, rfl, hS6, hx5⟩
    rw [Hun.out] at hS6
    replace hx := hx.nx hx5
    replace hch := hch.nx hx5
    replace hS4 := hS4.nx hx5
    replace hS5 := hS5.nx hx5
    replace p0 := (hx5.cell (p := ⟨b, off + k * 4, none⟩) hbw).trans p0
    replace p1 := (hx5.cell (p := ⟨b, off + k * 4 + 1, none⟩) hbw).trans p1
    replace p2 := (hx5.cell (p := ⟨b, off + k * 4 + 2, none⟩) hbw).trans p2
    replace p3 := (hx5.cell (p := ⟨b, off + k * 4 + 3, none⟩) hbw).trans p3
    replace hbw : b < w5.heap.size := Nat.lt_of_lt_of_le hbw hx5.size
    replace hnx := hnx.trans hx5
    clear hx5
    go_wp2_with fail
    refine (same8_c A4 A5 c4 c5 _ y _ (contB_yes hck1).1 hS4.row hS5.row (Nat.le_refl _)).mono ?_
    rintro e w6 ⟨rfl, hx6⟩
    replace hx := hx.nx hx6
    replace hS4 := hS4.nx hx6
    replace hS6 := hS6.nx hx6
    replace hnx := hnx.trans hx6
    clear hx6
    go_wp2_with fail
    refine (same8_c A6 Ax c6 cx _ x _ (contB_yes hck).1 hS6.row hx.row (Nat.le_refl _)).mono ?_
    rintro e w7 ⟨rfl, hx7⟩
    replace hS4 := hS4.nx hx7
    replace hnx := hnx.trans hx7
    clear hx7
    go_wp2_with fail
    refine (content8_c A4 c4 _ y _ hck1 hS4.row (Nat.le_refl _)).mono ?_
    rintro e w8 ⟨rfl, hx8⟩
    replace hS4 := hS4.nx hx8
    replace hnx := hnx.trans hx8
    clear hx8
    go_wp2
    go_roundw
    case rel => exact ⟨k + 1, A4, c4, by omega, by go_num, rfl, by rw [Hy.out]; exact hS4.low hzw, hnx⟩
    case measure => simp [intOf]; omega
end Go.Proofs.Ytjefjngheolmkaa
/- The walk of the law FnMerge. Conditions: the bytes that come in can be read. -/
namespace Go.Proofs.Ytjefjngheolmkaa
set_option linter.unusedVariables false
set_option maxRecDepth 100000
open Go.RowKit
theorem Sl.get {w : World} {lo gy : Nat} {ys : List Int} (h : SlI w lo (some ⟨gy, 0, none⟩) ys) {k : Nat} (hk : k < ys.length) : w.cell? ⟨gy, k, none⟩ = some (.int .i64 (ys.getD k 0)) := by
  obtain ⟨g, e, _, ho⟩ := h (by omega)
  cases e
  exact ho.cell hk
theorem sameInts8_c (A A2 : Option Addr) (c c2 B : Nat) (xs : List Int) (w : World) (hl : xs.length = 8) (h : Ins w B A xs) (h2 : Ins w B A2 xs) (hB : B ≤ w.heap.size) :
    Calls Try.prog 31 #[.slice A 8 c, .slice A2 8 c2] w fun e w' => e = .returned (.bool true) ∧ Nx w w' := by
  have := sameInts_c A A2 c c2 B xs w h h2 hB (by omega)
  rw [hl] at this
  exact this
set_option maxRecDepth 100000 in
set_option maxHeartbeats 8000000 in
theorem lawMerge (A1 : Option Addr) (n1 c1 : Nat) (ys1 : List Nat) (A2 : Option Addr) (n2 c2 : Nat) (ys2 : List Nat) (w : World) (h1 : U8s w w.heap.size A1 n1 ys1) (hn1 : n1 ≤ 2 ^ 63 - 1) (h2 : U8s w w.heap.size A2 n2 ys2) (hn2 : n2 ≤ 2 ^ 63 - 1) :
    Calls Try.prog 8 #[.slice A1 n1 c1, .slice A2 n2 c2] w fun e w' => e = .returned (.bool true) ∧ Nx w w' := by
  by_cases hb1 : n1 ≤ 1048576
  case neg =>
    have d1 : decide (1048576 < (n1 : Int)) = true := by simp; omega
    go_enter Try.func8, Try.ntmps8
    go_wp2
    go_ret
    exact ⟨rfl, Nx.refl _⟩
  have d1 : decide (1048576 < (n1 : Int)) = false := by simp; omega
  by_cases hb2 : n2 ≤ 1048576
  case neg =>
    have d2 : decide (1048576 < (n2 : Int)) = true := by simp; omega
    go_enter Try.func8, Try.ntmps8
    go_wp2
    go_ret
    exact ⟨rfl, Nx.refl _⟩
  have d2 : decide (1048576 < (n2 : Int)) = false := by simp; omega
  go_enter Try.func8, Try.ntmps8
  go_wp2_with fail
  have hX := Nx.refl w
  refine (contentDrawn_c A1 n1 c1 ys1 _ ((h1.below hX (Nat.le_refl _)).more hX.size) hb1).mono ?_
  rintro e w1 ⟨Ac, cc, xs, rfl, hl8, hsm, hC, hx1⟩
  have zhx1 := hx1.size; replace hX := hX.trans hx1; clear hx1
  have hcont := hsm.cont hl8
  have HL8 := Lib.hid hl8
  clear hl8 hsm d1 d2
  go_wp2_with fail
  refine (frameDrawnN_c A1 n1 c1 ys1 _ ((h1.below hX (Nat.le_refl _)).more hX.size) hb1).mono ?_
  rintro e w2 ⟨p, b, v, t, rfl, hf, hx2⟩
  have zhx2 := hx2.size; replace hC := hC.nx hx2; replace hX := hX.trans hx2; clear hx2
  go_wp2_with fail
  have bF := Box.new w2 40 #[.int .i64 (p : Int), .int .i64 (b : Int), .int .i64 (v : Int), .int .i64 (t : Int)]
  have hxa := (Nx.refl w2).alloc (.cells #[.int .i64 (p : Int), .int .i64 (b : Int), .int .i64 (v : Int), .int .i64 (t : Int)] 40)
  have zhxa := hxa.size; replace hC := hC.nx hxa; replace hX := hX.trans hxa; clear hxa
  generalize w2.alloc (.cells #[.int .i64 (p : Int), .int .i64 (b : Int), .int .i64 (v : Int), .int .i64 (t : Int)] 40) = W2 at *
  refine (frameDrawnN_c A2 n2 c2 ys2 _ ((h2.below hX (Nat.le_refl _)).more hX.size) hb2).mono ?_
  rintro e w3 ⟨p2, b2, v2, t2, rfl, hf2, hx3⟩
  have zhx3 := hx3.size; replace hC := hC.nx hx3; replace bF := bF.nx hx3; replace hX := hX.trans hx3; clear hx3
  obtain ⟨fc0, fc1, fc2, fc3⟩ := bF.d4
  have fcl := bF.lt
  go_wp2_with fail
  have bH := Box.new w3 40 #[.int .i64 ((p : Int) + 1), .int .i64 (b2 : Int), .int .i64 (v2 : Int), .int .i64 (t2 : Int)]
  have hxa := (Nx.refl w3).alloc (.cells #[.int .i64 ((p : Int) + 1), .int .i64 (b2 : Int), .int .i64 (v2 : Int), .int .i64 (t2 : Int)] 40)
  have zhxa := hxa.size; replace hC := hC.nx hxa; replace bF := bF.nx hxa; replace hX := hX.trans hxa; clear hxa
  generalize w3.alloc (.cells #[.int .i64 ((p : Int) + 1), .int .i64 (b2 : Int), .int .i64 (v2 : Int), .int .i64 (t2 : Int)] 40) = W3 at *
  clear fc0 fc1 fc2 fc3 fcl
  obtain ⟨o, o2, x1, y1, qs, MVh⟩ := mv hcont hf hf2.2.2
  have MV := Lib.hid MVh
  clear hf hf2 MVh
  refine (segOf_yes Ac cc _ xs p b v t _ hC.row (Nat.le_refl _) hcont MV.out.f1).mono ?_
  rintro e w4 ⟨A3, c3, rfl, hS3, hx4⟩
  rw [Int.toNat_natCast, MV.out.o_] at hS3
  have zhx4 := hx4.size; replace hC := hC.nx hx4; replace bF := bF.nx hx4; replace bH := bH.nx hx4; replace hX := hX.trans hx4; clear hx4
  go_wp2_with fail
  have bP := Box.new w4 30 #[.int .i64 ((p : Int) - 1), .int .i64 (p : Int), .int .i64 (t : Int), .slice A3 1 c3]
  have hxa := (Nx.refl w4).alloc (.cells #[.int .i64 ((p : Int) - 1), .int .i64 (p : Int), .int .i64 (t : Int), .slice A3 1 c3] 30)
  have zhxa := hxa.size; replace hC := hC.nx hxa; replace bF := bF.nx hxa; replace bH := bH.nx hxa; replace hS3 := hS3.nx hxa; replace hX := hX.trans hxa; clear hxa
  generalize w4.alloc (.cells #[.int .i64 ((p : Int) - 1), .int .i64 (p : Int), .int .i64 (t : Int), .slice A3 1 c3] 30) = W4 at *
  refine (forward_yes Ac cc _ xs _ _ _ A3 c3 1 [((b : Int), (v : Int), o)] _ rfl hC.row hS3.row (Nat.le_refl _) hcont MV.out.s1).mono ?_
  rintro e w5 ⟨A4, c4, rfl, hS4, hx5⟩
  rw [MV.out.e1] at hS4
  have zhx5 := hx5.size; replace hC := hC.nx hx5; replace bF := bF.nx hx5; replace bH := bH.nx hx5; replace hS3 := hS3.nx hx5; replace bP := bP.nx hx5; replace hX := hX.trans hx5; clear hx5
  obtain ⟨hc0, hc1, hc2, hc3⟩ := bH.d4
  have hcl := bH.lt
  go_wp2_with fail
  refine (segOf_yes A4 c4 _ x1 _ b2 v2 t2 _ hS4.row (Nat.le_refl _) MV.out.c1 MV.out.f2).mono ?_
  rintro e w6 ⟨A5, c5, rfl, hS5, hx6⟩
  rw [Int.toNat_natCast, MV.out.o2_] at hS5
  rw [show (p : Int) + 1 - 1 = (p : Int) by omega]
  have zhx6 := hx6.size; replace hC := hC.nx hx6; replace bF := bF.nx hx6; replace bH := bH.nx hx6; replace hS3 := hS3.nx hx6; replace bP := bP.nx hx6; replace hS4 := hS4.nx hx6; replace hX := hX.trans hx6; clear hx6
  clear hc0 hc1 hc2 hc3 hcl
  go_wp2_with fail
  have bQ := Box.new w6 30 #[.int .i64 (p : Int), .int .i64 ((p : Int) + 1), .int .i64 (t2 : Int), .slice A5 1 c5]
  have hxa := (Nx.refl w6).alloc (.cells #[.int .i64 (p : Int), .int .i64 ((p : Int) + 1), .int .i64 (t2 : Int), .slice A5 1 c5] 30)
  have zhxa := hxa.size; replace hC := hC.nx hxa; replace bF := bF.nx hxa; replace bH := bH.nx hxa; replace hS3 := hS3.nx hxa; replace bP := bP.nx hxa; replace hS4 := hS4.nx hxa; replace hS5 := hS5.nx hxa; replace hX := hX.trans hxa; clear hxa
  generalize w6.alloc (.cells #[.int .i64 (p : Int), .int .i64 ((p : Int) + 1), .int .i64 (t2 : Int), .slice A5 1 c5] 30) = W6 at *
  refine (forward_yes A4 c4 _ x1 _ _ _ A5 c5 1 [((b2 : Int), (v2 : Int), o2)] _ rfl hS4.row hS5.row (Nat.le_refl _) MV.out.c1 MV.out.s2).mono ?_
  rintro e w7 ⟨A6, c6, rfl, hS6, hx7⟩
  rw [MV.out.e2] at hS6
  have zhx7 := hx7.size; replace hC := hC.nx hx7; replace bF := bF.nx hx7; replace bH := bH.nx hx7; replace hS3 := hS3.nx hx7; replace bP := bP.nx hx7; replace hS4 := hS4.nx hx7; replace hS5 := hS5.nx hx7; replace bQ := bQ.nx hx7; replace hX := hX.trans hx7; clear hx7
  obtain ⟨pc0, pc1, pc2, pc3⟩ := bP.d4
  have pcl := bP.lt
  obtain ⟨qc0, qc1, qc2, qc3⟩ := bQ.d4
  have qcl := bQ.lt
  go_wp2_with fail
  refine (implMergeSegs_c _ _ _ A3 c3 [((b : Int), (v : Int), o)] _ _ _ A5 c5 [((b2 : Int), (v2 : Int), o2)] _ _ hS3.row hS5.row (Nat.le_refl _) (by simp) (by simp)).mono ?_
  intro e w8 hR
  obtain ⟨A7, c7, rfl, hS7, hx8⟩ := hR.un MV.out.g1 MV.out.g2
  have zhx8 := hx8.size; replace hC := hC.nx hx8; replace bF := bF.nx hx8; replace bH := bH.nx hx8; replace hS3 := hS3.nx hx8; replace bP := bP.nx hx8; replace hS4 := hS4.nx hx8; replace hS5 := hS5.nx hx8; replace bQ := bQ.nx hx8; replace hS6 := hS6.nx hx8; replace hX := hX.trans hx8; clear hx8
  clear pc0 pc1 pc2 pc3 pcl qc0 qc1 qc2 qc3 qcl
  obtain ⟨pc0, pc1, pc2, pc3⟩ := bP.d4
  have pcl := bP.lt
  obtain ⟨qc0, qc1, qc2, qc3⟩ := bQ.d4
  have qcl := bQ.lt
  go_wp2_with fail
  have bM := Box.new w8 30 #[.int .i64 ((p : Int) - 1), .int .i64 ((p : Int) + 1), .int .i64 (t2 : Int), .slice A7 qs.length c7]
  have hxa := (Nx.refl w8).alloc (.cells #[.int .i64 ((p : Int) - 1), .int .i64 ((p : Int) + 1), .int .i64 (t2 : Int), .slice A7 qs.length c7] 30)
  have zhxa := hxa.size; replace hC := hC.nx hxa; replace bF := bF.nx hxa; replace bH := bH.nx hxa; replace hS3 := hS3.nx hxa; replace bP := bP.nx hxa; replace hS4 := hS4.nx hxa; replace hS5 := hS5.nx hxa; replace bQ := bQ.nx hxa; replace hS6 := hS6.nx hxa; replace hS7 := hS7.nx hxa; replace hX := hX.trans hxa; clear hxa
  generalize w8.alloc (.cells #[.int .i64 ((p : Int) - 1), .int .i64 ((p : Int) + 1), .int .i64 (t2 : Int), .slice A7 qs.length c7] 30) = W8 at *
  clear pc0 pc1 pc2 pc3 pcl qc0 qc1 qc2 qc3 qcl
  refine (specMergeSegs_c _ _ _ A3 c3 [((b : Int), (v : Int), o)] _ _ _ A5 c5 [((b2 : Int), (v2 : Int), o2)] _ _ hS3.row hS5.row (Nat.le_refl _) (by simp) (by simp)).mono ?_
  intro e w9 hR
  obtain ⟨A8, c8, rfl, hS8, hx9⟩ := hR.un MV.out.g1 MV.out.g2
  have zhx9 := hx9.size; replace hC := hC.nx hx9; replace bF := bF.nx hx9; replace bH := bH.nx hx9; replace hS3 := hS3.nx hx9; replace bP := bP.nx hx9; replace hS4 := hS4.nx hx9; replace hS5 := hS5.nx hx9; replace bQ := bQ.nx hx9; replace hS6 := hS6.nx hx9; replace hS7 := hS7.nx hx9; replace bM := bM.nx hx9; replace hX := hX.trans hx9; clear hx9
  obtain ⟨mc0, mc1, mc2, mc3⟩ := bM.d4
  have mcl := bM.lt
  go_wp2_with fail
  have bW := Box.new w9 30 #[.int .i64 ((p : Int) - 1), .int .i64 ((p : Int) + 1), .int .i64 (t2 : Int), .slice A8 qs.length c8]
  have hxa := (Nx.refl w9).alloc (.cells #[.int .i64 ((p : Int) - 1), .int .i64 ((p : Int) + 1), .int .i64 (t2 : Int), .slice A8 qs.length c8] 30)
  have zhxa := hxa.size; replace hC := hC.nx hxa; replace bF := bF.nx hxa; replace bH := bH.nx hxa; replace hS3 := hS3.nx hxa; replace bP := bP.nx hxa; replace hS4 := hS4.nx hxa; replace hS5 := hS5.nx hxa; replace bQ := bQ.nx hxa; replace hS6 := hS6.nx hxa; replace hS7 := hS7.nx hxa; replace bM := bM.nx hxa; replace hS8 := hS8.nx hxa; replace hX := hX.trans hxa; clear hxa
  generalize w9.alloc (.cells #[.int .i64 ((p : Int) - 1), .int .i64 ((p : Int) + 1), .int .i64 (t2 : Int), .slice A8 qs.length c8] 30) = W9 at *
  clear mc0 mc1 mc2 mc3 mcl
  refine (forward_yes Ac cc _ xs _ _ _ A7 c7 qs.length qs _ rfl hC.row hS7.row (Nat.le_refl _) hcont MV.out.s3).mono ?_
  rintro e w10 ⟨A9, c9, rfl, hS9, hx10⟩
  rw [MV.out.e3] at hS9
  have zhx10 := hx10.size; replace hC := hC.nx hx10; replace bF := bF.nx hx10; replace bH := bH.nx hx10; replace hS3 := hS3.nx hx10; replace bP := bP.nx hx10; replace hS4 := hS4.nx hx10; replace hS5 := hS5.nx hx10; replace bQ := bQ.nx hx10; replace hS6 := hS6.nx hx10; replace hS7 := hS7.nx hx10; replace bM := bM.nx hx10; replace hS8 := hS8.nx hx10; replace bW := bW.nx hx10; replace hX := hX.trans hx10; clear hx10
  obtain ⟨mc0, mc1, mc2, mc3⟩ := bM.d4
  have mcl := bM.lt
  go_wp2_with fail
  clear mc0 mc1 mc2 mc3 mcl
  refine (backward_yes A6 c6 _ y1 _ _ _ A7 c7 qs.length qs _ rfl hS6.row hS7.row (Nat.le_refl _) MV.out.c2 MV.out.s3).mono ?_
  rintro e w11 ⟨A10, c10, rfl, hS10, hx11⟩
  rw [MV.out.e4] at hS10
  have zhx11 := hx11.size; replace hC := hC.nx hx11; replace bF := bF.nx hx11; replace bH := bH.nx hx11; replace hS3 := hS3.nx hx11; replace bP := bP.nx hx11; replace hS4 := hS4.nx hx11; replace hS5 := hS5.nx hx11; replace bQ := bQ.nx hx11; replace hS6 := hS6.nx hx11; replace hS7 := hS7.nx hx11; replace bM := bM.nx hx11; replace hS8 := hS8.nx hx11; replace bW := bW.nx hx11; replace hS9 := hS9.nx hx11; replace hX := hX.trans hx11; clear hx11
  obtain ⟨pc0, pc1, pc2, pc3⟩ := bP.d4
  have pcl := bP.lt
  obtain ⟨qc0, qc1, qc2, qc3⟩ := bQ.d4
  have qcl := bQ.lt
  go_wp2_with fail
  refine (implMergeSegs_c _ _ _ A5 c5 [((b2 : Int), (v2 : Int), o2)] _ _ _ A3 c3 [((b : Int), (v : Int), o)] _ _ hS5.row hS3.row (Nat.le_refl _) (by simp) (by simp)).mono ?_
  intro e w12 hR
  obtain ⟨A11, c11, rfl, hS11, hx12⟩ := hR.un MV.out.g3 MV.out.g4
  have zhx12 := hx12.size; replace hC := hC.nx hx12; replace bF := bF.nx hx12; replace bH := bH.nx hx12; replace hS3 := hS3.nx hx12; replace bP := bP.nx hx12; replace hS4 := hS4.nx hx12; replace hS5 := hS5.nx hx12; replace bQ := bQ.nx hx12; replace hS6 := hS6.nx hx12; replace hS7 := hS7.nx hx12; replace bM := bM.nx hx12; replace hS8 := hS8.nx hx12; replace bW := bW.nx hx12; replace hS9 := hS9.nx hx12; replace hS10 := hS10.nx hx12; replace hX := hX.trans hx12; clear hx12
  clear pc0 pc1 pc2 pc3 pcl qc0 qc1 qc2 qc3 qcl
  obtain ⟨gy, hgy⟩ : ∃ gy, A6 = some ⟨gy, 0, none⟩ := by obtain ⟨g, e, _⟩ := hS6 (by rw [(contB_yes MV.out.c2).1]; omega); exact ⟨g, e⟩
  subst hgy
  have hb28 : b2 < y1.length := by rw [(contB_yes MV.out.c2).1]; have := (frameB_block MV.out.f2).2.1; omega
  have hb29 : (b2 : Int) < 8 := by rw [(contB_yes MV.out.c2).1] at hb28; omega
  clear bP bQ hS3 hS4 hS5
  go_wp2_with fail
  have bZ := Box.new w12 30 #[.int .i64 0, .int .i64 0, .int .i64 0, .slice A11 0 c11]
  have hxa := (Nx.refl w12).alloc (.cells #[.int .i64 0, .int .i64 0, .int .i64 0, .slice A11 0 c11] 30)
  have zhxa := hxa.size; replace hC := hC.nx hxa; replace bF := bF.nx hxa; replace bH := bH.nx hxa; replace hS6 := hS6.nx hxa; replace hS7 := hS7.nx hxa; replace bM := bM.nx hxa; replace hS8 := hS8.nx hxa; replace bW := bW.nx hxa; replace hS9 := hS9.nx hxa; replace hS10 := hS10.nx hxa; replace hX := hX.trans hxa; clear hxa
  generalize w12.alloc (.cells #[.int .i64 0, .int .i64 0, .int .i64 0, .slice A11 0 c11] 30) = W12 at *
  clear bZ
  have hwp : IntKind.i64.wrap ((p : Int) - 1) = (p : Int) - 1 := IntWalk.i64_in _ (by have := frameB_block MV.out.f1; omega)
  have hxd : Nx W12 W12.drew := (Nx.refl W12).drew
  have zhxd := hxd.size; replace hC := hC.nx hxd; replace bF := bF.nx hxd; replace bH := bH.nx hxd; replace hS6 := hS6.nx hxd; replace hS7 := hS7.nx hxd; replace bM := bM.nx hxd; replace hS8 := hS8.nx hxd; replace bW := bW.nx hxd; replace hS9 := hS9.nx hxd; replace hS10 := hS10.nx hxd; replace hX := hX.trans hxd; clear hxd
  clear zhxd
  refine wp_region_lex [false, false, false, false, false, false, false, false, false, false, false, false, false, true, false, false, false, false, false, false, false, false, true, false, false, false, false, false, false, false, false, true, false, false, false, false, false, false, false, false, false, false, false, false, false, false, false, false, false, false, false, false, false, false, false, false, false, false, false, false, false, false, false] (fun w' => (w'.cell? ⟨w2.heap.size, 0, none⟩ = some (.int .i64 (p : Int)) ∧ w'.cell? ⟨w2.heap.size, 1, none⟩ = some (.int .i64 (b : Int)) ∧ w'.cell? ⟨w2.heap.size, 2, none⟩ = some (.int .i64 (v : Int)) ∧ w'.cell? ⟨w2.heap.size, 3, none⟩ = some (.int .i64 (t : Int))) ∧ (w'.cell? ⟨w3.heap.size, 0, none⟩ = some (.int .i64 ((p : Int) + 1)) ∧ w'.cell? ⟨w3.heap.size, 1, none⟩ = some (.int .i64 (b2 : Int)) ∧ w'.cell? ⟨w3.heap.size, 2, none⟩ = some (.int .i64 (v2 : Int)) ∧ w'.cell? ⟨w3.heap.size, 3, none⟩ = some (.int .i64 (t2 : Int))) ∧ (w'.cell? ⟨w8.heap.size, 0, none⟩ = some (.int .i64 ((p : Int) - 1)) ∧ w'.cell? ⟨w8.heap.size, 1, none⟩ = some (.int .i64 ((p : Int) + 1)) ∧ w'.cell? ⟨w8.heap.size, 2, none⟩ = some (.int .i64 (t2 : Int)) ∧ w'.cell? ⟨w8.heap.size, 3, none⟩ = some (.slice A7 qs.length c7)) ∧ (w'.cell? ⟨w9.heap.size, 0, none⟩ = some (.int .i64 ((p : Int) - 1)) ∧ w'.cell? ⟨w9.heap.size, 1, none⟩ = some (.int .i64 ((p : Int) + 1)) ∧ w'.cell? ⟨w9.heap.size, 2, none⟩ = some (.int .i64 (t2 : Int)) ∧ w'.cell? ⟨w9.heap.size, 3, none⟩ = some (.slice A8 qs.length c8)) ∧ w'.cell? ⟨gy, b2, none⟩ = some (.int .i64 (v2 : Int))) (by kernel_rfl) (by kernel_rfl) rfl (by kernel_rfl) (fun _ _ d _ _ h => by cases d <;> exact h) (by exact ⟨bF.d4, bH.d4, bM.d4, bW.d4, (hS6.get hb28).trans (by rw [MV.out.y_])⟩) ?_
  repeat (first | (refine HL.take (v := ?_) (by rfl) ?_ ?_; rotate_left; (· (intro w hSw; (try dsimp only at hSw); go_simp; try with_reducible rfl)); (try simp only [Act.put, List.setIfInBounds_toArray, List.set_cons_zero, List.set_cons_succ])) | (refine HL.skip (by rfl) ?_; (try simp only [Act.put, List.setIfInBounds_toArray, List.set_cons_zero, List.set_cons_succ])))
  refine HL.call (by rfl) (fun K hK => ?_)
  go_simp
  refine (sameSegP_c _ _ _ A7 A8 c7 c8 _ qs _ hS7.row hS8.row (Nat.le_refl _) (by have := MV.out.q8; omega)).mono ?_; rintro e v1 ⟨rfl, hv1⟩; replace hC := hC.nx hv1; replace bF := bF.nx hv1; replace bH := bH.nx hv1; replace hS6 := hS6.nx hv1; replace hS7 := hS7.nx hv1; replace bM := bM.nx hv1; replace hS8 := hS8.nx hv1; replace bW := bW.nx hv1; replace hS9 := hS9.nx hv1; replace hS10 := hS10.nx hv1; replace hX := hX.trans hv1
  go_wp2_with fail
  refine hK.out _ _ (by exact ⟨bF.d4, bH.d4, bM.d4, bW.d4, (hS6.get hb28).trans (by rw [MV.out.y_])⟩) ?_
  clear hK K
  try simp only [Act.put, List.setIfInBounds_toArray, List.set_cons_zero, List.set_cons_succ]
  repeat (first | (refine HL.take (v := ?_) (by rfl) ?_ ?_; rotate_left; (· (intro w hSw; (try dsimp only at hSw); go_simp; try with_reducible rfl)); (try simp only [Act.put, List.setIfInBounds_toArray, List.set_cons_zero, List.set_cons_succ])) | (refine HL.skip (by rfl) ?_; (try simp only [Act.put, List.setIfInBounds_toArray, List.set_cons_zero, List.set_cons_succ])))
  refine HL.call (by rfl) (fun K hK => ?_)
  go_simp
  refine (sameInts8_c A9 _ c9 c6 _ y1 _ (contB_yes MV.out.c2).1 hS9.row hS6.row (Nat.le_refl _)).mono ?_; rintro e v3 ⟨rfl, hv3⟩; replace hC := hC.nx hv3; replace bF := bF.nx hv3; replace bH := bH.nx hv3; replace hS6 := hS6.nx hv3; replace hS7 := hS7.nx hv3; replace bM := bM.nx hv3; replace hS8 := hS8.nx hv3; replace bW := bW.nx hv3; replace hS9 := hS9.nx hv3; replace hS10 := hS10.nx hv3; replace hX := hX.trans hv3
  go_wp2_with fail
  refine hK.out _ _ (by exact ⟨bF.d4, bH.d4, bM.d4, bW.d4, (hS6.get hb28).trans (by rw [MV.out.y_])⟩) ?_
  clear hK K
  try simp only [Act.put, List.setIfInBounds_toArray, List.set_cons_zero, List.set_cons_succ]
  repeat (first | (refine HL.take (v := ?_) (by rfl) ?_ ?_; rotate_left; (· (intro w hSw; (try dsimp only at hSw); go_simp; try with_reducible rfl)); (try simp only [Act.put, List.setIfInBounds_toArray, List.set_cons_zero, List.set_cons_succ])) | (refine HL.skip (by rfl) ?_; (try simp only [Act.put, List.setIfInBounds_toArray, List.set_cons_zero, List.set_cons_succ])))
  refine HL.call (by rfl) (fun K hK => ?_)
  go_simp
  refine (sameInts8_c A10 Ac c10 cc _ xs _ HL8.out hS10.row hC.row (Nat.le_refl _)).mono ?_; rintro e v4 ⟨rfl, hv4⟩; replace hC := hC.nx hv4; replace bF := bF.nx hv4; replace bH := bH.nx hv4; replace hS6 := hS6.nx hv4; replace hS7 := hS7.nx hv4; replace bM := bM.nx hv4; replace hS8 := hS8.nx hv4; replace bW := bW.nx hv4; replace hS9 := hS9.nx hv4; replace hS10 := hS10.nx hv4; replace hX := hX.trans hv4
  go_wp2_with fail
  refine hK.out _ _ (by exact ⟨bF.d4, bH.d4, bM.d4, bW.d4, (hS6.get hb28).trans (by rw [MV.out.y_])⟩) ?_
  clear hK K
  try simp only [Act.put, List.setIfInBounds_toArray, List.set_cons_zero, List.set_cons_succ]
  repeat (first | (refine HL.take (v := ?_) (by rfl) ?_ ?_; rotate_left; (· (intro w hSw; (try dsimp only at hSw); go_simp; try with_reducible rfl)); (try simp only [Act.put, List.setIfInBounds_toArray, List.set_cons_zero, List.set_cons_succ])) | (refine HL.skip (by rfl) ?_; (try simp only [Act.put, List.setIfInBounds_toArray, List.set_cons_zero, List.set_cons_succ])))
  refine HL.done ?_
  go_wp2
  go_ret
  exact ⟨rfl, hX⟩
end Go.Proofs.Ytjefjngheolmkaa
/- append of a whole list of segments onto an empty one of the call's own. Conditions: the list can be read, and has at most 1048576 segments. -/
namespace Go.Proofs.Ytjefjngheolmkaa
set_option linter.unusedVariables false
set_option maxRecDepth 100000
open Go.RowKit
theorem GrewS.refl (B : Nat) (w : World) : GrewS B w w := ⟨fun _ h _ => h, fun _ _ _ h _ => h, fun _ _ _ _ _ h => h, fun _ _ _ _ h => h, Nat.le_refl _, ⟨rfl, rfl, rfl, Nat.le_refl _, fun _ _ => rfl⟩⟩
set_option maxHeartbeats 1000000 in
theorem wpList_addAll {w : World} {ops : Array Oper} {rest : List Oper} {o : Oper} {a : Act} {Q : Exit → Act → World → Prop}
    (hgd : o.guard = none) (s x : Operand) (ho : o.op = .call { callee := .builtin .append, args := #[s, x], argTypes := #[65, 65] })
    (B g0 m : Nat) (A : Option Addr) (c : Nat) (gs : List SgR) (hl : gs.length = m) (hs : a.eval s = .slice (some ⟨g0, 0, none⟩) 0 0) (hx : a.eval x = .slice A m c) (hown : RowS w B (.slice (some ⟨g0, 0, none⟩) 0 0) []) {B' : Nat} (hrow : Row w B' A (gs.length * 4) (sgAt gs))
    (hm : m ≤ 1048576) (hB : B ≤ w.heap.size)
    (hK : ∀ A' k' w', RowS w' B (.slice A' m k') gs → GrewS B w w' → wpList Try.prog ops Q rest (a.put o.dst (.slice A' m k')) w') :
    wpList Try.prog ops Q (o :: rest) a w := by
  obtain ⟨i0, hi0, hz0, hz1, hz2⟩ := info_parts info_sg
  subst hl
  rcases Nat.eq_zero_or_pos gs.length with h0 | hp
  · have hgs : gs = [] := List.eq_nil_of_length_eq_zero h0
    subst hgs
    refine wpList_plain hgd fun K' hK' => ?_
    have hrun : (Builtin.append_ #[65, 65] o.type #[.slice (some ⟨g0, 0, none⟩) 0 0, .slice A 0 c]).run Try.prog w = .ok (.slice (some ⟨g0, 0, none⟩) 0 0) w := by
      rcases A with _ | a'
      · simp [Builtin.append_, run_underlying Try.underlying65, sizeOf, typeInfo, hi0, Builtin.lenOf, Builtin.firstCells, storeCells]
      · simp [Builtin.append_, run_underlying Try.underlying65, sizeOf, typeInfo, hi0, Builtin.lenOf, Builtin.firstCells, storeCells, loadCells, loadCellsFrom]
    have hx' : a.eval x = .slice A 0 c := hx
    unfold Oper.wp execOp
    simp only [ho, resolve, invoke, builtin, Sem.run_bind, Sem.run_pure, Result.andThen_ok, List.map_toArray, List.map_cons, List.map_nil, hs, hx', hrun]
    exact hK' _ _ (hK _ _ w hown (GrewS.refl _ _))
  · obtain ⟨b, off, rfl, hb, hc⟩ := hrow (by omega)
    refine wpList_append_own w hgd s x 65 ho B 30 i0 _ 4 48 Try.underlying65 hi0 hz0 hz1 hz2 rfl (by omega) _ 0 _ hs hown ⟨b, off, none⟩ gs.length c (gVs gs) hx (gVs_len gs) (fun j u hj => ?_) (fun u hu => ?_) (by unfold maxLen; omega) (by omega) hB ?_
    · have hj' : j < gs.length * 4 := by
        have := (List.getElem?_eq_some_iff.1 hj).1
        rwa [gVs_len] at this
      rw [gVs_get gs j hj'] at hj
      rw [addr_add', hc j hj']
      exact hj
    · obtain ⟨j, hj⟩ := List.mem_iff_getElem?.1 hu
      have hj' : j < gs.length * 4 := by
        have := (List.getElem?_eq_some_iff.1 hj).1
        rwa [gVs_len] at this
      rw [gVs_get gs j hj'] at hj
      obtain rfl := Option.some.inj hj
      unfold sgAt
      split
      · rfl
      · split
        · rfl
        · split <;> rfl
    · intro v' w' hw' hg' _
      have hr : RowS w' B v' gs := by
        unfold RowS
        have : w'.ownsRow B 30 4 v' (0 + gs.length) (gVs [] ++ gVs gs) := hw'
        rw [Nat.zero_add] at this
        exact this
      obtain ⟨A', k', rfl, _⟩ := hr.sl
      have hrw : ∀ k, Value.ownBlock (.slice (some ⟨g0, 0, none⟩) 0 0) = some k → B ≤ k := fun k hk => (World.ownsRow.lt hown k hk).1
      have hown' : ∀ g t m f, t ≠ 30 → Own w g t m f → Own w' g t m f := fun g t m f ht ho => ho.of_block (hg'.block g ho.lt (hown.ne ho ht))
      refine hK A' k' w' hr ⟨fun b hb hbB => Below.grown hb hg' hb.size (fun k hk => Nat.le_trans hbB (hrw k hk)), fun lo hi b hb hbB => ?_, hown', fun g t xs ht hbg => ?_, hg'.size, ⟨hg'.os, hg'.tape, hg'.output, hg'.size, fun k hk => hg'.block k (by omega) (fun e => by have := hrw k e.symm; omega)⟩⟩
      · refine ⟨hg'.os.trans hb.os, hg'.tape.trans hb.tape, hg'.output.trans hb.output, Nat.le_trans hb.size hg'.size, fun k hk hr => (hg'.block k (Nat.lt_of_lt_of_le hk hb.size) fun e => ?_).trans (hb.block k hk hr)⟩
        have := hrw k e.symm
        omega
      · exact hbg.grown hg' (hown.ne hbg.own ht)
end Go.Proofs.Ytjefjngheolmkaa
/- append of segments at one operation of a region that draws its order. Conditions: those of each theorem. -/
namespace Go.Proofs.Ytjefjngheolmkaa
set_option linter.unusedVariables false
set_option maxRecDepth 100000
open Go.RowKit
set_option maxHeartbeats 1000000 in
/-- append of one segment at the operation, for the walk. -/
theorem wp_addS {w : World} {o : Oper} {a : Act} {K : Act → World → Prop} {Q : Exit → Act → World → Prop}
    (s x : Operand) (ho : o.op = .call { callee := .builtin .append, args := #[s, x], argTypes := #[65, 65] })
    (B gd : Nat) (v : Value) (gs : List SgR) (g : SgR) (hs : a.eval s = v) (hx : a.eval x = .slice (some ⟨gd, 0, none⟩) 1 1) (hown : RowS w B v gs) (hbx : Box w gd 30 #[.int .i64 g.f, .int .i64 g.t, .int .i64 g.m, .slice g.A g.cs.length g.c])
    (hl : gs.length ≤ 1048576) (hB : B ≤ w.heap.size)
    (hK : ∀ A' k' w', RowS w' B (.slice A' (gs.length + 1) k') (gs ++ [g]) → GrewS B w w' → K (a.put o.dst (.slice A' (gs.length + 1) k')) w') :
    o.wp Try.prog a w K Q := by
  obtain ⟨i0, hi0, hz0, hz1, hz2⟩ := info_parts info_sg
  refine wp_append_own w s x 65 ho B 30 i0 _ 4 48 Try.underlying65 hi0 hz0 hz1 hz2 rfl (by omega) v gs.length _ hs hown ⟨gd, 0, none⟩ 1 1 (gCs g) hx rfl (fun j u hj => ?_) (fun u hu => by unfold gCs at hu; simp only [List.mem_cons, List.not_mem_nil, or_false] at hu; rcases hu with rfl | rfl | rfl | rfl <;> rfl) (by unfold maxLen; omega) (by omega) hB ?_
  · rw [addr_add', Nat.zero_add, hbx.cell j]
    rw [← hj]
    unfold gCs
    rcases j with _ | _ | _ | _ | j <;> simp
  · intro v' w' hw' hg' _
    have hr : RowS w' B v' (gs ++ [g]) := by
      unfold RowS
      rw [gVs_snoc, List.length_append]
      exact hw'
    obtain ⟨A', k', rfl, _⟩ := hr.sl
    rw [List.length_append] at hr ⊢
    have hrow : ∀ k, Value.ownBlock v = some k → B ≤ k := fun k hk => (World.ownsRow.lt hown k hk).1
    have hown' : ∀ g t m f, t ≠ 30 → Own w g t m f → Own w' g t m f := fun g t m f ht ho => ho.of_block (hg'.block g ho.lt (hown.ne ho ht))
    refine hK A' k' w' hr ⟨fun b hb hbB => Below.grown hb hg' hb.size (fun k hk => Nat.le_trans hbB (hrow k hk)), fun lo hi b hb hbB => ?_, hown', fun g t xs ht hbg => ?_, hg'.size, ⟨hg'.os, hg'.tape, hg'.output, hg'.size, fun k hk => hg'.block k (by omega) (fun e => by have := hrow k e.symm; omega)⟩⟩
    · refine ⟨hg'.os.trans hb.os, hg'.tape.trans hb.tape, hg'.output.trans hb.output, Nat.le_trans hb.size hg'.size, fun k hk hr => (hg'.block k (Nat.lt_of_lt_of_le hk hb.size) fun e => ?_).trans (hb.block k hk hr)⟩
      have := hrow k e.symm
      omega
    · exact hbg.grown hg' (hown.ne hbg.own ht)
set_option maxHeartbeats 1000000 in
theorem wp_addAll {w : World} {o : Oper} {a : Act} {K : Act → World → Prop} {Q : Exit → Act → World → Prop}
    (s x : Operand) (ho : o.op = .call { callee := .builtin .append, args := #[s, x], argTypes := #[65, 65] })
    (B g0 m : Nat) (A : Option Addr) (c : Nat) (gs : List SgR) (hl : gs.length = m) (hs : a.eval s = .slice (some ⟨g0, 0, none⟩) 0 0) (hx : a.eval x = .slice A m c) (hown : RowS w B (.slice (some ⟨g0, 0, none⟩) 0 0) []) {B' : Nat} (hrow : Row w B' A (gs.length * 4) (sgAt gs))
    (hm : m ≤ 1048576) (hB : B ≤ w.heap.size)
    (hK : ∀ A' k' w', RowS w' B (.slice A' m k') gs → GrewS B w w' → (∀ k, k < w.heap.size → k ≠ g0 → w'.heap[k]? = w.heap[k]?) → K (a.put o.dst (.slice A' m k')) w') :
    o.wp Try.prog a w K Q := by
  obtain ⟨i0, hi0, hz0, hz1, hz2⟩ := info_parts info_sg
  subst hl
  rcases Nat.eq_zero_or_pos gs.length with h0 | hp
  · have hgs : gs = [] := List.eq_nil_of_length_eq_zero h0
    subst hgs
    have hrun : (Builtin.append_ #[65, 65] o.type #[.slice (some ⟨g0, 0, none⟩) 0 0, .slice A 0 c]).run Try.prog w = .ok (.slice (some ⟨g0, 0, none⟩) 0 0) w := by
      rcases A with _ | a'
      · simp [Builtin.append_, run_underlying Try.underlying65, sizeOf, typeInfo, hi0, Builtin.lenOf, Builtin.firstCells, storeCells]
      · simp [Builtin.append_, run_underlying Try.underlying65, sizeOf, typeInfo, hi0, Builtin.lenOf, Builtin.firstCells, storeCells, loadCells, loadCellsFrom]
    have hx' : a.eval x = .slice A 0 c := hx
    unfold Oper.wp execOp
    simp only [ho, resolve, invoke, builtin, Sem.run_bind, Sem.run_pure, Result.andThen_ok, List.map_toArray, List.map_cons, List.map_nil, hs, hx', hrun]
    exact hK _ _ w hown (GrewS.refl _ _) (fun _ _ _ => rfl)
  · obtain ⟨b, off, rfl, hb, hc⟩ := hrow (by omega)
    refine wp_append_own w s x 65 ho B 30 i0 _ 4 48 Try.underlying65 hi0 hz0 hz1 hz2 rfl (by omega) _ 0 _ hs hown ⟨b, off, none⟩ gs.length c (gVs gs) hx (gVs_len gs) (fun j u hj => ?_) (fun u hu => ?_) (by unfold maxLen; omega) (by omega) hB ?_
    · have hj' : j < gs.length * 4 := by
        have := (List.getElem?_eq_some_iff.1 hj).1
        rwa [gVs_len] at this
      rw [gVs_get gs j hj'] at hj
      rw [addr_add', hc j hj']
      exact hj
    · obtain ⟨j, hj⟩ := List.mem_iff_getElem?.1 hu
      have hj' : j < gs.length * 4 := by
        have := (List.getElem?_eq_some_iff.1 hj).1
        rwa [gVs_len] at this
      rw [gVs_get gs j hj'] at hj
      obtain rfl := Option.some.inj hj
      unfold sgAt
      split
      · rfl
      · split
        · rfl
        · split <;> rfl
    · intro v' w' hw' hg' _
      have hr : RowS w' B v' gs := by
        unfold RowS
        have : w'.ownsRow B 30 4 v' (0 + gs.length) (gVs [] ++ gVs gs) := hw'
        rw [Nat.zero_add] at this
        exact this
      obtain ⟨A', k', rfl, _⟩ := hr.sl
      have hrw : ∀ k, Value.ownBlock (.slice (some ⟨g0, 0, none⟩) 0 0) = some k → B ≤ k := fun k hk => (World.ownsRow.lt hown k hk).1
      have hown' : ∀ g t m f, t ≠ 30 → Own w g t m f → Own w' g t m f := fun g t m f ht ho => ho.of_block (hg'.block g ho.lt (hown.ne ho ht))
      refine hK A' k' w' hr ⟨fun b hb hbB => Below.grown hb hg' hb.size (fun k hk => Nat.le_trans hbB (hrw k hk)), fun lo hi b hb hbB => ?_, hown', fun g t xs ht hbg => ?_, hg'.size, ⟨hg'.os, hg'.tape, hg'.output, hg'.size, fun k hk => hg'.block k (by omega) (fun e => by have := hrw k e.symm; omega)⟩⟩ ?_
      · refine ⟨hg'.os.trans hb.os, hg'.tape.trans hb.tape, hg'.output.trans hb.output, Nat.le_trans hb.size hg'.size, fun k hk hr => (hg'.block k (Nat.lt_of_lt_of_le hk hb.size) fun e => ?_).trans (hb.block k hk hr)⟩
        have := hrw k e.symm
        omega
      · exact hbg.grown hg' (hown.ne hbg.own ht)
      · intro k hk hne
        exact hg'.block k hk (fun e => hne (by simpa [Value.ownBlock] using e))
theorem RowS.low {w : World} {B B' : Nat} {v : Value} {gs : List SgR} (h : RowS w B v gs) (hB : B' ≤ B) : RowS w B' v gs := by
  rcases h.2 with ⟨rfl, h0⟩ | ⟨g, cap, cur, rfl, hb, r⟩
  · exact ⟨h.1, .inl ⟨rfl, h0⟩⟩
  · exact ⟨h.1, .inr ⟨g, cap, cur, rfl, by omega, r⟩⟩
theorem mergeA {G : Nat → Option Addr → Nat → Nat → Option Addr → Nat → World → Prop} {F : Option Addr → Nat → World → Prop} {R : Prop} (main : (∀ a b c d e f W, F e f W → G a b c d e f W) → R) (key : ∀ a b c d e f W, F e f W → G a b c d e f W) : R := main key
end Go.Proofs.Ytjefjngheolmkaa
/- The walk of the law FnChain. Conditions: the bytes that come in can be read. -/
namespace Go.Proofs.Ytjefjngheolmkaa
set_option linter.unusedVariables false
set_option maxRecDepth 100000
open Go.RowKit
theorem RowS.sgs {w : World} {B B2 m k : Nat} {A : Option Addr} {gs : List SgR} (h : RowS w B (.slice A m k) gs) (hc : ChO w B2 gs) : Sgs w w.heap.size A gs := by
  obtain ⟨A', c', e, hs⟩ := h.sl
  injection e with e1 _ _
  subst e1
  exact ⟨hs.row, fun k hk => (hc k hk).row⟩
theorem chainI_r (base : Int) (A : Option Addr) (m k B : Nat) (gs : List SgR) (r : Bool) (w : World) (hl : gs.length = m) (h : Sgs w B A gs) (hB : B ≤ w.heap.size) (hn : m ≤ 1048576) (hm : ∀ k, k < gs.length → (gs.getD k sgZ).cs.length ≤ 1048576) (hr : chainB base gs = r) :
    Calls Try.prog 40 #[.int .i64 base, .slice A m k] w fun e w' => e = .returned (.bool r) ∧ Nx w w' := by
  subst hl hr
  exact implChainOK_c base A k B gs w h hB hn hm
theorem chainS_r (base : Int) (A : Option Addr) (m k B : Nat) (gs : List SgR) (r : Bool) (w : World) (hl : gs.length = m) (h : Sgs w B A gs) (hB : B ≤ w.heap.size) (hn : m ≤ 1048576) (hm : ∀ k, k < gs.length → (gs.getD k sgZ).cs.length ≤ 1048576) (hr : chainB base gs = r) :
    Calls Try.prog 46 #[.int .i64 base, .slice A m k] w fun e w' => e = .returned (.bool r) ∧ Nx w w' := by
  subst hl hr
  exact specChainOK_c base A k B gs w h hB hn hm
theorem cs_snoc {gs : List SgR} {g : SgR} (h : ∀ k, k < gs.length → (gs.getD k sgZ).cs.length ≤ 1048576) (hg : g.cs.length ≤ 1048576) : ∀ k, k < (gs ++ [g]).length → ((gs ++ [g]).getD k sgZ).cs.length ≤ 1048576 := fun k hk => by
  rw [List.length_append] at hk
  simp only [List.length_cons, List.length_nil] at hk
  by_cases e : k < gs.length
  · rw [getD_pre gs [g] e]; exact h k e
  · obtain rfl : k = gs.length := by omega
    rw [getD_app]; exact hg
theorem bad_chain {base : Int} {gs : List SgR} {g : SgR} (h : g.f ≠ atK base gs gs.length) : chainB base (gs ++ [g]) = false := by
  refine chainB_no (k := gs.length) (by simp) ?_
  unfold lnk
  rw [getD_app, atK_pre base gs [g] _ (Nat.le_refl _), decide_eq_false h]; simp
theorem Sl.getI {w : World} {lo gy : Nat} {ys : List Int} (h : SlI w lo (some ⟨gy, 0, none⟩) ys) {k : Nat} (hk : k < ys.length) : w.cell? ⟨gy, k, none⟩ = some (.int .i64 (ys.getD k 0)) := by
  obtain ⟨g, e, _, ho⟩ := h (by omega)
  cases e
  exact ho.cell hk
theorem Sl.getC {w : World} {lo gy : Nat} {b v o : Int} (h : Sl w lo (some ⟨gy, 0, none⟩) 75 3 (chAt [(b, v, o)])) : w.cell? ⟨gy, 2, none⟩ = some (.int .i64 o) := by
  obtain ⟨g, e, _, ho⟩ := h (by omega)
  cases e
  exact ho.cell (i := 2) (by omega)
set_option maxRecDepth 100000 in
set_option maxHeartbeats 8000000 in
theorem lawChain (A1 : Option Addr) (n1 c1 : Nat) (ys1 : List Nat) (A2 : Option Addr) (n2 c2 : Nat) (ys2 : List Nat) (w : World) (h1 : U8s w w.heap.size A1 n1 ys1) (hn1 : n1 ≤ 2 ^ 63 - 1) (h2 : U8s w w.heap.size A2 n2 ys2) (hn2 : n2 ≤ 2 ^ 63 - 1) :
    Calls Try.prog 9 #[.slice A1 n1 c1, .slice A2 n2 c2] w fun e w' => e = .returned (.bool true) ∧ Nx w w' := by
  by_cases hb1 : n1 ≤ 1048576
  case neg =>
    have d1 : decide (1048576 < (n1 : Int)) = true := by simp; omega
    go_enter Try.func9, Try.ntmps9
    go_wp2
    go_ret
    exact ⟨rfl, Nx.refl _⟩
  have d1 : decide (1048576 < (n1 : Int)) = false := by simp; omega
  by_cases hb2 : n2 ≤ 1048576
  case neg =>
    have d2 : decide (1048576 < (n2 : Int)) = true := by simp; omega
    go_enter Try.func9, Try.ntmps9
    go_wp2
    go_ret
    exact ⟨rfl, Nx.refl _⟩
  have d2 : decide (1048576 < (n2 : Int)) = false := by simp; omega
  go_enter Try.func9, Try.ntmps9
  go_wp2_with fail
  refine (contentDrawn_c A1 n1 c1 ys1 _ h1 hb1).mono ?_
  rintro e w1 ⟨Ac, cc, c0, rfl, hl8, hsm, hC, hx1⟩
  have hcont := hsm.cont hl8
  have HL8 := Lib.hid hl8
  clear hl8 hsm d1 d2
  have hX := hx1
  clear hx1
  go_wp2_with fail
  refine (atP_c A2 n2 c2 0 9 _ ys2 _ (h2.below hX (Nat.le_refl _)) hX.size hb2 (by omega) (by omega) (by omega)).mono ?_
  rintro e w2 ⟨rfl, hx2⟩
  obtain ⟨base, Hba⟩ : ∃ b, Hid (atP ys2 n2 0 9 = b) := ⟨_, rfl⟩
  have hba : base < 9 := by rw [← Hba.out]; exact atP_lt _ _ _ (by omega)
  rw [Hba.out]
  replace hC := hC.nx hx2
  replace hX := hX.trans hx2
  clear hx2
  go_wp2_with fail
  refine (chainDrawn_c A2 n2 c2 ys2 base Ac cc c0 _ ((h2.below hX (Nat.le_refl _)).more hX.size) hb2 hC.row hcont (by omega)).mono ?_
  rintro e w3 ⟨A', c', gs, rfl, h9, hS, hI, hat, htm, hx3⟩
  replace hC := hC.nx hx3
  replace hS := hS.low hX.size
  replace hX := hX.trans hx3
  clear hx3
  obtain ⟨n, Hn⟩ : ∃ n, Hid (gs.length = n) := ⟨_, rfl⟩
  rw [Hn.out] at h9 hat htm ⊢
  have HAt := Lib.hid hat
  have HTm := Lib.hid htm
  clear hat htm
  go_wp2_with fail
  go_loopw [8, 9, 10] (fun ev xv iv wr => ∃ (k : Nat) (Ax : Option Addr) (cx : Nat), k ≤ n ∧ iv = .int .i64 k ∧ ev = .int .i64 (atK (base : Int) gs k) ∧ xv = .slice Ax 8 cx ∧ SlI wr w.heap.size Ax (ctK c0 gs k) ∧ Nx w3 wr) (fun _ _ iv _ => n - (intOf iv).toNat)
  case atStart => exact ⟨0, Ac, cc, Nat.zero_le _, rfl, rfl, rfl, hC, Nx.refl _⟩
  case round =>
    obtain ⟨k, Ax, cx, hk, rfl, rfl, rfl, hx, hnx⟩ := hrel
    have hzw : w.heap.size ≤ wr.heap.size := Nat.le_trans hX.size hnx.size
    by_cases hlt : k < n
    · have hlk : k < gs.length := by rw [Hn.out]; exact hlt
      obtain ⟨b, off, hA', hb, p0, p1, p2, p3⟩ := ((hS.nx hnx).sgs).row.at4 hlk
      subst hA'
      have hch := (hS.nx hnx).chs k hlk
      have hsg := (hI k hlk).seg
      have hck := hI.cont hcont k (by omega)
      have hcs : ctK c0 gs (k + 1) = app pN (ctK c0 gs k) (gs.getD k sgZ).cs := rfl
      have hats : atK (base : Int) gs (k + 1) = (gs.getD k sgZ).t := rfl
      obtain ⟨⟨f, t, m, A3, c3, cs⟩, Hs⟩ : ∃ s, Hid (gs.getD k sgZ = s) := ⟨_, rfl⟩
      rw [Hs.out] at p0 p1 p2 p3 hch hsg hcs hats
      simp only at p0 p1 p2 p3 hch hsg hcs hats
      have Hcs := Lib.hid hcs
      have Hats := Lib.hid hats
      clear hcs hats
      have hbw : b < wr.heap.size := hb
      go_wp2_with fail
      refine (forward_yes Ax cx _ (ctK c0 gs k) f t m A3 c3 cs.length cs _ rfl hx.row hch.row (Nat.le_refl _) hck hsg).mono ?_
      rintro e w4 ⟨A4, c4, rfl, hS4, hx4⟩
      rw [← Hcs.out] at hS4
      replace p1 := (hx4.cell (p := ⟨b, off + k * 4 + 1, none⟩) hbw).trans p1
      clear p0 p2 p3
      go_wp2
      go_roundw
      case rel => exact ⟨k + 1, A4, c4, by omega, by go_num, by rw [Hats.out], rfl, hS4.low hzw, hnx.trans hx4⟩
      case measure => simp [intOf]; omega
    obtain rfl : n = k := by omega
    have hcx := hI.cont hcont n (by rw [Hn.out]; exact Nat.le_refl _)
    obtain ⟨x, Hx⟩ : ∃ x, Hid (ctK c0 gs n = x) := ⟨_, rfl⟩
    rw [Hx.out] at hx hcx
    have hat0 : 0 ≤ atK (base : Int) gs n := by
      have h5 := LnTo.end_ (base := (base : Int)) (gs := gs) (k := n) (fun k hk => by
        have L := hI k (by rw [Hn.out]; exact hk)
        unfold lnk sgB
        rw [L.seg, decide_eq_true L.at_, decide_eq_true L.tm, on_of (hI.agree hcont k (by rw [Hn.out]; omega)) (segB_chs L.seg) L.fit]; rfl)
      rw [show inB 0 999999 (base : Int) = true from inB_mk (by omega) (by omega)] at h5
      exact (inB_yes h5).1
    obtain ⟨q, Hq⟩ : ∃ q : Nat, Hid (atK (base : Int) gs n = (q : Int)) := ⟨(atK (base : Int) gs n).toNat, Lib.hid (by omega)⟩
    have hq : q ≤ 40 := by have := Hq.out; have := HAt.out; omega
    rw [Hq.out]
    replace hX := hX.trans hnx
    replace hC := hC.nx hnx
    replace hS := hS.nx hnx
    clear hnx hat0
    obtain ⟨bb, Hbb⟩ : ∃ b, Hid (atP ys2 n2 1 8 = b) := ⟨_, rfl⟩
    have hbb : bb < 8 := by rw [← Hbb.out]; exact atP_lt _ _ _ (by omega)
    obtain ⟨vv, Hvv⟩ : ∃ b, Hid (atP ys2 n2 2 900 = b) := ⟨_, rfl⟩
    have hvv : vv < 900 := by rw [← Hvv.out]; exact atP_lt _ _ _ (by omega)
    obtain ⟨o, Ho⟩ : ∃ o, Hid (x.getD bb 0 = o) := ⟨_, rfl⟩
    have hov := (contB_yes hcx).2 bb hbb
    rw [Ho.out] at hov
    have hf1 : frameB ((q : Int) + 1) (bb : Int) (vv : Int) 900 = true := frameB_mk (by omega) (by omega) (by omega) (by omega) (by omega) (by omega) (by omega) (by omega)
    have hf2 : frameB ((q : Int) + 2) (bb : Int) (vv : Int) 900 = true := frameB_mk (by omega) (by omega) (by omega) (by omega) (by omega) (by omega) (by omega) (by omega)
    go_wp2_with fail
    refine (atP_c A2 n2 c2 1 8 _ ys2 _ (h2.below hX (Nat.le_refl _)) hX.size hb2 (by omega) (by omega) (by omega)).mono ?_
    rintro e v1 ⟨rfl, hv⟩
    rw [Hbb.out]
    replace hx := hx.nx hv
    replace hX := hX.trans hv
    replace hC := hC.nx hv
    replace hS := hS.nx hv
    (try replace hS5 := hS5.nx hv)
    (try replace bG := bG.nx hv)
    (try replace hS6 := hS6.nx hv)
    (try replace bH := bH.nx hv)
    clear hv
    go_wp2_with fail
    refine (atP_c A2 n2 c2 2 900 _ ys2 _ (h2.below hX (Nat.le_refl _)) hX.size hb2 (by omega) (by omega) (by omega)).mono ?_
    rintro e v2 ⟨rfl, hv⟩
    rw [Hvv.out]
    replace hx := hx.nx hv
    replace hX := hX.trans hv
    replace hC := hC.nx hv
    replace hS := hS.nx hv
    (try replace hS5 := hS5.nx hv)
    (try replace bG := bG.nx hv)
    (try replace hS6 := hS6.nx hv)
    (try replace bH := bH.nx hv)
    clear hv
    go_wp2_with fail
    refine (segOf_yes Ax cx _ x ((q : Int) + 1) (bb : Int) (vv : Int) 900 _ hx.row (Nat.le_refl _) hcx hf1).mono ?_
    rintro e v3 ⟨A5, c5, rfl, hS5, hv⟩
    rw [Int.toNat_natCast, Ho.out] at hS5
    rw [show (q : Int) + 1 - 1 = (q : Int) by omega]
    replace hS5 := hS5.low hX.size
    replace hx := hx.nx hv
    replace hX := hX.trans hv
    replace hC := hC.nx hv
    replace hS := hS.nx hv
    (try replace hS5 := hS5.nx hv)
    (try replace bG := bG.nx hv)
    (try replace hS6 := hS6.nx hv)
    (try replace bH := bH.nx hv)
    clear hv
    go_wp2_with fail
    have bG := Box.new v3 30 #[.int .i64 (q : Int), .int .i64 ((q : Int) + 1), .int .i64 900, .slice A5 1 c5]
    have hv := (Nx.refl v3).alloc (.cells #[.int .i64 (q : Int), .int .i64 ((q : Int) + 1), .int .i64 900, .slice A5 1 c5] 30)
    generalize hW : v3.alloc (.cells #[.int .i64 (q : Int), .int .i64 ((q : Int) + 1), .int .i64 900, .slice A5 1 c5] 30) = V3 at *
    clear hW
    replace hx := hx.nx hv
    replace hX := hX.trans hv
    replace hC := hC.nx hv
    replace hS := hS.nx hv
    replace hS5 := hS5.nx hv
    clear hv
    refine (atP_c A2 n2 c2 1 8 _ ys2 _ (h2.below hX (Nat.le_refl _)) hX.size hb2 (by omega) (by omega) (by omega)).mono ?_
    rintro e v4 ⟨rfl, hv⟩
    rw [Hbb.out]
    replace hx := hx.nx hv
    replace hX := hX.trans hv
    replace hC := hC.nx hv
    replace hS := hS.nx hv
    (try replace hS5 := hS5.nx hv)
    (try replace bG := bG.nx hv)
    (try replace hS6 := hS6.nx hv)
    (try replace bH := bH.nx hv)
    clear hv
    go_wp2_with fail
    refine (atP_c A2 n2 c2 2 900 _ ys2 _ (h2.below hX (Nat.le_refl _)) hX.size hb2 (by omega) (by omega) (by omega)).mono ?_
    rintro e v5 ⟨rfl, hv⟩
    rw [Hvv.out]
    replace hx := hx.nx hv
    replace hX := hX.trans hv
    replace hC := hC.nx hv
    replace hS := hS.nx hv
    (try replace hS5 := hS5.nx hv)
    (try replace bG := bG.nx hv)
    (try replace hS6 := hS6.nx hv)
    (try replace bH := bH.nx hv)
    clear hv
    go_wp2_with fail
    refine (segOf_yes Ax cx _ x ((q : Int) + 2) (bb : Int) (vv : Int) 900 _ hx.row (Nat.le_refl _) hcx hf2).mono ?_
    rintro e v6 ⟨A6, c6, rfl, hS6, hv⟩
    rw [Int.toNat_natCast, Ho.out] at hS6
    rw [show (q : Int) + 2 - 1 = (q : Int) + 1 by omega]
    replace hS6 := hS6.low hX.size
    replace hx := hx.nx hv
    replace hX := hX.trans hv
    replace hC := hC.nx hv
    replace hS := hS.nx hv
    (try replace hS5 := hS5.nx hv)
    (try replace bG := bG.nx hv)
    (try replace bH := bH.nx hv)
    clear hv
    go_wp2_with fail
    have bH := Box.new v6 30 #[.int .i64 ((q : Int) + 1), .int .i64 ((q : Int) + 2), .int .i64 900, .slice A6 1 c6]
    have hv := (Nx.refl v6).alloc (.cells #[.int .i64 ((q : Int) + 1), .int .i64 ((q : Int) + 2), .int .i64 900, .slice A6 1 c6] 30)
    generalize hW : v6.alloc (.cells #[.int .i64 ((q : Int) + 1), .int .i64 ((q : Int) + 2), .int .i64 900, .slice A6 1 c6] 30) = V6 at *
    clear hW
    replace hx := hx.nx hv
    replace hX := hX.trans hv
    replace hC := hC.nx hv
    replace hS := hS.nx hv
    replace hS5 := hS5.nx hv
    replace hS6 := hS6.nx hv
    replace bG := bG.nx hv
    clear hv
    have hL := hS.row.row
    rw [Hn.out] at hL
    refine mergeA (F := (fun Aq kq Wq => RowS Wq V6.heap.size (.slice Aq (n + 1) kq) (gs ++ [⟨(q : Int), (q : Int) + 1, 900, A5, c5, [((bb : Int), (vv : Int), o)]⟩]) ∧ Nx V6 Wq)) (G := ?_) (fun key => ?_) ?_
    rotate_left
    · have hN : Nx V6 V6.drew := (Nx.refl V6).drew
      have hL0 : Row V6.drew V6.heap.size A' (n * 4) (sgAt gs) := hL
      have b0 : Box V6.drew v3.heap.size 30 #[.int .i64 (q : Int), .int .i64 ((q : Int) + 1), .int .i64 900, .slice A5 1 c5] := bG
      refine wp_region_plan (.t 1 (.t 3 (.b 0 (.b 2 (.c 4 (.c 5 (.t 6 .e))) 4 (.c 2 (.c 5 (.t 6 .e)))) 4 (.c 0 (.c 2 (.c 5 (.t 6 .e))))))) (fun w' => w'.cell? ⟨v3.heap.size, 0, none⟩ = some (.int .i64 (q : Int)) ∧ w'.cell? ⟨v3.heap.size, 1, none⟩ = some (.int .i64 ((q : Int) + 1)) ∧ w'.cell? ⟨v3.heap.size, 2, none⟩ = some (.int .i64 900) ∧ w'.cell? ⟨v3.heap.size, 3, none⟩ = some (.slice A5 1 c5)) (by kernel_rfl) (by kernel_rfl) rfl (by kernel_rfl) (fun _ _ d _ _ h => by cases d <;> exact h) (by exact b0.d4) ?_
      simp only [psOf, List.getD_cons_zero, List.getD_cons_succ]
      generalize V6.drew = D0 at *
      repeat (first | (refine HP.take (v := ?_) (by rfl) ?_ ?_; rotate_left; (· (intro w hSw; (try dsimp only at hSw); go_simp; try with_reducible rfl)); (try simp only [Act.put, List.setIfInBounds_toArray, List.set_cons_zero, List.set_cons_succ])) | (refine HP.skip (by rfl) ?_; (try simp only [Act.put, List.setIfInBounds_toArray, List.set_cons_zero, List.set_cons_succ])))
      refine HP.both ?_ ?_
      · have hE := RowS.new D0 (B := D0.heap.size) (Nat.le_refl _)
        have hxE := (Nx.refl D0).alloc (.cells #[] 30)
        have hlE : D0.heap.size < (D0.alloc (.cells #[] 30)).heap.size := by simp
        have hBE : V6.heap.size ≤ D0.heap.size := hN.size
        replace hN := hN.trans hxE
        (try replace bD := bD.nx hxE)
        refine CallStep.mk (by rfl) (fun K hK => ?_)
        go_simp
        refine hK.out _ _ (by exact (bG.nx hN).d4) ?_
        clear hK K
        try simp only [Act.put, List.setIfInBounds_toArray, List.set_cons_zero, List.set_cons_succ]
        change HP _ _ _ _ _ _ (D0.alloc (.cells #[] 30))
        generalize D0.alloc (.cells #[] 30) = We at *
        clear hxE
        refine HP.both ?_ ?_
        · refine CallStep.mk (by rfl) (fun K hK => ?_)
          refine wp_addAll _ _ rfl V6.heap.size D0.heap.size n A' c' gs Hn.out rfl rfl (hE.low hBE) (by rw [Hn.out]; exact hL.below hN (Nat.le_refl _)) (by omega) hN.size ?_
          intro A8 k8 Wr hR hgr hoth
          replace hN := hgr.nx _ hN (Nat.le_refl _)
          refine hK.out _ _ (by exact (bG.nx hN).d4) ?_
          clear hK K
          try simp only [Act.put, List.setIfInBounds_toArray, List.set_cons_zero, List.set_cons_succ]
          clear hE hgr hoth
          refine HP.call ?_
          have bD := Box.new Wr 30 #[.int .i64 (q : Int), .int .i64 ((q : Int) + 1), .int .i64 900, .slice A5 1 c5]
          have hxD := (Nx.refl Wr).alloc (.cells #[.int .i64 (q : Int), .int .i64 ((q : Int) + 1), .int .i64 900, .slice A5 1 c5] 30)
          have hlD : Wr.heap.size < (Wr.alloc (.cells #[.int .i64 (q : Int), .int .i64 ((q : Int) + 1), .int .i64 900, .slice A5 1 c5] 30)).heap.size := by simp
          replace hN := hN.trans hxD
          (try replace hE := hE.nx hxD)
          (try replace hR := hR.nx hxD)
          refine CallStep.mk (by rfl) (fun K hK => ?_)
          go_simp
          refine hK.out _ _ (by exact (bG.nx hN).d4) ?_
          clear hK K
          try simp only [Act.put, List.setIfInBounds_toArray, List.set_cons_zero, List.set_cons_succ]
          change HP _ _ _ _ _ _ (Wr.alloc (.cells #[.int .i64 (q : Int), .int .i64 ((q : Int) + 1), .int .i64 900, .slice A5 1 c5] 30))
          generalize Wr.alloc (.cells #[.int .i64 (q : Int), .int .i64 ((q : Int) + 1), .int .i64 900, .slice A5 1 c5] 30) = Wd at *
          clear hxD
          refine HP.call ?_
          refine CallStep.mk (by rfl) (fun K hK => ?_)
          refine wp_addS _ _ rfl V6.heap.size Wr.heap.size _ gs ⟨(q : Int), (q : Int) + 1, 900, A5, c5, [((bb : Int), (vv : Int), o)]⟩ rfl rfl (by rw [Hn.out] at *; exact hR) bD (by rw [Hn.out]; omega) hN.size ?_
          intro A9 k9 Wf hR9 hgr9
          rw [Hn.out] at hR9 ⊢
          replace hN := hgr9.nx _ hN (Nat.le_refl _)
          refine hK.out _ _ (by exact (bG.nx hN).d4) ?_
          clear hK K
          try simp only [Act.put, List.setIfInBounds_toArray, List.set_cons_zero, List.set_cons_succ]
          repeat (first | (refine HP.take (v := ?_) (by rfl) ?_ ?_; rotate_left; (· (intro w hSw; (try dsimp only at hSw); go_simp; try with_reducible rfl)); (try simp only [Act.put, List.setIfInBounds_toArray, List.set_cons_zero, List.set_cons_succ])) | (refine HP.skip (by rfl) ?_; (try simp only [Act.put, List.setIfInBounds_toArray, List.set_cons_zero, List.set_cons_succ])))
          refine HP.done ?_
          generalize D0.heap.size = gE
          generalize Wr.heap.size = gD
          exact key gE A8 k8 gD A9 k9 Wf ⟨hR9, hN⟩
        · have bD := Box.new We 30 #[.int .i64 (q : Int), .int .i64 ((q : Int) + 1), .int .i64 900, .slice A5 1 c5]
          have hxD := (Nx.refl We).alloc (.cells #[.int .i64 (q : Int), .int .i64 ((q : Int) + 1), .int .i64 900, .slice A5 1 c5] 30)
          have hlD : We.heap.size < (We.alloc (.cells #[.int .i64 (q : Int), .int .i64 ((q : Int) + 1), .int .i64 900, .slice A5 1 c5] 30)).heap.size := by simp
          replace hN := hN.trans hxD
          (try replace hE := hE.nx hxD)
          (try replace hR := hR.nx hxD)
          refine CallStep.mk (by rfl) (fun K hK => ?_)
          go_simp
          refine hK.out _ _ (by exact (bG.nx hN).d4) ?_
          clear hK K
          try simp only [Act.put, List.setIfInBounds_toArray, List.set_cons_zero, List.set_cons_succ]
          change HP _ _ _ _ _ _ (We.alloc (.cells #[.int .i64 (q : Int), .int .i64 ((q : Int) + 1), .int .i64 900, .slice A5 1 c5] 30))
          generalize We.alloc (.cells #[.int .i64 (q : Int), .int .i64 ((q : Int) + 1), .int .i64 900, .slice A5 1 c5] 30) = Wd at *
          clear hxD
          refine HP.call ?_
          refine CallStep.mk (by rfl) (fun K hK => ?_)
          refine wp_addAll _ _ rfl V6.heap.size D0.heap.size n A' c' gs Hn.out rfl rfl (hE.low hBE) (by rw [Hn.out]; exact hL.below hN (Nat.le_refl _)) (by omega) hN.size ?_
          intro A8 k8 Wr hR hgr hoth
          replace hN := hgr.nx _ hN (Nat.le_refl _)
          replace bD : Box Wr We.heap.size 30 #[.int .i64 (q : Int), .int .i64 ((q : Int) + 1), .int .i64 900, .slice A5 1 c5] := (hoth We.heap.size bD.lt (by omega)).trans bD
          refine hK.out _ _ (by exact (bG.nx hN).d4) ?_
          clear hK K
          try simp only [Act.put, List.setIfInBounds_toArray, List.set_cons_zero, List.set_cons_succ]
          clear hE hgr hoth
          refine HP.call ?_
          refine CallStep.mk (by rfl) (fun K hK => ?_)
          refine wp_addS _ _ rfl V6.heap.size We.heap.size _ gs ⟨(q : Int), (q : Int) + 1, 900, A5, c5, [((bb : Int), (vv : Int), o)]⟩ rfl rfl (by rw [Hn.out] at *; exact hR) bD (by rw [Hn.out]; omega) hN.size ?_
          intro A9 k9 Wf hR9 hgr9
          rw [Hn.out] at hR9 ⊢
          replace hN := hgr9.nx _ hN (Nat.le_refl _)
          refine hK.out _ _ (by exact (bG.nx hN).d4) ?_
          clear hK K
          try simp only [Act.put, List.setIfInBounds_toArray, List.set_cons_zero, List.set_cons_succ]
          repeat (first | (refine HP.take (v := ?_) (by rfl) ?_ ?_; rotate_left; (· (intro w hSw; (try dsimp only at hSw); go_simp; try with_reducible rfl)); (try simp only [Act.put, List.setIfInBounds_toArray, List.set_cons_zero, List.set_cons_succ])) | (refine HP.skip (by rfl) ?_; (try simp only [Act.put, List.setIfInBounds_toArray, List.set_cons_zero, List.set_cons_succ])))
          refine HP.done ?_
          generalize D0.heap.size = gE
          generalize We.heap.size = gD
          exact key gE A8 k8 gD A9 k9 Wf ⟨hR9, hN⟩
      · have bD := Box.new D0 30 #[.int .i64 (q : Int), .int .i64 ((q : Int) + 1), .int .i64 900, .slice A5 1 c5]
        have hxD := (Nx.refl D0).alloc (.cells #[.int .i64 (q : Int), .int .i64 ((q : Int) + 1), .int .i64 900, .slice A5 1 c5] 30)
        have hlD : D0.heap.size < (D0.alloc (.cells #[.int .i64 (q : Int), .int .i64 ((q : Int) + 1), .int .i64 900, .slice A5 1 c5] 30)).heap.size := by simp
        replace hN := hN.trans hxD
        (try replace hE := hE.nx hxD)
        (try replace hR := hR.nx hxD)
        refine CallStep.mk (by rfl) (fun K hK => ?_)
        go_simp
        refine hK.out _ _ (by exact (bG.nx hN).d4) ?_
        clear hK K
        try simp only [Act.put, List.setIfInBounds_toArray, List.set_cons_zero, List.set_cons_succ]
        change HP _ _ _ _ _ _ (D0.alloc (.cells #[.int .i64 (q : Int), .int .i64 ((q : Int) + 1), .int .i64 900, .slice A5 1 c5] 30))
        generalize D0.alloc (.cells #[.int .i64 (q : Int), .int .i64 ((q : Int) + 1), .int .i64 900, .slice A5 1 c5] 30) = Wd at *
        clear hxD
        refine HP.call ?_
        have hE := RowS.new Wd (B := Wd.heap.size) (Nat.le_refl _)
        have hxE := (Nx.refl Wd).alloc (.cells #[] 30)
        have hlE : Wd.heap.size < (Wd.alloc (.cells #[] 30)).heap.size := by simp
        have hBE : V6.heap.size ≤ Wd.heap.size := hN.size
        replace hN := hN.trans hxE
        (try replace bD := bD.nx hxE)
        refine CallStep.mk (by rfl) (fun K hK => ?_)
        go_simp
        refine hK.out _ _ (by exact (bG.nx hN).d4) ?_
        clear hK K
        try simp only [Act.put, List.setIfInBounds_toArray, List.set_cons_zero, List.set_cons_succ]
        change HP _ _ _ _ _ _ (Wd.alloc (.cells #[] 30))
        generalize Wd.alloc (.cells #[] 30) = We at *
        clear hxE
        refine HP.call ?_
        refine CallStep.mk (by rfl) (fun K hK => ?_)
        refine wp_addAll _ _ rfl V6.heap.size Wd.heap.size n A' c' gs Hn.out rfl rfl (hE.low hBE) (by rw [Hn.out]; exact hL.below hN (Nat.le_refl _)) (by omega) hN.size ?_
        intro A8 k8 Wr hR hgr hoth
        replace hN := hgr.nx _ hN (Nat.le_refl _)
        replace bD : Box Wr D0.heap.size 30 #[.int .i64 (q : Int), .int .i64 ((q : Int) + 1), .int .i64 900, .slice A5 1 c5] := (hoth D0.heap.size bD.lt (by omega)).trans bD
        refine hK.out _ _ (by exact (bG.nx hN).d4) ?_
        clear hK K
        try simp only [Act.put, List.setIfInBounds_toArray, List.set_cons_zero, List.set_cons_succ]
        clear hE hgr hoth
        refine HP.call ?_
        refine CallStep.mk (by rfl) (fun K hK => ?_)
        refine wp_addS _ _ rfl V6.heap.size D0.heap.size _ gs ⟨(q : Int), (q : Int) + 1, 900, A5, c5, [((bb : Int), (vv : Int), o)]⟩ rfl rfl (by rw [Hn.out] at *; exact hR) bD (by rw [Hn.out]; omega) hN.size ?_
        intro A9 k9 Wf hR9 hgr9
        rw [Hn.out] at hR9 ⊢
        replace hN := hgr9.nx _ hN (Nat.le_refl _)
        refine hK.out _ _ (by exact (bG.nx hN).d4) ?_
        clear hK K
        try simp only [Act.put, List.setIfInBounds_toArray, List.set_cons_zero, List.set_cons_succ]
        repeat (first | (refine HP.take (v := ?_) (by rfl) ?_ ?_; rotate_left; (· (intro w hSw; (try dsimp only at hSw); go_simp; try with_reducible rfl)); (try simp only [Act.put, List.setIfInBounds_toArray, List.set_cons_zero, List.set_cons_succ])) | (refine HP.skip (by rfl) ?_; (try simp only [Act.put, List.setIfInBounds_toArray, List.set_cons_zero, List.set_cons_succ])))
        refine HP.done ?_
        generalize Wd.heap.size = gE
        generalize D0.heap.size = gD
        exact key gE A8 k8 gD A9 k9 Wf ⟨hR9, hN⟩
    intro ge_g A8_g k8_g gd_g Ag kg Wg ⟨hRg, hv⟩
    replace hL := hL.below hv (Nat.le_refl _)
    replace hL := hL.more hv.size
    replace bG := bG.nx hv
    replace bH := bH.nx hv
    replace hS6 := hS6.nx hv
    replace hx := hx.nx hv
    replace hX := hX.trans hv
    replace hS := hS.nx hv
    replace hS5 := hS5.nx hv
    clear hv hC
    go_wp2_with fail
    refine mergeA (F := (fun Aq kq Wq => RowS Wq Wg.heap.size (.slice Aq (n + 1) kq) (gs ++ [⟨(q : Int) + 1, (q : Int) + 2, 900, A6, c6, [((bb : Int), (vv : Int), o)]⟩]) ∧ Nx Wg Wq)) (G := ?_) (fun key => ?_) ?_
    rotate_left
    · have hN : Nx Wg Wg.drew := (Nx.refl Wg).drew
      have hL0 : Row Wg.drew Wg.heap.size A' (n * 4) (sgAt gs) := hL
      have b0 : Box Wg.drew v6.heap.size 30 #[.int .i64 ((q : Int) + 1), .int .i64 ((q : Int) + 2), .int .i64 900, .slice A6 1 c6] := bH
      refine wp_region_plan (.t 1 (.t 3 (.b 0 (.b 2 (.c 4 (.c 5 (.t 6 .e))) 4 (.c 2 (.c 5 (.t 6 .e)))) 4 (.c 0 (.c 2 (.c 5 (.t 6 .e))))))) (fun w' => w'.cell? ⟨v6.heap.size, 0, none⟩ = some (.int .i64 ((q : Int) + 1)) ∧ w'.cell? ⟨v6.heap.size, 1, none⟩ = some (.int .i64 ((q : Int) + 2)) ∧ w'.cell? ⟨v6.heap.size, 2, none⟩ = some (.int .i64 900) ∧ w'.cell? ⟨v6.heap.size, 3, none⟩ = some (.slice A6 1 c6)) (by kernel_rfl) (by kernel_rfl) rfl (by kernel_rfl) (fun _ _ d _ _ h => by cases d <;> exact h) (by exact b0.d4) ?_
      simp only [psOf, List.getD_cons_zero, List.getD_cons_succ]
      generalize Wg.drew = D0 at *
      repeat (first | (refine HP.take (v := ?_) (by rfl) ?_ ?_; rotate_left; (· (intro w hSw; (try dsimp only at hSw); go_simp; try with_reducible rfl)); (try simp only [Act.put, List.setIfInBounds_toArray, List.set_cons_zero, List.set_cons_succ])) | (refine HP.skip (by rfl) ?_; (try simp only [Act.put, List.setIfInBounds_toArray, List.set_cons_zero, List.set_cons_succ])))
      refine HP.both ?_ ?_
      · have hE := RowS.new D0 (B := D0.heap.size) (Nat.le_refl _)
        have hxE := (Nx.refl D0).alloc (.cells #[] 30)
        have hlE : D0.heap.size < (D0.alloc (.cells #[] 30)).heap.size := by simp
        have hBE : Wg.heap.size ≤ D0.heap.size := hN.size
        replace hN := hN.trans hxE
        (try replace bD := bD.nx hxE)
        refine CallStep.mk (by rfl) (fun K hK => ?_)
        go_simp
        refine hK.out _ _ (by exact (bH.nx hN).d4) ?_
        clear hK K
        try simp only [Act.put, List.setIfInBounds_toArray, List.set_cons_zero, List.set_cons_succ]
        change HP _ _ _ _ _ _ (D0.alloc (.cells #[] 30))
        generalize D0.alloc (.cells #[] 30) = We at *
        clear hxE
        refine HP.both ?_ ?_
        · refine CallStep.mk (by rfl) (fun K hK => ?_)
          refine wp_addAll _ _ rfl Wg.heap.size D0.heap.size n A' c' gs Hn.out rfl rfl (hE.low hBE) (by rw [Hn.out]; exact hL.below hN (Nat.le_refl _)) (by omega) hN.size ?_
          intro A8 k8 Wr hR hgr hoth
          replace hN := hgr.nx _ hN (Nat.le_refl _)
          refine hK.out _ _ (by exact (bH.nx hN).d4) ?_
          clear hK K
          try simp only [Act.put, List.setIfInBounds_toArray, List.set_cons_zero, List.set_cons_succ]
          clear hE hgr hoth
          refine HP.call ?_
          have bD := Box.new Wr 30 #[.int .i64 ((q : Int) + 1), .int .i64 ((q : Int) + 2), .int .i64 900, .slice A6 1 c6]
          have hxD := (Nx.refl Wr).alloc (.cells #[.int .i64 ((q : Int) + 1), .int .i64 ((q : Int) + 2), .int .i64 900, .slice A6 1 c6] 30)
          have hlD : Wr.heap.size < (Wr.alloc (.cells #[.int .i64 ((q : Int) + 1), .int .i64 ((q : Int) + 2), .int .i64 900, .slice A6 1 c6] 30)).heap.size := by simp
          replace hN := hN.trans hxD
          (try replace hE := hE.nx hxD)
          (try replace hR := hR.nx hxD)
          refine CallStep.mk (by rfl) (fun K hK => ?_)
          go_simp
          refine hK.out _ _ (by exact (bH.nx hN).d4) ?_
          clear hK K
          try simp only [Act.put, List.setIfInBounds_toArray, List.set_cons_zero, List.set_cons_succ]
          change HP _ _ _ _ _ _ (Wr.alloc (.cells #[.int .i64 ((q : Int) + 1), .int .i64 ((q : Int) + 2), .int .i64 900, .slice A6 1 c6] 30))
          generalize Wr.alloc (.cells #[.int .i64 ((q : Int) + 1), .int .i64 ((q : Int) + 2), .int .i64 900, .slice A6 1 c6] 30) = Wd at *
          clear hxD
          refine HP.call ?_
          refine CallStep.mk (by rfl) (fun K hK => ?_)
          refine wp_addS _ _ rfl Wg.heap.size Wr.heap.size _ gs ⟨(q : Int) + 1, (q : Int) + 2, 900, A6, c6, [((bb : Int), (vv : Int), o)]⟩ rfl rfl (by rw [Hn.out] at *; exact hR) bD (by rw [Hn.out]; omega) hN.size ?_
          intro A9 k9 Wf hR9 hgr9
          rw [Hn.out] at hR9 ⊢
          replace hN := hgr9.nx _ hN (Nat.le_refl _)
          refine hK.out _ _ (by exact (bH.nx hN).d4) ?_
          clear hK K
          try simp only [Act.put, List.setIfInBounds_toArray, List.set_cons_zero, List.set_cons_succ]
          repeat (first | (refine HP.take (v := ?_) (by rfl) ?_ ?_; rotate_left; (· (intro w hSw; (try dsimp only at hSw); go_simp; try with_reducible rfl)); (try simp only [Act.put, List.setIfInBounds_toArray, List.set_cons_zero, List.set_cons_succ])) | (refine HP.skip (by rfl) ?_; (try simp only [Act.put, List.setIfInBounds_toArray, List.set_cons_zero, List.set_cons_succ])))
          refine HP.done ?_
          generalize D0.heap.size = gE
          generalize Wr.heap.size = gD
          exact key gE A8 k8 gD A9 k9 Wf ⟨hR9, hN⟩
        · have bD := Box.new We 30 #[.int .i64 ((q : Int) + 1), .int .i64 ((q : Int) + 2), .int .i64 900, .slice A6 1 c6]
          have hxD := (Nx.refl We).alloc (.cells #[.int .i64 ((q : Int) + 1), .int .i64 ((q : Int) + 2), .int .i64 900, .slice A6 1 c6] 30)
          have hlD : We.heap.size < (We.alloc (.cells #[.int .i64 ((q : Int) + 1), .int .i64 ((q : Int) + 2), .int .i64 900, .slice A6 1 c6] 30)).heap.size := by simp
          replace hN := hN.trans hxD
          (try replace hE := hE.nx hxD)
          (try replace hR := hR.nx hxD)
          refine CallStep.mk (by rfl) (fun K hK => ?_)
          go_simp
          refine hK.out _ _ (by exact (bH.nx hN).d4) ?_
          clear hK K
          try simp only [Act.put, List.setIfInBounds_toArray, List.set_cons_zero, List.set_cons_succ]
          change HP _ _ _ _ _ _ (We.alloc (.cells #[.int .i64 ((q : Int) + 1), .int .i64 ((q : Int) + 2), .int .i64 900, .slice A6 1 c6] 30))
          generalize We.alloc (.cells #[.int .i64 ((q : Int) + 1), .int .i64 ((q : Int) + 2), .int .i64 900, .slice A6 1 c6] 30) = Wd at *
          clear hxD
          refine HP.call ?_
          refine CallStep.mk (by rfl) (fun K hK => ?_)
          refine wp_addAll _ _ rfl Wg.heap.size D0.heap.size n A' c' gs Hn.out rfl rfl (hE.low hBE) (by rw [Hn.out]; exact hL.below hN (Nat.le_refl _)) (by omega) hN.size ?_
          intro A8 k8 Wr hR hgr hoth
          replace hN := hgr.nx _ hN (Nat.le_refl _)
          replace bD : Box Wr We.heap.size 30 #[.int .i64 ((q : Int) + 1), .int .i64 ((q : Int) + 2), .int .i64 900, .slice A6 1 c6] := (hoth We.heap.size bD.lt (by omega)).trans bD
          refine hK.out _ _ (by exact (bH.nx hN).d4) ?_
          clear hK K
          try simp only [Act.put, List.setIfInBounds_toArray, List.set_cons_zero, List.set_cons_succ]
          clear hE hgr hoth
          refine HP.call ?_
          refine CallStep.mk (by rfl) (fun K hK => ?_)
          refine wp_addS _ _ rfl Wg.heap.size We.heap.size _ gs ⟨(q : Int) + 1, (q : Int) + 2, 900, A6, c6, [((bb : Int), (vv : Int), o)]⟩ rfl rfl (by rw [Hn.out] at *; exact hR) bD (by rw [Hn.out]; omega) hN.size ?_
          intro A9 k9 Wf hR9 hgr9
          rw [Hn.out] at hR9 ⊢
          replace hN := hgr9.nx _ hN (Nat.le_refl _)
          refine hK.out _ _ (by exact (bH.nx hN).d4) ?_
          clear hK K
          try simp only [Act.put, List.setIfInBounds_toArray, List.set_cons_zero, List.set_cons_succ]
          repeat (first | (refine HP.take (v := ?_) (by rfl) ?_ ?_; rotate_left; (· (intro w hSw; (try dsimp only at hSw); go_simp; try with_reducible rfl)); (try simp only [Act.put, List.setIfInBounds_toArray, List.set_cons_zero, List.set_cons_succ])) | (refine HP.skip (by rfl) ?_; (try simp only [Act.put, List.setIfInBounds_toArray, List.set_cons_zero, List.set_cons_succ])))
          refine HP.done ?_
          generalize D0.heap.size = gE
          generalize We.heap.size = gD
          exact key gE A8 k8 gD A9 k9 Wf ⟨hR9, hN⟩
      · have bD := Box.new D0 30 #[.int .i64 ((q : Int) + 1), .int .i64 ((q : Int) + 2), .int .i64 900, .slice A6 1 c6]
        have hxD := (Nx.refl D0).alloc (.cells #[.int .i64 ((q : Int) + 1), .int .i64 ((q : Int) + 2), .int .i64 900, .slice A6 1 c6] 30)
        have hlD : D0.heap.size < (D0.alloc (.cells #[.int .i64 ((q : Int) + 1), .int .i64 ((q : Int) + 2), .int .i64 900, .slice A6 1 c6] 30)).heap.size := by simp
        replace hN := hN.trans hxD
        (try replace hE := hE.nx hxD)
        (try replace hR := hR.nx hxD)
        refine CallStep.mk (by rfl) (fun K hK => ?_)
        go_simp
        refine hK.out _ _ (by exact (bH.nx hN).d4) ?_
        clear hK K
        try simp only [Act.put, List.setIfInBounds_toArray, List.set_cons_zero, List.set_cons_succ]
        change HP _ _ _ _ _ _ (D0.alloc (.cells #[.int .i64 ((q : Int) + 1), .int .i64 ((q : Int) + 2), .int .i64 900, .slice A6 1 c6] 30))
        generalize D0.alloc (.cells #[.int .i64 ((q : Int) + 1), .int .i64 ((q : Int) + 2), .int .i64 900, .slice A6 1 c6] 30) = Wd at *
        clear hxD
        refine HP.call ?_
        have hE := RowS.new Wd (B := Wd.heap.size) (Nat.le_refl _)
        have hxE := (Nx.refl Wd).alloc (.cells #[] 30)
        have hlE : Wd.heap.size < (Wd.alloc (.cells #[] 30)).heap.size := by simp
        have hBE : Wg.heap.size ≤ Wd.heap.size := hN.size
        replace hN := hN.trans hxE
        (try replace bD := bD.nx hxE)
        refine CallStep.mk (by rfl) (fun K hK => ?_)
        go_simp
        refine hK.out _ _ (by exact (bH.nx hN).d4) ?_
        clear hK K
        try simp only [Act.put, List.setIfInBounds_toArray, List.set_cons_zero, List.set_cons_succ]
        change HP _ _ _ _ _ _ (Wd.alloc (.cells #[] 30))
        generalize Wd.alloc (.cells #[] 30) = We at *
        clear hxE
        refine HP.call ?_
        refine CallStep.mk (by rfl) (fun K hK => ?_)
        refine wp_addAll _ _ rfl Wg.heap.size Wd.heap.size n A' c' gs Hn.out rfl rfl (hE.low hBE) (by rw [Hn.out]; exact hL.below hN (Nat.le_refl _)) (by omega) hN.size ?_
        intro A8 k8 Wr hR hgr hoth
        replace hN := hgr.nx _ hN (Nat.le_refl _)
        replace bD : Box Wr D0.heap.size 30 #[.int .i64 ((q : Int) + 1), .int .i64 ((q : Int) + 2), .int .i64 900, .slice A6 1 c6] := (hoth D0.heap.size bD.lt (by omega)).trans bD
        refine hK.out _ _ (by exact (bH.nx hN).d4) ?_
        clear hK K
        try simp only [Act.put, List.setIfInBounds_toArray, List.set_cons_zero, List.set_cons_succ]
        clear hE hgr hoth
        refine HP.call ?_
        refine CallStep.mk (by rfl) (fun K hK => ?_)
        refine wp_addS _ _ rfl Wg.heap.size D0.heap.size _ gs ⟨(q : Int) + 1, (q : Int) + 2, 900, A6, c6, [((bb : Int), (vv : Int), o)]⟩ rfl rfl (by rw [Hn.out] at *; exact hR) bD (by rw [Hn.out]; omega) hN.size ?_
        intro A9 k9 Wf hR9 hgr9
        rw [Hn.out] at hR9 ⊢
        replace hN := hgr9.nx _ hN (Nat.le_refl _)
        refine hK.out _ _ (by exact (bH.nx hN).d4) ?_
        clear hK K
        try simp only [Act.put, List.setIfInBounds_toArray, List.set_cons_zero, List.set_cons_succ]
        repeat (first | (refine HP.take (v := ?_) (by rfl) ?_ ?_; rotate_left; (· (intro w hSw; (try dsimp only at hSw); go_simp; try with_reducible rfl)); (try simp only [Act.put, List.setIfInBounds_toArray, List.set_cons_zero, List.set_cons_succ])) | (refine HP.skip (by rfl) ?_; (try simp only [Act.put, List.setIfInBounds_toArray, List.set_cons_zero, List.set_cons_succ])))
        refine HP.done ?_
        generalize Wd.heap.size = gE
        generalize D0.heap.size = gD
        exact key gE A8 k8 gD A9 k9 Wf ⟨hR9, hN⟩
    intro ge_h A8_h k8_h gd_h Ah kh Wh ⟨hRh, hv⟩
    replace hRg := hRg.nx hv
    replace bG := bG.nx hv
    replace hS6 := hS6.nx hv
    replace hx := hx.nx hv
    replace hX := hX.trans hv
    replace hS := hS.nx hv
    replace hS5 := hS5.nx hv
    clear hv bH hL
    obtain ⟨gx, hgx⟩ : ∃ gx, Ax = some ⟨gx, 0, none⟩ := by obtain ⟨g, e, _⟩ := hx (by rw [(contB_yes hcx).1]; omega); exact ⟨g, e⟩
    subst hgx
    obtain ⟨ga, hga⟩ : ∃ ga, A5 = some ⟨ga, 0, none⟩ := by obtain ⟨g, e, _⟩ := hS5 (by omega); exact ⟨g, e⟩
    subst hga
    have hb8 : bb < x.length := by rw [(contB_yes hcx).1]; exact hbb
    have hb9 : (bb : Int) < 8 := by omega
    have hok : chsB [((bb : Int), (vv : Int), o)] = true := ch_one (chB_mk (by omega) (by omega) (by omega) (by omega) hov.1 hov.2)
    have L : Lk (base : Int) c0 gs gs.length ⟨(q : Int), (q : Int) + 1, 900, (some ⟨ga, 0, none⟩), c5, [((bb : Int), (vv : Int), o)]⟩ := ⟨segB_mk (by show (0 : Int) ≤ (q : Int); omega) (by show (q : Int) < (q : Int) + 1; omega) (by show (q : Int) + 1 ≤ 999999; omega) (inB_mk (by show (0 : Int) ≤ 900; decide) (by show (900 : Int) ≤ 999999; decide)) hok, by show (q : Int) = _; rw [Hn.out]; exact Hq.out.symm, by show _ ≤ (900 : Int); rw [Hn.out]; have := HTm.out; omega, by rw [Hn.out, Hx.out, ← Ho.out]; exact fits_one x bb vv⟩
    have hbin : inB 0 999999 (base : Int) = true := inB_mk (by omega) (by omega)
    have R1 := Lib.hid (hI.chain hcont hbin (by rw [Hn.out]; omega))
    have R2 := Lib.hid ((hI.snoc L).chain hcont hbin (by rw [List.length_append, Hn.out]; simp; omega))
    have R3 := Lib.hid (bad_chain (base := (base : Int)) (gs := gs) (g := ⟨(q : Int) + 1, (q : Int) + 2, 900, A6, c6, [((bb : Int), (vv : Int), o)]⟩) (by show (q : Int) + 1 ≠ _; rw [Hn.out, Hq.out]; omega))
    have m1 : ∀ k, k < gs.length → (gs.getD k sgZ).cs.length ≤ 1048576 := fun k hk => by have := chsB_len (segB_chs (hI k hk).seg); omega
    have M1 := Lib.hid m1
    have M2 := Lib.hid (cs_snoc (g := ⟨(q : Int), (q : Int) + 1, 900, (some ⟨ga, 0, none⟩), c5, [((bb : Int), (vv : Int), o)]⟩) m1 (by simp))
    have M3 := Lib.hid (cs_snoc (g := ⟨(q : Int) + 1, (q : Int) + 2, 900, A6, c6, [((bb : Int), (vv : Int), o)]⟩) m1 (by simp))
    have E2 : Hid ((gs ++ [(⟨(q : Int), (q : Int) + 1, 900, (some ⟨ga, 0, none⟩), c5, [((bb : Int), (vv : Int), o)]⟩ : SgR)]).length = n + 1) := Lib.hid (by rw [List.length_append, Hn.out]; rfl)
    have E3 : Hid ((gs ++ [(⟨(q : Int) + 1, (q : Int) + 2, 900, A6, c6, [((bb : Int), (vv : Int), o)]⟩ : SgR)]).length = n + 1) := Lib.hid (by rw [List.length_append, Hn.out]; rfl)
    clear m1 L hok
    have hCg : ChO Wh w.heap.size (gs ++ [(⟨(q : Int), (q : Int) + 1, 900, (some ⟨ga, 0, none⟩), c5, [((bb : Int), (vv : Int), o)]⟩ : SgR)]) := ChO.snoc hS.chs hS5
    have hCh : ChO Wh w.heap.size (gs ++ [(⟨(q : Int) + 1, (q : Int) + 2, 900, A6, c6, [((bb : Int), (vv : Int), o)]⟩ : SgR)]) := ChO.snoc hS.chs hS6
    have hxd : Nx Wh Wh.drew := (Nx.refl Wh).drew
    replace bG := bG.nx hxd; replace hS5 := hS5.nx hxd; replace hx := hx.nx hxd; replace hS := hS.nx hxd; replace hRg := hRg.nx hxd; replace hRh := hRh.nx hxd; replace hCg := hCg.nx hxd; replace hCh := hCh.nx hxd; replace hX := hX.trans hxd
    go_wp2_with fail
    refine wp_region_lex [false, false, false, false, false, false, false, false, false, false, false, false, false, false, false, true, false, false, false, false, true, false, false, false, false, true, false, false, false, false, false, true, false, false, false, false, false, false, false, false, false, true, false, false, false, false, false] (fun w' => (w'.cell? ⟨v3.heap.size, 0, none⟩ = some (.int .i64 (q : Int)) ∧ w'.cell? ⟨v3.heap.size, 1, none⟩ = some (.int .i64 ((q : Int) + 1)) ∧ w'.cell? ⟨v3.heap.size, 2, none⟩ = some (.int .i64 900) ∧ w'.cell? ⟨v3.heap.size, 3, none⟩ = some (.slice (some ⟨ga, 0, none⟩) 1 c5)) ∧ w'.cell? ⟨ga, 2, none⟩ = some (.int .i64 o) ∧ w'.cell? ⟨gx, bb, none⟩ = some (.int .i64 o)) (by kernel_rfl) (by kernel_rfl) rfl (by kernel_rfl) (fun _ _ d _ _ h => by cases d <;> exact h) (by exact ⟨bG.d4, hS5.getC, (hx.getI hb8).trans (by rw [Ho.out])⟩) ?_
    repeat (first | (refine HL.take (v := ?_) (by rfl) ?_ ?_; rotate_left; (· (intro w hSw; (try dsimp only at hSw); go_simp; try with_reducible rfl)); (try simp only [Act.put, List.setIfInBounds_toArray, List.set_cons_zero, List.set_cons_succ])) | (refine HL.skip (by rfl) ?_; (try simp only [Act.put, List.setIfInBounds_toArray, List.set_cons_zero, List.set_cons_succ])))
    refine HL.call (by rfl) (fun K hK => ?_)
    go_simp
    refine (chainI_r (base : Int) A' n c' _ gs true _ Hn.out hS.sgs (Nat.le_refl _) (by omega) M1.out R1.out).mono ?_; rintro e y1 ⟨rfl, hy1⟩; replace bG := bG.nx hy1; replace hS5 := hS5.nx hy1; replace hx := hx.nx hy1; replace hS := hS.nx hy1; replace hRg := hRg.nx hy1; replace hRh := hRh.nx hy1; replace hCg := hCg.nx hy1; replace hCh := hCh.nx hy1; replace hX := hX.trans hy1
    go_wp2_with fail
    refine hK.out _ _ (by exact ⟨bG.d4, hS5.getC, (hx.getI hb8).trans (by rw [Ho.out])⟩) ?_
    clear hK K
    try simp only [Act.put, List.setIfInBounds_toArray, List.set_cons_zero, List.set_cons_succ]
    repeat (first | (refine HL.take (v := ?_) (by rfl) ?_ ?_; rotate_left; (· (intro w hSw; (try dsimp only at hSw); go_simp; try with_reducible rfl)); (try simp only [Act.put, List.setIfInBounds_toArray, List.set_cons_zero, List.set_cons_succ])) | (refine HL.skip (by rfl) ?_; (try simp only [Act.put, List.setIfInBounds_toArray, List.set_cons_zero, List.set_cons_succ])))
    refine HL.call (by rfl) (fun K hK => ?_)
    go_simp
    refine (chainI_r (base : Int) Ag (n + 1) kg _ (gs ++ [(⟨(q : Int), (q : Int) + 1, 900, (some ⟨ga, 0, none⟩), c5, [((bb : Int), (vv : Int), o)]⟩ : SgR)]) true _ E2.out (hRg.sgs hCg) (Nat.le_refl _) (by omega) M2.out R2.out).mono ?_; rintro e y2 ⟨rfl, hy2⟩; replace bG := bG.nx hy2; replace hS5 := hS5.nx hy2; replace hx := hx.nx hy2; replace hS := hS.nx hy2; replace hRg := hRg.nx hy2; replace hRh := hRh.nx hy2; replace hCg := hCg.nx hy2; replace hCh := hCh.nx hy2; replace hX := hX.trans hy2
    go_wp2_with fail
    refine hK.out _ _ (by exact ⟨bG.d4, hS5.getC, (hx.getI hb8).trans (by rw [Ho.out])⟩) ?_
    clear hK K
    try simp only [Act.put, List.setIfInBounds_toArray, List.set_cons_zero, List.set_cons_succ]
    repeat (first | (refine HL.take (v := ?_) (by rfl) ?_ ?_; rotate_left; (· (intro w hSw; (try dsimp only at hSw); go_simp; try with_reducible rfl)); (try simp only [Act.put, List.setIfInBounds_toArray, List.set_cons_zero, List.set_cons_succ])) | (refine HL.skip (by rfl) ?_; (try simp only [Act.put, List.setIfInBounds_toArray, List.set_cons_zero, List.set_cons_succ])))
    refine HL.call (by rfl) (fun K hK => ?_)
    go_simp
    refine (chainI_r (base : Int) Ah (n + 1) kh _ (gs ++ [(⟨(q : Int) + 1, (q : Int) + 2, 900, A6, c6, [((bb : Int), (vv : Int), o)]⟩ : SgR)]) false _ E3.out (hRh.sgs hCh) (Nat.le_refl _) (by omega) M3.out R3.out).mono ?_; rintro e y3 ⟨rfl, hy3⟩; replace bG := bG.nx hy3; replace hS5 := hS5.nx hy3; replace hx := hx.nx hy3; replace hS := hS.nx hy3; replace hRg := hRg.nx hy3; replace hRh := hRh.nx hy3; replace hCg := hCg.nx hy3; replace hCh := hCh.nx hy3; replace hX := hX.trans hy3
    go_wp2_with fail
    refine hK.out _ _ (by exact ⟨bG.d4, hS5.getC, (hx.getI hb8).trans (by rw [Ho.out])⟩) ?_
    clear hK K
    try simp only [Act.put, List.setIfInBounds_toArray, List.set_cons_zero, List.set_cons_succ]
    repeat (first | (refine HL.take (v := ?_) (by rfl) ?_ ?_; rotate_left; (· (intro w hSw; (try dsimp only at hSw); go_simp; try with_reducible rfl)); (try simp only [Act.put, List.setIfInBounds_toArray, List.set_cons_zero, List.set_cons_succ])) | (refine HL.skip (by rfl) ?_; (try simp only [Act.put, List.setIfInBounds_toArray, List.set_cons_zero, List.set_cons_succ])))
    refine HL.call (by rfl) (fun K hK => ?_)
    go_simp
    refine (chainS_r (base : Int) Ag (n + 1) kg _ (gs ++ [(⟨(q : Int), (q : Int) + 1, 900, (some ⟨ga, 0, none⟩), c5, [((bb : Int), (vv : Int), o)]⟩ : SgR)]) true _ E2.out (hRg.sgs hCg) (Nat.le_refl _) (by omega) M2.out R2.out).mono ?_; rintro e y4 ⟨rfl, hy4⟩; replace bG := bG.nx hy4; replace hS5 := hS5.nx hy4; replace hx := hx.nx hy4; replace hS := hS.nx hy4; replace hRg := hRg.nx hy4; replace hRh := hRh.nx hy4; replace hCg := hCg.nx hy4; replace hCh := hCh.nx hy4; replace hX := hX.trans hy4
    go_wp2_with fail
    refine hK.out _ _ (by exact ⟨bG.d4, hS5.getC, (hx.getI hb8).trans (by rw [Ho.out])⟩) ?_
    clear hK K
    try simp only [Act.put, List.setIfInBounds_toArray, List.set_cons_zero, List.set_cons_succ]
    repeat (first | (refine HL.take (v := ?_) (by rfl) ?_ ?_; rotate_left; (· (intro w hSw; (try dsimp only at hSw); go_simp; try with_reducible rfl)); (try simp only [Act.put, List.setIfInBounds_toArray, List.set_cons_zero, List.set_cons_succ])) | (refine HL.skip (by rfl) ?_; (try simp only [Act.put, List.setIfInBounds_toArray, List.set_cons_zero, List.set_cons_succ])))
    refine HL.call (by rfl) (fun K hK => ?_)
    go_simp
    refine (atP_c A2 n2 c2 1 8 _ ys2 _ (h2.below hX (Nat.le_refl _)) hX.size hb2 (by omega) (by omega) (by omega)).mono ?_; rintro e y5 ⟨rfl, hy5⟩; rw [Hbb.out]; replace bG := bG.nx hy5; replace hS5 := hS5.nx hy5; replace hx := hx.nx hy5; replace hS := hS.nx hy5; replace hRg := hRg.nx hy5; replace hRh := hRh.nx hy5; replace hCg := hCg.nx hy5; replace hCh := hCh.nx hy5; replace hX := hX.trans hy5
    go_wp2_with fail
    refine hK.out _ _ (by exact ⟨bG.d4, hS5.getC, (hx.getI hb8).trans (by rw [Ho.out])⟩) ?_
    clear hK K
    try simp only [Act.put, List.setIfInBounds_toArray, List.set_cons_zero, List.set_cons_succ]
    repeat (first | (refine HL.take (v := ?_) (by rfl) ?_ ?_; rotate_left; (· (intro w hSw; (try dsimp only at hSw); go_simp; try with_reducible rfl)); (try simp only [Act.put, List.setIfInBounds_toArray, List.set_cons_zero, List.set_cons_succ])) | (refine HL.skip (by rfl) ?_; (try simp only [Act.put, List.setIfInBounds_toArray, List.set_cons_zero, List.set_cons_succ])))
    refine HL.done ?_
    go_wp2
    go_ret
    exact ⟨rfl, hX⟩
end Go.Proofs.Ytjefjngheolmkaa
