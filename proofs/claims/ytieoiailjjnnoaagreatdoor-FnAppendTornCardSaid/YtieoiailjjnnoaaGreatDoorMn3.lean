/-
  Texts of the proof, in their order.
  Conditions: those of each.
-/
import Derived.Test.YtieoiailjjnnoaaGreatDoorMn2
import Derived.Lib.Strings
import Derived.Lib.Builder
import Derived.Lib.AppendStr
import Derived.Lib.UnsafeStr
import Derived.Laws.Externs
import Derived.RegionTactic
import Derived.Shelf.Strings.Builder1
import Derived.Deep.AppendLies
import Derived.Deep.QuietTactic
import Derived.BigQuiet
import Derived.Lib.SplitLaws
namespace Go.Proofs.YtieoiailjjnnoaaGreatDoor
set_option linter.unusedVariables false
open _root_.Go.Proofs.Tryz
set_option maxRecDepth 100000
set_option maxHeartbeats 16000000
section
open Go.RowKit
def sizeOfStr : Value -> Nat | .string s => s.size | _ => 0
theorem ba_eq {s : BA} {l : List UInt8} (h : s.data.toList = l) : s = ⟨l.toArray⟩ := by
 subst h; cases s; simp
theorem ba_app (s t : BA) : (s ++ t).data.toList = s.data.toList ++ t.data.toList := by
 cases s; cases t; rw [ByteArray.mk_append_mk]
theorem ba_size (s : BA) : s.size = s.data.toList.length := by rw [Array.length_toList]; rfl
theorem six_less {s t : BA} (h : s.size < 6) (ht : 0 < t.size := by decide) : 6 - sizeOfStr (.string (t ++ s)) < 6 - sizeOfStr (.string s) := by
 show 6 - (t ++ s).size < 6 - s.size
 rw [ByteArray.size_append]
 omega
theorem l02Six_c (n : Nat) (w : World) (hn : n <= 999999) : Calls Tryz.prog 178 #[ii n] w fun e w' => e = .returned (.string ⟨(pad 6 n).toArray⟩) /\ Nx w w' := by
 obtain ⟨hl, he⟩ := digs_pad 5 n oM
 obtain ⟨hl1, _⟩ := digs_len hn
 have HE := qh he
 clear he
 go_enter func178, ntmps178
 go_wp2_with fail
 refine (l00Digits_c n _ hn).mono ?_
 rintro e w1 ⟨rfl, hnx1⟩
 obtain ⟨s0, Hs0⟩ := nM ((⟨(digs n).toArray⟩ : BA) : BA)
 rw [Hs0.out]
 go_wp2
 go_loop [3] (fun v => ∃ (s : BA) (k : Nat), v = .string s /\ k + (digs n).length <= 6 /\ s.size <= 6 /\ Hid (s.data.toList = List.replicate k 48 ++ digs n)) (fun v => 6 - sizeOfStr v)
 case atStart =>
  refine ⟨s0, 0, rfl, oM, ?_, qh ?_⟩
  . rw [<- Hs0.out]; simpa [ByteArray.size] using hl
  . rw [<- Hs0.out]; simp
 case round =>
  obtain ⟨s, k, rfl, hk, hs6, HS⟩ := hrel
  have hsz : s.size = k + (digs n).length := by rw [ba_size, HS.out]; simp
  by_cases hlt : s.size < 6
  . have hd : decide ((s.size : Int) < 6) = true := by simp; omega
    have Hsz := qh hsz
    clear hsz
    go_wp2
    go_round
    case rel =>
     refine ⟨_, k + 1, rfl, by have := Hsz.out; omega, ?_, qh ?_⟩
     . rw [ba_size, ba_app]; simp; have := ba_size s; simp at this; omega
     . rw [ba_app, HS.out]; simp [List.replicate_succ]
    case measure => exact six_less hlt
  . have hd : decide ((s.size : Int) < 6) = false := by simp; omega
    have hk6 : k = 6 - (digs n).length := oM
    have HK := qh hk6
    clear hsz hk6
    go_wp2
    go_ret
    refine ⟨ret_str (ba_eq ?_), hnx1⟩
    rw [HS.out, HK.out, HE.out]
def sumD (s : BA) : List UInt8 := pad 3 (sumS s).toNat
theorem pad_drop (j k n : Nat) : (pad (k + j) n).drop k = pad j n /\ True := by
 induction j generalizing n with
 | zero => refine ⟨?_, trivial⟩; show (pad k n).drop k = []; rw [List.drop_of_length_le (by rw [pad_len]; omega)]
 | succ j ih =>
   refine ⟨?_, trivial⟩
   show (pad (k + j) (n / 10) ++ [_]).drop k = pad j (n / 10) ++ [_]
   rw [List.drop_append_of_le_length (by rw [pad_len]; omega), (ih (n / 10)).1]
theorem l02Seal_c (s : BA) (w : World) (hs : s.size <= 1048576) : Calls Tryz.prog 109 #[.string s] w fun e w' => e = .returned (.string (s ++ ⟨(sumD s).toArray⟩)) /\ Nx w w' := by
 obtain ⟨h0, h1⟩ := sumL_bd s.data.toList
 obtain ⟨q, hq⟩ : ∃ q : Nat, sumS s = (q : Int) := ⟨(sumS s).toNat, by have : 0 <= sumS s := h0; omega⟩
 have hq6 : q <= 996 := by have : sumS s <= 996 := h1; omega
 have HD := qh (show sumD s = pad 3 q by unfold sumD; rw [hq]; rfl)
 have HQ := qh hq
 clear hq
 go_enter func109, ntmps109
 go_wp2_with fail
 refine (l02Sum_c s _ (by unfold maxLen; omega)).mono ?_
 rintro e w1 ⟨rfl, rfl⟩
 rw [HQ.out]
 go_wp2_with fail
 refine (l02Six_c q _ oM).mono ?_
 rintro e w1 ⟨rfl, hnx1⟩
 obtain ⟨d, Hd⟩ := nM ((⟨(pad 6 q).toArray⟩ : BA) : BA)
 have hd6 : d.size = 6 := by rw [<- Hd.out]; simp [ByteArray.size, pad_len]
 rw [Hd.out]
 have hd7 : 3 <= d.size := oM
 have hd8 : d.size <= 6 := oM
 have Hd6 := qh hd6
 clear hd6
 go_wp2
 go_ret
 refine ⟨ret_str ?_, hnx1⟩
 congr 1
 refine ba_eq ?_
 rw [Lib.extract_data, Hd6.out, HD.out, <- Hd.out]
 have h6 := (pad_drop 3 3 q).1
 simpa [List.take_of_length_le, pad_len] using h6
def padAll (ns : List Nat) : List UInt8 := ns.flatMap (pad 6)
theorem padAll_len (ns : List Nat) : (padAll ns).length = ns.length * 6 := by
 unfold padAll
 induction ns with
 | nil => rfl
 | cons a l ih => simp [pad_len, ih]; omega
def intAt (ns : List Nat) (i : Nat) : Value := ii (ns.getD i 0 : Nat)
def All6 (ns : List Nat) : Prop := ∀ k, k < ns.length -> ns.getD k 0 <= 999999
def padTo (ns : List Nat) (k : Nat) : List UInt8 := padAll (ns.take k)
theorem padTo_len (ns : List Nat) (k : Nat) (h : k <= ns.length) : (padTo ns k).length = k * 6 := by
 unfold padTo; rw [padAll_len, List.length_take, Nat.min_eq_left h]
theorem padTo_succ (ns : List Nat) (k : Nat) (h : k < ns.length) : padTo ns (k + 1) = padTo ns k ++ pad 6 (ns.getD k 0) := by
 unfold padTo padAll
 rw [List.take_succ_eq_append_getElem h, List.flatMap_append, gdE, List.getElem?_eq_getElem h]; simp
theorem padTo_all (ns : List Nat) : padTo ns ns.length = padAll ns := by unfold padTo; rw [List.take_length]
theorem l02Join_c (A : Option Addr) (c B : Nat) (ns : List Nat) (w : World) (h : Row w B A ns.length (intAt ns)) (hB : B <= w.heap.size) (h6 : All6 ns) (hn : ns.length <= 1000) :
 Calls Tryz.prog 110 #[sC A ns.length c] w fun e w' => e = .returned (.string ⟨(padAll ns).toArray⟩) /\ Nx w w' := by
 go_enter func110, ntmps110
 go_wp2
 go_loopw [3, 4] (fun v i wr => ∃ (k : Nat) (s : BA), k <= ns.length /\ i = ii k /\ v = .string s /\ s.size <= 6000 /\ Hid (s.data.toList = padTo ns k) /\ Nx w wr) (fun _ i _ => ns.length - (intOf i).toNat)
 case atStart => exact ⟨0, ⟨#[]⟩, Nat.zero_le _, rfl, rfl, by decide, qh rfl, Nx.refl _⟩
 case round =>
  obtain ⟨k, s, hk, rfl, rfl, hs, HS, hnx⟩ := hrel
  by_cases hlt : k < ns.length
  . obtain ⟨b, off, rfl, hb, hc0⟩ := (h.below hnx hB) oM
    have hc := hc0 k hlt
    have hn6 := h6 k hlt
    have HP := qh (padTo_succ ns k hlt)
    have HL := qh (padTo_len ns k hk)
    clear hc0
    unfold intAt at hc
    obtain ⟨x, Hx⟩ := nM (ns.getD k 0)
    rw [Hx.out] at hc hn6 HP
    go_wp2_with fail
    refine (l02Six_c x _ hn6).mono ?_
    rintro e w1 ⟨rfl, hnx1⟩
    obtain ⟨d, Hd⟩ := nM ((⟨(pad 6 x).toArray⟩ : BA) : BA)
    have hd6 : d.size <= 6 := by rw [<- Hd.out]; simp [ByteArray.size, pad_len]
    rw [Hd.out]
    go_wp2
    go_roundw
    case rel =>
     have hds : d.data.toList = pad 6 x := by rw [<- Hd.out]
     have hsz : (s ++ d).data.toList = padTo ns (k + 1) := by rw [ba_app, HS.out, HP.out, hds]
     exact ⟨k + 1, _, oM, by go_num, rfl, by rw [ba_size, hsz, padTo_len _ _ oM]; omega, qh hsz, hnx.trans hnx1⟩
    case measure => simp [intOf]; omega
  . obtain rfl : k = ns.length := oM
    go_wp2
    go_ret
    exact ⟨ret_str (ba_eq (by rw [HS.out, padTo_all])), hnx⟩
def padAt (k n i : Nat) : Nat := 48 + n / 10 ^ (k - 1 - i) % 10
theorem pad_get (k : Nat) : ∀ n i, i < k -> (pad k n)[i]? = some (UInt8.ofNat (padAt k n i)) := by
 induction k with
 | zero => intro n i h; omega
 | succ k ih =>
   intro n i h
   show (pad k (n / 10) ++ [UInt8.ofNat (48 + n % 10)])[i]? = _
   by_cases hi : i < k
   . rw [List.getElem?_append_left (by rw [pad_len]; exact hi), ih _ _ hi]
     unfold padAt
     rw [Nat.div_div_eq_div_mul, show k + 1 - 1 - i = (k - 1 - i) + 1 by omega, Nat.pow_succ, Nat.mul_comm]
   . obtain rfl : i = k := oM
     rw [List.getElem?_append_right (by rw [pad_len]; omega), pad_len, Nat.sub_self]
     unfold padAt
     simp
def digAt (k n i : Nat) : Value := .int .u8 ((padAt k n i : Nat) : Int)
theorem info_u8 : (Tryz.prog.info? 5).map (fun i => (i.zero, i.size, i.bytes)) = some (some (.int .u8 0), 1, 1) := by kernel_rfl
def Back (w : World) (g : Nat) (t : TypeId) (m r : Nat) (F : Nat -> Value) : Prop := ∃ f, Own w g t m f /\ ∀ i, r <= i -> i < m -> f i = F i
theorem Back.step {w : World} {g : Nat} {t : TypeId} {m k : Nat} {F : Nat -> Value} (h : Back w g t m (k + 1) F) (hk : k < m) {v : Value} (hv : v = F k) : Back (w.setCell ⟨g, k, none⟩ v) g t m k F := by
 obtain ⟨f, h, hf⟩ := h
 refine ⟨_, h.set hk v, fun i hi hm => ?_⟩
 by_cases e : i = k
 . subst e; simp [hv]
 . simp only [if_neg e]; exact hf i oM hm
theorem back_conv {W : World} {g k n : Nat} (h : Back W g 5 k 0 (digAt k n)) :
 (convert 22 9 (sC (some ⟨g, 0, none⟩) k k)).run Tryz.prog W = .ok (.string ⟨(pad k n).toArray⟩) W := by
 obtain ⟨f, h, hf⟩ := h
 have := run_convert_bytes_back (P := Tryz.prog) W 22 9 5 ⟨g, 0, none⟩ k (pad k n) underlying22 underlying5 underlying9 (fun j hj => by
  rw [pad_len] at hj
  have e : ((Addr.mk g 0 none).add j) = ⟨g, j, none⟩ := by
   unfold Addr.add
   by_cases h : j = 0
   . subst h; simp
   . simp [h]
  rw [e, h.cell hj, hf j oM hj]
  have e2 := pad_get k n j hj
  rw [List.getElem?_eq_getElem (by rw [pad_len]; exact hj)] at e2
  injection e2 with e2
  rw [e2]
  unfold digAt
  have h3 : padAt k n j < 58 := by unfold padAt; omega
  have e3 : (UInt8.ofNat (padAt k n j)).toNat = padAt k n j := by
   rw [UInt8.toNat_ofNat']
   omega
  rw [e3])
 rw [pad_len] at this
 exact this
theorem padded_c (n k : Nat) (w : World) (hn : n <= 999999) (hk1 : 1 <= k) (hk6 : k <= 6) :
 Calls Tryz.prog 172 #[ii n, ii k] w fun e w' => e = .returned (.string ⟨(pad k n).toArray⟩) /\ Nx w w' := by
 obtain ⟨i0, hi0, hz0, hz1, hz2⟩ := info_parts info_u8
 have hmk := fun W => run_make_rowN (P := Tryz.prog) 22 5 i0 _ underlying22 hi0 hz0 .i64 .i64 k k nle (by rw [hz2]; omega) oM W
 rw [hz1] at hmk
 have hmade := Own.made w #[Value.int .u8 0] k 5
 go_enter func172, ntmps172
 go_wp2
 go_loopw [0, 6] (fun v i wr => ∃ r : Nat, r <= k /\ i = ii ((r : Int) - 1) /\ v = ii ((n / 10 ^ (k - r) : Nat) : Int) /\ Back wr w.heap.size 5 k r (digAt k n) /\ Nx w wr) (fun _ i _ => (intOf i + 1).toNat)
 case atStart => exact ⟨k, Nat.le_refl _, rfl, by simp, ⟨_, hmade, fun i h1 h2 => oM⟩, (Nx.refl _).alloc _⟩
 case round =>
  obtain ⟨r, hr, rfl, rfl, hb, hnx⟩ := hrel
  clear hmk hmade
  rcases Nat.eq_zero_or_pos r with h0 | hp
  . subst h0
    have hcv := back_conv hb
    go_wp2
    go_ret
    exact ⟨rfl, hnx⟩
  . obtain ⟨j, rfl⟩ : ∃ j, r = j + 1 := ⟨r - 1, oM⟩
    rw [show ((j + 1 : Nat) : Int) - 1 = (j : Int) by omega]
    obtain ⟨m, Hm⟩ := nM (n / 10 ^ (k - (j + 1)))
    rw [Hm.out]
    have hm : m <= 999999 := by rw [<- Hm.out]; exact ntr (Nat.div_le_self _ _) hn
    have hm1 : (m : Int) % 10 <= 9 := oM
    have hm2 : 0 <= (m : Int) % 10 := oM
    have hjk : j < k := oM
    have hjk' : (j : Int) < (k : Int) := oM
    obtain ⟨v, hv⟩ : ∃ v, wr.cell? ⟨w.heap.size, j, none⟩ = some v := by obtain ⟨f, h, _⟩ := hb; exact ⟨_, h.cell hjk⟩
    have hz : wr.frozen? ⟨w.heap.size, j, none⟩ = false := by obtain ⟨f, h, _⟩ := hb; exact h.frozen j
    go_wp2
    go_roundw
    case rel =>
     refine ⟨j, oM, rfl, ?_, hb.step hjk ?_, hnx.setCell nle _⟩
     . rw [show k - j = (k - (j + 1)) + 1 by omega, Nat.pow_succ, <- Nat.div_div_eq_div_mul, Hm.out]; go_num
     . unfold digAt padAt; rw [show k - 1 - j = k - (j + 1) by omega, Hm.out]; go_num
    case measure => simp [intOf]
theorem bldSize : (Tryz.prog.info? 202).map (·.size) = some 2 := by kernel_rfl
theorem bldLies : liesAt Tryz.prog Tryz.prog.depth 202 (2 / Tryz.prog.cellsOf 202) 0 202 1 = true := by kernel_rfl
theorem bldByte : (Tryz.prog.info? 5).map (fun i => (i.zero, i.size, i.bytes)) = some (some (.int .u8 0), 1, 1) := by kernel_rfl
theorem bldCells : Tryz.prog.cellsOf 5 = 1 := by kernel_rfl
theorem copyUsed_c (b : Nat) (w : World) (h0 : w.cell? ⟨b, 0, none⟩ = some (.pointer (some ⟨b, 0, none⟩))) :
 Calls Tryz.prog 211 #[.pointer (some ⟨b, 0, none⟩)] w fun e w' => e = .returned (.tuple #[]) /\ w = w' := by
 obtain ⟨j, hj, _⟩ := Option.map_eq_some_iff.1 bldSize
 go_enter func211, ntmps211
 go_wp2
 rw [Lib.run_neq_ptr_same w _ underlying200 hj]
 go_wp2
 go_end0
 exact ⟨rfl, rfl⟩
theorem copyNew_c (b : Nat) (w : World) (h0 : w.cell? ⟨b, 0, none⟩ = some (.pointer none)) (hsh : w.shape? b = some (202, 2)) (hfz : w.frozen? ⟨b, 0, none⟩ = false) :
 Calls Tryz.prog 211 #[.pointer (some ⟨b, 0, none⟩)] w fun e w' => e = .returned (.tuple #[]) /\ w.setCell ⟨b, 0, none⟩ (.pointer (some ⟨b, 0, none⟩)) = w' := by
 obtain ⟨j, hj, hjs⟩ := Option.map_eq_some_iff.1 bldSize
 go_enter func211, ntmps211
 go_wp2
 rw [Lib.run_to_unsafe w ⟨b, 0, none⟩ underlying200 underlying210 hj (by rw [hjs]; decide) hsh (Nat.zero_lt_succ 1)]
 simp only [Result.andThen]
 rw [Oper.upon_value]
 go_wp2
 rw [run_callFunc_extern func229 (by kernel_rfl) (by kernel_rfl) (by kernel_rfl) (e := Extern.AbiNoEscape.same) (by kernel_rfl)]
 rw [Lib.run_noEscape]
 simp only [Result.andThen]
 rw [Oper.upon_value]
 go_wp2
 rw [Lib.run_from_unsafe w ⟨b, 0, none⟩ underlying210 underlying200 hj hsh bldLies]
 simp only [Result.andThen]
 rw [Oper.upon_value]
 go_wp2
 go_end0
 exact ⟨rfl, rfl⟩
def Bd (w : World) (b : Nat) (l : List UInt8) : Prop := Lib.IsBuilder 202 5 b b (Lib.byteCells l) w
theorem BuilderAt.nx {T e : TypeId} {B b : Nat} {p : Value} {bs : List Value} {w w' : World} (h : Lib.BuilderAt T e B b p bs w) (hb : Nx w w') : Lib.BuilderAt T e B b p bs w' := by
 have hlt := h.lt
 obtain ⟨hB, v, h1, h2, h3⟩ := h
 refine ⟨hB, v, (hb.block b hlt).trans h1, ?_, h3⟩
 refine h2.kept (row := none) ⟨hb.os, hb.tape, hb.output, hb.size, fun i hi _ => hb.block i hi⟩ ?_
 cases hv : v.ownBlock with
 | none => exact .inl rfl
 | some g => exact .inr (by simp)
theorem Bd.nx {w w' : World} {b : Nat} {l : List UInt8} (h : Bd w b l) (hb : Nx w w') : Bd w' b l := h.imp (fun h => BuilderAt.nx h hb) (fun h => BuilderAt.nx h hb)
theorem Bd.new (w : World) : Bd (w.alloc (.cells #[.pointer none, nsl] 202)) w.heap.size [] :=
 .inl ⟨Nat.le_refl _, _, heap_alloc_new w _, ⟨rfl, .inl ⟨rfl, rfl⟩⟩, by simp [Value.ownBlock]⟩
theorem byteCells_append (a b : List UInt8) : Lib.byteCells (a ++ b) = Lib.byteCells a ++ Lib.byteCells b := by simp [Lib.byteCells]
theorem writeUsed_c (b : Nat) (bs : List Value) (s : BA) (w : World) (h : Lib.BuilderAt 202 5 b b (.pointer (some ⟨b, 0, none⟩)) bs w) (hlen : bs.length + s.size <= 100000) (W : World)
 (hW : Calls Tryz.prog 211 #[.pointer (some ⟨b, 0, none⟩)] W fun e w' => e = .returned (.tuple #[]) /\ w = w') (hb1 : Below b W w) :
 Calls Tryz.prog 174 #[.pointer (some ⟨b, 0, none⟩), .string s] W fun e w' => e = .returned (.tuple #[ii s.size, .nilIface]) /\
  Lib.BuilderAt 202 5 b b (.pointer (some ⟨b, 0, none⟩)) (bs ++ Lib.strCells s) w' /\ Below b W w' := by
 obtain ⟨i0, hi, hz0, hz1, hz2⟩ := info_parts bldByte
 have hlt := h.lt
 obtain ⟨hB, v, hbk, hown, hne⟩ := h
 have c0 : w.cell? ⟨b, 0, none⟩ = some (.pointer (some ⟨b, 0, none⟩)) := by rw [Lib.cell_of_heap hbk]; rfl
 have c1 : w.cell? ⟨b, 1, none⟩ = some v := by rw [Lib.cell_of_heap hbk]; rfl
 go_enter func174, ntmps174
 go_wp2_with fail
 refine hW.mono ?_
 rintro e w1 ⟨rfl, rfl⟩
 go_wp2_with (at_builtin; refine Lib.wpList_append_own_string _ rfl _ _ 22 9 rfl b 5 i0 underlying22 underlying9 hi hz0 hz1 hz2 _ _ _ rfl hown s rfl ?c3 ?c4 ?c5 ?_)
 case c3 => unfold maxLen; omega
 case c4 => omega
 case c5 => omega
 intro v' w2 hown' hgrow _
 have hb2 : w2.heap[b]? = some (.cells #[.pointer (some ⟨b, 0, none⟩), v] 202 (0, 0)) := by
  rw [hgrow.block b hlt (fun e => hne e.symm)]
  exact hbk
 have d0 : w2.cell? ⟨b, 0, none⟩ = some (.pointer (some ⟨b, 0, none⟩)) := by rw [Lib.cell_of_heap hb2]; rfl
 have d1 : w2.cell? ⟨b, 1, none⟩ = some v := by rw [Lib.cell_of_heap hb2]; rfl
 have f1 : w2.frozen? ⟨b, 1, none⟩ = false := Lib.frozen_of_heap hb2 1
 obtain ⟨ao, n', cap, rfl⟩ : ∃ ao n' cap, v' = sC ao n' cap := by
  rcases hown'.2 with ⟨hv, _⟩ | ⟨g, cap, cur, hv, _⟩
  . exact ⟨_, _, _, hv⟩
  . exact ⟨_, _, _, hv⟩
 go_wp2
 go_ret2
 refine ⟨rfl, ?_, ?_⟩
 . exact Lib.BuilderAt.put (T := 202) (e := 5) hB hb2 (bs' := bs ++ Lib.strCells s) (by simpa [Lib.strCells_length] using hown') dC
 . exact (hb1.grown hgrow (by have := hb1.size; omega) (fun k hk => (hown.lt k hk).1)).setCell (p := ⟨b, 1, none⟩) hB _
theorem strCells_bytes (s : BA) : Lib.strCells s = Lib.byteCells s.data.toList := by simp [Lib.strCells, Lib.byteCells]
theorem writeString_c (b : Nat) (l : List UInt8) (s : BA) (w : World) (h : Bd w b l) (hlen : l.length + s.size <= 100000) :
 Calls Tryz.prog 174 #[.pointer (some ⟨b, 0, none⟩), .string s] w fun e w' => e = .returned (.tuple #[ii s.size, .nilIface]) /\ Bd w' b (l ++ s.data.toList) /\ Below b w w' := by
 rcases h with h | h
 . have hlt := h.lt
   have hsh := h.shape
   have h0 := h.cell0
   obtain ⟨hB, v, hbk, hown, hne⟩ := h
   have hfz : w.frozen? ⟨b, 0, none⟩ = false := Lib.frozen_of_heap hbk 0
   have hk := copyNew_c b w h0 hsh hfz
   have hw2 : Lib.BuilderAt 202 5 b b (.pointer (some ⟨b, 0, none⟩)) (Lib.byteCells l) (w.setCell ⟨b, 0, none⟩ (.pointer (some ⟨b, 0, none⟩))) := by
    refine ⟨hB, v, ?_, ?_, hne⟩
    . have hx : Box w b 202 #[.pointer none, v] := hbk
      exact hx.set0 _
    . refine hown.kept (row := some b) ⟨rfl, rfl, rfl, by simp [World.setCell], fun i hi hn => Below.heap_setCell _ _ _ _ (fun e => hn (by rw [e]))⟩ (.inr hne)
   refine (writeUsed_c b (Lib.byteCells l) s _ hw2 (by rw [Lib.byteCells_length]; exact hlen) w hk ((Below.refl b w).setCell (p := ⟨b, 0, none⟩) nle _)).mono ?_
   rintro e w1 ⟨rfl, h1, h2⟩
   refine ⟨rfl, .inr ?_, h2⟩
   rw [byteCells_append, <- strCells_bytes]; exact h1
 . refine (writeUsed_c b (Lib.byteCells l) s _ h (by rw [Lib.byteCells_length]; exact hlen) w (copyUsed_c b w h.cell0) (Below.refl b w)).mono ?_
   rintro e w1 ⟨rfl, h1, h2⟩
   refine ⟨rfl, .inr ?_, h2⟩
   rw [byteCells_append, <- strCells_bytes]; exact h1
theorem string_c (b : Nat) (l : List UInt8) (w : World) (h : Bd w b l) (h0 : l ≠ []) :
 Calls Tryz.prog 175 #[.pointer (some ⟨b, 0, none⟩)] w fun e w' => e = .returned (.string ⟨l.toArray⟩) /\ Below b w w' := by
 obtain ⟨p, hB, v, hbk, hown, hne⟩ : ∃ p, Lib.BuilderAt 202 5 b b p (Lib.byteCells l) w := by
  rcases h with h | h
  . exact ⟨_, h⟩
  . exact ⟨_, h⟩
 have hl0 : l.length ≠ 0 := by simpa using h0
 rw [Lib.byteCells_length] at hown
 obtain ⟨g, cap, cur, rfl, hbg, hg, hnc, hcm, hcs, htake⟩ : ∃ g cap cur, v = sC (some ⟨g, 0, none⟩) l.length cap /\ b <= g /\ w.heap[g]? = some (.cells cur 5 (0, 0)) /\ l.length <= cap /\ cap <= maxLen /\ cur.size = cap * 1 /\ cur.toList.take (l.length * 1) = Lib.byteCells l := by
  rcases hown.2 with ⟨_, hz⟩ | ⟨g, cap, cur, hv, r⟩
  . exact absurd hz hl0
  . exact ⟨g, cap, cur, hv, r⟩
 have hg' : w.drew.heap[g]? = some (.cells cur 5 (0, 0)) := hg
 have c1 : w.drew.cell? ⟨b, 1, none⟩ = some (sC (some ⟨g, 0, none⟩) l.length cap) := by
  have : w.drew.heap[b]? = some (.cells #[p, sC (some ⟨g, 0, none⟩) l.length cap] 202 (0, 0)) := hbk
  rw [Lib.cell_of_heap this]; rfl
 have hSD : (Builtin.unsafeSliceData_ #[22] 236 #[sC (some ⟨g, 0, none⟩) l.length cap]).run Tryz.prog w.drew = .ok (.pointer (some ⟨g, 0, none⟩)) w.drew :=
  Lib.run_unsafeSliceData_row _ _ _ _ _ _ oM
 have hUS : (Builtin.unsafeString_ #[236, 3] 9 #[.pointer (some ⟨g, 0, none⟩), ii l.length]).run Tryz.prog w.drew = .ok (.string ⟨l.toArray⟩) (w.drew.freeze ⟨g, 0, none⟩ l.length) := by
  refine Lib.run_unsafeString_row w.drew 236 3 9 5 underlying236 bldCells g cur.size (by simp [World.shape?, hg']) l h0 oM (by unfold maxLen at hcm; omega) ?_
  intro j x hx
  exact hown.cells (g := g) rfl j (.int .u8 x.toNat) (by simp [Lib.byteCells, hx])
 go_enter func175, ntmps175
 go_wp2
 go_region
 all_goals (go_wp2; go_ret; exact ⟨rfl, Lib.below_freeze (Below.drew (Below.refl b w)) (p := ⟨g, 0, none⟩) hbg _⟩)
def sealS (s : BA) : BA := s ++ ⟨(sumD s).toArray⟩
def numsS (ns : List Nat) : BA := ⟨(padAll ns).toArray⟩
theorem numsS_size (ns : List Nat) : (numsS ns).size = ns.length * 6 := by rw [ba_size]; exact padAll_len ns
theorem frameB_yes {p b v t : Int} (h : frameB p b v t = true) : (1 <= p /\ p <= 999999) /\ (0 <= b /\ b <= 7) /\ (0 <= v /\ v <= 999999) /\ (0 <= t /\ t <= 999999) := by
 unfold frameB at h
 simp only [Bool.and_eq_true] at h
 exact ⟨inB_yes h.1.1.1, inB_yes h.1.1.2, inB_yes h.1.2, inB_yes h.2⟩
theorem Nx.of_below {a w w' : World} {b : Nat} (h : Nx a w) (k : Below b w w') (hb : a.heap.size <= b) : Nx a w' := Below.trans h (Below.mono k hb)
theorem numbersText_c (A : Option Addr) (c B : Nat) (ns : List Nat) (w : World) (h : Row w B A ns.length (intAt ns)) (hB : B <= w.heap.size) (h6 : All6 ns) (hn0 : 1 <= ns.length) (hn : ns.length <= 1000) :
 Calls Tryz.prog 104 #[sC A ns.length c] w fun e w' => e = .returned (.string (numsS ns)) /\ Nx w w' := by
 have hbd := Bd.new w
 go_enter func104, ntmps104
 go_wp2
 go_loopw [8] (fun i wr => ∃ k : Nat, k <= ns.length /\ i = ii k /\ Bd wr w.heap.size (padTo ns k) /\ Nx w wr) (fun i _ => ns.length - (intOf i).toNat)
 case atStart => exact ⟨0, Nat.zero_le _, rfl, hbd, (Nx.refl _).alloc _⟩
 case round =>
  obtain ⟨k, hk, rfl, hb, hnx⟩ := hrel
  clear hbd
  by_cases hlt : k < ns.length
  . obtain ⟨b, off, rfl, hb2, hc0⟩ := (h.below hnx hB) oM
    have hc := hc0 k hlt
    have hn6 := h6 k hlt
    have HP := qh (padTo_succ ns k hlt)
    have hL := padTo_len ns k hk
    clear hc0
    unfold intAt at hc
    obtain ⟨x, Hx⟩ := nM (ns.getD k 0)
    rw [Hx.out] at hc hn6 HP
    have HL := qh hL
    clear hL
    go_wp2_with fail
    refine (padded_c x 6 _ hn6 oM oM).mono ?_
    rintro e w1 ⟨rfl, hnx1⟩
    go_wp2_with fail
    refine (writeString_c w.heap.size (padTo ns k) _ _ (hb.nx hnx1) (by rw [HL.out]; simp [ByteArray.size, pad_len]; omega)).mono ?_
    rintro e w2 ⟨rfl, hbd2, hbl⟩
    clear hc
    go_wp2
    go_roundw
    case rel => exact ⟨k + 1, oM, by go_num, by rw [HP.out]; exact hbd2, (hnx.trans hnx1).of_below hbl nle⟩
    case measure => simp [intOf]; omega
  . obtain rfl : k = ns.length := oM
    have hne : padTo ns ns.length ≠ [] := fun e => by
     have := padTo_len ns ns.length nle
     rw [e] at this
     simp at this
     omega
    go_wp2_with fail
    refine (string_c w.heap.size (padTo ns ns.length) _ hb hne).mono ?_
    rintro e w1 ⟨rfl, hbl⟩
    go_wp2
    go_ret
    exact ⟨ret_str (by rw [padTo_all]; rfl), hnx.of_below hbl nle⟩
theorem sealed_c (s : BA) (w : World) (hs : s.size <= 65536) : Calls Tryz.prog 103 #[.string s] w fun e w' => e = .returned (.string (sealS s)) /\ Nx w w' := by
 obtain ⟨h0, h1⟩ := sumL_bd s.data.toList
 obtain ⟨q, hq⟩ : ∃ q : Nat, sumS s = (q : Int) := ⟨(sumS s).toNat, by have : 0 <= sumS s := h0; omega⟩
 have hq6 : q <= 996 := by have : sumS s <= 996 := h1; omega
 have HD := qh (show pad 3 q = sumD s by unfold sumD; rw [hq]; rfl)
 have HQ := qh hq
 clear hq
 go_enter func103, ntmps103
 go_wp2_with fail
 refine (implSumOf_c s _ (by unfold maxLen; omega)).mono ?_
 rintro e w1 ⟨rfl, rfl⟩
 rw [<- sumOfS_yes hs, HQ.out]
 go_wp2_with fail
 refine (padded_c q 3 _ oM oM oM).mono ?_
 rintro e w1 ⟨rfl, hnx1⟩
 obtain ⟨d, Hd⟩ := nM ((⟨(pad 3 q).toArray⟩ : BA) : BA)
 have hd6 : d.size <= 3 := by rw [<- Hd.out]; simp [ByteArray.size, pad_len]
 rw [Hd.out]
 go_wp2
 go_ret
 exact ⟨ret_str (by unfold sealS; rw [<- HD.out, Hd.out]), hnx1⟩
def vI (n : Nat) : Value := ii (n : Int)
theorem vI_toNat {a : Int} (h : 0 <= a) : vI a.toNat = ii a := by unfold vI; rw [Int.toNat_of_nonneg h]
theorem Nx.of_two {a w u : World} (h : Nx a w) (k : Nx a u) : ∀ p : Addr, p.block < a.heap.size -> w.cell? p = u.cell? p := fun p hp => (h.cell hp).trans (k.cell hp).symm
theorem owns_nx {w w' : World} {B : Nat} {e : TypeId} {v : Value} {n : Nat} {xs : List Value} (h : w.ownsRow B e 1 v n xs) (hb : Nx w w') : w'.ownsRow B e 1 v n xs := by
 refine h.kept (row := none) ⟨hb.os, hb.tape, hb.output, hb.size, fun i hi _ => hb.block i hi⟩ ?_
 cases hv : v.ownBlock with
 | none => exact .inl rfl
 | some g => exact .inr (by simp)
theorem owns_row {w : World} {B : Nat} {ns : List Nat} {v : Value} (h : w.ownsRow B 3 1 v ns.length (ns.map vI)) (hn : 0 < ns.length) :
 ∃ A c, v = sC A ns.length c /\ Row w w.heap.size A ns.length (intAt ns) := by
 obtain ⟨g, cap, rfl, _, hlt⟩ := h.form hn
 refine ⟨_, cap, rfl, fun _ => ⟨g, 0, rfl, hlt, fun i hi => ?_⟩⟩
 rw [Nat.zero_add, h.cellAt i oM, List.getElem?_map, List.getElem?_eq_getElem hi]
 unfold intAt vI
 rw [gdE, List.getElem?_eq_getElem hi]; rfl
def Er (w : World) (a0 a1 : Addr) : Prop :=
 w.cell? ⟨0, 0, none⟩ = some (.iface 290 (.pointer (some a0))) /\ w.cell? ⟨1, 0, none⟩ = some (.iface 290 (.pointer (some a1))) /\ a0 ≠ a1 /\
 (∃ ca ta, w.heap[a0.block]? = some (.cells ca ta (0, 0))) /\ ∃ ca ta, w.heap[a1.block]? = some (.cells ca ta (0, 0))
theorem lt_of_heap {w : World} {g : Nat} {o : Obj} (h : w.heap[g]? = some o) : g < w.heap.size := by
 rcases Nat.lt_or_ge g w.heap.size with hlt | hge
 . exact hlt
 . rw [Array.getElem?_eq_none hge] at h; cases h
theorem Er.nx {w w' : World} {a0 a1 : Addr} (h : Er w a0 a1) (hb : Nx w w') : Er w' a0 a1 := by
 obtain ⟨h0, h1, hne, ⟨ca, ta, e0⟩, cb, tb, e1⟩ := h
 exact ⟨(hb.cell (p := ⟨0, 0, none⟩) (World.block_lt_of_cell? w _ h0)).trans h0, (hb.cell (p := ⟨1, 0, none⟩) (World.block_lt_of_cell? w _ h1)).trans h1, hne,
  ⟨ca, ta, (hb.block _ (lt_of_heap e0)).trans e0⟩, cb, tb, (hb.block _ (lt_of_heap e1)).trans e1⟩
def digI (c : Int) : Bool := decide (48 <= c) && decide (c <= 57)
def digC (c : UInt8) : Bool := digI (c.toNat : Int)
def digL (l : List UInt8) : Bool := l.all digC
def valL (l : List UInt8) : Nat := l.foldl (fun n c => 10 * n + (c.toNat - 48)) 0
theorem digI_yes {c : Int} (h : digI c = true) : 48 <= c /\ c <= 57 := by unfold digI at h; simpa using h
theorem valL_snoc (l : List UInt8) (c : UInt8) : valL (l ++ [c]) = 10 * valL l + (c.toNat - 48) := by unfold valL; rw [List.foldl_append]; rfl
theorem digL_snoc (l : List UInt8) (c : UInt8) : digL (l ++ [c]) = (digL l && digC c) := by unfold digL; rw [List.all_append]; simp
theorem valL_bd : ∀ (n : Nat) {l : List UInt8}, l.length = n -> digL l = true -> valL l < 10 ^ n := by
 intro n
 induction n with
 | zero => intro l hl _; rw [List.length_eq_zero_iff.1 hl]; decide
 | succ n ih =>
   intro l hl h
   rcases List.eq_nil_or_concat l with rfl | ⟨l', c, rfl⟩
   . simp at hl
   . rw [List.concat_eq_append] at hl h ⊢
     rw [digL_snoc, Bool.and_eq_true] at h
     have h1 := ih (by simpa using hl) h.1
     have h2 := digI_yes (show digI (c.toNat : Int) = true from h.2)
     rw [valL_snoc, Nat.pow_succ]
     omega
theorem digL_no {l : List UInt8} {k : Nat} (hk : k < l.length) (h : digC l[k] = false) : digL l = false := by
 unfold digL
 rw [List.all_eq_false]
 exact ⟨l[k], List.getElem_mem hk, by rw [h]; simp⟩
theorem getL (s : BA) (k : Nat) (hk : k < s.size) : s.data.toList[k]'(by simpa using hk) = s[k] := rfl
theorem digL_yes {l : List UInt8} {k : Nat} (h : digL l = true) (hk : k < l.length) : digC l[k] = true := List.all_eq_true.1 h _ (List.getElem_mem hk)
theorem isDigit_c (c : Int) (w : World) : Calls Tryz.prog 215 #[.int .u8 c] w fun e w' => e = .returned (.bool (digI c)) /\ w = w' := by
 go_enter func215, ntmps215
 go_wp2
 all_goals (go_ret; refine ⟨ret_bool ?_, rfl⟩; unfold digI; rw [Bool.eq_iff_iff]; simp; try omega)
theorem l00Digit_c (c : Int) (w : World) : Calls Tryz.prog 219 #[.int .u8 c] w fun e w' => e = .returned (.bool (digI c)) /\ w = w' := by
 go_enter func219, ntmps219
 go_wp2
 all_goals (go_ret; refine ⟨ret_bool ?_, rfl⟩; unfold digI; rw [Bool.eq_iff_iff]; simp; try omega)
def valTo (s : BA) (k : Nat) : Nat := valL (s.data.toList.take k)
theorem valTo_succ (s : BA) (k : Nat) (h : k < s.size) : valTo s (k + 1) = 10 * valTo s k + (s[k].toNat - 48) := by
 unfold valTo; rw [take_snoc s k h, valL_snoc]
theorem valTo_bd {s : BA} {k : Nat} (hk : k <= 6) (h : digL (s.data.toList.take k) = true) : valTo s k < 1000000 := by
 have h1 := valL_bd _ rfl h
 have h2 : (s.data.toList.take k).length <= 6 := ntr (List.length_take_le _ _) hk
 have h3 : 10 ^ (s.data.toList.take k).length <= 10 ^ 6 := Nat.pow_le_pow_right oM h2
 unfold valTo
 omega
theorem num_step {n : Nat} {c : UInt8} (h1 : 48 <= (c.toNat : Int)) : 10 * (n : Int) + ((c.toNat : Int) - 48) = ((10 * n + (c.toNat - 48) : Nat) : Int) := oM
def numV (s : BA) (a0 : Addr) : Value := if digL s.data.toList then .tuple #[ii ((valL s.data.toList : Nat) : Int), .nilIface] else .tuple #[ii 0, .iface 290 (.pointer (some a0))]
theorem numV_yes {s : BA} {a0 : Addr} (h : digL s.data.toList = true) : .tuple #[ii ((valL s.data.toList : Nat) : Int), .nilIface] = numV s a0 := by unfold numV; rw [h]; rfl
theorem numV_no {s : BA} {a0 : Addr} (h : digL s.data.toList = false) : .tuple #[ii 0, .iface 290 (.pointer (some a0))] = numV s a0 := by unfold numV; rw [h]; rfl
def RetN (w : World) (v : Value) (e : Ending) (w' : World) : Prop := e = .returned v /\ Nx w w'
theorem numberOf_c (s : BA) (w : World) (a0 a1 : Addr) (hs : s.size = 6) (hE : Er w a0 a1) :
 Calls Tryz.prog 181 #[.string s] w (RetN w (numV s a0)) := by
 obtain ⟨c0, _⟩ := hE
 have hs6 : s.size <= 6 := oM
 have Hs := qh hs
 clear hs
 go_enter func181, ntmps181
 go_wp2
 go_loop [4, 5] (fun n i => ∃ k : Nat, k <= s.size /\ i = ii k /\ digL (s.data.toList.take k) = true /\ n = ii ((valTo s k : Nat) : Int)) (fun _ i => s.size - (intOf i).toNat)
 case atStart => exact ⟨0, Nat.zero_le _, rfl, rfl, rfl⟩
 case round =>
  obtain ⟨k, hk, rfl, hd, rfl⟩ := hrel
  have HD := qh hd
  clear hd
  by_cases hlt : k < s.size
  . have hbd := valTo_bd (s := s) (k := k) oM HD.out
    have HV := qh (valTo_succ s k hlt)
    have HT := qh (take_snoc s k hlt)
    obtain ⟨m, Hm⟩ := nM (valTo s k)
    rw [Hm.out] at hbd HV ⊢
    cases hC : digI (s[k].toNat : Int) with
    | true =>
      obtain ⟨h1, h2⟩ := digI_yes hC
      have HC := qh hC
      clear hC
      go_wp2_with (go_at_call 215; refine (isDigit_c _ _).mono ?_; rintro e w' ⟨rfl, rfl⟩; rw [HC.out])
      go_round
      case rel => exact ⟨k + 1, oM, by go_num, by rw [HT.out, digL_snoc, HD.out]; exact HC.out, by rw [HV.out, num_step h1]⟩
      case measure => simp [intOf]; omega
    | false =>
      have HC := qh hC
      have HF := qh (digL_no (l := s.data.toList) (k := k) (by simpa using hlt) (by rw [getL s k hlt]; exact hC))
      clear hC
      go_wp2_with (go_at_call 215; refine (isDigit_c _ _).mono ?_; rintro e w' ⟨rfl, rfl⟩; rw [HC.out])
      go_quiet (fail)
      go_wp2
      go_ret2
      exact ⟨congrArg Ending.returned (numV_no HF.out), (Nx.refl _).drewN _⟩
  . obtain rfl : k = s.size := oM
    have e : s.data.toList.take s.size = s.data.toList := List.take_of_length_le (by simp)
    rw [e] at HD
    have HV := qh (show valTo s s.size = valL s.data.toList by unfold valTo; rw [e])
    rw [HV.out]
    clear e
    go_wp2
    go_ret2
    exact ⟨congrArg Ending.returned (numV_yes HD.out), Nx.refl _⟩
def cutL (c : UInt8) : List UInt8 -> List (List UInt8)
 | [] => [[]]
 | x :: l => if x = c then [] :: cutL c l else (cutL c l).modifyHead (x :: ·)
theorem cutL_hit (c : UInt8) : ∀ (a b : List UInt8), c ∉ a -> cutL c (a ++ c :: b) = a :: cutL c b
 | [], b, _ => by rw [List.nil_append, cutL, if_pos rfl]
 | x :: a, b, h => by
   have hx : x ≠ c := fun e => h (by simp [e])
   have ih := cutL_hit c a b (fun e => h (by simp [e]))
   rw [List.cons_append, cutL, if_neg hx, ih]; rfl
theorem cutL_miss (c : UInt8) : ∀ (a : List UInt8), c ∉ a -> cutL c a = [a]
 | [], _ => rfl
 | x :: a, h => by
   have hx : x ≠ c := fun e => h (by simp [e])
   have ih := cutL_miss c a (fun e => h (by simp [e]))
   rw [cutL, if_neg hx, ih]; rfl
theorem part_at (c : UInt8) : ∀ (s : List UInt8), c ∉ s \/ ∃ a b, c ∉ a /\ s = a ++ c :: b
 | [] => .inl (by simp)
 | x :: l => by
   by_cases hx : x = c
   . subst hx; exact .inr ⟨[], l, by simp, rfl⟩
   . rcases part_at c l with h | ⟨a, b, h, e⟩
     . exact .inl (by simp [h, Ne.symm hx])
     . exact .inr ⟨x :: a, b, by simp [h, Ne.symm hx], by rw [e]; rfl⟩
theorem cutL_pos (c : UInt8) (s : List UInt8) : 1 <= (cutL c s).length := by
 rcases part_at c s with h | ⟨a, b, h, e⟩
 . rw [cutL_miss c s h]; simp
 . rw [e, cutL_hit c a b h]; simp
theorem cutL_one {c : UInt8} {s : List UInt8} (h : (cutL c s).length = 1) : c ∉ s := by
 rcases part_at c s with h1 | ⟨a, b, h1, e⟩
 . exact h1
 . rw [e, cutL_hit c a b h1] at h
   have := cutL_pos c b
   simp only [List.length_cons] at h
   omega
theorem cutL_two {c : UInt8} {s : List UInt8} (h : (cutL c s).length = 2) : ∃ a b, cutL c s = [a, b] /\ s = a ++ c :: b /\ c ∉ a /\ c ∉ b := by
 rcases part_at c s with h1 | ⟨a, b, h1, e⟩
 . rw [cutL_miss c s h1] at h; simp at h
 . have h2 := cutL_hit c a b h1
   rw [e, h2] at h
   have h3 : c ∉ b := cutL_one (by simpa using h)
   exact ⟨a, b, by rw [e, h2, cutL_miss c b h3], e, h1, h3⟩
theorem cutL_mem {c x : UInt8} (hx : x ≠ c) : ∀ {s : List UInt8}, x ∈ s -> ∃ p ∈ cutL c s, x ∈ p
 | [], h => by simp at h
 | y :: l, h => by
   by_cases hy : y = c
   . subst hy
     have h2 : x ∈ l := by
      rcases List.mem_cons.1 h with e | e
      . exact absurd e hx
      . exact e
     obtain ⟨p, hp, hxp⟩ := cutL_mem hx h2
     exact ⟨p, by rw [cutL, if_pos rfl]; exact List.mem_cons_of_mem _ hp, hxp⟩
   . rw [cutL, if_neg hy]
     rcases hc : cutL c l with _ | ⟨q, qs⟩
     . have := cutL_pos c l; rw [hc] at this; simp at this
     . rcases List.mem_cons.1 h with e | e
       . exact ⟨y :: q, by simp, by simp [e]⟩
       . obtain ⟨p, hp, hxp⟩ := cutL_mem hx e
         rw [hc] at hp
         rcases List.mem_cons.1 hp with rfl | hp
         . exact ⟨y :: p, by simp, by simp [hxp]⟩
         . exact ⟨p, by simp [hp], hxp⟩
theorem cutL_size (c : UInt8) : ∀ (s : List UInt8), (cutL c s).length <= s.length + 1
 | [] => by simp [cutL]
 | x :: l => by
   have := cutL_size c l
   rw [cutL]
   split
   . simp; omega
   . simp; omega
theorem cutL_part {c : UInt8} {s p : List UInt8} (h : p ∈ cutL c s) : p.length <= s.length := by
 induction s generalizing p with
 | nil => simp [cutL] at h; subst h; simp
 | cons x l ih =>
   rw [cutL] at h
   split at h
   . rcases List.mem_cons.1 h with rfl | h
     . simp
     . have := ih h; simp; omega
   . rcases hc : cutL c l with _ | ⟨q, qs⟩
     . rw [hc] at h; simp at h
     . rw [hc] at h
       simp only [List.modifyHead_cons, List.mem_cons] at h
       rcases h with rfl | h
       . have := ih (p := q) (by rw [hc]; simp); simp; omega
       . have := ih (p := p) (by rw [hc]; simp [h]); simp; omega
theorem index_cons_ne {b c : UInt8} {l : List UInt8} (h : b ≠ c) : Lib.index (b :: l) [c] = if Lib.index l [c] == -1 then -1 else Lib.index l [c] + 1 := by
 have hp : ([c] : List UInt8).isPrefixOf (b :: l) = false := by simp [List.isPrefixOf, Ne.symm h]
 rw [Lib.index, hp]; simp
theorem index_cons_eq (c : UInt8) (l : List UInt8) : Lib.index (c :: l) [c] = 0 := by rw [Lib.index]; simp [List.isPrefixOf]
theorem index_miss {c : UInt8} : ∀ {s : List UInt8}, c ∉ s -> Lib.index s [c] = -1
 | [], _ => rfl
 | x :: l, h => by
   have hx : x ≠ c := fun e => h (by simp [e])
   rw [index_cons_ne hx, index_miss (fun e => h (by simp [e]))]; rfl
theorem index_hit {c : UInt8} : ∀ {a b : List UInt8}, c ∉ a -> Lib.index (a ++ c :: b) [c] = a.length
 | [], b, _ => index_cons_eq c b
 | x :: a, b, h => by
   have hx : x ≠ c := fun e => h (by simp [e])
   have ih := index_hit (c := c) (a := a) (b := b) (fun e => h (by simp [e]))
   rw [List.cons_append, index_cons_ne hx, ih, if_neg (by simp)]
   simp
theorem cut_miss {c : UInt8} {s : List UInt8} (h : c ∉ s) : Lib.cut s [c] = (s, [], false) := by
 unfold Lib.cut; rw [index_miss h]; rfl
theorem cut_hit {c : UInt8} {a b : List UInt8} (h : c ∉ a) : Lib.cut (a ++ c :: b) [c] = (a, b, true) := by
 unfold Lib.cut
 rw [index_hit h, if_pos oM]
 have e : (a ++ c :: b).drop (a.length + 1) = b := by
  rw [show a ++ c :: b = (a ++ [c]) ++ b by simp, List.drop_left' (by simp)]
 simp [e]
theorem splitK_cutL (c : UInt8) : ∀ l : List UInt8, Lib.splitK [c] 0 (l.count c) l = cutL c l
 | [] => rfl
 | x :: l => by
   have ih := splitK_cutL c l
   by_cases hx : x = c
   . subst hx
     rw [List.count_cons_self, Lib.splitK, index_cons_eq, if_neg dC, cutL, if_pos rfl, <- ih]; rfl
   . rw [List.count_cons_of_ne (by simpa using hx), cutL, if_neg hx, <- ih]
     have hi := index_cons_ne (l := l) hx
     cases hk : l.count c with
     | zero => rfl
     | succ k =>
       rw [Lib.splitK, Lib.splitK, hi]
       have hge := Lib.index_ge l [c]
       by_cases hm : Lib.index l [c] = -1
       . rw [hm]; rfl
       . obtain ⟨j, hj⟩ : ∃ j : Nat, Lib.index l [c] = j := ⟨(Lib.index l [c]).toNat, oM⟩
         have h1 : ((j : Int) == -1) = false := by rw [beq_eq_false_iff_ne]; omega
         have h2 : ((j : Int) + 1 == -1) = false := by rw [beq_eq_false_iff_ne]; omega
         have h3 : ((j : Int) + 1).toNat = j + 1 := oM
         rw [hj, h1]
         simp [h2, h3]
def baL (l : List UInt8) : BA := ⟨l.toArray⟩
theorem baL_list (l : List UInt8) : (baL l).data.toList = l := rfl
theorem baL_self (s : BA) : baL s.data.toList = s := rfl
theorem baL_size (l : List UInt8) : (baL l).size = l.length := by simp [baL, ByteArray.size]
def cutB (c : UInt8) (t : BA) : List BA := (cutL c t.data.toList).map baL
theorem cutB_len (c : UInt8) (t : BA) : (cutB c t).length = (cutL c t.data.toList).length := by unfold cutB; simp
theorem cutB_split (c : UInt8) (t : BA) : Lib.splitB ⟨#[c]⟩ 0 (Lib.countB t ⟨#[c]⟩) t = cutB c t := by
 have h := Lib.splitB_data ⟨#[c]⟩ 0 (Lib.countB t ⟨#[c]⟩) t
 have h2 : Lib.countB t ⟨#[c]⟩ = t.data.toList.count c := Lib.count_one c t.data.toList
 rw [h2] at h ⊢
 have h3 : Lib.splitK (⟨#[c]⟩ : BA).data.toList 0 (t.data.toList.count c) t.data.toList = cutL c t.data.toList := splitK_cutL c _
 rw [h3] at h
 unfold cutB
 rw [<- h, List.map_map]
 conv => lhs; rw [<- List.map_id (Lib.splitB ⟨#[c]⟩ 0 (t.data.toList.count c) t)]
 exact List.map_congr_left fun x _ => rfl
theorem cutB_count (c : UInt8) (t : BA) : Lib.countB t ⟨#[c]⟩ + 1 = (cutB c t).length := by
 rw [<- cutB_split, Lib.splitB_all ⟨#[c]⟩ (by simp [ByteArray.size]) 0 _ t rfl]
theorem cutB_part {c : UInt8} {t : BA} (k : Nat) : ((cutB c t).getD k ByteArray.empty).size <= t.size := by
 by_cases hk : k < (cutL c t.data.toList).length
 . unfold cutB
   rw [gdE, List.getElem?_map, List.getElem?_eq_getElem hk, Option.map_some, Option.getD_some, baL_size, ba_size]
   exact cutL_part (List.getElem_mem _)
 . rw [gdE, List.getElem?_eq_none (by rw [cutB_len]; omega)]
   exact Nat.zero_le _
def chunk (l : List UInt8) (j : Nat) : List UInt8 := (l.drop (6 * j)).take 6
def numsOf (l : List UInt8) (k : Nat) : List Nat := (List.range k).map fun j => valL (chunk l j)
theorem numsOf_len (l : List UInt8) (k : Nat) : (numsOf l k).length = k := by simp [numsOf]
theorem numsOf_succ (l : List UInt8) (k : Nat) : numsOf l (k + 1) = numsOf l k ++ [valL (chunk l k)] := by simp [numsOf, List.range_succ]
def numsO (l : List UInt8) : Option (List Nat) := if l.length % 6 = 0 /\ digL l = true then some (numsOf l (l.length / 6)) else none
theorem numsO_yes {l : List UInt8} (h1 : l.length % 6 = 0) (h2 : digL l = true) : numsO l = some (numsOf l (l.length / 6)) := by unfold numsO; rw [if_pos ⟨h1, h2⟩]
theorem numsO_no {l : List UInt8} (h : l.length % 6 ≠ 0 \/ digL l = false) : numsO l = none := by
 unfold numsO; rw [if_neg]; rintro ⟨h1, h2⟩
 rcases h with h | h
 . exact h h1
 . rw [h] at h2; cases h2
theorem chunk_all {l : List UInt8} (h : digL l = true) (j : Nat) : digL (chunk l j) = true := by
 unfold digL at *
 rw [List.all_eq_true] at *
 exact fun x hx => h x (List.mem_of_mem_drop (List.mem_of_mem_take hx))
theorem chunk_no {l : List UInt8} {j : Nat} (h : digL (chunk l j) = false) : digL l = false := by
 cases h2 : digL l with
 | false => rfl
 | true => rw [chunk_all h2 j] at h; cases h
def RetNums (w : World) (o : Option (List Nat)) (a0 : Addr) (e : Ending) (w' : World) : Prop :=
 Nx w w' /\ (o = none -> e = .returned (.tuple #[nsl, .iface 290 (.pointer (some a0))])) /\
 ∀ ns, o = some ns -> ∃ A c, e = .returned (.tuple #[sC A ns.length c, .nilIface]) /\ Row w' w'.heap.size A ns.length (intAt ns) /\ ns.length <= c
theorem RetNums.no {w w' : World} {o : Option (List Nat)} {a0 : Addr} (h : o = none) (hn : Nx w w') : RetNums w o a0 (.returned (.tuple #[nsl, .iface 290 (.pointer (some a0))])) w' :=
 ⟨hn, fun _ => rfl, fun ns h2 => by rw [h] at h2; cases h2⟩
theorem RetNums.yes {w w' : World} {o : Option (List Nat)} {a0 : Addr} {ns : List Nat} {A : Option Addr} {c : Nat} (h : o = some ns) (hr : Row w' w'.heap.size A ns.length (intAt ns)) (hc : ns.length <= c) (hn : Nx w w') : RetNums w o a0 (.returned (.tuple #[sC A ns.length c, .nilIface])) w' :=
 ⟨hn, (fun h2 => by rw [h] at h2; cases h2), fun ns' h2 => by rw [h] at h2; injection h2 with h2; subst h2; exact ⟨A, c, rfl, hr, hc⟩⟩
theorem owns_row0 {w : World} {B : Nat} {ns : List Nat} {v : Value} (h : w.ownsRow B 3 1 v ns.length (ns.map vI)) :
 ∃ A c, v = sC A ns.length c /\ Row w w.heap.size A ns.length (intAt ns) /\ ns.length <= c := by
 rcases Nat.eq_zero_or_pos ns.length with h0 | hp
 . rcases h.2 with ⟨rfl, _⟩ | ⟨g, cap, cur, rfl, _⟩
   . exact ⟨none, 0, by rw [h0], (fun hn => oM), oM⟩
   . exact ⟨_, cap, rfl, (fun hn => oM), oM⟩
 . obtain ⟨A, c, e, hr⟩ := owns_row h hp
   refine ⟨A, c, e, hr, ?_⟩
   rcases h.2 with ⟨rfl, _⟩ | ⟨g, cap, cur, rfl, _, _, hnc, _⟩
   . injection e with _ e2 e3
     omega
   . injection e with _ e2 e3
     omega
theorem Own.new1 (w : World) (t : TypeId) (a : Value) : Own (w.alloc (.cells #[a] t)) w.heap.size t 1 (fun _ => a) :=
 ⟨_, heap_alloc_new w _, by simp, fun i hi => by obtain rfl : i = 0 := oM
                                                 rfl⟩
theorem news1 (w : World) (t : TypeId) (x : Value) : ∀ j u, [x][j]? = some u -> (w.alloc (.cells #[x] t)).cell? ((Addr.mk w.heap.size 0 none).add j) = some u := fun j u hj => by
 rcases j with _ | j
 . injection hj with hj; subst hj; exact ((Own.new1 w t x).cell (i := 0) oM)
 . simp at hj
theorem numbersOf_c (s : BA) (w : World) (a0 a1 : Addr) (hs : s.size <= 65536) (hE : Er w a0 a1) :
 Calls Tryz.prog 114 #[.string s] w (RetNums w (numsO s.data.toList) a0) := by
 obtain ⟨i0, hi0, hz0, hz1, hz2⟩ := info_parts info_int
 by_cases h6 : s.size % 6 = 0
 case neg =>
  have hne : ((s.size : Int) % 6 != 0) = true := by rw [bne_iff_ne]; omega
  have HN := qh (numsO_no (l := s.data.toList) (.inl (by rw [<- ba_size]; exact h6)))
  obtain ⟨c0, _⟩ := hE
  go_enter func114, ntmps114
  go_wp2
  go_quiet (fail)
  go_wp2
  go_ret2
  exact RetNums.no HN.out ((Nx.refl _).drewN _)
 have hne : ((s.size : Int) % 6 != 0) = false := by rw [bne_eq_false_iff_eq]; omega
 obtain ⟨N, hN⟩ : ∃ N, s.size = 6 * N := ⟨s.size / 6, oM⟩
 have HN := qh hN
 clear hN h6
 go_enter func114, ntmps114
 go_wp2
 go_loopw [4, 5] (fun z i wr => ∃ (k p : Nat) (v : Value), p <= s.size /\ Hid (p = 6 * k) /\ i = ii p /\ v = z /\ wr.ownsRow w.heap.size 3 1 v k ((numsOf s.data.toList k).map vI) /\ Hid (∀ j, j < k -> digL (chunk s.data.toList j) = true) /\ Nx w wr) (fun _ i _ => s.size - (intOf i).toNat)
 case atStart => exact ⟨0, 0, _, Nat.zero_le _, qh rfl, rfl, rfl, ⟨rfl, .inl ⟨rfl, rfl⟩⟩, qh (fun j hj => oM), Nx.refl _⟩
 case round =>
  obtain ⟨k, p, v, hp, HP, rfl, rfl, hw, HD, hnx⟩ := hrel
  have hEr := hE.nx hnx
  by_cases hlt : p < s.size
  . have hp6 : p + 6 <= s.size := by have := HP.out; have := HN.out; omega
    have hp7 : (p : Int) + 6 <= (s.size : Int) := oM
    have hcs : (s.extract p (p + 6)).data.toList = chunk s.data.toList k := by
     rw [Lib.extract_data, HP.out, show 6 * k + 6 - 6 * k = 6 by omega]; rfl
    have hcz : (s.extract p (p + 6)).size = 6 := by
     rw [ba_size, hcs]; unfold chunk; rw [List.length_take, List.length_drop, <- ba_size]; have := HP.out; omega
    have HCS := qh hcs
    have HCZ := qh hcz
    have hk9 : k <= 10923 := by have := HP.out; omega
    clear hcs hcz
    cases hdc : digL (chunk s.data.toList k) with
    | false =>
      have HF := qh (numsO_no (l := s.data.toList) (.inr (chunk_no hdc)))
      have HDC := qh hdc
      clear hdc
      go_wp2_with fail
      refine (numberOf_c (s.extract p (p + 6)) _ a0 a1 HCZ.out hEr).mono ?_
      rintro e w1 ⟨rfl, hnx1⟩
      rw [<- numV_no (by rw [HCS.out]; exact HDC.out)]
      go_wp2
      go_ret2
      exact RetNums.no HF.out (hnx.trans hnx1)
    | true =>
      have HDC := qh hdc
      have hx9 := valL_bd _ rfl hdc
      clear hdc
      obtain ⟨x, Hx⟩ := nM (valL (chunk s.data.toList k))
      clear hx9
      go_wp2_with fail
      refine (numberOf_c (s.extract p (p + 6)) _ a0 a1 HCZ.out hEr).mono ?_
      rintro e w1 ⟨rfl, hnx1⟩
      rw [<- numV_yes (by rw [HCS.out]; exact HDC.out), HCS.out, Hx.out]
      have hx1 := (hnx.trans hnx1).alloc (.cells #[ii x] 3)
      have hw1 := (owns_nx hw hnx1).alloc (.cells #[ii x] 3)
      have HNW := qh (news1 w1 3 (ii x))
      have HO : Hid (∀ u ∈ [Value.int .i64 (x : Int)], u.oneCell' = true) := qh (fun u hu => by simp only [List.mem_cons, List.not_mem_nil, or_false] at hu; subst hu; rfl)
      go_wp2_with (at_builtin; refine wpList_append_own _ rfl _ _ 23 rfl w.heap.size 3 i0 _ 1 8 underlying23 hi0 hz0 hz1 hz2 rfl oM v k _ rfl hw1 ⟨w1.heap.size, 0, none⟩ 1 1 [ii x] rfl rfl HNW.out HO.out ?c3 ?c4 ?c5 ?_)
      case c3 => unfold maxLen; omega
      case c4 => omega
      case c5 => have := hx1.size; simp only [World.size_alloc] at this ⊢; omega
      intro v2 w2 hw2 hg2 _
      have hx2 : Nx w w2 := Below.grown hx1 hg2 hx1.size (fun k hk => (hw1.lt k hk).1)
      go_wp2
      go_roundw
      case rel =>
       refine ⟨k + 1, p + 6, v2, oM, qh (by have := HP.out; omega), by go_num, rfl, ?_, qh ?_, hx2⟩
       . rw [numsOf_succ, List.map_append, Hx.out]; exact hw2
       . intro j hj
         rcases Nat.lt_or_ge j k with hlt | hge
         . exact HD.out j hlt
         . obtain rfl : j = k := oM
           exact HDC.out
      case measure => simp [intOf]; omega
  . obtain rfl : p = s.size := oM
    obtain rfl : k = N := by have := HP.out; have := HN.out; omega
    have hlen := numsOf_len s.data.toList k
    have hw' : wr.ownsRow w.heap.size 3 1 v (numsOf s.data.toList k).length ((numsOf s.data.toList k).map vI) := by rw [hlen]; exact hw
    obtain ⟨A, c, rfl, hrow, hcp⟩ := owns_row0 hw'
    have HCP := qh hcp
    clear hcp
    have hall : digL s.data.toList = true := by
     unfold digL
     rw [List.all_eq_true]
     intro x hx
     obtain ⟨i, hi, rfl⟩ := List.mem_iff_getElem.1 hx
     have hi' : i < s.size := by rw [ba_size]; exact hi
     have h1 := HD.out (i / 6) (by have := HP.out; omega)
     unfold digL at h1
     rw [List.all_eq_true] at h1
     apply h1
     unfold chunk
     rw [List.mem_iff_getElem]
     refine ⟨i % 6, by rw [List.length_take, List.length_drop]; omega, ?_⟩
     rw [List.getElem_take, List.getElem_drop]
     congr 1
     omega
    have HO := qh (numsO_yes (l := s.data.toList) (by rw [<- ba_size]; have := HP.out; omega) hall)
    have hdiv : s.data.toList.length / 6 = k := by rw [<- ba_size]; have := HP.out; omega
    rw [hdiv] at HO
    clear hw hw' hall hlen hdiv
    go_wp2
    go_ret2
    exact RetNums.yes HO.out hrow HCP.out hnx
def RetNB (w : World) (o : Option (List Nat)) (e : Ending) (w' : World) : Prop :=
 ∃ A n c, e = .returned (.tuple #[sC A n c, .bool o.isSome]) /\ (∀ ns, o = some ns -> n = ns.length /\ Row w' w'.heap.size A n (intAt ns) /\ n <= c) /\ Nx w w'
theorem owns_new0 (w : World) (t : TypeId) {B : Nat} (hB : B <= w.heap.size) : (w.alloc (.cells #[] t)).ownsRow B t 1 (sC (some ⟨w.heap.size, 0, none⟩) 0 0) 0 [] :=
 ⟨rfl, .inr ⟨_, 0, #[], rfl, hB, heap_alloc_new w _, oM, by unfold maxLen; omega, rfl, rfl⟩⟩
def valFrom (s : BA) (p j : Nat) : Nat := valL ((s.data.toList.drop p).take j)
theorem valFrom_succ (s : BA) (p j : Nat) (h : p + j < s.size) : valFrom s p (j + 1) = 10 * valFrom s p j + (s[p + j].toNat - 48) := by
 unfold valFrom
 have hl : j < (s.data.toList.drop p).length := by rw [List.length_drop, <- ba_size]; omega
 rw [List.take_succ_eq_append_getElem hl, valL_snoc]
 simp only [List.getElem_drop]
 rfl
theorem valFrom_bd {s : BA} {p j : Nat} (hj : j <= 6) (h : digL s.data.toList = true) : valFrom s p j < 1000000 := by
 have h0 : digL ((s.data.toList.drop p).take j) = true := by
  unfold digL at *
  rw [List.all_eq_true] at *
  exact fun x hx => h x (List.mem_of_mem_drop (List.mem_of_mem_take hx))
 have h1 := valL_bd _ rfl h0
 have h2 : ((s.data.toList.drop p).take j).length <= 6 := ntr (List.length_take_le _ _) hj
 have h3 : 10 ^ ((s.data.toList.drop p).take j).length <= 10 ^ 6 := Nat.pow_le_pow_right oM h2
 unfold valFrom
 omega
theorem dig_at {s : BA} (h : digL s.data.toList = true) (k : Nat) (hk : k < s.size) : 48 <= (s[k].toNat : Int) /\ (s[k].toNat : Int) <= 57 :=
 digI_yes (show digC s[k] = true by rw [<- getL s k hk]; exact digL_yes h _)
theorem l02Numbers_c (s : BA) (w : World) (hs : s.size <= 65536) :
 Calls Tryz.prog 194 #[.string s] w (RetNB w (numsO s.data.toList)) := by
 obtain ⟨i0, hi0, hz0, hz1, hz2⟩ := info_parts info_int
 have hw0 := owns_new0 w 3 nle
 have hn0 := (Nx.refl w).alloc (.cells #[] 3)
 go_enter func194, ntmps194
 go_wp2
 go_loop [5] (fun i => ∃ k : Nat, k <= s.size /\ i = ii k /\ Hid (digL (s.data.toList.take k) = true)) (fun i => s.size - (intOf i).toNat)
 case atStart => exact ⟨0, Nat.zero_le _, rfl, qh rfl⟩
 case round =>
  obtain ⟨k, hk, rfl, HD⟩ := hrel
  by_cases hlt : k < s.size
  . have HT := qh (take_snoc s k hlt)
    cases hC : digI (s[k].toNat : Int) with
    | true =>
      have HC := qh hC
      clear hC
      go_wp2_with (go_at_call 219; refine (l00Digit_c _ _).mono ?_; rintro e w' ⟨rfl, rfl⟩; rw [HC.out])
      go_round
      case rel => exact ⟨k + 1, oM, by go_num, qh (by rw [HT.out, digL_snoc, HD.out]; exact HC.out)⟩
      case measure => simp [intOf]; omega
    | false =>
      have HC := qh hC
      have HF := qh (numsO_no (.inr (digL_no (l := s.data.toList) (k := k) (by simpa using hlt) (by rw [getL s k hlt]; exact hC))))
      clear hC
      go_wp2_with (go_at_call 219; refine (l00Digit_c _ _).mono ?_; rintro e w' ⟨rfl, rfl⟩; rw [HC.out])
      go_ret2
      rw [HF.out]
      exact ⟨_, _, _, rfl, (fun ns h => by cases h), hn0.alloc _⟩
  . obtain rfl : k = s.size := oM
    have hall : digL s.data.toList = true := by
     have := HD.out
     rwa [List.take_of_length_le (by simp)] at this
    have HA := qh hall
    clear HD hall
    generalize w.alloc (.cells #[] 3) = W at *
    go_wp2
    go_loopw [4, 6] (fun z i wr => ∃ (k p : Nat) (v : Value), p <= s.size /\ Hid (p = 6 * k) /\ i = ii p /\ v = z /\ wr.ownsRow w.heap.size 3 1 v k ((numsOf s.data.toList k).map vI) /\ Nx w wr) (fun _ i _ => s.size - (intOf i).toNat)
    case atStart => exact ⟨0, 0, _, Nat.zero_le _, qh rfl, rfl, rfl, hw0, hn0⟩
    case round =>
     obtain ⟨k, p, v, hp, HP, rfl, rfl, hw, hnx⟩ := hrel
     clear hw0 hn0
     by_cases hlt : p + 6 <= s.size
     . have hd6 : decide ((p : Int) + 6 <= (s.size : Int)) = true := by simp; omega
       have hk9 : k <= 10923 := by have := HP.out; omega
       go_wp2
       go_loop [7, 8] (fun n i => ∃ j : Nat, j <= 6 /\ i = ii ((p + j : Nat) : Int) /\ n = ii ((valFrom s p j : Nat) : Int)) (fun _ i => p + 6 - (intOf i).toNat)
       case atStart => exact ⟨0, oM, rfl, rfl⟩
       case round =>
        obtain ⟨j, hj, rfl, rfl⟩ := hrel
        have hbd := valFrom_bd (s := s) (p := p) hj HA.out
        by_cases hj6 : j < 6
        . have hpj : p + j < s.size := oM
          obtain ⟨d1, d2⟩ := dig_at HA.out (p + j) hpj
          have HV := qh (valFrom_succ s p j hpj)
          obtain ⟨m, Hm⟩ := nM (valFrom s p j)
          rw [Hm.out] at hbd HV ⊢
          obtain ⟨q, Hq⟩ := nM (p + j)
          have hq1 : q < p + 6 := by have := Hq.out; omega
          have hdq : decide ((q : Int) < (p : Int) + 6) = true := by simp; omega
          simp only [Hq.out] at hpj d1 d2 HV ⊢
          go_wp2
          go_round
          case rel => exact ⟨j + 1, oM, by rw [show p + (j + 1) = q + 1 by have := Hq.out; omega]; go_num, by rw [HV.out, num_step d1]⟩
          case measure => simp [intOf]; omega
        . obtain rfl : j = 6 := oM
          have hdq : decide (((p + 6 : Nat) : Int) < (p : Int) + 6) = false := by simp
          have hxe : valFrom s p 6 = valL (chunk s.data.toList k) := by unfold valFrom chunk; rw [HP.out]
          obtain ⟨x, Hx⟩ := nM (valFrom s p 6)
          rw [Hx.out] at hbd hxe ⊢
          have HXE := qh hxe
          clear hxe
          have hx1 := hnx.alloc (.cells #[ii x] 3)
          have hw1 := hw.alloc (.cells #[ii x] 3)
          have HNW := qh (news1 wr 3 (ii x))
          have HO : Hid (∀ u ∈ [Value.int .i64 (x : Int)], u.oneCell' = true) := qh (fun u hu => by simp only [List.mem_cons, List.not_mem_nil, or_false] at hu; subst hu; rfl)
          go_wp2_with (at_builtin; refine wpList_append_own _ rfl _ _ 23 rfl w.heap.size 3 i0 _ 1 8 underlying23 hi0 hz0 hz1 hz2 rfl oM v k _ rfl hw1 ⟨wr.heap.size, 0, none⟩ 1 1 [ii x] rfl rfl HNW.out HO.out ?c3 ?c4 ?c5 ?_)
          case c3 => unfold maxLen; omega
          case c4 => omega
          case c5 => have := hx1.size; simp only [World.size_alloc] at this ⊢; omega
          intro v2 w2 hw2 hg2 _
          have hx2 : Nx w w2 := Below.grown hx1 hg2 hx1.size (fun k hk => (hw1.lt k hk).1)
          go_wp2
          go_roundw
          case rel =>
           refine ⟨k + 1, p + 6, v2, oM, qh (by have := HP.out; omega), by go_num, rfl, ?_, hx2⟩
           rw [numsOf_succ, List.map_append, <- HXE.out]; exact hw2
          case measure => simp [intOf]; omega
     . have hd6 : decide ((p : Int) + 6 <= (s.size : Int)) = false := by simp; omega
       have hlen := numsOf_len s.data.toList k
       have hw' : wr.ownsRow w.heap.size 3 1 v (numsOf s.data.toList k).length ((numsOf s.data.toList k).map vI) := by rw [hlen]; exact hw
       obtain ⟨A, c, rfl, hrow, hcp⟩ := owns_row0 hw'
       have HCP := qh hcp
       clear hcp
       have HL := qh hlen
       clear hw hw' hlen
       by_cases h6 : s.size % 6 = 0
       . have hz : ((s.size : Int) % 6 == 0) = true := beq_iff_eq.2 oM
         have hdiv : s.data.toList.length / 6 = k := by rw [<- ba_size]; have := HP.out; omega
         have HO := qh (numsO_yes (l := s.data.toList) (by rw [<- ba_size]; exact h6) HA.out)
         rw [hdiv] at HO
         clear hdiv h6
         go_wp2
         go_ret2
         rw [HO.out]
         exact ⟨_, _, _, rfl, (fun ns h => by injection h with h; subst h; exact ⟨rfl, hrow, HCP.out⟩), hnx⟩
       . have hz : ((s.size : Int) % 6 == 0) = false := beq_eq_false_iff_ne.2 oM
         have HO := qh (numsO_no (l := s.data.toList) (.inl (by rw [<- ba_size]; exact h6)))
         clear h6
         go_wp2
         go_ret2
         rw [HO.out]
         exact ⟨_, _, _, rfl, (fun ns h => by cases h), hnx⟩
def bodyOf (t : BA) : BA := t.extract 0 (t.size - 3)
theorem bodyOf_size (t : BA) : (bodyOf t).size <= t.size := by
 unfold bodyOf; rw [ba_size, Lib.extract_data, ba_size t, List.length_take, List.length_drop]; omega
def sealB (t : BA) : Bool := (sealS (bodyOf t)).toList == t.toList
def opensB (t : BA) : Bool := decide (3 <= t.size) && sealB t
def rdN (t : BA) : Option (List Nat) := if opensB t then numsO (bodyOf t).data.toList else none
theorem opensB_short {t : BA} (h : t.size < 3) : opensB t = false := by unfold opensB; rw [decide_eq_false oM]; rfl
theorem opensB_of {t : BA} (h : 3 <= t.size) : opensB t = sealB t := by unfold opensB; rw [decide_eq_true h]; rfl
theorem rdN_no {t : BA} (h : opensB t = false) : rdN t = none := by unfold rdN; rw [h]; rfl
theorem rdN_yes {t : BA} (h : opensB t = true) : rdN t = numsO (bodyOf t).data.toList := by unfold rdN; rw [h]; rfl
theorem l02Seal_s (s : BA) (w : World) (hs : s.size <= 1048576) : Calls Tryz.prog 109 #[.string s] w fun e w' => e = .returned (.string (sealS s)) /\ Nx w w' := l02Seal_c s w hs
def RetO (w : World) (t : BA) (e : Ending) (w' : World) : Prop :=
 ∃ x : BA, e = .returned (.tuple #[.string x, .bool (opensB t)]) /\ x.size <= t.size /\ (opensB t = true -> x = bodyOf t) /\ Nx w w'
theorem l02Open_c (t : BA) (w : World) (ht : t.size <= 1048576) : Calls Tryz.prog 192 #[.string t] w (RetO w t) := by
 by_cases h3 : t.size < 3
 . have hd : decide ((t.size : Int) < 3) = true := by simp; omega
   have HO := qh (opensB_short h3)
   go_enter func192, ntmps192
   go_wp2
   go_ret2
   unfold RetO
   rw [HO.out]
   exact ⟨⟨#[]⟩, rfl, Nat.zero_le _, (fun h => by cases h), Nx.refl _⟩
 . have hd : decide ((t.size : Int) < 3) = false := by simp; omega
   have HO := qh (opensB_of (t := t) oM)
   have hb1 : 0 <= (t.size : Int) - 3 := oM
   have hb2 : (t.size : Int) - 3 <= (t.size : Int) := oM
   have hb3 : ((t.size : Int) - 3).toNat = t.size - 3 := oM
   go_enter func192, ntmps192
   go_wp2_with fail
   refine (l02Seal_s (bodyOf t) _ (ntr (bodyOf_size t) ht)).mono ?_
   rintro e w1 ⟨rfl, hnx1⟩
   obtain ⟨b, Hb⟩ := nM (sealB t)
   have hb : ((sealS (bodyOf t)).toList == t.toList) = b := Hb.out
   go_wp2
   go_ret2
   refine ⟨bodyOf t, ?_, bodyOf_size t, fun _ => rfl, hnx1⟩
   rw [HO.out, Hb.out]
   rfl
def RetUn (w : World) (t : BA) (a0 : Addr) (e : Ending) (w' : World) : Prop :=
 Nx w w' /\ (opensB t = false -> e = .returned (.tuple #[.string ⟨#[]⟩, .iface 290 (.pointer (some a0))])) /\ (opensB t = true -> e = .returned (.tuple #[.string (bodyOf t), .nilIface]))
theorem unsealed_c (t : BA) (w : World) (a0 a1 : Addr) (ht : t.size <= 65536) (hE : Er w a0 a1) : Calls Tryz.prog 112 #[.string t] w (RetUn w t a0) := by
 have hd0 : decide (65536 < (t.size : Int)) = false := by simp; omega
 by_cases h3 : t.size < 3
 . have hd : decide ((t.size : Int) < 3) = true := by simp; omega
   have HO := qh (opensB_short h3)
   obtain ⟨c0, _⟩ := hE
   go_enter func112, ntmps112
   go_wp2
   go_quiet (fail)
   go_wp2
   go_ret2
   exact ⟨(Nx.refl _).drewN _, fun _ => rfl, fun h => by rw [HO.out] at h; cases h⟩
 . have hd : decide ((t.size : Int) < 3) = false := by simp; omega
   have HO := qh (opensB_of (t := t) oM)
   have hb1 : 0 <= (t.size : Int) - 3 := oM
   have hb2 : (t.size : Int) - 3 <= (t.size : Int) := oM
   have hb3 : ((t.size : Int) - 3).toNat = t.size - 3 := oM
   cases hb : sealB t with
   | false =>
     have HB := qh hb
     clear hb
     go_enter func112, ntmps112
     go_wp2_with fail
     refine (sealed_c (bodyOf t) _ (ntr (bodyOf_size t) ht)).mono ?_
     rintro e w1 ⟨rfl, hnx1⟩
     have hb : ((sealS (bodyOf t)).toList == t.toList) = false := HB.out
     have hb' : ((sealS (bodyOf t)).toList != t.toList) = true := by rw [bne, hb]; rfl
     obtain ⟨c0, _⟩ := hE.nx hnx1
     go_wp2
     go_quiet (fail)
     go_wp2
     go_ret2
     exact ⟨hnx1.drewN _, fun _ => rfl, fun h => by rw [HO.out, HB.out] at h; cases h⟩
   | true =>
     have HB := qh hb
     clear hb
     go_enter func112, ntmps112
     go_wp2_with fail
     refine (sealed_c (bodyOf t) _ (ntr (bodyOf_size t) ht)).mono ?_
     rintro e w1 ⟨rfl, hnx1⟩
     have hb : ((sealS (bodyOf t)).toList == t.toList) = true := HB.out
     have hb' : ((sealS (bodyOf t)).toList != t.toList) = false := by rw [bne, hb]; rfl
     go_wp2
     go_ret2
     exact ⟨hnx1, (fun h => by rw [HO.out, HB.out] at h; cases h), fun _ => rfl⟩
theorem sealedNumbers_c (t : BA) (w : World) (a0 a1 : Addr) (ht : t.size <= 65536) (hE : Er w a0 a1) : Calls Tryz.prog 200 #[.string t] w (RetNums w (rdN t) a0) := by
 cases ho : opensB t with
 | false =>
   have HO := qh ho
   have HR := qh (rdN_no ho)
   clear ho
   go_enter func200, ntmps200
   go_wp2_with fail
   refine (unsealed_c t _ a0 a1 ht hE).mono ?_
   rintro e w1 ⟨hnx1, h1, _⟩
   obtain rfl := h1 HO.out
   clear h1
   go_wp2
   go_ret2
   exact RetNums.no HR.out hnx1
 | true =>
   have HO := qh ho
   have HR := qh (rdN_yes ho)
   clear ho
   go_enter func200, ntmps200
   go_wp2_with fail
   refine (unsealed_c t _ a0 a1 ht hE).mono ?_
   rintro e w1 ⟨hnx1, _, h1⟩
   obtain rfl := h1 HO.out
   clear h1
   go_wp2_with fail
   refine (numbersOf_c (bodyOf t) _ a0 a1 (ntr (bodyOf_size t) ht) (hE.nx hnx1)).mono ?_
   rintro e w2 ⟨hnx2, h1, h2⟩
   rw [<- HR.out] at h1 h2
   cases hr : rdN t with
   | none =>
     obtain rfl := h1 hr
     have HRN := qh hr
     clear h1 h2 hr
     go_wp2
     go_ret2
     exact RetNums.no HRN.out (hnx1.trans hnx2)
   | some ns =>
     obtain ⟨A, c, rfl, hrow, hcp⟩ := h2 ns hr
     have HCP := qh hcp
     clear hcp
     have HRS := qh hr
     clear h1 h2 hr
     go_wp2
     go_ret2
     exact RetNums.yes HRS.out hrow HCP.out (hnx1.trans hnx2)
def plainB (l : List UInt8) : Bool := decide (1 <= l.length) && decide (l.length <= 18) && (decide (l.length = 1) || decide (l.head? ≠ some 48)) && digL l
theorem plainB_dig {l : List UInt8} (h : plainB l = true) : digL l = true := by
 unfold plainB at h; simp only [Bool.and_eq_true] at h; exact h.2
theorem plainB_no {l : List UInt8} (h : digL l = false) : plainB l = false := by unfold plainB; rw [h]; simp
theorem plainB_len {l : List UInt8} (h : plainB l = true) : 1 <= l.length /\ l.length <= 18 := by
 unfold plainB at h; simp only [Bool.and_eq_true, decide_eq_true_eq] at h; exact h.1.1
theorem plainB_head {l : List UInt8} (h : plainB l = true) : l.length = 1 \/ l.head? ≠ some 48 := by
 unfold plainB at h; simp only [Bool.and_eq_true, Bool.or_eq_true, decide_eq_true_eq] at h; exact h.1.2
theorem plainB_mk {l : List UInt8} (h1 : 1 <= l.length) (h2 : l.length <= 18) (h3 : l.length = 1 \/ l.head? ≠ some 48) : plainB l = digL l := by
 unfold plainB
 rw [decide_eq_true h1, decide_eq_true h2]
 rcases h3 with h | h
 . rw [decide_eq_true h]; simp
 . rw [decide_eq_true h]; simp
theorem plainB_size {l : List UInt8} (h : l.length = 0 \/ 18 < l.length) : plainB l = false := by
 unfold plainB
 rcases h with h | h
 . rw [decide_eq_false (show ¬ 1 <= l.length by omega)]; rfl
 . rw [decide_eq_false (show ¬ l.length <= 18 by omega)]; simp
theorem plainB_nought {l : List UInt8} (h : 1 < l.length) (h2 : l.head? = some 48) : plainB l = false := by
 unfold plainB
 rw [decide_eq_false (show ¬ l.length = 1 by omega), decide_eq_false (show ¬ l.head? ≠ some 48 by simp [h2])]; simp
theorem digL_mem {l : List UInt8} (h : digL l = true) {x : UInt8} (hx : x ∈ l) : digC x = true := List.all_eq_true.1 h x hx
def wordM (l : List UInt8) : Option Mrk :=
 if (Lib.cut l [61]).2.2 && plainB (Lib.cut l [61]).2.1 then some (baL (Lib.cut l [61]).1, ((valL (Lib.cut l [61]).2.1 : Nat) : Int)) else none
theorem wordM_miss {l : List UInt8} (h : 61 ∉ l) : wordM l = none := by unfold wordM; rw [cut_miss h]; rfl
theorem wordM_hit {a b : List UInt8} (h : 61 ∉ a) : wordM (a ++ 61 :: b) = if plainB b then some (baL a, ((valL b : Nat) : Int)) else none := by
 unfold wordM; rw [cut_hit h]; simp
theorem wordM_two {l a b : List UInt8} (h : cutL 61 l = [a, b]) : wordM l = if plainB b then some (baL a, ((valL b : Nat) : Int)) else none := by
 obtain ⟨a', b', h1, h2, h3, _⟩ := cutL_two (c := 61) (s := l) (by rw [h]; rfl)
 rw [h] at h1
 injection h1 with e1 h1
 injection h1 with e2 _
 subst e1 e2
 rw [h2, wordM_hit h3]
theorem wordM_more {l : List UInt8} (h : (cutL 61 l).length ≠ 2) : wordM l = none := by
 rcases part_at 61 l with h1 | ⟨a, b, h1, e⟩
 . exact wordM_miss h1
 . rw [e, wordM_hit h1]
   have hb : 61 ∈ b := by
    by_cases hb : (61 : UInt8) ∈ b
    . exact hb
    . exact absurd (by rw [e, cutL_hit 61 a b h1, cutL_miss 61 b hb]; rfl) h
   rw [if_neg]
   intro hp
   have := digL_mem (plainB_dig hp) hb
   revert this; decide
def marksL : List (List UInt8) -> Option (List Mrk)
 | [] => some []
 | w :: ws => (wordM w).bind fun m => (marksL ws).map (m :: ·)
theorem marksL_snoc : ∀ (ws : List (List UInt8)) (w : List UInt8), marksL (ws ++ [w]) = (marksL ws).bind fun ms => (wordM w).map fun m => ms ++ [m]
 | [], w => by
   show (wordM w).bind (fun m => (marksL []).map (m :: ·)) = _
   simp only [marksL, Option.map_some, Option.bind_some]
   cases wordM w <;> rfl
 | x :: ws, w => by
   have ih := marksL_snoc ws w
   rw [List.cons_append, marksL, marksL, ih]
   cases wordM x with
   | none => rfl
   | some m =>
     cases marksL ws with
     | none => rfl
     | some ms => cases wordM w <;> rfl
theorem marksL_len : ∀ {ws : List (List UInt8)} {ms : List Mrk}, marksL ws = some ms -> ms.length = ws.length
 | [], ms, h => by simp only [marksL, Option.some.injEq] at h; subst h; rfl
 | x :: ws, ms, h => by
   rw [marksL] at h
   cases hx : wordM x with
   | none => rw [hx] at h; cases h
   | some m =>
     rw [hx, Option.bind_some] at h
     cases hw : marksL ws with
     | none => rw [hw] at h; cases h
     | some ns =>
       rw [hw, Option.map_some, Option.some.injEq] at h
       subst h
       simp [marksL_len hw]
theorem marksL_no : ∀ {ws : List (List UInt8)} {w : List UInt8}, w ∈ ws -> wordM w = none -> marksL ws = none
 | [], w, h, _ => by simp at h
 | x :: ws, w, h, hn => by
   rw [marksL]
   rcases List.mem_cons.1 h with rfl | h
   . rw [hn]; rfl
   . rw [marksL_no h hn]
     cases wordM x <;> rfl
theorem marksL_all : ∀ {ws : List (List UInt8)} {ms : List Mrk} {w : List UInt8}, marksL ws = some ms -> w ∈ ws -> ∃ m ∈ ms, wordM w = some m
 | [], _, _, _, h => by simp at h
 | x :: ws, ms, w, hm, h => by
   rw [marksL] at hm
   cases hx : wordM x with
   | none => rw [hx] at hm; cases hm
   | some m =>
     rw [hx, Option.bind_some] at hm
     cases hw : marksL ws with
     | none => rw [hw] at hm; cases hm
     | some ns =>
       rw [hw, Option.map_some, Option.some.injEq] at hm
       subst hm
       rcases List.mem_cons.1 h with rfl | h
       . exact ⟨m, by simp, hx⟩
       . obtain ⟨q, hq, e⟩ := marksL_all hw h
         exact ⟨q, by simp [hq], e⟩
def wordB (x : BA) : Option Mrk := wordM x.data.toList
def marksB (ws : List BA) : Option (List Mrk) := marksL (ws.map (·.data.toList))
theorem marksB_succ {ws : List BA} {k : Nat} {ms : List Mrk} {m : Mrk} (hk : k < ws.length) (h : marksB (ws.take k) = some ms) (hm : wordB (ws.getD k ByteArray.empty) = some m) : marksB (ws.take (k + 1)) = some (ms ++ [m]) := by
 unfold marksB wordB at *
 rw [List.take_succ_eq_append_getElem hk, List.map_append, List.map_cons, List.map_nil, marksL_snoc, h]
 rw [gdE, List.getElem?_eq_getElem hk, Option.getD_some] at hm
 rw [hm]; rfl
theorem marksB_no {ws : List BA} {k : Nat} (hk : k < ws.length) (h : wordB (ws.getD k ByteArray.empty) = none) : marksB ws = none := by
 unfold marksB
 rw [gdE, List.getElem?_eq_getElem hk, Option.getD_some] at h
 exact marksL_no (List.mem_map_of_mem (List.getElem_mem hk)) h
theorem marksB_len {ws : List BA} {ms : List Mrk} (h : marksB ws = some ms) : ms.length = ws.length := by
 rw [marksL_len h]; simp
def marksO (l : List UInt8) : Option (List Mrk) := if l.length = 0 then some [] else marksL (cutL 44 l)
theorem marksO_nil {s : BA} (h : s.size = 0) : marksO s.data.toList = some [] := by unfold marksO; rw [if_pos (by rw [<- ba_size]; exact h)]
theorem marksO_cut {s : BA} (h : s.size ≠ 0) : marksO s.data.toList = marksB (cutB 44 s) := by
 unfold marksO marksB cutB
 rw [if_neg (by rw [<- ba_size]; exact h), List.map_map]
 congr 1
 conv => lhs; rw [<- List.map_id (cutL 44 s.data.toList)]
 exact List.map_congr_left fun x _ => rfl
abbrev U6 := Int × Int × Int × Int × List Int × List Mrk
def intsN (ns : List Nat) : List Int := ns.map fun (n : Nat) => (n : Int)
theorem intsN_len (ns : List Nat) : (intsN ns).length = ns.length := by unfold intsN; simp
theorem intsN_at (ns : List Nat) (i : Nat) (h : i < ns.length) : inAt (intsN ns) i = intAt ns i := by
 unfold inAt intAt intsN
 rw [gdE, List.getElem?_map, List.getElem?_eq_getElem h, gdE, List.getElem?_eq_getElem h]; rfl
def supOf (ns : List Nat) (ms : List Mrk) : Option U6 :=
 if superB (ns.getD 0 0) (ns.getD 1 0) (ns.getD 2 0) (ns.getD 3 0) (intsN (ns.drop 4)) ms then some (((ns.getD 0 0 : Nat) : Int), ((ns.getD 1 0 : Nat) : Int), ((ns.getD 2 0 : Nat) : Int), ((ns.getD 3 0 : Nat) : Int), intsN (ns.drop 4), ms) else none
theorem supOf_no {ns : List Nat} {ms : List Mrk} (h : superB (ns.getD 0 0) (ns.getD 1 0) (ns.getD 2 0) (ns.getD 3 0) (intsN (ns.drop 4)) ms = false) : supOf ns ms = none := by unfold supOf; rw [h]; rfl
theorem supOf_yes {ns : List Nat} {ms : List Mrk} (h : superB (ns.getD 0 0) (ns.getD 1 0) (ns.getD 2 0) (ns.getD 3 0) (intsN (ns.drop 4)) ms = true) : supOf ns ms = some (((ns.getD 0 0 : Nat) : Int), ((ns.getD 1 0 : Nat) : Int), ((ns.getD 2 0 : Nat) : Int), ((ns.getD 3 0 : Nat) : Int), intsN (ns.drop 4), ms) := by unfold supOf; rw [h]; rfl
theorem supOf_super {ns : List Nat} {ms : List Mrk} {g b p t : Int} {xs : List Int} {ms' : List Mrk} (h : supOf ns ms = some (g, b, p, t, xs, ms')) : superB g b p t xs ms' = true := by
 unfold supOf at h
 split at h
 . rename_i hs
   injection h with h
   injection h with h0 h
   injection h with h1 h
   injection h with h2 h
   injection h with h3 h
   injection h with h4 h5
   subst h0 h1 h2 h3 h4 h5
   exact hs
 . cases h
def partU (h m : List UInt8) : Option U6 := (numsO h).bind fun ns => if 4 <= ns.length then (marksO m).bind (supOf ns) else none
theorem partU_nums {h m : List UInt8} (e : numsO h = none) : partU h m = none := by unfold partU; rw [e]; rfl
theorem partU_few {h m : List UInt8} {ns : List Nat} (e : numsO h = some ns) (hl : ns.length < 4) : partU h m = none := by
 unfold partU; rw [e, Option.bind_some, if_neg oM]
theorem partU_marks {h m : List UInt8} {ns : List Nat} (e : numsO h = some ns) (hm : marksO m = none) : partU h m = none := by
 unfold partU; rw [e, Option.bind_some, hm]; simp
theorem partU_yes {h m : List UInt8} {ns : List Nat} {ms : List Mrk} (e : numsO h = some ns) (hl : 4 <= ns.length) (hm : marksO m = some ms) : partU h m = supOf ns ms := by
 unfold partU; rw [e, Option.bind_some, if_pos hl, hm]; rfl
theorem partU_super {h m : List UInt8} {g b p t : Int} {xs : List Int} {ms : List Mrk} (e : partU h m = some (g, b, p, t, xs, ms)) : superB g b p t xs ms = true := by
 unfold partU at e
 cases hn : numsO h with
 | none => rw [hn] at e; cases e
 | some ns =>
   rw [hn, Option.bind_some] at e
   split at e
   . cases hm : marksO m with
     | none => rw [hm] at e; cases e
     | some ms' => rw [hm, Option.bind_some] at e; exact supOf_super e
   . cases e
theorem letB_bar {s : BA} (h : 124 ∈ s.data.toList) : nmB s = false := by
 obtain ⟨k, hk, e⟩ := List.getElem_of_mem h
 have hk' : k < s.size := by rw [ba_size]; exact hk
 refine nmB_no hk' ?_
 unfold letB
 rw [gdE, List.getElem?_eq_getElem hk, e]
 decide
theorem superB_marks {g b p t : Int} {xs : List Int} {ms : List Mrk} {m : Mrk} (hm : m ∈ ms) (h : nmB m.1 = false) : superB g b p t xs ms = false := by
 obtain ⟨k, hk, e⟩ := List.getElem_of_mem hm
 have hms : msB ms = false := by
  unfold msB
  rw [show (List.range ms.length).all (okMk ms) = false from List.all_eq_false.2 ⟨k, by simpa using hk, ?_⟩]
  . simp
  . unfold okMk mkB
    rw [gdE, List.getElem?_eq_getElem hk, Option.getD_some, e, h]; simp
 unfold superB; rw [hms]; simp
theorem partU_bar {h m : List UInt8} (hb : 124 ∈ m) : partU h m = none := by
 cases hn : numsO h with
 | none => exact partU_nums hn
 | some ns =>
   by_cases hl : 4 <= ns.length
   case neg => exact partU_few hn oM
   cases hm : marksO m with
   | none => exact partU_marks hn hm
   | some ms =>
     rw [partU_yes hn hl hm]
     refine supOf_no ?_
     have hne : ¬ m.length = 0 := fun e => by rw [List.length_eq_zero_iff] at e; subst e; simp at hb
     unfold marksO at hm
     rw [if_neg hne] at hm
     obtain ⟨w, hw, hbw⟩ := cutL_mem (c := 44) (x := 124) dC hb
     obtain ⟨q, hq, e⟩ := marksL_all hm hw
     refine superB_marks hq ?_
     rcases part_at 61 w with h1 | ⟨a, b, h1, e1⟩
     . rw [wordM_miss h1] at e; cases e
     . rw [e1, wordM_hit h1] at e
       split at e
       . rename_i hp
         injection e with e
         subst e
         rw [e1] at hbw
         have hba : 124 ∈ a := by
          rcases List.mem_append.1 hbw with h2 | h2
          . exact h2
          . rcases List.mem_cons.1 h2 with h3 | h3
            . exact absurd h3 dC
            . exact absurd (digL_mem (plainB_dig hp) h3) dC
         exact letB_bar (by rw [baL_list]; exact hba)
       . cases e
def rdU (t : BA) : Option U6 :=
 if opensB t && (Lib.cut (bodyOf t).data.toList [124]).2.2 then partU (Lib.cut (bodyOf t).data.toList [124]).1 (Lib.cut (bodyOf t).data.toList [124]).2.1 else none
theorem rdU_shut {t : BA} (h : opensB t = false) : rdU t = none := by unfold rdU; rw [h]; rfl
theorem rdU_miss {t : BA} (h : 124 ∉ (bodyOf t).data.toList) : rdU t = none := by unfold rdU; rw [cut_miss h]; simp
theorem rdU_hit {t : BA} {a b : List UInt8} (h : opensB t = true) (h2 : 124 ∉ a) (e : (bodyOf t).data.toList = a ++ 124 :: b) : rdU t = partU a b := by
 unfold rdU; rw [h, e, cut_hit h2]; rfl
theorem rdU_two {t : BA} {a b : List UInt8} (h : opensB t = true) (e : cutL 124 (bodyOf t).data.toList = [a, b]) : rdU t = partU a b := by
 obtain ⟨a', b', h1, h2, h3, _⟩ := cutL_two (c := 124) (s := (bodyOf t).data.toList) (by rw [e]; rfl)
 rw [e] at h1
 injection h1 with e1 h1
 injection h1 with e2 _
 subst e1 e2
 exact rdU_hit h h3 h2
theorem rdU_more {t : BA} (h : (cutL 124 (bodyOf t).data.toList).length ≠ 2) : rdU t = none := by
 cases ho : opensB t with
 | false => exact rdU_shut ho
 | true =>
   rcases part_at 124 (bodyOf t).data.toList with h1 | ⟨a, b, h1, e⟩
   . exact rdU_miss h1
   . rw [rdU_hit ho h1 e]
     refine partU_bar ?_
     by_cases hb : (124 : UInt8) ∈ b
     . exact hb
     . exact absurd (by rw [e, cutL_hit 124 a b h1, cutL_miss 124 b hb]; rfl) h
theorem rdU_super {t : BA} {g b p q : Int} {xs : List Int} {ms : List Mrk} (e : rdU t = some (g, b, p, q, xs, ms)) : superB g b p q xs ms = true := by
 unfold rdU at e
 split at e
 . exact partU_super e
 . cases e
theorem bl_asym : ∀ a b : List UInt8, Op.bytesLess a b = true -> Op.bytesLess b a = false
 | _, [], h => by simp [Op.bytesLess] at h
 | [], _ :: _, _ => by simp [Op.bytesLess]
 | x :: a, y :: b, h => by
   simp only [Op.bytesLess, Bool.or_eq_true, Bool.and_eq_true, decide_eq_true_eq, beq_iff_eq] at h
   simp only [Op.bytesLess, Bool.or_eq_false_iff, Bool.and_eq_false_iff, decide_eq_false_iff_not, beq_eq_false_iff_ne]
   rcases h with h | ⟨rfl, h⟩
   . have h' : x.toNat < y.toNat := h
     refine ⟨fun h2 => ?_, .inl fun e => ?_⟩
     . have h2' : y.toNat < x.toNat := h2
       omega
     . subst e; omega
   . refine ⟨fun h2 => ?_, .inr (bl_asym a b h)⟩
     have h2' : x.toNat < x.toNat := h2
     omega
theorem bl_irr : ∀ a : List UInt8, Op.bytesLess a a = false
 | [] => by simp [Op.bytesLess]
 | x :: a => by
   simp only [Op.bytesLess, Bool.or_eq_false_iff, Bool.and_eq_false_iff, decide_eq_false_iff_not]
   refine ⟨fun h2 => ?_, .inr (bl_irr a)⟩
   have h2' : x.toNat < x.toNat := h2
   omega
theorem bl_ne (a b : List UInt8) (h : Op.bytesLess a b = true) : (b == a) = false := by
 rw [beq_eq_false_iff_ne]
 rintro rfl
 rw [bl_irr] at h
 cases h
theorem bl_total : ∀ a b : List UInt8, Op.bytesLess a b = false -> (Op.bytesLess b a || b == a) = true
 | [], [], _ => by simp
 | _ :: _, [], _ => by simp [Op.bytesLess]
 | [], _ :: _, h => by simp [Op.bytesLess] at h
 | x :: a, y :: b, h => by
   simp only [Op.bytesLess, Bool.or_eq_false_iff, Bool.and_eq_false_iff, decide_eq_false_iff_not, beq_eq_false_iff_ne] at h
   obtain ⟨h1, h2⟩ := h
   have h1' : ¬ x.toNat < y.toNat := h1
   by_cases e : x = y
   . subst e
     have h3 := bl_total a b (by rcases h2 with h2 | h2; exact absurd rfl h2; exact h2)
     simp only [Op.bytesLess, Bool.or_eq_true, Bool.and_eq_true, decide_eq_true_eq, beq_iff_eq, List.cons.injEq, true_and] at h3 ⊢
     rcases h3 with h3 | h3
     . exact .inl (.inr h3)
     . exact .inr h3
   . have hne : x.toNat ≠ y.toNat := fun h => e (UInt8.toNat_inj.1 h)
     have h4 : y < x := (show y.toNat < x.toNat by omega)
     simp [Op.bytesLess, h4]
theorem isTable_c (A : Option Addr) (c B : Nat) (xs : List Int) (w : World) (h : Ins w B A xs) (hn : xs.length <= 1048576) (hc : xs.length <= c) :
 Calls Tryz.prog 101 #[sC A xs.length c] w fun e w' => e = .returned (.bool (tbB xs)) /\ w = w' := by
 by_cases hl : xs.length <= 20
 case neg =>
  have hd : decide (20 < (xs.length : Int)) = true := by simp; omega
  have HR := qh (tbB_len (xs := xs) oM).symm
  go_enter func101, ntmps101
  go_wp2
  go_ret
  exact ⟨ret_bool HR.out, rfl⟩
 have hd : decide (20 < (xs.length : Int)) = false := by simp; omega
 go_enter func101, ntmps101
 go_wp2
 go_loop [10] (fun i => ∃ k : Nat, k <= xs.length /\ i = ii k /\ TbTo xs k) (fun i => xs.length - (intOf i).toNat)
 case atStart => exact ⟨0, Nat.zero_le _, rfl, TbTo.zero _⟩
 case round =>
  obtain ⟨k, hk, rfl, hto⟩ := hrel
  by_cases hlt : k < xs.length
  . obtain ⟨bb, off, rfl, hb, k0⟩ := h.at_ hlt
    obtain ⟨q, Hq⟩ := nM (xs.getD k 0)
    rw [Hq.out] at k0
    have hkc : (k : Int) <= (c : Int) := oM
    cases hin : inB 10 63 q with
    | false =>
      have HC := qh hin
      have HR := qh (tbB_no hlt (by unfold tbOk; rw [Hq.out, hin]; rfl)).symm
      clear hin
      go_wp2_with (go_at_call 99; refine (isWithin_c _ _ _ _).mono ?_; rintro e w' ⟨rfl, rfl⟩; rw [HC.out])
      go_ret
      exact ⟨ret_bool HR.out, rfl⟩
    | true =>
      have HC := qh hin
      clear hin
      cases hh : hasB xs k q with
      | true =>
        have HX := qh hh
        have HR := qh (tbB_no hlt (by unfold tbOk; rw [Hq.out, hh]; simp)).symm
        clear hh
        go_wp2_with (first | (go_at_call 99; refine (isWithin_c _ _ _ _).mono ?_; rintro e w' ⟨rfl, rfl⟩; rw [HC.out]) | (go_at_call 132; refine (contains_c (some ⟨bb, off, none⟩) k c B xs q _ h oM hn).mono ?_; rintro e w' ⟨rfl, rfl⟩; rw [HX.out]))
        go_ret
        exact ⟨ret_bool HR.out, rfl⟩
      | false =>
        have HX := qh hh
        have HT := qh (hto.succ (by unfold tbOk; rw [Hq.out, HC.out, hh]; rfl))
        clear hh
        go_wp2_with (first | (go_at_call 99; refine (isWithin_c _ _ _ _).mono ?_; rintro e w' ⟨rfl, rfl⟩; rw [HC.out]) | (go_at_call 132; refine (contains_c (some ⟨bb, off, none⟩) k c B xs q _ h oM hn).mono ?_; rintro e w' ⟨rfl, rfl⟩; rw [HX.out]))
        go_round
        case rel => exact ⟨k + 1, oM, by go_num, HT.out⟩
        case measure => simp [intOf]; omega
  . obtain rfl : k = xs.length := oM
    have HR := qh (tbB_mk hl hto).symm
    go_wp2
    go_ret
    exact ⟨ret_bool HR.out, rfl⟩
theorem areMarks_c (A2 : Option Addr) (c2 B : Nat) (ms : List Mrk) (w : World) (h2 : Mks w B A2 ms) (hB : B <= w.heap.size) (hn : ms.length <= 1048576) (hm : AllM ms) :
 Calls Tryz.prog 102 #[sC A2 ms.length c2] w fun e w' => e = .returned (.bool (msB ms)) /\ Nx w w' := by
 by_cases hl : ms.length <= 4
 case neg =>
  have hd : decide (4 < (ms.length : Int)) = true := by simp; omega
  have HR := qh (msB_len (ms := ms) oM).symm
  go_enter func102, ntmps102
  go_wp2
  go_ret
  exact ⟨ret_bool HR.out, Nx.refl _⟩
 have hd : decide (4 < (ms.length : Int)) = false := by simp; omega
 go_enter func102, ntmps102
 go_wp2
 go_loopw [10] (fun i wr => ∃ k : Nat, k <= ms.length /\ i = ii k /\ MkTo ms k /\ Nx w wr) (fun i _ => ms.length - (intOf i).toNat)
 case atStart => exact ⟨0, Nat.zero_le _, rfl, MkTo.zero _, Nx.refl _⟩
 case round =>
  obtain ⟨k, hk, rfl, hto, hnx⟩ := hrel
  by_cases hlt : k < ms.length
  . obtain ⟨bb, off, rfl, hb, k0, k1⟩ := (h2.below hnx hB).at_ hlt
    have hsz := hm k
    obtain ⟨⟨q0, q1⟩, Hq⟩ := nM (ms.getD k mrZ)
    rw [Hq.out] at k0 k1 hsz
    go_wp2_with fail
    have bq := Box.new wr 136 #[.string q0, ii q1]
    have hnxq := hnx.alloc (.cells #[.string q0, ii q1] 136)
    have hMq := h2.below hnxq hB
    generalize wr.alloc (.cells #[.string q0, ii q1] 136) = wq at *
    clear k0 k1
    have k0 := bq.c0
    have k1 := bq.c1
    cases hnm : nmB q0 with
    | false =>
      have HN := qh hnm
      have HR := qh (msB_no hlt (by unfold okMk mkB; rw [Hq.out]; simp [hnm])).symm
      clear hnm
      refine wp_lexA (kf2 (true :: kf9 (kf9 (kf4 ([]))))) (fun w' => CC w' wr.heap.size 0 (.string q0) /\ CC w' wr.heap.size 1 (ii q1)) (by exact ⟨k0, k1⟩) ?_
      refine hLr ?_
      refine hLc fun K hK => ?_
      go_simp
      refine (isMarkName_c q0 _ hsz).mono ?_; rintro e w' ⟨rfl, rfl⟩; rw [HN.out]
      go_wp2_with fail
      refine hK.out _ _ (by exact ⟨k0, k1⟩) ?_
      clear hK K
      refine nZ ?_
      refine hLr ?_
      refine HL.done ?_
      go_wp2
      go_ret
      exact ⟨ret_bool HR.out, hnxq.drew⟩
    | true =>
      have HN := qh hnm
      clear hnm
      cases hps : inB 0 999999 q1 with
      | false =>
        have HP := qh hps
        have HR := qh (msB_no hlt (by unfold okMk mkB; rw [Hq.out]; simp [hps])).symm
        clear hps
        refine wp_lexA (kf2 (true :: kf4 (true :: kf9 (kf8 ([]))))) (fun w' => CC w' wr.heap.size 0 (.string q0) /\ CC w' wr.heap.size 1 (ii q1)) (by exact ⟨k0, k1⟩) ?_
        refine hLr ?_
        refine hLc fun K hK => ?_
        go_simp
        refine (isMarkName_c q0 _ hsz).mono ?_; rintro e w' ⟨rfl, rfl⟩; rw [HN.out]
        go_wp2_with fail
        refine hK.out _ _ (by exact ⟨k0, k1⟩) ?_
        clear hK K
        refine nZ ?_
        refine hLr ?_
        refine hLc fun K hK => ?_
        go_simp
        refine (isPosition_c q1 _).mono ?_; rintro e w' ⟨rfl, rfl⟩; rw [HP.out]
        go_wp2_with fail
        refine hK.out _ _ (by exact ⟨k0, k1⟩) ?_
        clear hK K
        refine nZ ?_
        refine hLr ?_
        refine HL.done ?_
        go_wp2
        go_ret
        exact ⟨ret_bool HR.out, hnxq.drew⟩
      | true =>
        have HP := qh hps
        clear hps
        by_cases hk0 : k = 0
        . have hd0 : decide (0 < (k : Int)) = false := by simp; omega
          have hd1 : decide (0 < k) = false := by simp; omega
          have HO := qh (hto.succ (by unfold okMk mkB; rw [Hq.out, HN.out, HP.out, hk0]; rfl))
          clear hk0
          refine wp_lexA (kf2 (true :: kf4 (true :: kf9 (kf8 ([]))))) (fun w' => CC w' wr.heap.size 0 (.string q0) /\ CC w' wr.heap.size 1 (ii q1)) (by exact ⟨k0, k1⟩) ?_
          refine hLr ?_
          refine hLc fun K hK => ?_
          go_simp
          refine (isMarkName_c q0 _ hsz).mono ?_; rintro e w' ⟨rfl, rfl⟩; rw [HN.out]
          go_wp2_with fail
          refine hK.out _ _ (by exact ⟨k0, k1⟩) ?_
          clear hK K
          refine nZ ?_
          refine hLr ?_
          refine hLc fun K hK => ?_
          go_simp
          refine (isPosition_c q1 _).mono ?_; rintro e w' ⟨rfl, rfl⟩; rw [HP.out]
          go_wp2_with fail
          refine hK.out _ _ (by exact ⟨k0, k1⟩) ?_
          clear hK K
          refine nZ ?_
          refine hLr ?_
          refine HL.done ?_
          go_wp2
          go_roundw
          case rel => exact ⟨k + 1, oM, by go_num, HO.out, hnxq.drew⟩
          case measure => simp [intOf]; omega
        . obtain ⟨j, rfl⟩ : ∃ j, k = j + 1 := ⟨k - 1, oM⟩
          obtain ⟨b', off', he, _, m0, _⟩ := hMq.at_ (k := j) oM
          obtain ⟨rfl, rfl⟩ : bb = b' /\ off = off' := by simpa using he
          clear he
          obtain ⟨⟨r0, r1⟩, Hr⟩ := nM (ms.getD j mrZ)
          rw [Hr.out] at m0
          have hd0 : decide (0 < ((j : Int) + 1)) = true := by simp
          have hd1 : decide (0 < j + 1) = true := by simp
          have hi1 : (0 : Int) <= (j : Int) + 1 := oM
          have hi2 : (j : Int) + 1 < (ms.length : Int) := oM
          have hi4 : (j : Int) < (ms.length : Int) := oM
          have hi5 : j < ms.length := oM
          have hi3 : ((j : Int) + 1).toNat = j + 1 := oM
          have hw1 : IntKind.i64.wrap ((j : Int) + 1 - 1) = (j : Int) := by rw [Int.add_sub_cancel]; exact IntWalk.i64_in _ oM
          have hw2 : IntKind.i64.wrap (j : Int) = (j : Int) := IntWalk.i64_in _ oM
          have hi6 : (0 : Int) <= (j : Int) := oM
          cases hlt2 : Op.bytesLess r0.toList q0.toList with
          | true =>
            have HO := qh (hto.succ (by unfold okMk mkB; rw [Hq.out, HN.out, HP.out, Nat.add_sub_cancel, Hr.out, hlt2]; simp))
            have hg1 : Op.bytesLess q0.toList r0.toList = false := bl_asym _ _ hlt2
            have hg2 : (q0.toList == r0.toList) = false := bl_ne _ _ hlt2
            clear hlt2
            refine wp_lexA (kf2 (true :: kf4 (true :: kf9 (kf8 ([]))))) (fun w' => CC w' wr.heap.size 0 (.string q0) /\ CC w' wr.heap.size 1 (ii q1) /\ CC w' bb (off + j * 2) (.string r0)) (by exact ⟨k0, k1, m0⟩) ?_
            refine hLr ?_
            refine hLc fun K hK => ?_
            go_simp
            refine (isMarkName_c q0 _ hsz).mono ?_; rintro e w' ⟨rfl, rfl⟩; rw [HN.out]
            go_wp2_with fail
            refine hK.out _ _ (by exact ⟨k0, k1, m0⟩) ?_
            clear hK K
            refine nZ ?_
            refine hLr ?_
            refine hLc fun K hK => ?_
            go_simp
            refine (isPosition_c q1 _).mono ?_; rintro e w' ⟨rfl, rfl⟩; rw [HP.out]
            go_wp2_with fail
            refine hK.out _ _ (by exact ⟨k0, k1, m0⟩) ?_
            clear hK K
            refine nZ ?_
            refine hLr ?_
            refine HL.done ?_
            clear hw1 hw2 hi6 hi1 hi2 hi3 hi4 hi5
            go_wp2
            go_roundw
            case rel => exact ⟨j + 1 + 1, oM, by go_num, HO.out, hnxq.drew⟩
            case measure => simp [intOf]; omega
          | false =>
            have HR := qh (msB_no hlt (by unfold okMk mkB; rw [Hq.out]; rw [Nat.add_sub_cancel, Hr.out, hlt2]; simp)).symm
            have hg : (Op.bytesLess q0.toList r0.toList || q0.toList == r0.toList) = true := bl_total _ _ hlt2
            clear hlt2
            cases hg1 : Op.bytesLess q0.toList r0.toList with
            | true =>
              clear hg
              refine wp_lexA (kf2 (true :: kf4 (true :: kf9 (kf8 ([]))))) (fun w' => CC w' wr.heap.size 0 (.string q0) /\ CC w' wr.heap.size 1 (ii q1) /\ CC w' bb (off + j * 2) (.string r0)) (by exact ⟨k0, k1, m0⟩) ?_
              refine hLr ?_
              refine hLc fun K hK => ?_
              go_simp
              refine (isMarkName_c q0 _ hsz).mono ?_; rintro e w' ⟨rfl, rfl⟩; rw [HN.out]
              go_wp2_with fail
              refine hK.out _ _ (by exact ⟨k0, k1, m0⟩) ?_
              clear hK K
              refine nZ ?_
              refine hLr ?_
              refine hLc fun K hK => ?_
              go_simp
              refine (isPosition_c q1 _).mono ?_; rintro e w' ⟨rfl, rfl⟩; rw [HP.out]
              go_wp2_with fail
              refine hK.out _ _ (by exact ⟨k0, k1, m0⟩) ?_
              clear hK K
              refine nZ ?_
              refine hLr ?_
              refine HL.done ?_
              clear hw1 hw2 hi6 hi1 hi2 hi3 hi4 hi5
              go_wp2
              go_ret
              exact ⟨ret_bool HR.out, hnxq.drew⟩
            | false =>
              rw [hg1, Bool.false_or] at hg
              refine wp_lexA (kf2 (true :: kf4 (true :: kf9 (kf8 ([]))))) (fun w' => CC w' wr.heap.size 0 (.string q0) /\ CC w' wr.heap.size 1 (ii q1) /\ CC w' bb (off + j * 2) (.string r0)) (by exact ⟨k0, k1, m0⟩) ?_
              refine hLr ?_
              refine hLc fun K hK => ?_
              go_simp
              refine (isMarkName_c q0 _ hsz).mono ?_; rintro e w' ⟨rfl, rfl⟩; rw [HN.out]
              go_wp2_with fail
              refine hK.out _ _ (by exact ⟨k0, k1, m0⟩) ?_
              clear hK K
              refine nZ ?_
              refine hLr ?_
              refine hLc fun K hK => ?_
              go_simp
              refine (isPosition_c q1 _).mono ?_; rintro e w' ⟨rfl, rfl⟩; rw [HP.out]
              go_wp2_with fail
              refine hK.out _ _ (by exact ⟨k0, k1, m0⟩) ?_
              clear hK K
              refine nZ ?_
              refine hLr ?_
              refine HL.done ?_
              clear hw1 hw2 hi6 hi1 hi2 hi3 hi4 hi5
              go_wp2
              go_ret
              exact ⟨ret_bool HR.out, hnxq.drew⟩
  . obtain rfl : k = ms.length := oM
    have HR := qh (msB_mk hl hto).symm
    go_wp2
    go_ret
    exact ⟨ret_bool HR.out, hnx⟩
theorem superRight_c (g b p t : Int) (A A2 : Option Addr) (c c2 B : Nat) (xs : List Int) (ms : List Mrk) (w : World) (h : Ins w B A xs) (h2 : Mks w B A2 ms) (hB : B <= w.heap.size) (hn : xs.length <= 1048576) (hn2 : ms.length <= 1048576) (hc : xs.length <= c) (hm : AllM ms) :
 Calls Tryz.prog 44 #[.agg #[ii g, ii b, ii p, ii t, sC A xs.length c, sC A2 ms.length c2]] w fun e w' => e = .returned (.bool (superB g b p t xs ms)) /\ Nx w w' := by
 cases x0 : inB 1 999999 g with
 | false =>
   have H0 := qh x0
   clear x0
   have HR := qh (superB_no (g := g) (b := b) (p := p) (t := t) (xs := xs) (ms := ms) (by simp [H0.out])).symm
   go_enter func44, ntmps44
   go_wp2_with (first | (go_at_call 99; refine (isWithin_c _ _ _ _).mono ?_; rintro e w' ⟨rfl, rfl⟩; first | rw [H0.out]))
   go_ret
   exact ⟨ret_bool HR.out, (Nx.refl _).alloc _⟩
 | true =>
 have H0 := qh x0
 clear x0
 cases x1 : inB 0 999999 b with
 | false =>
   have H1 := qh x1
   clear x1
   have HR := qh (superB_no (g := g) (b := b) (p := p) (t := t) (xs := xs) (ms := ms) (by simp [H1.out])).symm
   go_enter func44, ntmps44
   go_wp2_with (first | (go_at_call 99; refine (isWithin_c _ _ _ _).mono ?_; rintro e w' ⟨rfl, rfl⟩; first | rw [H0.out]) | (go_at_call 100; refine (isPosition_c _ _).mono ?_; rintro e w' ⟨rfl, rfl⟩; rw [H1.out]))
   go_ret
   exact ⟨ret_bool HR.out, (Nx.refl _).alloc _⟩
 | true =>
 have H1 := qh x1
 clear x1
 cases x2 : inB b 999999 p with
 | false =>
   have H2 := qh x2
   clear x2
   have HR := qh (superB_no (g := g) (b := b) (p := p) (t := t) (xs := xs) (ms := ms) (by simp [H2.out])).symm
   go_enter func44, ntmps44
   go_wp2_with (first | (go_at_call 99; refine (isWithin_c _ _ _ _).mono ?_; rintro e w' ⟨rfl, rfl⟩; first | rw [H0.out] | rw [H2.out]) | (go_at_call 100; refine (isPosition_c _ _).mono ?_; rintro e w' ⟨rfl, rfl⟩; rw [H1.out]))
   go_ret
   exact ⟨ret_bool HR.out, (Nx.refl _).alloc _⟩
 | true =>
 have H2 := qh x2
 clear x2
 cases x3 : inB b 999999 t with
 | false =>
   have H3 := qh x3
   clear x3
   have HR := qh (superB_no (g := g) (b := b) (p := p) (t := t) (xs := xs) (ms := ms) (by simp [H3.out])).symm
   go_enter func44, ntmps44
   go_wp2_with (first | (go_at_call 99; refine (isWithin_c _ _ _ _).mono ?_; rintro e w' ⟨rfl, rfl⟩; first | rw [H0.out] | rw [H2.out] | rw [H3.out]) | (go_at_call 100; refine (isPosition_c _ _).mono ?_; rintro e w' ⟨rfl, rfl⟩; rw [H1.out]))
   go_ret
   exact ⟨ret_bool HR.out, (Nx.refl _).alloc _⟩
 | true =>
 have H3 := qh x3
 clear x3
 cases x4 : tbB xs with
 | false =>
   have H4 := qh x4
   clear x4
   have HR := qh (superB_no (g := g) (b := b) (p := p) (t := t) (xs := xs) (ms := ms) (by simp [H4.out])).symm
   go_enter func44, ntmps44
   go_wp2_with (first | (go_at_call 99; refine (isWithin_c _ _ _ _).mono ?_; rintro e w' ⟨rfl, rfl⟩; first | rw [H0.out] | rw [H2.out] | rw [H3.out]) | (go_at_call 100; refine (isPosition_c _ _).mono ?_; rintro e w' ⟨rfl, rfl⟩; rw [H1.out]) | (go_at_call 101; refine (isTable_c A c B xs _ (h.below ((Nx.refl w).alloc _) hB) hn hc).mono ?_; rintro e w' ⟨rfl, rfl⟩; rw [H4.out]))
   go_ret
   exact ⟨ret_bool HR.out, (Nx.refl _).alloc _⟩
 | true =>
 have H4 := qh x4
 clear x4
 have HR := qh (show msB ms = superB g b p t xs ms by unfold superB; rw [H0.out, H1.out, H2.out, H3.out, H4.out]; rfl)
 go_enter func44, ntmps44
 go_wp2_with (first | (go_at_call 99; refine (isWithin_c _ _ _ _).mono ?_; rintro e w' ⟨rfl, rfl⟩; first | rw [H0.out] | rw [H2.out] | rw [H3.out]) | (go_at_call 100; refine (isPosition_c _ _).mono ?_; rintro e w' ⟨rfl, rfl⟩; rw [H1.out]) | (go_at_call 101; refine (isTable_c A c B xs _ (h.below ((Nx.refl w).alloc _) hB) hn hc).mono ?_; rintro e w' ⟨rfl, rfl⟩; rw [H4.out]))
 have hx0 := (Nx.refl w).alloc (.cells #[ii g, ii b, ii p, ii t, sC A xs.length c, sC A2 ms.length c2] 26)
 refine (areMarks_c A2 c2 B ms _ (h2.below hx0 hB) (ntr hB hx0.size) hn2 hm).mono ?_
 rintro e w1 ⟨rfl, hnx1⟩
 go_wp2
 go_ret
 exact ⟨ret_bool HR.out, hx0.trans hnx1⟩
end
end Go.Proofs.YtieoiailjjnnoaaGreatDoor
