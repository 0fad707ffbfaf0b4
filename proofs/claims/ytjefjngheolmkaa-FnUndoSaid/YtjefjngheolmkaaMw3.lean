/-
  Texts of the proof, put together in their order: Six, Pdd, Bld, Frt, Nmt, Nat, Sgx, Lst, Mks.
  Conditions: those of each.
-/
import Derived.Test.YtjefjngheolmkaaMw2
import Derived.Lib.Strings
import Derived.Lib.Builder
import Derived.Lib.AppendStr
import Derived.Lib.UnsafeStr
import Derived.Laws.Externs
import Derived.RegionTactic
import Derived.Shelf.Strings.Builder1
import Derived.Deep.AppendLies
import Derived.Deep.Strs
import Derived.StillTailTactics
/- Contracts of the model's l02Six, l02Seal and l02Join: numbers' six digits, the sum's three behind a text, many numbers. Conditions: the numbers are from 0 to 999999. -/
namespace Go.Proofs.Ytjefjngheolmkaa
set_option linter.unusedVariables false
set_option maxRecDepth 100000
open Go.RowKit

def sizeOfStr : Value → Nat | .string s => s.size | _ => 0
theorem ba_eq {s : ByteArray} {l : List UInt8} (h : s.data.toList = l) : s = ⟨l.toArray⟩ := by
  subst h; cases s; simp
theorem ba_app (s t : ByteArray) : (s ++ t).data.toList = s.data.toList ++ t.data.toList := by
  cases s; cases t; rw [ByteArray.mk_append_mk]
theorem ba_size (s : ByteArray) : s.size = s.data.toList.length := by rw [Array.length_toList]; rfl

theorem six_less {s t : ByteArray} (h : s.size < 6) (ht : 0 < t.size := by decide) : 6 - sizeOfStr (.string (t ++ s)) < 6 - sizeOfStr (.string s) := by
  show 6 - (t ++ s).size < 6 - s.size
  rw [ByteArray.size_append]
  omega
set_option maxHeartbeats 1000000 in
/-- A number's six digits, as the model tells them. -/
theorem l02Six_c (n : Nat) (w : World) (hn : n ≤ 999999) : Calls Try.prog 115 #[.int .i64 n] w fun e w' => e = .returned (.string ⟨(pad 6 n).toArray⟩) ∧ Nx w w' := by
  obtain ⟨hl, he⟩ := digs_pad 5 n (by omega)
  obtain ⟨hl1, _⟩ := digs_len hn
  have HE := Lib.hid he
  clear he
  go_enter Try.func115, Try.ntmps115
  go_wp2_with fail
  refine (l00Digits_c n _ hn).mono ?_
  rintro e w1 ⟨rfl, hnx1⟩
  obtain ⟨s0, Hs0⟩ : ∃ s : ByteArray, Hid ((⟨(digs n).toArray⟩ : ByteArray) = s) := ⟨_, rfl⟩
  rw [Hs0.out]
  go_wp2
  go_loop [3] (fun v => ∃ (s : ByteArray) (k : Nat), v = .string s ∧ k + (digs n).length ≤ 6 ∧ s.size ≤ 6 ∧ Hid (s.data.toList = List.replicate k 48 ++ digs n)) (fun v => 6 - sizeOfStr v)
  case atStart =>
    refine ⟨s0, 0, rfl, by omega, ?_, Lib.hid ?_⟩
    · rw [← Hs0.out]; simpa [ByteArray.size] using hl
    · rw [← Hs0.out]; simp
  case round =>
    obtain ⟨s, k, rfl, hk, hs6, HS⟩ := hrel
    have hsz : s.size = k + (digs n).length := by rw [ba_size, HS.out]; simp
    by_cases hlt : s.size < 6
    · have hd : decide ((s.size : Int) < 6) = true := by simp; omega
      have Hsz := Lib.hid hsz
      clear hsz
      go_wp2
      go_round
      case rel =>
        refine ⟨_, k + 1, rfl, by have := Hsz.out; omega, ?_, Lib.hid ?_⟩
        · rw [ba_size, ba_app]; simp; have := ba_size s; simp at this; omega
        · rw [ba_app, HS.out]; simp [List.replicate_succ]
      case measure => exact six_less hlt
    · have hd : decide ((s.size : Int) < 6) = false := by simp; omega
      have hk6 : k = 6 - (digs n).length := by omega
      have HK := Lib.hid hk6
      clear hsz hk6
      go_wp2
      go_ret
      refine ⟨ret_str (ba_eq ?_), hnx1⟩
      rw [HS.out, HK.out, HE.out]

/-- The sum's three digits. -/
def sumD (s : ByteArray) : List UInt8 := pad 3 (sumS s).toNat
theorem pad_drop (j k n : Nat) : (pad (k + j) n).drop k = pad j n ∧ True := by
  induction j generalizing n with
  | zero => refine ⟨?_, trivial⟩; show (pad k n).drop k = []; rw [List.drop_of_length_le (by rw [pad_len]; omega)]
  | succ j ih =>
    refine ⟨?_, trivial⟩
    show (pad (k + j) (n / 10) ++ [_]).drop k = pad j (n / 10) ++ [_]
    rw [List.drop_append_of_le_length (by rw [pad_len]; omega), (ih (n / 10)).1]
set_option maxHeartbeats 1000000 in
/-- A text and its sum behind, as the model tells it. -/
theorem l02Seal_c (s : ByteArray) (w : World) (hs : s.size ≤ 1048576) : Calls Try.prog 91 #[.string s] w fun e w' => e = .returned (.string (s ++ ⟨(sumD s).toArray⟩)) ∧ Nx w w' := by
  obtain ⟨h0, h1⟩ := sumL_bd s.data.toList
  obtain ⟨q, hq⟩ : ∃ q : Nat, sumS s = (q : Int) := ⟨(sumS s).toNat, by have : 0 ≤ sumS s := h0; omega⟩
  have hq6 : q ≤ 996 := by have : sumS s ≤ 996 := h1; omega
  have HD := Lib.hid (show sumD s = pad 3 q by unfold sumD; rw [hq]; rfl)
  have HQ := Lib.hid hq
  clear hq
  go_enter Try.func91, Try.ntmps91
  go_wp2_with fail
  refine (l02Sum_c s _ (by unfold maxLen; omega)).mono ?_
  rintro e w1 ⟨rfl, rfl⟩
  rw [HQ.out]
  go_wp2_with fail
  refine (l02Six_c q _ (by omega)).mono ?_
  rintro e w1 ⟨rfl, hnx1⟩
  obtain ⟨d, Hd⟩ : ∃ d : ByteArray, Hid ((⟨(pad 6 q).toArray⟩ : ByteArray) = d) := ⟨_, rfl⟩
  have hd6 : d.size = 6 := by rw [← Hd.out]; simp [ByteArray.size, pad_len]
  rw [Hd.out]
  have hd7 : 3 ≤ d.size := by omega
  have hd8 : d.size ≤ 6 := by omega
  have Hd6 := Lib.hid hd6
  clear hd6
  go_wp2
  go_ret
  refine ⟨ret_str ?_, hnx1⟩
  congr 1
  refine ba_eq ?_
  rw [Lib.extract_data, Hd6.out, HD.out, ← Hd.out]
  have h6 := (pad_drop 3 3 q).1
  simpa [List.take_of_length_le, pad_len] using h6

/-- Many numbers' digits. -/
def padAll (ns : List Nat) : List UInt8 := ns.flatMap (pad 6)
theorem padAll_len (ns : List Nat) : (padAll ns).length = ns.length * 6 := by
  unfold padAll
  induction ns with
  | nil => rfl
  | cons a l ih => simp [pad_len, ih]; omega
def intAt (ns : List Nat) (i : Nat) : Value := .int .i64 (ns.getD i 0 : Nat)
def All6 (ns : List Nat) : Prop := ∀ k, k < ns.length → ns.getD k 0 ≤ 999999
def padTo (ns : List Nat) (k : Nat) : List UInt8 := padAll (ns.take k)
theorem padTo_len (ns : List Nat) (k : Nat) (h : k ≤ ns.length) : (padTo ns k).length = k * 6 := by
  unfold padTo; rw [padAll_len, List.length_take, Nat.min_eq_left h]
theorem padTo_succ (ns : List Nat) (k : Nat) (h : k < ns.length) : padTo ns (k + 1) = padTo ns k ++ pad 6 (ns.getD k 0) := by
  unfold padTo padAll
  rw [List.take_succ_eq_append_getElem h, List.flatMap_append, List.getD_eq_getElem?_getD, List.getElem?_eq_getElem h]; simp
theorem padTo_all (ns : List Nat) : padTo ns ns.length = padAll ns := by unfold padTo; rw [List.take_length]
set_option maxHeartbeats 1000000 in
/-- Many numbers, as the model tells them. -/
theorem l02Join_c (A : Option Addr) (c B : Nat) (ns : List Nat) (w : World) (h : Row w B A ns.length (intAt ns)) (hB : B ≤ w.heap.size) (h6 : All6 ns) (hn : ns.length ≤ 1000) :
    Calls Try.prog 92 #[.slice A ns.length c] w fun e w' => e = .returned (.string ⟨(padAll ns).toArray⟩) ∧ Nx w w' := by
  go_enter Try.func92, Try.ntmps92
  go_wp2
  go_loopw [3, 4] (fun v i wr => ∃ (k : Nat) (s : ByteArray), k ≤ ns.length ∧ i = .int .i64 k ∧ v = .string s ∧ s.size ≤ 6000 ∧ Hid (s.data.toList = padTo ns k) ∧ Nx w wr) (fun _ i _ => ns.length - (intOf i).toNat)
  case atStart => exact ⟨0, ⟨#[]⟩, Nat.zero_le _, rfl, rfl, by decide, Lib.hid rfl, Nx.refl _⟩
  case round =>
    obtain ⟨k, s, hk, rfl, rfl, hs, HS, hnx⟩ := hrel
    by_cases hlt : k < ns.length
    · obtain ⟨b, off, rfl, hb, hc0⟩ := (h.below hnx hB) (by omega)
      have hc := hc0 k hlt
      have hn6 := h6 k hlt
      have HP := Lib.hid (padTo_succ ns k hlt)
      have HL := Lib.hid (padTo_len ns k hk)
      clear hc0
      unfold intAt at hc
      obtain ⟨x, Hx⟩ : ∃ x, Hid (ns.getD k 0 = x) := ⟨_, rfl⟩
      rw [Hx.out] at hc hn6 HP
      go_wp2_with fail
      refine (l02Six_c x _ hn6).mono ?_
      rintro e w1 ⟨rfl, hnx1⟩
      obtain ⟨d, Hd⟩ : ∃ d : ByteArray, Hid ((⟨(pad 6 x).toArray⟩ : ByteArray) = d) := ⟨_, rfl⟩
      have hd6 : d.size ≤ 6 := by rw [← Hd.out]; simp [ByteArray.size, pad_len]
      rw [Hd.out]
      go_wp2
      go_roundw
      case rel =>
        have hds : d.data.toList = pad 6 x := by rw [← Hd.out]
        have hsz : (s ++ d).data.toList = padTo ns (k + 1) := by rw [ba_app, HS.out, HP.out, hds]
        exact ⟨k + 1, _, by omega, by go_num, rfl, by rw [ba_size, hsz, padTo_len _ _ (by omega)]; omega, Lib.hid hsz, hnx.trans hnx1⟩
      case measure => simp [intOf]; omega
    · obtain rfl : k = ns.length := by omega
      go_wp2
      go_ret
      exact ⟨ret_str (ba_eq (by rw [HS.out, padTo_all])), hnx⟩
end Go.Proofs.Ytjefjngheolmkaa
/- Contract of the program's padded: a number's digits, just so many. Conditions: the number is from 0 to 999999, and at most six digits are asked for. -/
namespace Go.Proofs.Ytjefjngheolmkaa
set_option linter.unusedVariables false
set_option maxRecDepth 100000
open Go.RowKit

def padAt (k n i : Nat) : Nat := 48 + n / 10 ^ (k - 1 - i) % 10
theorem pad_get (k : Nat) : ∀ n i, i < k → (pad k n)[i]? = some (UInt8.ofNat (padAt k n i)) := by
  induction k with
  | zero => intro n i h; omega
  | succ k ih =>
    intro n i h
    show (pad k (n / 10) ++ [UInt8.ofNat (48 + n % 10)])[i]? = _
    by_cases hi : i < k
    · rw [List.getElem?_append_left (by rw [pad_len]; exact hi), ih _ _ hi]
      unfold padAt
      rw [Nat.div_div_eq_div_mul, show k + 1 - 1 - i = (k - 1 - i) + 1 by omega, Nat.pow_succ, Nat.mul_comm]
    · obtain rfl : i = k := by omega
      rw [List.getElem?_append_right (by rw [pad_len]; omega), pad_len, Nat.sub_self]
      unfold padAt
      simp
def digAt (k n i : Nat) : Value := .int .u8 ((padAt k n i : Nat) : Int)
theorem info_u8 : (Try.prog.info? 5).map (fun i => (i.zero, i.size, i.bytes)) = some (some (.int .u8 0), 1, 1) := by kernel_rfl
/-- A row that is filled from its end. -/
def Back (w : World) (g : Nat) (t : TypeId) (m r : Nat) (F : Nat → Value) : Prop := ∃ f, Own w g t m f ∧ ∀ i, r ≤ i → i < m → f i = F i
theorem Back.step {w : World} {g : Nat} {t : TypeId} {m k : Nat} {F : Nat → Value} (h : Back w g t m (k + 1) F) (hk : k < m) {v : Value} (hv : v = F k) : Back (w.setCell ⟨g, k, none⟩ v) g t m k F := by
  obtain ⟨f, h, hf⟩ := h
  refine ⟨_, h.set hk v, fun i hi hm => ?_⟩
  by_cases e : i = k
  · subst e; simp [hv]
  · simp only [if_neg e]; exact hf i (by omega) hm
theorem back_conv {W : World} {g k n : Nat} (h : Back W g 5 k 0 (digAt k n)) :
    (convert 59 9 (.slice (some ⟨g, 0, none⟩) k k)).run Try.prog W = .ok (.string ⟨(pad k n).toArray⟩) W := by
  obtain ⟨f, h, hf⟩ := h
  have := run_convert_bytes_back (P := Try.prog) W 59 9 5 ⟨g, 0, none⟩ k (pad k n) Try.underlying59 Try.underlying5 Try.underlying9 (fun j hj => by
    rw [pad_len] at hj
    have e : ((Addr.mk g 0 none).add j) = ⟨g, j, none⟩ := by
      unfold Addr.add
      by_cases h : j = 0
      · subst h; simp
      · simp [h]
    rw [e, h.cell hj, hf j (by omega) hj]
    have e2 := pad_get k n j hj
    rw [List.getElem?_eq_getElem (by rw [pad_len]; exact hj)] at e2
    injection e2 with e2
    rw [e2]
    unfold digAt
    have h3 : padAt k n j < 58 := by unfold padAt; omega
    have e3 : (UInt8.ofNat (padAt k n j)).toNat = padAt k n j := by
      rw [UInt8.toNat_ofNat']
      omega
    rw [e3])
  rw [pad_len] at this
  exact this

set_option maxHeartbeats 1000000 in
theorem padded_c (n k : Nat) (w : World) (hn : n ≤ 999999) (hk1 : 1 ≤ k) (hk6 : k ≤ 6) :
    Calls Try.prog 117 #[.int .i64 n, .int .i64 k] w fun e w' => e = .returned (.string ⟨(pad k n).toArray⟩) ∧ Nx w w' := by
  obtain ⟨i0, hi0, hz0, hz1, hz2⟩ := info_parts info_u8
  have hmk := fun W => run_make_rowN (P := Try.prog) 59 5 i0 _ Try.underlying59 hi0 hz0 .i64 .i64 k k (Nat.le_refl _) (by rw [hz2]; omega) (by omega) W
  rw [hz1] at hmk
  have hmade := Own.made w #[Value.int .u8 0] k 5
  go_enter Try.func117, Try.ntmps117
  go_wp2
  go_loopw [0, 6] (fun v i wr => ∃ r : Nat, r ≤ k ∧ i = .int .i64 ((r : Int) - 1) ∧ v = .int .i64 ((n / 10 ^ (k - r) : Nat) : Int) ∧ Back wr w.heap.size 5 k r (digAt k n) ∧ Nx w wr) (fun _ i _ => (intOf i + 1).toNat)
  case atStart => exact ⟨k, Nat.le_refl _, rfl, by simp, ⟨_, hmade, fun i h1 h2 => by omega⟩, (Nx.refl _).alloc _⟩
  case round =>
    obtain ⟨r, hr, rfl, rfl, hb, hnx⟩ := hrel
    clear hmk hmade
    rcases Nat.eq_zero_or_pos r with h0 | hp
    · subst h0
      have hcv := back_conv hb
      go_wp2
      go_ret
      exact ⟨rfl, hnx⟩
    · obtain ⟨j, rfl⟩ : ∃ j, r = j + 1 := ⟨r - 1, by omega⟩
      rw [show ((j + 1 : Nat) : Int) - 1 = (j : Int) by omega]
      obtain ⟨m, Hm⟩ : ∃ m, Hid (n / 10 ^ (k - (j + 1)) = m) := ⟨_, rfl⟩
      rw [Hm.out]
      have hm : m ≤ 999999 := by rw [← Hm.out]; exact Nat.le_trans (Nat.div_le_self _ _) hn
      have hm1 : (m : Int) % 10 ≤ 9 := by omega
      have hm2 : 0 ≤ (m : Int) % 10 := by omega
      have hjk : j < k := by omega
      have hjk' : (j : Int) < (k : Int) := by omega
      obtain ⟨v, hv⟩ : ∃ v, wr.cell? ⟨w.heap.size, j, none⟩ = some v := by obtain ⟨f, h, _⟩ := hb; exact ⟨_, h.cell hjk⟩
      have hz : wr.frozen? ⟨w.heap.size, j, none⟩ = false := by obtain ⟨f, h, _⟩ := hb; exact h.frozen j
      go_wp2
      go_roundw
      case rel =>
        refine ⟨j, by omega, rfl, ?_, hb.step hjk ?_, hnx.setCell (Nat.le_refl _) _⟩
        · rw [show k - j = (k - (j + 1)) + 1 by omega, Nat.pow_succ, ← Nat.div_div_eq_div_mul, Hm.out]; go_num
        · unfold digAt padAt; rw [show k - 1 - j = k - (j + 1) by omega, Hm.out]; go_num
      case measure => simp [intOf]
end Go.Proofs.Ytjefjngheolmkaa
/- Contracts of strings.Builder's WriteString and String on a builder of the call's own. Conditions: at most 100000 bytes are written. -/
namespace Go.Proofs.Ytjefjngheolmkaa
set_option linter.unusedVariables false
set_option maxRecDepth 100000
open Go.RowKit

theorem bldSize : (Try.prog.info? 137).map (·.size) = some 2 := by kernel_rfl
theorem bldLies : liesAt Try.prog Try.prog.depth 137 (2 / Try.prog.cellsOf 137) 0 137 1 = true := by kernel_rfl
theorem bldByte : (Try.prog.info? 5).map (fun i => (i.zero, i.size, i.bytes)) = some (some (.int .u8 0), 1, 1) := by kernel_rfl
theorem bldCells : Try.prog.cellsOf 5 = 1 := by kernel_rfl

set_option maxRecDepth 100000 in
set_option maxHeartbeats 1000000 in
/-- The check that a builder has not been copied: one that was written stays as it is. -/
theorem copyUsed_c (b : Nat) (w : World) (h0 : w.cell? ⟨b, 0, none⟩ = some (.pointer (some ⟨b, 0, none⟩))) :
    Calls Try.prog 125 #[.pointer (some ⟨b, 0, none⟩)] w fun e w' => e = .returned (.tuple #[]) ∧ w = w' := by
  obtain ⟨j, hj, _⟩ := Option.map_eq_some_iff.1 bldSize
  go_enter Try.func125, Try.ntmps125
  go_wp2
  rw [Lib.run_neq_ptr_same w _ Try.underlying135 hj]
  go_wp2
  go_end0
  exact ⟨rfl, rfl⟩
set_option maxRecDepth 100000 in
set_option maxHeartbeats 1000000 in
/-- .. a new one keeps its own address from then on. -/
theorem copyNew_c (b : Nat) (w : World) (h0 : w.cell? ⟨b, 0, none⟩ = some (.pointer none)) (hsh : w.shape? b = some (137, 2)) (hfz : w.frozen? ⟨b, 0, none⟩ = false) :
    Calls Try.prog 125 #[.pointer (some ⟨b, 0, none⟩)] w fun e w' => e = .returned (.tuple #[]) ∧ w.setCell ⟨b, 0, none⟩ (.pointer (some ⟨b, 0, none⟩)) = w' := by
  obtain ⟨j, hj, hjs⟩ := Option.map_eq_some_iff.1 bldSize
  go_enter Try.func125, Try.ntmps125
  go_wp2
  rw [Lib.run_to_unsafe w ⟨b, 0, none⟩ Try.underlying135 Try.underlying145 hj (by rw [hjs]; decide) hsh (Nat.zero_lt_succ 1)]
  simp only [Result.andThen]
  rw [Oper.upon_value]
  go_wp2
  rw [run_callFunc_extern Try.func126 (by kernel_rfl) (by kernel_rfl) (by kernel_rfl) (e := Extern.AbiNoEscape.same) (by kernel_rfl)]
  rw [Lib.run_noEscape]
  simp only [Result.andThen]
  rw [Oper.upon_value]
  go_wp2
  rw [Lib.run_from_unsafe w ⟨b, 0, none⟩ Try.underlying145 Try.underlying135 hj hsh bldLies]
  simp only [Result.andThen]
  rw [Oper.upon_value]
  go_wp2
  go_end0
  exact ⟨rfl, rfl⟩

/-- A builder of the call's own that holds the bytes l: its struct is block b, its row lies above b. -/
def Bd (w : World) (b : Nat) (l : List UInt8) : Prop := Lib.IsBuilder 137 5 b b (Lib.byteCells l) w
theorem BuilderAt.nx {T e : TypeId} {B b : Nat} {p : Value} {bs : List Value} {w w' : World} (h : Lib.BuilderAt T e B b p bs w) (hb : Nx w w') : Lib.BuilderAt T e B b p bs w' := by
  have hlt := h.lt
  obtain ⟨hB, v, h1, h2, h3⟩ := h
  refine ⟨hB, v, (hb.block b hlt).trans h1, ?_, h3⟩
  refine h2.kept (row := none) ⟨hb.os, hb.tape, hb.output, hb.size, fun i hi _ => hb.block i hi⟩ ?_
  cases hv : v.ownBlock with
  | none => exact .inl rfl
  | some g => exact .inr (by simp)
theorem Bd.nx {w w' : World} {b : Nat} {l : List UInt8} (h : Bd w b l) (hb : Nx w w') : Bd w' b l := h.imp (fun h => BuilderAt.nx h hb) (fun h => BuilderAt.nx h hb)
theorem Bd.new (w : World) : Bd (w.alloc (.cells #[.pointer none, .slice none 0 0] 137)) w.heap.size [] :=
  .inl ⟨Nat.le_refl _, _, heap_alloc_new w _, ⟨rfl, .inl ⟨rfl, rfl⟩⟩, by simp [Value.ownBlock]⟩
theorem byteCells_append (a b : List UInt8) : Lib.byteCells (a ++ b) = Lib.byteCells a ++ Lib.byteCells b := by simp [Lib.byteCells]

set_option maxRecDepth 100000 in
set_option maxHeartbeats 2000000 in
theorem writeUsed_c (b : Nat) (bs : List Value) (s : ByteArray) (w : World) (h : Lib.BuilderAt 137 5 b b (.pointer (some ⟨b, 0, none⟩)) bs w) (hlen : bs.length + s.size ≤ 100000) (W : World)
    (hW : Calls Try.prog 125 #[.pointer (some ⟨b, 0, none⟩)] W fun e w' => e = .returned (.tuple #[]) ∧ w = w') (hb1 : Below b W w) :
    Calls Try.prog 119 #[.pointer (some ⟨b, 0, none⟩), .string s] W fun e w' => e = .returned (.tuple #[.int .i64 s.size, .nilIface]) ∧
      Lib.BuilderAt 137 5 b b (.pointer (some ⟨b, 0, none⟩)) (bs ++ Lib.strCells s) w' ∧ Below b W w' := by
  obtain ⟨i0, hi, hz0, hz1, hz2⟩ := info_parts bldByte
  have hlt := h.lt
  obtain ⟨hB, v, hbk, hown, hne⟩ := h
  have c0 : w.cell? ⟨b, 0, none⟩ = some (.pointer (some ⟨b, 0, none⟩)) := by rw [Lib.cell_of_heap hbk]; rfl
  have c1 : w.cell? ⟨b, 1, none⟩ = some v := by rw [Lib.cell_of_heap hbk]; rfl
  go_enter Try.func119, Try.ntmps119
  go_wp2_with fail
  refine hW.mono ?_
  rintro e w1 ⟨rfl, rfl⟩
  go_wp2_with (at_builtin; refine Lib.wpList_append_own_string _ rfl _ _ 59 9 rfl b 5 i0 Try.underlying59 Try.underlying9 hi hz0 hz1 hz2 _ _ _ rfl hown s rfl ?c3 ?c4 ?c5 ?_)
  case c3 => unfold maxLen; omega
  case c4 => omega
  case c5 => omega
  intro v' w2 hown' hgrow _
  have hb2 : w2.heap[b]? = some (.cells #[.pointer (some ⟨b, 0, none⟩), v] 137 (0, 0)) := by
    rw [hgrow.block b hlt (fun e => hne e.symm)]
    exact hbk
  have d0 : w2.cell? ⟨b, 0, none⟩ = some (.pointer (some ⟨b, 0, none⟩)) := by rw [Lib.cell_of_heap hb2]; rfl
  have d1 : w2.cell? ⟨b, 1, none⟩ = some v := by rw [Lib.cell_of_heap hb2]; rfl
  have f1 : w2.frozen? ⟨b, 1, none⟩ = false := Lib.frozen_of_heap hb2 1
  obtain ⟨ao, n', cap, rfl⟩ : ∃ ao n' cap, v' = .slice ao n' cap := by
    rcases hown'.2 with ⟨hv, _⟩ | ⟨g, cap, cur, hv, _⟩
    · exact ⟨_, _, _, hv⟩
    · exact ⟨_, _, _, hv⟩
  go_wp2
  go_ret2
  refine ⟨rfl, ?_, ?_⟩
  · exact Lib.BuilderAt.put (T := 137) (e := 5) hB hb2 (bs' := bs ++ Lib.strCells s) (by simpa [Lib.strCells_length] using hown') (by decide)
  · exact (hb1.grown hgrow (by have := hb1.size; omega) (fun k hk => (hown.lt k hk).1)).setCell (p := ⟨b, 1, none⟩) hB _
theorem strCells_bytes (s : ByteArray) : Lib.strCells s = Lib.byteCells s.data.toList := by simp [Lib.strCells, Lib.byteCells]
set_option maxHeartbeats 1000000 in
/-- WriteString: the bytes stand behind the others. -/
theorem writeString_c (b : Nat) (l : List UInt8) (s : ByteArray) (w : World) (h : Bd w b l) (hlen : l.length + s.size ≤ 100000) :
    Calls Try.prog 119 #[.pointer (some ⟨b, 0, none⟩), .string s] w fun e w' => e = .returned (.tuple #[.int .i64 s.size, .nilIface]) ∧ Bd w' b (l ++ s.data.toList) ∧ Below b w w' := by
  rcases h with h | h
  · have hlt := h.lt
    have hsh := h.shape
    have h0 := h.cell0
    obtain ⟨hB, v, hbk, hown, hne⟩ := h
    have hfz : w.frozen? ⟨b, 0, none⟩ = false := Lib.frozen_of_heap hbk 0
    have hk := copyNew_c b w h0 hsh hfz
    have hw2 : Lib.BuilderAt 137 5 b b (.pointer (some ⟨b, 0, none⟩)) (Lib.byteCells l) (w.setCell ⟨b, 0, none⟩ (.pointer (some ⟨b, 0, none⟩))) := by
      refine ⟨hB, v, ?_, ?_, hne⟩
      · have hx : Box w b 137 #[.pointer none, v] := hbk
        exact hx.set0 _
      · refine hown.kept (row := some b) ⟨rfl, rfl, rfl, by simp [World.setCell], fun i hi hn => Below.heap_setCell _ _ _ _ (fun e => hn (by rw [e]))⟩ (.inr hne)
    refine (writeUsed_c b (Lib.byteCells l) s _ hw2 (by rw [Lib.byteCells_length]; exact hlen) w hk ((Below.refl b w).setCell (p := ⟨b, 0, none⟩) (Nat.le_refl _) _)).mono ?_
    rintro e w1 ⟨rfl, h1, h2⟩
    refine ⟨rfl, .inr ?_, h2⟩
    rw [byteCells_append, ← strCells_bytes]; exact h1
  · refine (writeUsed_c b (Lib.byteCells l) s _ h (by rw [Lib.byteCells_length]; exact hlen) w (copyUsed_c b w h.cell0) (Below.refl b w)).mono ?_
    rintro e w1 ⟨rfl, h1, h2⟩
    refine ⟨rfl, .inr ?_, h2⟩
    rw [byteCells_append, ← strCells_bytes]; exact h1
set_option maxRecDepth 100000 in
set_option maxHeartbeats 1000000 in
/-- String: the bytes. -/
theorem string_c (b : Nat) (l : List UInt8) (w : World) (h : Bd w b l) (h0 : l ≠ []) :
    Calls Try.prog 120 #[.pointer (some ⟨b, 0, none⟩)] w fun e w' => e = .returned (.string ⟨l.toArray⟩) ∧ Below b w w' := by
  obtain ⟨p, hB, v, hbk, hown, hne⟩ : ∃ p, Lib.BuilderAt 137 5 b b p (Lib.byteCells l) w := by
    rcases h with h | h
    · exact ⟨_, h⟩
    · exact ⟨_, h⟩
  have hl0 : l.length ≠ 0 := by simpa using h0
  rw [Lib.byteCells_length] at hown
  obtain ⟨g, cap, cur, rfl, hbg, hg, hnc, hcm, hcs, htake⟩ : ∃ g cap cur, v = .slice (some ⟨g, 0, none⟩) l.length cap ∧ b ≤ g ∧ w.heap[g]? = some (.cells cur 5 (0, 0)) ∧ l.length ≤ cap ∧ cap ≤ maxLen ∧ cur.size = cap * 1 ∧ cur.toList.take (l.length * 1) = Lib.byteCells l := by
    rcases hown.2 with ⟨_, hz⟩ | ⟨g, cap, cur, hv, r⟩
    · exact absurd hz hl0
    · exact ⟨g, cap, cur, hv, r⟩
  have hg' : w.drew.heap[g]? = some (.cells cur 5 (0, 0)) := hg
  have c1 : w.drew.cell? ⟨b, 1, none⟩ = some (.slice (some ⟨g, 0, none⟩) l.length cap) := by
    have : w.drew.heap[b]? = some (.cells #[p, .slice (some ⟨g, 0, none⟩) l.length cap] 137 (0, 0)) := hbk
    rw [Lib.cell_of_heap this]; rfl
  have hSD : (Builtin.unsafeSliceData_ #[59] 144 #[.slice (some ⟨g, 0, none⟩) l.length cap]).run Try.prog w.drew = .ok (.pointer (some ⟨g, 0, none⟩)) w.drew :=
    Lib.run_unsafeSliceData_row _ _ _ _ _ _ (by omega)
  have hUS : (Builtin.unsafeString_ #[144, 3] 9 #[.pointer (some ⟨g, 0, none⟩), .int .i64 l.length]).run Try.prog w.drew = .ok (.string ⟨l.toArray⟩) (w.drew.freeze ⟨g, 0, none⟩ l.length) := by
    refine Lib.run_unsafeString_row w.drew 144 3 9 5 Try.underlying144 bldCells g cur.size (by simp [World.shape?, hg']) l h0 (by omega) (by unfold maxLen at hcm; omega) ?_
    intro j x hx
    exact hown.cells (g := g) rfl j (.int .u8 x.toNat) (by simp [Lib.byteCells, hx])
  go_enter Try.func120, Try.ntmps120
  go_wp2
  go_region
  all_goals (go_wp2; go_ret; exact ⟨rfl, Lib.below_freeze (Below.drew (Below.refl b w)) (p := ⟨g, 0, none⟩) hbg _⟩)
end Go.Proofs.Ytjefjngheolmkaa
/- Contracts of FrameText, as the model has it. Conditions: none. -/
namespace Go.Proofs.Ytjefjngheolmkaa
set_option linter.unusedVariables false
set_option maxRecDepth 100000
open Go.RowKit

/-- A text with its sum. -/
def sealS (s : ByteArray) : ByteArray := s ++ ⟨(sumD s).toArray⟩
def numsS (ns : List Nat) : ByteArray := ⟨(padAll ns).toArray⟩
theorem numsS_size (ns : List Nat) : (numsS ns).size = ns.length * 6 := by rw [ba_size]; exact padAll_len ns
def frameS (p b v t : Int) : ByteArray := if frameB p b v t then sealS (numsS [p.toNat, b.toNat, v.toNat, t.toNat]) else ⟨#[]⟩
def codeB (ok : Bool) (c : Int) : Int := if ok then 0 else c
theorem frameB_yes {p b v t : Int} (h : frameB p b v t = true) : (1 ≤ p ∧ p ≤ 999999) ∧ (0 ≤ b ∧ b ≤ 7) ∧ (0 ≤ v ∧ v ≤ 999999) ∧ (0 ≤ t ∧ t ≤ 999999) := by
  unfold frameB at h
  simp only [Bool.and_eq_true] at h
  exact ⟨inB_yes h.1.1.1, inB_yes h.1.1.2, inB_yes h.1.2, inB_yes h.2⟩
theorem ret_tup {a b : ByteArray} {c d : Int} (h : a = b) (k : c = d) : Ending.returned (.tuple #[.string a, .int .i64 c]) = .returned (.tuple #[.string b, .int .i64 d]) := by rw [h, k]

theorem Own.new4 (w : World) (t : TypeId) (a b c d : Value) : Own (w.alloc (.cells #[a, b, c, d] t)) w.heap.size t 4 (fun i => #[a, b, c, d].getD i undef) :=
  ⟨_, heap_alloc_new w _, by simp, fun i hi => by
    match i, hi with
    | 0, _ => rfl
    | 1, _ => rfl
    | 2, _ => rfl
    | 3, _ => rfl⟩
theorem int4 (p b v t : Nat) : ∀ i, i < 4 → (#[Value.int .i64 (p : Int), .int .i64 (b : Int), .int .i64 (v : Int), .int .i64 (t : Int)].getD i undef) = intAt [p, b, v, t] i := fun i hi => by
  match i, hi with
  | 0, _ => rfl
  | 1, _ => rfl
  | 2, _ => rfl
  | 3, _ => rfl
theorem all4 {p b v t : Nat} (h1 : p ≤ 999999) (h2 : b ≤ 999999) (h3 : v ≤ 999999) (h4 : t ≤ 999999) : All6 [p, b, v, t] := fun i hi => by
  match i, hi with
  | 0, _ => exact h1
  | 1, _ => exact h2
  | 2, _ => exact h3
  | 3, _ => exact h4
end Go.Proofs.Ytjefjngheolmkaa
/- Contracts of the program's numbersText and sealed. Conditions: the numbers are from 0 to 999999, at least one and at most 1000; a text of at most 65536 bytes is sealed. -/
namespace Go.Proofs.Ytjefjngheolmkaa
set_option linter.unusedVariables false
set_option maxRecDepth 100000
open Go.RowKit

theorem Nx.of_below {a w w' : World} {b : Nat} (h : Nx a w) (k : Below b w w') (hb : a.heap.size ≤ b) : Nx a w' := Below.trans h (Below.mono k hb)
set_option maxHeartbeats 1000000 in
theorem numbersText_c (A : Option Addr) (c B : Nat) (ns : List Nat) (w : World) (h : Row w B A ns.length (intAt ns)) (hB : B ≤ w.heap.size) (h6 : All6 ns) (hn0 : 1 ≤ ns.length) (hn : ns.length ≤ 1000) :
    Calls Try.prog 97 #[.slice A ns.length c] w fun e w' => e = .returned (.string (numsS ns)) ∧ Nx w w' := by
  have hbd := Bd.new w
  go_enter Try.func97, Try.ntmps97
  go_wp2
  go_loopw [8] (fun i wr => ∃ k : Nat, k ≤ ns.length ∧ i = .int .i64 k ∧ Bd wr w.heap.size (padTo ns k) ∧ Nx w wr) (fun i _ => ns.length - (intOf i).toNat)
  case atStart => exact ⟨0, Nat.zero_le _, rfl, hbd, (Nx.refl _).alloc _⟩
  case round =>
    obtain ⟨k, hk, rfl, hb, hnx⟩ := hrel
    clear hbd
    by_cases hlt : k < ns.length
    · obtain ⟨b, off, rfl, hb2, hc0⟩ := (h.below hnx hB) (by omega)
      have hc := hc0 k hlt
      have hn6 := h6 k hlt
      have HP := Lib.hid (padTo_succ ns k hlt)
      have hL := padTo_len ns k hk
      clear hc0
      unfold intAt at hc
      obtain ⟨x, Hx⟩ : ∃ x, Hid (ns.getD k 0 = x) := ⟨_, rfl⟩
      rw [Hx.out] at hc hn6 HP
      have HL := Lib.hid hL
      clear hL
      go_wp2_with fail
      refine (padded_c x 6 _ hn6 (by omega) (by omega)).mono ?_
      rintro e w1 ⟨rfl, hnx1⟩
      go_wp2_with fail
      refine (writeString_c w.heap.size (padTo ns k) _ _ (hb.nx hnx1) (by rw [HL.out]; simp [ByteArray.size, pad_len]; omega)).mono ?_
      rintro e w2 ⟨rfl, hbd2, hbl⟩
      clear hc
      go_wp2
      go_roundw
      case rel => exact ⟨k + 1, by omega, by go_num, by rw [HP.out]; exact hbd2, (hnx.trans hnx1).of_below hbl (Nat.le_refl _)⟩
      case measure => simp [intOf]; omega
    · obtain rfl : k = ns.length := by omega
      have hne : padTo ns ns.length ≠ [] := fun e => by
        have := padTo_len ns ns.length (Nat.le_refl _)
        rw [e] at this
        simp at this
        omega
      go_wp2_with fail
      refine (string_c w.heap.size (padTo ns ns.length) _ hb hne).mono ?_
      rintro e w1 ⟨rfl, hbl⟩
      go_wp2
      go_ret
      exact ⟨ret_str (by rw [padTo_all]; rfl), hnx.of_below hbl (Nat.le_refl _)⟩

set_option maxHeartbeats 1000000 in
theorem sealed_c (s : ByteArray) (w : World) (hs : s.size ≤ 65536) : Calls Try.prog 96 #[.string s] w fun e w' => e = .returned (.string (sealS s)) ∧ Nx w w' := by
  obtain ⟨h0, h1⟩ := sumL_bd s.data.toList
  obtain ⟨q, hq⟩ : ∃ q : Nat, sumS s = (q : Int) := ⟨(sumS s).toNat, by have : 0 ≤ sumS s := h0; omega⟩
  have hq6 : q ≤ 996 := by have : sumS s ≤ 996 := h1; omega
  have HD := Lib.hid (show pad 3 q = sumD s by unfold sumD; rw [hq]; rfl)
  have HQ := Lib.hid hq
  clear hq
  go_enter Try.func96, Try.ntmps96
  go_wp2_with fail
  refine (implSumOf_c s _ (by unfold maxLen; omega)).mono ?_
  rintro e w1 ⟨rfl, rfl⟩
  rw [← sumOfS_yes hs, HQ.out]
  go_wp2_with fail
  refine (padded_c q 3 _ (by omega) (by omega) (by omega)).mono ?_
  rintro e w1 ⟨rfl, hnx1⟩
  obtain ⟨d, Hd⟩ : ∃ d : ByteArray, Hid ((⟨(pad 3 q).toArray⟩ : ByteArray) = d) := ⟨_, rfl⟩
  have hd6 : d.size ≤ 3 := by rw [← Hd.out]; simp [ByteArray.size, pad_len]
  rw [Hd.out]
  go_wp2
  go_ret
  exact ⟨ret_str (by unfold sealS; rw [← HD.out, Hd.out]), hnx1⟩
end Go.Proofs.Ytjefjngheolmkaa
/- Rows of numbers that grow, as values and in memory. Conditions: none. -/
namespace Go.Proofs.Ytjefjngheolmkaa
set_option linter.unusedVariables false
set_option maxRecDepth 100000
open Go.RowKit

def vI (n : Nat) : Value := .int .i64 (n : Int)
theorem vI_toNat {a : Int} (h : 0 ≤ a) : vI a.toNat = .int .i64 a := by unfold vI; rw [Int.toNat_of_nonneg h]
theorem Nx.of_two {a w u : World} (h : Nx a w) (k : Nx a u) : ∀ p : Addr, p.block < a.heap.size → w.cell? p = u.cell? p := fun p hp => (h.cell hp).trans (k.cell hp).symm
theorem owns_nx {w w' : World} {B : Nat} {e : TypeId} {v : Value} {n : Nat} {xs : List Value} (h : w.ownsRow B e 1 v n xs) (hb : Nx w w') : w'.ownsRow B e 1 v n xs := by
  refine h.kept (row := none) ⟨hb.os, hb.tape, hb.output, hb.size, fun i hi _ => hb.block i hi⟩ ?_
  cases hv : v.ownBlock with
  | none => exact .inl rfl
  | some g => exact .inr (by simp)
theorem owns_row {w : World} {B : Nat} {ns : List Nat} {v : Value} (h : w.ownsRow B 3 1 v ns.length (ns.map vI)) (hn : 0 < ns.length) :
    ∃ A c, v = .slice A ns.length c ∧ Row w w.heap.size A ns.length (intAt ns) := by
  obtain ⟨g, cap, rfl, _, hlt⟩ := h.form hn
  refine ⟨_, cap, rfl, fun _ => ⟨g, 0, rfl, hlt, fun i hi => ?_⟩⟩
  rw [Nat.zero_add, h.cellAt i (by omega), List.getElem?_map, List.getElem?_eq_getElem hi]
  unfold intAt vI
  rw [List.getD_eq_getElem?_getD, List.getElem?_eq_getElem hi]; rfl

end Go.Proofs.Ytjefjngheolmkaa
/- Contracts of SegText, as the model and as the program have it: both answer the same text and code. Conditions: the segment can be read, and has at most 1048576 changes. -/
namespace Go.Proofs.Ytjefjngheolmkaa
set_option linter.unusedVariables false
set_option maxRecDepth 100000
open Go.RowKit

/-- The numbers of a segment's text. -/
def chN (c : Chg) : List Nat := [c.1.toNat, c.2.1.toNat, c.2.2.toNat]
def segN (f t m : Int) (cs : List Chg) : List Nat := [f.toNat, t.toNat, m.toNat] ++ cs.flatMap chN
def chV (c : Chg) : List Value := [.int .i64 c.1, .int .i64 c.2.1, .int .i64 c.2.2]
def segV (f t m : Int) (cs : List Chg) : List Value := [.int .i64 f, .int .i64 t, .int .i64 m] ++ cs.flatMap chV
theorem flat_len {α : Type} (g : Chg → List α) (hg : ∀ c, (g c).length = 3) (cs : List Chg) : (cs.flatMap g).length = 3 * cs.length := by
  induction cs with
  | nil => rfl
  | cons a l ih => simp [hg, ih]; omega
theorem segN_len (f t m : Int) (cs : List Chg) : (segN f t m cs).length = 3 + 3 * cs.length := by
  unfold segN; rw [List.length_append, flat_len chN (fun _ => rfl)]; simp
theorem segV_len (f t m : Int) (cs : List Chg) : (segV f t m cs).length = 3 + 3 * cs.length := by
  unfold segV; rw [List.length_append, flat_len chV (fun _ => rfl)]; simp
theorem segV_succ (f t m : Int) (cs : List Chg) (k : Nat) (hk : k < cs.length) {x y z : Int} (h : cs.getD k chZ = (x, y, z)) :
    segV f t m (cs.take (k + 1)) = segV f t m (cs.take k) ++ [.int .i64 x, .int .i64 y, .int .i64 z] := by
  unfold segV
  have e : cs[k] = (x, y, z) := by rw [← h, List.getD_eq_getElem?_getD, List.getElem?_eq_getElem hk]; rfl
  rw [List.take_succ_eq_append_getElem hk, List.flatMap_append, List.append_assoc, e]; simp [chV]
theorem mem_chB {cs : List Chg} (h : chsB cs = true) {c : Chg} (hc : c ∈ cs) : chB c = true := by
  obtain ⟨k, hk, rfl⟩ := List.mem_iff_getElem.1 hc
  have := chsB_to h k hk
  unfold okCh at this
  simp only [Bool.and_eq_true] at this
  have h1 := this.1
  rw [List.getD_eq_getElem?_getD, List.getElem?_eq_getElem hk] at h1
  exact h1
theorem chB_yes {c : Chg} (h : chB c = true) : (0 ≤ c.1 ∧ c.1 ≤ 7) ∧ (0 ≤ c.2.1 ∧ c.2.1 ≤ 999999) ∧ (0 ≤ c.2.2 ∧ c.2.2 ≤ 999999) := by
  unfold chB at h
  simp only [Bool.and_eq_true] at h
  exact ⟨inB_yes h.1.1, inB_yes h.1.2, inB_yes h.2⟩
theorem segB_yes {f t m : Int} {cs : List Chg} (h : segB f t m cs = true) : (0 ≤ f ∧ f ≤ 999999) ∧ (0 ≤ t ∧ t ≤ 999999) ∧ f < t ∧ (0 ≤ m ∧ m ≤ 999999) ∧ chsB cs = true := by
  unfold segB at h
  simp only [Bool.and_eq_true, decide_eq_true_eq] at h
  exact ⟨inB_yes h.1.1.1.1, inB_yes h.1.1.1.2, h.1.1.2, inB_yes h.1.2, h.2⟩
theorem segV_map {f t m : Int} {cs : List Chg} (h : segB f t m cs = true) : segV f t m cs = (segN f t m cs).map vI := by
  obtain ⟨⟨h1, _⟩, ⟨h2, _⟩, _, ⟨h3, _⟩, h4⟩ := segB_yes h
  have key : cs.flatMap chV = (cs.flatMap chN).map vI := by
    rw [List.map_flatMap]
    have e : ∀ c ∈ cs, chV c = (chN c).map vI := fun c hc => by
      obtain ⟨⟨a1, _⟩, ⟨a2, _⟩, ⟨a3, _⟩⟩ := chB_yes (mem_chB h4 hc)
      simp only [chV, chN, List.map_cons, List.map_nil, vI_toNat a1, vI_toNat a2, vI_toNat a3]
    clear h4 h
    induction cs with
    | nil => rfl
    | cons a l ih =>
      rw [List.flatMap_cons, List.flatMap_cons, e a (by simp), ih (fun c hc => e c (by simp [hc]))]
  unfold segV segN
  rw [key, List.map_append]
  simp only [List.map_cons, List.map_nil, vI_toNat h1, vI_toNat h2, vI_toNat h3]
theorem segN_all {f t m : Int} {cs : List Chg} (h : segB f t m cs = true) : All6 (segN f t m cs) := by
  obtain ⟨⟨h1, k1⟩, ⟨h2, k2⟩, _, ⟨h3, k3⟩, h4⟩ := segB_yes h
  have key : ∀ n ∈ segN f t m cs, n ≤ 999999 := by
    intro n hn
    unfold segN at hn
    rw [List.mem_append] at hn
    rcases hn with hn | hn
    · simp only [List.mem_cons, List.not_mem_nil, or_false] at hn
      omega
    · obtain ⟨c, hc, hn⟩ := List.mem_flatMap.1 hn
      obtain ⟨⟨a1, b1⟩, ⟨a2, b2⟩, ⟨a3, b3⟩⟩ := chB_yes (mem_chB h4 hc)
      simp only [chN, List.mem_cons, List.not_mem_nil, or_false] at hn
      omega
  intro k hk
  rw [List.getD_eq_getElem?_getD, List.getElem?_eq_getElem hk]
  exact key _ (List.getElem_mem hk)
theorem Own.new3 (w : World) (t : TypeId) (a b c : Value) : Own (w.alloc (.cells #[a, b, c] t)) w.heap.size t 3 (fun i => #[a, b, c].getD i undef) :=
  ⟨_, heap_alloc_new w _, by simp, fun i hi => by
    match i, hi with
    | 0, _ => rfl
    | 1, _ => rfl
    | 2, _ => rfl⟩
theorem owns_new3 (w : World) (t : TypeId) (a b c : Value) {B : Nat} (hB : B ≤ w.heap.size) : (w.alloc (.cells #[a, b, c] t)).ownsRow B t 1 (.slice (some ⟨w.heap.size, 0, none⟩) 3 3) 3 [a, b, c] :=
  ⟨rfl, .inr ⟨_, 3, #[a, b, c], rfl, hB, heap_alloc_new w _, by omega, by unfold maxLen; omega, rfl, rfl⟩⟩
def segS (f t m : Int) (cs : List Chg) : ByteArray := if segB f t m cs then sealS (numsS (segN f t m cs)) else ⟨#[]⟩

set_option maxRecDepth 100000 in
set_option maxHeartbeats 4000000 in
theorem numbers_c (f t m : Int) (A : Option Addr) (c B : Nat) (cs : List Chg) (w : World) (h : Chs w B A cs) (hB : B ≤ w.heap.size) (hn : cs.length ≤ 8) (hok : segB f t m cs = true) :
    Calls Try.prog 98 #[.agg #[.int .i64 f, .int .i64 t, .int .i64 m, .slice A cs.length c]] w fun e w' => ∃ A' c', e = .returned (.slice A' (segN f t m cs).length c') ∧ Row w' w'.heap.size A' (segN f t m cs).length (intAt (segN f t m cs)) ∧ Nx w w' := by
  obtain ⟨i0, hi0, hz0, hz1, hz2⟩ := info_parts info_int
  have HV := Lib.hid (segV_map hok)
  clear hok
  go_enter Try.func98, Try.ntmps98
  go_wp2_with fail
  have b0 := Box.new w 30 #[.int .i64 f, .int .i64 t, .int .i64 m, .slice A cs.length c]
  have hx0 := (Nx.refl w).alloc (.cells #[.int .i64 f, .int .i64 t, .int .i64 m, .slice A cs.length c] 30)
  have hsz : (w.alloc (.cells #[.int .i64 f, .int .i64 t, .int .i64 m, .slice A cs.length c] 30)).heap.size = w.heap.size + 1 := by simp
  have hw0 := owns_new3 (w.alloc (.cells #[.int .i64 f, .int .i64 t, .int .i64 m, .slice A cs.length c] 30)) 3 (.int .i64 f) (.int .i64 t) (.int .i64 m) (Nat.le_refl _)
  have hn0 := (Nx.refl (w.alloc (.cells #[.int .i64 f, .int .i64 t, .int .i64 m, .slice A cs.length c] 30))).alloc (.cells #[.int .i64 f, .int .i64 t, .int .i64 m] 3)
  generalize w.alloc (.cells #[.int .i64 f, .int .i64 t, .int .i64 m, .slice A cs.length c] 30) = W at *
  rw [hsz] at hw0
  have Hsz := Lib.hid hsz
  clear hsz
  go_loopw [3, 16] (fun s i wr => ∃ (k : Nat) (v : Value), k ≤ cs.length ∧ i = .int .i64 k ∧ v = s ∧ wr.ownsRow W.heap.size 3 1 v (3 + 3 * k) (segV f t m (cs.take k)) ∧ Nx W wr) (fun _ i _ => cs.length - (intOf i).toNat)
  case atStart => exact ⟨0, _, Nat.zero_le _, rfl, rfl, by rw [Hsz.out]; exact hw0, hn0⟩
  case round =>
    obtain ⟨k, v, hk, rfl, rfl, hw, hnx⟩ := hrel
    clear hw0 hn0
    by_cases hlt : k < cs.length
    · obtain ⟨b, off, rfl, hb, k0, k1, k2⟩ := (h.below (hx0.trans hnx) hB).at_ hlt
      obtain ⟨⟨q0, q1, q2⟩, Hq⟩ : ∃ q, Hid (cs.getD k chZ = q) := ⟨_, rfl⟩
      rw [Hq.out] at k0 k1 k2
      have hw1 := (hw.alloc (.cells #[.int .i64 q0, .int .i64 q1, .int .i64 q2] 75)).alloc (.cells #[.int .i64 q0, .int .i64 q1, .int .i64 q2] 3)
      have ho1 := Own.new3 (wr.alloc (.cells #[.int .i64 q0, .int .i64 q1, .int .i64 q2] 75)) 3 (.int .i64 q0) (.int .i64 q1) (.int .i64 q2)
      have hx1 := (hnx.alloc (.cells #[.int .i64 q0, .int .i64 q1, .int .i64 q2] 75)).alloc (.cells #[.int .i64 q0, .int .i64 q1, .int .i64 q2] 3)
      simp only [World.size_alloc] at ho1
      have HN : Hid (∀ j u, [Value.int .i64 q0, .int .i64 q1, .int .i64 q2][j]? = some u → ((wr.alloc (.cells #[.int .i64 q0, .int .i64 q1, .int .i64 q2] 75)).alloc (.cells #[.int .i64 q0, .int .i64 q1, .int .i64 q2] 3)).cell? ((Addr.mk (wr.heap.size + 1) 0 none).add j) = some u) := Lib.hid (fun j u hj => by
        rcases j with _ | _ | _ | j
        · injection hj with hj; subst hj; exact (ho1.cell (i := 0) (by omega))
        · injection hj with hj; subst hj; exact (ho1.cell (i := 1) (by omega))
        · injection hj with hj; subst hj; exact (ho1.cell (i := 2) (by omega))
        · simp at hj)
      have HO : Hid (∀ u ∈ [Value.int .i64 q0, .int .i64 q1, .int .i64 q2], u.oneCell' = true) := Lib.hid (fun u hu => by simp only [List.mem_cons, List.not_mem_nil, or_false] at hu; rcases hu with rfl | rfl | rfl <;> rfl)
      go_wp2_with (at_builtin; refine wpList_append_own _ rfl _ _ 34 rfl W.heap.size 3 i0 _ 1 8 Try.underlying34 hi0 hz0 hz1 hz2 rfl (by omega) v (3 + 3 * k) _ rfl hw1 ⟨wr.heap.size + 1, 0, none⟩ 3 3 [.int .i64 q0, .int .i64 q1, .int .i64 q2] rfl rfl HN.out HO.out ?c3 ?c4 ?c5 ?_)
      case c3 => unfold maxLen; omega
      case c4 => omega
      case c5 => have := hx1.size; simp only [World.size_alloc] at this ⊢; omega
      intro v2 w2 hw2 hg2 _
      have hx2 : Nx W w2 := Below.grown hx1 hg2 hx1.size (fun k hk => (hw1.lt k hk).1)
      go_wp2
      go_roundw
      case rel =>
        refine ⟨k + 1, _, by omega, by go_num, rfl, ?_, hx2⟩
        rw [segV_succ f t m cs k hlt Hq.out]
        exact hw2
      case measure => simp [intOf]; omega
    · obtain rfl : k = cs.length := by omega
      rw [List.take_length, HV.out] at hw
      have hl := segN_len f t m cs
      rw [← hl] at hw
      obtain ⟨A', c', rfl, hrow⟩ := owns_row hw (by omega)
      clear hl hw
      go_wp2
      go_ret
      exact ⟨A', c', rfl, hrow, hx0.trans hnx⟩
set_option maxRecDepth 100000 in
set_option maxHeartbeats 4000000 in
theorem l02Text_c (f t m : Int) (A : Option Addr) (c B : Nat) (cs : List Chg) (w : World) (h : Chs w B A cs) (hB : B ≤ w.heap.size) (hn : cs.length ≤ 8) (hok : segB f t m cs = true) :
    Calls Try.prog 49 #[.agg #[.int .i64 f, .int .i64 t, .int .i64 m, .slice A cs.length c]] w fun e w' => e = .returned (.string (sealS (numsS (segN f t m cs)))) ∧ Nx w w' := by
  obtain ⟨i0, hi0, hz0, hz1, hz2⟩ := info_parts info_int
  have HV := Lib.hid (segV_map hok)
  have h6 := segN_all hok
  clear hok
  go_enter Try.func49, Try.ntmps49
  go_wp2_with fail
  have b0 := Box.new w 30 #[.int .i64 f, .int .i64 t, .int .i64 m, .slice A cs.length c]
  have hx0 := (Nx.refl w).alloc (.cells #[.int .i64 f, .int .i64 t, .int .i64 m, .slice A cs.length c] 30)
  have hsz : (w.alloc (.cells #[.int .i64 f, .int .i64 t, .int .i64 m, .slice A cs.length c] 30)).heap.size = w.heap.size + 1 := by simp
  have hw0 := owns_new3 (w.alloc (.cells #[.int .i64 f, .int .i64 t, .int .i64 m, .slice A cs.length c] 30)) 3 (.int .i64 f) (.int .i64 t) (.int .i64 m) (Nat.le_refl _)
  have hn0 := (Nx.refl (w.alloc (.cells #[.int .i64 f, .int .i64 t, .int .i64 m, .slice A cs.length c] 30))).alloc (.cells #[.int .i64 f, .int .i64 t, .int .i64 m] 3)
  generalize w.alloc (.cells #[.int .i64 f, .int .i64 t, .int .i64 m, .slice A cs.length c] 30) = W at *
  rw [hsz] at hw0
  have Hsz := Lib.hid hsz
  clear hsz
  go_loopw [3, 4] (fun s i wr => ∃ (k : Nat) (v : Value), k ≤ cs.length ∧ i = .int .i64 k ∧ v = s ∧ wr.ownsRow W.heap.size 3 1 v (3 + 3 * k) (segV f t m (cs.take k)) ∧ Nx W wr) (fun _ i _ => cs.length - (intOf i).toNat)
  case atStart => exact ⟨0, _, Nat.zero_le _, rfl, rfl, by rw [Hsz.out]; exact hw0, hn0⟩
  case round =>
    obtain ⟨k, v, hk, rfl, rfl, hw, hnx⟩ := hrel
    obtain ⟨_, _, _, c3⟩ := (b0.nx hnx).d4
    clear hw0 hn0
    by_cases hlt : k < cs.length
    · obtain ⟨b, off, rfl, hb, k0, k1, k2⟩ := (h.below (hx0.trans hnx) hB).at_ hlt
      obtain ⟨⟨q0, q1, q2⟩, Hq⟩ : ∃ q, Hid (cs.getD k chZ = q) := ⟨_, rfl⟩
      rw [Hq.out] at k0 k1 k2
      have hbw : b < W.heap.size := by have := hx0.size; omega
      have hbv : w.heap.size < W.heap.size := b0.lt
      go_wp2_with fail
      refine wp_region_lex [false, false, false, false, false, false, false, false, false, false, false, false, false, false, false, false, false, false, false, true, true, false] (fun w' => w'.cell? ⟨w.heap.size, 3, none⟩ = some (.slice (some ⟨b, off, none⟩) cs.length c) ∧ w'.cell? ⟨b, off + k * 3, none⟩ = some (.int .i64 q0) ∧ w'.cell? ⟨b, off + k * 3 + 1, none⟩ = some (.int .i64 q1) ∧ w'.cell? ⟨b, off + k * 3 + 2, none⟩ = some (.int .i64 q2)) (by kernel_rfl) (by kernel_rfl) rfl (by kernel_rfl) (fun _ _ d _ _ h => by cases d <;> exact h) (by exact ⟨c3, k0, k1, k2⟩) ?_
      repeat (first | (refine HL.take (v := ?_) (by rfl) ?_ ?_; rotate_left; (· (intro w hSw; (try dsimp only at hSw); go_simp; try with_reducible rfl)); (try simp only [Act.put, List.setIfInBounds_toArray, List.set_cons_zero, List.set_cons_succ])) | (refine HL.skip (by rfl) ?_; (try simp only [Act.put, List.setIfInBounds_toArray, List.set_cons_zero, List.set_cons_succ])))
      refine HL.call (by rfl) (fun K hK => ?_)
      go_simp
      have hn1 : Nx wr.drew (wr.drew.alloc (.cells #[.int .i64 q0, .int .i64 q1, .int .i64 q2] 3)) := (Nx.refl _).alloc _
      change K _ (wr.drew.alloc _)
      have ho1 := Own.new3 wr.drew 3 (.int .i64 q0) (.int .i64 q1) (.int .i64 q2)
      have hw1 := (hw.drew).alloc (.cells #[.int .i64 q0, .int .i64 q1, .int .i64 q2] 3)
      have hx1 := hnx.drew.trans hn1
      refine hK.out _ _ (by exact ⟨(hx1.of_two hnx ⟨w.heap.size, 3, none⟩ hbv).trans c3, (hx1.of_two hnx ⟨b, off + k * 3, none⟩ hbw).trans k0, (hx1.of_two hnx ⟨b, off + k * 3 + 1, none⟩ hbw).trans k1, (hx1.of_two hnx ⟨b, off + k * 3 + 2, none⟩ hbw).trans k2⟩) ?_
      generalize wr.drew.alloc (.cells #[.int .i64 q0, .int .i64 q1, .int .i64 q2] 3) = wz at *
      clear hK K
      try simp only [Act.put, List.setIfInBounds_toArray, List.set_cons_zero, List.set_cons_succ]
      refine HL.call (by rfl) (fun K hK => ?_)
      refine wp_append_own wz _ _ 34 rfl W.heap.size 3 i0 _ 1 8 Try.underlying34 hi0 hz0 hz1 hz2 rfl (by omega) v (3 + 3 * k) _ rfl hw1 ⟨wr.heap.size, 0, none⟩ 3 3 [.int .i64 q0, .int .i64 q1, .int .i64 q2] rfl rfl (fun j u hj => ?_) (fun u hu => ?_) (by unfold maxLen; omega) (by omega) (by have := hx1.size; omega) ?_
      · rcases j with _ | _ | _ | j
        · injection hj with hj; subst hj; exact (ho1.cell (i := 0) (by omega))
        · injection hj with hj; subst hj; exact (ho1.cell (i := 1) (by omega))
        · injection hj with hj; subst hj; exact (ho1.cell (i := 2) (by omega))
        · simp at hj
      · simp only [List.mem_cons, List.not_mem_nil, or_false] at hu; rcases hu with rfl | rfl | rfl <;> rfl
      intro v2 w2 hw2 hg2 _
      have hx2 : Nx W w2 := Below.grown hx1 hg2 hx1.size (fun k hk => (hw1.lt k hk).1)
      refine hK.out _ _ (by exact ⟨(hx2.of_two hnx ⟨w.heap.size, 3, none⟩ hbv).trans c3, (hx2.of_two hnx ⟨b, off + k * 3, none⟩ hbw).trans k0, (hx2.of_two hnx ⟨b, off + k * 3 + 1, none⟩ hbw).trans k1, (hx2.of_two hnx ⟨b, off + k * 3 + 2, none⟩ hbw).trans k2⟩) ?_
      clear hK K
      try simp only [Act.put, List.setIfInBounds_toArray, List.set_cons_zero, List.set_cons_succ]
      repeat (first | (refine HL.take (v := ?_) (by rfl) ?_ ?_; rotate_left; (· (intro w hSw; (try dsimp only at hSw); go_simp; try with_reducible rfl)); (try simp only [Act.put, List.setIfInBounds_toArray, List.set_cons_zero, List.set_cons_succ])) | (refine HL.skip (by rfl) ?_; (try simp only [Act.put, List.setIfInBounds_toArray, List.set_cons_zero, List.set_cons_succ])))
      refine HL.done ?_
      go_wp2
      go_roundw
      case rel =>
        refine ⟨k + 1, _, by omega, by go_num, rfl, ?_, hx2⟩
        rw [segV_succ f t m cs k hlt Hq.out]
        exact hw2
      case measure => simp [intOf]; omega
    · obtain rfl : k = cs.length := by omega
      rw [List.take_length, HV.out] at hw
      have hl := segN_len f t m cs
      rw [← hl] at hw
      obtain ⟨A', c', rfl, hrow⟩ := owns_row hw (by omega)
      have Hl := Lib.hid hl
      clear hl hw
      go_wp2_with fail
      refine (l02Join_c A' c' _ (segN f t m cs) _ hrow (Nat.le_refl _) h6 (by have := Hl.out; omega)).mono ?_
      rintro e w1 ⟨rfl, hnx1⟩
      go_wp2_with fail
      refine (l02Seal_c (numsS (segN f t m cs)) _ (by rw [numsS_size]; have := Hl.out; omega)).mono ?_
      rintro e w2 ⟨rfl, hnx2⟩
      go_wp2
      go_ret
      exact ⟨rfl, ((hx0.trans hnx).trans hnx1).trans hnx2⟩
set_option maxHeartbeats 2000000 in
theorem specSegText_c (f t m : Int) (A : Option Addr) (c B : Nat) (cs : List Chg) (w : World) (h : Chs w B A cs) (hB : B ≤ w.heap.size) (hn : cs.length ≤ 1048576) :
    Calls Try.prog 11 #[.agg #[.int .i64 f, .int .i64 t, .int .i64 m, .slice A cs.length c]] w fun e w' => e = .returned (.tuple #[.string (segS f t m cs), .int .i64 (codeB (segB f t m cs) 1)]) ∧ Nx w w' := by
  cases hf : segB f t m cs with
  | false =>
    have HF := Lib.hid hf
    have HS := Lib.hid (show (⟨#[]⟩ : ByteArray) = segS f t m cs by unfold segS; rw [hf]; rfl)
    clear hf
    go_enter Try.func11, Try.ntmps11
    go_wp2_with fail
    refine (specSegOK_c f t m A c B cs _ (h.below ((Nx.refl w).alloc _) hB) (Nat.le_trans hB (by simp)) hn).mono ?_
    rintro e w1 ⟨rfl, hnx1⟩
    rw [HF.out]
    go_wp2
    go_ret2
    exact ⟨ret_tup HS.out rfl, ((Nx.refl w).alloc _).trans hnx1⟩
  | true =>
    have HF := Lib.hid hf
    have hl8 := chsB_len (segB_yes hf).2.2.2.2
    have HS := Lib.hid (show sealS (numsS (segN f t m cs)) = segS f t m cs by unfold segS; rw [hf]; rfl)
    clear hf
    go_enter Try.func11, Try.ntmps11
    go_wp2_with fail
    have b0 := Box.new w 30 #[.int .i64 f, .int .i64 t, .int .i64 m, .slice A cs.length c]
    have hx0 := (Nx.refl w).alloc (.cells #[.int .i64 f, .int .i64 t, .int .i64 m, .slice A cs.length c] 30)
    generalize w.alloc (.cells #[.int .i64 f, .int .i64 t, .int .i64 m, .slice A cs.length c] 30) = W at *
    refine (specSegOK_c f t m A c B cs _ (h.below hx0 hB) (Nat.le_trans hB hx0.size) hn).mono ?_
    rintro e w1 ⟨rfl, hnx1⟩
    rw [HF.out]
    obtain ⟨c0, c1, c2, c3⟩ := (b0.nx hnx1).d4
    have hx1 := hx0.trans hnx1
    go_wp2_with fail
    refine (l02Text_c f t m A c B cs _ (h.below hx1 hB) (Nat.le_trans hB hx1.size) hl8 HF.out).mono ?_
    rintro e w2 ⟨rfl, hnx2⟩
    have hxz := hx1.trans hnx2
    go_wp2
    go_ret2
    exact ⟨ret_tup HS.out rfl, hxz⟩
set_option maxHeartbeats 2000000 in
/-- The text of a right segment, as the program makes it. -/
theorem segTextM_c (f t m : Int) (A : Option Addr) (c B : Nat) (cs : List Chg) (w : World) (h : Chs w B A cs) (hB : B ≤ w.heap.size) (hf : segB f t m cs = true) :
    Calls Try.prog 52 #[.agg #[.int .i64 f, .int .i64 t, .int .i64 m, .slice A cs.length c]] w fun e w' => e = .returned (.string (sealS (numsS (segN f t m cs)))) ∧ Nx w w' := by
  have HF := Lib.hid hf
  have hl8 := chsB_len (segB_yes hf).2.2.2.2
  clear hf
  have b0 := Box.new w 30 #[.int .i64 f, .int .i64 t, .int .i64 m, .slice A cs.length c]
  have hx0 := (Nx.refl w).alloc (.cells #[.int .i64 f, .int .i64 t, .int .i64 m, .slice A cs.length c] 30)
  go_enter Try.func52, Try.ntmps52
  go_wp2_with fail
  generalize w.alloc (.cells #[.int .i64 f, .int .i64 t, .int .i64 m, .slice A cs.length c] 30) = W at *
  obtain ⟨c0, c1, c2, c3⟩ := b0.d4
  refine (numbers_c f t m A c B cs _ (h.below hx0 hB) (Nat.le_trans hB hx0.size) hl8 HF.out).mono ?_
  rintro e w2 ⟨A', c', rfl, hrow, hnx2⟩
  have Hl := Lib.hid (segN_len f t m cs)
  go_wp2_with fail
  refine (numbersText_c A' c' _ (segN f t m cs) _ hrow (Nat.le_refl _) (segN_all HF.out) (by have := Hl.out; omega) (by have := Hl.out; omega)).mono ?_
  rintro e w3 ⟨rfl, hnx3⟩
  go_wp2_with fail
  refine (sealed_c (numsS (segN f t m cs)) _ (by rw [numsS_size]; have := Hl.out; omega)).mono ?_
  rintro e w4 ⟨rfl, hnx4⟩
  have hxz := ((hx0.trans hnx2).trans hnx3).trans hnx4
  go_wp2
  go_ret
  exact ⟨rfl, hxz⟩
set_option maxHeartbeats 2000000 in
theorem implSegText_c (f t m : Int) (A : Option Addr) (c B : Nat) (cs : List Chg) (w : World) (h : Chs w B A cs) (hB : B ≤ w.heap.size) (hn : cs.length ≤ 1048576) :
    Calls Try.prog 13 #[.agg #[.int .i64 f, .int .i64 t, .int .i64 m, .slice A cs.length c]] w fun e w' => e = .returned (.tuple #[.string (segS f t m cs), .int .i64 (codeB (segB f t m cs) 1)]) ∧ Nx w w' := by
  cases hf : segB f t m cs with
  | false =>
    have HF := Lib.hid hf
    have HS := Lib.hid (show (⟨#[]⟩ : ByteArray) = segS f t m cs by unfold segS; rw [hf]; rfl)
    clear hf
    go_enter Try.func13, Try.ntmps13
    go_wp2_with fail
    refine (segRight_c f t m A c B cs _ (h.below ((Nx.refl w).alloc _) hB) (Nat.le_trans hB (by simp)) hn).mono ?_
    rintro e w1 ⟨rfl, hnx1⟩
    rw [HF.out]
    go_wp2
    go_ret2
    exact ⟨ret_tup HS.out rfl, ((Nx.refl w).alloc _).trans hnx1⟩
  | true =>
    have HF := Lib.hid hf
    have hl8 := chsB_len (segB_yes hf).2.2.2.2
    have HS := Lib.hid (show sealS (numsS (segN f t m cs)) = segS f t m cs by unfold segS; rw [hf]; rfl)
    clear hf
    go_enter Try.func13, Try.ntmps13
    go_wp2_with fail
    have b0 := Box.new w 30 #[.int .i64 f, .int .i64 t, .int .i64 m, .slice A cs.length c]
    have hx0 := (Nx.refl w).alloc (.cells #[.int .i64 f, .int .i64 t, .int .i64 m, .slice A cs.length c] 30)
    generalize w.alloc (.cells #[.int .i64 f, .int .i64 t, .int .i64 m, .slice A cs.length c] 30) = W at *
    refine (segRight_c f t m A c B cs _ (h.below hx0 hB) (Nat.le_trans hB hx0.size) hn).mono ?_
    rintro e w1 ⟨rfl, hnx1⟩
    rw [HF.out]
    obtain ⟨c0, c1, c2, c3⟩ := (b0.nx hnx1).d4
    have hx1 := hx0.trans hnx1
    go_wp2_with fail
    refine (segTextM_c f t m A c B cs _ (h.below hx1 hB) (Nat.le_trans hB hx1.size) HF.out).mono ?_
    rintro e w2 ⟨rfl, hnx2⟩
    have hxz := hx1.trans hnx2
    go_wp2
    go_ret2
    exact ⟨ret_tup HS.out rfl, hxz⟩
end Go.Proofs.Ytjefjngheolmkaa
/- The walk of the law FnExactSegText. Conditions: the segment that comes in can be read. -/
namespace Go.Proofs.Ytjefjngheolmkaa
set_option linter.unusedVariables false
set_option maxRecDepth 100000
open Go.RowKit

set_option maxRecDepth 100000 in
set_option maxHeartbeats 4000000 in
theorem lawSegText (f t m : Int) (A : Option Addr) (c : Nat) (cs : List Chg) (w : World) (h : Chs w w.heap.size A cs) (hn : cs.length ≤ 2 ^ 63 - 1) :
    Calls Try.prog 3 #[.agg #[.int .i64 f, .int .i64 t, .int .i64 m, .slice A cs.length c]] w fun e w' => e = .returned (.bool true) ∧ Nx w w' := by
  obtain ⟨s, Hs⟩ : ∃ s, Hid (segS f t m cs = s) := ⟨_, rfl⟩
  obtain ⟨cd, Hk⟩ : ∃ k, Hid (codeB (segB f t m cs) 1 = k) := ⟨_, rfl⟩
  go_enter Try.func3, Try.ntmps3
  go_wp2_with fail
  have b0 := Box.new w 24 #[.int .i64 f, .int .i64 t, .int .i64 m, .slice A cs.length c]
  have hx0 := (Nx.refl w).alloc (.cells #[.int .i64 f, .int .i64 t, .int .i64 m, .slice A cs.length c] 24)
  generalize w.alloc (.cells #[.int .i64 f, .int .i64 t, .int .i64 m, .slice A cs.length c] 24) = W at *
  refine (szSeg_c f t m A cs.length c _ _ hn (by omega) (by omega)).mono ?_
  rintro e w1 ⟨rfl, hnx1⟩
  by_cases hle : (cs.length : Int) ≤ 1048576
  case neg =>
    rw [← szR_no (by omega)]
    go_wp2
    go_ret
    exact ⟨rfl, hx0.trans hnx1⟩
  rw [← szR_yes hle]
  have hn' : cs.length ≤ 1048576 := by omega
  have hd : decide (1048576 - (cs.length : Int) < 0) = false := by simp; omega
  have b1 := b0.nx hnx1
  obtain ⟨c0, c1, c2, c3⟩ := b1.d4
  have hx1 := hx0.trans hnx1
  clear b0 hx0 hnx1
  go_wp2_with fail
  refine (toSeg_c f t m A c w.heap.size cs _ (h.below hx1 (Nat.le_refl _)) hx1.size hn').mono ?_
  rintro e w2 ⟨A2, k2, rfl, hS2, hnx2⟩
  go_wp2_with fail
  refine (specSegText_c f t m A2 k2 _ cs _ hS2.row (Nat.le_refl _) hn').mono ?_
  rintro e w3 ⟨rfl, hnx3⟩
  rw [Hs.out, Hk.out]
  have b3 := (b1.nx hnx2).nx hnx3
  have hx3 := (hx1.trans hnx2).trans hnx3
  clear c0 c1 c2 c3 b1 hx1 hS2 hnx2 hnx3
  obtain ⟨c0, c1, c2, c3⟩ := b3.d4
  go_wp2_with fail
  refine (toSeg_c f t m A c w.heap.size cs _ (h.below hx3 (Nat.le_refl _)) hx3.size hn').mono ?_
  rintro e w4 ⟨A3, k3, rfl, hS3, hnx4⟩
  go_wp2_with fail
  have bx := Box.new w4 30 #[.int .i64 f, .int .i64 t, .int .i64 m, .slice A3 cs.length k3]
  have b4 := (b3.nx hnx4).alloc (.cells #[.int .i64 f, .int .i64 t, .int .i64 m, .slice A3 cs.length k3] 30)
  have hx4 := (hx3.trans hnx4).alloc (.cells #[.int .i64 f, .int .i64 t, .int .i64 m, .slice A3 cs.length k3] 30)
  have hSx := hS3.nx ((Nx.refl w4).alloc (.cells #[.int .i64 f, .int .i64 t, .int .i64 m, .slice A3 cs.length k3] 30))
  generalize w4.alloc (.cells #[.int .i64 f, .int .i64 t, .int .i64 m, .slice A3 cs.length k3] 30) = W4 at *
  clear c0 c1 c2 c3 b3 hx3 hS3 hnx4
  refine (implSegText_c f t m A3 k3 _ cs _ hSx.row (Nat.le_refl _) hn').mono ?_
  rintro e w5 ⟨rfl, hnx5⟩
  rw [Hs.out, Hk.out]
  replace bx := bx.nx hnx5
  have b5 := b4.nx hnx5
  have hx5 := hx4.trans hnx5
  replace hSx := hSx.nx hnx5
  clear b4 hx4 hnx5
  go_wp2_with fail
  refine wp_region_lex [false, false, true, true, false] (fun w' => (w'.cell? ⟨w4.heap.size, 0, none⟩ = some (.int .i64 f) ∧ w'.cell? ⟨w4.heap.size, 1, none⟩ = some (.int .i64 t) ∧ w'.cell? ⟨w4.heap.size, 2, none⟩ = some (.int .i64 m) ∧ w'.cell? ⟨w4.heap.size, 3, none⟩ = some (.slice A3 cs.length k3)) ∧ (w'.cell? ⟨w.heap.size, 0, none⟩ = some (.int .i64 f) ∧ w'.cell? ⟨w.heap.size, 1, none⟩ = some (.int .i64 t) ∧ w'.cell? ⟨w.heap.size, 2, none⟩ = some (.int .i64 m) ∧ w'.cell? ⟨w.heap.size, 3, none⟩ = some (.slice A cs.length c))) (by kernel_rfl) (by kernel_rfl) rfl (by kernel_rfl) (fun _ _ d _ _ h => by cases d <;> exact h) (by exact ⟨bx.d4, b5.d4⟩) ?_
  repeat (first | (refine HL.take (v := ?_) (by rfl) ?_ ?_; rotate_left; (· (intro w hSw; (try dsimp only at hSw); go_simp; try with_reducible rfl)); (try simp only [Act.put, List.setIfInBounds_toArray, List.set_cons_zero, List.set_cons_succ])) | (refine HL.skip (by rfl) ?_; (try simp only [Act.put, List.setIfInBounds_toArray, List.set_cons_zero, List.set_cons_succ])))
  refine HL.call (by rfl) (fun K hK => ?_)
  go_simp
  refine (toSeg_c f t m A c w.heap.size cs _ (h.below hx5.drew (Nat.le_refl _)) hx5.drew.size hn').mono ?_; rintro e v1 ⟨A9, k9, rfl, hS9, hn9⟩; have bx1 := bx.nx (Nx.drew_r hn9); have bb1 := b5.nx (Nx.drew_r hn9)
  go_wp2_with fail
  refine hK.out _ _ (by exact ⟨bx1.d4, bb1.d4⟩) ?_
  clear hK K
  try simp only [Act.put, List.setIfInBounds_toArray, List.set_cons_zero, List.set_cons_succ]
  refine HL.call (by rfl) (fun K hK => ?_)
  go_simp
  refine (eqSeg_c f t m A3 A9 k3 k9 _ cs _ (hSx.nx (Nx.drew_r hn9)).row hS9.row (Nat.le_refl _) hn').mono ?_; rintro e v2 ⟨rfl, hn10⟩; have bx2 := bx1.nx hn10; have bb2 := bb1.nx hn10
  go_wp2_with fail
  refine hK.out _ _ (by exact ⟨bx2.d4, bb2.d4⟩) ?_
  clear hK K
  try simp only [Act.put, List.setIfInBounds_toArray, List.set_cons_zero, List.set_cons_succ]
  repeat (first | (refine HL.take (v := ?_) (by rfl) ?_ ?_; rotate_left; (· (intro w hSw; (try dsimp only at hSw); go_simp; try with_reducible rfl)); (try simp only [Act.put, List.setIfInBounds_toArray, List.set_cons_zero, List.set_cons_succ])) | (refine HL.skip (by rfl) ?_; (try simp only [Act.put, List.setIfInBounds_toArray, List.set_cons_zero, List.set_cons_succ])))
  refine HL.done ?_
  go_wp2
  go_ret
  exact ⟨rfl, (hx5.drew.trans hn9).trans hn10⟩
end Go.Proofs.Ytjefjngheolmkaa
/- Words on marks and supers: lists of marks in memory; contracts of the laws' functions that count, make and compare them; a super that comes in, opened. Conditions: what is counted, copied or compared can be read; copied and compared: it has at most 1048576 elements of a kind. -/
namespace Go.Proofs.Ytjefjngheolmkaa
set_option linter.unusedVariables false
set_option maxRecDepth 100000
open Go.Joins Go.ChangeShapes Go.WideShapes Go.RowKit Go.Deep

/-- A mark: its name, its position. -/
abbrev Mrk := ByteArray × Int
def mrZ : Mrk := (ByteArray.empty, 0)
def mrAt (ms : List Mrk) (i : Nat) : Value := if i % 2 = 0 then .string (ms.getD (i / 2) mrZ).1 else .int .i64 (ms.getD (i / 2) mrZ).2
theorem mrAt0 (ms : List Mrk) (k : Nat) : mrAt ms (k * 2) = .string (ms.getD k mrZ).1 := by
  unfold mrAt; rw [if_pos (by omega), show k * 2 / 2 = k by omega]
theorem mrAt1 (ms : List Mrk) (k : Nat) : mrAt ms (k * 2 + 1) = .int .i64 (ms.getD k mrZ).2 := by
  unfold mrAt; rw [if_neg (by omega), show (k * 2 + 1) / 2 = k by omega]
/-- A list of marks that is read. -/
def Mks (w : World) (B : Nat) (A : Option Addr) (ms : List Mrk) : Prop := Row w B A (ms.length * 2) (mrAt ms)
theorem Mks.below {w w' : World} {B B' : Nat} {A : Option Addr} {ms : List Mrk} (h : Mks w B A ms) (hb : Below B' w w') (hB : B ≤ B') : Mks w' B A ms := Row.below h hb hB
theorem Mks.more {w : World} {B B' : Nat} {A : Option Addr} {ms : List Mrk} (h : Mks w B A ms) (hB : B ≤ B') : Mks w B' A ms := Row.more h hB
theorem Mks.at_ {w : World} {B k : Nat} {A : Option Addr} {ms : List Mrk} (h : Mks w B A ms) (hk : k < ms.length) :
    ∃ b off, A = some ⟨b, off, none⟩ ∧ b < B ∧ w.cell? ⟨b, off + k * 2, none⟩ = some (.string (ms.getD k mrZ).1) ∧ w.cell? ⟨b, off + k * 2 + 1, none⟩ = some (.int .i64 (ms.getD k mrZ).2) := by
  obtain ⟨b, off, e, hb, hc⟩ := h (by omega)
  have h0 := hc (k * 2) (by omega)
  have h1 := hc (k * 2 + 1) (by omega)
  rw [mrAt0] at h0
  rw [mrAt1] at h1
  exact ⟨b, off, e, hb, h0, h1⟩
/-- A list of marks in a block of the call's own. -/
abbrev SlM (w : World) (lo : Nat) (A : Option Addr) (ms : List Mrk) : Prop := Sl w lo A 122 (ms.length * 2) (mrAt ms)
def RetM (w : World) (ms : List Mrk) (e : Ending) (w' : World) : Prop := ∃ (A : Option Addr) (c : Nat), e = .returned (.slice A ms.length c) ∧ SlM w' w.heap.size A ms ∧ Nx w w'
/-- What a function leaves that answers a super in new memory. -/
def RetU (w : World) (g b p t : Int) (xs : List Int) (ms : List Mrk) (e : Ending) (w' : World) : Prop :=
  ∃ (A : Option Addr) (c : Nat) (A2 : Option Addr) (c2 : Nat), e = .returned (.agg #[.int .i64 g, .int .i64 b, .int .i64 p, .int .i64 t, .slice A xs.length c, .slice A2 ms.length c2]) ∧ xs.length ≤ c ∧ SlI w' w.heap.size A xs ∧ SlM w' w.heap.size A2 ms ∧ Nx w w'
theorem Box.d6 {w : World} {g : Nat} {t : TypeId} {v0 v1 v2 v3 v4 v5 : Value} (h : Box w g t #[v0, v1, v2, v3, v4, v5]) :
    w.cell? ⟨g, 0, none⟩ = some v0 ∧ w.cell? ⟨g, 1, none⟩ = some v1 ∧ w.cell? ⟨g, 2, none⟩ = some v2 ∧ w.cell? ⟨g, 3, none⟩ = some v3 ∧ w.cell? ⟨g, 4, none⟩ = some v4 ∧ w.cell? ⟨g, 5, none⟩ = some v5 :=
  ⟨h.cell 0, h.cell 1, h.cell 2, h.cell 3, h.cell 4, h.cell 5⟩

def lenM (ms : List Mrk) : Nat := (ms.map fun x => x.1.size).sum
def lenMTo (ms : List Mrk) (k : Nat) : Nat := ((ms.map fun x => x.1.size).take k).sum
theorem lenMTo_zero (ms : List Mrk) : lenMTo ms 0 = 0 := rfl
theorem lenMTo_le (ms : List Mrk) (k : Nat) : lenMTo ms k ≤ lenM ms := sum_take_le _ _
theorem lenMTo_all (ms : List Mrk) : lenMTo ms ms.length = lenM ms := by
  unfold lenMTo lenM; rw [List.take_of_length_le (by simp)]
theorem lenMTo_succ (ms : List Mrk) (k : Nat) (h : k < ms.length) : lenMTo ms (k + 1) = lenMTo ms k + (ms.getD k mrZ).1.size := by
  unfold lenMTo
  rw [sum_take_succ _ _ (by simpa using h), List.getD_eq_getElem?_getD, List.getElem?_eq_getElem h]; simp
def AllM (ms : List Mrk) : Prop := ∀ k, (ms.getD k mrZ).1.size ≤ 2 ^ 63 - 1

set_option maxRecDepth 100000 in
set_option maxHeartbeats 1000000 in
theorem szIntS_c (A : Option Addr) (n c : Nat) (left : Int) (w : World) (hn : n ≤ 2 ^ 63 - 1) (h0 : 0 ≤ left) (h1 : left ≤ 1048576) :
    Calls Try.prog 63 #[.slice A n c, .int .i64 left] w fun e w' => e = .returned (.int .i64 (szR left n)) ∧ w = w' := by
  by_cases hle : (n : Int) ≤ left
  · have HF := Lib.hid (szR_yes hle)
    have hd : decide (left - (n : Int) < 0) = false := by simp; omega
    go_enter Try.func63, Try.ntmps63
    go_wp2
    go_ret
    exact ⟨ret_int HF.out, rfl⟩
  · have HF := Lib.hid (szR_no (left := left) (cost := n) (by omega))
    have hd : decide (left - (n : Int) < 0) = true := by simp; omega
    go_enter Try.func63, Try.ntmps63
    go_wp2
    go_ret
    exact ⟨ret_int HF.out, rfl⟩
set_option maxRecDepth 100000 in
set_option maxHeartbeats 1000000 in
theorem szMark_c (a : Int) (s : ByteArray) (left : Int) (w : World) (hm : s.size ≤ 2 ^ 63 - 1) (h0 : 0 ≤ left) (h1 : left ≤ 1048576) :
    Calls Try.prog 101 #[.agg #[.string s, .int .i64 a], .int .i64 left] w fun e w' => e = .returned (.int .i64 (szR left s.size)) ∧ Nx w w' := by
  by_cases hle : (s.size : Int) ≤ left
  · have HF := Lib.hid (szR_yes hle)
    have hd : decide (left - (s.size : Int) < 0) = false := by simp; omega
    go_enter Try.func101, Try.ntmps101
    go_wp2
    go_ret
    exact ⟨ret_int HF.out, (Nx.refl _).alloc _⟩
  · have HF := Lib.hid (szR_no (left := left) (cost := s.size) (by omega))
    have hd : decide (left - (s.size : Int) < 0) = true := by simp; omega
    go_enter Try.func101, Try.ntmps101
    go_wp2
    go_ret
    exact ⟨ret_int HF.out, (Nx.refl _).alloc _⟩
set_option maxRecDepth 100000 in
set_option maxHeartbeats 1000000 in
theorem szMarkS_c (A : Option Addr) (c B : Nat) (ms : List Mrk) (left : Int) (w : World) (h : Mks w B A ms) (hB : B ≤ w.heap.size) (hm : AllM ms) (hn : ms.length ≤ 2 ^ 63 - 1) (h0 : 0 ≤ left) (h1 : left ≤ 1048576) :
    Calls Try.prog 64 #[.slice A ms.length c, .int .i64 left] w fun e w' => e = .returned (.int .i64 (szR left (ms.length + lenM ms))) ∧ Nx w w' := by
  by_cases hle : (ms.length : Int) ≤ left
  case neg =>
    have HF := Lib.hid (szR_no (left := left) (cost := ms.length + lenM ms) (by omega))
    have hd : decide (left - (ms.length : Int) < 0) = true := by simp; omega
    go_enter Try.func64, Try.ntmps64
    go_wp2
    go_ret
    exact ⟨ret_int HF.out, Nx.refl _⟩
  have hd : decide (left - (ms.length : Int) < 0) = false := by simp; omega
  go_enter Try.func64, Try.ntmps64
  go_wp2
  go_loopw [1, 5] (fun l i wr => ∃ k : Nat, k ≤ ms.length ∧ i = .int .i64 k ∧ (ms.length : Int) + lenMTo ms k ≤ left ∧ l = .int .i64 (left - (ms.length + lenMTo ms k)) ∧ Nx w wr) (fun _ i _ => ms.length - (intOf i).toNat)
  case atStart => exact ⟨0, Nat.zero_le _, rfl, by rw [lenMTo_zero]; omega, by rw [lenMTo_zero]; go_num, Nx.refl _⟩
  case round =>
    obtain ⟨k, hk, rfl, hle2, rfl, hnx⟩ := hrel
    by_cases hlt : k < ms.length
    · obtain ⟨b, off, rfl, hb, hc0, hc1⟩ := (h.below hnx hB).at_ hlt
      have hmk := hm k
      have hsu := Lib.hid (lenMTo_succ ms k hlt)
      have hle3 := Lib.hid (lenMTo_le ms (k + 1))
      generalize ms.getD k mrZ = s at *
      obtain ⟨s, a⟩ := s
      by_cases hg : (ms.length : Int) + (lenMTo ms k + s.size) ≤ left
      · have hd2 : decide (left - (ms.length + lenMTo ms k) - (s.size : Int) < 0) = false := by simp; omega
        go_wp2_with fail
        refine (szMark_c a s _ _ hmk (by omega) (by omega)).mono ?_
        rintro e w1 ⟨rfl, hnx1⟩
        rw [← szR_yes (by omega)]
        go_wp2
        go_roundw
        case rel => exact ⟨k + 1, by omega, by go_num, by rw [hsu.out]; omega, by rw [hsu.out]; go_num, hnx.trans hnx1⟩
        case measure => simp [intOf]; omega
      · go_wp2_with fail
        refine (szMark_c a s _ _ hmk (by omega) (by omega)).mono ?_
        rintro e w1 ⟨rfl, hnx1⟩
        rw [← szR_no (by omega)]
        go_wp2
        go_ret
        exact ⟨ret_int (szR_no (by have := hsu.out; have := hle3.out; omega)), hnx.trans hnx1⟩
    · obtain rfl : k = ms.length := by omega
      go_wp2
      go_ret
      refine ⟨ret_int ?_, hnx⟩
      have := lenMTo_all ms
      rw [this] at hle2 ⊢
      exact szR_yes hle2
def costU (xs : List Int) (ms : List Mrk) : Int := xs.length + (ms.length + lenM ms)
set_option maxRecDepth 100000 in
set_option maxHeartbeats 1000000 in
theorem szSuper_c (g b p t : Int) (A A2 : Option Addr) (c c2 B : Nat) (xs : List Int) (ms : List Mrk) (left : Int) (w : World) (h2 : Mks w B A2 ms) (hB : B ≤ w.heap.size) (hm : AllM ms)
    (hn : xs.length ≤ 2 ^ 63 - 1) (hn2 : ms.length ≤ 2 ^ 63 - 1) (h0 : 0 ≤ left) (h1 : left ≤ 1048576) :
    Calls Try.prog 23 #[.agg #[.int .i64 g, .int .i64 b, .int .i64 p, .int .i64 t, .slice A xs.length c, .slice A2 ms.length c2], .int .i64 left] w fun e w' => e = .returned (.int .i64 (szR left (costU xs ms))) ∧ Nx w w' := by
  by_cases hle : (xs.length : Int) ≤ left
  case neg =>
    have HF := Lib.hid (szR_no (left := left) (cost := costU xs ms) (by unfold costU; omega))
    go_enter Try.func23, Try.ntmps23
    go_wp2_with fail
    refine (szIntS_c A xs.length c left _ hn h0 h1).mono ?_
    rintro e w1 ⟨rfl, rfl⟩
    rw [← szR_no (by omega)]
    go_wp2
    go_ret
    exact ⟨ret_int HF.out, (Nx.refl _).alloc _⟩
  go_enter Try.func23, Try.ntmps23
  go_wp2_with fail
  refine (szIntS_c A xs.length c left _ hn h0 h1).mono ?_
  rintro e w1 ⟨rfl, rfl⟩
  rw [← szR_yes hle]
  have hd : decide (left - (xs.length : Int) < 0) = false := by simp; omega
  go_wp2_with fail
  refine (szMarkS_c A2 c2 B ms _ _ (h2.below ((Nx.refl w).alloc _) hB) (Nat.le_trans hB (by simp)) hm hn2 (by omega) (by omega)).mono ?_
  rintro e w1 ⟨rfl, hnx⟩
  by_cases hle2 : (ms.length : Int) + lenM ms ≤ left - xs.length
  · rw [← szR_yes hle2]
    have hd : decide (left - (xs.length : Int) - (ms.length + lenM ms) < 0) = false := by simp; omega
    go_wp2
    go_ret
    refine ⟨ret_int ?_, ((Nx.refl _).alloc _).trans hnx⟩
    rw [← szR_yes (by unfold costU; omega)]
    unfold costU
    omega
  · rw [← szR_no (by omega)]
    go_wp2
    go_ret
    exact ⟨ret_int (szR_no (by unfold costU; omega)), ((Nx.refl _).alloc _).trans hnx⟩

theorem info_mk : (Try.prog.info? 122).map (fun i => (i.zero, i.size, i.bytes)) = some (some (.agg #[.string ByteArray.empty, .int .i64 0]), 2, 24) := by kernel_rfl
set_option maxRecDepth 100000 in
set_option maxHeartbeats 1000000 in
theorem toMark_c (a : Int) (s : ByteArray) (w : World) :
    Calls Try.prog 104 #[.agg #[.string s, .int .i64 a]] w fun e w' => e = .returned (.agg #[.string s, .int .i64 a]) ∧ Nx w w' := by
  go_enter Try.func104, Try.ntmps104
  go_wp2
  exact bodyPost_ret (v := .agg #[.string s, .int .i64 a]) (by simp [results, Try.results104, go_sem]) rfl ⟨rfl, ((((Nx.refl _).alloc _).alloc _).alloc _)⟩
set_option maxRecDepth 100000 in
set_option maxHeartbeats 1000000 in
theorem toMarkS_c (A : Option Addr) (c B : Nat) (ms : List Mrk) (w : World) (h : Mks w B A ms) (hB : B ≤ w.heap.size) (hn : ms.length ≤ 1048576) :
    Calls Try.prog 67 #[.slice A ms.length c] w (RetM w ms) := by
  obtain ⟨i0, hi0, hz0, hz1, hz2⟩ := info_parts info_mk
  have hmk := fun W => run_make_rowN (P := Try.prog) 52 122 i0 _ Try.underlying52 hi0 hz0 .i64 .i64 ms.length ms.length (Nat.le_refl _) (by rw [hz2]; omega) (by omega) W
  rw [hz1] at hmk
  have hmade := Own.made w #[Value.string ByteArray.empty, Value.int .i64 0] (ms.length * 2) 122
  go_enter Try.func67, Try.ntmps67
  go_wp2
  go_loopw [4] (fun i wr => ∃ k : Nat, k ≤ ms.length ∧ i = .int .i64 k ∧ Fill wr w.heap.size 122 (ms.length * 2) (k * 2) (mrAt ms) ∧ Nx w wr) (fun i _ => ms.length - (intOf i).toNat)
  case atStart => exact ⟨0, Nat.zero_le _, rfl, Fill.start hmade, (Nx.refl _).alloc _⟩
  case round =>
    obtain ⟨k, hk, rfl, hf, hnx⟩ := hrel
    by_cases hlt : k < ms.length
    · obtain ⟨b, off, rfl, hb, hc0, hc1⟩ := (h.below hnx hB).at_ hlt
      clear hmk hmade
      obtain ⟨⟨s, a⟩, Hs⟩ : ∃ s, Hid (ms.getD k mrZ = s) := ⟨_, rfl⟩
      rw [Hs.out] at hc0 hc1
      go_wp2_with fail
      refine (toMark_c a s _).mono ?_
      rintro e w1 ⟨rfl, hnx1⟩
      have hf1 := hf.nx hnx1
      obtain ⟨v0, hv0⟩ := hf1.some_ (i := k * 2) (by omega)
      obtain ⟨v1, hv1⟩ := hf1.some_ (i := k * 2 + 1) (by omega)
      have hz0 := hf1.frozen (k * 2)
      have hz1 := hf1.frozen (k * 2 + 1)
      clear hc0 hc1
      go_wp2
      go_roundw
      case rel =>
        refine ⟨k + 1, by omega, by go_num, ?_, ((hnx.trans hnx1).setCell (Nat.le_refl _) _).setCell (Nat.le_refl _) _⟩
        have e2 : (k + 1) * 2 = k * 2 + 1 + 1 := by omega
        rw [e2]
        exact (hf1.step (by omega) (by rw [mrAt0, Hs.out])).step (by omega) (by rw [mrAt1, Hs.out])
      case measure => simp [intOf]; omega
    · obtain rfl : k = ms.length := by omega
      go_wp2
      go_ret
      exact ⟨_, _, rfl, Sl.own hf.done (Nat.le_refl _), hnx⟩
set_option maxRecDepth 100000 in
set_option maxHeartbeats 1000000 in
theorem eqMark_c (a : Int) (s : ByteArray) (w : World) :
    Calls Try.prog 109 #[.agg #[.string s, .int .i64 a], .agg #[.string s, .int .i64 a]] w fun e w' => e = .returned (.bool true) ∧ Nx w w' := by
  go_enter Try.func109, Try.ntmps109
  go_wp2
  go_ret
  exact ⟨rfl, (((Nx.refl _).alloc _).alloc _)⟩
set_option maxRecDepth 100000 in
set_option maxHeartbeats 1000000 in
theorem eqMarkS_c (A A2 : Option Addr) (c c2 B : Nat) (ms : List Mrk) (w : World) (h : Mks w B A ms) (h2 : Mks w B A2 ms) (hB : B ≤ w.heap.size) (hn : ms.length ≤ 1048576) :
    Calls Try.prog 70 #[.slice A ms.length c, .slice A2 ms.length c2] w fun e w' => e = .returned (.bool true) ∧ Nx w w' := by
  go_enter Try.func70, Try.ntmps70
  go_wp2
  go_loopw [5] (fun i wr => ∃ k : Nat, k ≤ ms.length ∧ i = .int .i64 k ∧ Nx w wr) (fun i _ => ms.length - (intOf i).toNat)
  case atStart => exact ⟨0, Nat.zero_le _, rfl, Nx.refl _⟩
  case round =>
    obtain ⟨k, hk, rfl, hnx⟩ := hrel
    by_cases hlt : k < ms.length
    · obtain ⟨b, off, rfl, hb, hc, hd⟩ := (h.below hnx hB).at_ hlt
      obtain ⟨b2, off2, rfl, hb2, hc2, hd2⟩ := (h2.below hnx hB).at_ hlt
      generalize ms.getD k mrZ = s at hc hc2 hd hd2
      obtain ⟨s, a⟩ := s
      go_wp2_with fail
      go_still_tail 8, (by kernel_rfl)
      change wpList _ _ _ _ _ wr.drew
      have hnx1 : Nx w wr.drew := Below.drew hnx
      generalize wr.drew = wd at *
      go_wp2_with fail
      refine (eqMark_c a s _).mono ?_
      rintro e w1 ⟨rfl, hnx2⟩
      go_wp2
      go_roundw
      case rel => exact ⟨k + 1, by omega, by go_num, hnx1.trans hnx2⟩
      case measure => simp [intOf]; omega
    · go_wp2
      go_ret
      exact ⟨rfl, hnx⟩
theorem cs_ : Try.prog.cellsOf 9 = 1 := by kernel_rfl
theorem cLM : Try.prog.cellsOf 120 = 2 := by kernel_rfl
theorem cLU : Try.prog.cellsOf 48 = 6 := by kernel_rfl
section
variable {H : Type} {enc : TypeId × Value → H} {w : World} {base : Nat} {spare : Nat → Bool} {held : Bool}
set_option maxRecDepth 100000 in
theorem open_marks_ {fuel : Nat} {v : Value} {x : DataW H × List MemPlace} (h : DataW.trod enc Try.prog w base spare held fuel 46 [v] = some x) :
    ∃ (A : Option Addr) (c : Nat) (ms : List Mrk), v = .slice A ms.length c ∧ Mks w w.heap.size A ms ∧ AllM ms ∧ ms.length ≤ 2 ^ 63 - 1 := by
  rcases open_slice Try.underlying46 h with ⟨hcs, _⟩ | ⟨a, len, cap, m, n, D, Pl, hcs, _, hl, hm, hmm, _, hi⟩
  · exact ⟨none, 0, [], by simpa using hcs, fun hn => absurd hn (by simp), fun k => by simp [mrZ], by simp⟩
  · have hle : len ≤ m := by rw [hmm]; split <;> omega
    unfold maxLen at hm
    have key : ∀ i, ∃ p : Mrk, i < m → w.cell? (a.add (i * 2)) = some (.string p.1) ∧ w.cell? ((a.add (i * 2)).add 1) = some (.int .i64 p.2) ∧ p.1.size ≤ 2 ^ 63 - 1 := by
      intro i
      by_cases him : i < m
      · obtain ⟨cs', hc, ht⟩ := hi i him
        rw [cLM] at hc
        obtain ⟨_, hcl, hat⟩ := World.cells?_some hc
        obtain ⟨y0, y1, k, _, _, t0, t1⟩ := trod_struct2 Try.underlying120 ht
        match cs', hcl with
        | [u0, u1], _ =>
          have e0 : ∃ q, [u0] = [Value.string q] ∧ q.size ≤ maxLen := by
            obtain ⟨q, e, _, hq⟩ := DataW.trod_string Try.underlying9 t0
            rw [cs_] at e
            exact ⟨q, e, hq⟩
          have e1 : ∃ q, [u1] = [Value.int .i64 q] := by
            obtain ⟨q, e, _, _⟩ := DataW.trod_int (k := .i64) Try.underlying3 t1
            rw [ci_] at e
            exact ⟨q, e⟩
          obtain ⟨q0, e0, hq⟩ := e0
          obtain ⟨q1, e1⟩ := e1
          simp only [List.cons.injEq, and_true] at e0 e1
          subst e0 e1
          refine ⟨(q0, q1), fun _ => ⟨?_, hat 1 (by omega), by unfold maxLen at hq; exact hq⟩⟩
          have := hat 0 (by omega)
          simpa [Addr.add] using this
      · exact ⟨mrZ, fun h => absurd h him⟩
    obtain ⟨g, hg⟩ := Classical.skolem.1 key
    have hget : ∀ k, k < len → ((List.range len).map g).getD k mrZ = g k := by
      intro k hk
      rw [List.getD_eq_getElem?_getD, List.getElem?_map, List.getElem?_range hk]; rfl
    have hlen : ((List.range len).map g).length = len := by simp
    refine ⟨some a, cap, (List.range len).map g, by simpa using hcs, fun hn => ?_, fun k => ?_, by simp; omega⟩
    · rw [hlen] at hn
      have h0 := (hg 0 (by omega)).1
      rw [Nat.zero_mul] at h0
      obtain ⟨b, off, rfl, hb⟩ := addr_plain_i h0
      refine ⟨b, off, rfl, hb, fun i hi => ?_⟩
      rw [hlen] at hi
      have h1 := (hg (i / 2) (by omega)).1
      have h2 := (hg (i / 2) (by omega)).2.1
      rw [addr_add_i] at h1 h2
      rw [addr_add_i] at h2
      unfold mrAt
      rw [hget _ (by omega)]
      by_cases hp : i % 2 = 0
      · rw [if_pos hp, show off + i = off + i / 2 * 2 by omega]
        exact h1
      · rw [if_neg hp, show off + i = off + i / 2 * 2 + 1 by omega]
        exact h2
    · by_cases hk : k < len
      · rw [hget k hk]; exact (hg k (by omega)).2.2
      · rw [List.getD_eq_getElem?_getD, List.getElem?_eq_none (by simp; omega)]
        simp [mrZ]
end
end Go.Proofs.Ytjefjngheolmkaa
