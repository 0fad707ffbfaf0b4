/-
  Texts of the proof, put together in their order: Drf, Ers, Dig, Sum, Six, Pdd.
  Conditions: those of each.
-/
import Derived.Test.YtehahodomfbpjaaDoorMc0
import Derived.LaidEql
import Derived.Stop.Asserts
import Derived.RowKitTokens
import Derived.Deep.RegionWith
import Derived.Laws.IdiomStrings
import Derived.Laws.Concat
import Derived.IntWalk
import Derived.Lib.Strings
/- A source of choices of which only the reach is known; drawn frames. Conditions: the code can be read, and holds at most 1048576 bytes. -/
namespace Go.Proofs.YtehahodomfbpjaaDoor
set_option linter.unusedVariables false
set_option maxRecDepth 100000
open Go.RowKit

theorem Rg.setNew8 {lo hi : Nat} {a w : World} (h : Rg lo hi a w) {p : Addr} (h1 : a.heap.size ≤ p.block) (v : Value) : Rg lo hi a (w.setCell p v) := ⟨h.os, h.tape, h.output, by have := h.size; simp only [World.setCell, Array.size_modify]; exact this, fun k hk hr => (Below.heap_setCell _ _ _ _ (by omega)).trans (h.block k hk hr)⟩
/-- A source, at most k bytes on. -/
def SrcR (w : World) (g : Nat) (A : Option Addr) (n c k : Nat) : Prop := ∃ a sd, a ≤ k ∧ sd < 2147483648 ∧ Src w g A n c a sd
theorem SrcR.nx {w w' : World} {g n c k : Nat} {A : Option Addr} (h : SrcR w g A n c k) (hb : Nx w w') : SrcR w' g A n c k := by
  obtain ⟨a, sd, h1, h2, h3⟩ := h
  unfold Src at h3
  exact ⟨a, sd, h1, h2, h3.nx hb⟩
theorem SrcR.lt {w : World} {g n c k : Nat} {A : Option Addr} (h : SrcR w g A n c k) : g < w.heap.size := by
  obtain ⟨a, sd, h1, h2, h3⟩ := h
  unfold Src at h3
  exact h3.lt
theorem SrcR.more {w : World} {g n c k k' : Nat} {A : Option Addr} (h : SrcR w g A n c k) (hk : k ≤ k') : SrcR w g A n c k' := by
  obtain ⟨a, sd, h1, h2, h3⟩ := h
  exact ⟨a, sd, by omega, h2, h3⟩
def RetV (m : Nat) (g : Nat) (A : Option Addr) (n c k : Nat) (w : World) (e : Ending) (w' : World) : Prop :=
  ∃ v : Nat, e = .returned (.int .i64 (v : Int)) ∧ v < m ∧ SrcR w' g A n c (k + 3) ∧ Rg g (g + 1) w w'
set_option maxHeartbeats 1000000 in
theorem byteR_c (g : Nat) (A : Option Addr) (n c k B : Nat) (ys : List Nat) (w : World) (hb : SrcR w g A n c k) (h : U8s w B A n ys) (hB : B ≤ g) (hn : n ≤ 1048576) (hk : k ≤ 1048576) :
    Calls Tryd.prog 84 #[.pointer (some ⟨g, 0, none⟩)] w fun e w' => ∃ b : Nat, e = .returned (.int .i64 b) ∧ b < 256 ∧ SrcR w' g A n c (k + 1) ∧ Rg g (g + 1) w w' := by
  obtain ⟨a, sd, h1, h2, h3⟩ := hb
  obtain ⟨⟨b, a', sd'⟩, HP⟩ : ∃ x, byteP ys a sd = x := ⟨_, rfl⟩
  obtain ⟨k1, k2, k3⟩ := byteP_lt h.2.1 h2 HP
  exact (byte_c g A n c a sd B ys b a' sd' w h3 h hB hn (by omega) h2 HP).mono fun e w' ⟨he, hs, hr⟩ => ⟨b, he, k1, ⟨a', sd', by omega, k3, hs⟩, hr⟩
set_option maxRecDepth 100000 in
set_option maxHeartbeats 1000000 in
theorem nextR_c (m g : Nat) (A : Option Addr) (n c k B : Nat) (ys : List Nat) (w : World) (hm : 2 ≤ m) (hm2 : m ≤ 100000) (hb : SrcR w g A n c k) (h : U8s w B A n ys) (hB : B ≤ g) (hn : n ≤ 1048576) (hk : k + 3 ≤ 1048576) :
    Calls Tryd.prog 67 #[.pointer (some ⟨g, 0, none⟩), .int .i64 m] w (RetV m g A n c k w) := by
  by_cases h256 : m ≤ 256
  · obtain ⟨a, sd, h1, h2, h3⟩ := hb
    obtain ⟨⟨b, a', sd'⟩, HP⟩ : ∃ x, byteP ys a sd = x := ⟨_, rfl⟩
    obtain ⟨k1, k2, k3⟩ := byteP_lt h.2.1 h2 HP
    exact (next_c m g A n c a sd B ys b a' sd' w hm h256 h3 h hB hn (by omega) h2 HP).mono fun e w' ⟨he, hs, hr⟩ => ⟨b % m, he, Nat.mod_lt _ (by omega), ⟨a', sd', by omega, k3, hs⟩, hr⟩
  · go_enter Tryd.func67, Tryd.ntmps67
    go_wp2_with fail
    refine (byteR_c g A n c k B ys _ hb h hB hn (by omega)).mono ?_
    rintro e w1 ⟨x, rfl, hx, h1, hr1⟩
    have hu1 := h.rg hr1 hB (Nat.le_of_lt hb.lt)
    go_wp2_with fail
    refine (byteR_c g A n c (k + 1) B ys _ h1 hu1 hB hn (by omega)).mono ?_
    rintro e w2 ⟨y, rfl, hy, h2, hr2⟩
    have hu2 := hu1.rg hr2 hB (Nat.le_of_lt h1.lt)
    go_wp2_with fail
    refine (byteR_c g A n c (k + 1 + 1) B ys _ h2 hu2 hB hn (by omega)).mono ?_
    rintro e w3 ⟨z, rfl, hz, h3, hr3⟩
    go_wp2
    go_ret
    exact ⟨(x * 65536 + y * 256 + z) % m, ret_int (by rw [show (x : Int) * 65536 + (y : Int) * 256 + (z : Int) = ((x * 65536 + y * 256 + z : Nat) : Int) by omega, ← Int.natCast_emod]), Nat.mod_lt _ (by omega), h3, (hr1.trans hr2).trans hr3⟩
end Go.Proofs.YtehahodomfbpjaaDoor
/- Contracts of errors.Is where both are errors of errors.New's make. Conditions: the errors' blocks are known. -/
namespace Go.Proofs.YtehahodomfbpjaaDoor
set_option linter.unusedVariables false
set_option maxRecDepth 100000
open Go.RowKit Go.Extern.Stop Go.Stop Go.Extern

theorem erTypeOf (v : Value) (w : World) : (Extern.ReflectliteType.typeOf #[.iface 152 v]).run Tryd.prog w = .ok (.iface 124 (.agg #[.pointer (some ⟨6, 152, none⟩)])) w := by kernel_rfl
def cmpE : Array Value → Sem Value := Extern.ReflectliteType.method fun t => do Extern.Rtype.noPackHeld "Comparable" t; pure (.bool (← typeInfo t).comparable)
theorem erComparable (w : World) : (cmpE #[.agg #[.pointer (some ⟨6, 152, none⟩)]]).run Tryd.prog w = .ok (.bool true) w := by kernel_rfl
theorem erMethod (v : Value) (w : World) : (Go.method 285 124 v "Comparable").run Tryd.prog w = .ok (131, v) w := by kernel_rfl
theorem erComp : (Tryd.prog.info? 152).map (·.comparable) = some true := by kernel_rfl
theorem erSize : (Tryd.prog.info? 174).map (·.size) = some 1 := by kernel_rfl
theorem erNoIs (v : Value) (xT : TypeId) (w : World) : (Instr.typeAssert (.iface 152 v) xT 126 true).run Tryd.prog w = .ok (.tuple #[.nilIface, .bool false]) w := run_typeAssert_lacksB Tryd.underlying126 (by kernel_rfl) (by kernel_rfl) v xT w
theorem erNoUnwrap (v : Value) (xT : TypeId) (w : World) : (Instr.typeAssert (.iface 152 v) xT 129 true).run Tryd.prog w = .ok (.tuple #[.nilIface, .bool false]) w := run_typeAssert_lacksB Tryd.underlying129 (by kernel_rfl) (by kernel_rfl) v xT w
theorem erNoUnwraps (v : Value) (xT : TypeId) (w : World) : (Instr.typeAssert (.iface 152 v) xT 131 true).run Tryd.prog w = .ok (.tuple #[.nilIface, .bool false]) w := run_typeAssert_lacksB Tryd.underlying131 (by kernel_rfl) (by kernel_rfl) v xT w

set_option maxRecDepth 100000 in
set_option maxHeartbeats 1000000 in
/-- An error is itself. -/
theorem is_same (a : Addr) (w : World) :
    Calls Tryd.prog 76 #[.iface 152 (.pointer (some a)), .iface 152 (.pointer (some a))] w fun e w' => e = .returned (.bool true) ∧ w = w' := by
  obtain ⟨i, hi, hcmp⟩ := Option.map_eq_some_iff.1 erComp
  obtain ⟨j, hj, hjs⟩ := Option.map_eq_some_iff.1 erSize
  have h8 := @run_callFunc_extern Tryd.prog 88 _ Extern.ReflectliteType.typeOf Tryd.func88 (by kernel_rfl) (by kernel_rfl) (by kernel_rfl) (by kernel_rfl)
  have h32 := @run_callFunc_extern Tryd.prog 131 _ cmpE Tryd.func131 (by kernel_rfl) (by kernel_rfl) (by kernel_rfl) (by kernel_rfl)
  have tT := erTypeOf
  have cT := erComparable
  have mR := erMethod
  have heq := run_eql_iface_ptr_same (P := Tryd.prog) w a Tryd.underlying77 Tryd.underlying152 hi hcmp hj
  go_enter Tryd.func76, Tryd.ntmps76
  go_wp2
  refine wp_loop_rounds 1 ?_
  rw [rounds_succ]
  go_wp2
  go_ret
  exact ⟨rfl, rfl⟩
set_option maxRecDepth 100000 in
set_option maxHeartbeats 1000000 in
/-- One error is not another. -/
theorem is_other (a b : Addr) (ca cb : Array Value) (ta tb : TypeId) (w : World) (hne : a ≠ b) (ha : w.heap[a.block]? = some (.cells ca ta (0, 0))) (hb : w.heap[b.block]? = some (.cells cb tb (0, 0))) :
    Calls Tryd.prog 76 #[.iface 152 (.pointer (some a)), .iface 152 (.pointer (some b))] w fun e w' => e = .returned (.bool false) ∧ w = w' := by
  obtain ⟨i, hi, hcmp⟩ := Option.map_eq_some_iff.1 erComp
  obtain ⟨j, hj, hjs⟩ := Option.map_eq_some_iff.1 erSize
  have h8 := @run_callFunc_extern Tryd.prog 88 _ Extern.ReflectliteType.typeOf Tryd.func88 (by kernel_rfl) (by kernel_rfl) (by kernel_rfl) (by kernel_rfl)
  have h32 := @run_callFunc_extern Tryd.prog 131 _ cmpE Tryd.func131 (by kernel_rfl) (by kernel_rfl) (by kernel_rfl) (by kernel_rfl)
  have tT := erTypeOf
  have cT := erComparable
  have mR := erMethod
  have nE := erNoIs
  have uE := erNoUnwrap
  have vE := erNoUnwraps
  have heq := run_eql_iface_ptr_other (P := Tryd.prog) w Tryd.underlying77 Tryd.underlying152 hi hcmp hj (by rw [hjs]; decide) hne ha hb
  clear hne ha hb
  go_enter Tryd.func76, Tryd.ntmps76
  go_wp2
  refine wp_loop_rounds 1 ?_
  rw [rounds_succ]
  go_wp2
  go_ret
  exact ⟨rfl, rfl⟩
end Go.Proofs.YtehahodomfbpjaaDoor
/- Numbers' digits: what they are, and the contract of the model's l00Digits. Conditions: the number is from 0 to 999999. -/
namespace Go.Proofs.YtehahodomfbpjaaDoor
set_option linter.unusedVariables false
set_option maxRecDepth 100000
open Go.RowKit

/-- The digits of a number. -/
def digs (n : Nat) : List UInt8 := if n < 10 then [UInt8.ofNat (48 + n)] else digs (n / 10) ++ [UInt8.ofNat (48 + n % 10)]
/-- .. just so many. -/
def pad : Nat → Nat → List UInt8
  | 0, _ => []
  | k + 1, n => pad k (n / 10) ++ [UInt8.ofNat (48 + n % 10)]
theorem pad_len (k n : Nat) : (pad k n).length = k := by
  induction k generalizing n with
  | zero => rfl
  | succ k ih => simp [pad, ih]
theorem pad_zero (k : Nat) : pad k 0 = List.replicate k 48 := by
  induction k with
  | zero => rfl
  | succ k ih =>
    show pad k 0 ++ [48] = _
    rw [ih, List.replicate_succ']
theorem digs_lt {n : Nat} (h : n < 10) : digs n = [UInt8.ofNat (48 + n)] := by rw [digs, if_pos h]
theorem digs_ge {n : Nat} (h : ¬ n < 10) : digs n = digs (n / 10) ++ [UInt8.ofNat (48 + n % 10)] := by rw [digs, if_neg h]
theorem digs_pad (k : Nat) : ∀ n, n < 10 ^ (k + 1) → (digs n).length ≤ k + 1 ∧ List.replicate (k + 1 - (digs n).length) 48 ++ digs n = pad (k + 1) n := by
  induction k with
  | zero =>
    intro n h
    have h' : n < 10 := by simpa using h
    rw [digs_lt h']
    refine ⟨by simp, ?_⟩
    show _ = [] ++ [UInt8.ofNat (48 + n % 10)]
    rw [Nat.mod_eq_of_lt h']; simp
  | succ k ih =>
    intro n h
    by_cases h' : n < 10
    · rw [digs_lt h']
      refine ⟨by simp, ?_⟩
      show _ = pad (k + 1) (n / 10) ++ [UInt8.ofNat (48 + n % 10)]
      rw [Nat.mod_eq_of_lt h', Nat.div_eq_of_lt h', pad_zero]; simp
    · have h2 : n / 10 < 10 ^ (k + 1) := by
        rw [Nat.pow_succ] at h
        omega
      obtain ⟨hl, he⟩ := ih (n / 10) h2
      rw [digs_ge h']
      refine ⟨by simp; omega, ?_⟩
      show _ = pad (k + 1) (n / 10) ++ [UInt8.ofNat (48 + n % 10)]
      rw [← he, ← List.append_assoc]
      congr 2
      simp
theorem digs_len {n : Nat} (h : n ≤ 999999) : 1 ≤ (digs n).length ∧ (digs n).length ≤ 6 := by
  refine ⟨?_, (digs_pad 5 n (by omega)).1⟩
  by_cases h' : n < 10
  · rw [digs_lt h']; simp
  · rw [digs_ge h']; simp

theorem cv_one (y : Int) (hy : 0 ≤ y) (hy2 : y < 256) (W : World) (b : Nat) (h : W.cell? ⟨b, 0, none⟩ = some (.int .u8 y)) :
    (convert 35 9 (.slice (some ⟨b, 0, none⟩) 1 1)).run Tryd.prog W = .ok (.string ⟨#[UInt8.ofNat y.toNat]⟩) W := by
  have := run_convert_bytes_back (P := Tryd.prog) W 35 9 5 ⟨b, 0, none⟩ 1 [UInt8.ofNat y.toNat] Tryd.underlying35 Tryd.underlying5 Tryd.underlying9 (fun j hj => by
    obtain rfl : j = 0 := by simpa using hj
    have e : ((UInt8.ofNat y.toNat).toNat : Int) = y := by
      rw [UInt8.toNat_ofNat']
      omega
    simp only [List.getElem_cons_zero, e]
    simpa [Addr.add] using h)
  simpa using this
theorem Nx.cells {a w : World} (h : Nx a w) : ∀ b o, b < a.heap.size → w.cell? ⟨b, o, none⟩ = a.cell? ⟨b, o, none⟩ := fun b o hb => h.cell (p := ⟨b, o, none⟩) hb
theorem ret_str {a b : ByteArray} (h : a = b) : Ending.returned (.string a) = .returned (.string b) := by rw [h]

set_option maxRecDepth 100000 in
set_option maxHeartbeats 1000000 in
theorem l00Digits_c : ∀ (n : Nat) (w : World), n ≤ 999999 → Calls Tryd.prog 79 #[.int .i64 n] w fun e w' => e = .returned (.string ⟨(digs n).toArray⟩) ∧ Nx w w' := by
  intro n
  induction n using Nat.strongRecOn with
  | ind n ih =>
    intro w hn
    by_cases h' : n < 10
    · have hd : decide ((n : Int) < 10) = true := by simp; omega
      have hz : ((n : Int) == -9223372036854775808) = false := beq_eq_false_iff_ne.2 (by omega)
      have HD := Lib.hid (digs_lt h')
      have hcv := cv_one (48 + n) (by omega) (by omega)
      go_enter Tryd.func79, Tryd.ntmps79
      go_wp2
      go_ret
      refine ⟨ret_str ?_, (Nx.refl _).alloc _⟩
      rw [HD.out]
    · have hd : decide ((n : Int) < 10) = false := by simp; omega
      have hz : ((n : Int) == -9223372036854775808) = false := beq_eq_false_iff_ne.2 (by omega)
      have HD := Lib.hid (digs_ge h')
      obtain ⟨q, hq⟩ : ∃ q, n / 10 = q := ⟨_, rfl⟩
      obtain ⟨d, hd'⟩ : ∃ d, n % 10 = d := ⟨_, rfl⟩
      rw [hq, hd'] at HD
      have hd10 : d < 10 := by omega
      have ihq := ih q (by omega)
      have hq6 : q ≤ 999999 := by omega
      obtain ⟨hl1, hl2⟩ := digs_len hq6
      have hcv := cv_one (48 + d) (by omega) (by omega)
      have e1 : IntKind.i64.wrap ((n : Int) / 10) = (q : Int) := by
        rw [show (n : Int) / 10 = (q : Int) by omega]; exact IntWalk.i64_in _ (by omega)
      have e3 : (n : Int).tmod 10 = (d : Int) := by rw [Int.tmod_eq_emod_of_nonneg (by omega)]; omega
      have e4 : IntKind.i64.wrap (48 + (d : Int)) = 48 + d := IntWalk.i64_in _ (by omega)
      have e5 : IntKind.u8.wrap (48 + (d : Int)) = 48 + d := IntWalk.u8_in _ (by omega)
      clear hq hd' ih
      go_enter Tryd.func79, Tryd.ntmps79
      go_wp2_with fail
      go_region_with (go_at_call 79; refine (ihq _ hq6).mono ?_; rintro e w1 ⟨rfl, hnx1⟩; have hcl := hnx1.cells)
      all_goals
        clear e1 e3 e4 e5 hcv ihq hcl
        go_wp2
        go_ret
        refine ⟨ret_str ?_, ?_⟩
        · rw [HD.out, ByteArray.mk_append_mk]; simp
        · first
            | exact (Nx.drew_r hnx1).alloc _
            | exact ((Nx.refl w).alloc _).drew.trans hnx1
            | exact (((Nx.refl w).alloc _).drew.trans hnx1).drew
end Go.Proofs.YtehahodomfbpjaaDoor
/- Contracts of SumOf, as the model and as the program have it: both answer the same number of every text. Conditions: the text is of at most maxLen bytes (what the model lets a text have). -/
namespace Go.Proofs.YtehahodomfbpjaaDoor
set_option linter.unusedVariables false
set_option maxRecDepth 100000
open Go.RowKit

def sumL (l : List UInt8) : Int := l.foldl (fun n c => (n * 31 + (c.toNat : Int)) % 997) 7
theorem sumL_snoc (l : List UInt8) (c : UInt8) : sumL (l ++ [c]) = (sumL l * 31 + (c.toNat : Int)) % 997 := by
  unfold sumL; rw [List.foldl_append]; rfl
theorem sumL_bd (l : List UInt8) : 0 ≤ sumL l ∧ sumL l ≤ 996 := by
  rcases List.eq_nil_or_concat l with rfl | ⟨l', c, rfl⟩
  · exact ⟨by decide, by decide⟩
  · rw [List.concat_eq_append, sumL_snoc]; omega
/-- A text's sum. -/
def sumS (s : ByteArray) : Int := sumL s.data.toList
def sumOfS (s : ByteArray) : Int := if s.size ≤ 65536 then sumS s else 0
theorem sumOfS_yes {s : ByteArray} (h : s.size ≤ 65536) : sumS s = sumOfS s := by unfold sumOfS; rw [if_pos h]
theorem sumOfS_no {s : ByteArray} (h : ¬ s.size ≤ 65536) : 0 = sumOfS s := by unfold sumOfS; rw [if_neg h]
theorem take_snoc (s : ByteArray) (k : Nat) (h : k < s.size) : s.data.toList.take (k + 1) = s.data.toList.take k ++ [s[k]] := by
  rw [List.take_succ_eq_append_getElem (by simpa using h)]; rfl
def sumTo (s : ByteArray) (k : Nat) : Int := sumL (s.data.toList.take k)
theorem sumTo_bd (s : ByteArray) (k : Nat) : 0 ≤ sumTo s k ∧ sumTo s k ≤ 996 := sumL_bd _
theorem sumTo_succ (s : ByteArray) (k : Nat) (h : k < s.size) : sumTo s (k + 1) = (sumTo s k * 31 + (s[k].toNat : Int)) % 997 := by
  unfold sumTo; rw [take_snoc s k h, sumL_snoc]
theorem sumTo_all (s : ByteArray) : sumTo s s.size = sumS s := by
  unfold sumTo sumS; rw [List.take_of_length_le (by simp)]

set_option maxHeartbeats 400000 in
theorem l02Sum_c (s : ByteArray) (w : World) (hs : s.size ≤ maxLen) : Calls Tryd.prog 55 #[.string s] w fun e w' => e = .returned (.int .i64 (sumS s)) ∧ w = w' := by
  unfold maxLen at hs
  go_enter Tryd.func55, Tryd.ntmps55
  go_wp2
  go_loop [3, 4] (fun n i => ∃ k : Nat, k ≤ s.size ∧ i = .int .i64 k ∧ n = .int .i64 (sumTo s k)) (fun _ i => s.size - (intOf i).toNat)
  case atStart => exact ⟨0, Nat.zero_le _, rfl, rfl⟩
  case round =>
    obtain ⟨k, hk, rfl, rfl⟩ := hrel
    obtain ⟨h1, h2⟩ := sumTo_bd s k
    by_cases hlt : k < s.size
    · have HS := Lib.hid (sumTo_succ s k hlt)
      have hc1 : (s[k].toNat : Int) ≤ 255 := by have := s[k].toNat_lt; omega
      go_wp2
      go_round
      case rel => exact ⟨k + 1, by omega, by go_num, by rw [HS.out]⟩
      case measure => simp [intOf]; omega
    · obtain rfl : k = s.size := by omega
      go_wp2
      go_ret
      exact ⟨ret_int (sumTo_all s), rfl⟩

set_option maxHeartbeats 400000 in
theorem specSumOf_c (s : ByteArray) (w : World) (hs : s.size ≤ maxLen) : Calls Tryd.prog 28 #[.string s] w fun e w' => e = .returned (.int .i64 (sumOfS s)) ∧ w = w' := by
  by_cases hb : s.size ≤ 65536
  · have hb' : decide (65536 < (s.size : Int)) = false := by simp; omega
    have HF := Lib.hid (sumOfS_yes hb)
    go_enter Tryd.func28, Tryd.ntmps28
    go_wp2_with (go_at_call 55; refine (l02Sum_c s _ hs).mono ?_; rintro e w' ⟨rfl, rfl⟩)
    go_ret
    exact ⟨ret_int HF.out, rfl⟩
  · have hb' : decide (65536 < (s.size : Int)) = true := by simp; omega
    have HF := Lib.hid (sumOfS_no hb)
    go_enter Tryd.func28, Tryd.ntmps28
    go_wp2
    go_ret
    exact ⟨ret_int HF.out, rfl⟩

set_option maxHeartbeats 400000 in
theorem implSumOf_c (s : ByteArray) (w : World) (hs : s.size ≤ maxLen) : Calls Tryd.prog 25 #[.string s] w fun e w' => e = .returned (.int .i64 (sumOfS s)) ∧ w = w' := by
  unfold maxLen at hs
  by_cases hb : s.size ≤ 65536
  case neg =>
    have hb' : decide (65536 < (s.size : Int)) = true := by simp; omega
    have HF := Lib.hid (sumOfS_no hb)
    go_enter Tryd.func25, Tryd.ntmps25
    go_wp2
    go_ret
    exact ⟨ret_int HF.out, rfl⟩
  have hb' : decide (65536 < (s.size : Int)) = false := by simp; omega
  have HF := Lib.hid (sumOfS_yes hb)
  go_enter Tryd.func25, Tryd.ntmps25
  go_wp2
  go_loop [3, 4] (fun n i => ∃ k : Nat, k ≤ s.size ∧ i = .int .i64 k ∧ n = .int .i64 (sumTo s k)) (fun _ i => s.size - (intOf i).toNat)
  case atStart => exact ⟨0, Nat.zero_le _, rfl, rfl⟩
  case round =>
    obtain ⟨k, hk, rfl, rfl⟩ := hrel
    obtain ⟨h1, h2⟩ := sumTo_bd s k
    by_cases hlt : k < s.size
    · have HS := Lib.hid (sumTo_succ s k hlt)
      have hc1 : (s[k].toNat : Int) ≤ 255 := by have := s[k].toNat_lt; omega
      go_wp2
      go_round
      case rel => exact ⟨k + 1, by omega, by go_num, by rw [HS.out, Int.mul_comm]⟩
      case measure => simp [intOf]; omega
    · obtain rfl : k = s.size := by omega
      go_wp2
      go_ret
      exact ⟨ret_int ((sumTo_all s).trans HF.out), rfl⟩
end Go.Proofs.YtehahodomfbpjaaDoor
/- Contracts of the model's l02Six, l02Seal and l02Join: numbers' six digits, the sum's three behind a text, many numbers. Conditions: the numbers are from 0 to 999999. -/
namespace Go.Proofs.YtehahodomfbpjaaDoor
set_option linter.unusedVariables false
set_option maxRecDepth 100000
open Go.RowKit

def sizeOfStr : Value → Nat | .string s => s.size | _ => 0
theorem ba_eq {s : ByteArray} {l : List UInt8} (h : s.data.toList = l) : s = ⟨l.toArray⟩ := by
  subst h; cases s; simp
theorem ba_app (s t : ByteArray) : (s ++ t).data.toList = s.data.toList ++ t.data.toList := by
  cases s; cases t; rw [ByteArray.mk_append_mk]
theorem ba_size (s : ByteArray) : s.size = s.data.toList.length := by rw [Array.length_toList]; rfl

theorem six_less {s t : ByteArray} (h : s.size < 6) (ht : 0 < t.size := by decide) : 6 - sizeOfStr (.string (t ++ s)) < 6 - sizeOfStr (.string s) := by
  show 6 - (t ++ s).size < 6 - s.size
  rw [ByteArray.size_append]
  omega
set_option maxHeartbeats 1000000 in
/-- A number's six digits, as the model tells them. -/
theorem l02Six_c (n : Nat) (w : World) (hn : n ≤ 999999) : Calls Tryd.prog 59 #[.int .i64 n] w fun e w' => e = .returned (.string ⟨(pad 6 n).toArray⟩) ∧ Nx w w' := by
  obtain ⟨hl, he⟩ := digs_pad 5 n (by omega)
  obtain ⟨hl1, _⟩ := digs_len hn
  have HE := Lib.hid he
  clear he
  go_enter Tryd.func59, Tryd.ntmps59
  go_wp2_with fail
  refine (l00Digits_c n _ hn).mono ?_
  rintro e w1 ⟨rfl, hnx1⟩
  obtain ⟨s0, Hs0⟩ : ∃ s : ByteArray, Hid ((⟨(digs n).toArray⟩ : ByteArray) = s) := ⟨_, rfl⟩
  rw [Hs0.out]
  go_wp2
  go_loop [3] (fun v => ∃ (s : ByteArray) (k : Nat), v = .string s ∧ k + (digs n).length ≤ 6 ∧ s.size ≤ 6 ∧ Hid (s.data.toList = List.replicate k 48 ++ digs n)) (fun v => 6 - sizeOfStr v)
  case atStart =>
    refine ⟨s0, 0, rfl, by omega, ?_, Lib.hid ?_⟩
    · rw [← Hs0.out]; simpa [ByteArray.size] using hl
    · rw [← Hs0.out]; simp
  case round =>
    obtain ⟨s, k, rfl, hk, hs6, HS⟩ := hrel
    have hsz : s.size = k + (digs n).length := by rw [ba_size, HS.out]; simp
    by_cases hlt : s.size < 6
    · have hd : decide ((s.size : Int) < 6) = true := by simp; omega
      have Hsz := Lib.hid hsz
      clear hsz
      go_wp2
      go_round
      case rel =>
        refine ⟨_, k + 1, rfl, by have := Hsz.out; omega, ?_, Lib.hid ?_⟩
        · rw [ba_size, ba_app]; simp; have := ba_size s; simp at this; omega
        · rw [ba_app, HS.out]; simp [List.replicate_succ]
      case measure => exact six_less hlt
    · have hd : decide ((s.size : Int) < 6) = false := by simp; omega
      have hk6 : k = 6 - (digs n).length := by omega
      have HK := Lib.hid hk6
      clear hsz hk6
      go_wp2
      go_ret
      refine ⟨ret_str (ba_eq ?_), hnx1⟩
      rw [HS.out, HK.out, HE.out]

/-- The sum's three digits. -/
def sumD (s : ByteArray) : List UInt8 := pad 3 (sumS s).toNat
theorem pad_drop (j k n : Nat) : (pad (k + j) n).drop k = pad j n ∧ True := by
  induction j generalizing n with
  | zero => refine ⟨?_, trivial⟩; show (pad k n).drop k = []; rw [List.drop_of_length_le (by rw [pad_len]; omega)]
  | succ j ih =>
    refine ⟨?_, trivial⟩
    show (pad (k + j) (n / 10) ++ [_]).drop k = pad j (n / 10) ++ [_]
    rw [List.drop_append_of_le_length (by rw [pad_len]; omega), (ih (n / 10)).1]
set_option maxHeartbeats 1000000 in
/-- A text and its sum behind, as the model tells it. -/
theorem l02Seal_c (s : ByteArray) (w : World) (hs : s.size ≤ 1048576) : Calls Tryd.prog 58 #[.string s] w fun e w' => e = .returned (.string (s ++ ⟨(sumD s).toArray⟩)) ∧ Nx w w' := by
  obtain ⟨h0, h1⟩ := sumL_bd s.data.toList
  obtain ⟨q, hq⟩ : ∃ q : Nat, sumS s = (q : Int) := ⟨(sumS s).toNat, by have : 0 ≤ sumS s := h0; omega⟩
  have hq6 : q ≤ 996 := by have : sumS s ≤ 996 := h1; omega
  have HD := Lib.hid (show sumD s = pad 3 q by unfold sumD; rw [hq]; rfl)
  have HQ := Lib.hid hq
  clear hq
  go_enter Tryd.func58, Tryd.ntmps58
  go_wp2_with fail
  refine (l02Sum_c s _ (by unfold maxLen; omega)).mono ?_
  rintro e w1 ⟨rfl, rfl⟩
  rw [HQ.out]
  go_wp2_with fail
  refine (l02Six_c q _ (by omega)).mono ?_
  rintro e w1 ⟨rfl, hnx1⟩
  obtain ⟨d, Hd⟩ : ∃ d : ByteArray, Hid ((⟨(pad 6 q).toArray⟩ : ByteArray) = d) := ⟨_, rfl⟩
  have hd6 : d.size = 6 := by rw [← Hd.out]; simp [ByteArray.size, pad_len]
  rw [Hd.out]
  have hd7 : 3 ≤ d.size := by omega
  have hd8 : d.size ≤ 6 := by omega
  have Hd6 := Lib.hid hd6
  clear hd6
  go_wp2
  go_ret
  refine ⟨ret_str ?_, hnx1⟩
  congr 1
  refine ba_eq ?_
  rw [Lib.extract_data, Hd6.out, HD.out, ← Hd.out]
  have h6 := (pad_drop 3 3 q).1
  simpa [List.take_of_length_le, pad_len] using h6

/-- Many numbers' digits. -/
def padAll (ns : List Nat) : List UInt8 := ns.flatMap (pad 6)
theorem padAll_len (ns : List Nat) : (padAll ns).length = ns.length * 6 := by
  unfold padAll
  induction ns with
  | nil => rfl
  | cons a l ih => simp [pad_len, ih]; omega
def intAt (ns : List Nat) (i : Nat) : Value := .int .i64 (ns.getD i 0 : Nat)
def All6 (ns : List Nat) : Prop := ∀ k, k < ns.length → ns.getD k 0 ≤ 999999
def padTo (ns : List Nat) (k : Nat) : List UInt8 := padAll (ns.take k)
theorem padTo_len (ns : List Nat) (k : Nat) (h : k ≤ ns.length) : (padTo ns k).length = k * 6 := by
  unfold padTo; rw [padAll_len, List.length_take, Nat.min_eq_left h]
theorem padTo_succ (ns : List Nat) (k : Nat) (h : k < ns.length) : padTo ns (k + 1) = padTo ns k ++ pad 6 (ns.getD k 0) := by
  unfold padTo padAll
  rw [List.take_succ_eq_append_getElem h, List.flatMap_append, List.getD_eq_getElem?_getD, List.getElem?_eq_getElem h]; simp
theorem padTo_all (ns : List Nat) : padTo ns ns.length = padAll ns := by unfold padTo; rw [List.take_length]
set_option maxHeartbeats 1000000 in
/-- Many numbers, as the model tells them. -/
theorem l02Join_c (A : Option Addr) (c B : Nat) (ns : List Nat) (w : World) (h : Row w B A ns.length (intAt ns)) (hB : B ≤ w.heap.size) (h6 : All6 ns) (hn : ns.length ≤ 1000) :
    Calls Tryd.prog 74 #[.slice A ns.length c] w fun e w' => e = .returned (.string ⟨(padAll ns).toArray⟩) ∧ Nx w w' := by
  go_enter Tryd.func74, Tryd.ntmps74
  go_wp2
  go_loopw [3, 4] (fun v i wr => ∃ (k : Nat) (s : ByteArray), k ≤ ns.length ∧ i = .int .i64 k ∧ v = .string s ∧ s.size ≤ 6000 ∧ Hid (s.data.toList = padTo ns k) ∧ Nx w wr) (fun _ i _ => ns.length - (intOf i).toNat)
  case atStart => exact ⟨0, ⟨#[]⟩, Nat.zero_le _, rfl, rfl, by decide, Lib.hid rfl, Nx.refl _⟩
  case round =>
    obtain ⟨k, s, hk, rfl, rfl, hs, HS, hnx⟩ := hrel
    by_cases hlt : k < ns.length
    · obtain ⟨b, off, rfl, hb, hc0⟩ := (h.below hnx hB) (by omega)
      have hc := hc0 k hlt
      have hn6 := h6 k hlt
      have HP := Lib.hid (padTo_succ ns k hlt)
      have HL := Lib.hid (padTo_len ns k hk)
      clear hc0
      unfold intAt at hc
      obtain ⟨x, Hx⟩ : ∃ x, Hid (ns.getD k 0 = x) := ⟨_, rfl⟩
      rw [Hx.out] at hc hn6 HP
      go_wp2_with fail
      refine (l02Six_c x _ hn6).mono ?_
      rintro e w1 ⟨rfl, hnx1⟩
      obtain ⟨d, Hd⟩ : ∃ d : ByteArray, Hid ((⟨(pad 6 x).toArray⟩ : ByteArray) = d) := ⟨_, rfl⟩
      have hd6 : d.size ≤ 6 := by rw [← Hd.out]; simp [ByteArray.size, pad_len]
      rw [Hd.out]
      go_wp2
      go_roundw
      case rel =>
        have hds : d.data.toList = pad 6 x := by rw [← Hd.out]
        have hsz : (s ++ d).data.toList = padTo ns (k + 1) := by rw [ba_app, HS.out, HP.out, hds]
        exact ⟨k + 1, _, by omega, by go_num, rfl, by rw [ba_size, hsz, padTo_len _ _ (by omega)]; omega, Lib.hid hsz, hnx.trans hnx1⟩
      case measure => simp [intOf]; omega
    · obtain rfl : k = ns.length := by omega
      go_wp2
      go_ret
      exact ⟨ret_str (ba_eq (by rw [HS.out, padTo_all])), hnx⟩
end Go.Proofs.YtehahodomfbpjaaDoor
/- Contract of the program's padded: a number's digits, just so many. Conditions: the number is from 0 to 999999, and at most six digits are asked for. -/
namespace Go.Proofs.YtehahodomfbpjaaDoor
set_option linter.unusedVariables false
set_option maxRecDepth 100000
open Go.RowKit

def padAt (k n i : Nat) : Nat := 48 + n / 10 ^ (k - 1 - i) % 10
theorem pad_get (k : Nat) : ∀ n i, i < k → (pad k n)[i]? = some (UInt8.ofNat (padAt k n i)) := by
  induction k with
  | zero => intro n i h; omega
  | succ k ih =>
    intro n i h
    show (pad k (n / 10) ++ [UInt8.ofNat (48 + n % 10)])[i]? = _
    by_cases hi : i < k
    · rw [List.getElem?_append_left (by rw [pad_len]; exact hi), ih _ _ hi]
      unfold padAt
      rw [Nat.div_div_eq_div_mul, show k + 1 - 1 - i = (k - 1 - i) + 1 by omega, Nat.pow_succ, Nat.mul_comm]
    · obtain rfl : i = k := by omega
      rw [List.getElem?_append_right (by rw [pad_len]; omega), pad_len, Nat.sub_self]
      unfold padAt
      simp
def digAt (k n i : Nat) : Value := .int .u8 ((padAt k n i : Nat) : Int)
theorem info_u8 : (Tryd.prog.info? 5).map (fun i => (i.zero, i.size, i.bytes)) = some (some (.int .u8 0), 1, 1) := by kernel_rfl
/-- A row that is filled from its end. -/
def Back (w : World) (g : Nat) (t : TypeId) (m r : Nat) (F : Nat → Value) : Prop := ∃ f, Own w g t m f ∧ ∀ i, r ≤ i → i < m → f i = F i
theorem Back.step {w : World} {g : Nat} {t : TypeId} {m k : Nat} {F : Nat → Value} (h : Back w g t m (k + 1) F) (hk : k < m) {v : Value} (hv : v = F k) : Back (w.setCell ⟨g, k, none⟩ v) g t m k F := by
  obtain ⟨f, h, hf⟩ := h
  refine ⟨_, h.set hk v, fun i hi hm => ?_⟩
  by_cases e : i = k
  · subst e; simp [hv]
  · simp only [if_neg e]; exact hf i (by omega) hm
theorem back_conv {W : World} {g k n : Nat} (h : Back W g 5 k 0 (digAt k n)) :
    (convert 35 9 (.slice (some ⟨g, 0, none⟩) k k)).run Tryd.prog W = .ok (.string ⟨(pad k n).toArray⟩) W := by
  obtain ⟨f, h, hf⟩ := h
  have := run_convert_bytes_back (P := Tryd.prog) W 35 9 5 ⟨g, 0, none⟩ k (pad k n) Tryd.underlying35 Tryd.underlying5 Tryd.underlying9 (fun j hj => by
    rw [pad_len] at hj
    have e : ((Addr.mk g 0 none).add j) = ⟨g, j, none⟩ := by
      unfold Addr.add
      by_cases h : j = 0
      · subst h; simp
      · simp [h]
    rw [e, h.cell hj, hf j (by omega) hj]
    have e2 := pad_get k n j hj
    rw [List.getElem?_eq_getElem (by rw [pad_len]; exact hj)] at e2
    injection e2 with e2
    rw [e2]
    unfold digAt
    have h3 : padAt k n j < 58 := by unfold padAt; omega
    have e3 : (UInt8.ofNat (padAt k n j)).toNat = padAt k n j := by
      rw [UInt8.toNat_ofNat']
      omega
    rw [e3])
  rw [pad_len] at this
  exact this

set_option maxHeartbeats 1000000 in
theorem padded_c (n k : Nat) (w : World) (hn : n ≤ 999999) (hk1 : 1 ≤ k) (hk6 : k ≤ 6) :
    Calls Tryd.prog 62 #[.int .i64 n, .int .i64 k] w fun e w' => e = .returned (.string ⟨(pad k n).toArray⟩) ∧ Nx w w' := by
  obtain ⟨i0, hi0, hz0, hz1, hz2⟩ := info_parts info_u8
  have hmk := fun W => run_make_rowN (P := Tryd.prog) 35 5 i0 _ Tryd.underlying35 hi0 hz0 .i64 .i64 k k (Nat.le_refl _) (by rw [hz2]; omega) (by omega) W
  rw [hz1] at hmk
  have hmade := Own.made w #[Value.int .u8 0] k 5
  go_enter Tryd.func62, Tryd.ntmps62
  go_wp2
  go_loopw [0, 6] (fun v i wr => ∃ r : Nat, r ≤ k ∧ i = .int .i64 ((r : Int) - 1) ∧ v = .int .i64 ((n / 10 ^ (k - r) : Nat) : Int) ∧ Back wr w.heap.size 5 k r (digAt k n) ∧ Nx w wr) (fun _ i _ => (intOf i + 1).toNat)
  case atStart => exact ⟨k, Nat.le_refl _, rfl, by simp, ⟨_, hmade, fun i h1 h2 => by omega⟩, (Nx.refl _).alloc _⟩
  case round =>
    obtain ⟨r, hr, rfl, rfl, hb, hnx⟩ := hrel
    clear hmk hmade
    rcases Nat.eq_zero_or_pos r with h0 | hp
    · subst h0
      have hcv := back_conv hb
      go_wp2
      go_ret
      exact ⟨rfl, hnx⟩
    · obtain ⟨j, rfl⟩ : ∃ j, r = j + 1 := ⟨r - 1, by omega⟩
      rw [show ((j + 1 : Nat) : Int) - 1 = (j : Int) by omega]
      obtain ⟨m, Hm⟩ : ∃ m, Hid (n / 10 ^ (k - (j + 1)) = m) := ⟨_, rfl⟩
      rw [Hm.out]
      have hm : m ≤ 999999 := by rw [← Hm.out]; exact Nat.le_trans (Nat.div_le_self _ _) hn
      have hm1 : (m : Int) % 10 ≤ 9 := by omega
      have hm2 : 0 ≤ (m : Int) % 10 := by omega
      have hjk : j < k := by omega
      have hjk' : (j : Int) < (k : Int) := by omega
      obtain ⟨v, hv⟩ : ∃ v, wr.cell? ⟨w.heap.size, j, none⟩ = some v := by obtain ⟨f, h, _⟩ := hb; exact ⟨_, h.cell hjk⟩
      have hz : wr.frozen? ⟨w.heap.size, j, none⟩ = false := by obtain ⟨f, h, _⟩ := hb; exact h.frozen j
      go_wp2
      go_roundw
      case rel =>
        refine ⟨j, by omega, rfl, ?_, hb.step hjk ?_, hnx.setCell (Nat.le_refl _) _⟩
        · rw [show k - j = (k - (j + 1)) + 1 by omega, Nat.pow_succ, ← Nat.div_div_eq_div_mul, Hm.out]; go_num
        · unfold digAt padAt; rw [show k - 1 - j = k - (j + 1) by omega, Hm.out]; go_num
      case measure => simp [intOf]
end Go.Proofs.YtehahodomfbpjaaDoor
