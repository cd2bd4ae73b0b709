import Derived.Test.YtpdjpjkieafnbaaGreatDoorFFM
import Derived.Test.YtpdjpjkieafnbaaGreatDoorSH4
import Derived.Lib.AppendIntMem
import Derived.Lib.ItoaMem
import Derived.Shelf.Strconv.Itoa3
set_option linter.unusedVariables false
set_option linter.unusedSimpArgs false
namespace Go.Proofs.YtpdjpjkieafnbaaGreatDoor
/-- A number's digits. -/
def dD (n : Nat) : List UInt8 := if h : n < 10 then [UInt8.ofNat (48 + n)] else dD (n / 10) ++ [UInt8.ofNat (48 + n % 10)]
termination_by n
decreasing_by omega
theorem dD_small {n : Nat} (h : n < 10) : dD n = [UInt8.ofNat (48 + n)] := by rw [dD, dif_pos h]
theorem dD_step {n : Nat} (h : ¬ n < 10) : dD n = dD (n / 10) ++ [UInt8.ofNat (48 + n % 10)] := by rw [dD, dif_neg h]
theorem dD_len (k : Nat) : ∀ n, n < 10 ^ (k + 1) → (dD n).length ≤ k + 1 := by
  induction k with
  | zero => intro n h; rw [dD_small (by simpa using h)]; simp
  | succ k ih =>
    intro n h
    by_cases q : n < 10
    · rw [dD_small q]; simp
    · rw [dD_step q, List.length_append]
      have h1 : n / 10 < 10 ^ (k + 1) := by
        rw [Nat.div_lt_iff_lt_mul (by omega), ← Nat.pow_succ]
        exact h
      have := ih _ h1
      simp
      omega
theorem ofNat_toNat {n : Nat} (h : n < 256) : (UInt8.ofNat n).toNat = n := by simp; omega
theorem dD_ne (n : Nat) : dD n ≠ [] := by
  rw [dD]
  split
  · simp
  · simp
/-- The exact digits of m times 2^e. -/
def exZ (k : Nat) (d : List UInt8) : List UInt8 := List.replicate (k + 1 - d.length) 48 ++ d
def exD (m : Nat) (e : Int) : List UInt8 := if 0 ≤ e then dD (m * 2 ^ e.toNat) else (exZ (-e).toNat (dD (m * 5 ^ (-e).toNat))).take ((exZ (-e).toNat (dD (m * 5 ^ (-e).toNat))).length - (-e).toNat) ++ 46 :: (exZ (-e).toNat (dD (m * 5 ^ (-e).toNat))).drop ((exZ (-e).toNat (dD (m * 5 ^ (-e).toNat))).length - (-e).toNat)
theorem exZ_len (k : Nat) (d : List UInt8) : k + 1 ≤ (exZ k d).length := by unfold exZ; rw [List.length_append, List.length_replicate]; omega
end Go.Proofs.YtpdjpjkieafnbaaGreatDoor
set_option linter.unusedVariables false
set_option linter.unusedSimpArgs false
namespace Go.Proofs.YtpdjpjkieafnbaaGreatDoor.Li
open Go.RowKit Go.Sort Lb Nr
/-- The library's digits are the digits. -/
theorem decDigits_dD : ∀ (k n : Nat), n ≤ k → Lib.decDigits n = dD n := by
  intro k
  induction k with
  | zero =>
    intro n h
    obtain rfl : n = 0 := by omega
    rw [Lib.decDigits_one (by omega), dD_small (by omega)]
  | succ k ih =>
    intro n h
    by_cases q : n < 10
    · rw [Lib.decDigits_one q, dD_small q]
    · rw [Lib.decDigits, dif_neg q, dD_step q, ih (n / 10) (by omega)]
theorem Keep.grown_of (w : World) (os : Array Obj) (k : Nat) : Keep w ((grow w os).drewN k) := by
  refine ⟨rfl, rfl, rfl, ?_, ?_⟩
  · simp [grow]
  · intro b hb
    show (grow w os).heap[b]? = w.heap[b]?
    simp only [grow]
    rw [Array.getElem?_append_left hb]
set_option maxRecDepth 100000 in
set_option maxHeartbeats 1000000 in
theorem FU_big (u : Nat) (w : World) (hu : 100 ≤ u) (hu64 : u < 18446744073709551616) (htab : Lib.TabIs Tryz.prog w "internal/strconv.uint64pow10" .u64 Lib.pow10Tab) :
    Calls Tryz.prog 146 #[.int .u64 (u : Int), .int .i64 10] w fun e w' => e = .returned (.string ⟨(Lib.decDigits u).toArray⟩) ∧ Keep w w' := by
  have hu1 : 1 ≤ u := by omega
  have hnd20 : Lib.nDigits u ≤ 20 := by have := Lib.numDigits_eq u hu1 hu64; split at this <;> omega
  have hal : Tryz.prog.arrayLen 206 = 24 := by simp [Program.arrayLen, Tryz.underlying206]
  have hsl : ∀ W, (Instr.sliceAt 206 (.pointer (some ⟨w.heap.size, 0, none⟩)) none (some (.int .i64 (Lib.nDigits u : Int))) none).run Tryz.prog W = .ok (.slice (some ⟨w.heap.size, 0, none⟩) (Lib.nDigits u) 24) W := fun W => by
    rw [run_sliceAt_array_h W 206 ⟨w.heap.size, 0, none⟩ (by simp [Program.arrayLen, Program.elem, Tryz.underlying206]) .i64 (Lib.nDigits u : Int) (by omega) (by rw [hal]; omega)]
    go_simp
  have hH0 := Lib.holds_zero0 w 206 (Lib.nDigits u) (by omega)
  have hfmt := Tryz.internal_strconv_formatBase10 w.heap.size 0 24 u (Array.replicate (Lib.nDigits u) 0) (w.alloc (.cells Lib.zeros24 206)) hH0 (by rw [Array.size_replicate]; exact Lib.lt_pow_nDigits u) hu64 (by rw [Array.size_replicate]; omega)
  rw [Array.size_replicate] at hfmt
  have hND := fun wx h => Tryz.internal_strconv_numDigits u hu1 hu64 wx h
  have HH0 := Lib.hid hH0
  have c100 : decide (u < 100) = false := decide_eq_false (by omega)
  clear hH0 hal
  go_enter Tryz.func146, Tryz.ntmps146
  go_wp2_with (go_at_call 174; refine (hND _ (Lib.tabIs_alloc htab _)).mono ?_; rintro e w' ⟨rfl, rfl⟩)
  refine hfmt.mono ?_
  rintro e w' ⟨rfl, k, v', dk, rfl, hF⟩
  have hcv : (convert 61 9 (.slice (some ⟨w.heap.size, 0, none⟩) (Lib.nDigits u) 24)).run Tryz.prog ((putRow (fun (b : UInt8) => Value.int .u8 (b.toNat : Int)) (w.alloc (.cells Lib.zeros24 206)) w.heap.size 0 dk).drewN k) = .ok (.string ⟨(Lib.decDigits u).toArray⟩) ((putRow (fun (b : UInt8) => Value.int .u8 (b.toNat : Int)) (w.alloc (.cells Lib.zeros24 206)) w.heap.size 0 dk).drewN k) := by
    have h := run_convert_bytes_back (P := Tryz.prog) ((putRow (fun (b : UInt8) => Value.int .u8 (b.toNat : Int)) (w.alloc (.cells Lib.zeros24 206)) w.heap.size 0 dk).drewN k) 61 9 5 ⟨w.heap.size, 0, none⟩ 24 (Lib.decDigits u) Tryz.underlying61 Tryz.underlying5 Tryz.underlying9 (fun j hj => by
      rw [Lib.row_is_numeral hF j hj, Lib.add_plain, World.cell?_drewN]
      exact cell?_putRow (fun (b : UInt8) => Value.int .u8 (b.toNat : Int)) _ w.heap.size 0 _ dk HH0.out (by rw [hF.size, Array.size_replicate]) j (by rw [hF.size]; rw [Lib.decDigits_length] at hj; exact hj))
    rw [Lib.decDigits_length] at h
    exact h
  have HK : Hid (Keep w ((putRow (fun (b : UInt8) => Value.int .u8 (b.toNat : Int)) (w.alloc (.cells Lib.zeros24 206)) w.heap.size 0 dk).drewN k)) := by
    rw [alloc_eq_grow]
    obtain ⟨os', _, e⟩ := putRow_grow_new (fun (b : UInt8) => Value.int .u8 (b.toNat : Int)) w #[.cells Lib.zeros24 206] w.heap.size 0 dk (Nat.le_refl _)
    rw [e]
    exact Keep.grown_of w os' k
  obtain ⟨wq, hwq⟩ : ∃ wq, (putRow (fun (b : UInt8) => Value.int .u8 (b.toNat : Int)) (w.alloc (.cells Lib.zeros24 206)) w.heap.size 0 dk).drewN k = wq := ⟨_, rfl⟩
  rw [hwq] at hcv HK ⊢
  clear hwq HH0 hF
  go_wp2_with fail
  go_ret
  exact ⟨rfl, HK.out⟩
end Go.Proofs.YtpdjpjkieafnbaaGreatDoor.Li
set_option linter.unusedVariables false
set_option linter.unusedSimpArgs false
namespace Go.Proofs.YtpdjpjkieafnbaaGreatDoor.Li
open Go.RowKit Lb Nr
set_option maxRecDepth 100000 in
theorem FU_all (u : Nat) (w : World) (hu64 : u < 18446744073709551616) (htab : Lib.TabIs Tryz.prog w "internal/strconv.uint64pow10" .u64 Lib.pow10Tab) :
    Calls Tryz.prog 101 #[.int .u64 (u : Int), .int .i64 10] w fun e w' => e = .returned (.string ⟨(dD u).toArray⟩) ∧ Keep w w' := by
  have h : Calls Tryz.prog 146 #[.int .u64 (u : Int), .int .i64 10] w fun e w' => e = .returned (.string ⟨(dD u).toArray⟩) ∧ Keep w w' := by
    rw [← decDigits_dD u u (Nat.le_refl _)]
    by_cases c : u < 100
    · exact FU_in u w c
    · exact FU_big u w (by omega) hu64 htab
  generalize dD u = l at h ⊢
  go_enter Tryz.func101, Tryz.ntmps101
  go_wp2_with (go_at_call 146; refine h.mono ?_; rintro e w2 ⟨rfl, k2⟩)
  go_ret
  exact ⟨rfl, k2⟩
/-- A number with its sign ahead. -/
def wsT (z : Int) : List UInt8 := (if z < 0 then 45 else 43) :: dD z.natAbs
theorem itoa_ws {z : Int} : Lib.itoa z = if z < 0 then 45 :: dD z.natAbs else dD z.natAbs := by
  unfold Lib.itoa
  split
  · rw [decDigits_dD _ _ (Nat.le_refl _)]
  · rename_i h
    rw [decDigits_dD _ _ (Nat.le_refl _), show z.toNat = z.natAbs by omega]
theorem dD_few {n : Nat} (h : n < 100000) : (dD n).length ≤ 5 := dD_len 4 n (by simpa using h)
set_option maxRecDepth 100000 in
set_option maxHeartbeats 400000 in
theorem withSign_any (z : Int) (w : World) (hz : -99999 ≤ z ∧ z ≤ 99999) (htab : Lib.TabIs Tryz.prog w "internal/strconv.uint64pow10" .u64 Lib.pow10Tab) :
    Calls Tryz.prog 111 #[.int .i64 z] w fun e w' => e = .returned (.string ⟨(wsT z).toArray⟩) ∧ Keep w w' := by
  have h := Tryz.strconv_Itoa z (by omega) (by omega) w htab
  rw [itoa_ws] at h
  have hl : (dD z.natAbs).length ≤ 5 := dD_few (by omega)
  by_cases c : z < 0
  · rw [if_pos c] at h
    have hw : Hid (wsT z = 45 :: dD z.natAbs) := by unfold Hid wsT; rw [if_pos c]
    have c1 : decide (z < 0) = true := decide_eq_true c
    rw [hw.out]
    generalize dD z.natAbs = l at *
    clear hw c
    go_enter Tryz.func111, Tryz.ntmps111
    go_wp2_with fail
    refine h.mono ?_
    rintro e w2 ⟨rfl, k, os, hw2⟩
    have K2 : Hid (Keep w w2) := by unfold Hid; rw [hw2]; exact Keep.grown_of w os k
    clear hw2
    go_wp2_with fail
    go_ret
    exact ⟨rfl, K2.out⟩
  · rw [if_neg c] at h
    have hw : Hid (wsT z = 43 :: dD z.natAbs) := by unfold Hid wsT; rw [if_neg c]
    have c1 : decide (z < 0) = false := decide_eq_false c
    rw [hw.out]
    generalize dD z.natAbs = l at *
    have hc : (⟨#[43]⟩ : ByteArray) ++ ByteArray.mk l.toArray = ⟨(43 :: l).toArray⟩ := catB [43] l
    have hs : (ByteArray.mk l.toArray).size = l.length := sz_mk l
    clear hw c
    go_enter Tryz.func111, Tryz.ntmps111
    go_wp2_with fail
    refine h.mono ?_
    rintro e w2 ⟨rfl, k, os, hw2⟩
    have K2 : Hid (Keep w w2) := by unfold Hid; rw [hw2]; exact Keep.grown_of w os k
    clear hw2
    go_wp2_with fail
    go_ret
    exact ⟨rfl, K2.out⟩
theorem repZ (k : Nat) : Lib.repeatL [48] k = List.replicate k 48 := by
  induction k with
  | zero => rfl
  | succ k ih => rw [List.replicate_succ, Lib.repeatL, ih]; rfl
theorem rpZ (k : Nat) (hk : k ≤ 100000) (wx : World) : Calls Tryz.prog 109 #[.string ⟨#[48]⟩, .int .i64 (k : Int)] wx fun e w' => e = .returned (.string ⟨(List.replicate k 48).toArray⟩) ∧ Keep wx w' := by
  have h := Tryz.strings_Repeat ⟨#[48]⟩ k wx (by omega) (by show 1 * k ≤ _; omega)
  have e2 : (ByteArray.mk #[48]).data.toList = [48] := rfl
  rw [e2, repZ] at h
  exact h
/-- Digits laid out with a power. -/
def loT (d : List UInt8) (p : Int) : List UInt8 :=
  if (d.length : Int) ≤ (d.length : Int) + p ∧ (d.length : Int) + p ≤ 21 then d ++ List.replicate p.toNat 48
  else if 0 < (d.length : Int) + p ∧ (d.length : Int) + p ≤ 21 then d.take ((d.length : Int) + p).toNat ++ 46 :: d.drop ((d.length : Int) + p).toNat
  else if -6 < (d.length : Int) + p ∧ (d.length : Int) + p ≤ 0 then 48 :: 46 :: (List.replicate (-((d.length : Int) + p)).toNat 48 ++ d)
  else (if 1 < d.length then d.take 1 ++ 46 :: d.drop 1 else d) ++ 101 :: wsT ((d.length : Int) + p - 1)
end Go.Proofs.YtpdjpjkieafnbaaGreatDoor.Li
