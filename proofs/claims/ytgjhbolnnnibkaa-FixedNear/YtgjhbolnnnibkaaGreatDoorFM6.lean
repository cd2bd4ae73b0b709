import Derived.Test.YtgjhbolnnnibkaaGreatDoorProg
import Derived.Test.YtgjhbolnnnibkaaGreatDoorFR6
import Derived.WalkKit
import Derived.WalkSpells
import Derived.WalkLawsBesides
import Derived.Deep.Draws
import Derived.Deep.QuietTactic
import Derived.Laws.Externs
import Derived.Shelf.Abstract
import Derived.Below
import Derived.Deep.RegionLaw
import Derived.Laws.CopyOwn
import Derived.BigRegion
import Derived.BigQuiet
import Derived.Deep.RegionHeld3
import Derived.Lib.Bytealg
import Derived.Laws.RangeString
import Derived.Laws.RangeAny
import Derived.Lib.OthersKept
import Derived.Deep.LoopGhost
import Derived.Shelf.Strings.Trim
import Derived.Shelf.Small.Strs
import Derived.Shelf.Strings.Search1
import Derived.Shelf.Strings.Repeat
import Derived.Laws.MathBits
import Derived.Shelf.Small.Bits
import Derived.Laws.BytesArg
import Derived.Deep.RegionWith
import Derived.WalkMore
import Derived.Test.YtgjhbolnnnibkaaGreatDoorShelf
import Derived.Shelf.Strconv.Itoa0
import Derived.Shelf.Strconv.Itoa1
import Derived.Shelf.Strconv.Itoa2
import Derived.Lib.ItoaMem
import Derived.Lib.Walk
set_option linter.unusedVariables false
set_option linter.unusedSimpArgs false
namespace Go.Proofs.YtgjhbolnnnibkaaGreatDoor
open Go.RowKit Go.Shelf
/-- A number's digits. -/
def dD (n : Nat) : List UInt8 := if h : n < 10 then [UInt8.ofNat (48 + n)] else dD (n / 10) ++ [UInt8.ofNat (48 + n % 10)]
termination_by n
decreasing_by omega
theorem dD_small {n : Nat} (h : n < 10) : dD n = [UInt8.ofNat (48 + n)] := by rw [dD, dif_pos h]
theorem dD_step {n : Nat} (h : ¬ n < 10) : dD n = dD (n / 10) ++ [UInt8.ofNat (48 + n % 10)] := by rw [dD, dif_neg h]
theorem dD_len (k : Nat) : ∀ n, n < 10 ^ (k + 1) → (dD n).length ≤ k + 1 := by
  induction k with
  | zero => intro n h; rw [dD_small (by simpa using h)]; simp
  | succ k ih =>
    intro n h
    by_cases q : n < 10
    · rw [dD_small q]; simp
    · rw [dD_step q, List.length_append]
      have h1 : n / 10 < 10 ^ (k + 1) := by
        rw [Nat.div_lt_iff_lt_mul (by omega), ← Nat.pow_succ]
        exact h
      have := ih _ h1
      simp
      omega
theorem ofNat_toNat {n : Nat} (h : n < 256) : (UInt8.ofNat n).toNat = n := by simp; omega
end Go.Proofs.YtgjhbolnnnibkaaGreatDoor
set_option linter.unusedVariables false
set_option linter.unusedSimpArgs false
namespace Go.Proofs.YtgjhbolnnnibkaaGreatDoor
open Go.RowKit Go.Shelf
theorem tr0_zero (l : List UInt8) : tr0 (l ++ [48]) = tr0 l := by unfold tr0; rw [List.reverse_append]; simp
theorem dD_d (n : Nat) : ∀ k, n ≤ k → allD (dD n) := by
  intro k
  induction k generalizing n with
  | zero =>
    intro h
    rw [dD_small (by omega)]
    intro b hb
    have : b = UInt8.ofNat (48 + n) := by simpa using hb
    rw [this, show n = 0 by omega]
    decide
  | succ k ih =>
    intro h
    have one : ∀ m, m < 10 → isD (UInt8.ofNat (48 + m)) = true := by
      intro m hm
      unfold isD
      apply decide_eq_true
      rw [ofNat_toNat (by omega)]
      omega
    by_cases q : n < 10
    · rw [dD_small q]
      intro b hb
      have : b = UInt8.ofNat (48 + n) := by simpa using hb
      rw [this]
      exact one n q
    · rw [dD_step q]
      refine (ih (n / 10) (by omega)).app ?_
      intro b hb
      have : b = UInt8.ofNat (48 + n % 10) := by simpa using hb
      rw [this]
      exact one _ (by omega)
theorem dD_nat (n : Nat) : ∀ k, n ≤ k → nat (dD n) = n := by
  intro k
  induction k generalizing n with
  | zero =>
    intro h
    rw [dD_small (by omega), show n = 0 by omega]
    rfl
  | succ k ih =>
    intro h
    by_cases q : n < 10
    · rw [dD_small q, nat_cons]
      unfold dv
      rw [ofNat_toNat (by omega)]
      simp [nat]
    · rw [dD_step q, nat_append, ih (n / 10) (by omega), nat_cons]
      unfold dv
      rw [ofNat_toNat (by omega)]
      simp [nat]
      omega
/-- Six digits. -/
def pad6 (l : List UInt8) : List UInt8 := List.replicate (6 - l.length) 48 ++ l
theorem dD_ahead (k : Nat) : ∀ r, r < 10 ^ (k + 1) → dD (10 ^ (k + 1) + r) = 49 :: (List.replicate (k + 1 - (dD r).length) 48 ++ dD r) := by
  induction k with
  | zero =>
    intro r h
    have h10 : r < 10 := by simpa using h
    rw [dD_small h10, dD_step (by simp), dD_small (by simp; omega)]
    have e1 : (10 ^ (0 + 1) + r) / 10 = 1 := by simp; omega
    have e2 : (10 ^ (0 + 1) + r) % 10 = r := by simp; omega
    rw [e1, e2]
    rfl
  | succ k ih =>
    intro r h
    have hp : (10 : Nat) ^ (k + 1 + 1) = 10 * 10 ^ (k + 1) := by rw [Nat.pow_succ, Nat.mul_comm]
    have hp1 : 1 ≤ (10 : Nat) ^ (k + 1) := Nat.pow_pos (by omega)
    rw [hp] at h ⊢
    have e1 : (10 * 10 ^ (k + 1) + r) / 10 = 10 ^ (k + 1) + r / 10 := by omega
    have e2 : (10 * 10 ^ (k + 1) + r) % 10 = r % 10 := by omega
    rw [dD_step (by omega), e1, e2, ih (r / 10) (by omega)]
    by_cases q : r < 10
    · rw [dD_small q, show r / 10 = 0 by omega, Nat.mod_eq_of_lt q]
      have : dD 0 = [48] := dD_small (by omega)
      rw [this]
      show 49 :: (List.replicate (k + 1 - 1) 48 ++ [48] ++ [UInt8.ofNat (48 + r)]) = 49 :: (List.replicate (k + 1 + 1 - 1) 48 ++ [UInt8.ofNat (48 + r)])
      rw [← List.replicate_succ', show k + 1 - 1 + 1 = k + 1 + 1 - 1 by omega]
    · have e3 := dD_step q
      have e4 : (dD r).length = (dD (r / 10)).length + 1 := by rw [e3, List.length_append]; rfl
      rw [e4, e3, show k + 1 + 1 - ((dD (r / 10)).length + 1) = k + 1 - (dD (r / 10)).length by omega, List.cons_append, List.append_assoc]
theorem dD_tail {r : Nat} (h : r < 1000000) : dD (1000000 + r) = 49 :: pad6 (dD r) := dD_ahead 5 r h
/-- What Print writes. -/
def prt (v : Int) : List UInt8 := (if v < 0 then [45] else []) ++ (dD (v.natAbs / 1000000) ++ if v.natAbs % 1000000 = 0 then [] else 46 :: tr0 (pad6 (dD (v.natAbs % 1000000))))
end Go.Proofs.YtgjhbolnnnibkaaGreatDoor
set_option linter.unusedVariables false
set_option linter.unusedSimpArgs false
namespace Go.Proofs.YtgjhbolnnnibkaaGreatDoor
open Go.RowKit Go.Shelf
/-- The library's table of powers of ten stands. -/
def Tb (w : World) : Prop := Lib.TabIs Tryz.prog w "internal/strconv.uint64pow10" .u64 Lib.pow10Tab
set_option maxRecDepth 100000 in
set_option maxHeartbeats 800000 in
theorem FormatUint_small (u : Nat) (w : World) (hu : u < 100) :
    Calls Tryz.prog 96 #[.int .u64 (u : Int), .int .i64 10] w fun e w' => e = .returned (.string ⟨(Lib.decDigits u).toArray⟩) ∧ Keep w w' := by
  have h := fun wx => Tryz.internal_strconv_small u hu wx
  go_enter Tryz.func96, Tryz.ntmps96
  go_wp2_with (go_at_call 119; refine (h _).mono ?_; rintro e w2 ⟨rfl, rfl⟩)
  go_ret
  exact ⟨rfl, Keep.refl _⟩
theorem keep_grow (w : World) (os : Array Obj) : Keep w (Sort.grow w os) := by
  refine ⟨rfl, rfl, rfl, ?_, ?_⟩
  · simp [Sort.grow]
  · intro k hk
    simp [Sort.grow, Array.getElem?_append_left hk]
theorem keep_put (w : World) (o : Obj) (dk : Array UInt8) (k : Nat) : Keep w ((Sort.putRow (fun (b : UInt8) => Value.int .u8 (b.toNat : Int)) (w.alloc o) w.heap.size 0 dk).drewN k) := by
  rw [Sort.alloc_eq_grow]
  obtain ⟨os', _, e⟩ := Sort.putRow_grow_new (fun (b : UInt8) => Value.int .u8 (b.toNat : Int)) w #[o] w.heap.size 0 dk (Nat.le_refl _)
  rw [e]
  exact (keep_grow w os').drewN k
theorem holds0 (w : World) (nd : Nat) (hs : nd ≤ 24) : Sort.Holds (fun (b : UInt8) => Value.int .u8 (b.toNat : Int)) (w.alloc (.cells Lib.zeros24 159)) w.heap.size 0 (Array.replicate nd (0 : UInt8)) := fun j hj => by
  have hj' : j < nd := by simpa using hj
  refine ⟨?_, World.frozen?_alloc_new _ _ _ _⟩
  rw [World.cell?_alloc_new, Lib.zeros24_at _ (by omega), getElem!_pos _ j hj]
  simp
set_option maxRecDepth 100000 in
set_option maxHeartbeats 800000 in
theorem FormatUint_great (u : Nat) (w : World) (hu : ¬ u < 100) (hu64 : u < 18446744073709551616) (hT : Tb w) :
    Calls Tryz.prog 96 #[.int .u64 (u : Int), .int .i64 10] w fun e w' => e = .returned (.string ⟨(Lib.decDigits u).toArray⟩) ∧ Keep w w' := by
  have hnd20 : Lib.nDigits u ≤ 20 := by have := Lib.numDigits_eq u (by omega) hu64; split at this <;> omega
  have hal : Tryz.prog.arrayLen 159 = 24 := by simp [Program.arrayLen, Tryz.underlying159]
  have hsl : ∀ W, (Instr.sliceAt 159 (.pointer (some ⟨w.heap.size, 0, none⟩)) none (some (.int .i64 (Lib.nDigits u : Int))) none).run Tryz.prog W = .ok (.slice (some ⟨w.heap.size, 0, none⟩) (Lib.nDigits u) 24) W := fun W => by
    rw [run_sliceAt_array_h W 159 ⟨w.heap.size, 0, none⟩ (by simp [Program.arrayLen, Program.elem, Tryz.underlying159]) .i64 (Lib.nDigits u : Int) (by omega) (by rw [hal]; omega)]
    go_simp
  have hfmt := Tryz.internal_strconv_formatBase10 w.heap.size 0 24 u (Array.replicate (Lib.nDigits u) 0) (w.alloc (.cells Lib.zeros24 159)) (holds0 w _ (by omega)) (by rw [Array.size_replicate]; exact Lib.lt_pow_nDigits u) hu64 (by rw [Array.size_replicate]; omega)
  rw [Array.size_replicate] at hfmt
  have hN := Tryz.internal_strconv_numDigits u (by omega) hu64 (w.alloc (.cells Lib.zeros24 159)) (Lib.tabIs_alloc hT _)
  have hcv : ∀ (k v' : Nat) (dk : Array UInt8), Lib.FmtInv (Lib.nDigits u) u 0 v' dk → (convert 141 9 (.slice (some ⟨w.heap.size, 0, none⟩) (Lib.nDigits u) 24)).run Tryz.prog ((Sort.putRow (fun (b : UInt8) => Value.int .u8 (b.toNat : Int)) (w.alloc (.cells Lib.zeros24 159)) w.heap.size 0 dk).drewN k) = .ok (.string ⟨(Lib.decDigits u).toArray⟩) ((Sort.putRow (fun (b : UInt8) => Value.int .u8 (b.toNat : Int)) (w.alloc (.cells Lib.zeros24 159)) w.heap.size 0 dk).drewN k) := by
    intro k v' dk hF
    have h := run_convert_bytes_back (P := Tryz.prog) ((Sort.putRow (fun (b : UInt8) => Value.int .u8 (b.toNat : Int)) (w.alloc (.cells Lib.zeros24 159)) w.heap.size 0 dk).drewN k) 141 9 5 ⟨w.heap.size, 0, none⟩ 24 (Lib.decDigits u) Tryz.underlying141 Tryz.underlying5 Tryz.underlying9 (by
      intro j hj
      rw [Lib.row_is_numeral hF j hj, Lib.add_plain, World.cell?_drewN]
      exact Sort.cell?_putRow (fun (b : UInt8) => Value.int .u8 (b.toNat : Int)) _ w.heap.size 0 _ dk (holds0 w (Lib.nDigits u) (by omega)) (by rw [hF.size, Array.size_replicate]) j (by rw [hF.size]; rw [Lib.decDigits_length] at hj; exact hj))
    rw [Lib.decDigits_length] at h
    exact h
  have hkp := fun dk k => keep_put w (.cells Lib.zeros24 159) dk k
  replace hkp : Hid _ := hkp
  replace hcv : Hid _ := hcv
  unfold Lib.zeros24 at hN hfmt hcv hkp
  have hd : decide ((u : Int) < 100) = false := decide_eq_false (by omega)
  clear hT hal hu
  generalize Lib.nDigits u = nd at *
  go_enter Tryz.func96, Tryz.ntmps96
  go_wp2_with (first
    | (go_at_call 120; refine hN.mono ?_; rintro e w2 ⟨rfl, rfl⟩)
    | (go_at_call 121; refine hfmt.mono ?_; rintro e w3 ⟨rfl, k, v', dk, rfl, hF⟩; have hc1 := hcv.out k v' dk hF; have hk1 := hkp.out dk k; replace hk1 : Hid _ := hk1; replace hF : Hid _ := hF))
  go_ret
  exact ⟨rfl, hk1.out⟩
end Go.Proofs.YtgjhbolnnnibkaaGreatDoor
set_option linter.unusedVariables false
set_option linter.unusedSimpArgs false
namespace Go.Proofs.YtgjhbolnnnibkaaGreatDoor
open Go.RowKit Go.Shelf
theorem keep_tab {w w' : World} (h : Tb w) (k : Keep w w') : Tb w' := by
  unfold Tb Lib.TabIs World.var? at h ⊢
  cases hg : Tryz.prog.globalNamed "internal/strconv.uint64pow10" with
  | none => simp [hg] at h
  | some g =>
    simp only [hg, Option.bind_some] at h ⊢
    have hlt : g < w.heap.size := by
      rcases Nat.lt_or_ge g w.heap.size with h' | h'
      · exact h'
      · rw [Array.getElem?_eq_none h'] at h; simp at h
    rw [k.block g hlt]
    exact h
theorem dec_dD (n : Nat) : ∀ k, n ≤ k → Lib.decDigits n = dD n := by
  intro k
  induction k generalizing n with
  | zero => intro h; rw [Lib.decDigits, dD, dif_pos (by omega), dif_pos (by omega)]
  | succ k ih =>
    intro h
    rw [Lib.decDigits, dD]
    by_cases q : n < 10
    · rw [dif_pos q, dif_pos q]
    · rw [dif_neg q, dif_neg q, ih (n / 10) (by omega)]
theorem FormatUint_in (u : Nat) (w : World) (hu : u < 18446744073709551616) (hT : Tb w) :
    Calls Tryz.prog 96 #[.int .u64 (u : Int), .int .i64 10] w fun e w' => e = .returned (.string ⟨(dD u).toArray⟩) ∧ Keep w w' := by
  rw [← dec_dD u u (Nat.le_refl _)]
  by_cases h : u < 100
  · exact FormatUint_small u w h
  · exact FormatUint_great u w h hu hT
set_option maxRecDepth 100000 in
theorem FormatUint_any (u : Nat) (w : World) (hu : u < 18446744073709551616) (hT : Tb w) :
    Calls Tryz.prog 62 #[.int .u64 (u : Int), .int .i64 10] w fun e w' => e = .returned (.string ⟨(dD u).toArray⟩) ∧ Keep w w' := by
  have h := FormatUint_in u w hu hT
  generalize dD u = l at h ⊢
  go_enter Tryz.func62, Tryz.ntmps62
  go_wp2_with (go_at_call 96; refine h.mono ?_; rintro e w2 ⟨rfl, k2⟩)
  go_ret
  exact ⟨rfl, k2⟩
set_option maxRecDepth 100000 in
set_option maxHeartbeats 800000 in
theorem Print_any (v : Int) (w : World) (hv : I64 v) (hT : Tb w) :
    Calls Tryz.prog 36 #[.int .i64 v] w fun e w' => e = .returned (.string ⟨(prt v).toArray⟩) ∧ Keep w w' := by
  have hA := fun wx => (amount_any v hv wx).mono (fun e w' h => (⟨h.1, h.2.symm⟩ : e = .returned (.int .u64 (v.natAbs : Nat)) ∧ wx = w'))
  have hb := amt_lt hv
  obtain ⟨n, hn⟩ : ∃ n, v.natAbs = n := ⟨_, rfl⟩
  rw [hn] at hA hb
  obtain ⟨q, hq⟩ : ∃ q, n / 1000000 = q := ⟨_, rfl⟩
  obtain ⟨r, hr⟩ : ∃ r, n % 1000000 = r := ⟨_, rfl⟩
  have hqI : (n : Int) / 1000000 = (q : Int) := by omega
  have hrI : (n : Int) % 1000000 = (r : Int) := by omega
  have hr6 : r < 1000000 := by omega
  have hD1 := FormatUint_any q w (by omega) hT
  have hD2 := fun wx (kx : Keep w wx) => FormatUint_any (1000000 + r) wx (by omega) (keep_tab hT kx)
  rw [dD_tail hr6] at hD2
  have hcst : ((1000000 + r : Nat) : Int) = 1000000 + (r : Int) := by omega
  rw [hcst] at hD2
  have HP : Hid (prt v = (if v < 0 then [45] else []) ++ (dD q ++ if r = 0 then [] else 46 :: tr0 (pad6 (dD r)))) := by
    show _ = _
    unfold prt
    rw [hn, hq, hr]
  clear hn hq hr hcst
  obtain ⟨S, hS⟩ : ∃ S, dD q = S := ⟨_, rfl⟩
  have hSl : S.length ≤ 20 := by rw [← hS]; exact dD_len 19 q (by have : (10 : Nat) ^ 20 = 100000000000000000000 := by decide
                                                                  omega)
  obtain ⟨PD, hPD⟩ : ∃ PD, pad6 (dD r) = PD := ⟨_, rfl⟩
  have hPl : PD.length = 6 := by
    rw [← hPD]
    unfold pad6
    have := dD_len 5 r (by omega)
    simp
    omega
  rw [hS] at hD1 HP
  rw [hPD] at hD2 HP
  have hcut : ∀ wx, (Instr.slice 9 (.string ⟨(49 :: PD).toArray⟩) (some (.int .i64 1)) none none).run Tryz.prog wx = .ok (.string ⟨PD.toArray⟩) wx := fun wx => run_from (49 :: PD) 1 (by simp) wx
  have hTR := fun wx => (tr_of PD (by omega) wx).mono (fun e w' h => (⟨h.1, h.2.symm⟩ : e = .returned (.string ⟨(tr0 PD).toArray⟩) ∧ wx = w'))
  obtain ⟨R, hR⟩ : ∃ R, tr0 PD = R := ⟨_, rfl⟩
  have hRl : R.length ≤ 6 := by
    rw [← hR, ← hPl]
    unfold tr0
    rw [List.length_reverse]
    have := (List.dropWhile_suffix (fun b : UInt8 => b == 48) (l := PD.reverse)).length_le
    rw [List.length_reverse] at this
    exact this
  rw [hR] at hTR HP
  have sR : (ByteArray.mk R.toArray).size = R.length := sz_mk R
  have sS : (ByteArray.mk S.toArray).size = S.length := sz_mk S
  have s45 : (ByteArray.mk #[45]).size = 1 := rfl
  have s46 : (ByteArray.mk #[46]).size = 1 := rfl
  have hc1 : (ByteArray.mk #[46]) ++ (ByteArray.mk R.toArray) = ByteArray.mk (46 :: R).toArray := catB [46] R
  have s47 : (ByteArray.mk (46 :: R).toArray).size = R.length + 1 := by rw [sz_mk]; rfl
  have hc2 : (ByteArray.mk S.toArray) ++ (ByteArray.mk (46 :: R).toArray) = ByteArray.mk (S ++ 46 :: R).toArray := catB S (46 :: R)
  have s49 : (ByteArray.mk (S ++ 46 :: R).toArray).size = S.length + (R.length + 1) := by rw [sz_mk]; simp
  have hc3 : (ByteArray.mk #[45]) ++ (ByteArray.mk (S ++ 46 :: R).toArray) = ByteArray.mk (45 :: (S ++ 46 :: R)).toArray := catB [45] _
  have hc4 : (ByteArray.mk #[45]) ++ (ByteArray.mk S.toArray) = ByteArray.mk (45 :: S).toArray := catB [45] S
  have t1 : True := trivial
  clear hS hPD hR hPl
  by_cases hv0 : v < 0 <;> by_cases hr0 : r = 0
  · have hrb : ((r : Int) == 0) = true := by rw [hr0]; rfl
    rw [if_pos hv0, if_pos hr0] at HP
    clear hr0
    go_enter Tryz.func36, Tryz.ntmps36
    go_wp2_with (first
      | (go_at_call 33; refine (hA _).mono ?_; rintro e w2 ⟨rfl, rfl⟩)
      | (go_at_call 62; clear t1; refine hD1.mono ?_; rintro e w3 ⟨rfl, k3⟩; have K3 : Hid (Keep w w3) := k3; clear k3)
      | (go_at_call 62; refine (hD2 _ K3.out).mono ?_; rintro e w4 ⟨rfl, k4⟩; have K4 : Hid (Keep w w4) := K3.out.trans k4; clear k4)
      | (go_at_call 63; refine (hTR _).mono ?_; rintro e w5 ⟨rfl, rfl⟩))
    go_ret
    exact ⟨by rw [HP.out]; first | rfl | simp, K3.out⟩
  · have hrn : ¬ (r : Int) = 0 := by omega
    have hrb : ((r : Int) == 0) = false := by simpa using hrn
    rw [if_pos hv0, if_neg hr0] at HP
    clear hr0
    go_enter Tryz.func36, Tryz.ntmps36
    go_wp2_with (first
      | (go_at_call 33; refine (hA _).mono ?_; rintro e w2 ⟨rfl, rfl⟩)
      | (go_at_call 62; clear t1; refine hD1.mono ?_; rintro e w3 ⟨rfl, k3⟩; have K3 : Hid (Keep w w3) := k3; clear k3)
      | (go_at_call 62; refine (hD2 _ K3.out).mono ?_; rintro e w4 ⟨rfl, k4⟩; have K4 : Hid (Keep w w4) := K3.out.trans k4; clear k4)
      | (go_at_call 63; refine (hTR _).mono ?_; rintro e w5 ⟨rfl, rfl⟩))
    go_ret
    exact ⟨by rw [HP.out]; first | rfl | simp, K4.out⟩
  · have hrb : ((r : Int) == 0) = true := by rw [hr0]; rfl
    rw [if_neg hv0, if_pos hr0] at HP
    clear hr0
    go_enter Tryz.func36, Tryz.ntmps36
    go_wp2_with (first
      | (go_at_call 33; refine (hA _).mono ?_; rintro e w2 ⟨rfl, rfl⟩)
      | (go_at_call 62; clear t1; refine hD1.mono ?_; rintro e w3 ⟨rfl, k3⟩; have K3 : Hid (Keep w w3) := k3; clear k3)
      | (go_at_call 62; refine (hD2 _ K3.out).mono ?_; rintro e w4 ⟨rfl, k4⟩; have K4 : Hid (Keep w w4) := K3.out.trans k4; clear k4)
      | (go_at_call 63; refine (hTR _).mono ?_; rintro e w5 ⟨rfl, rfl⟩))
    go_ret
    exact ⟨by rw [HP.out]; first | rfl | simp, K3.out⟩
  · have hrn : ¬ (r : Int) = 0 := by omega
    have hrb : ((r : Int) == 0) = false := by simpa using hrn
    rw [if_neg hv0, if_neg hr0] at HP
    clear hr0
    go_enter Tryz.func36, Tryz.ntmps36
    go_wp2_with (first
      | (go_at_call 33; refine (hA _).mono ?_; rintro e w2 ⟨rfl, rfl⟩)
      | (go_at_call 62; clear t1; refine hD1.mono ?_; rintro e w3 ⟨rfl, k3⟩; have K3 : Hid (Keep w w3) := k3; clear k3)
      | (go_at_call 62; refine (hD2 _ K3.out).mono ?_; rintro e w4 ⟨rfl, k4⟩; have K4 : Hid (Keep w w4) := K3.out.trans k4; clear k4)
      | (go_at_call 63; refine (hTR _).mono ?_; rintro e w5 ⟨rfl, rfl⟩))
    go_ret
    exact ⟨by rw [HP.out]; first | rfl | simp, K4.out⟩
end Go.Proofs.YtgjhbolnnnibkaaGreatDoor
