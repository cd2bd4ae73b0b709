import Derived.Test.YtpdjpjkieafnbaaGreatDoorNS3
import Derived.Test.YtpdjpjkieafnbaaGreatDoorW5
import Derived.Test.YtpdjpjkieafnbaaGreatDoorNI1
import Derived.Test.YtpdjpjkieafnbaaGreatDoorH1
import Derived.Test.YtpdjpjkieafnbaaGreatDoorBC2
import Derived.Laws.Slices
import Derived.Laws.IdiomStrings
import Derived.Test.YtpdjpjkieafnbaaGreatDoorNW3
import Derived.Test.YtpdjpjkieafnbaaGreatDoorZ0
set_option linter.unusedVariables false
set_option linter.unusedSimpArgs false
namespace Go.Proofs.YtpdjpjkieafnbaaGreatDoor.Li
open Go.RowKit Lb Nr
set_option maxRecDepth 100000 in
theorem pow2_16 (w : World) : Calls Tryz.prog 191 #[.int .i64 16] w fun e w' => e = .returned (.bool true) ∧ w = w' := by
  go_enter Tryz.func191, Tryz.ntmps191
  go_wp2_with fail
  go_ret
  exact ⟨rfl, rfl⟩
set_option maxRecDepth 100000 in
theorem tz_16 (w : World) (hT : Bi.Tab w) : Calls Tryz.prog 192 #[.int .u64 16] w fun e w' => e = .returned (.int .i64 4) ∧ w = w' := by
  have h := Bi.tz_any 16 (by omega) (by omega) w hT
  rw [show Lib.ctz 64 16 = 4 by decide +kernel] at h
  go_enter Tryz.func192, Tryz.ntmps192
  go_wp2_with (go_at_call 105; refine h.mono ?_; rintro e w2 ⟨rfl, rfl⟩)
  go_ret
  exact ⟨rfl, rfl⟩
/-- Hexadecimal digits. -/
def hd (d : Nat) : UInt8 := UInt8.ofNat (if d < 10 then 48 + d else 87 + d)
def hxD (n : Nat) : List UInt8 := if h : n < 16 then [hd n] else hxD (n / 16) ++ [hd (n % 16)]
termination_by n
decreasing_by omega
theorem hxD_small {n : Nat} (h : n < 16) : hxD n = [hd n] := by rw [hxD, dif_pos h]
theorem hxD_step {n : Nat} (h : ¬ n < 16) : hxD n = hxD (n / 16) ++ [hd (n % 16)] := by rw [hxD, dif_neg h]
/-- The end of an array of bytes. -/
def Ar (w : World) (g i : Nat) (t : List UInt8) : Prop := ∃ cur, w.heap[g]? = some (.cells cur 221 (0, 0)) ∧ cur.size = 65 ∧ i + t.length = 65 ∧ cur.toList.drop i = t.map (fun b : UInt8 => Value.int .u8 (b.toNat : Int))
theorem Ar.at {w : World} {g i : Nat} {t : List UInt8} (h : Ar w g i t) (k : Nat) (hk : k < 65) : (∃ v, w.cell? ⟨g, k, none⟩ = some v) ∧ w.frozen? ⟨g, k, none⟩ = false := by
  obtain ⟨cur, hh, hs, -, -⟩ := h
  refine ⟨⟨cur[k]'(by omega), ?_⟩, frozen_of_row w g k _ 221 hh⟩
  rw [cell_of_row w g k _ 221 (0, 0) hh]
  exact Array.getElem?_eq_getElem (by omega)
theorem Ar.put {w : World} {g k : Nat} {t : List UInt8} (h : Ar w g (k + 1) t) (c : UInt8) : Ar (w.setCell ⟨g, k, none⟩ (.int .u8 (c.toNat : Int))) g k (c :: t) := by
  obtain ⟨cur, hh, hs, hl, hd⟩ := h
  refine ⟨_, heap_setCell_same w g k _ 221 _ hh, by simpa using hs, by rw [List.length_cons]; omega, ?_⟩
  rw [Array.toList_setIfInBounds, List.map_cons]
  have hk : k < (cur.toList.set k (Value.int .u8 (c.toNat : Int))).length := by simp; omega
  rw [List.drop_eq_getElem_cons hk, List.getElem_set_self]
  congr 1
  rw [List.drop_set_of_lt (by omega)]
  exact hd
theorem Ar.get {w : World} {g i : Nat} {t : List UInt8} (h : Ar w g i t) (j : Nat) (hj : j < t.length) : w.cell? ⟨g, i + j, none⟩ = some (.int .u8 ((t[j]'hj).toNat : Int)) := by
  obtain ⟨cur, hh, hs, hl, hd⟩ := h
  rw [cell_of_row w g (i + j) _ 221 (0, 0) hh, ← Array.getElem?_toList, ← List.getElem?_drop, hd]
  simp [hj]
set_option maxRecDepth 100000 in
theorem hd_ix (d : Nat) (h : d < 16) (w : World) : (Instr.index 9 (.string ⟨#[48, 49, 50, 51, 52, 53, 54, 55, 56, 57, 97, 98, 99, 100, 101, 102, 103, 104, 105, 106, 107, 108, 109, 110, 111, 112, 113, 114, 115, 116, 117, 118, 119, 120, 121, 122]⟩) (.int .u64 (d : Int))).run Tryz.prog w = .ok (.int .u8 ((hd d).toNat : Int)) w := by
  have key : d = 0 ∨ d = 1 ∨ d = 2 ∨ d = 3 ∨ d = 4 ∨ d = 5 ∨ d = 6 ∨ d = 7 ∨ d = 8 ∨ d = 9 ∨ d = 10 ∨ d = 11 ∨ d = 12 ∨ d = 13 ∨ d = 14 ∨ d = 15 := by omega
  rcases key with rfl | rfl | rfl | rfl | rfl | rfl | rfl | rfl | rfl | rfl | rfl | rfl | rfl | rfl | rfl | rfl
  all_goals rfl
theorem and15 (v : Nat) (hv : v < 18446744073709551616) : bits .and .u64 (v : Int) 15 = ((v % 16 : Nat) : Int) := by
  have := u64_and_nat v 15 hv (by omega)
  rw [show v &&& 15 = v % 16 from Nat.and_two_pow_sub_one_eq_mod v 4] at this
  exact this
theorem hxD_len (k : Nat) : ∀ n, n < 16 ^ (k + 1) → (hxD n).length ≤ k + 1 := by
  induction k with
  | zero => intro n h; rw [hxD_small (by simpa using h)]; simp
  | succ k ih =>
    intro n h
    by_cases q : n < 16
    · rw [hxD_small q]; simp
    · rw [hxD_step q, List.length_append]
      have h1 : n / 16 < 16 ^ (k + 1) := by
        rw [Nat.div_lt_iff_lt_mul (by omega), ← Nat.pow_succ]
        exact h
      have := ih _ h1
      simp
      omega
theorem hxD_16 {n : Nat} (h : n < 18446744073709551616) : (hxD n).length ≤ 16 := hxD_len 15 n (by rw [show (16 : Nat) ^ (15 + 1) = 18446744073709551616 by decide]; exact h)
set_option maxRecDepth 100000 in
set_option maxHeartbeats 1000000 in
theorem formatBits_16 (u : Nat) (w : World) (hu : u < 18446744073709551616) (hT : ∀ wx, Keep w wx → Bi.Tab wx) :
    Calls Tryz.prog 176 #[.slice none 0 0, .int .u64 (u : Int), .int .i64 16, .bool false, .bool false] w fun e w' => e = .returned (.tuple #[.slice none 0 0, .string ⟨(hxD u).toArray⟩]) ∧ Keep w w' := by
  have hLen : Hid ((hxD u).length ≤ 16) := hxD_16 hu
  go_enter Tryz.func176, Tryz.ntmps176
  go_wp2_with (first
    | (go_at_call 191; refine (pow2_16 _).mono ?_; rintro e w2 ⟨rfl, rfl⟩)
    | (go_at_call 192; refine (tz_16 _ (hT _ ((Keep.refl w).alloc _))).mono ?_; rintro e w3 ⟨rfl, rfl⟩))
  go_loopg [1, 13] (u) (fun g v1 v13 wx => ∃ (i : Nat) (t : List UInt8), v1 = .int .u64 (g : Int) ∧ v13 = .int .i64 (i : Int) ∧ g < 18446744073709551616 ∧ Hid (hxD g ++ t = hxD u) ∧ Ar wx w.heap.size i t ∧ Keep w wx)
  case atStart => exact ⟨65, [], rfl, rfl, hu, by unfold Hid; rw [List.append_nil], ⟨_, heap_alloc_new w _, rfl, rfl, rfl⟩, (Keep.refl w).alloc _⟩
  case round =>
    obtain ⟨i, t, rfl, rfl, hg, ht, hA, hkp⟩ := hrel
    have htl : t.length ≤ 15 := by
      have h1 := congrArg List.length ht.out
      rw [List.length_append] at h1
      have h2 := hLen.out
      have h3 : 0 < (hxD gk).length := by
        by_cases c : gk < 16
        · rw [hxD_small c]; simp
        · rw [hxD_step c]; simp
      omega
    obtain ⟨k, rfl⟩ : ∃ k, i = k + 1 := by
      obtain ⟨cur, -, -, hl, -⟩ := hA
      exact ⟨i - 1, by omega⟩
    have hk65 : k < 65 := by
      obtain ⟨cur, -, -, hl, -⟩ := hA
      omega
    obtain ⟨⟨cv, hcv⟩, hfz⟩ := hA.at k hk65
    have hidx : ((k + 1 : Nat) : Int) - 1 = (k : Int) := by omega
    have HA : Hid (Ar wr w.heap.size (k + 1) t) := hA
    have HK : Hid (Keep w wr) := hkp
    have hkI : (0 : Int) ≤ (k : Int) ∧ (k : Int) < 65 := by omega
    by_cases c : gk < 16
    · have hix := fun wx => hd_ix gk c wx
      have c1 : decide (16 ≤ gk) = false := decide_eq_false (by omega)
      have HT : Hid (hd gk :: t = hxD u) := by unfold Hid; rw [← ht.out, hxD_small c]; rfl
      generalize hd gk = ch at *
      clear hA hkp ht htl
      have hal : Tryz.prog.arrayLen 221 = 65 := by simp [Program.arrayLen, Tryz.underlying221]
      have hsl : ∀ W, (Instr.sliceAt 221 (.pointer (some ⟨w.heap.size, 0, none⟩)) (some (.int .i64 (k : Int))) none none).run Tryz.prog W = .ok (.slice (some ⟨w.heap.size, k, none⟩) (65 - k) (65 - k)) W := fun W => by
        rw [run_sliceAt_array_l W 221 ⟨w.heap.size, 0, none⟩ (by simp [Program.arrayLen, Program.elem, Tryz.underlying221]) .i64 (k : Int) (by omega) (by rw [hal]; omega)]
        go_simp
        intro q
        omega
      have hA2 := HA.out.put ch
      have hlen2 : (ch :: t).length = 65 - k := by obtain ⟨cur, -, -, hl, -⟩ := hA2; omega
      obtain ⟨w5, hw5⟩ : ∃ w5, wr.setCell ⟨w.heap.size, k, none⟩ (.int .u8 (ch.toNat : Int)) = w5 := ⟨_, rfl⟩
      rw [hw5] at hA2
      have HK5 : Hid (Keep w w5) := by rw [← hw5]; exact HK.out.setCell (Nat.le_refl _) _
      have hcv : (convert 61 9 (.slice (some ⟨w.heap.size, k, none⟩) (65 - k) (65 - k))).run Tryz.prog w5 = .ok (.string ⟨(hxD u).toArray⟩) w5 := by
        have h := run_convert_bytes_back (P := Tryz.prog) w5 61 9 5 ⟨w.heap.size, k, none⟩ (65 - k) (ch :: t) Tryz.underlying61 Tryz.underlying5 Tryz.underlying9 (fun j hj => by
          rw [Lib.add_plain]
          exact hA2.get j hj)
        rw [hlen2, HT.out] at h
        exact h
      clear hA2 hlen2 hal
      go_wp2_with fail
      all_goals go_ret2
      all_goals exact ⟨rfl, HK5.out⟩
    · have hix := fun wx => hd_ix (gk % 16) (Nat.mod_lt _ (by omega)) wx
      have hand := and15 gk hg
      have c1 : decide (16 ≤ gk) = true := decide_eq_true (by omega)
      have HT : Hid (hxD (gk / 16) ++ (hd (gk % 16) :: t) = hxD u) := by unfold Hid; rw [← ht.out, hxD_step c, List.append_assoc]; rfl
      have hdv : Hid (gk / 16 < 18446744073709551616 ∧ gk / 16 < gk) := ⟨by omega, by omega⟩
      generalize gk % 16 = dd at *
      generalize hd dd = ch at *
      clear hA hkp ht htl
      go_wp2_with fail
      go_roundg (gk / 16)
      case measure => exact hdv.out.2
      case rel => exact ⟨k, ch :: t, by simp, rfl, hdv.out.1, HT, HA.out.put ch, HK.out.setCell (Nat.le_refl _) _⟩
end Go.Proofs.YtpdjpjkieafnbaaGreatDoor.Li
set_option linter.unusedVariables false
set_option linter.unusedSimpArgs false
namespace Go.Proofs.YtpdjpjkieafnbaaGreatDoor.Li
open Go.RowKit Lb Nr
set_option maxRecDepth 100000 in
theorem FU_16 (u : Nat) (w : World) (hu : u < 18446744073709551616) (hT : ∀ wx, Keep w wx → Bi.Tab wx) :
    Calls Tryz.prog 101 #[.int .u64 (u : Int), .int .i64 16] w fun e w' => e = .returned (.string ⟨(hxD u).toArray⟩) ∧ Keep w w' := by
  have h0 := formatBits_16 u w hu hT
  have h : Calls Tryz.prog 146 #[.int .u64 (u : Int), .int .i64 16] w fun e w' => e = .returned (.string ⟨(hxD u).toArray⟩) ∧ Keep w w' := by
    generalize hxD u = l at h0 ⊢
    go_enter Tryz.func146, Tryz.ntmps146
    go_wp2_with (go_at_call 176; refine h0.mono ?_; rintro e w2 ⟨rfl, k2⟩)
    go_ret
    exact ⟨rfl, k2⟩
  generalize hxD u = l at h ⊢
  go_enter Tryz.func101, Tryz.ntmps101
  go_wp2_with (go_at_call 146; refine h.mono ?_; rintro e w2 ⟨rfl, k2⟩)
  go_ret
  exact ⟨rfl, k2⟩
/-- A number's hexadecimal text. -/
def hxT (m : Nat) (e : Int) : List UInt8 := [48, 120] ++ dD (m / 4503599627370496) ++ ((if m % 4503599627370496 = 0 then [] else 46 :: Lib.trimRightB ((hxD (4503599627370496 + m % 4503599627370496)).drop 1) 48) ++ (112 :: wsT (e + 52)))
set_option maxRecDepth 100000 in
set_option maxHeartbeats 1000000 in
theorem hexDigits_any (m : Nat) (e : Int) (w : World) (hm : m < 9007199254740992) (he : -2000 ≤ e ∧ e ≤ 2000) (hT : ∀ wx, Keep w wx → Bi.Tab wx) (hP : ∀ wx, Keep w wx → Lib.TabIs Tryz.prog wx "internal/strconv.uint64pow10" .u64 Lib.pow10Tab) :
    Calls Tryz.prog 67 #[.int .u64 (m : Int), .int .i64 e] w fun r w' => r = .returned (.string ⟨(hxT m e).toArray⟩) ∧ Keep w w' := by
  have hb := fun wx => binary64_any wx
  have htop : m / 4503599627370496 < 100 := by omega
  have hF := fun wx => FU_few (m / 4503599627370496) wx htop
  rw [decDigits_dD _ _ (Nat.le_refl _)] at hF
  have hkp : m % 4503599627370496 < 4503599627370496 := Nat.mod_lt _ (by omega)
  have hand : bits .and .u64 (m : Int) 4503599627370495 = ((m % 4503599627370496 : Nat) : Int) := and52 m (by omega)
  have hor := or52 (m % 4503599627370496) hkp
  have hG := fun wx (k : Keep w wx) => FU_16 (4503599627370496 + m % 4503599627370496) wx (by omega) (fun wy ky => hT wy (k.trans ky))
  have hW := fun wx (k : Keep w wx) => withSign_any (e + 52) wx (by omega) (hP wx k)
  have hx16 : (hxD (4503599627370496 + m % 4503599627370496)).length ≤ 16 := hxD_16 (by omega)
  have hwl := wsT_len (e + 52) (by omega)
  have htl : (dD (m / 4503599627370496)).length ≤ 5 := dD_few (by omega)
  have hdiv : ((m : Int) / 4503599627370496) = ((m / 4503599627370496 : Nat) : Int) := by omega
  have we : IntKind.i64.wrap (e + 52) = e + 52 := by rw [IntWalk.i64_left]; exact IntWalk.wrap64_in _ (by omega)
  have HD : Hid (hxT m e = [48, 120] ++ dD (m / 4503599627370496) ++ ((if m % 4503599627370496 = 0 then [] else 46 :: Lib.trimRightB ((hxD (4503599627370496 + m % 4503599627370496)).drop 1) 48) ++ (112 :: wsT (e + 52)))) := rfl
  generalize hws : wsT (e + 52) = ws at *
  generalize hdt : dD (m / 4503599627370496) = dt at *
  generalize hxd : hxD (4503599627370496 + m % 4503599627370496) = D1 at *
  generalize m / 4503599627370496 = tp at *
  generalize 4503599627370496 + m % 4503599627370496 = m2 at *
  have hw : (ByteArray.mk ws.toArray).size = ws.length := sz_mk ws
  have hd : (ByteArray.mk dt.toArray).size = dt.length := sz_mk dt
  obtain ⟨A1, hA1⟩ : ∃ A, [48, 120] ++ dt = A := ⟨_, rfl⟩
  have hc1 : ByteArray.mk #[48, 120] ++ ByteArray.mk dt.toArray = ⟨A1.toArray⟩ := by rw [← hA1]; exact catB [48, 120] dt
  have hl1 : (ByteArray.mk A1.toArray).size = A1.length := sz_mk A1
  have hA1l : A1.length ≤ 7 := by rw [← hA1, List.length_append]; show 2 + _ ≤ _; omega
  rw [hA1] at HD
  have htr := fun wx => Tryz.strings_TrimRight_one ⟨(D1.drop 1).toArray⟩ 48 (by decide) wx (by rw [sz_mk, List.length_drop]; omega)
  rw [dt_mk] at htr
  have htrl : (Lib.trimRightB (D1.drop 1) 48).length ≤ 16 := by
    have h1 : (Lib.trimRightB (D1.drop 1) 48).length ≤ (D1.drop 1).length := by
      unfold Lib.trimRightB
      rw [List.length_reverse]
      have h2 := (List.dropWhile_suffix (fun c : UInt8 => c == 48) (l := (D1.drop 1).reverse)).length_le
      rw [List.length_reverse] at h2
      exact h2
    rw [List.length_drop] at h1
    omega
  have hcut : D1 ≠ [] → ∀ wx, (Instr.slice 9 (.string ⟨D1.toArray⟩) (some (.int .i64 1)) none none).run Tryz.prog wx = .ok (.string ⟨(D1.drop 1).toArray⟩) wx := fun q wx => run_from D1 1 (List.length_pos_iff.2 q) wx
  have hD1 : D1 ≠ [] := by
    intro q
    rw [q] at hxd
    by_cases c : m2 < 16
    · rw [hxD_small c] at hxd; cases hxd
    · rw [hxD_step c] at hxd; exact absurd hxd (by simp)
  have hcut := hcut hD1
  generalize D1.drop 1 = D2 at *
  generalize Lib.trimRightB D2 48 = T3 at *
  clear hdt hxd hD1 hws hx16
  by_cases c0 : m % 4503599627370496 = 0
  · rw [if_pos c0, List.nil_append] at HD
    obtain ⟨A3, hA3⟩ : ∃ A, A1 ++ [112] = A := ⟨_, rfl⟩
    have hc3 : ByteArray.mk A1.toArray ++ ByteArray.mk #[112] = ⟨A3.toArray⟩ := by rw [← hA3]; exact catB A1 [112]
    have hl3 : (ByteArray.mk A3.toArray).size = A3.length := sz_mk A3
    have hA3l : A3.length ≤ 8 := by rw [← hA3, List.length_append]; show _ + 1 ≤ _; omega
    obtain ⟨A4, hA4⟩ : ∃ A, A3 ++ ws = A := ⟨_, rfl⟩
    have hc4 : ByteArray.mk A3.toArray ++ ByteArray.mk ws.toArray = ⟨A4.toArray⟩ := by rw [← hA4]; exact catB A3 ws
    have HD2 : Hid (hxT m e = A4) := by unfold Hid; rw [HD.out, ← hA4, ← hA3]; simp
    rw [HD2.out]
    have k0 : (((m % 4503599627370496 : Nat) : Int) != 0) = false := by rw [c0]; rfl
    generalize m % 4503599627370496 = kp at *
    clear HD HD2 hA1 hA3 hA4 c0
    go_enter Tryz.func67, Tryz.ntmps67
    go_wp2_with fail
    refine (hb _).mono ?_
    rintro r w1 ⟨rfl, k1⟩
    obtain ⟨w2, hw2⟩ : ∃ w2, w1.alloc (.cells #[.int .i64 52, .int .i64 2047, .int .i64 (-1074)] 85) = w2 := ⟨_, rfl⟩
    have F2 : Fm w2 w1.heap.size := by rw [← hw2]; exact Fm.new w1
    have k2 : Keep w1 w2 := by rw [← hw2]; exact (Keep.refl w1).alloc _
    obtain ⟨f0, f1, f2⟩ := F2.cells
    have k12 := k1.trans k2
    go_wp2_with fail
    refine (hF _).mono ?_
    rintro r w3 ⟨rfl, k3⟩
    obtain ⟨g0, g1, g2⟩ := (F2.keep k3).cells
    have k13 := k12.trans k3
    go_wp2_with fail
    refine (hW _ k13).mono ?_
    rintro r w4 ⟨rfl, k4⟩
    go_wp2_with fail
    go_ret
    exact ⟨rfl, k13.trans k4⟩
  · rw [if_neg c0] at HD
    obtain ⟨B1, hB1⟩ : ∃ B, [46] ++ T3 = B := ⟨_, rfl⟩
    have hcB : ByteArray.mk #[46] ++ ByteArray.mk T3.toArray = ⟨B1.toArray⟩ := by rw [← hB1]; exact catB [46] T3
    have hlT : (ByteArray.mk T3.toArray).size = T3.length := sz_mk T3
    have hlB : (ByteArray.mk B1.toArray).size = B1.length := sz_mk B1
    have hB1l : B1.length ≤ 17 := by rw [← hB1, List.length_append]; show 1 + _ ≤ _; omega
    obtain ⟨A2, hA2⟩ : ∃ A, A1 ++ B1 = A := ⟨_, rfl⟩
    have hc2 : ByteArray.mk A1.toArray ++ ByteArray.mk B1.toArray = ⟨A2.toArray⟩ := by rw [← hA2]; exact catB A1 B1
    have hl2 : (ByteArray.mk A2.toArray).size = A2.length := sz_mk A2
    have hA2l : A2.length ≤ 24 := by rw [← hA2, List.length_append]; omega
    obtain ⟨A3, hA3⟩ : ∃ A, A2 ++ [112] = A := ⟨_, rfl⟩
    have hc3 : ByteArray.mk A2.toArray ++ ByteArray.mk #[112] = ⟨A3.toArray⟩ := by rw [← hA3]; exact catB A2 [112]
    have hl3 : (ByteArray.mk A3.toArray).size = A3.length := sz_mk A3
    have hA3l : A3.length ≤ 25 := by rw [← hA3, List.length_append]; show _ + 1 ≤ _; omega
    obtain ⟨A4, hA4⟩ : ∃ A, A3 ++ ws = A := ⟨_, rfl⟩
    have hc4 : ByteArray.mk A3.toArray ++ ByteArray.mk ws.toArray = ⟨A4.toArray⟩ := by rw [← hA4]; exact catB A3 ws
    have HD2 : Hid (hxT m e = A4) := by unfold Hid; rw [HD.out, ← hA4, ← hA3, ← hA2, ← hB1]; simp
    rw [HD2.out]
    have k0 : (((m % 4503599627370496 : Nat) : Int) != 0) = true := by rw [bne_iff_ne]; omega
    generalize m % 4503599627370496 = kp at *
    clear HD HD2 hA1 hA2 hA3 hA4 hB1 c0
    go_enter Tryz.func67, Tryz.ntmps67
    go_wp2_with fail
    refine (hb _).mono ?_
    rintro r w1 ⟨rfl, k1⟩
    obtain ⟨w2, hw2⟩ : ∃ w2, w1.alloc (.cells #[.int .i64 52, .int .i64 2047, .int .i64 (-1074)] 85) = w2 := ⟨_, rfl⟩
    have F2 : Fm w2 w1.heap.size := by rw [← hw2]; exact Fm.new w1
    have k2 : Keep w1 w2 := by rw [← hw2]; exact (Keep.refl w1).alloc _
    obtain ⟨f0, f1, f2⟩ := F2.cells
    have k12 := k1.trans k2
    go_wp2_with fail
    refine (hF _).mono ?_
    rintro r w3 ⟨rfl, k3⟩
    obtain ⟨g0, g1, g2⟩ := (F2.keep k3).cells
    have k13 := k12.trans k3
    go_wp2_with fail
    refine (hG _ k13).mono ?_
    rintro r w4 ⟨rfl, k4⟩
    obtain ⟨i0, i1, i2⟩ := ((F2.keep k3).keep k4).cells
    have k14 := k13.trans k4
    go_wp2_with fail
    refine (htr _).mono ?_
    rintro r w5 ⟨rfl, hz⟩
    subst hz
    go_wp2_with fail
    refine (hW _ k14).mono ?_
    rintro r w6 ⟨rfl, k6⟩
    go_wp2_with fail
    go_ret
    exact ⟨rfl, k14.trans k6⟩
end Go.Proofs.YtpdjpjkieafnbaaGreatDoor.Li
set_option linter.unusedVariables false
set_option linter.unusedSimpArgs false
namespace Go.Proofs.YtpdjpjkieafnbaaGreatDoor.Li
open Go.RowKit Lb Nr
set_option maxRecDepth 100000 in
theorem binary32_any (w : World) : Calls Tryz.prog 56 #[] w fun e w' => e = .returned (.agg #[.int .i64 23, .int .i64 255, .int .i64 (-149)]) ∧ Keep w w' := by
  go_enter Tryz.func56, Tryz.ntmps56
  go_wp2_with fail
  refine bodyPost_ret (results_cell_row rfl _ _ w.heap.size 85 _ (0, 0) _ rfl (heap_alloc_new w _) Tryz.underlying85 rfl (by kernel_rfl)) rfl ?_
  exact ⟨rfl, (Keep.refl w).alloc _⟩
theorem f32from (x : Nat) (w : World) : (callFunc 28 #[.int .u32 (x : Nat)]).run Tryz.prog w = .ok (.value (.float .f32 x)) w := by
  rw [run_callFunc_extern Tryz.func28 (by kernel_rfl) (by kernel_rfl) (by kernel_rfl) (e := Extern.MathFloatBits.float32frombits) (by kernel_rfl)]
  rfl
theorem allX.app {a b : List UInt8} (ha : allX a) (hb : allX b) : allX (a ++ b) := by
  intro x hx
  rcases List.mem_append.1 hx with q | q
  · exact ha x q
  · exact hb x q
theorem hnat_zeros (k : Nat) : hnat (List.replicate k 48) = 0 := by
  induction k with
  | zero => rfl
  | succ k ih => rw [List.replicate_succ, hnat_cons, ih]; simp [hv, dgO]
theorem hd_hv : ∀ d, d < 16 → hv (hd d) = d ∧ isX true (hd d) = true := by decide
theorem hxD_one (k : Nat) : ∀ r, r < 16 ^ k → ∃ X : List UInt8, hxD (16 ^ k + r) = hd 1 :: X ∧ X.length = k ∧ hnat X = r ∧ allX X := by
  induction k with
  | zero =>
    intro r hr
    have : r = 0 := by rw [Nat.pow_zero] at hr; omega
    subst this
    exact ⟨[], hxD_small (by decide), rfl, rfl, fun b hb => by simp at hb⟩
  | succ k ih =>
    intro r hr
    rw [Nat.pow_succ] at hr
    obtain ⟨X, h1, h2, h3, h4⟩ := ih (r / 16) (by omega)
    have hp : 0 < 16 ^ k := Nat.pow_pos (by decide)
    have e1 : (16 ^ (k + 1) + r) / 16 = 16 ^ k + r / 16 := by rw [Nat.pow_succ]; omega
    have e2 : (16 ^ (k + 1) + r) % 16 = r % 16 := by rw [Nat.pow_succ]; omega
    have hq := hd_hv (r % 16) (Nat.mod_lt _ (by omega))
    refine ⟨X ++ [hd (r % 16)], ?_, by simp [h2], ?_, ?_⟩
    · rw [hxD_step (by rw [Nat.pow_succ]; omega), e1, e2, h1]; rfl
    · rw [hnat_append, h3]
      show r / 16 * 16 ^ 1 + (0 * 16 + hv (hd (r % 16))) = r
      rw [hq.1]
      omega
    · exact allX.app h4 (fun b hb => by simp at hb; rw [hb]; exact hq.2)
/-- What Hex keeps behind the point. -/
theorem hx_kept {r : Nat} (h : r < 4503599627370496) (h0 : r ≠ 0) : ∃ B : List UInt8, Lib.trimRightB ((hxD (4503599627370496 + r)).drop 1) 48 = B ∧ B ≠ [] ∧ allX B ∧ B.length ≤ 13 ∧ hnat B * 16 ^ (13 - B.length) = r := by
  obtain ⟨X, h1, h2, h3, h4⟩ := hxD_one 13 r h
  have e : (4503599627370496 : Nat) = 16 ^ 13 := by decide
  rw [e, h1]
  show ∃ B, tr0 X = B ∧ _
  obtain ⟨q, hq⟩ := tr0_split X
  generalize tr0 X = B at hq
  have hl : B.length + q = 13 := by rw [← h2, hq]; simp
  have hn : hnat B * 16 ^ q = r := by
    rw [← h3, hq, hnat_append, hnat_zeros, List.length_replicate]; rfl
  refine ⟨B, rfl, ?_, ?_, by omega, ?_⟩
  · intro z
    rw [z] at hn
    apply h0
    rw [← hn]
    show 0 * _ = 0
    exact Nat.zero_mul _
  · intro b hb
    refine h4 b ?_
    rw [hq]
    exact List.mem_append_left _ hb
  · rw [show 13 - B.length = q by omega]; exact hn
theorem dD_bit {t : Nat} (h : t < 2) : allX (dD t) ∧ dD t ≠ [] ∧ hnat (dD t) = t ∧ (dD t).length = 1 := by
  have : t = 0 ∨ t = 1 := by omega
  rcases this with rfl | rfl
  · rw [show dD 0 = [48] by rw [dD, dif_pos (by omega)]; rfl]
    exact ⟨fun b hb => by simp at hb; rw [hb]; decide, by simp, by decide, rfl⟩
  · rw [show dD 1 = [49] by rw [dD, dif_pos (by omega)]; rfl]
    exact ⟨fun b hb => by simp at hb; rw [hb]; decide, by simp, by decide, rfl⟩
theorem amount_partsB (x : Nat) (ng : Bool) (hx : x < 9218868437227405313) : pM (x + sg ng) = pM x ∧ pE (x + sg ng) = pE x ∧ pKind (x + sg ng) = pKind x := by
  have h1 : pField (x + sg ng) = pField x := by unfold pField sg; split <;> omega
  have h2 : pKept (x + sg ng) = pKept x := by unfold pKept sg; split <;> omega
  unfold pM pE pKind
  rw [h1, h2]
  exact ⟨rfl, rfl, rfl⟩
end Go.Proofs.YtpdjpjkieafnbaaGreatDoor.Li
namespace Go.Proofs.YtpdjpjkieafnbaaGreatDoor.Li.Nw
open Go.RowKit Lb Nr
theorem f32bitsB (x : Nat) (w : World) : (callFunc 31 #[.float .f32 x]).run Tryz.prog w = .ok (.value (.int .u32 (x : Nat))) w := by
  rw [run_callFunc_extern Tryz.func31 (by kernel_rfl) (by kernel_rfl) (by kernel_rfl) (e := Extern.MathFloatBits.float32bits) (by kernel_rfl)]
  rfl
end Go.Proofs.YtpdjpjkieafnbaaGreatDoor.Li.Nw
namespace Go.Proofs.YtpdjpjkieafnbaaGreatDoor.Li
open Go.RowKit Lb Nr
/-- The amount of a number's bits. -/
theorem amount_of {b : Nat} (hb : b < 18446744073709551616) : b = b % 9223372036854775808 + sg (pNeg b) := by
  unfold sg pNeg
  by_cases c : 9223372036854775808 ≤ b
  · rw [if_pos (decide_eq_true c)]; omega
  · rw [if_neg (by simpa using c)]; omega
theorem kind_field {b : Nat} (hk : pKind b = 1 ∨ pKind b = 2) : pField b ≠ 2047 := by
  intro q
  unfold pKind at hk
  rw [if_pos q] at hk
  split at hk <;> omega
end Go.Proofs.YtpdjpjkieafnbaaGreatDoor.Li
namespace Go.Proofs.YtpdjpjkieafnbaaGreatDoor.Li.Nw
open Go.RowKit Lb Nr
theorem amount_parts (x : Nat) (ng : Bool) (hx : x < 2139095041) : pM (x + sg ng) = pM x ∧ pE (x + sg ng) = pE x ∧ pKind (x + sg ng) = pKind x := by
  have h1 : pField (x + sg ng) = pField x := by unfold pField sg; split <;> omega
  have h2 : pKept (x + sg ng) = pKept x := by unfold pKept sg; split <;> omega
  unfold pM pE pKind
  rw [h1, h2]
  exact ⟨rfl, rfl, rfl⟩
/-- The amount of a number's bits. -/
theorem amount_of {b : Nat} (hb : b < 4294967296) : b = b % 2147483648 + sg (pNeg b) := by
  unfold sg pNeg
  by_cases c : 2147483648 ≤ b
  · rw [if_pos (decide_eq_true c)]; omega
  · rw [if_neg (by simpa using c)]; omega
theorem kind_field {b : Nat} (hk : pKind b = 1 ∨ pKind b = 2) : pField b ≠ 255 := by
  intro q
  unfold pKind at hk
  rw [if_pos q] at hk
  split at hk <;> omega
end Go.Proofs.YtpdjpjkieafnbaaGreatDoor.Li.Nw
namespace Go.Proofs.YtpdjpjkieafnbaaGreatDoor.Li
open Go.RowKit Lb Nr
set_option maxRecDepth 100000 in
set_option maxHeartbeats 800000 in
theorem shortest_named (b : Nat) (w : World) (hb : b < 18446744073709551616) (hk : pKind b = 0 ∨ pKind b = 3 ∨ pKind b = 4) :
    Calls Tryz.prog 57 #[.agg #[.int .i64 52, .int .i64 2047, .int .i64 (-1074)], .int .u64 (b : Int)] w fun e w' => e = .returned (.string ⟨(exS b).toArray⟩) ∧ Keep w w' := by
  have hP := fun wx => parts_any b hb wx
  unfold exS
  generalize pM b = m at *
  generalize pE b = e at *
  generalize pNeg b = ng at *
  obtain ⟨w1, hw1⟩ : ∃ w1, w.alloc (.cells #[.int .i64 52, .int .i64 2047, .int .i64 (-1074)] 85) = w1 := ⟨_, rfl⟩
  have k1 : Keep w w1 := by rw [← hw1]; exact (Keep.refl w).alloc _
  have F1 : Fm w1 w.heap.size := by rw [← hw1]; exact Fm.new w
  obtain ⟨f0, f1, f2⟩ := F1.cells
  have HF1 : Hid (Fm w1 w.heap.size) := F1
  clear F1
  rcases hk with hk | hk | hk
  · rw [hk, if_neg (by omega)]
    have hN := fun wx => named_any 0 (by omega) wx
    have e0 : nmS 0 = [48] := rfl
    rw [e0] at hN
    rw [e0]
    have hS := fun wx => signedF_any ng 0 [48] (by omega) (by simp) wx
    obtain ⟨Y, hY⟩ : ∃ Y, sgS ng [48] = Y := ⟨_, rfl⟩
    rw [hY] at hS
    rw [hY]
    rw [hk] at hP
    clear hk hY e0
    go_enter Tryz.func57, Tryz.ntmps57
    go_wp2_with fail
    refine (hP _).mono ?_
    rintro r w2 ⟨rfl, k2⟩
    go_wp2_with fail
    refine (hN _).mono ?_
    rintro r w3 ⟨rfl, hz⟩
    subst hz
    go_wp2_with fail
    refine (hS _).mono ?_
    rintro r w4 ⟨rfl, hz⟩
    subst hz
    go_wp2_with fail
    go_ret
    exact ⟨rfl, k1.trans k2⟩
  · rw [hk, if_neg (by omega)]
    have hN := fun wx => named_any 3 (by omega) wx
    have e0 : nmS 3 = [105, 110, 102] := rfl
    rw [e0] at hN
    rw [e0]
    have hS := fun wx => signedF_any ng 3 [105, 110, 102] (by omega) (by simp) wx
    obtain ⟨Y, hY⟩ : ∃ Y, sgS ng [105, 110, 102] = Y := ⟨_, rfl⟩
    rw [hY] at hS
    rw [hY]
    rw [hk] at hP
    clear hk hY e0
    go_enter Tryz.func57, Tryz.ntmps57
    go_wp2_with fail
    refine (hP _).mono ?_
    rintro r w2 ⟨rfl, k2⟩
    go_wp2_with fail
    refine (hN _).mono ?_
    rintro r w3 ⟨rfl, hz⟩
    subst hz
    go_wp2_with fail
    refine (hS _).mono ?_
    rintro r w4 ⟨rfl, hz⟩
    subst hz
    go_wp2_with fail
    go_ret
    exact ⟨rfl, k1.trans k2⟩
  · rw [hk, if_pos rfl]
    have hN := fun wx => named_any 4 (by omega) wx
    have e0 : nmS 4 = [110, 97, 110] := rfl
    rw [e0] at hN
    have hS := fun wx => signedF_nan ng ⟨#[110, 97, 110]⟩ wx
    rw [hk] at hP
    clear hk e0
    go_enter Tryz.func57, Tryz.ntmps57
    go_wp2_with fail
    refine (hP _).mono ?_
    rintro r w2 ⟨rfl, k2⟩
    go_wp2_with fail
    refine (hN _).mono ?_
    rintro r w3 ⟨rfl, hz⟩
    subst hz
    go_wp2_with fail
    refine (hS _).mono ?_
    rintro r w4 ⟨rfl, hz⟩
    subst hz
    go_wp2_with fail
    go_ret
    exact ⟨rfl, k1.trans k2⟩
end Go.Proofs.YtpdjpjkieafnbaaGreatDoor.Li
namespace Go.Proofs.YtpdjpjkieafnbaaGreatDoor.Li.Nw
open Go.RowKit Lb Nr
def exS (b : Nat) : List UInt8 := if pKind b = 4 then [110, 97, 110] else sgS (pNeg b) (nmS (pKind b))
set_option maxRecDepth 100000 in
set_option maxHeartbeats 800000 in
theorem shortest_named (b : Nat) (w : World) (hb : b < 4294967296) (hk : pKind b = 0 ∨ pKind b = 3 ∨ pKind b = 4) :
    Calls Tryz.prog 57 #[.agg #[.int .i64 23, .int .i64 255, .int .i64 (-149)], .int .u64 (b : Int)] w fun e w' => e = .returned (.string ⟨(exS b).toArray⟩) ∧ Keep w w' := by
  have hP := fun wx => parts_any b hb wx
  unfold exS
  generalize pM b = m at *
  generalize pE b = e at *
  generalize pNeg b = ng at *
  obtain ⟨w1, hw1⟩ : ∃ w1, w.alloc (.cells #[.int .i64 23, .int .i64 255, .int .i64 (-149)] 85) = w1 := ⟨_, rfl⟩
  have k1 : Keep w w1 := by rw [← hw1]; exact (Keep.refl w).alloc _
  have F1 : Fm w1 w.heap.size := by rw [← hw1]; exact Fm.new w
  obtain ⟨f0, f1, f2⟩ := F1.cells
  have HF1 : Hid (Fm w1 w.heap.size) := F1
  clear F1
  rcases hk with hk | hk | hk
  · rw [hk, if_neg (by omega)]
    have hN := fun wx => named_any 0 (by omega) wx
    have e0 : nmS 0 = [48] := rfl
    rw [e0] at hN
    rw [e0]
    have hS := fun wx => signedF_any ng 0 [48] (by omega) (by simp) wx
    obtain ⟨Y, hY⟩ : ∃ Y, sgS ng [48] = Y := ⟨_, rfl⟩
    rw [hY] at hS
    rw [hY]
    rw [hk] at hP
    clear hk hY e0
    go_enter Tryz.func57, Tryz.ntmps57
    go_wp2_with fail
    refine (hP _).mono ?_
    rintro r w2 ⟨rfl, k2⟩
    go_wp2_with fail
    refine (hN _).mono ?_
    rintro r w3 ⟨rfl, hz⟩
    subst hz
    go_wp2_with fail
    refine (hS _).mono ?_
    rintro r w4 ⟨rfl, hz⟩
    subst hz
    go_wp2_with fail
    go_ret
    exact ⟨rfl, k1.trans k2⟩
  · rw [hk, if_neg (by omega)]
    have hN := fun wx => named_any 3 (by omega) wx
    have e0 : nmS 3 = [105, 110, 102] := rfl
    rw [e0] at hN
    rw [e0]
    have hS := fun wx => signedF_any ng 3 [105, 110, 102] (by omega) (by simp) wx
    obtain ⟨Y, hY⟩ : ∃ Y, sgS ng [105, 110, 102] = Y := ⟨_, rfl⟩
    rw [hY] at hS
    rw [hY]
    rw [hk] at hP
    clear hk hY e0
    go_enter Tryz.func57, Tryz.ntmps57
    go_wp2_with fail
    refine (hP _).mono ?_
    rintro r w2 ⟨rfl, k2⟩
    go_wp2_with fail
    refine (hN _).mono ?_
    rintro r w3 ⟨rfl, hz⟩
    subst hz
    go_wp2_with fail
    refine (hS _).mono ?_
    rintro r w4 ⟨rfl, hz⟩
    subst hz
    go_wp2_with fail
    go_ret
    exact ⟨rfl, k1.trans k2⟩
  · rw [hk, if_pos rfl]
    have hN := fun wx => named_any 4 (by omega) wx
    have e0 : nmS 4 = [110, 97, 110] := rfl
    rw [e0] at hN
    have hS := fun wx => signedF_nan ng ⟨#[110, 97, 110]⟩ wx
    rw [hk] at hP
    clear hk e0
    go_enter Tryz.func57, Tryz.ntmps57
    go_wp2_with fail
    refine (hP _).mono ?_
    rintro r w2 ⟨rfl, k2⟩
    go_wp2_with fail
    refine (hN _).mono ?_
    rintro r w3 ⟨rfl, hz⟩
    subst hz
    go_wp2_with fail
    refine (hS _).mono ?_
    rintro r w4 ⟨rfl, hz⟩
    subst hz
    go_wp2_with fail
    go_ret
    exact ⟨rfl, k1.trans k2⟩
end Go.Proofs.YtpdjpjkieafnbaaGreatDoor.Li.Nw
namespace Go.Proofs.YtpdjpjkieafnbaaGreatDoor.Li
open Go.RowKit Lb Nr
theorem hxT_len {m : Nat} {e : Int} (hm : m < 9007199254740992) (he : -2000 ≤ e ∧ e ≤ 2000) : (hxT m e).length ≤ 100000 := by
  have hwl := wsT_len (e + 52) (by omega)
  have h1 : (dD (m / 4503599627370496)).length = 1 := (dD_bit (by omega)).2.2.2
  have h2 : (if m % 4503599627370496 = 0 then [] else 46 :: Lib.trimRightB ((hxD (4503599627370496 + m % 4503599627370496)).drop 1) 48 : List UInt8).length ≤ 14 := by
    split
    · simp
    · rename_i c
      obtain ⟨B, q1, q2, q3, q4, q5⟩ := hx_kept (Nat.mod_lt _ (by omega)) c
      rw [q1, List.length_cons]
      omega
  unfold hxT
  simp only [List.length_append, List.length_cons, List.length_nil, h1]
  omega
set_option maxRecDepth 100000 in
set_option maxHeartbeats 800000 in
theorem Hex_some (b : Nat) (hb : b < 18446744073709551616) (hk : pKind b = 1 ∨ pKind b = 2) (w : World) (hT : ∀ wx, Keep w wx → Bi.Tab wx) (hP : ∀ wx, Keep w wx → Lib.TabIs Tryz.prog wx "internal/strconv.uint64pow10" .u64 Lib.pow10Tab) :
    Calls Tryz.prog 25 #[.float .f64 b] w fun r w' => r = .returned (.string ⟨(sgS (pNeg b) (hxT (pM b) (pE b))).toArray⟩) ∧ Keep w w' := by
  obtain ⟨p1, p2, p3, p4⟩ := kind_parts hk
  have hPt := Parts_any b hb w
  have hH := fun wx (k : Keep w wx) => hexDigits_any (pM b) (pE b) wx p2 (by omega) (fun wy ky => hT wy (k.trans ky)) (fun wy ky => hP wy (k.trans ky))
  have hl : (hxT (pM b) (pE b)).length ≤ 100000 := hxT_len p2 (by omega)
  generalize hxT (pM b) (pE b) = T at *
  generalize pM b = m at *
  generalize pE b = e at *
  generalize pNeg b = ng at *
  clear hT hP p1 p2 p3 p4
  have HH : Hid (∀ wx, Keep w wx → Calls Tryz.prog 67 #[.int .u64 (m : Int), .int .i64 e] wx fun r w' => r = .returned (.string ⟨T.toArray⟩) ∧ Keep wx w') := hH
  clear hH
  have hlT : (ByteArray.mk T.toArray).size = T.length := sz_mk T
  rcases hk with hk | hk
  · rw [hk] at hPt
    have hS := fun wx => signedF_any ng 1 T (by omega) hl wx
    obtain ⟨Y, hY⟩ : ∃ Y, sgS ng T = Y := ⟨_, rfl⟩
    rw [hY] at hS
    rw [hY]
    clear hk hY
    go_enter Tryz.func25, Tryz.ntmps25
    go_wp2_with fail
    refine hPt.mono ?_
    rintro r w1 ⟨rfl, k1⟩
    go_wp2_with fail
    refine (HH.out _ k1).mono ?_
    rintro r w2 ⟨rfl, k2⟩
    go_wp2_with fail
    refine (hS _).mono ?_
    rintro r w3 ⟨rfl, hz⟩
    subst hz
    go_wp2_with fail
    go_ret
    exact ⟨rfl, k1.trans k2⟩
  · rw [hk] at hPt
    have hS := fun wx => signedF_any ng 2 T (by omega) hl wx
    obtain ⟨Y, hY⟩ : ∃ Y, sgS ng T = Y := ⟨_, rfl⟩
    rw [hY] at hS
    rw [hY]
    clear hk hY
    go_enter Tryz.func25, Tryz.ntmps25
    go_wp2_with fail
    refine hPt.mono ?_
    rintro r w1 ⟨rfl, k1⟩
    go_wp2_with fail
    refine (HH.out _ k1).mono ?_
    rintro r w2 ⟨rfl, k2⟩
    go_wp2_with fail
    refine (hS _).mono ?_
    rintro r w3 ⟨rfl, hz⟩
    subst hz
    go_wp2_with fail
    go_ret
    exact ⟨rfl, k1.trans k2⟩
/-- The text of what has no digits. -/
def hxS (b : Nat) : List UInt8 := if pKind b = 4 then [110, 97, 110] else sgS (pNeg b) (if pKind b = 0 then [48, 120, 48, 112, 43, 48] else [105, 110, 102])
set_option maxRecDepth 100000 in
set_option maxHeartbeats 800000 in
theorem Hex_named (b : Nat) (hb : b < 18446744073709551616) (hk : pKind b = 0 ∨ pKind b = 3 ∨ pKind b = 4) (w : World) :
    Calls Tryz.prog 25 #[.float .f64 b] w fun r w' => r = .returned (.string ⟨(hxS b).toArray⟩) ∧ Keep w w' := by
  have hP := Parts_any b hb w
  unfold hxS
  generalize pM b = m at *
  generalize pE b = e at *
  generalize pNeg b = ng at *
  rcases hk with hk | hk | hk
  · rw [hk] at hP
    rw [hk, if_neg (by omega), if_pos rfl]
    have hS := fun wx => signedF_any ng 0 [48, 120, 48, 112, 43, 48] (by omega) (by simp) wx
    obtain ⟨Y, hY⟩ : ∃ Y, sgS ng [48, 120, 48, 112, 43, 48] = Y := ⟨_, rfl⟩
    rw [hY] at hS
    rw [hY]
    clear hk hY
    go_enter Tryz.func25, Tryz.ntmps25
    go_wp2_with fail
    refine hP.mono ?_
    rintro r w1 ⟨rfl, k1⟩
    go_wp2_with fail
    refine (hS _).mono ?_
    rintro r w3 ⟨rfl, hz⟩
    subst hz
    go_wp2_with fail
    go_ret
    exact ⟨rfl, k1⟩
  · rw [hk] at hP
    rw [hk, if_neg (by omega), if_neg (by omega)]
    have hN := fun wx => named_any 3 (by omega) wx
    rw [show nmS 3 = [105, 110, 102] from rfl] at hN
    have hS := fun wx => signedF_any ng 3 [105, 110, 102] (by omega) (by simp) wx
    obtain ⟨Y, hY⟩ : ∃ Y, sgS ng [105, 110, 102] = Y := ⟨_, rfl⟩
    rw [hY] at hS
    rw [hY]
    clear hk hY
    go_enter Tryz.func25, Tryz.ntmps25
    go_wp2_with fail
    refine hP.mono ?_
    rintro r w1 ⟨rfl, k1⟩
    go_wp2_with fail
    refine (hN _).mono ?_
    rintro r w2 ⟨rfl, hz⟩
    subst hz
    go_wp2_with fail
    refine (hS _).mono ?_
    rintro r w3 ⟨rfl, hz⟩
    subst hz
    go_wp2_with fail
    go_ret
    exact ⟨rfl, k1⟩
  · rw [hk] at hP
    rw [hk, if_pos rfl]
    have hN := fun wx => named_any 4 (by omega) wx
    rw [show nmS 4 = [110, 97, 110] from rfl] at hN
    have hS := fun wx => signedF_nan ng ⟨#[110, 97, 110]⟩ wx
    clear hk
    go_enter Tryz.func25, Tryz.ntmps25
    go_wp2_with fail
    refine hP.mono ?_
    rintro r w1 ⟨rfl, k1⟩
    go_wp2_with fail
    refine (hN _).mono ?_
    rintro r w2 ⟨rfl, hz⟩
    subst hz
    go_wp2_with fail
    refine (hS _).mono ?_
    rintro r w3 ⟨rfl, hz⟩
    subst hz
    go_wp2_with fail
    go_ret
    exact ⟨rfl, k1⟩
set_option maxRecDepth 100000 in
theorem Shortest_named (b : Nat) (w : World) (hb : b < 18446744073709551616) (hk : pKind b = 0 ∨ pKind b = 3 ∨ pKind b = 4) :
    Calls Tryz.prog 21 #[.float .f64 b] w fun e w' => e = .returned (.string ⟨(exS b).toArray⟩) ∧ Keep w w' := by
  have hbn := fun wx => binary64_any wx
  have h34 := fun wx => f64bits b wx
  have hs := fun wx => shortest_named b wx hb hk
  generalize exS b = RR at *
  have HS : Hid (∀ wx, Calls Tryz.prog 57 #[.agg #[.int .i64 52, .int .i64 2047, .int .i64 (-1074)], .int .u64 (b : Int)] wx fun e w' => e = .returned (.string ⟨RR.toArray⟩) ∧ Keep wx w') := hs
  clear hs hk
  go_enter Tryz.func21, Tryz.ntmps21
  go_wp2_with fail
  refine (hbn _).mono ?_
  rintro e w1 ⟨rfl, k1⟩
  go_wp2_with fail
  refine (HS.out _).mono ?_
  rintro e w2 ⟨rfl, k2⟩
  go_wp2_with fail
  go_ret
  exact ⟨rfl, k1.trans k2⟩
end Go.Proofs.YtpdjpjkieafnbaaGreatDoor.Li
namespace Go.Proofs.YtpdjpjkieafnbaaGreatDoor.Li.Nw
open Go.RowKit Lb Nr
theorem pKind_in (b : Nat) : pKind b ≤ 4 := by
  unfold pKind
  (repeat' split) <;> omega
end Go.Proofs.YtpdjpjkieafnbaaGreatDoor.Li.Nw
