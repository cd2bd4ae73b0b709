import Derived.Test.YtmkippkbodejkaaA1
namespace Go.Proofs.Ytmkippkbodejkaa
open Go.RowKit
set_option maxRecDepth 100000 in
set_option maxHeartbeats 800000 in
theorem Sum_any (a : Option Addr) (ca : Nat) (l : List Int) (w : World) (hl : l.length ≤ 70368744177664) (hr : Rd w a l) (hm : I64 l) :
    Calls Try.prog 5 #[.slice a l.length ca] w fun e w' => e = .returned (.tuple #[.int .i64 (sumV l.sum), .int .i64 (sumE l.sum)]) ∧ Keep w w' := by
  have hb := sum_bound hm
  go_enter Try.func5, Try.ntmps5
  go_wp2_with fail
  go_loopw [4, 5, 12] (fun hv lv iv wr => ∃ (k h lo : Nat), k ≤ l.length ∧ iv = .int .i64 k ∧ hv = .int .u64 (h : Nat) ∧ lv = .int .u64 (lo : Nat) ∧ h < 18446744073709551616 ∧ lo < 18446744073709551616 ∧ Hid ((lo : Int) = (l.take k).sum % 18446744073709551616) ∧ Hid ((h : Int) = (l.take k).sum / 18446744073709551616 % 18446744073709551616) ∧ w = wr) (fun _ _ iv _ => l.length - (intOf iv).toNat)
  case atStart => exact ⟨0, 0, 0, by omega, rfl, rfl, rfl, by omega, by omega, by show _ = _; simp, by show _ = _; simp, rfl⟩
  case round =>
    obtain ⟨k, h, lo, hk, rfl, rfl, rfl, hh, hlo, elo, eh, hw⟩ := hrel
    subst hw
    by_cases hkl : k < l.length
    · obtain ⟨b1, o1, rfl, hc⟩ := hr k hkl
      obtain ⟨v, hv⟩ : ∃ v, l.getD k 0 = v := ⟨_, rfl⟩
      obtain ⟨hv1, hv2⟩ := I64_getD hm k
      have hst := sum_take l k
      rw [hv] at hc hv1 hv2 hst
      obtain ⟨u, hu⟩ : ∃ u : Nat, (u : Int) = v % 18446744073709551616 := ⟨(v % 18446744073709551616).toNat, by omega⟩
      obtain ⟨s, hs⟩ : ∃ s : Nat, (s : Int) = v / 9223372036854775808 % 18446744073709551616 := ⟨(v / 9223372036854775808 % 18446744073709551616).toNat, by omega⟩
      have hul : u < 18446744073709551616 := by omega
      have hA1 : ∀ wx, (callFunc 11 #[.int .u64 (lo : Nat), .int .u64 (u : Nat), .int .u64 0]).run Try.prog wx = _ := fun wx => add64 lo u 0 (by omega) wx
      obtain ⟨lo', hlo'⟩ : ∃ x, (lo + u + 0) % 18446744073709551616 = x := ⟨_, rfl⟩
      obtain ⟨cy, hcy⟩ : ∃ x, (lo + u + 0) / 18446744073709551616 = x := ⟨_, rfl⟩
      have hc1 : cy ≤ 1 := by omega
      have hA2 := fun wx => add64 h s cy hc1 wx
      obtain ⟨h', hh'⟩ : ∃ x, (h + s + cy) % 18446744073709551616 = x := ⟨_, rfl⟩
      have HL : Hid ((lo' : Int) = (l.take (k + 1)).sum % 18446744073709551616) := by
        show _ = _
        have := elo.out
        rw [hst]; omega
      have HH : Hid ((h' : Int) = (l.take (k + 1)).sum / 18446744073709551616 % 18446744073709551616) := by
        show _ = _
        have h1 := elo.out
        have h2 := eh.out
        rw [hst]
        generalize (l.take k).sum = T at *
        omega
      rw [hlo', hcy] at hA1
      rw [hh'] at hA2
      generalize (h + s + cy) / 18446744073709551616 = junk at hA2
      have hlb : lo' < 18446744073709551616 := by omega
      have hhb : h' < 18446744073709551616 := by omega
      have q1 : IntKind.u64.wrap v = (u : Int) := by rw [IntKind.wrap_u64]; exact hu.symm
      have q2 : IntKind.u64.wrap (v / 9223372036854775808) = (s : Int) := by rw [IntKind.wrap_u64]; exact hs.symm
      clear hv hst elo eh hlo' hcy hh' hu hs
      go_wp2_with fail
      go_roundw
      case rel => exact ⟨k + 1, h', lo', by omega, by go_num, rfl, rfl, hhb, hlb, HL, HH, by first | rfl | trivial⟩
      case measure => simp [intOf]; omega
    · have hke : k = l.length := by omega
      subst hke
      have hb1 := hb l.length
      rw [List.take_of_length_le (Nat.le_refl _)] at elo eh hb1
      have h1 := elo.out
      have h2 := eh.out
      obtain ⟨T, hT⟩ : ∃ T, l.sum = T := ⟨_, rfl⟩
      rw [hT] at h1 h2 hb1
      have HT : Hid (l.sum = T) := hT
      clear hT elo eh
      obtain ⟨sm, hsm⟩ : ∃ sm, (if (lo : Int) < 9223372036854775808 then (lo : Int) else (lo : Int) - 18446744073709551616) = sm := ⟨_, rfl⟩
      have q1 : IntKind.i64.wrap (lo : Int) = sm := by rw [IntKind.wrap_i64, ← hsm]; split <;> omega
      obtain ⟨u, hu⟩ : ∃ u : Nat, (u : Int) = sm / 9223372036854775808 % 18446744073709551616 := ⟨(sm / 9223372036854775808 % 18446744073709551616).toNat, by omega⟩
      have q2 : IntKind.u64.wrap (sm / 9223372036854775808) = (u : Int) := by rw [IntKind.wrap_u64]; exact hu.symm
      by_cases hin : -9223372036854775808 ≤ T ∧ T ≤ 9223372036854775807
      · have e1 : Hid (sm = T) := by show _ = _; rw [← hsm]; split <;> omega
        have hd : ((h : Int) == (u : Int)) = true := by simp; have := e1.out; omega
        have hhu : h = u := by have := e1.out; omega
        have HV : Hid (sumV l.sum = sm) := by show _ = _; rw [HT.out, e1.out]; unfold sumV; rw [if_pos hin]
        have HE : Hid (sumE l.sum = 0) := by show _ = _; rw [HT.out]; unfold sumE; rw [if_pos hin]
        clear hsm hu h1 h2 hb hb1
        subst hhu
        go_wp2_with fail
        go_ret2
        exact ⟨by rw [HV.out, HE.out]; rfl, Keep.refl _⟩
      · have hne : h ≠ u := by
          intro e
          have e2 : (h : Int) = (u : Int) := by omega
          revert hsm
          split <;> intro hsm <;> omega
        have hd : ((h : Int) == (u : Int)) = false := by simp; omega
        have HV : Hid (sumV l.sum = 0) := by show _ = _; rw [HT.out]; unfold sumV; rw [if_neg hin]
        have HE : Hid (sumE l.sum = 41) := by show _ = _; rw [HT.out]; unfold sumE; rw [if_neg hin]
        clear hsm hu h1 h2 hb hb1
        go_wp2_with fail
        go_ret2
        exact ⟨by rw [HV.out, HE.out]; rfl, Keep.refl _⟩
end Go.Proofs.Ytmkippkbodejkaa
