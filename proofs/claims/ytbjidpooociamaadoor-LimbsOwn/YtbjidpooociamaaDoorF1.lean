import Derived.Test.YtbjidpooociamaaDoorE3
set_option linter.unusedVariables false
set_option linter.unusedSimpArgs false
namespace Go.Proofs.YtbjidpooociamaaDoor
open Go.RowKit Lb
theorem subw2 (x t : Nat) (hx : x < 4294967296) (ht : t < 4294967296) : ∃ z c : Nat, IntKind.u64.wrap ((x : Int) - (t : Int)) % 4294967296 = (z : Int) ∧
    bits BinOp.and IntKind.u64 (IntKind.u64.wrap ((x : Int) - (t : Int)) / 4294967296) 1 = (c : Int) ∧ z < 4294967296 ∧ c ≤ 1 ∧ z + t = x + c * 4294967296 ∧ ((IntKind.u64.wrap ((x : Int) - (t : Int)) / 4294967296 == 0) = decide (c = 0)) ∧ (c = 1 → x < t) := by
  obtain ⟨d, hd, hdl, hdv⟩ : ∃ d : Nat, IntKind.u64.wrap ((x : Int) - (t : Int)) = (d : Int) ∧ d < 18446744073709551616 ∧ (d + t = x ∨ d + t = x + 18446744073709551616) := by
    refine ⟨(IntKind.u64.wrap ((x : Int) - (t : Int))).toNat, ?_, ?_, ?_⟩ <;> (rw [IntKind.wrap_u64]; omega)
  rw [hd]
  have hb := u64_and_nat (d / 4294967296) 1 (by omega) (by omega)
  rw [Nat.and_one_is_mod] at hb
  refine ⟨d % 4294967296, d / 4294967296 % 2, by omega, by rw [← hb]; simp, by omega, by omega, by omega, ?_, by omega⟩
  by_cases h : d / 4294967296 = 0
  · have h1 : (d : Int) / 4294967296 = 0 := by omega
    rw [h1, h]; rfl
  · have h1 : (d : Int) / 4294967296 ≠ 0 := by omega
    have h2 : ¬ d / 4294967296 % 2 = 0 := by omega
    simp [h1, h2]
theorem takeStep (X R V t u x y f z c h l : Nat) (hv : V + u = R + t * X) (he : t + y * f = h * 4294967296 + l) (hz : z + l = x + c * 4294967296) (V' : Nat) (hs : V' + x * X = V + z * X) : V' + (u + y * f * X) = R + (h + c) * (X * 4294967296) := by
  have h1 : (t + y * f) * X = (h * 4294967296 + l) * X := by rw [he]
  have h2 : (z + l) * X = (x + c * 4294967296) * X := by rw [hz]
  grind
set_option maxRecDepth 100000 in
set_option maxHeartbeats 800000 in
theorem takeTimes_any (g o : Nat) (b : Option Addr) (cb c f : Nat) (r lb : List Nat) (w : World) (hrl : r.length ≤ 70368744177664) (hrow : Row w g r) (hrb : Rd w b lb) (hoff : Off g b lb) (hm : Lim r) (hmb : Lim lb) (hf : f < 4294967296)
    (hfit : o + lb.length + 1 ≤ r.length) :
    Calls Tryd.prog 122 #[.slice (some ⟨g, o, none⟩) (lb.length + 1) c, .slice b lb.length cb, .int .u32 (f : Nat)] w fun e w' => ∃ (s : Nat) (r' : List Nat), e = .returned (.bool (decide (s = 1))) ∧ s ≤ 1 ∧ Row w' g r' ∧ r'.length = r.length ∧ Lim r' ∧ r'.drop (o + lb.length + 1) = r.drop (o + lb.length + 1) ∧ val r' + 4294967296 ^ o * (f * val lb) = val r + s * 4294967296 ^ (o + lb.length + 1) ∧ Mut g w w' := by
  go_enter Tryd.func122, Tryd.ntmps122
  go_wp2_with fail
  go_loopw [7, 13] (fun c i wr => ∃ (k t : Nat) (rk : List Nat), k ≤ lb.length ∧ t < 4294967296 ∧ i = .int .i64 k ∧ c = .int .u64 t ∧ Row wr g rk ∧ Hid (rk.length = r.length) ∧ Lim rk ∧ Hid (rk.drop (o + k) = r.drop (o + k)) ∧ Hid (val rk + 4294967296 ^ o * (f * val (lb.take k)) = val r + t * 4294967296 ^ (o + k)) ∧ Mut g w wr) (fun _ i _ => lb.length - (intOf i).toNat)
  case atStart => exact ⟨0, 0, r, by omega, by omega, rfl, rfl, hrow, rfl, hm, rfl, by show _ = _; simp [val], Mut.refl _ _⟩
  case round =>
    obtain ⟨k, t, rk, hk, ht, rfl, rfl, hrk, hlen, hmk, hdr, hv, hmut⟩ := hrel
    by_cases hkl : k < lb.length
    · obtain ⟨b1, o1, rfl, hc1⟩ := (hrb.mut hmut hoff) k hkl
      have hc2 := hrk.cell (o + k) (by rw [hlen.out]; omega)
      have hfz := hrk.frozen (o + k)
      obtain ⟨x, hx⟩ : ∃ x, rk.getD (o + k) 0 = x := ⟨_, rfl⟩
      obtain ⟨y, hy⟩ : ∃ y, lb.getD k 0 = y := ⟨_, rfl⟩
      have hxl : x < 4294967296 := hx ▸ Lim_getD hmk _
      have hyl : y < 4294967296 := hy ▸ Lim_getD hmb _
      rw [hx] at hc2
      rw [hy] at hc1
      have Hx : Hid (rk.getD (o + k) 0 = x) := hx; clear hx
      have Hy : Hid (lb.getD k 0 = y) := hy; clear hy
      have hp := prodB y f hyl hf
      obtain ⟨P, hP⟩ : ∃ P, y * f = P := ⟨_, rfl⟩
      have hpi : (y : Int) * (f : Int) = (P : Int) := by rw [← Int.natCast_mul, hP]
      rw [hP] at hp
      have HP : Hid (y * f = P) := hP; clear hP
      have hand : bits BinOp.and IntKind.u64 ((t : Int) + (P : Int)) 4294967295 = (((t + P) % 4294967296 : Nat) : Int) := by have := and64 (t + P) (by omega); simpa using this
      obtain ⟨l, hl⟩ : ∃ l, (t + P) % 4294967296 = l := ⟨_, rfl⟩
      obtain ⟨h, hh⟩ : ∃ h, (t + P) / 4294967296 = h := ⟨_, rfl⟩
      have hhi : ((t : Int) + (P : Int)) / 4294967296 = (h : Int) := by omega
      rw [hl] at hand
      have hll : l < 4294967296 := by omega
      obtain ⟨z, cc, e1, e2, hz, hcc, he, -, hc0⟩ := subw2 x l hxl hll
      have hhc : h + cc < 4294967296 := by
        rcases Nat.lt_or_ge h 4294967295 with h1 | h1
        · omega
        · have : l = 0 := by omega
          have : cc = 0 := by
            rcases Nat.lt_or_ge cc 1 with h2 | h2
            · omega
            · have := hc0 (by omega); omega
          omega
      have HV : Hid (∀ V', V' + x * 4294967296 ^ (o + k) = val rk + z * 4294967296 ^ (o + k) → V' + 4294967296 ^ o * (f * val (lb.take (k + 1))) = val r + (h + cc) * 4294967296 ^ (o + k + 1)) := by
        intro V' hV'
        have h1 := takeStep _ _ _ t _ x y f z cc h l hv.out (by rw [HP.out]; omega) he V' hV'
        rw [Nat.pow_succ, ← h1, val_take_succ, Hy.out, Nat.pow_add]
        grind
      clear hl hh he hc0
      go_wp2
      go_roundw
      case rel =>
        refine ⟨k + 1, h + cc, rk.set (o + k) z, by omega, hhc, by go_num, by simp, hrk.set (o + k) z, ?_, Lim_set hmk _ _ hz, ?_, ?_, hmut.setCell _ _⟩
        · show _ = _
          rw [List.length_set]; exact hlen.out
        · show _ = _
          rw [List.drop_set_of_lt (by omega), ← Nat.add_assoc, ← List.drop_drop, hdr.out, List.drop_drop]
        · show _ = _
          have h1 := val_set rk (o + k) z (by rw [hlen.out]; omega)
          rw [Hx.out] at h1
          exact HV.out _ h1
      case measure => simp [intOf]; omega
    · have hke : k = lb.length := by omega
      subst hke
      rw [List.take_of_length_le (Nat.le_refl _)] at hv
      have hc2 := hrk.cell (o + lb.length) (by rw [hlen.out]; omega)
      have hfz := hrk.frozen (o + lb.length)
      obtain ⟨x, hx⟩ : ∃ x, rk.getD (o + lb.length) 0 = x := ⟨_, rfl⟩
      have hxl : x < 4294967296 := hx ▸ Lim_getD hmk _
      rw [hx] at hc2
      have Hx : Hid (rk.getD (o + lb.length) 0 = x) := hx; clear hx
      obtain ⟨z, cc, e1, e2, hz, hcc, he, e4, -⟩ := subw2 x t hxl ht
      have HV : Hid (∀ V', V' + x * 4294967296 ^ (o + lb.length) = val rk + z * 4294967296 ^ (o + lb.length) → V' + 4294967296 ^ o * (f * val lb) = val r + cc * 4294967296 ^ (o + lb.length + 1)) := by
        intro V' hV'
        have h1 := takeStep _ _ _ t _ x 0 0 z cc 0 t hv.out (by omega) he V' hV'
        rw [Nat.pow_succ]
        simpa using h1
      clear he e2
      go_wp2
      go_ret
      refine ⟨cc, rk.set (o + lb.length) z, ret_bool ?_, hcc, hrk.set (o + lb.length) z, by rw [List.length_set]; exact hlen.out, Lim_set hmk _ _ hz, ?_, ?_, hmut.setCell _ _⟩
      · rw [bne, e4]
        rcases Nat.lt_or_ge cc 1 with h | h
        · rw [show cc = 0 by omega]; rfl
        · rw [show cc = 1 by omega]; rfl
      · rw [List.drop_set_of_lt (by omega), ← List.drop_drop, hdr.out, List.drop_drop]
      · have h1 := val_set rk (o + lb.length) z (by rw [hlen.out]; omega)
        rw [Hx.out] at h1
        exact HV.out _ h1
end Go.Proofs.YtbjidpooociamaaDoor
