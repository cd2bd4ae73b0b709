import Derived.Test.YtpdjpjkieafnbaaGreatDoorLC18
import Derived.Test.YtpdjpjkieafnbaaGreatDoorRP
import Derived.Laws.CopyOwn
import Derived.Maps.AppendAt
import Derived.Laws.BytesArg
import Derived.Test.YtpdjpjkieafnbaaGreatDoorNC10
import Derived.Test.YtpdjpjkieafnbaaGreatDoorNB2
import Derived.Test.YtpdjpjkieafnbaaGreatDoorNC3
import Derived.Test.YtpdjpjkieafnbaaGreatDoorBC2
import Derived.Test.YtpdjpjkieafnbaaGreatDoorNX3
import Derived.Test.YtpdjpjkieafnbaaGreatDoorNX4
import Derived.Test.YtpdjpjkieafnbaaGreatDoorH1
set_option linter.unusedVariables false
set_option linter.unusedSimpArgs false
namespace Go.Proofs.YtpdjpjkieafnbaaGreatDoor.Li
open Go.RowKit Lb
theorem Below.of_grownZ {wr w1 : World} (o : Obj) (h2 : (wr.alloc o).grownBy w1 (some wr.heap.size)) : Keep wr w1 := by
  refine Below.grown ((Keep.refl wr).alloc o) h2 (by simp) ?_
  intro k hk'
  simp only [Option.some.injEq] at hk'
  omega
/-- append([]uint32{}, l...). -/
theorem wpList_copy32z {wr : World} {ops : Array Oper} {rest : List Oper} {o : Oper} {a : Act} {Q : Exit → Act → World → Prop} (hgd : o.guard = none) (s x : Operand)
    (ho : o.op = .call { callee := .builtin .append, args := #[s, x], argTypes := #[52, 52] }) (l : List Nat) (ad : Option Addr) (c : Nat) (hs : a.eval s = .slice (some ⟨wr.heap.size, 0, none⟩) 0 0)
    (hx : a.eval x = .slice ad l.length c) (hr : Rd wr ad l) (hlen : l.length ≤ 35184372088000)
    (hK : ∀ v' w1, Own wr.heap.size w1 v' l → Keep wr w1 → wpList Tryz.prog ops Q rest (a.put o.dst v') w1) :
    wpList Tryz.prog ops Q (o :: rest) a (wr.alloc (.cells #[] 40)) := by
  obtain ⟨i0, hi, hz0, hz1, hz2⟩ := info_parts i62
  have hown : Own wr.heap.size (wr.alloc (.cells #[] 40)) (.slice (some ⟨wr.heap.size, 0, none⟩) 0 0) [] := ⟨rfl, .inr ⟨wr.heap.size, 0, #[], rfl, Nat.le_refl _, heap_alloc_new _ _, Nat.le_refl _, by simp [maxLen], rfl, rfl⟩⟩
  have hr' := hr.keep ((Keep.refl wr).alloc (.cells #[] 40))
  rcases ad with _ | ad
  · obtain rfl : l = [] := by
      by_cases h : l = []
      · exact h
      · obtain ⟨b, o, e, -⟩ := hr 0 (List.length_pos_iff.2 h); cases e
    refine wpList_plain hgd fun K hK' => ?_
    have hrun : (Builtin.append_ #[52, 52] o.type #[.slice (some ⟨wr.heap.size, 0, none⟩) 0 0, .slice none 0 c]).run Tryz.prog (wr.alloc (.cells #[] 40)) = .ok (.slice (some ⟨wr.heap.size, 0, none⟩) 0 0) (wr.alloc (.cells #[] 40)) := by
      go_simp
    unfold Oper.wp
    simp [execOp, ho, resolve, invoke, builtin, hs, hx, hrun, Result.andThen]
    exact hK' _ _ (hK _ _ hown ((Keep.refl wr).alloc _))
  refine wpList_append_own _ hgd s x 52 ho wr.heap.size 40 i0 (.int .u32 0) 1 4 Tryz.underlying52 hi hz0 hz1 hz2 rfl (by decide) _ _ _ hs hown ad l.length c (U l) hx (by simp [U]) ?_ (U_one l) ?_ ?_ (by simp) ?_
  · intro j u hj
    have hjl : j < l.length := by have := (List.getElem?_eq_some_iff.1 hj).1; simpa [U_length] using this
    rw [U_get l j hjl] at hj
    obtain ⟨b', o', e, hc⟩ := hr' j hjl
    simp only [Option.some.injEq] at e
    subst e
    have e2 : (Addr.mk b' o' none).add j = ⟨b', o' + j, none⟩ := by
      simp only [Addr.add]
      split
      · rename_i h; subst h; rfl
      · rfl
    rw [e2, hc, hj]
  · simp only [maxLen, List.length_nil]; omega
  · simp only [List.length_nil]; omega
  · intro v' w1 h1 h2 _
    refine hK v' w1 ?_ (Below.of_grownZ _ h2)
    unfold Own
    simpa [U] using h1
theorem convZ (w : World) (y : Nat) (hy : y < 256) : (convert 61 9 (.slice (some ⟨w.heap.size, 0, none⟩) 1 1)).run Tryz.prog (w.alloc (.cells #[.int .u8 (y : Int)] 5)) = .ok (.string ⟨#[UInt8.ofNat y]⟩) (w.alloc (.cells #[.int .u8 (y : Int)] 5)) := by
  have := run_convert_bytes_arg (P := Tryz.prog) (w.alloc (.cells #[.int .u8 (y : Int)] 5)) 61 5 Tryz.underlying61 Tryz.underlying5 w.heap.size 0 1 1 [(y : Int)] (by simp) (fun i hi => by
    obtain rfl : i = 0 := by simp at hi; omega
    rw [cell_of_row _ _ _ _ 5 (0, 0) (heap_alloc_new w _)]
    rfl) 9 Tryz.underlying9
  rw [this]
  simp [strOfNums]
theorem one_catZ (c : UInt8) (E : List UInt8) : ByteArray.mk #[c] ++ ByteArray.mk E.toArray = ⟨(c :: E).toArray⟩ := catB [c] E
end Go.Proofs.YtpdjpjkieafnbaaGreatDoor.Li
set_option linter.unusedVariables false
set_option linter.unusedSimpArgs false
namespace Go.Proofs.YtpdjpjkieafnbaaGreatDoor.Li
open Go.RowKit Lb Nr
set_option maxRecDepth 100000 in
set_option maxHeartbeats 1000000 in
theorem rnearest_any (v1 v2 : Value) (N D k : Nat) (w : World) (h1 : Nv w v1 N) (h2 : Nv w v2 D) (hk : k ≤ 35184372087900) (hN1 : N < 4294967296 ^ k) (hD1 : D < 4294967296 ^ k) (hN : 0 < N) (hD : 0 < D) :
    Calls Tryz.prog 54 #[v1, v2, wideV] w fun e w' => ∃ E, IsE N D E ∧ e = .returned (nearV (Nr.rup (sA N E) (sB D E)) E false) ∧ Keep w w' := by
  have S1 := fun wx (kx : Keep w wx) => size_same v1 N k wx (h1.keep kx) hN1 (by omega)
  have S2 := fun wx (kx : Keep w wx) => size_same v2 D k wx (h2.keep kx) hD1 (by omega)
  have U1 := fun (z : Nat) (hz : z ≤ 1074) wx (kx : Keep w wx) => up_nv v1 N z k wx (h1.keep kx) hN1 (by omega) (by omega)
  have hbN : sz N ≤ 32 * k := sz_le (by rw [← word_pow]; exact hN1)
  have hbD : sz D ≤ 32 * k := sz_le (by rw [← word_pow]; exact hD1)
  have hDs : D < 4294967296 ^ ((sz D + 31) / 32) := by
    rw [word_pow]
    exact Nat.lt_of_lt_of_le (sz_lt D) (Nat.pow_le_pow_right (by omega) (by omega))
  have U2 := fun (z : Nat) (hz : (z : Int) ≤ (sz N : Int) - (sz D : Int)) wx (kx : Keep w wx) => up_nv v2 D z ((sz D + 31) / 32) wx (h2.keep kx) hDs (by omega) (by omega)
  clear hDs
  obtain ⟨he0, he1⟩ := e0_ok hN hD
  have hE0 : e0 N D = max ((sz N : Int) - (sz D : Int) - 54) (-1074) := rfl
  generalize e0 N D = E0 at *
  have HN1 : Hid (N < 4294967296 ^ k) := hN1
  have HD1 : Hid (D < 4294967296 ^ k) := hD1
  clear hN1 hD1
  unfold wideV
  obtain ⟨w0, hw0, k0, tb, tr⟩ : ∃ w0, (w.alloc (Obj.cells #[.int .i64 53, .int .i64 (-1074), .int .i64 971] 32)).alloc (Obj.cells #[.bool false, .bool false, .bool false, .int .u64 0, .int .i64 0] 28) = w0 ∧ Keep w w0 ∧ w0.heap[w.heap.size]? = some (Obj.cells #[.int .i64 53, .int .i64 (-1074), .int .i64 971] 32 (0, 0)) ∧ w0.heap[w.heap.size + 1]? = some (Obj.cells #[.bool false, .bool false, .bool false, .int .u64 0, .int .i64 0] 28 (0, 0)) := by
    refine ⟨_, rfl, ((Keep.refl w).alloc _).alloc _, ?_, ?_⟩
    · have hs : w.heap.size < (w.alloc (Obj.cells #[.int .i64 53, .int .i64 (-1074), .int .i64 971] 32)).heap.size := by simp
      exact (((Keep.refl (w.alloc (Obj.cells #[.int .i64 53, .int .i64 (-1074), .int .i64 971] 32))).alloc _).block _ hs).trans (heap_alloc_new w _)
    · have hs : (w.alloc (Obj.cells #[.int .i64 53, .int .i64 (-1074), .int .i64 971] 32)).heap.size = w.heap.size + 1 := by simp
      rw [← hs]
      exact heap_alloc_new _ _
  have c0 := cell_of_row _ _ 0 _ 32 (0, 0) tb
  have c1 := cell_of_row _ _ 1 _ 32 (0, 0) tb
  have c2 := cell_of_row _ _ 2 _ 32 (0, 0) tb
  simp only [List.getElem?_toArray, List.getElem?_cons_zero, List.getElem?_cons_succ] at c0 c1 c2
  have hA : -10000000000000000 ≤ (sz N : Int) - (sz D : Int) ∧ (sz N : Int) - (sz D : Int) ≤ 10000000000000000 := by omega
  have S1' := fun wx (kx : Keep w0 wx) => S1 wx (k0.trans kx)
  have S2' := fun wx (kx : Keep w0 wx) => S2 wx (k0.trans kx)
  go_enter Tryz.func54, Tryz.ntmps54
  have x1 : IntKind.i64.wrap ((sz N : Int) - (sz D : Int)) = (sz N : Int) - (sz D : Int) := by rw [IntWalk.i64_left]; exact IntWalk.wrap64_in _ (by omega)
  have x2 : IntKind.i64.wrap ((sz N : Int) - (sz D : Int) - 53) = (sz N : Int) - (sz D : Int) - 53 := by rw [IntWalk.i64_left]; exact IntWalk.wrap64_in _ (by omega)
  obtain ⟨A, hA4⟩ : ∃ A : Int, (sz N : Int) - (sz D : Int) - 53 - 1 = A := ⟨_, rfl⟩
  have x3 : IntKind.i64.wrap ((sz N : Int) - (sz D : Int) - 53 - 1) = A := by rw [IntWalk.i64_left, hA4]; exact IntWalk.wrap64_in _ (by omega)
  replace hA4 : Hid _ := hA4
  replace hE0 : Hid _ := hE0
  go_upto_region 1 with fail
  go_cut [7] from 13 to 21 (fun s7 wx => s7 = .int .i64 A ∧ Keep w0 wx)
  case first =>
    go_region_with (first
      | (go_at_call_of 50 v1; refine (S1' _ ?_).mono ?_; (first | exact Keep.refl _ | exact (Keep.refl _).drew | exact (Keep.refl _).drew.drew | exact (Keep.refl _).drew.drew.drew); rintro e wz ⟨rfl, rfl⟩)
      | (go_at_call_of 50 v2; refine (S2' _ ?_).mono ?_; (first | exact Keep.refl _ | exact (Keep.refl _).drew | exact (Keep.refl _).drew.drew | exact (Keep.refl _).drew.drew.drew); rintro e wz ⟨rfl, rfl⟩))
    all_goals
      go_wp2_with fail
      go_meet
      exact ⟨by first | rfl | (rw [x1, x2, x3]), by first | exact Keep.refl _ | exact (Keep.refl _).drew | exact (Keep.refl _).drew.drew | exact (Keep.refl _).drew.drew.drew⟩
  case rest =>
    obtain ⟨rfl, kc⟩ := hcut
    have s0 := Keep.cell kc c0
    have s1 := Keep.cell kc c1
    have s2 := Keep.cell kc c2
    have kw := k0.trans kc
    have tb' := (kc.block _ (Array.getElem?_eq_some_iff.1 tb).1).trans tb
    have tr' := (kc.block _ (Array.getElem?_eq_some_iff.1 tr).1).trans tr
    clear c0 c1 c2 x1 x2 x3 S1 S2 S1' S2' tb tr hw0
    go_upto_if 25 with fail
    go_cut [7] from 22 to 27 (fun s7 wx => s7 = .int .i64 E0 ∧ wc = wx)
    case first =>
      by_cases hlt : A < -1074
      · have d1 : decide (A < -1074) = true := decide_eq_true hlt
        go_wp2_with fail
        go_meet
        exact ⟨by rw [show E0 = -1074 by have := hE0.out; have := hA4.out; omega], rfl⟩
      · have d1 : decide (A < -1074) = false := decide_eq_false hlt
        go_wp2_with fail
        go_meet
        exact ⟨by rw [show E0 = A by have := hE0.out; have := hA4.out; omega], rfl⟩
    case rest =>
      obtain ⟨rfl, rfl⟩ := hcut
      go_wp2_with fail
      go_loopg [7] (fl N D E0) (fun gg s7 wx => ∃ E : Int, gg = fl N D E ∧ s7 = .int .i64 E ∧ -1074 ≤ E ∧ Hid (E = -1074 ∨ 9007199254740992 ≤ fl N D (E - 1)) ∧ Keep wc wx)
      case atStart => exact ⟨E0, rfl, rfl, he0, he1, Keep.refl _⟩
      case round =>
        obtain ⟨E, hgg, rfl, hEl, hEp, kr⟩ := hrel
        have hEu := e_le hD hEp.out
        have kwr := kw.trans kr
        have r0 := Keep.cell kr s0
        have r1 := Keep.cell kr s1
        have r2 := Keep.cell kr s2
        have hEb : -1074 ≤ E ∧ E ≤ 10000000000000000 := by omega
        go_upto_if 31 with fail
        go_cut [8, 9] from 28 to 98 (fun s8 s9 wx => Nv wx s8 (sA N E) ∧ Nv wx s9 (sB D E) ∧ Keep wr wx)
        case first =>
          by_cases hneg : E < 0
          · obtain ⟨z, hz⟩ : ∃ z : Nat, -E = (z : Int) := ⟨(-E).toNat, by omega⟩
            have d1 : decide (E < 0) = true := decide_eq_true hneg
            have y1 : wrap64 (-E) = (z : Int) := by rw [hz]; exact IntWalk.wrap64_in _ (by omega)
            have hzb : z ≤ 1074 := by omega
            have f1 : N * 2 ^ z = sA N E := by unfold sA; rw [show (-E).toNat = z by omega]
            have f2 : D = sB D E := by unfold sB; rw [show E.toNat = 0 by omega]; simp
            replace f1 : Hid _ := f1
            replace f2 : Hid _ := f2
            go_wp2_with (go_at_call 51; refine (U1 z hzb _ kwr).mono ?_; rintro e wz ⟨vz, rfl, nz, kz⟩)
            go_meet
            exact ⟨by rw [← f1.out]; exact nz, by rw [← f2.out]; exact h2.keep (kwr.trans kz), kz⟩
          · obtain ⟨z, rfl⟩ := Int.eq_ofNat_of_zero_le (show 0 ≤ E by omega)
            have d1 : decide (((z : Nat) : Int) < 0) = false := decide_eq_false hneg
            have hzb : ((z : Nat) : Int) ≤ (sz N : Int) - (sz D : Int) := by omega
            have f1 : N = sA N z := by unfold sA; rw [show (-((z : Nat) : Int)).toNat = 0 by omega]; simp
            have f2 : D * 2 ^ z = sB D z := by unfold sB; rw [show ((z : Nat) : Int).toNat = z by omega]
            replace f1 : Hid _ := f1
            replace f2 : Hid _ := f2
            go_wp2_with (go_at_call 51; refine (U2 z hzb _ kwr).mono ?_; rintro e wz ⟨vz, rfl, nz, kz⟩)
            go_meet
            exact ⟨by rw [← f1.out]; exact h1.keep (kwr.trans kz), by rw [← f2.out]; exact nz, kz⟩
        case rest =>
          obtain ⟨na, nb, kx⟩ := hcut
          have q0 := Keep.cell kx r0
          have q1 := Keep.cell kx r1
          have q2 := Keep.cell kx r2
          have kwc := kwr.trans kx
          obtain ⟨K, hK⟩ : ∃ K : Nat, K = k + 40 := ⟨_, rfl⟩
          have bA : sA N E < 4294967296 ^ K := by
            unfold sA
            refine Nat.lt_of_lt_of_le (Nat.mul_lt_mul_of_lt_of_le HN1.out (pow_small (-E).toNat 40 (by omega)) (Nat.pow_pos (by omega))) ?_
            rw [← Nat.pow_add]
            exact Nat.pow_le_pow_right (by omega) (by omega)
          have bB : sB D E < 4294967296 ^ K := by
            by_cases hE0' : E < 0
            · unfold sB
              rw [show E.toNat = 0 by omega, Nat.pow_zero, Nat.mul_one]
              exact Nat.lt_of_lt_of_le HD1.out (Nat.pow_le_pow_right (by omega) (by omega))
            · unfold sB
              refine Nat.lt_of_lt_of_le (Nat.mul_lt_mul_of_pos_right (sz_lt D) (Nat.two_pow_pos _)) ?_
              rw [← Nat.pow_add, word_pow]
              exact Nat.pow_le_pow_right (by omega) (by omega)
          have hKb : K ≤ 35184372087950 := by omega
          have bA' : Hid (sA N E < 4294967296 ^ K) := bA
          have bB' : Hid (sB D E < 4294967296 ^ K) := bB
          have zA : sz (sA N E) ≤ 32 * K := sz_le (by rw [← word_pow]; exact bA)
          have zB : sz (sB D E) ≤ 32 * K := sz_le (by rw [← word_pow]; exact bB)
          have Z1 := fun wx (ky : Keep wc wx) => size_same u8 (sA N E) K wx (na.keep ky) bA (by omega)
          have Z2 := fun wx (ky : Keep wc wx) => size_same u9 (sB D E) K wx (nb.keep ky) bB (by omega)
          have hDv := fun hs wx (ky : Keep wc wx) => divide_nv u8 u9 (sA N E) (sB D E) K wx (na.keep ky) (nb.keep ky) (sB_pos hD E) bA bB (by omega) hs
          have hbig := @fl_big N D E hN hD
          have hless := @q_less (sA N E) (sB D E) (sB_pos hD E)
          have x1 : IntKind.i64.wrap ((sz (sA N E) : Int) - (sz (sB D E) : Int)) = (sz (sA N E) : Int) - (sz (sB D E) : Int) := by rw [IntWalk.i64_left]; exact IntWalk.wrap64_in _ (by omega)
          have y2 : wrap64 (E + 1) = E + 1 := IntWalk.wrap64_in _ (by omega)
          clear bA bB U1 U2 r0 r1 r2
          replace hK : Hid _ := hK
          go_upto_region 9 with fail
          go_cut [47] from 28 to 98 (fun s47 wx => s47 = .bool (decide (55 < (sz (sA N E) : Int) - (sz (sB D E) : Int))) ∧ Keep wc wx)
          case first =>
            go_region_with (first
              | (go_at_call_of 50 u8; refine (Z1 _ ?_).mono ?_; (first | exact Keep.refl _ | exact (Keep.refl _).drew | exact (Keep.refl _).drew.drew | exact (Keep.refl _).drew.drew.drew); rintro e wz ⟨rfl, rfl⟩)
              | (go_at_call_of 50 u9; refine (Z2 _ ?_).mono ?_; (first | exact Keep.refl _ | exact (Keep.refl _).drew | exact (Keep.refl _).drew.drew | exact (Keep.refl _).drew.drew.drew); rintro e wz ⟨rfl, rfl⟩))
            all_goals
              go_wp2_with fail
              go_meet
              exact ⟨by first | rfl | (rw [x1]), by first | exact Keep.refl _ | exact (Keep.refl _).drew | exact (Keep.refl _).drew.drew | exact (Keep.refl _).drew.drew.drew⟩
          case rest =>
            obtain ⟨rfl, ky⟩ := hcut
            have p0 := Keep.cell ky q0
            have p1 := Keep.cell ky q1
            have p2 := Keep.cell ky q2
            have kwy := kwc.trans ky
            clear q0 q1 q2 Z1 Z2 x1
            by_cases big : 55 < (sz (sA N E) : Int) - (sz (sB D E) : Int)
            · have hb1 := hbig big
              have d1 : decide (55 < (sz (sA N E) : Int) - (sz (sB D E) : Int)) = true := decide_eq_true big
              rw [d1]
              have Hst : Hid (fl N D (E + 1) < fl N D E) := fl_step hD E hb1
              have Hpr : Hid (E + 1 = -1074 ∨ 9007199254740992 ≤ fl N D (E + 1 - 1)) := .inr (by rw [Int.add_sub_cancel]; exact hb1)
              clear hDv hbig hless hb1
              go_wp2_with fail
              go_roundg (fl N D (E + 1))
              case measure => rw [hgg]; exact Hst.out
              case rel => exact ⟨E + 1, rfl, rfl, by omega, Hpr, (kr.trans kx).trans ky⟩
            · have d1 : decide (55 < (sz (sA N E) : Int) - (sz (sB D E) : Int)) = false := decide_eq_false big
              rw [d1]
              have hD2 := hDv (by omega) _ ky
              have e3 : sA N E / sB D E % 18446744073709551616 = fl N D E := Nat.mod_eq_of_lt (hless (by omega))
              rw [e3] at hD2
              obtain ⟨q, hq⟩ : ∃ q, fl N D E = q := ⟨_, rfl⟩
              rw [hq] at hD2
              clear hDv hbig hless e3
              go_wp2_with fail
              refine hD2.mono ?_
              rintro e wd ⟨vr, rfl, nr, kd⟩
              have l0 := Keep.cell kd p0
              have l1 := Keep.cell kd p1
              have l2 := Keep.cell kd p2
              by_cases ge : 9007199254740992 ≤ q
              · have d2 : decide ((9007199254740992 : Int) ≤ (q : Int)) = true := decide_eq_true (by omega)
                have Hst : Hid (fl N D (E + 1) < fl N D E) := fl_step hD E (by omega)
                have Hpr : Hid (E + 1 = -1074 ∨ 9007199254740992 ≤ fl N D (E + 1 - 1)) := .inr (by rw [Int.add_sub_cancel]; omega)
                replace hq : Hid _ := hq
                clear ge
                go_wp2_with fail
                go_roundg (fl N D (E + 1))
                case measure => rw [hgg]; exact Hst.out
                case rel => exact ⟨E + 1, rfl, rfl, by omega, Hpr, ((kr.trans kx).trans ky).trans kd⟩
              · have d2 : decide ((9007199254740992 : Int) ≤ (q : Int)) = false := decide_eq_false (by omega)
                have hIs : Hid (IsE N D E) := ⟨hEl, by omega, hEp.out⟩
                have hqb : (q : Int) < 9007199254740992 := by omega
                replace hq : Hid _ := hq
                have ge' : Hid (q < 9007199254740992) := by show _ < _; omega
                clear ge
                go_upto_region 14 with fail
                have HR : Hid (Nr.rup (sA N E) (sB D E) = if sB D E < 2 * (sA N E % sB D E) ∨ 2 * (sA N E % sB D E) = sB D E ∧ sA N E / sB D E % 2 = 1 then sA N E / sB D E + 1 else sA N E / sB D E) := rfl
                have hrl := Nat.mod_lt (sA N E) (sB_pos hD E)
                obtain ⟨r, hr⟩ : ∃ r, sA N E % sB D E = r := ⟨_, rfl⟩
                obtain ⟨M, hM⟩ : ∃ M, Nr.rup (sA N E) (sB D E) = M := ⟨_, rfl⟩
                obtain ⟨b, hb⟩ : ∃ b, sB D E = b := ⟨_, rfl⟩
                have hq' : sA N E / sB D E = q := hq.out
                rw [hr] at nr hrl
                rw [hM, hr, hq', hb] at HR
                rw [hb] at hrl
                have nb' := (nb.keep ky).keep kd
                rw [hb] at nb' bB'
                have hUp := up_nv vr r 1 K wd nr (Nat.lt_trans hrl bB'.out) (by omega) (by omega)
                have hCm := fun (v : Value) wx (kz : Keep wd wx) (nx : Nv wx v (r * 2 ^ 1)) => cmp_nv v u9 (r * 2 ^ 1) b (K + 1) wx nx (nb'.keep kz) (by
                  have := bB'.out
                  rw [Nat.pow_succ]
                  omega) (Nat.lt_of_lt_of_le bB'.out (Nat.pow_le_pow_right (by omega) (by omega))) (by omega)
                have hcs : (cmpN (r * 2 ^ 1) b = 1 ∧ M = q + 1) ∨ (cmpN (r * 2 ^ 1) b = 0 ∧ q % 2 = 1 ∧ M = q + 1) ∨ (cmpN (r * 2 ^ 1) b = 0 ∧ q % 2 = 0 ∧ M = q) ∨ (cmpN (r * 2 ^ 1) b = -1 ∧ M = q) := by
                  have h9 := HR.out
                  unfold cmpN
                  rw [Nat.pow_one]
                  rcases Nat.lt_trichotomy (r * 2) b with g1 | g1 | g1
                  · rw [if_pos g1]
                    rw [if_neg (by omega)] at h9
                    exact .inr (.inr (.inr ⟨rfl, h9⟩))
                  · rw [if_neg (by omega), if_neg (by omega)]
                    rcases Nat.mod_two_eq_zero_or_one q with g2 | g2
                    · rw [if_neg (by omega)] at h9
                      exact .inr (.inr (.inl ⟨rfl, g2, h9⟩))
                    · rw [if_pos (by omega)] at h9
                      exact .inr (.inl ⟨rfl, g2, h9⟩)
                  · rw [if_neg (by omega), if_pos g1]
                    rw [if_pos (by omega)] at h9
                    exact .inl ⟨rfl, h9⟩
                replace hM : Hid _ := hM
                have hMb : M ≤ 9007199254740992 := by have := ge'.out; omega
                clear HR hq' hrl nb' hb hr
                generalize cmpN (r * 2 ^ 1) b = C at *
                go_wp2_with (go_at_call 51; refine hUp.mono ?_; rintro e we ⟨vu, rfl, nu, ke⟩; have hCm' := hCm vu we ke nu)
                refine hCm'.mono ?_
                rintro e wf ⟨rfl, kf⟩
                have kwf := (((kwy.trans kd).trans ke).trans kf)
                have kall := ((((((kc.trans kr).trans kx).trans ky).trans kd).trans ke).trans kf)
                have j0 := Keep.cell (ke.trans kf) l0
                have j1 := Keep.cell (ke.trans kf) l1
                have j2 := Keep.cell (ke.trans kf) l2
                have trf := ((((((kr.trans kx).trans ky).trans kd).trans ke).trans kf).block _ (Array.getElem?_eq_some_iff.1 tr').1).trans tr'
                clear p0 p1 p2 l0 l1 l2 hUp hCm hCm' hD2
                obtain ⟨B, hB⟩ : ∃ B : Bool, B = decide (M = q + 1) := ⟨_, rfl⟩
                have hMB : M = if B then q + 1 else q := by
                  rw [hB]
                  rcases hcs with ⟨g, g1⟩ | ⟨g, g0, g1⟩ | ⟨g, g0, g1⟩ | ⟨g, g1⟩
                  all_goals (rw [g1]; simp)
                go_upto_region 15 with fail
                go_cut [78] from 28 to 98 (fun s78 wx => s78 = .bool B ∧ wf = wx)
                case first =>
                  rcases hcs with ⟨rfl, g1⟩ | ⟨rfl, g0, g1⟩ | ⟨rfl, g0, g1⟩ | ⟨rfl, g1⟩
                  all_goals
                    subst g1
                    simp at hB
                    subst hB
                    clear hMB
                    go_wp2_with fail
                    go_meet
                    exact ⟨by first | rfl | (congr 1; rw [beq_iff_eq]; omega) | (congr 1; rw [beq_eq_false_iff_ne]; omega), rfl⟩
                case rest =>
                  obtain ⟨rfl, rfl⟩ := hcut
                  clear hcs hB
                  go_upto_if 78 with fail
                  go_cut [10] from 28 to 98 (fun s10 wx => s10 = .int .u64 (M : Nat) ∧ wf = wx)
                  case first =>
                    have y3 : IntKind.u64.wrap ((q : Int) + 1) = (q : Int) + 1 := by rw [IntKind.wrap_u64]; omega
                    cases B
                    · simp at hMB
                      subst hMB
                      go_wp2_with fail
                      go_meet
                      exact ⟨rfl, rfl⟩
                    · simp at hMB
                      subst hMB
                      go_wp2_with fail
                      go_meet
                      exact ⟨by first | rfl | simp, rfl⟩
                  case rest =>
                    obtain ⟨rfl, rfl⟩ := hcut
                    have a0 := cell_of_row _ _ 0 _ 28 (0, 0) trf
                    have a1 := cell_of_row _ _ 1 _ 28 (0, 0) trf
                    have a2 := cell_of_row _ _ 2 _ 28 (0, 0) trf
                    have a3 := cell_of_row _ _ 3 _ 28 (0, 0) trf
                    have a4 := cell_of_row _ _ 4 _ 28 (0, 0) trf
                    simp only [List.getElem?_toArray, List.getElem?_cons_zero, List.getElem?_cons_succ] at a0 a1 a2 a3 a4
                    have b0 := frozen_of_row _ _ 0 _ 28 trf
                    have b1 := frozen_of_row _ _ 1 _ 28 trf
                    have b2 := frozen_of_row _ _ 2 _ 28 trf
                    have b3 := frozen_of_row _ _ 3 _ 28 trf
                    have b4 := frozen_of_row _ _ 4 _ 28 trf
                    have hgl : w.heap.size ≤ w.heap.size + 1 := Nat.le_succ _
                    have hkf : ∀ x0 x1 x2 x3 x4 : Value, Keep w (((((wf.setCell ⟨w.heap.size + 1, 0, none⟩ x0).setCell ⟨w.heap.size + 1, 1, none⟩ x1).setCell ⟨w.heap.size + 1, 2, none⟩ x2).setCell ⟨w.heap.size + 1, 3, none⟩ x3).setCell ⟨w.heap.size + 1, 4, none⟩ x4) := fun x0 x1 x2 x3 x4 =>
                      ((((kwf.setCell (p := ⟨w.heap.size + 1, 0, none⟩) hgl x0).setCell (p := ⟨w.heap.size + 1, 1, none⟩) hgl x1).setCell (p := ⟨w.heap.size + 1, 2, none⟩) hgl x2).setCell (p := ⟨w.heap.size + 1, 3, none⟩) hgl x3).setCell (p := ⟨w.heap.size + 1, 4, none⟩) hgl x4
                    replace hkf : Hid _ := hkf
                    have HT : Hid (rE M E = if M = 9007199254740992 then E + 1 else E) := rfl
                    have HS : Hid (rM M = if M = 9007199254740992 then 4503599627370496 else M) := rfl
                    clear hMb hqb ge' hMB h1 h2
                    by_cases m1 : M = 9007199254740992
                    · have c1 : ((M : Int) == 9007199254740992) = true := by rw [beq_iff_eq]; omega
                      have c2 : (M : Int) / 2 = 4503599627370496 := by omega
                      have hT := HT.out
                      have hS := HS.out
                      rw [if_pos m1] at hT hS
                      replace hT : Hid _ := hT
                      replace hS : Hid _ := hS
                      clear m1 HT HS
                      by_cases h9 : 971 < E + 1
                      · have d9 : decide (971 < E + 1) = true := decide_eq_true h9
                        replace h9 : Hid _ := h9
                        go_wp2_with fail
                        refine bodyPost_ret (results_cell_row rfl _ _ (w.heap.size + 1) 28 _ (0, 0) _ rfl (heap5 wf (w.heap.size + 1) _ _ _ _ _ trf) Tryz.underlying28 rfl (by kernel_rfl)) rfl ?_
                        refine ⟨E, hIs.out, ?_, hkf.out _ _ _ _ _⟩
                        rw [hM.out]
                        unfold nearV
                        rw [hT.out, if_pos h9.out]
                        rfl
                      · have d9 : decide (971 < E + 1) = false := decide_eq_false h9
                        replace h9 : Hid _ := h9
                        go_wp2_with fail
                        refine bodyPost_ret (results_cell_row rfl _ _ (w.heap.size + 1) 28 _ (0, 0) _ rfl (heap5 wf (w.heap.size + 1) _ _ _ _ _ trf) Tryz.underlying28 rfl (by kernel_rfl)) rfl ?_
                        refine ⟨E, hIs.out, ?_, hkf.out _ _ _ _ _⟩
                        rw [hM.out]
                        unfold nearV
                        rw [hT.out, hS.out, if_neg h9.out]
                        rfl
                    · have c1 : ((M : Int) == 9007199254740992) = false := by rw [beq_eq_false_iff_ne]; omega
                      have hT := HT.out
                      have hS := HS.out
                      rw [if_neg m1] at hT hS
                      replace hT : Hid _ := hT
                      replace hS : Hid _ := hS
                      clear m1 HT HS
                      by_cases h9 : 971 < E
                      · have d9 : decide (971 < E) = true := decide_eq_true h9
                        replace h9 : Hid _ := h9
                        go_wp2_with fail
                        refine bodyPost_ret (results_cell_row rfl _ _ (w.heap.size + 1) 28 _ (0, 0) _ rfl (heap5 wf (w.heap.size + 1) _ _ _ _ _ trf) Tryz.underlying28 rfl (by kernel_rfl)) rfl ?_
                        refine ⟨E, hIs.out, ?_, hkf.out _ _ _ _ _⟩
                        rw [hM.out]
                        unfold nearV
                        rw [hT.out, if_pos h9.out]
                        rfl
                      · have d9 : decide (971 < E) = false := decide_eq_false h9
                        replace h9 : Hid _ := h9
                        go_wp2_with fail
                        refine bodyPost_ret (results_cell_row rfl _ _ (w.heap.size + 1) 28 _ (0, 0) _ rfl (heap5 wf (w.heap.size + 1) _ _ _ _ _ trf) Tryz.underlying28 rfl (by kernel_rfl)) rfl ?_
                        refine ⟨E, hIs.out, ?_, hkf.out _ _ _ _ _⟩
                        rw [hM.out]
                        unfold nearV
                        rw [hT.out, hS.out, if_neg h9.out]
                        rfl
end Go.Proofs.YtpdjpjkieafnbaaGreatDoor.Li
set_option linter.unusedVariables false
set_option linter.unusedSimpArgs false
namespace Go.Proofs.YtpdjpjkieafnbaaGreatDoor.Li
open Go.RowKit Lb
theorem mulStep (q A P c x k d c' T : Nat) (B : Nat) (hv : q + c * P = k * A + B) (hT : T = c + x * k) (hd : T = d + 4294967296 * c') : (q + P * d) + c' * (P * 4294967296) = k * (A + x * P) + B := by
  have h1 : P * T = P * d + c' * (P * 4294967296) := by
    rw [hd, Nat.mul_add]
    congr 1
    rw [Nat.mul_comm c', Nat.mul_assoc]
  have h2 : P * T = c * P + k * (x * P) := by
    rw [hT, Nat.mul_add, Nat.mul_comm P c]
    congr 1
    rw [Nat.mul_comm x k, Nat.mul_left_comm, Nat.mul_comm P x]
  rw [Nat.mul_add]
  omega
set_option maxRecDepth 100000 in
set_option maxHeartbeats 800000 in
theorem times_any (a : Option Addr) (ca : Nat) (la : List Nat) (K P : Nat) (w : World) (hla : la.length ≤ 1000000) (hK : K ≤ 16) (hP : P ≤ 16) (hra : Rd w a la) (hma : Lim la) :
    Calls Tryz.prog 47 #[.slice a la.length ca, .int .u32 (K : Int), .int .u32 (P : Int)] w fun e w' => ∃ v, e = .returned v ∧ Nv w' v (K * val la + P) ∧ Keep w w' := by
  go_enter Tryz.func47, Tryz.ntmps47
  go_wp2_with fail
  go_loopw [7, 8, 9] (fun v c i wr => ∃ (j t : Nat) (q : List Nat), j ≤ la.length ∧ i = .int .i64 j ∧ c = .int .u64 t ∧ t ≤ 16 ∧ Own w.heap.size wr v q ∧ Hid (q.length = j) ∧ Lim q ∧ Hid (val q + t * 4294967296 ^ j = K * val (la.take j) + P) ∧ Keep w wr) (fun _ _ i _ => la.length - (intOf i).toNat)
  case atStart => exact ⟨0, P, [], by omega, rfl, rfl, hP, World.ownsRow_nil _ _ _ _, by show _ = _; simp, by intro x hx; simp at hx, by show _ = _; simp [val], Keep.refl _⟩
  case round =>
    obtain ⟨j, t, q, hkk, rfl, rfl, ht2, hown, hql, hmq, hv, hkp⟩ := hrel
    have hql' : q.length < 35184372088832 := by rw [hql.out]; omega
    obtain ⟨vs, cq, rfl, hcq, hrq⟩ := hown.shape
    clear hrq
    by_cases hkL : j < la.length
    · obtain ⟨b1, o1, rfl, hx1⟩ := (hra.keep hkp) j hkL
      obtain ⟨x, hx⟩ : ∃ x, la.getD j 0 = x := ⟨_, rfl⟩
      have hxl : x < 4294967296 := hx ▸ Lim_getD hma _
      rw [hx] at hx1
      have Hx : Hid (la.getD j 0 = x) := hx; clear hx
      obtain ⟨T, hT⟩ : ∃ T : Nat, t + x * K = T := ⟨_, rfl⟩
      have hxK : x * K ≤ 68719476720 := Nat.le_trans (Nat.mul_le_mul (show x ≤ 4294967295 by omega) hK) (by omega)
      obtain ⟨d, hd⟩ : ∃ d : Nat, T % 4294967296 = d := ⟨_, rfl⟩
      obtain ⟨u, hu⟩ : ∃ u : Nat, T / 4294967296 = u := ⟨_, rfl⟩
      have HV : Hid (val (q ++ [d]) + u * 4294967296 ^ (j + 1) = K * val (la.take (j + 1)) + P) := by
        show _ = _
        rw [val_snoc, hql.out, Nat.pow_succ, val_take_succ, Hx.out]
        exact mulStep _ _ _ t x K d u T P hv.out hT.symm (by omega)
      have Hql : Hid (∀ n, (q ++ [n]).length = j + 1) := by intro n; have := hql.out; simp; omega
      have hd2 : d < 4294967296 := by omega
      have hu2 : u ≤ 16 := by omega
      have hm1 : IntKind.u64.wrap ((x : Int) * (K : Int)) = ((x * K : Nat) : Int) := by
        have e : (x : Int) * (K : Int) = ((x * K : Nat) : Int) := by simp
        rw [e, IntKind.wrap_u64]
        omega
      have hm2 : IntKind.u64.wrap ((t : Int) + ((x * K : Nat) : Int)) = (T : Int) := by rw [IntKind.wrap_u64]; omega
      obtain ⟨z, hz⟩ : ∃ z, x * K = z := ⟨_, rfl⟩
      rw [hz] at hm1 hm2 hxK hT
      have hT5 : T ≤ 68719476736 := by omega
      have HT : Hid (t + z = T) := hT
      have HD : Hid (T % 4294967296 = d) := hd
      have HU : Hid (T / 4294967296 = u) := hu
      clear hT hd hu hz
      go_wp2_with (at_builtin; refine wpList_app32 rfl _ _ rfl q _ rfl _ d ?_ rfl hown hkp hql' ?_; rotate_left; intro v' w1' hown' hk')
      · refine ⟨⟨j + 1, u, _, by omega, by go_num, ?_, hu2, hown', Hql.out _, Lim_snoc hmq _ hd2, HV, hk'⟩, by simp [intOf]; omega⟩
        rw [← HU.out]
        congr 1
      · rw [← HD.out]
        simp
    · have hke : j = la.length := by omega
      subst hke
      rw [List.take_of_length_le (Nat.le_refl _)] at hv
      have HF : Hid (val (q ++ [t]) = K * val la + P) := by
        show _ = _
        rw [val_snoc, hql.out, Nat.mul_comm]
        exact hv.out
      have Hql : Hid ((q ++ [t]).length = la.length + 1) := by show _ = _; rw [List.length_append, hql.out]; rfl
      have hmt : Lim (q ++ [t]) := Lim_snoc hmq _ (by omega)
      replace hmt : Hid _ := hmt
      go_wp2_with (first
        | (go_at_call 93; obtain ⟨vs2, cq2, rfl, hcq2, hrq2⟩ := hown'.shape; refine (norm_any vs2 cq2 (q ++ [t]) _ hcq2 (by rw [Hql.out]; omega) hrq2).mono ?_; rintro e w5 ⟨rfl, rfl⟩)
        | (at_builtin; refine wpList_app32 rfl _ _ rfl q _ rfl _ t ?_ rfl hown hkp hql' ?_; rotate_left; intro v' w1' hown' hk'))
      · go_ret
        have hcut : ((q ++ [t]).take (nl (q ++ [t]))).length = nl (q ++ [t]) := by rw [List.length_take]; have := nl_le (q ++ [t]); omega
        exact ⟨_, rfl, ⟨vs2, cq2, (q ++ [t]).take (nl (q ++ [t])), by rw [hcut]; rfl, by have := nl_le (q ++ [t]); omega, hrq2.take _, Lim_take hmt.out _, Nrm_take _, by rw [val_take_nl]; exact HF.out⟩, hk'⟩
      · rfl
theorem times_nv (v : Value) (n k K P : Nat) (w : World) (h : Nv w v n) (hn : n < 4294967296 ^ k) (hk : k ≤ 100000) (hK : K ≤ 16) (hP : P ≤ 16) :
    Calls Tryz.prog 47 #[v, .int .u32 (K : Int), .int .u32 (P : Int)] w fun e w' => ∃ v', e = .returned v' ∧ Nv w' v' (K * n + P) ∧ Keep w w' := by
  obtain ⟨a, c, l, rfl, hlc, hr, hm, hnr, rfl, hlk⟩ := h.few hn
  exact times_any a c l K P w (by omega) hK hP hr hm
set_option maxRecDepth 100000 in
set_option maxHeartbeats 800000 in
theorem ten_nv (v : Value) (n m k : Nat) (w : World) (h : Nv w v n) (hn : n * 10 ^ m < 4294967296 ^ k) (hk : k ≤ 100000) (hm : m ≤ 1000000) :
    Calls Tryz.prog 53 #[v, .int .i64 (m : Int)] w fun e w' => ∃ v', e = .returned v' ∧ Nv w' v' (n * 10 ^ m) ∧ Keep w w' := by
  have HN : Hid (Nv w v n) := h
  have HB : Hid (n * 10 ^ m < 4294967296 ^ k) := hn
  clear h hn
  go_enter Tryz.func53, Tryz.ntmps53
  go_wp2_with fail
  go_loopg [0, 5] (m) (fun g v0 v5 wx => ∃ i : Nat, i + g = m ∧ v5 = .int .i64 (i : Int) ∧ Nv wx v0 (n * 10 ^ i) ∧ Keep w wx)
  case atStart => exact ⟨0, by omega, rfl, by simpa using HN.out, Keep.refl _⟩
  case round =>
    obtain ⟨i, hig, rfl, hv, hkp⟩ := hrel
    have HV : Hid (Nv wr _ (n * 10 ^ i)) := hv
    have KP : Hid (Keep w wr) := hkp
    clear hv hkp
    by_cases hil : i < m
    · have hile : (i : Int) < (m : Int) := by omega
      have hb : n * 10 ^ i < 4294967296 ^ k := Nat.lt_of_le_of_lt (Nat.mul_le_mul_left _ (Nat.pow_le_pow_right (by omega) (by omega))) HB.out
      have hT := times_nv _ (n * 10 ^ i) k 10 0 wr HV.out hb hk (by omega) (by omega)
      have e10 : 10 * (n * 10 ^ i) + 0 = n * 10 ^ (i + 1) := by rw [Nat.pow_succ, Nat.add_zero, Nat.mul_comm, Nat.mul_assoc]
      rw [e10] at hT
      clear e10 hb
      replace hT : Hid (Calls Tryz.prog 47 #[_, .int .u32 10, .int .u32 0] wr _) := hT
      go_wp2_with (go_at_call 47; refine hT.out.mono ?_; rintro e w2 ⟨v', rfl, n2, k2⟩; have N2 : Hid (Nv w2 v' (n * 10 ^ (i + 1))) := n2; have K2 : Hid (Keep wr w2) := k2; clear n2 k2)
      go_roundg (gk - 1)
      case measure => omega
      case rel => exact ⟨i + 1, by omega, by simp, N2.out, KP.out.trans K2.out⟩
    · obtain rfl : i = m := by omega
      have hile : ¬ (i : Int) < (i : Int) := by omega
      go_wp2_with fail
      go_ret
      exact ⟨_, rfl, HV.out, KP.out⟩
end Go.Proofs.YtpdjpjkieafnbaaGreatDoor.Li
set_option linter.unusedVariables false
set_option linter.unusedSimpArgs false
namespace Go.Proofs.YtpdjpjkieafnbaaGreatDoor.Li
open Go.RowKit Lb
/-- A block whose head holds limbs. -/
def Hd (w : World) (g : Nat) (l : List Nat) : Prop := ∃ cur, w.heap[g]? = some (.cells cur 40 (0, 0)) ∧ l.length ≤ cur.size ∧ cur.toList.take l.length = U l
theorem Hd.cell {w : World} {g : Nat} {l : List Nat} (h : Hd w g l) (j : Nat) (hj : j < l.length) : w.cell? ⟨g, j, none⟩ = some (.int .u32 (l.getD j 0 : Nat)) := by
  obtain ⟨cur, hh, hs, ht⟩ := h
  rw [cell_of_row w g j _ 40 (0, 0) hh, ← Array.getElem?_toList, ← List.getElem?_take_of_lt hj, ht]
  exact U_get l j hj
theorem Hd.frozen {w : World} {g : Nat} {l : List Nat} (h : Hd w g l) (j : Nat) : w.frozen? ⟨g, j, none⟩ = false := by
  obtain ⟨cur, hh, -⟩ := h
  exact frozen_of_row w g j _ 40 hh
theorem Hd.set {w : World} {g : Nat} {l : List Nat} (h : Hd w g l) (j x : Nat) : Hd (w.setCell ⟨g, j, none⟩ (.int .u32 (x : Nat))) g (l.set j x) := by
  obtain ⟨cur, hh, hs, ht⟩ := h
  refine ⟨_, heap_setCell_same w g j _ 40 (.int .u32 (x : Nat)) hh, by simpa using hs, ?_⟩
  rw [Array.toList_setIfInBounds, List.length_set, List.take_set, ht]
  simp [U, List.map_set]
theorem Hd.rd {w : World} {g : Nat} {l : List Nat} (h : Hd w g l) : Rd w (some ⟨g, 0, none⟩) l := by
  intro j hj
  exact ⟨g, 0, rfl, by simpa using h.cell j hj⟩
theorem Own.hd {B : Nat} {w : World} {v : Value} {l : List Nat} (h : Own B w v l) (h0 : l ≠ []) : ∃ g c, v = .slice (some ⟨g, 0, none⟩) l.length c ∧ B ≤ g ∧ l.length ≤ c ∧ Hd w g l := by
  obtain ⟨-, h⟩ := h
  rcases h with ⟨-, e⟩ | ⟨g, cap, cur, e, hb, hh, hc, -, hs, ht⟩
  · exact absurd (List.eq_nil_of_length_eq_zero e) h0
  · rw [Nat.mul_one] at hs ht
    exact ⟨g, cap, e, hb, hc, cur, hh, by omega, ht⟩
set_option maxRecDepth 100000 in
set_option maxHeartbeats 800000 in
/-- The reference's digit. -/
theorem digit_any (a : Option Addr) (ca : Nat) (la : List Nat) (w : World) (h0 : la ≠ []) (hla : la.length ≤ 1000000) (hra : Rd w a la) (hma : Lim la) :
    Calls Tryz.prog 95 #[.slice a la.length ca, .int .u32 10] w fun e w' => ∃ v, e = .returned (.tuple #[v, .int .u32 ((val la % 10 : Nat) : Int)]) ∧ Nv w' v (val la / 10) ∧ Keep w w' := by
  obtain ⟨n, hn⟩ : ∃ n, la.length = n := ⟨_, rfl⟩
  go_enter Tryz.func95, Tryz.ntmps95
  go_wp2_with (at_builtin; refine wpList_copy32z rfl _ _ rfl la a ca ?_ ?_ hra (by omega) ?_; rotate_left 2; intro ve w1 Oe k1; obtain ⟨g, c, rfl, hg, hc, H1⟩ := Oe.hd h0)
  rotate_left 1
  · rfl
  · rfl
  rw [hn] at hc hla
  have H1' : Hd w1 g (la.take n ++ []) := by rw [← hn, List.take_length, List.append_nil]; exact H1
  have HN : Hid (la.length = n) := hn
  have e0 : val (la.drop n) = 0 := by rw [← hn, List.drop_length]; rfl
  clear H1 Oe hra hn
  go_loopw [7, 8] (fun t i wr => ∃ (k c' : Nat) (q : List Nat), k ≤ n ∧ i = .int .i64 ((k : Int) - 1) ∧ t = .int .u64 c' ∧ Hd wr g (la.take k ++ q) ∧ Hid (q.length + k = n) ∧ Lim q ∧ Hid (val q = val (la.drop k) / 10) ∧ Hid (c' = val (la.drop k) % 10) ∧ Keep w wr) (fun _ i _ => (intOf i + 1).toNat)
  case atStart => exact ⟨n, 0, [], Nat.le_refl _, rfl, rfl, H1', by show _ = _; simp, by intro x hx; simp at hx, by show _ = _; rw [e0]; rfl, by show _ = _; rw [e0], k1⟩
  case round =>
    clear H1' e0 k1
    obtain ⟨k, c', q, hk, rfl, rfl, hrk, hql, hmq, hv, hcv, hkp⟩ := hrel
    by_cases hkl : 0 < k
    · obtain ⟨m, hm1⟩ : ∃ m, k = m + 1 := ⟨k - 1, by omega⟩
      subst hm1
      have hmr : m < la.length := by have := HN.out; omega
      have hcc := hrk.cell m (by rw [List.length_append, List.length_take]; omega)
      rw [get_mid la _ m hmr] at hcc
      have hfz := hrk.frozen m
      obtain ⟨x, hx⟩ : ∃ x, la.getD m 0 = x := ⟨_, rfl⟩
      have hxl : x < 4294967296 := hx ▸ Lim_getD hma _
      rw [hx] at hcc
      have hcl : c' < 10 := by rw [hcv.out]; exact Nat.mod_lt _ (by omega)
      have hor := or64' c' x (by omega) hxl
      have hdrop : Hid (val (la.drop m) = x + 4294967296 * val (la.drop (m + 1))) := by
        show _ = _
        have h1 := val_drop_pred la (m + 1) (by omega) (by omega)
        rw [Nat.add_sub_cancel, hx] at h1
        exact h1
      have hst := divStep _ _ _ 10 x (by omega) hv.out hcv.out
      have Hst : Hid ((c' * 4294967296 + x) / 10 + 4294967296 * val q = (x + 4294967296 * val (la.drop (m + 1))) / 10 ∧ (c' * 4294967296 + x) % 10 = (x + 4294967296 * val (la.drop (m + 1))) % 10) := hst
      have hqb : (c' * 4294967296 + x) / 10 < 4294967296 := by omega
      have hidx : ((m + 1 : Nat) : Int) - 1 = (m : Int) := by omega
      have HX : Hid (la.getD m 0 = x) := hx
      clear hx hst
      rw [hidx]
      have hge : (0 : Int) ≤ (m : Int) := by omega
      have hgl : g < wr.heap.size := by obtain ⟨cur, hh, -⟩ := hrk; exact (Array.getElem?_eq_some_iff.1 hh).1
      have hmn : (m : Int) < (n : Int) := by have := HN.out; omega
      go_wp2_with fail
      go_roundw
      case rel =>
        refine ⟨m, (c' * 4294967296 + x) % 10, (c' * 4294967296 + x) / 10 :: q, by omega, rfl, by simp, ?_, ?_, ?_, ?_, ?_, hkp.setCell hg _⟩
        · have h1 := hrk.set m ((c' * 4294967296 + x) / 10)
          rw [set_mid la _ m _ hmr] at h1
          have ev : ((c' : Int) * 4294967296 + (x : Int)) / 10 = (((c' * 4294967296 + x) / 10 : Nat) : Int) := by omega
          rw [ev]
          exact h1
        · show _ = _
          have := hql.out
          simp
          omega
        · intro y hy
          simp at hy
          rcases hy with rfl | hy
          · exact hqb
          · exact hmq y hy
        · show _ = _
          rw [hdrop.out, val, Hst.out.1]
        · show _ = _
          rw [hdrop.out, Hst.out.2]
      case measure => simp [intOf]
    · obtain rfl : k = 0 := by omega
      have hq : q.length = n := by have := hql.out; omega
      rw [List.take_zero, List.nil_append] at hrk
      rw [List.drop_zero] at hv hcv
      have hrd := hrk.rd
      have hcl : c' < 10 := by rw [hcv.out]; exact Nat.mod_lt _ (by omega)
      have hN := fun wx h => norm_any (some ⟨g, 0, none⟩) c q wx (by omega) (by omega) h
      rw [hq] at hN
      go_wp2_with (go_at_call 93; refine (hN _ hrd).mono ?_; rintro e w5 ⟨rfl, rfl⟩)
      go_ret2
      have hcut : (q.take (nl q)).length = nl q := by rw [List.length_take]; have := nl_le q; omega
      refine ⟨_, ?_, ⟨some ⟨g, 0, none⟩, c, q.take (nl q), by rw [hcut], by rw [hcut]; have := nl_le q; omega, hrd.take _, Lim_take hmq _, Nrm_take _, by rw [val_take_nl]; exact hv.out⟩, hkp⟩
      rw [← hcv.out]
      first | rfl | (congr 4; omega) | simp
end Go.Proofs.YtpdjpjkieafnbaaGreatDoor.Li
set_option linter.unusedVariables false
set_option linter.unusedSimpArgs false
namespace Go.Proofs.YtpdjpjkieafnbaaGreatDoor.Li
open Go.RowKit Lb
/-- The digits of what is left, ahead of those that are there. -/
def dZ (n : Nat) : List UInt8 := if n = 0 then [] else dD n
theorem dZ_step {n : Nat} (h : 0 < n) : dZ n = dZ (n / 10) ++ [UInt8.ofNat (48 + n % 10)] := by
  unfold dZ
  rw [if_neg (by omega)]
  by_cases q : n < 10
  · rw [if_pos (by omega), dD_small q, Nat.mod_eq_of_lt q]
    rfl
  · rw [if_neg (by omega), dD_step q]
theorem Nv.zero {w : World} {v : Value} (h : Nv w v 0) : ∃ a c, v = .slice a 0 c := by
  obtain ⟨a, c, l, rfl, -, -, -, hn, hv⟩ := h
  by_cases e : l = []
  · subst e; exact ⟨a, c, rfl⟩
  · have := val_pos hn e; omega
theorem Nv.pos {w : World} {v : Value} {n : Nat} (h : Nv w v n) (hn : 0 < n) {k : Nat} (hk : n < 4294967296 ^ k) : ∃ a c l, v = .slice a l.length c ∧ l.length ≤ c ∧ Rd w a l ∧ Lim l ∧ val l = n ∧ l ≠ [] ∧ l.length ≤ k := by
  obtain ⟨a, c, l, e, h1, h2, h3, h4, h5, h6⟩ := h.few hk
  refine ⟨a, c, l, e, h1, h2, h3, h5, ?_, h6⟩
  rintro rfl
  simp [val] at h5
  omega
set_option maxRecDepth 100000 in
set_option maxHeartbeats 800000 in
/-- The reference's decimal. -/
theorem decimal_nv (v : Value) (n k : Nat) (w : World) (h : Nv w v n) (hn : n < 4294967296 ^ k) (hk : k ≤ 1000000) :
    Calls Tryz.prog 52 #[v] w fun e w' => e = .returned (.string ⟨(dD n).toArray⟩) ∧ Keep w w' := by
  by_cases h0 : n = 0
  · subst h0
    obtain ⟨a, c, rfl⟩ := h.zero
    go_enter Tryz.func52, Tryz.ntmps52
    go_wp2_with fail
    go_ret
    exact ⟨by rw [dD_small (by omega)]; rfl, Keep.refl _⟩
  have hp : 0 < n := by omega
  have HV0 : Hid (Nv w v n) := h
  have HE : Hid (dZ n = dD n) := by unfold Hid dZ; rw [if_neg h0]
  obtain ⟨a, c, l, rfl, -, -, -, -, hl0, hlk⟩ := h.pos hp hn
  have hl1 : ((l.length : Int) == 0) = false := by
    rw [beq_eq_false_iff_ne]
    have := List.length_pos_iff.2 hl0
    omega
  have HB : Hid (n < 4294967296 ^ k) := hn
  have HLen : Hid ((dD n).length ≤ 10000001) := by
    refine Nat.le_trans (dD_len (10 * k) n (Nat.lt_of_lt_of_le hn ?_)) (by omega)
    refine Nat.le_trans ?_ (Nat.pow_le_pow_right (by omega) (Nat.le_succ _))
    rw [Nat.pow_mul]
    exact Nat.pow_le_pow_left (by decide) _
  have HP : Hid (0 < n) := hp
  clear h0 hp hn h hl0
  go_enter Tryz.func52, Tryz.ntmps52
  go_wp2_with fail
  go_loopg [0, 3] (n) (fun g v0 v3 wx => ∃ t : List UInt8, v3 = .string ⟨t.toArray⟩ ∧ g ≤ n ∧ Nv wx v0 g ∧ Hid (dZ g ++ t = dD n) ∧ Keep w wx)
  case atStart => exact ⟨[], rfl, Nat.le_refl _, HV0.out, by unfold Hid; rw [List.append_nil]; exact HE.out, Keep.refl _⟩
  case round =>
    clear hl1 hlk
    obtain ⟨t, rfl, hgn, hv, ht, hkp⟩ := hrel
    by_cases hg : gk = 0
    · subst hg
      obtain ⟨a1, c1, rfl⟩ := hv.zero
      go_wp2_with fail
      go_ret
      exact ⟨by rw [← ht.out]; rfl, hkp⟩
    · have hgp : 0 < gk := by omega
      have HB2 : gk < 4294967296 ^ k := Nat.lt_of_le_of_lt hgn HB.out
      obtain ⟨a1, c1, l1, rfl, hc1, r1, m1, v1, n1, hk1⟩ := hv.pos hgp HB2
      have hl2 : decide ((0 : Int) < (l1.length : Int)) = true := decide_eq_true (by have := List.length_pos_iff.2 n1; omega)
      have hl3 : decide (0 < l1.length) = true := decide_eq_true (List.length_pos_iff.2 n1)
      have hD := digit_any a1 c1 l1 wr n1 (by omega) r1 m1
      rw [v1] at hD
      obtain ⟨d, hd⟩ : ∃ d, gk % 10 = d := ⟨_, rfl⟩
      rw [hd] at hD
      have hd10 : d < 10 := by omega
      have HT : Hid (dZ (gk / 10) ++ (UInt8.ofNat (48 + d) :: t) = dD n) := by
        unfold Hid
        rw [← ht.out, dZ_step hgp, hd, List.append_assoc]
        rfl
      have KP : Hid (Keep w wr) := hkp
      have hcv : ∀ wx : World, (convert 61 9 (.slice (some ⟨wx.heap.size, 0, none⟩) 1 1)).run Tryz.prog (wx.alloc (.cells #[.int .u8 (48 + (d : Int))] 5)) = .ok (.string ⟨#[UInt8.ofNat (48 + d)]⟩) (wx.alloc (.cells #[.int .u8 (48 + (d : Int))] 5)) := fun wx => by
        have := convZ wx (48 + d) (by omega)
        rw [show ((48 + d : Nat) : Int) = 48 + (d : Int) by omega] at this
        exact this
      obtain ⟨cc, hcc⟩ : ∃ c, UInt8.ofNat (48 + d) = c := ⟨_, rfl⟩
      rw [hcc] at hcv HT
      clear hcc
      have hcat := one_catZ cc t
      have htl : t.length ≤ 10000010 := by
        have h1 := congrArg List.length ht.out
        rw [List.length_append] at h1
        have h2 := HLen.out
        omega
      have hszt : (ByteArray.mk t.toArray).size = t.length := sz_mk t
      have hwr : IntKind.u8.wrap (48 + (d : Int)) = 48 + (d : Int) := by
        obtain rfl | rfl | rfl | rfl | rfl | rfl | rfl | rfl | rfl | rfl : d = 0 ∨ d = 1 ∨ d = 2 ∨ d = 3 ∨ d = 4 ∨ d = 5 ∨ d = 6 ∨ d = 7 ∨ d = 8 ∨ d = 9 := by omega
        all_goals rfl
      clear hv hd ht r1 m1 v1 hkp hc1
      go_wp2_with (go_at_call 95; refine hD.mono ?_; rintro e w2 ⟨v2, rfl, hv2, k2⟩)
      go_roundg (gk / 10)
      case measure => omega
      case rel =>
        refine ⟨cc :: t, rfl, by omega, ?_, HT, ?_⟩
        · exact hv2.keep ((Keep.refl _).alloc _)
        · exact (KP.out.trans k2).alloc _
end Go.Proofs.YtpdjpjkieafnbaaGreatDoor.Li
set_option linter.unusedVariables false
set_option linter.unusedSimpArgs false
namespace Go.Proofs.YtpdjpjkieafnbaaGreatDoor.Li.Nw
open Go.RowKit Lb Nr
/-- As the reference puts them together. -/
def rM (M : Nat) : Nat := if M = 16777216 then 8388608 else M
def rE (M : Nat) (E : Int) : Int := if M = 16777216 then E + 1 else E
/-- The format, as the reference has it; a number of the reference. -/
def narrowV : Value := .agg #[.int .i64 24, .int .i64 (-149), .int .i64 104]
def nearV (M : Nat) (E : Int) (ng : Bool) : Value := if 104 < rE M E then numV ng true 0 0 else numV ng false (rM M) (rE M E)
theorem q_great' {x y : Nat} (hx : 0 < x) (hy : 0 < y) (h : (26 : Int) < (sz x : Int) - (sz y : Int)) : 16777216 ≤ x / y := by
  rw [Nat.le_div_iff_mul_le hy]
  have a := sz_lt y
  obtain ⟨b, c⟩ := sz_ge hx
  have d : 2 ^ 24 * 2 ^ sz y ≤ 2 ^ (sz x - 1) := by
    rw [← Nat.pow_add]
    exact Nat.pow_le_pow_right (by omega) (by omega)
  rw [p53] at d
  omega
theorem q_less {x y : Nat} (hy : 0 < y) (h : (sz x : Int) - (sz y : Int) ≤ 26) : x / y < 18446744073709551616 := by
  rw [Nat.div_lt_iff_lt_mul hy]
  have a := sz_lt x
  obtain ⟨b, c⟩ := sz_ge hy
  have d : 2 ^ sz x ≤ 2 ^ 27 * 2 ^ (sz y - 1) := by
    rw [← Nat.pow_add]
    exact Nat.pow_le_pow_right (by omega) (by omega)
  have e := Nat.mul_le_mul_left (2 ^ 27) b
  have f : (2 : Nat) ^ 27 = 134217728 := rfl
  omega
theorem fl_big {N D : Nat} {e : Int} (hN : 0 < N) (hD : 0 < D) (h : (26 : Int) < (sz (sA N e) : Int) - (sz (sB D e) : Int)) : 16777216 ≤ fl N D e := by
  have := q_great' (sA_pos hN e) (sB_pos hD e) h
  exact this
/-- Where the search begins. -/
def e0 (N D : Nat) : Int := max ((sz N : Int) - (sz D : Int) - 25) (-149)
theorem e0_ok {N D : Nat} (hN : 0 < N) (hD : 0 < D) : -149 ≤ e0 N D ∧ (e0 N D = -149 ∨ 16777216 ≤ fl N D (e0 N D - 1)) := by
  refine ⟨by unfold e0; omega, ?_⟩
  by_cases h : e0 N D = -149
  · exact .inl h
  · have := fl_ge (c := 24) (e := e0 N D - 1) hN hD (by unfold e0 at *; omega)
    rw [p53] at this
    exact .inr this
theorem e_le {N D : Nat} (hD : 0 < D) {e : Int} (h : e = -149 ∨ 16777216 ≤ fl N D (e - 1)) : e ≤ -149 ∨ e ≤ (sz N : Int) - (sz D : Int) := by
  rcases h with h | h
  · exact .inl (by omega)
  · refine .inr (Int.not_lt.1 fun g => ?_)
    have := fl_lt (N := N) (c := 24) (e := e - 1) hD (by omega)
    rw [p53] at this
    omega
theorem fl_step {N D : Nat} (hD : 0 < D) (e : Int) (h : 16777216 ≤ fl N D e) : fl N D (e + 1) < fl N D e := by
  have := fl_add hD e 1 (N := N)
  rw [show e + (1 : Nat) = e + 1 from rfl] at this
  omega
end Go.Proofs.YtpdjpjkieafnbaaGreatDoor.Li.Nw
set_option linter.unusedVariables false
set_option linter.unusedSimpArgs false
namespace Go.Proofs.YtpdjpjkieafnbaaGreatDoor.Li.Nw
open Go.RowKit Lb Nr
set_option maxRecDepth 100000 in
set_option maxHeartbeats 1000000 in
theorem rnearest_any (v1 v2 : Value) (N D k : Nat) (w : World) (h1 : Nv w v1 N) (h2 : Nv w v2 D) (hk : k ≤ 35184372087900) (hN1 : N < 4294967296 ^ k) (hD1 : D < 4294967296 ^ k) (hN : 0 < N) (hD : 0 < D) :
    Calls Tryz.prog 54 #[v1, v2, narrowV] w fun e w' => ∃ E, IsE N D E ∧ e = .returned (nearV (Nr.rup (sA N E) (sB D E)) E false) ∧ Keep w w' := by
  have S1 := fun wx (kx : Keep w wx) => size_same v1 N k wx (h1.keep kx) hN1 (by omega)
  have S2 := fun wx (kx : Keep w wx) => size_same v2 D k wx (h2.keep kx) hD1 (by omega)
  have U1 := fun (z : Nat) (hz : z ≤ 149) wx (kx : Keep w wx) => up_nv v1 N z k wx (h1.keep kx) hN1 (by omega) (by omega)
  have hbN : sz N ≤ 32 * k := sz_le (by rw [← word_pow]; exact hN1)
  have hbD : sz D ≤ 32 * k := sz_le (by rw [← word_pow]; exact hD1)
  have hDs : D < 4294967296 ^ ((sz D + 31) / 32) := by
    rw [word_pow]
    exact Nat.lt_of_lt_of_le (sz_lt D) (Nat.pow_le_pow_right (by omega) (by omega))
  have U2 := fun (z : Nat) (hz : (z : Int) ≤ (sz N : Int) - (sz D : Int)) wx (kx : Keep w wx) => up_nv v2 D z ((sz D + 31) / 32) wx (h2.keep kx) hDs (by omega) (by omega)
  clear hDs
  obtain ⟨he0, he1⟩ := e0_ok hN hD
  have hE0 : e0 N D = max ((sz N : Int) - (sz D : Int) - 25) (-149) := rfl
  generalize e0 N D = E0 at *
  have HN1 : Hid (N < 4294967296 ^ k) := hN1
  have HD1 : Hid (D < 4294967296 ^ k) := hD1
  clear hN1 hD1
  unfold narrowV
  obtain ⟨w0, hw0, k0, tb, tr⟩ : ∃ w0, (w.alloc (Obj.cells #[.int .i64 24, .int .i64 (-149), .int .i64 104] 32)).alloc (Obj.cells #[.bool false, .bool false, .bool false, .int .u64 0, .int .i64 0] 28) = w0 ∧ Keep w w0 ∧ w0.heap[w.heap.size]? = some (Obj.cells #[.int .i64 24, .int .i64 (-149), .int .i64 104] 32 (0, 0)) ∧ w0.heap[w.heap.size + 1]? = some (Obj.cells #[.bool false, .bool false, .bool false, .int .u64 0, .int .i64 0] 28 (0, 0)) := by
    refine ⟨_, rfl, ((Keep.refl w).alloc _).alloc _, ?_, ?_⟩
    · have hs : w.heap.size < (w.alloc (Obj.cells #[.int .i64 24, .int .i64 (-149), .int .i64 104] 32)).heap.size := by simp
      exact (((Keep.refl (w.alloc (Obj.cells #[.int .i64 24, .int .i64 (-149), .int .i64 104] 32))).alloc _).block _ hs).trans (heap_alloc_new w _)
    · have hs : (w.alloc (Obj.cells #[.int .i64 24, .int .i64 (-149), .int .i64 104] 32)).heap.size = w.heap.size + 1 := by simp
      rw [← hs]
      exact heap_alloc_new _ _
  have c0 := cell_of_row _ _ 0 _ 32 (0, 0) tb
  have c1 := cell_of_row _ _ 1 _ 32 (0, 0) tb
  have c2 := cell_of_row _ _ 2 _ 32 (0, 0) tb
  simp only [List.getElem?_toArray, List.getElem?_cons_zero, List.getElem?_cons_succ] at c0 c1 c2
  have hA : -10000000000000000 ≤ (sz N : Int) - (sz D : Int) ∧ (sz N : Int) - (sz D : Int) ≤ 10000000000000000 := by omega
  have S1' := fun wx (kx : Keep w0 wx) => S1 wx (k0.trans kx)
  have S2' := fun wx (kx : Keep w0 wx) => S2 wx (k0.trans kx)
  go_enter Tryz.func54, Tryz.ntmps54
  have x1 : IntKind.i64.wrap ((sz N : Int) - (sz D : Int)) = (sz N : Int) - (sz D : Int) := by rw [IntWalk.i64_left]; exact IntWalk.wrap64_in _ (by omega)
  have x2 : IntKind.i64.wrap ((sz N : Int) - (sz D : Int) - 24) = (sz N : Int) - (sz D : Int) - 24 := by rw [IntWalk.i64_left]; exact IntWalk.wrap64_in _ (by omega)
  obtain ⟨A, hA4⟩ : ∃ A : Int, (sz N : Int) - (sz D : Int) - 24 - 1 = A := ⟨_, rfl⟩
  have x3 : IntKind.i64.wrap ((sz N : Int) - (sz D : Int) - 24 - 1) = A := by rw [IntWalk.i64_left, hA4]; exact IntWalk.wrap64_in _ (by omega)
  replace hA4 : Hid _ := hA4
  replace hE0 : Hid _ := hE0
  go_upto_region 1 with fail
  go_cut [7] from 13 to 21 (fun s7 wx => s7 = .int .i64 A ∧ Keep w0 wx)
  case first =>
    go_region_with (first
      | (go_at_call_of 50 v1; refine (S1' _ ?_).mono ?_; (first | exact Keep.refl _ | exact (Keep.refl _).drew | exact (Keep.refl _).drew.drew | exact (Keep.refl _).drew.drew.drew); rintro e wz ⟨rfl, rfl⟩)
      | (go_at_call_of 50 v2; refine (S2' _ ?_).mono ?_; (first | exact Keep.refl _ | exact (Keep.refl _).drew | exact (Keep.refl _).drew.drew | exact (Keep.refl _).drew.drew.drew); rintro e wz ⟨rfl, rfl⟩))
    all_goals
      go_wp2_with fail
      go_meet
      exact ⟨by first | rfl | (rw [x1, x2, x3]), by first | exact Keep.refl _ | exact (Keep.refl _).drew | exact (Keep.refl _).drew.drew | exact (Keep.refl _).drew.drew.drew⟩
  case rest =>
    obtain ⟨rfl, kc⟩ := hcut
    have s0 := Keep.cell kc c0
    have s1 := Keep.cell kc c1
    have s2 := Keep.cell kc c2
    have kw := k0.trans kc
    have tb' := (kc.block _ (Array.getElem?_eq_some_iff.1 tb).1).trans tb
    have tr' := (kc.block _ (Array.getElem?_eq_some_iff.1 tr).1).trans tr
    clear c0 c1 c2 x1 x2 x3 S1 S2 S1' S2' tb tr hw0
    go_upto_if 25 with fail
    go_cut [7] from 22 to 27 (fun s7 wx => s7 = .int .i64 E0 ∧ wc = wx)
    case first =>
      by_cases hlt : A < -149
      · have d1 : decide (A < -149) = true := decide_eq_true hlt
        go_wp2_with fail
        go_meet
        exact ⟨by rw [show E0 = -149 by have := hE0.out; have := hA4.out; omega], rfl⟩
      · have d1 : decide (A < -149) = false := decide_eq_false hlt
        go_wp2_with fail
        go_meet
        exact ⟨by rw [show E0 = A by have := hE0.out; have := hA4.out; omega], rfl⟩
    case rest =>
      obtain ⟨rfl, rfl⟩ := hcut
      go_wp2_with fail
      go_loopg [7] (fl N D E0) (fun gg s7 wx => ∃ E : Int, gg = fl N D E ∧ s7 = .int .i64 E ∧ -149 ≤ E ∧ Hid (E = -149 ∨ 16777216 ≤ fl N D (E - 1)) ∧ Keep wc wx)
      case atStart => exact ⟨E0, rfl, rfl, he0, he1, Keep.refl _⟩
      case round =>
        obtain ⟨E, hgg, rfl, hEl, hEp, kr⟩ := hrel
        have hEu := e_le hD hEp.out
        have kwr := kw.trans kr
        have r0 := Keep.cell kr s0
        have r1 := Keep.cell kr s1
        have r2 := Keep.cell kr s2
        have hEb : -149 ≤ E ∧ E ≤ 10000000000000000 := by omega
        go_upto_if 31 with fail
        go_cut [8, 9] from 28 to 98 (fun s8 s9 wx => Nv wx s8 (sA N E) ∧ Nv wx s9 (sB D E) ∧ Keep wr wx)
        case first =>
          by_cases hneg : E < 0
          · obtain ⟨z, hz⟩ : ∃ z : Nat, -E = (z : Int) := ⟨(-E).toNat, by omega⟩
            have d1 : decide (E < 0) = true := decide_eq_true hneg
            have y1 : wrap64 (-E) = (z : Int) := by rw [hz]; exact IntWalk.wrap64_in _ (by omega)
            have hzb : z ≤ 149 := by omega
            have f1 : N * 2 ^ z = sA N E := by unfold sA; rw [show (-E).toNat = z by omega]
            have f2 : D = sB D E := by unfold sB; rw [show E.toNat = 0 by omega]; simp
            replace f1 : Hid _ := f1
            replace f2 : Hid _ := f2
            go_wp2_with (go_at_call 51; refine (U1 z hzb _ kwr).mono ?_; rintro e wz ⟨vz, rfl, nz, kz⟩)
            go_meet
            exact ⟨by rw [← f1.out]; exact nz, by rw [← f2.out]; exact h2.keep (kwr.trans kz), kz⟩
          · obtain ⟨z, rfl⟩ := Int.eq_ofNat_of_zero_le (show 0 ≤ E by omega)
            have d1 : decide (((z : Nat) : Int) < 0) = false := decide_eq_false hneg
            have hzb : ((z : Nat) : Int) ≤ (sz N : Int) - (sz D : Int) := by omega
            have f1 : N = sA N z := by unfold sA; rw [show (-((z : Nat) : Int)).toNat = 0 by omega]; simp
            have f2 : D * 2 ^ z = sB D z := by unfold sB; rw [show ((z : Nat) : Int).toNat = z by omega]
            replace f1 : Hid _ := f1
            replace f2 : Hid _ := f2
            go_wp2_with (go_at_call 51; refine (U2 z hzb _ kwr).mono ?_; rintro e wz ⟨vz, rfl, nz, kz⟩)
            go_meet
            exact ⟨by rw [← f1.out]; exact h1.keep (kwr.trans kz), by rw [← f2.out]; exact nz, kz⟩
        case rest =>
          obtain ⟨na, nb, kx⟩ := hcut
          have q0 := Keep.cell kx r0
          have q1 := Keep.cell kx r1
          have q2 := Keep.cell kx r2
          have kwc := kwr.trans kx
          obtain ⟨K, hK⟩ : ∃ K : Nat, K = k + 40 := ⟨_, rfl⟩
          have bA : sA N E < 4294967296 ^ K := by
            unfold sA
            refine Nat.lt_of_lt_of_le (Nat.mul_lt_mul_of_lt_of_le HN1.out (pow_small (-E).toNat 40 (by omega)) (Nat.pow_pos (by omega))) ?_
            rw [← Nat.pow_add]
            exact Nat.pow_le_pow_right (by omega) (by omega)
          have bB : sB D E < 4294967296 ^ K := by
            by_cases hE0' : E < 0
            · unfold sB
              rw [show E.toNat = 0 by omega, Nat.pow_zero, Nat.mul_one]
              exact Nat.lt_of_lt_of_le HD1.out (Nat.pow_le_pow_right (by omega) (by omega))
            · unfold sB
              refine Nat.lt_of_lt_of_le (Nat.mul_lt_mul_of_pos_right (sz_lt D) (Nat.two_pow_pos _)) ?_
              rw [← Nat.pow_add, word_pow]
              exact Nat.pow_le_pow_right (by omega) (by omega)
          have hKb : K ≤ 35184372087950 := by omega
          have bA' : Hid (sA N E < 4294967296 ^ K) := bA
          have bB' : Hid (sB D E < 4294967296 ^ K) := bB
          have zA : sz (sA N E) ≤ 32 * K := sz_le (by rw [← word_pow]; exact bA)
          have zB : sz (sB D E) ≤ 32 * K := sz_le (by rw [← word_pow]; exact bB)
          have Z1 := fun wx (ky : Keep wc wx) => size_same u8 (sA N E) K wx (na.keep ky) bA (by omega)
          have Z2 := fun wx (ky : Keep wc wx) => size_same u9 (sB D E) K wx (nb.keep ky) bB (by omega)
          have hDv := fun hs wx (ky : Keep wc wx) => divide_nv u8 u9 (sA N E) (sB D E) K wx (na.keep ky) (nb.keep ky) (sB_pos hD E) bA bB (by omega) hs
          have hbig := @fl_big N D E hN hD
          have hless := @q_less (sA N E) (sB D E) (sB_pos hD E)
          have x1 : IntKind.i64.wrap ((sz (sA N E) : Int) - (sz (sB D E) : Int)) = (sz (sA N E) : Int) - (sz (sB D E) : Int) := by rw [IntWalk.i64_left]; exact IntWalk.wrap64_in _ (by omega)
          have y2 : wrap64 (E + 1) = E + 1 := IntWalk.wrap64_in _ (by omega)
          clear bA bB U1 U2 r0 r1 r2
          replace hK : Hid _ := hK
          go_upto_region 9 with fail
          go_cut [47] from 28 to 98 (fun s47 wx => s47 = .bool (decide (26 < (sz (sA N E) : Int) - (sz (sB D E) : Int))) ∧ Keep wc wx)
          case first =>
            go_region_with (first
              | (go_at_call_of 50 u8; refine (Z1 _ ?_).mono ?_; (first | exact Keep.refl _ | exact (Keep.refl _).drew | exact (Keep.refl _).drew.drew | exact (Keep.refl _).drew.drew.drew); rintro e wz ⟨rfl, rfl⟩)
              | (go_at_call_of 50 u9; refine (Z2 _ ?_).mono ?_; (first | exact Keep.refl _ | exact (Keep.refl _).drew | exact (Keep.refl _).drew.drew | exact (Keep.refl _).drew.drew.drew); rintro e wz ⟨rfl, rfl⟩))
            all_goals
              go_wp2_with fail
              go_meet
              exact ⟨by first | rfl | (rw [x1]), by first | exact Keep.refl _ | exact (Keep.refl _).drew | exact (Keep.refl _).drew.drew | exact (Keep.refl _).drew.drew.drew⟩
          case rest =>
            obtain ⟨rfl, ky⟩ := hcut
            have p0 := Keep.cell ky q0
            have p1 := Keep.cell ky q1
            have p2 := Keep.cell ky q2
            have kwy := kwc.trans ky
            clear q0 q1 q2 Z1 Z2 x1
            by_cases big : 26 < (sz (sA N E) : Int) - (sz (sB D E) : Int)
            · have hb1 := hbig big
              have d1 : decide (26 < (sz (sA N E) : Int) - (sz (sB D E) : Int)) = true := decide_eq_true big
              rw [d1]
              have Hst : Hid (fl N D (E + 1) < fl N D E) := fl_step hD E hb1
              have Hpr : Hid (E + 1 = -149 ∨ 16777216 ≤ fl N D (E + 1 - 1)) := .inr (by rw [Int.add_sub_cancel]; exact hb1)
              clear hDv hbig hless hb1
              go_wp2_with fail
              go_roundg (fl N D (E + 1))
              case measure => rw [hgg]; exact Hst.out
              case rel => exact ⟨E + 1, rfl, rfl, by omega, Hpr, (kr.trans kx).trans ky⟩
            · have d1 : decide (26 < (sz (sA N E) : Int) - (sz (sB D E) : Int)) = false := decide_eq_false big
              rw [d1]
              have hD2 := hDv (by omega) _ ky
              have e3 : sA N E / sB D E % 18446744073709551616 = fl N D E := Nat.mod_eq_of_lt (hless (by omega))
              rw [e3] at hD2
              obtain ⟨q, hq⟩ : ∃ q, fl N D E = q := ⟨_, rfl⟩
              rw [hq] at hD2
              clear hDv hbig hless e3
              go_wp2_with fail
              refine hD2.mono ?_
              rintro e wd ⟨vr, rfl, nr, kd⟩
              have l0 := Keep.cell kd p0
              have l1 := Keep.cell kd p1
              have l2 := Keep.cell kd p2
              by_cases ge : 16777216 ≤ q
              · have d2 : decide ((16777216 : Int) ≤ (q : Int)) = true := decide_eq_true (by omega)
                have Hst : Hid (fl N D (E + 1) < fl N D E) := fl_step hD E (by omega)
                have Hpr : Hid (E + 1 = -149 ∨ 16777216 ≤ fl N D (E + 1 - 1)) := .inr (by rw [Int.add_sub_cancel]; omega)
                replace hq : Hid _ := hq
                clear ge
                go_wp2_with fail
                go_roundg (fl N D (E + 1))
                case measure => rw [hgg]; exact Hst.out
                case rel => exact ⟨E + 1, rfl, rfl, by omega, Hpr, ((kr.trans kx).trans ky).trans kd⟩
              · have d2 : decide ((16777216 : Int) ≤ (q : Int)) = false := decide_eq_false (by omega)
                have hIs : Hid (IsE N D E) := ⟨hEl, by omega, hEp.out⟩
                have hqb : (q : Int) < 16777216 := by omega
                replace hq : Hid _ := hq
                have ge' : Hid (q < 16777216) := by show _ < _; omega
                clear ge
                go_upto_region 14 with fail
                have HR : Hid (Nr.rup (sA N E) (sB D E) = if sB D E < 2 * (sA N E % sB D E) ∨ 2 * (sA N E % sB D E) = sB D E ∧ sA N E / sB D E % 2 = 1 then sA N E / sB D E + 1 else sA N E / sB D E) := rfl
                have hrl := Nat.mod_lt (sA N E) (sB_pos hD E)
                obtain ⟨r, hr⟩ : ∃ r, sA N E % sB D E = r := ⟨_, rfl⟩
                obtain ⟨M, hM⟩ : ∃ M, Nr.rup (sA N E) (sB D E) = M := ⟨_, rfl⟩
                obtain ⟨b, hb⟩ : ∃ b, sB D E = b := ⟨_, rfl⟩
                have hq' : sA N E / sB D E = q := hq.out
                rw [hr] at nr hrl
                rw [hM, hr, hq', hb] at HR
                rw [hb] at hrl
                have nb' := (nb.keep ky).keep kd
                rw [hb] at nb' bB'
                have hUp := up_nv vr r 1 K wd nr (Nat.lt_trans hrl bB'.out) (by omega) (by omega)
                have hCm := fun (v : Value) wx (kz : Keep wd wx) (nx : Nv wx v (r * 2 ^ 1)) => cmp_nv v u9 (r * 2 ^ 1) b (K + 1) wx nx (nb'.keep kz) (by
                  have := bB'.out
                  rw [Nat.pow_succ]
                  omega) (Nat.lt_of_lt_of_le bB'.out (Nat.pow_le_pow_right (by omega) (by omega))) (by omega)
                have hcs : (cmpN (r * 2 ^ 1) b = 1 ∧ M = q + 1) ∨ (cmpN (r * 2 ^ 1) b = 0 ∧ q % 2 = 1 ∧ M = q + 1) ∨ (cmpN (r * 2 ^ 1) b = 0 ∧ q % 2 = 0 ∧ M = q) ∨ (cmpN (r * 2 ^ 1) b = -1 ∧ M = q) := by
                  have h9 := HR.out
                  unfold cmpN
                  rw [Nat.pow_one]
                  rcases Nat.lt_trichotomy (r * 2) b with g1 | g1 | g1
                  · rw [if_pos g1]
                    rw [if_neg (by omega)] at h9
                    exact .inr (.inr (.inr ⟨rfl, h9⟩))
                  · rw [if_neg (by omega), if_neg (by omega)]
                    rcases Nat.mod_two_eq_zero_or_one q with g2 | g2
                    · rw [if_neg (by omega)] at h9
                      exact .inr (.inr (.inl ⟨rfl, g2, h9⟩))
                    · rw [if_pos (by omega)] at h9
                      exact .inr (.inl ⟨rfl, g2, h9⟩)
                  · rw [if_neg (by omega), if_pos g1]
                    rw [if_pos (by omega)] at h9
                    exact .inl ⟨rfl, h9⟩
                replace hM : Hid _ := hM
                have hMb : M ≤ 16777216 := by have := ge'.out; omega
                clear HR hq' hrl nb' hb hr
                generalize cmpN (r * 2 ^ 1) b = C at *
                go_wp2_with (go_at_call 51; refine hUp.mono ?_; rintro e we ⟨vu, rfl, nu, ke⟩; have hCm' := hCm vu we ke nu)
                refine hCm'.mono ?_
                rintro e wf ⟨rfl, kf⟩
                have kwf := (((kwy.trans kd).trans ke).trans kf)
                have kall := ((((((kc.trans kr).trans kx).trans ky).trans kd).trans ke).trans kf)
                have j0 := Keep.cell (ke.trans kf) l0
                have j1 := Keep.cell (ke.trans kf) l1
                have j2 := Keep.cell (ke.trans kf) l2
                have trf := ((((((kr.trans kx).trans ky).trans kd).trans ke).trans kf).block _ (Array.getElem?_eq_some_iff.1 tr').1).trans tr'
                clear p0 p1 p2 l0 l1 l2 hUp hCm hCm' hD2
                obtain ⟨B, hB⟩ : ∃ B : Bool, B = decide (M = q + 1) := ⟨_, rfl⟩
                have hMB : M = if B then q + 1 else q := by
                  rw [hB]
                  rcases hcs with ⟨g, g1⟩ | ⟨g, g0, g1⟩ | ⟨g, g0, g1⟩ | ⟨g, g1⟩
                  all_goals (rw [g1]; simp)
                go_upto_region 15 with fail
                go_cut [78] from 28 to 98 (fun s78 wx => s78 = .bool B ∧ wf = wx)
                case first =>
                  rcases hcs with ⟨rfl, g1⟩ | ⟨rfl, g0, g1⟩ | ⟨rfl, g0, g1⟩ | ⟨rfl, g1⟩
                  all_goals
                    subst g1
                    simp at hB
                    subst hB
                    clear hMB
                    go_wp2_with fail
                    go_meet
                    exact ⟨by first | rfl | (congr 1; rw [beq_iff_eq]; omega) | (congr 1; rw [beq_eq_false_iff_ne]; omega), rfl⟩
                case rest =>
                  obtain ⟨rfl, rfl⟩ := hcut
                  clear hcs hB
                  go_upto_if 78 with fail
                  go_cut [10] from 28 to 98 (fun s10 wx => s10 = .int .u64 (M : Nat) ∧ wf = wx)
                  case first =>
                    have y3 : IntKind.u64.wrap ((q : Int) + 1) = (q : Int) + 1 := by rw [IntKind.wrap_u64]; omega
                    cases B
                    · simp at hMB
                      subst hMB
                      go_wp2_with fail
                      go_meet
                      exact ⟨rfl, rfl⟩
                    · simp at hMB
                      subst hMB
                      go_wp2_with fail
                      go_meet
                      exact ⟨by first | rfl | simp, rfl⟩
                  case rest =>
                    obtain ⟨rfl, rfl⟩ := hcut
                    have a0 := cell_of_row _ _ 0 _ 28 (0, 0) trf
                    have a1 := cell_of_row _ _ 1 _ 28 (0, 0) trf
                    have a2 := cell_of_row _ _ 2 _ 28 (0, 0) trf
                    have a3 := cell_of_row _ _ 3 _ 28 (0, 0) trf
                    have a4 := cell_of_row _ _ 4 _ 28 (0, 0) trf
                    simp only [List.getElem?_toArray, List.getElem?_cons_zero, List.getElem?_cons_succ] at a0 a1 a2 a3 a4
                    have b0 := frozen_of_row _ _ 0 _ 28 trf
                    have b1 := frozen_of_row _ _ 1 _ 28 trf
                    have b2 := frozen_of_row _ _ 2 _ 28 trf
                    have b3 := frozen_of_row _ _ 3 _ 28 trf
                    have b4 := frozen_of_row _ _ 4 _ 28 trf
                    have hgl : w.heap.size ≤ w.heap.size + 1 := Nat.le_succ _
                    have hkf : ∀ x0 x1 x2 x3 x4 : Value, Keep w (((((wf.setCell ⟨w.heap.size + 1, 0, none⟩ x0).setCell ⟨w.heap.size + 1, 1, none⟩ x1).setCell ⟨w.heap.size + 1, 2, none⟩ x2).setCell ⟨w.heap.size + 1, 3, none⟩ x3).setCell ⟨w.heap.size + 1, 4, none⟩ x4) := fun x0 x1 x2 x3 x4 =>
                      ((((kwf.setCell (p := ⟨w.heap.size + 1, 0, none⟩) hgl x0).setCell (p := ⟨w.heap.size + 1, 1, none⟩) hgl x1).setCell (p := ⟨w.heap.size + 1, 2, none⟩) hgl x2).setCell (p := ⟨w.heap.size + 1, 3, none⟩) hgl x3).setCell (p := ⟨w.heap.size + 1, 4, none⟩) hgl x4
                    replace hkf : Hid _ := hkf
                    have HT : Hid (rE M E = if M = 16777216 then E + 1 else E) := rfl
                    have HS : Hid (rM M = if M = 16777216 then 8388608 else M) := rfl
                    clear hMb hqb ge' hMB h1 h2
                    by_cases m1 : M = 16777216
                    · have c1 : ((M : Int) == 16777216) = true := by rw [beq_iff_eq]; omega
                      have c2 : (M : Int) / 2 = 8388608 := by omega
                      have hT := HT.out
                      have hS := HS.out
                      rw [if_pos m1] at hT hS
                      replace hT : Hid _ := hT
                      replace hS : Hid _ := hS
                      clear m1 HT HS
                      by_cases h9 : 104 < E + 1
                      · have d9 : decide (104 < E + 1) = true := decide_eq_true h9
                        replace h9 : Hid _ := h9
                        go_wp2_with fail
                        refine bodyPost_ret (results_cell_row rfl _ _ (w.heap.size + 1) 28 _ (0, 0) _ rfl (heap5 wf (w.heap.size + 1) _ _ _ _ _ trf) Tryz.underlying28 rfl (by kernel_rfl)) rfl ?_
                        refine ⟨E, hIs.out, ?_, hkf.out _ _ _ _ _⟩
                        rw [hM.out]
                        unfold nearV
                        rw [hT.out, if_pos h9.out]
                        rfl
                      · have d9 : decide (104 < E + 1) = false := decide_eq_false h9
                        replace h9 : Hid _ := h9
                        go_wp2_with fail
                        refine bodyPost_ret (results_cell_row rfl _ _ (w.heap.size + 1) 28 _ (0, 0) _ rfl (heap5 wf (w.heap.size + 1) _ _ _ _ _ trf) Tryz.underlying28 rfl (by kernel_rfl)) rfl ?_
                        refine ⟨E, hIs.out, ?_, hkf.out _ _ _ _ _⟩
                        rw [hM.out]
                        unfold nearV
                        rw [hT.out, hS.out, if_neg h9.out]
                        rfl
                    · have c1 : ((M : Int) == 16777216) = false := by rw [beq_eq_false_iff_ne]; omega
                      have hT := HT.out
                      have hS := HS.out
                      rw [if_neg m1] at hT hS
                      replace hT : Hid _ := hT
                      replace hS : Hid _ := hS
                      clear m1 HT HS
                      by_cases h9 : 104 < E
                      · have d9 : decide (104 < E) = true := decide_eq_true h9
                        replace h9 : Hid _ := h9
                        go_wp2_with fail
                        refine bodyPost_ret (results_cell_row rfl _ _ (w.heap.size + 1) 28 _ (0, 0) _ rfl (heap5 wf (w.heap.size + 1) _ _ _ _ _ trf) Tryz.underlying28 rfl (by kernel_rfl)) rfl ?_
                        refine ⟨E, hIs.out, ?_, hkf.out _ _ _ _ _⟩
                        rw [hM.out]
                        unfold nearV
                        rw [hT.out, if_pos h9.out]
                        rfl
                      · have d9 : decide (104 < E) = false := decide_eq_false h9
                        replace h9 : Hid _ := h9
                        go_wp2_with fail
                        refine bodyPost_ret (results_cell_row rfl _ _ (w.heap.size + 1) 28 _ (0, 0) _ rfl (heap5 wf (w.heap.size + 1) _ _ _ _ _ trf) Tryz.underlying28 rfl (by kernel_rfl)) rfl ?_
                        refine ⟨E, hIs.out, ?_, hkf.out _ _ _ _ _⟩
                        rw [hM.out]
                        unfold nearV
                        rw [hT.out, hS.out, if_neg h9.out]
                        rfl
end Go.Proofs.YtpdjpjkieafnbaaGreatDoor.Li.Nw
set_option linter.unusedVariables false
set_option linter.unusedSimpArgs false
namespace Go.Proofs.YtpdjpjkieafnbaaGreatDoor.Li.Nw
open Go.RowKit Lb Nr
/-- The bits of a number of the reference, without its sign. -/
def nb (inf : Bool) (M : Nat) (E : Int) : Nat := if inf then 2139095040 else if 8388608 ≤ M then (E + 150).toNat * 8388608 + (M - 8388608) else M
theorem or_low (k m : Nat) (hk : k < 256) (hm : m < 8388608) : bits .or .u64 ((k : Int) * 8388608) (m : Int) = ((k * 8388608 + m : Nat) : Int) := by
  rw [show (k : Int) * 8388608 = ((k * 8388608 : Nat) : Int) by omega, u64_or_nat _ _ (by omega) (by omega)]
  have := Nat.two_pow_add_eq_or_of_lt (i := 23) (b := m) hm k
  rw [show (2 : Nat) ^ 23 = 8388608 from rfl, Nat.mul_comm] at this
  rw [← this]
theorem and_low (m : Nat) (h1 : 8388608 ≤ m) (h2 : m < 16777216) : bits .and .u64 (m : Int) 8388607 = ((m - 8388608 : Nat) : Int) := by
  rw [show (8388607 : Int) = ((8388607 : Nat) : Int) from rfl, u64_and_nat m _ (by omega) (by omega), show m &&& 8388607 = m % 8388608 from Nat.and_two_pow_sub_one_eq_mod m 23]
  omega
set_option maxRecDepth 100000 in
set_option maxHeartbeats 1000000 in
theorem Bits_any (ng inf : Bool) (M : Nat) (E : Int) (hM : M < 16777216) (hE : -149 ≤ E ∧ E ≤ 104) (w : World) :
    Calls Tryz.prog 55 #[numV ng inf M E, narrowV] w fun e w' => e = .returned (.int .u64 (nb inf M E + sg ng : Nat)) ∧ Keep w w' := by
  have HB : Hid (nb inf M E = if inf then 2139095040 else if 8388608 ≤ M then (E + 150).toNat * 8388608 + (M - 8388608) else M) := rfl
  have hlt : nb inf M E < 2147483648 := by
    unfold nb
    split
    · omega
    · split <;> omega
  have hor := or_sign (nb inf M E) hlt
  unfold numV narrowV
  generalize nb inf M E = X at *
  cases inf
  · by_cases h : 8388608 ≤ M
    · have v := HB.out
      simp only [Bool.false_eq_true, if_false, if_pos h] at v
      obtain ⟨k, hk⟩ : ∃ k : Nat, E + 150 = k := ⟨(E + 150).toNat, by omega⟩
      have d1 : decide ((8388608 : Int) ≤ (M : Int)) = true := decide_eq_true (by omega)
      have x1 : wrap64 (E + 149) = E + 149 := IntWalk.wrap64_in _ (by omega)
      have x2 : wrap64 (E + 149 + 1) = (k : Int) := by rw [show E + 149 + 1 = (k : Int) by omega]; exact IntWalk.wrap64_in _ (by omega)
      have x3 : IntKind.u64.wrap (k : Int) = (k : Int) := by rw [IntKind.wrap_u64]; omega
      have x4 : IntKind.u64.wrap ((k : Int) * 8388608) = (k : Int) * 8388608 := by rw [IntKind.wrap_u64]; omega
      have hk2 : E + 149 + 1 = (k : Int) := by omega
      have x5 := and_low M h hM
      have x6 := or_low k (M - 8388608) (by omega) (by omega)
      rw [show k * 8388608 + (M - 8388608) = X by rw [v, show (E + 150).toNat = k by omega]] at x6
      obtain ⟨m, hm⟩ : ∃ m, M - 8388608 = m := ⟨_, rfl⟩
      rw [hm] at x5 x6
      clear HB v hm h hM hlt hk
      cases ng
      all_goals
        unfold sg
        go_enter Tryz.func55, Tryz.ntmps55
        go_wp2_with fail
        go_ret
        exact ⟨ret_int (by first | rfl | omega | simp), ((Keep.refl w).alloc _).alloc _⟩
    · have v := HB.out
      simp only [Bool.false_eq_true, if_false, if_neg h] at v
      have d1 : decide ((8388608 : Int) ≤ (M : Int)) = false := decide_eq_false (by omega)
      subst v
      clear HB h hM hlt
      cases ng
      all_goals
        unfold sg
        go_enter Tryz.func55, Tryz.ntmps55
        go_wp2_with fail
        go_ret
        exact ⟨ret_int (by first | rfl | omega | simp), ((Keep.refl w).alloc _).alloc _⟩
  · have v := HB.out
    simp only [if_true] at v
    subst v
    clear HB hlt
    cases ng
    all_goals
      unfold sg
      go_enter Tryz.func55, Tryz.ntmps55
      go_wp2_with fail
      go_ret
      exact ⟨ret_int (by first | rfl | omega | simp), ((Keep.refl w).alloc _).alloc _⟩
end Go.Proofs.YtpdjpjkieafnbaaGreatDoor.Li.Nw
set_option linter.unusedVariables false
set_option linter.unusedSimpArgs false
namespace Go.Proofs.YtpdjpjkieafnbaaGreatDoor.Li
open Go.RowKit Lb Nr
set_option maxRecDepth 100000 in
theorem Wide_any (w : World) : Calls Tryz.prog 14 #[] w fun e w' => e = .returned wideV ∧ Keep w w' := by
  unfold wideV
  go_enter Tryz.func14, Tryz.ntmps14
  go_wp2_with fail
  refine bodyPost_ret (results_cell_row rfl _ _ w.heap.size 32 _ (0, 0) _ rfl (heap_alloc_new w _) Tryz.underlying32 rfl (by kernel_rfl)) rfl ?_
  exact ⟨rfl, (Keep.refl w).alloc _⟩
end Go.Proofs.YtpdjpjkieafnbaaGreatDoor.Li
namespace Go.Proofs.YtpdjpjkieafnbaaGreatDoor.Li.Nw
open Go.RowKit Lb Nr
set_option maxRecDepth 100000 in
theorem Narrow_any (w : World) : Calls Tryz.prog 17 #[] w fun e w' => e = .returned narrowV ∧ Keep w w' := by
  unfold narrowV
  go_enter Tryz.func17, Tryz.ntmps17
  go_wp2_with fail
  refine bodyPost_ret (results_cell_row rfl _ _ w.heap.size 32 _ (0, 0) _ rfl (heap_alloc_new w _) Tryz.underlying32 rfl (by kernel_rfl)) rfl ?_
  exact ⟨rfl, (Keep.refl w).alloc _⟩
end Go.Proofs.YtpdjpjkieafnbaaGreatDoor.Li.Nw
