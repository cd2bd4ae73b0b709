import Derived.Test.YtgjhbolnnnibkaaGreatDoorE24
import Derived.Deep.CutRange
import Derived.Deep.Quiet
import Derived.Test.YtgjhbolnnnibkaaGreatDoorOG
set_option linter.unusedVariables false
set_option linter.unusedSimpArgs false
namespace Go.Proofs.YtgjhbolnnnibkaaGreatDoor.Li
open Go.RowKit Lb Nr
set_option maxRecDepth 100000 in
set_option maxHeartbeats 2000000 in
/-- Where the number is told: turned, and half a millionth away at most, or beyond. -/
theorem near_good (b c : Nat) (V : Int) (E2 V2 : Int) (p q r : Nat) (B1 B2 C1 C2 : Bool) (o1 o2 : Ordering) (w : World)
    (hc : b ^^^ 9223372036854775808 = c)
    (hB : Calls Tryz.prog 16 #[] w fun e w' => e = .returned (.bool true) ∧ Keep w w')
    (hN : ∀ wx, Keep w wx → Calls Tryz.prog 6 #[.float .f64 b] wx fun e w' => e = .returned (.tuple #[.int .i64 V, .int .i64 0]) ∧ Keep wx w')
    (hN2 : ∀ wx, Keep w wx → Calls Tryz.prog 6 #[.float .f64 c] wx fun e w' => e = .returned (.tuple #[.int .i64 V2, .int .i64 E2]) ∧ Keep wx w')
    (hE2 : E2 = 41 ∨ (E2 = 0 ∧ V2 = -V ∧ wrap64 (-V) = -V))
    (hne : (FloatKind.f64.format.order b b != some .eq) = false)
    (hA1 : (FloatKind.f64.format.order b 14024467240004354048 == some .lt) = false)
    (hA2 : (FloatKind.f64.format.order b 4801095203149578240 == some .gt) = false)
    (hB1 : (FloatKind.f64.format.order b 14024416040004354048 == some .gt) = B1)
    (hB2 : (FloatKind.f64.format.order b 4801044003149578240 == some .lt) = B2)
    (hC1 : (FloatKind.f64.format.order b 13965043853221167104 == some .lt) = C1)
    (hC2 : (FloatKind.f64.format.order b 4741671816366391296 == some .gt) = C2)
    (hp : floatBits .mul .f64 b 4696837146684686336 = some p)
    (hq : floatBits .add .f64 p 4607182418800017408 = some q)
    (hr : floatBits .sub .f64 p 4607182418800017408 = some r)
    (hd1 : FloatKind.f64.format.order (floatOfInt FloatKind.f64 V) q = some o1)
    (hd2 : FloatKind.f64.format.order (floatOfInt FloatKind.f64 V) r = some o2)
    (hall : (o1 = .gt ∨ o2 = .lt) → C2 = true ∨ C1 = true) :
    Calls Tryz.prog 5 #[.int .u64 (b : Nat)] w fun e w' => e = .returned (.bool true) ∧ Keep w w' := by
  have h7 := fun wx => f64from b wx
  have hneg : ∀ wx, Sem.run Tryz.prog (Op.unary UnOp.neg (Value.float FloatKind.f64 b)) wx = .ok (Value.float FloatKind.f64 c) wx := by
    intro wx
    rw [← hc]
    rfl
  have hm := fun wx t => run_float_arith (P := Tryz.prog) wx .mul t .f64 b 4696837146684686336 p hp
  have ha := fun wx t => run_float_arith (P := Tryz.prog) wx .add t .f64 p 4607182418800017408 q hq
  have hs := fun wx t => run_float_arith (P := Tryz.prog) wx .sub t .f64 p 4607182418800017408 r hr
  clear hp hq hr hc
  go_enter Tryz.func5, Tryz.ntmps5
  go_wp2_with fail
  refine hB.mono ?_
  rintro e w1 ⟨rfl, k1⟩
  go_wp2_with fail
  refine (hN _ k1).mono ?_
  rintro e w2 ⟨rfl, k2⟩
  go_upto_region 9 with fail
  go_cut [47] from 38 to 46 (fun s47 wx => s47 = .bool false ∧ wx = w2)
  case first =>
    cases B1
    · go_wp2_with fail
      go_meet
      case rel => exact ⟨rfl, rfl⟩
    · cases B2
      · go_wp2_with fail
        go_meet
        case rel => exact ⟨rfl, rfl⟩
      · go_wp2_with fail
        go_meet
        case rel => exact ⟨rfl, rfl⟩
  case rest =>
    obtain ⟨rfl, rfl⟩ := hcut
    go_wp2_with fail
    refine (hN2 _ (k1.trans k2)).mono ?_
    rintro e w3 ⟨rfl, k3⟩
    clear hA1 hA2 hB1 hB2 hne hneg hN hN2 hB h7
    have hfar : ∀ _ : (o1 = .gt ∨ o2 = .lt), C2 = true ∨ (C2 = false ∧ C1 = true) := by
      intro h
      rcases hall h with k | k
      · exact .inl k
      · cases C2
        · exact .inr ⟨rfl, k⟩
        · exact .inl rfl
    clear hall
    rcases hE2 with hE2 | ⟨hE2, hV2, hw⟩
    · subst hE2
      cases o1
      · skip
        cases o2
        · skip
          rcases hfar (.inr rfl) with h | ⟨h, g⟩
          · subst h
            clear hfar hC1
            go_wp2_with fail
            go_ret
            exact ⟨rfl, (k1.trans k2).trans k3⟩
          · subst h
            subst g
            clear hfar
            go_wp2_with fail
            go_ret
            exact ⟨rfl, (k1.trans k2).trans k3⟩
        · clear hfar hC1 hC2
          go_wp2_with fail
          go_ret
          exact ⟨rfl, (k1.trans k2).trans k3⟩
        · clear hfar hC1 hC2
          go_wp2_with fail
          go_ret
          exact ⟨rfl, (k1.trans k2).trans k3⟩
      · skip
        cases o2
        · skip
          rcases hfar (.inr rfl) with h | ⟨h, g⟩
          · subst h
            clear hfar hC1
            go_wp2_with fail
            go_ret
            exact ⟨rfl, (k1.trans k2).trans k3⟩
          · subst h
            subst g
            clear hfar
            go_wp2_with fail
            go_ret
            exact ⟨rfl, (k1.trans k2).trans k3⟩
        · clear hfar hC1 hC2
          go_wp2_with fail
          go_ret
          exact ⟨rfl, (k1.trans k2).trans k3⟩
        · clear hfar hC1 hC2
          go_wp2_with fail
          go_ret
          exact ⟨rfl, (k1.trans k2).trans k3⟩
      · skip
        rcases hfar (.inl rfl) with h | ⟨h, g⟩
        · subst h
          clear hfar hC1
          go_wp2_with fail
          go_ret
          exact ⟨rfl, (k1.trans k2).trans k3⟩
        · subst h
          subst g
          clear hfar
          go_wp2_with fail
          go_ret
          exact ⟨rfl, (k1.trans k2).trans k3⟩
    · subst hE2
      subst hV2
      cases o1
      · skip
        cases o2
        · skip
          rcases hfar (.inr rfl) with h | ⟨h, g⟩
          · subst h
            clear hfar hC1
            go_wp2_with fail
            go_ret
            exact ⟨rfl, (k1.trans k2).trans k3⟩
          · subst h
            subst g
            clear hfar
            go_wp2_with fail
            go_ret
            exact ⟨rfl, (k1.trans k2).trans k3⟩
        · clear hfar hC1 hC2
          go_wp2_with fail
          go_ret
          exact ⟨rfl, (k1.trans k2).trans k3⟩
        · clear hfar hC1 hC2
          go_wp2_with fail
          go_ret
          exact ⟨rfl, (k1.trans k2).trans k3⟩
      · skip
        cases o2
        · skip
          rcases hfar (.inr rfl) with h | ⟨h, g⟩
          · subst h
            clear hfar hC1
            go_wp2_with fail
            go_ret
            exact ⟨rfl, (k1.trans k2).trans k3⟩
          · subst h
            subst g
            clear hfar
            go_wp2_with fail
            go_ret
            exact ⟨rfl, (k1.trans k2).trans k3⟩
        · clear hfar hC1 hC2
          go_wp2_with fail
          go_ret
          exact ⟨rfl, (k1.trans k2).trans k3⟩
        · clear hfar hC1 hC2
          go_wp2_with fail
          go_ret
          exact ⟨rfl, (k1.trans k2).trans k3⟩
      · skip
        rcases hfar (.inl rfl) with h | ⟨h, g⟩
        · subst h
          clear hfar hC1
          go_wp2_with fail
          go_ret
          exact ⟨rfl, (k1.trans k2).trans k3⟩
        · subst h
          subst g
          clear hfar
          go_wp2_with fail
          go_ret
          exact ⟨rfl, (k1.trans k2).trans k3⟩
end Go.Proofs.YtgjhbolnnnibkaaGreatDoor.Li
set_option linter.unusedVariables false
set_option linter.unusedSimpArgs false
namespace Go.Proofs.YtgjhbolnnnibkaaGreatDoor.Li
open Go.RowKit Lb Nr
set_option maxRecDepth 100000 in
set_option maxHeartbeats 1000000 in
theorem near_bad (b : Nat) (V E : Int) (w : World) (A1 A2 B1 B2 : Bool)
    (hB : Calls Tryz.prog 16 #[] w fun e w' => e = .returned (.bool true) ∧ Keep w w')
    (hN : ∀ wx, Keep w wx → Calls Tryz.prog 6 #[.float .f64 b] wx fun e w' => e = .returned (.tuple #[.int .i64 V, .int .i64 E]) ∧ Keep wx w')
    (hne : (FloatKind.f64.format.order b b != some .eq) = false) (hE : E = 41) (hV : V = 0)
    (hA1 : (FloatKind.f64.format.order b 14024467240004354048 == some .lt) = A1)
    (hA2 : (FloatKind.f64.format.order b 4801095203149578240 == some .gt) = A2)
    (hB1 : (FloatKind.f64.format.order b 14024416040004354048 == some .gt) = B1)
    (hB2 : (FloatKind.f64.format.order b 4801044003149578240 == some .lt) = B2)
    (hall : A1 = false → A2 = false → (B1 = false ∨ (B1 = true ∧ B2 = false))) :
    Calls Tryz.prog 5 #[.int .u64 (b : Nat)] w fun e w' => e = .returned (.bool true) ∧ Keep w w' := by
  have h7 := fun wx => f64from b wx
  subst hE
  subst hV
  cases A1
  · cases A2
    · rcases hall rfl rfl with h | ⟨h, g⟩
      · subst h
        clear hall
        go_enter Tryz.func5, Tryz.ntmps5
        go_wp2_with fail
        refine hB.mono ?_
        rintro e w1 ⟨rfl, k1⟩
        go_wp2_with fail
        refine (hN _ k1).mono ?_
        rintro e w2 ⟨rfl, k2⟩
        go_wp2_with fail
        go_ret
        exact ⟨rfl, k1.trans k2⟩
      · subst h
        subst g
        clear hall
        go_enter Tryz.func5, Tryz.ntmps5
        go_wp2_with fail
        refine hB.mono ?_
        rintro e w1 ⟨rfl, k1⟩
        go_wp2_with fail
        refine (hN _ k1).mono ?_
        rintro e w2 ⟨rfl, k2⟩
        go_wp2_with fail
        go_ret
        exact ⟨rfl, k1.trans k2⟩
    · clear hall
      go_enter Tryz.func5, Tryz.ntmps5
      go_wp2_with fail
      refine hB.mono ?_
      rintro e w1 ⟨rfl, k1⟩
      go_wp2_with fail
      refine (hN _ k1).mono ?_
      rintro e w2 ⟨rfl, k2⟩
      go_wp2_with fail
      go_ret
      exact ⟨rfl, k1.trans k2⟩
  · clear hall
    go_enter Tryz.func5, Tryz.ntmps5
    go_wp2_with fail
    refine hB.mono ?_
    rintro e w1 ⟨rfl, k1⟩
    go_wp2_with fail
    refine (hN _ k1).mono ?_
    rintro e w2 ⟨rfl, k2⟩
    go_wp2_with fail
    go_ret
    exact ⟨rfl, k1.trans k2⟩
set_option maxRecDepth 100000 in
set_option maxHeartbeats 1000000 in
theorem near_none (b : Nat) (w : World)
    (hB : Calls Tryz.prog 16 #[] w fun e w' => e = .returned (.bool true) ∧ Keep w w')
    (hN : ∀ wx, Keep w wx → Calls Tryz.prog 6 #[.float .f64 b] wx fun e w' => e = .returned (.tuple #[.int .i64 0, .int .i64 60]) ∧ Keep wx w')
    (hne : (FloatKind.f64.format.order b b != some .eq) = true) :
    Calls Tryz.prog 5 #[.int .u64 (b : Nat)] w fun e w' => e = .returned (.bool true) ∧ Keep w w' := by
  have h7 := fun wx => f64from b wx
  go_enter Tryz.func5, Tryz.ntmps5
  go_wp2_with fail
  refine hB.mono ?_
  rintro e w1 ⟨rfl, k1⟩
  go_wp2_with fail
  refine (hN _ k1).mono ?_
  rintro e w2 ⟨rfl, k2⟩
  go_wp2_with fail
  go_ret
  exact ⟨rfl, k1.trans k2⟩
/-- Every number. -/
theorem law_near (b : Nat) (w : World) (hb : b < 18446744073709551616) (hT : Bi.Tab w) (hB : Calls Tryz.prog 16 #[] w fun e w' => e = .returned (.bool true) ∧ Keep w w') :
    Calls Tryz.prog 5 #[.int .u64 (b : Nat)] w fun e w' => e = .returned (.bool true) ∧ Keep w w' := by
  have hN := fun wx (k : Keep w wx) => Nearest_any b hb wx (hT.keep k)
  by_cases hn : Fo.isNaN b
  · obtain ⟨e1, e2⟩ := near_nan b hn
    rw [e1, e2] at hN
    refine near_none b w hB hN ?_
    show (Ieee.double.order b b != some .eq) = true
    rw [Fo.order_nan b b (.inl hn)]
    rfl
  · have hne : (FloatKind.f64.format.order b b != some .eq) = false := by
      rw [ord_of b b hn hn .eq (Int.compare_eq_eq.2 rfl)]
      rfl
    obtain ⟨a1, a2, a3⟩ := stand_of b 4801095203149578240 hb hn (by omega) (by omega)
    obtain ⟨b1, b2, b3⟩ := stand_of b 4801044003149578240 hb hn (by omega) (by omega)
    obtain ⟨c1, c2, c3⟩ := stand_of b 4741671816366391296 hb hn (by omega) (by omega)
    rw [show 4801095203149578240 + 9223372036854775808 = 14024467240004354048 from rfl] at a1 a2 a3
    rw [show 4801044003149578240 + 9223372036854775808 = 14024416040004354048 from rfl] at b1 b2 b3
    rw [show 4741671816366391296 + 9223372036854775808 = 13965043853221167104 from rfl] at c1 c2 c3
    have hBB : ¬ b % 9223372036854775808 < 4801044003149578240 → (FloatKind.f64.format.order b 14024416040004354048 == some .gt) = false ∨ ((FloatKind.f64.format.order b 14024416040004354048 == some .gt) = true ∧ (FloatKind.f64.format.order b 4801044003149578240 == some .lt) = false) := by
      intro h
      rcases Nat.lt_or_eq_of_le (Nat.not_lt.1 h) with k | k
      · rcases b1 k with ⟨x, y⟩ | ⟨x, y⟩
        · left; rw [x]; rfl
        · right; rw [x, y]; exact ⟨rfl, rfl⟩
      · rcases b3 k.symm with ⟨x, y⟩ | ⟨x, y⟩
        · left; rw [x]; rfl
        · right; rw [x, y]; exact ⟨rfl, rfl⟩
    have hAA : ¬ 4801095203149578240 < b % 9223372036854775808 → (FloatKind.f64.format.order b 14024467240004354048 == some .lt) = false ∧ (FloatKind.f64.format.order b 4801095203149578240 == some .gt) = false := by
      intro h
      rcases Nat.lt_or_eq_of_le (Nat.not_lt.1 h) with k | k
      · obtain ⟨x, y⟩ := a2 k
        rw [x, y]; exact ⟨rfl, rfl⟩
      · rcases a3 k with ⟨x, y⟩ | ⟨x, y⟩
        · rw [x, y]; exact ⟨rfl, rfl⟩
        · rw [x, y]; exact ⟨rfl, rfl⟩
    have hbad : nE b = 41 → nV b = 0 → Calls Tryz.prog 5 #[.int .u64 (b : Nat)] w fun e w' => e = .returned (.bool true) ∧ Keep w w' := by
      intro e1 e2
      refine near_bad b _ _ w _ _ _ _ hB hN hne e1 e2 rfl rfl rfl rfl ?_
      intro _ _
      apply hBB
      intro k
      have := near_ok b k
      omega
    rcases near_err b hn with he | ⟨he, hv⟩
    · have hbig : ¬ 4801095203149578240 < b % 9223372036854775808 := by
        intro k
        have := (near_big b hn k).1
        omega
      obtain ⟨x1, x2⟩ := hAA hbig
      have hf := (flip_parts b hb).1
      have hN2 := fun wx (k : Keep w wx) => Nearest_any (b ^^^ 9223372036854775808) hf wx (hT.keep k)
      rw [he] at hN
      have hfw : ¬ Fo.isNaN (floatOfInt FloatKind.f64 (nV b)) := (kyN_eq (nV b) 0).2
      by_cases hc : b % 9223372036854775808 ≤ 4741671816366391296
      · obtain ⟨p, q, r, m1, m2, m3, n1, n2, g1, g2⟩ := near_mid b hb hc
        have t1 := cmp_le (floatOfInt FloatKind.f64 (nV b)) q hfw n1 g1
        have t2 := cmp_ge (floatOfInt FloatKind.f64 (nV b)) r hfw n2 g2
        obtain ⟨o1, u1⟩ := cmp_one (floatOfInt FloatKind.f64 (nV b)) q hfw n1
        obtain ⟨o2, u2⟩ := cmp_one (floatOfInt FloatKind.f64 (nV b)) r hfw n2
        refine near_good b _ (nV b) _ _ p q r _ _ _ _ o1 o2 w rfl hB hN hN2 (near_neg b hb hn he) hne x1 x2 rfl rfl rfl rfl m1 m2 m3 u1 u2 ?_
        rw [u1] at t1
        rw [u2] at t2
        rintro (k | k)
        · subst k
          rcases t1 with t | t <;> exact absurd t (by decide)
        · subst k
          rcases t2 with t | t <;> exact absurd t (by decide)
      · obtain ⟨p, q, r, m1, m2, m3, n1, n2⟩ := near_far b (by omega)
        obtain ⟨o1, u1⟩ := cmp_one (floatOfInt FloatKind.f64 (nV b)) q hfw n1
        obtain ⟨o2, u2⟩ := cmp_one (floatOfInt FloatKind.f64 (nV b)) r hfw n2
        refine near_good b _ (nV b) _ _ p q r _ _ _ _ o1 o2 w rfl hB hN hN2 (near_neg b hb hn he) hne x1 x2 rfl rfl rfl rfl m1 m2 m3 u1 u2 ?_
        intro _
        rcases c1 (by omega) with ⟨x, y⟩ | ⟨x, y⟩
        · right; rw [x]; rfl
        · left; rw [y]; rfl
    · exact hbad he hv
end Go.Proofs.YtgjhbolnnnibkaaGreatDoor.Li
set_option linter.unusedVariables false
set_option linter.unusedSimpArgs false
namespace Go.Proofs.YtgjhbolnnnibkaaGreatDoor.fixedNear
open Go.ChangeShapes Go.WideShapes Go.ChangeAt Go.RowKit

set_option maxRecDepth 100000 in
theorem contract (H : Type) (enc : TypeId × Value → H) (W : World) (base : Nat) (args : Array Value) (ds gs : List (DataW H)) (before : List MemPlace)
    (hval : ∀ (j : Nat) t v, Tryz.f5.params[j]? = some t → args[j]? = some v → Value.okWide Tryz.prog W .any base t v)
    (hW : DataW.Whole enc Tryz.prog Tryz.f5.params.toList Rows.fixedNearSpec.vars false W args.toList ds gs before)
    (hsz : (DataW.weightsEach Tryz.prog (Tryz.f5.params.toList ++ (OpenSpec.ofChange Rows.fixedNearSpec).bare.plain.varTypes Tryz.prog) (ds ++ gs)).all (· ≤ reachBytes) = true)  (hlaid : laidMet Tryz.prog [("math/bits.deBruijn32tab", Rows.laid_math_bits_deBruijn32tab), ("math/bits.deBruijn64tab", Rows.laid_math_bits_deBruijn64tab), ("internal/strconv.uint64pow10", Rows.laid_internal_strconv_uint64pow10), ("unicode/utf8.acceptRanges", Rows.laid_unicode_utf8_acceptRanges), ("unicode/utf8.first", Rows.laid_unicode_utf8_first)] W) :
    Calls Tryz.prog 5 args W fun e W' => ∃ v, e = .returned v ∧ Rows.fixedNearSpec.post enc Tryz.prog Tryz.f5 false true false false W args v W' := by
  have hW' := hW
  obtain ⟨p, q, hA0, hV, rfl, hfz, hnd⟩ := hW
  have hA : DataW.TrodAll enc Tryz.prog W 0 (fun _ => true) true Tryz.f5.params.toList args.toList ds p := hA0
  rw [Tryz.params5] at hA hval hsz
  obtain ⟨v0, vs0, d0, ds0, p0, q0, hargs, rfl, rfl, h0, r0⟩ := trodAll_cons hA
  obtain ⟨rfl, rfl, rfl⟩ := trodAll_nil r0
  obtain rfl : args = #[v0] := by cases args; simp_all
  obtain ⟨rfl, rfl⟩ := trodVars_none hV
  obtain ⟨a0, rfl, rfl, rfl, w0⟩ := open_int Tryz.underlying22 (hval 0 22 v0 rfl rfl) h0
  clear hA0
  have hT := tab_of hlaid
  have hT64 := tab64_of5 hlaid
  obtain ⟨b, rfl, hb⟩ := u64_of w0
  have hwalk := Li.law_near b W hb hT64 (begins_any W hT)
  refine hwalk.mono fun e W' ⟨he, bel⟩ => ?_
  subst he
  have bel' : Below W.heap.size W W' := bel
  exact ⟨_, rfl, _, _, _, [], _, [], hW', trodAll_mk1 (shut_bool Tryz.underlying4 _), (trodAll_cons_mk (shut_int Tryz.underlying22 w0) trodAll_mk0), rfl, bel'.frame _, fun h => by cases h⟩

/-- A WORLD FOR THE WITNESS: the settled one, the two tables holding what the program's text and the library's lay. -/
theorem start (os : Os) : ∃ w0 : World, w0.os = os ∧ (w0.forCall (fun _ _ => 0) ⟨#[], #[.int .u64 0], []⟩).variablesB Tryz.checked.prog = true ∧
    ((w0.forCall (fun _ _ => 0) ⟨#[], #[.int .u64 0], []⟩).heap.toList.drop Tryz.checked.prog.globals.size).take ((begin Tryz.checked.prog (fun _ _ => 0) default).world.heap.size - Tryz.checked.prog.globals.size) = (begin Tryz.checked.prog (fun _ _ => 0) default).world.heap.toList.drop Tryz.checked.prog.globals.size ∧
    Input.okWideB Tryz.checked.prog (w0.forCall (fun _ _ => 0) ⟨#[], #[.int .u64 0], []⟩) 5 ⟨#[], #[.int .u64 0], []⟩ = true ∧
    laidMet Tryz.prog Rows.fixedNearRow.laid (w0.forCall (fun _ _ => 0) ⟨#[], #[.int .u64 0], []⟩).memory ∧
    ∀ (H : Type) (enc : TypeId × Value → H), DataW.whole enc Tryz.prog (w0.forCall (fun _ _ => 0) ⟨#[], #[.int .u64 0], []⟩).memory Tryz.f5.params.toList Rows.fixedNearSpec.vars false (#[.int .u64 0] : Array Value).toList 8 = some ([.lit (.int .u64 0)], [], []) :=
  ⟨lay5 (World.holding Tryz.prog os ⟨#[], #[], []⟩), rfl, by kernel_rfl, by kernel_rfl, by kernel_rfl, laidMet_of_run' 8 (by kernel_rfl) (by kernel_rfl), fun _ _ => by kernel_rfl⟩

set_option maxRecDepth 100000 in
theorem lifted (os : Os) (started : os.Started) (H : Type) (enc : TypeId × Value → H) (F : Stop.Interp) :
    ReturnsInHanded {} Tryz.checked os 5 .any ((OpenSpec.ofChange Rows.fixedNearSpec).preRow enc Tryz.prog Tryz.f5 Rows.fixedNearRow.domain false Rows.fixedNearRow.laid) (((OpenSpec.ofChange Rows.fixedNearSpec).at F).post enc Tryz.prog Tryz.f5 false true false false) := by
  obtain ⟨w0, h1, h2, h3, h4, h5, h6⟩ := start os
  refine returnsInHanded_of_row (C := Tryz.checked) (s := (OpenSpec.ofChange Rows.fixedNearSpec)) own started (by kernel_rfl) Tryz.func5
    (witness_row_at (enc := enc) (C := Tryz.checked) false w0 #[.int .u64 0] h1 h2 h3 h4
      (OpenSpec.preRow_of_cond 8 (h6 H enc) (by kernel_rfl) (fun k hk => by cases hk) (by kernel_rfl) h5)) ?_
  intro W base args ds gs before hval hW _ _ hsz hlaid _ _
  exact contract H enc W base args ds gs before hval hW hsz hlaid

theorem said : Rows.FixedNearSaid :=
  OpenClaim.holds_of_cond 5 Tryz.f5 rfl rfl rfl rfl rfl rfl rfl ⟨rfl, rfl, rfl, rfl, rfl⟩ rfl rfl rfl rfl rfl (by kernel_rfl) Tryz.func5 (by kernel_rfl)
    (of_decide_eq_true (by kernel_rfl)) (by unfold Func.isWrapper; first | (rw [if_pos (by decide +kernel)]; kernel_rfl) | (rw [if_neg (by decide +kernel)]; exact ⟨rfl, rfl⟩))
    (fun os started H enc _ F => by rw [OpenClaim.pre_eq_preRow]; exact lifted os started H enc F)

/-- No parameter wants a stand-in; the program's own looks are off: what the card asks. -/
theorem plain (f : FuncId) (fn : Func) (hf : Tryz.pinned.checked.prog.funcNamed "thicket/thicketlaw04.FixedNear" = some f) (hfn : Tryz.pinned.checked.prog.funcs[f]? = some fn) :
    false = Tryz.pinned.checked.prog.looks [] ∧ ∀ (j : Nat) t, fn.params[j]? = some t → Tryz.pinned.checked.prog.wantsStandIn t = false := by
  obtain rfl : f = 5 := Option.some.inj ((show Tryz.prog.funcNamed "thicket/thicketlaw04.FixedNear" = some 5 by kernel_rfl).symm.trans hf) |>.symm
  obtain rfl : fn = Tryz.f5 := (Option.some.inj (Tryz.func5.symm.trans hfn)).symm
  refine ⟨by kernel_rfl, fun j t ht => ?_⟩
  rw [Tryz.params5] at ht
  have hm : t ∈ [22] := by
    have := Array.mem_of_getElem? ht
    simp at this ⊢
    grind
  have hall : ([22].all fun u => !Tryz.prog.wantsStandIn u) = true := by kernel_rfl
  exact (show Tryz.prog.wantsStandIn t = false by simpa using List.all_eq_true.1 hall t hm)

/-- THE CARD. -/
theorem card : Rows.FixedNearCardSaid :=
  Claim7.holds_tied_plain_at .later [] _ _ _ _ said (fun _ h => by cases h) (by kernel_rfl) (fun _ h => by cases h) fixedNear_row_tie rfl ⟨rfl, rfl⟩ (by kernel_rfl) rfl plain (by kernel_rfl)
end Go.Proofs.YtgjhbolnnnibkaaGreatDoor.fixedNear
namespace Go.Proofs.YtgjhbolnnnibkaaGreatDoor
theorem fixedNear_card : Rows.FixedNearCardSaid := fixedNear.card
#print axioms fixedNear_card
end Go.Proofs.YtgjhbolnnnibkaaGreatDoor
