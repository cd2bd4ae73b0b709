import Derived.Test.YtbchinfmdioijaaBase
set_option linter.unusedVariables false
set_option linter.unusedSimpArgs false
namespace Go.Proofs.Ytbchinfmdioijaa
open Go.RowKit
/-- No number: as the language compares. -/
def nanB (x : Nat) : Bool := !(FloatKind.f64.format.order x x == some .eq)
theorem IsNaN_any (x : Nat) (w : World) :
    Calls Try.prog 74 #[.float .f64 x] w fun e w' => e = .returned (.bool (nanB x)) ∧ w' = w := by
  go_enter Try.func74, Try.ntmps74
  go_wp2
  go_ret
  exact ⟨ret_bool rfl, rfl⟩
theorem rnan_any (x : Nat) (w : World) :
    Calls Try.prog 55 #[.float .f64 x] w fun e w' => e = .returned (.bool (nanB x)) ∧ w' = w := by
  go_enter Try.func55, Try.ntmps55
  go_wp2
  go_ret
  exact ⟨ret_bool rfl, rfl⟩
/-- Right categories. -/
@[reducible] def Cats (l : List Int) : Prop := 0 < l.length ∧ ∀ i, i < l.length → (0 ≤ l.getD i 0 ∧ l.getD i 0 < 1024 ∧ (0 < i → l.getD (i - 1) 0 < l.getD i 0))
def catsB (l : List Int) : Bool := decide (Cats l)
theorem catsB_iff (l : List Int) : catsB l = true ↔ Cats l := by unfold catsB; rw [decide_eq_true_eq]
theorem catsB_no {l : List Int} (h : ¬ Cats l) : catsB l = false := by unfold catsB; rw [decide_eq_false h]
set_option maxRecDepth 100000 in
theorem areCats_any (a : Option Addr) (c : Nat) (l : List Int) (w : World) (hl : l.length ≤ 17592186044416) (hr : RdI w a l) :
    Calls Try.prog 76 #[.slice a l.length c] w fun e w' => e = .returned (.bool (catsB l)) ∧ w' = w := by
  go_enter Try.func76, Try.ntmps76
  go_wp2
  go_loop [7] (fun i => ∃ k : Nat, k ≤ l.length ∧ i = .int .i64 k ∧ Hid (∀ i, i < k → (0 ≤ l.getD i 0 ∧ l.getD i 0 < 1024 ∧ (0 < i → l.getD (i - 1) 0 < l.getD i 0)))) (fun i => l.length - (intOf i).toNat)
  case atStart => exact ⟨0, by omega, rfl, by intro i hi; omega⟩
  case round =>
    obtain ⟨k, hk, rfl, hinv⟩ := hrel
    by_cases hkl : k < l.length
    · obtain ⟨b, o, rfl, hc⟩ := hr k hkl
      obtain ⟨x, hx⟩ : ∃ x, l.getD k 0 = x := ⟨_, rfl⟩
      rw [hx] at hc
      have Hx : Hid (l.getD k 0 = x) := hx
      clear hx
      by_cases hg : 0 ≤ x ∧ x < 1024 ∧ (0 < k → l.getD (k - 1) 0 < x)
      · obtain ⟨g1, g2, g3⟩ := hg
        have hn : Hid (∀ i, i < k + 1 → (0 ≤ l.getD i 0 ∧ l.getD i 0 < 1024 ∧ (0 < i → l.getD (i - 1) 0 < l.getD i 0))) := by
          intro i hi
          by_cases e : i = k
          · subst e; rw [Hx.out]; exact ⟨g1, g2, g3⟩
          · exact hinv.out i (by omega)
        by_cases hk0 : 0 < k
        · obtain ⟨b', o', e', hc'⟩ := hr (k - 1) (by omega)
          simp only [Option.some.injEq, Addr.mk.injEq, and_true] at e'
          obtain ⟨rfl, rfl⟩ := e'
          have g4 := g3 hk0
          obtain ⟨y, hy⟩ : ∃ y, l.getD (k - 1) 0 = y := ⟨_, rfl⟩
          rw [hy] at hc' g4
          clear hy g3
          go_wp2
          go_round
          case rel => exact ⟨k + 1, by omega, by go_num, hn⟩
          case measure => simp [intOf]; omega
        · have e0 : k = 0 := by omega
          subst e0
          clear g3
          rw [Nat.add_zero] at hc
          go_wp2
          go_round
          case rel => exact ⟨1, by omega, by go_num, hn⟩
          case measure => simp [intOf]; omega
      · have hf : Hid (¬ Cats l) := by
          intro h
          have := h.2 k hkl
          rw [Hx.out] at this
          exact hg this
        by_cases g1 : 0 ≤ x
        · by_cases g2 : x < 1024
          · have hk0 : 0 < k := by
              rcases Nat.eq_zero_or_pos k with e | e
              · exact absurd ⟨g1, g2, fun h => by omega⟩ hg
              · exact e
            have g4 : ¬ l.getD (k - 1) 0 < x := fun h => hg ⟨g1, g2, fun _ => h⟩
            obtain ⟨b', o', e', hc'⟩ := hr (k - 1) (by omega)
            simp only [Option.some.injEq, Addr.mk.injEq, and_true] at e'
            obtain ⟨rfl, rfl⟩ := e'
            obtain ⟨y, hy⟩ : ∃ y, l.getD (k - 1) 0 = y := ⟨_, rfl⟩
            rw [hy] at hc' g4
            clear hy hg
            go_wp2
            go_ret
            exact ⟨ret_bool (catsB_no hf.out).symm, rfl⟩
          · clear hg
            go_wp2
            go_ret
            exact ⟨ret_bool (catsB_no hf.out).symm, rfl⟩
        · clear hg
          go_wp2
          go_ret
          exact ⟨ret_bool (catsB_no hf.out).symm, rfl⟩
    · have hke : k = l.length := by omega
      have hR : Hid (catsB l = decide (0 < l.length)) := by
        show _ = _
        rw [Bool.eq_iff_iff, decide_eq_true_eq, catsB_iff]
        have := hinv.out
        rw [hke] at this
        exact ⟨fun h => by have := h.1; omega, fun h => ⟨by omega, this⟩⟩
      clear hke
      go_wp2
      go_ret
      exact ⟨ret_bool hR.out.symm, rfl⟩
end Go.Proofs.Ytbchinfmdioijaa
namespace Go.Proofs.Ytbchinfmdioijaa
open Go.RowKit
def bareB (n : Nd) : Bool := decide (n.th = 0) && decide (n.cs.length = 0)
theorem isBare_any (w : World) (n : Nd) (b o : Nat) (ca : Option Addr) (cap : Nat) (h : NdAt w b o n ca cap) :
    Calls Try.prog 72 #[.pointer (some ⟨b, o, none⟩)] w fun e w' => e = .returned (.bool (bareB n)) ∧ w' = w := by
  have h3 := h.c3
  have h4 := h.c4
  have hZ := fun w => isZero_any n.th w
  have HB : Hid (bareB n = (decide (n.th = 0) && decide (n.cs.length = 0))) := rfl
  generalize bareB n = B at HB ⊢
  go_enter Try.func72, Try.ntmps72
  go_wp2_with (go_at_call 75; refine (hZ _).mono ?_; rintro e w' ⟨rfl, rfl⟩)
  all_goals
    go_ret
    refine ⟨ret_bool ?_, rfl⟩
    rw [HB.out, Bool.eq_iff_iff]
    clear HB hZ
    simp_all
    try omega
def spl (n : Nd) (N : Nat) : Bool := decide (n.vl = 0 ∧ 0 ≤ n.ft ∧ n.ft < 65536 ∧ (n.ms = 1 ∨ n.ms = 2) ∧ (1 ≤ n.lf ∧ n.lf < (N : Int)) ∧ (1 ≤ n.rt ∧ n.rt < (N : Int)))
set_option maxRecDepth 100000 in
theorem isSplit_any (w : World) (n : Nd) (b o N : Nat) (ca : Option Addr) (cap : Nat) (h : NdAt w b o n ca cap) :
    Calls Try.prog 73 #[.pointer (some ⟨b, o, none⟩), .int .i64 (N : Nat)] w fun e w' => e = .returned (.bool (spl n N)) ∧ w' = w := by
  have h1 := h.c1
  have h2 := h.c2
  have h5 := h.c5
  have h6 := h.c6
  have h7 := h.c7
  have hS := fun w => isSide_any n.ms w
  have hL := fun w => isBelow_any n.lf N w
  have hR := fun w => isBelow_any n.rt N w
  have HB : Hid (spl n N = decide (n.vl = 0 ∧ 0 ≤ n.ft ∧ n.ft < 65536 ∧ (n.ms = 1 ∨ n.ms = 2) ∧ (1 ≤ n.lf ∧ n.lf < (N : Int)) ∧ (1 ≤ n.rt ∧ n.rt < (N : Int)))) := rfl
  generalize spl n N = B at HB ⊢
  obtain ⟨s, hs⟩ : ∃ s, decide (n.ms = 1 ∨ n.ms = 2) = s := ⟨_, rfl⟩
  obtain ⟨l, hl⟩ : ∃ s, decide (1 ≤ n.lf ∧ n.lf < (N : Int)) = s := ⟨_, rfl⟩
  obtain ⟨r, hr⟩ : ∃ s, decide (1 ≤ n.rt ∧ n.rt < (N : Int)) = s := ⟨_, rfl⟩
  rw [hs] at hS
  rw [hl] at hL
  rw [hr] at hR
  have H1 : Hid (decide (n.ms = 1 ∨ n.ms = 2) = s ∧ decide (1 ≤ n.lf ∧ n.lf < (N : Int)) = l ∧ decide (1 ≤ n.rt ∧ n.rt < (N : Int)) = r) := ⟨hs, hl, hr⟩
  clear hs hl hr
  obtain ⟨c, hc⟩ : ∃ c, n.lf = c := ⟨_, rfl⟩
  have HC : Hid (n.lf = c) := hc
  rw [hc] at hL h6
  clear hc
  go_enter Try.func73, Try.ntmps73
  go_wp2_with first
    | (go_at_call 85; refine (hS _).mono ?_; rintro e w' ⟨rfl, rfl⟩)
    | (go_at_call_of 86 (Value.int .i64 c); refine (hL _).mono ?_; rintro e w' ⟨rfl, rfl⟩)
    | (go_at_call 86; refine (hR _).mono ?_; rintro e w' ⟨rfl, rfl⟩)
  all_goals
    go_ret
    refine ⟨ret_bool ?_, rfl⟩
    have H2 := H1.out
    rw [HB.out]
    clear HB H1 hL hR hS
    grind
/-- A right node of so many. -/
def rightB (n : Nd) (N : Nat) : Bool :=
  if n.kd = 1 then decide (n.ft = 0) && bareB n && decide (n.ms = 0) && decide (n.lf = 0) && decide (n.rt = 0)
  else if n.kd = 2 then spl n N && !nanB n.th && decide (n.cs.length = 0)
  else if n.kd = 3 then spl n N && decide (n.th = 0) && catsB n.cs
  else false
set_option maxRecDepth 100000 in
set_option maxHeartbeats 1000000 in
theorem isRight_any (w : World) (n : Nd) (b o N : Nat) (ca : Option Addr) (cap : Nat) (h : NdAt w b o n ca cap) :
    Calls Try.prog 43 #[.pointer (some ⟨b, o, none⟩), .int .i64 (N : Nat)] w fun e w' => e = .returned (.bool (rightB n N)) ∧ w' = w := by
  have h0 := h.c0
  have h2 := h.c2
  have h3 := h.c3
  have h4 := h.c4
  have h5 := h.c5
  have h6 := h.c6
  have h7 := h.c7
  have hB := fun (wx : World) (e : wx = w) => isBare_any wx n b o ca cap (e ▸ h)
  have hS := fun (wx : World) (e : wx = w) => isSplit_any wx n b o N ca cap (e ▸ h)
  have hN := fun wx => IsNaN_any n.th wx
  have hZ := fun wx => isZero_any n.th wx
  have hC := fun (wx : World) (e : wx = w) => areCats_any ca cap n.cs wx h.sz (e ▸ h.rd)
  have HR : Hid (rightB n N = (if n.kd = 1 then decide (n.ft = 0) && bareB n && decide (n.ms = 0) && decide (n.lf = 0) && decide (n.rt = 0)
    else if n.kd = 2 then spl n N && !nanB n.th && decide (n.cs.length = 0)
    else if n.kd = 3 then spl n N && decide (n.th = 0) && catsB n.cs
    else false)) := rfl
  generalize rightB n N = R at HR ⊢
  generalize bareB n = bb at *
  generalize spl n N = sp at *
  generalize nanB n.th = nn at *
  generalize catsB n.cs = cc at *
  generalize decide (n.th = 0) = zz at *
  by_cases k1 : n.kd = 1
  · rw [k1] at h0
    rw [if_pos k1] at HR
    clear h
    go_enter Try.func43, Try.ntmps43
    go_wp2_with (go_at_call 72; refine (hB _ rfl).mono ?_; rintro e w' ⟨rfl, rfl⟩)
    all_goals
      go_ret
      refine ⟨ret_bool ?_, rfl⟩
      rw [HR.out]
      clear HR hB hS hN hZ hC
      simp_all
      try first | rfl | (rw [Bool.eq_iff_iff]; simp)
  · rw [if_neg k1] at HR
    by_cases k2 : n.kd = 2
    · rw [k2] at h0
      rw [if_pos k2] at HR
      clear h
      go_enter Try.func43, Try.ntmps43
      go_wp2_with first
        | (go_at_call 73; refine (hS _ rfl).mono ?_; rintro e w' ⟨rfl, rfl⟩)
        | (go_at_call 74; refine (hN _).mono ?_; rintro e w' ⟨rfl, rfl⟩)
      all_goals
        go_ret
        refine ⟨ret_bool ?_, rfl⟩
        rw [HR.out]
        clear HR hB hS hN hZ hC
        simp_all
        try first | rfl | (rw [Bool.eq_iff_iff]; simp)
    · rw [if_neg k2] at HR
      by_cases k3 : n.kd = 3
      · rw [k3] at h0
        rw [if_pos k3] at HR
        clear h
        go_enter Try.func43, Try.ntmps43
        go_wp2_with first
          | (go_at_call 73; refine (hS _ rfl).mono ?_; rintro e w' ⟨rfl, rfl⟩)
          | (go_at_call 75; refine (hZ _).mono ?_; rintro e w' ⟨rfl, rfl⟩)
          | (go_at_call 76; refine (hC _ rfl).mono ?_; rintro e w' ⟨rfl, rfl⟩)
        all_goals
          go_ret
          refine ⟨ret_bool ?_, rfl⟩
          rw [HR.out]
          clear HR hB hS hN hZ hC
          simp_all
          try first | rfl | (rw [Bool.eq_iff_iff]; simp)
      · rw [if_neg k3] at HR
        have q1 : ((n.kd : Int) == 1) = false := by rw [beq_eq_false_iff_ne]; omega
        have q2 : ((n.kd : Int) == 2) = false := by rw [beq_eq_false_iff_ne]; omega
        have q3 : ((n.kd : Int) == 3) = false := by rw [beq_eq_false_iff_ne]; omega
        clear h
        go_enter Try.func43, Try.ntmps43
        go_wp2_with fail
        go_ret
        exact ⟨ret_bool HR.out.symm, rfl⟩
end Go.Proofs.Ytbchinfmdioijaa
