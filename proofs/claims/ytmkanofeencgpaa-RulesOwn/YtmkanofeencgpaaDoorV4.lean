import Derived.Test.YtmkanofeencgpaaDoorV3
set_option linter.unusedVariables false
set_option linter.unusedSimpArgs false
namespace Go.Proofs.YtmkanofeencgpaaDoor
open Go.RowKit Go.Shelf
theorem natv_nil (w : World) : NatV w (.slice none 0 0) 0 := ⟨none, 0, [], rfl, Nat.le_refl _, by intro j hj; simp at hj, by intro x hx; simp at hx, by simp [Lb.Nrm], rfl⟩
set_option maxRecDepth 100000 in
set_option maxHeartbeats 1000000 in
theorem same_list (a b : Option Addr) (ca cb : Nat) (l : List Nat) (w : World) (hl : l.length ≤ 1000000) (ha : Li.Rd w a l) (hb : Li.Rd w b l) :
    Calls Tryd.prog 16 #[.slice a l.length ca, .slice b l.length cb] w fun e w' => e = .returned (.bool true) ∧ Keep w w' := by
  go_enter Tryd.func16, Tryd.ntmps16
  go_wp2_with fail
  go_loopw [13] (fun i wr => ∃ k : Nat, i = .int .i64 (k : Int) ∧ k ≤ l.length ∧ Keep w wr) (fun i wr => l.length - (intOf i).toNat)
  case atStart => exact ⟨0, rfl, by omega, Keep.refl _⟩
  case round =>
    obtain ⟨k, rfl, hk, kr⟩ := hrel
    by_cases hlt : k < l.length
    · have hltc : (k : Int) < (l.length : Int) := by omega
      obtain ⟨b1, o1, rfl, x1⟩ := (ha.keep kr) k hlt
      obtain ⟨b2, o2, rfl, x2⟩ := (hb.keep kr) k hlt
      have HK : Hid (k < l.length) := hlt
      generalize l.getD k 0 = y at x1 x2
      go_wp2_with fail
      go_quiet (fail)
      go_wp2_with fail
      go_roundw
      case rel => exact ⟨k + 1, by go_num, by have := HK.out; omega, kr.drewN _⟩
      case measure => have := HK.out; simp [intOf]; omega
    · have hltc : ¬ (k : Int) < (l.length : Int) := by omega
      clear hlt
      go_wp2_with fail
      go_ret
      exact ⟨rfl, kr⟩
theorem same_nv (n : Nat) (vx vy : Value) (w : World) (hx : NatV w vx n) (hy : NatV w vy n) (hb : n < 340282366920938463463374607431768211456) : Calls Tryd.prog 16 #[vx, vy] w fun e w' => e = .returned (.bool true) ∧ Keep w w' := by
  obtain ⟨a, c, l, rfl, h1, h2, h3, h4, h5⟩ := hx
  obtain ⟨a', c', l', rfl, h1', h2', h3', h4', h5'⟩ := hy
  obtain rfl : l = l' := Lb.val_inj h3 h3' h4 h4' (h5.trans h5'.symm)
  exact same_list a a' c c' l w (by have := nat_len h4 (by omega); omega) h2 h2'
def rmN (base : List Int) (ts : List (Int × List Nd)) (o : Int) : Nat := if 0 ≤ o ∧ o < (base.length : Int) then rm base ts o.toNat else 0
def rmZ (base : List Int) (o : Int) : Int := if 0 ≤ o ∧ o < (base.length : Int) then 0 else 2
set_option maxRecDepth 100000 in
theorem Room_all (nm : ByteArray) (fa : Option Addr) (Fn cf : Nat) (N : Int) (ba : Option Addr) (base : List Int) (cb : Nat) (ta : Option Addr) (ts : List (Int × List Nd)) (ct : Nat) (o : Int) (w : World) (hE : EnR w ba base ta ts) :
    Calls Tryd.prog 14 #[.agg (ev nm fa Fn cf N ba base.length cb ta ts.length ct), .int .i64 o] w fun e w' => ∃ v, e = .returned (.tuple #[v, .int .i64 (rmZ base o)]) ∧ NatV w' v (rmN base ts o) ∧ rmN base ts o ≤ 9223372036854775808 * (4398046511104 + 1) ∧ Keep w w' := by
  by_cases h : 0 ≤ o ∧ o < (base.length : Int)
  · obtain ⟨q, rfl⟩ : ∃ q : Nat, o = (q : Int) := ⟨o.toNat, by omega⟩
    have hR := Room_any nm fa Fn cf N ba base cb ta ts ct q w (by omega) hE.bl hE.rb hE.bb hE.tl hE.tn hE.rt
    unfold rmN rmZ
    rw [if_pos h, if_pos h]
    exact hR
  · have hz : rmZ base o = 2 := if_neg h
    have hn : rmN base ts o = 0 := if_neg h
    rw [hz, hn]
    obtain ⟨w1, hw1, k1, t1, s1⟩ := boxed w (ev nm fa Fn cf N ba base.length cb ta ts.length ct) 26
    obtain ⟨-, -, -, c3, c4⟩ := cells5 t1
    by_cases h0 : o < 0
    · have d0 : decide (o < 0) = true := decide_eq_true h0
      clear h h0
      go_enter Tryd.func14, Tryd.ntmps14
      go_wp2_with (rw [hw1])
      go_ret2
      exact ⟨_, rfl, natv_nil _, by omega, k1⟩
    · have d0 : decide (o < 0) = false := decide_eq_false h0
      have d1 : decide ((base.length : Int) ≤ o) = true := decide_eq_true (by omega)
      clear h h0
      go_enter Tryd.func14, Tryd.ntmps14
      go_wp2_with (rw [hw1])
      go_ret2
      exact ⟨_, rfl, natv_nil _, by omega, k1⟩
set_option maxRecDepth 100000 in
theorem rRoom_all (nm : ByteArray) (fa : Option Addr) (Fn cf : Nat) (N : Int) (ba : Option Addr) (base : List Int) (cb : Nat) (ta : Option Addr) (ts : List (Int × List Nd)) (ct : Nat) (o : Int) (w : World) (hE : EnR w ba base ta ts) :
    Calls Tryd.prog 15 #[.agg (ev nm fa Fn cf N ba base.length cb ta ts.length ct), .int .i64 o] w fun e w' => ∃ v, e = .returned (.tuple #[v, .int .i64 (rmZ base o)]) ∧ NatV w' v (rmN base ts o) ∧ rmN base ts o ≤ 9223372036854775808 * (4398046511104 + 1) ∧ Keep w w' := by
  by_cases h : 0 ≤ o ∧ o < (base.length : Int)
  · obtain ⟨q, rfl⟩ : ∃ q : Nat, o = (q : Int) := ⟨o.toNat, by omega⟩
    have hR := rRoom_any nm fa Fn cf N ba base cb ta ts ct q w (by omega) hE
    unfold rmN rmZ
    rw [if_pos h, if_pos h]
    exact hR
  · have hz : rmZ base o = 2 := if_neg h
    have hn : rmN base ts o = 0 := if_neg h
    rw [hz, hn]
    obtain ⟨w1, hw1, k1, t1, s1⟩ := boxed w (ev nm fa Fn cf N ba base.length cb ta ts.length ct) 26
    obtain ⟨-, -, -, c3, c4⟩ := cells5 t1
    by_cases h0 : o < 0
    · have d0 : decide (o < 0) = true := decide_eq_true h0
      clear h h0
      go_enter Tryd.func15, Tryd.ntmps15
      go_wp2_with (rw [hw1])
      go_ret2
      exact ⟨_, rfl, natv_nil _, by omega, k1⟩
    · have d0 : decide (o < 0) = false := decide_eq_false h0
      have d1 : decide ((base.length : Int) ≤ o) = true := decide_eq_true (by omega)
      clear h h0
      go_enter Tryd.func15, Tryd.ntmps15
      go_wp2_with (rw [hw1])
      go_ret2
      exact ⟨_, rfl, natv_nil _, by omega, k1⟩
end Go.Proofs.YtmkanofeencgpaaDoor
