import Derived.Test.YtbjidpooociamaaDoorD5
namespace Go.Proofs.YtbjidpooociamaaDoor
open Go.RowKit Lb
set_option maxRecDepth 100000 in
set_option maxHeartbeats 1600000 in
theorem product_step (M : Nat) (ih : ∀ m, m < M → ProductSaid m) : ProductSaid M := by
  intro a b ca cb la lb w hMa hMb hca hcb hla hlb hra hrb hma hmb
  by_cases hlt : la.length < lb.length
  · have dlt : decide ((la.length : Int) < (lb.length : Int)) = true := by simp; omega
    by_cases h40 : la.length ≤ 40
    · have hb := byLimbs_any b a cb ca lb la w hlb hla hrb hra hmb hma
      go_enter Tryd.func79, Tryd.ntmps79
      go_wp2_with fail
      refine hb.mono ?_
      rintro e w1 ⟨v, rfl, hn, hk⟩
      obtain ⟨gx, rx, lx, rfl, hx⟩ := hn
      go_wp2_with fail
      go_ret
      exact ⟨_, rfl, by rw [Nat.mul_comm]; exact ⟨gx, rx, lx, rfl, hx⟩, hk⟩
    · have d40 : decide (la.length ≤ 40) = false := by simp; omega
      obtain ⟨bX, oX, rfl, -⟩ := hrb 0 (by omega)
      obtain ⟨bY, oY, rfl, -⟩ := hra 0 (by omega)
      by_cases h2 : 2 * la.length ≤ lb.length
      · have hb := byPieces_any la.length (ih la.length (by omega)) bX oX (some ⟨bY, oY, none⟩) cb ca lb la w (Nat.le_refl _) hcb hca hlb hla (by omega) hrb hra hmb hma
        go_enter Tryd.func79, Tryd.ntmps79
        go_wp2_with fail
        refine hb.mono ?_
        rintro e w1 ⟨v, rfl, hn, hk⟩
        obtain ⟨gx, rx, lx, rfl, hx⟩ := hn
        go_wp2_with fail
        go_ret
        exact ⟨_, rfl, by rw [Nat.mul_comm]; exact ⟨gx, rx, lx, rfl, hx⟩, hk⟩
      · have d2 : decide (2 * (la.length : Int) ≤ (lb.length : Int)) = false := by simp; omega
        have hb := byHalves_any ((lb.length + 1) / 2 + 1) (ih _ (by omega)) bX oX bY oY ((lb.length + 1) / 2) cb ca lb la w rfl (Nat.le_refl _) hcb hca hlb (by omega) (by omega) (by omega) hrb hra hmb hma
        go_enter Tryd.func79, Tryd.ntmps79
        go_wp2_with fail
        refine hb.mono ?_
        rintro e w1 ⟨v, rfl, hn, hk⟩
        obtain ⟨gx, rx, lx, rfl, hx⟩ := hn
        go_wp2_with fail
        go_ret
        exact ⟨_, rfl, by rw [Nat.mul_comm]; exact ⟨gx, rx, lx, rfl, hx⟩, hk⟩
  · have dlt : decide ((la.length : Int) < (lb.length : Int)) = false := by simp; omega
    by_cases h40 : lb.length ≤ 40
    · have hb := byLimbs_any a b ca cb la lb w hla hlb hra hrb hma hmb
      go_enter Tryd.func79, Tryd.ntmps79
      go_wp2_with fail
      refine hb.mono ?_
      rintro e w1 ⟨v, rfl, hn, hk⟩
      obtain ⟨gx, rx, lx, rfl, hx⟩ := hn
      go_wp2_with fail
      go_ret
      exact ⟨_, rfl, ⟨gx, rx, lx, rfl, hx⟩, hk⟩
    · have d40 : decide (lb.length ≤ 40) = false := by simp; omega
      obtain ⟨bX, oX, rfl, -⟩ := hra 0 (by omega)
      obtain ⟨bY, oY, rfl, -⟩ := hrb 0 (by omega)
      by_cases h2 : 2 * lb.length ≤ la.length
      · have hb := byPieces_any lb.length (ih lb.length (by omega)) bX oX (some ⟨bY, oY, none⟩) ca cb la lb w (Nat.le_refl _) hca hcb hla hlb (by omega) hra hrb hma hmb
        go_enter Tryd.func79, Tryd.ntmps79
        go_wp2_with fail
        refine hb.mono ?_
        rintro e w1 ⟨v, rfl, hn, hk⟩
        obtain ⟨gx, rx, lx, rfl, hx⟩ := hn
        go_wp2_with fail
        go_ret
        exact ⟨_, rfl, ⟨gx, rx, lx, rfl, hx⟩, hk⟩
      · have d2 : decide (2 * (lb.length : Int) ≤ (la.length : Int)) = false := by simp; omega
        have hb := byHalves_any ((la.length + 1) / 2 + 1) (ih _ (by omega)) bX oX bY oY ((la.length + 1) / 2) ca cb la lb w rfl (Nat.le_refl _) hca hcb hla (by omega) (by omega) (by omega) hra hrb hma hmb
        go_enter Tryd.func79, Tryd.ntmps79
        go_wp2_with fail
        refine hb.mono ?_
        rintro e w1 ⟨v, rfl, hn, hk⟩
        obtain ⟨gx, rx, lx, rfl, hx⟩ := hn
        go_wp2_with fail
        go_ret
        exact ⟨_, rfl, ⟨gx, rx, lx, rfl, hx⟩, hk⟩

theorem product_all (M : Nat) : ProductSaid M := Nat.strongRecOn M (fun n ih => product_step n ih)
theorem product_any (a b : Option Addr) (ca cb : Nat) (la lb : List Nat) (w : World) (hca : la.length ≤ ca) (hcb : lb.length ≤ cb) (hla : la.length ≤ 35184372088832) (hlb : lb.length ≤ 35184372088832) (hra : Rd w a la) (hrb : Rd w b lb) (hma : Lim la) (hmb : Lim lb) :
    Calls Tryd.prog 79 #[.slice a la.length ca, .slice b lb.length cb] w fun e w' => ∃ v, e = .returned v ∧ NatS w.heap.size w' v (val la * val lb) ∧ Keep w w' :=
  product_all (max la.length lb.length) a b ca cb la lb w (by omega) (by omega) hca hcb hla hlb hra hrb hma hmb
set_option maxRecDepth 100000 in
set_option maxHeartbeats 400000 in
theorem Mul_any (a b : Option Addr) (ca cb : Nat) (la lb : List Nat) (w : World) (hca : la.length ≤ ca) (hcb : lb.length ≤ cb) (hla : la.length ≤ 35184372088832) (hlb : lb.length ≤ 35184372088832) (hra : Rd w a la) (hrb : Rd w b lb) (hma : Lim la) (hmb : Lim lb) :
    Calls Tryd.prog 35 #[.slice a la.length ca, .slice b lb.length cb] w fun e w' => ∃ v, e = .returned v ∧ NatS w.heap.size w' v (val la * val lb) ∧ Keep w w' := by
  have h1 := nl_le la
  have h2 := nl_le lb
  have e1 : (la.take (nl la)).length = nl la := by simp; omega
  have e2 : (lb.take (nl lb)).length = nl lb := by simp; omega
  have hc := product_any a b ca cb (la.take (nl la)) (lb.take (nl lb)) w (by omega) (by omega) (by omega) (by omega) (hra.take _) (hrb.take _) (Lim_take hma _) (Lim_take hmb _)
  rw [e1, e2, val_take_nl, val_take_nl] at hc
  have t1 := trim_any a ca la w hca (by omega) hra
  have t2 := trim_any b cb lb w hcb (by omega) hrb
  go_enter Tryd.func35, Tryd.ntmps35
  go_wp2_with fail
  refine t1.mono ?_
  rintro e w' ⟨rfl, rfl⟩
  go_wp2_with fail
  refine t2.mono ?_
  rintro e w' ⟨rfl, rfl⟩
  go_wp2_with fail
  refine hc.mono ?_
  rintro e w1 ⟨v, rfl, hn, hk⟩
  obtain ⟨gx, rx, lx, rfl, hx⟩ := hn
  go_wp2
  go_ret
  exact ⟨_, rfl, ⟨gx, rx, lx, rfl, hx⟩, hk⟩
end Go.Proofs.YtbjidpooociamaaDoor
