import Derived.Test.YtbjidpooociamaaDoorJ4
import Derived.Test.YtbjidpooociamaaDoorG2
import Derived.Test.YtbjidpooociamaaDoorC19
namespace Go.Proofs.YtbjidpooociamaaDoor
open Go.RowKit Lb
theorem first_bad : ∀ (cs : List Nat), (∀ x ∈ cs, 48 ≤ x ∧ x < 58) ∨ ∃ p, p < cs.length ∧ (∀ i, i < p → 48 ≤ cs.getD i 0 ∧ cs.getD i 0 < 58) ∧ (cs.getD p 0 < 48 ∨ 58 ≤ cs.getD p 0)
  | [] => .inl (by intro x hx; simp at hx)
  | x :: xs => by
    by_cases h : 48 ≤ x ∧ x < 58
    · rcases first_bad xs with h1 | ⟨p, h1, h2, h3⟩
      · exact .inl (by intro y hy; simp at hy; rcases hy with rfl | hy; exact h; exact h1 y hy)
      · refine .inr ⟨p + 1, by simp; omega, ?_, by simpa [List.getD] using h3⟩
        intro i hi
        cases i with
        | zero => simpa [List.getD] using h
        | succ i => have := h2 i (by omega); simpa [List.getD] using this
    · exact .inr ⟨0, by simp, fun i hi => by omega, by simp [List.getD]; omega⟩
theorem lenB_top (l : List Nat) (hm : Lim l) : lenB l ≤ 32 * l.length := by
  unfold lenB
  split
  · omega
  · rename_i h
    have h1 := nl_le l
    have h2 : l.getD (nl l - 1) 0 < 4294967296 := Lim_getD hm _
    have := bitLen_le _ h2
    omega
set_option maxRecDepth 100000 in
set_option maxHeartbeats 800000 in
theorem law_reads (cs : List Nat) (a : Option Addr) (ca : Nat) (la : List Nat) (w : World) (hb : ∀ x ∈ cs, x < 256) (hl : cs.length ≤ 1048576) (hca : la.length ≤ ca) (hla : la.length ≤ 1048576) (hra : Rd w a la) (hma : Lim la) :
    Calls Tryd.prog 4 #[.string (S8 cs), .slice a la.length ca] w fun e w' => e = .returned (.bool true) ∧ Keep w w' := by
  have hlb := lenB_top la hma
  have hP := fun wx (hk : Keep w wx) => Print_any a ca la wx hca (by omega) (hra.keep hk) hma (by omega)
  have hQ := fun wx (hk : Keep w wx) => rPrint_any a ca la wx hca hla (hra.keep hk) hma
  generalize dec (val la) = dv at hP hQ
  have hS0 := fun wx => Same_any none none 0 0 [] wx (by simp) (Rd.nil _ _) (Rd.nil _ _)
  by_cases h0 : cs = []
  · subst h0
    go_enter Tryd.func4, Tryd.ntmps4
    go_wp2_with fail
    refine (Read_none w).mono ?_
    rintro e w1 ⟨rfl, k1⟩
    go_wp2_with fail
    refine (rRead_none w1).mono ?_
    rintro e w2 ⟨rfl, k2⟩
    have k02 := k1.trans k2
    go_wp2_with fail
    refine (lives_any w2).mono ?_
    rintro e w3 ⟨rfl, k3⟩
    go_wp2_with fail
    refine (hS0 w3).mono ?_
    rintro e w4 ⟨rfl, d4⟩
    have k04 := (k02.trans k3).trans d4.keep
    go_wp2_with fail
    refine (hP _ k04).mono ?_
    rintro e w5 ⟨rfl, k5⟩
    have k05 := k04.trans k5
    go_wp2_with fail
    refine (hQ _ k05).mono ?_
    rintro e w6 ⟨rfl, k6⟩
    go_wp2_with fail
    go_ret
    exact ⟨rfl, k05.trans k6⟩
  · rcases first_bad cs with hg | ⟨p, hp, hpd, hpx⟩
    · have hn1 := numv_lt cs hg
      have hR := Read_any cs w hg h0 (by omega)
      have hR2 := fun wx => rRead_good cs wx hg h0 hl
      generalize numv cs = N at *
      go_enter Tryd.func4, Tryd.ntmps4
      go_wp2_with fail
      refine hR.mono ?_
      rintro e w1 ⟨v1, rfl, n1, k1⟩
      obtain ⟨a1, c1, l1, rfl, hc1, r1, m1, p1, e1, -⟩ := n1.shape
      go_wp2_with fail
      refine (hR2 w1).mono ?_
      rintro e w2 ⟨v2, l2, rfl, o2, m2, p2, e2, k2⟩
      obtain ⟨a2, c2, rfl, hc2, r2⟩ := o2.shape
      obtain rfl : l2 = l1 := val_inj m2 m1 p2 p1 (by omega)
      have k02 := k1.trans k2
      have hl2 : l2.length ≤ cs.length := len_le_pow p2 _ (by rw [e2]; exact ten_lt _ _ hn1)
      clear n1 o2 e1 e2 hR hR2 hn1
      go_wp2_with fail
      refine (lives_any w2).mono ?_
      rintro e w3 ⟨rfl, k3⟩
      have s4 := Same_any a1 a2 c1 c2 l2 w3 (by omega) ((r1.keep k2).keep k3) (r2.keep k3)
      go_wp2_with fail
      refine s4.mono ?_
      rintro e w4 ⟨rfl, d4⟩
      have k04 := (k02.trans k3).trans d4.keep
      clear s4
      go_wp2_with fail
      refine (hP _ k04).mono ?_
      rintro e w5 ⟨rfl, k5⟩
      have k05 := k04.trans k5
      go_wp2_with fail
      refine (hQ _ k05).mono ?_
      rintro e w6 ⟨rfl, k6⟩
      go_wp2_with fail
      go_ret
      exact ⟨rfl, k05.trans k6⟩
    · go_enter Tryd.func4, Tryd.ntmps4
      go_wp2_with fail
      refine (Read_bad cs p w hb hp hpd hpx (by omega)).mono ?_
      rintro e w1 ⟨rfl, k1⟩
      go_wp2_with fail
      refine (rRead_bad cs p w1 hb hp hpd hpx (by omega)).mono ?_
      rintro e w2 ⟨rfl, k2⟩
      have k02 := k1.trans k2
      go_wp2_with fail
      refine (lives_any w2).mono ?_
      rintro e w3 ⟨rfl, k3⟩
      go_wp2_with fail
      refine (hS0 w3).mono ?_
      rintro e w4 ⟨rfl, d4⟩
      have k04 := (k02.trans k3).trans d4.keep
      go_wp2_with fail
      refine (hP _ k04).mono ?_
      rintro e w5 ⟨rfl, k5⟩
      have k05 := k04.trans k5
      go_wp2_with fail
      refine (hQ _ k05).mono ?_
      rintro e w6 ⟨rfl, k6⟩
      go_wp2_with fail
      go_ret
      exact ⟨rfl, k05.trans k6⟩
end Go.Proofs.YtbjidpooociamaaDoor
