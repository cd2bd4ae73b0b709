import Derived.Test.YtonfjmibnnioiaaDoorZ1
set_option linter.unusedVariables false
set_option linter.unusedSimpArgs false
namespace Go.Proofs.YtonfjmibnnioiaaDoor
open Go.RowKit Go.Shelf
theorem law_rows (l : List UInt8) (w : World) (hT : Kt w) (hs : l.length ≤ 4294967000) : Calls Tryd.prog 3 #[.string ⟨l.toArray⟩] w fun e w' => e = .returned (.bool true) ∧ Keep w w' := by
  have hL := lives_any w hT
  have hR := fun wx => Rows_any l wx hs
  have hR' := fun wx => rRows_any l wx hs
  have hlen : (rwA 0 0 l).length ≤ 4294967295 := by
    have := rwA_len l.length 0 0 l (Nat.le_refl _)
    omega
  go_enter Tryd.func3, Tryd.ntmps3
  go_wp2_with (first
    | (go_at_call 10; refine hL.mono ?_; rintro e w1 ⟨rfl, k1⟩)
    | (go_at_call 12; refine (hR _).mono ?_; rintro e w2 ⟨v2, rfl, o2, k2⟩
       obtain ⟨a2, n2, rfl, hn2, g2⟩ := own_rdg o2)
    | (go_at_call 13; refine (hR' _).mono ?_; rintro e w3 ⟨v3, rfl, o3, k3⟩
       obtain ⟨a3, n3, rfl, hn3, g3⟩ := own_rdg o3
       have hE := rows_eq a2 a3 n2 n3 (rwA 0 0 l) w3 (g2.keep k3) g3 hlen)
    | (go_at_call 11; refine hE.mono ?_; rintro e w4 ⟨rfl, k4⟩))
  go_ret
  exact ⟨rfl, ((k1.trans k2).trans k3).trans k4⟩
end Go.Proofs.YtonfjmibnnioiaaDoor
