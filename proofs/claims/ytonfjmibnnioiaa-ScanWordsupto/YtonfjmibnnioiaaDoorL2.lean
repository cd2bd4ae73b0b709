import Derived.Test.YtonfjmibnnioiaaDoorZ7
import Derived.Test.YtonfjmibnnioiaaDoorV4
import Derived.Test.YtonfjmibnnioiaaDoorY2
import Derived.Test.YtonfjmibnnioiaaDoorR0
set_option linter.unusedVariables false
set_option linter.unusedSimpArgs false
namespace Go.Proofs.YtonfjmibnnioiaaDoor
open Go.RowKit Go.Shelf
set_option maxRecDepth 100000 in
set_option maxHeartbeats 2000000 in
theorem law_words (l : List UInt8) (w : World) (hT : Kt w) (hs : l.length ≤ 4294967000) : Calls Tryd.prog 4 #[.string ⟨l.toArray⟩] w fun e w' => e = .returned (.bool true) ∧ Keep w w' := by
  have h14 := Words_any l w hT hs
  have h15 := fun wx => rWords_any l wx hs
  have hlen : (ws 0 l []).1.length ≤ 4294967295 := by
    have := ws_len l
    omega
  obtain ⟨R, hR⟩ : ∃ R, ws 0 l [] = R := ⟨_, rfl⟩
  rw [hR] at h14 hlen
  rw [hR] at h15
  clear hR
  replace hT : Hid _ := hT
  have e1 : ((R.2.1 : Int) == (R.2.1 : Int)) = true := by simp
  have e2 : ((R.2.2 : Int) == (R.2.2 : Int)) = true := by simp
  go_enter Tryd.func4, Tryd.ntmps4
  go_wp2_with (first
    | (go_at_call 14; refine h14.mono ?_; rintro e w1 ⟨v1, rfl, o1, k1⟩
       obtain ⟨a1, n1, rfl, hn1, g1⟩ := own_rdg o1)
    | (go_at_call 15; refine (h15 _).mono ?_; rintro e w2 ⟨v2, rfl, o2, k2⟩
       obtain ⟨a2, n2, rfl, hn2, g2⟩ := own_rdg o2
       have q2 := Keep.trans k1 k2
       have h10 := lives_any w2 (Kt.keep hT.out q2))
    | (go_at_call 10; refine h10.mono ?_; rintro e w5 ⟨rfl, k5⟩
       have q5 := Keep.trans q2 k5
       have h16 := Same_eq a1 a2 n1 n2 R.1 w5 (g1.keep (Keep.trans k2 k5)) (g2.keep k5) hlen)
    | (go_at_call 16; refine h16.mono ?_; rintro e w6 ⟨rfl, k6⟩))
  go_ret
  exact ⟨rfl, Keep.trans q5 k6⟩
end Go.Proofs.YtonfjmibnnioiaaDoor
