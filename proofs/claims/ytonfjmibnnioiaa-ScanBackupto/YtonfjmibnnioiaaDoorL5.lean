import Derived.Test.YtonfjmibnnioiaaDoorJ4
import Derived.Test.YtonfjmibnnioiaaDoorZ3
import Derived.Test.YtonfjmibnnioiaaDoorR0
set_option linter.unusedVariables false
set_option linter.unusedSimpArgs false
namespace Go.Proofs.YtonfjmibnnioiaaDoor
open Go.RowKit Go.Shelf
set_option maxRecDepth 100000 in
set_option maxHeartbeats 2000000 in
theorem law_fields (l : List UInt8) (a : Option Addr) (c : Nat) (L : List (List UInt8)) (y : UInt8) (w : World) (hT : Kt w) (hm : Ml w) (hr : RdG w a (SvL L)) (hL : tl L ≤ 4294967000) (hs : l.length ≤ 4294967000) : Calls Tryd.prog 5 #[.string ⟨l.toArray⟩, .slice a L.length c, .int .u8 (y.toNat : Nat)] w fun e w' => e = .returned (.bool true) ∧ Keep w w' := by
  have h17 := Fields_any l y w hs
  have h18 := fun wx => rFields_any l y wx hs
  have h19 := fun wx (k : Keep w wx) => Join_any a c L y wx (hm.keep k) (hr.keep k) hL
  have h20 := fun wx (k : Keep w wx) => rJoin_any a c L y wx (hr.keep k) hL
  have hlen : (fdR l y).1.length ≤ 4294967295 := by
    have := fdR_len l y
    omega
  obtain ⟨F, hF⟩ : ∃ F, fdR l y = F := ⟨_, rfl⟩
  obtain ⟨J, hJ⟩ : ∃ J, jnR L y = J := ⟨_, rfl⟩
  rw [hF] at h17 hlen
  rw [hF] at h18
  rw [hJ] at h19
  rw [hJ] at h20
  clear hF hJ
  obtain ⟨n, hn⟩ : ∃ n, L.length = n := ⟨_, rfl⟩
  rw [hn] at h19 h20 ⊢
  clear hn hr hm
  replace hT : Hid _ := hT
  have e1 : ((F.2.1 : Int) == (F.2.1 : Int)) = true := by simp
  have e2 : ((F.2.2 : Int) == (F.2.2 : Int)) = true := by simp
  have e3 : ((J.2 : Int) == (J.2 : Int)) = true := by simp
  go_enter Tryd.func5, Tryd.ntmps5
  go_wp2_with (first
    | (go_at_call 17; refine h17.mono ?_; rintro e w1 ⟨v1, rfl, o1, k1⟩
       obtain ⟨a1, n1, rfl, hn1, g1⟩ := own_rdg o1)
    | (go_at_call 18; refine (h18 _).mono ?_; rintro e w2 ⟨v2, rfl, o2, k2⟩
       obtain ⟨a2, n2, rfl, hn2, g2⟩ := own_rdg o2
       have q2 := Keep.trans k1 k2)
    | (go_at_call 19; refine (h19 _ q2).mono ?_; rintro e w3 ⟨rfl, k3⟩
       have q3 := Keep.trans q2 k3)
    | (go_at_call 20; refine (h20 _ q3).mono ?_; rintro e w4 ⟨rfl, k4⟩
       have q4 := Keep.trans q3 k4
       have h10 := lives_any w4 (Kt.keep hT.out q4))
    | (go_at_call 10; refine h10.mono ?_; rintro e w5 ⟨rfl, k5⟩
       have q5 := Keep.trans q4 k5
       have h21 := Texts_eq a1 a2 n1 n2 F.1 w5 (g1.keep (Keep.trans (Keep.trans (Keep.trans k2 k3) k4) k5)) (g2.keep (Keep.trans (Keep.trans k3 k4) k5)) hlen)
    | (go_at_call 21; refine h21.mono ?_; rintro e w6 ⟨rfl, k6⟩))
  go_ret
  exact ⟨rfl, Keep.trans q5 k6⟩
end Go.Proofs.YtonfjmibnnioiaaDoor
