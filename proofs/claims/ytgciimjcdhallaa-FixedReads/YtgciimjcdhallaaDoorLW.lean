import Derived.Test.YtgciimjcdhallaaDoorM6
set_option linter.unusedVariables false
set_option linter.unusedSimpArgs false
namespace Go.Proofs.YtgciimjcdhallaaDoor
open Go.RowKit Go.Shelf
/-- What is said of a text by its rounding. -/
structure RoA (s : List UInt8) (V E K : Int) : Prop where
  good : oGood s → V = sgV (pNg s) (oN s) ∧ E = sgE (pNg s) (oN s) ∧ K = 0
  bad : ¬ oGood s → V = 0 ∧ E = 40 ∧ K = (oEnd s : Int)
theorem RoA.one {s : List UInt8} {V E K V' E' K' : Int} (h : RoA s V E K) (g : RoA s V' E' K') : V = V' ∧ E = E' ∧ K = K' := by
  by_cases q : oGood s
  · obtain ⟨a, b, c⟩ := h.good q
    obtain ⟨a', b', c'⟩ := g.good q
    rw [a, b, c, a', b', c']
    exact ⟨rfl, rfl, rfl⟩
  · obtain ⟨a, b, c⟩ := h.bad q
    obtain ⟨a', b', c'⟩ := g.bad q
    rw [a, b, c, a', b', c']
    exact ⟨rfl, rfl, rfl⟩
theorem RoA.of_bad {s : List UInt8} {K : Int} (hg : ¬ oGood s) (hK : K = (oEnd s : Int)) : RoA s 0 40 K := ⟨fun q => absurd q hg, fun _ => ⟨rfl, rfl, hK⟩⟩
theorem RoA.of_good {s : List UInt8} {V E : Int} (hg : oGood s) (hV : V = sgV (pNg s) (oN s)) (hE : E = sgE (pNg s) (oN s)) : RoA s V E 0 := ⟨fun _ => ⟨hV, hE, rfl⟩, fun q => absurd hg q⟩
theorem Rounded_any (s : List UInt8) (w : World) (hs : s.length ≤ 4096) :
    Calls Tryd.prog 6 #[.string ⟨s.toArray⟩] w fun e w' => (∃ V E K, e = .returned (.tuple #[.int .i64 V, .int .i64 E, .int .i64 K]) ∧ RoA s V E K) ∧ Keep w w' := by
  by_cases hg : oGood s
  · refine (Rounded_good s w hs hg).mono ?_
    rintro e w' ⟨rfl, k⟩
    exact ⟨⟨_, _, _, rfl, RoA.of_good hg rfl rfl⟩, k⟩
  · refine (Rounded_fault s w hs hg).mono ?_
    rintro e w' ⟨rfl, k⟩
    exact ⟨⟨_, _, _, rfl, RoA.of_bad hg rfl⟩, k⟩
/-- What is asked of the reference's Decimal. -/
def DecC : Prop := ∀ (s : List UInt8) (w : World), s.length ≤ 4096 → Calls Tryd.prog 7 #[.string ⟨s.toArray⟩] w fun e w' => (∃ V E K, e = .returned (.tuple #[.int .i64 V, .int .i64 E, .int .i64 K]) ∧ RoA s V E K) ∧ Keep w w'
set_option maxRecDepth 100000 in
set_option maxHeartbeats 2000000 in
theorem rDecimal_long (s : List UInt8) (w : World) (hs : ¬ s.length ≤ 4096) (hm : s.length ≤ 9223372036854775807) :
    Calls Tryd.prog 7 #[.string ⟨s.toArray⟩] w fun e w' => e = .returned (.tuple #[.int .i64 0, .int .i64 4, .int .i64 0]) ∧ Keep w w' := by
  have s1 : (ByteArray.mk s.toArray).size = s.length := sz_mk s
  obtain ⟨L, hL⟩ : ∃ L, s.length = L := ⟨_, rfl⟩
  rw [hL] at s1 hs hm
  have hL1 : (4096 : Int) < (L : Int) := by omega
  go_enter Tryd.func7, Tryd.ntmps7
  go_wp2_with fail
  go_ret3
  exact ⟨rfl, Keep.refl w⟩
set_option maxRecDepth 100000 in
set_option maxHeartbeats 2000000 in
theorem law_of (s : List UInt8) (v : Int) (w : World) (V E K V2 E2 K2 : Int) (P : List UInt8)
    (h4 : ∀ wx, Calls Tryd.prog 4 #[.string ⟨s.toArray⟩] wx fun e w' => e = .returned (.tuple #[.int .i64 V, .int .i64 E, .int .i64 K]) ∧ Keep wx w')
    (h5 : ∀ wx, Calls Tryd.prog 5 #[.string ⟨s.toArray⟩] wx fun e w' => e = .returned (.tuple #[.int .i64 V, .int .i64 E, .int .i64 K]) ∧ Keep wx w')
    (h6 : ∀ wx, Calls Tryd.prog 6 #[.string ⟨s.toArray⟩] wx fun e w' => e = .returned (.tuple #[.int .i64 V2, .int .i64 E2, .int .i64 K2]) ∧ Keep wx w')
    (h7 : ∀ wx, Calls Tryd.prog 7 #[.string ⟨s.toArray⟩] wx fun e w' => e = .returned (.tuple #[.int .i64 V2, .int .i64 E2, .int .i64 K2]) ∧ Keep wx w')
    (h8 : ∀ wx, Keep w wx → Calls Tryd.prog 8 #[.int .i64 v] wx fun e w' => e = .returned (.string ⟨P.toArray⟩) ∧ Keep wx w')
    (h9 : ∀ wx, Calls Tryd.prog 9 #[.int .i64 v] wx fun e w' => e = .returned (.string ⟨P.toArray⟩) ∧ Keep wx w') :
    Calls Tryd.prog 3 #[.string ⟨s.toArray⟩, .int .i64 v] w fun e w' => e = .returned (.bool true) ∧ Keep w w' := by
  go_enter Tryd.func3, Tryd.ntmps3
  go_wp2_with (first
    | (go_at_call 4; refine (h4 _).mono ?_; rintro e w1 ⟨rfl, k1⟩; have K1 : Hid (Keep w w1) := k1; clear k1)
    | (go_at_call 5; refine (h5 _).mono ?_; rintro e w2 ⟨rfl, k2⟩; have K2 : Hid (Keep w w2) := K1.out.trans k2; clear k2)
    | (go_at_call 6; refine (h6 _).mono ?_; rintro e w3 ⟨rfl, k3⟩; have K3 : Hid (Keep w w3) := K2.out.trans k3; clear k3)
    | (go_at_call 7; refine (h7 _).mono ?_; rintro e w4 ⟨rfl, k4⟩; have K4 : Hid (Keep w w4) := K3.out.trans k4; clear k4)
    | (go_at_call 8; refine (h8 _ K4.out).mono ?_; rintro e w5 ⟨rfl, k5⟩; have K5 : Hid (Keep w w5) := K4.out.trans k5; clear k5)
    | (go_at_call 9; refine (h9 _).mono ?_; rintro e w6 ⟨rfl, k6⟩; have K6 : Hid (Keep w w6) := K5.out.trans k6; clear k6))
  go_ret
  exact ⟨rfl, K6.out⟩
theorem law_reads (hDec : DecC) (s : List UInt8) (v : Int) (w : World) (hm : s.length ≤ 9223372036854775807) (hv : I64 v) (hT : Tb w) :
    Calls Tryd.prog 3 #[.string ⟨s.toArray⟩, .int .i64 v] w fun e w' => e = .returned (.bool true) ∧ Keep w w' := by
  have h8 := fun wx (k : Keep w wx) => Print_any v wx hv (keep_tab hT k)
  have h9 := fun wx => rPrint_any v wx hv
  by_cases hs : s.length ≤ 4096
  · obtain ⟨V, E, K, hA⟩ : ∃ V E K, RdA s V E K := by
      by_cases hg : rGood s
      · exact ⟨_, _, _, RdA.of_good hg rfl rfl⟩
      · exact ⟨_, _, _, RdA.of_bad hg rfl⟩
    obtain ⟨V2, E2, K2, hB⟩ : ∃ V E K, RoA s V E K := by
      by_cases hg : oGood s
      · exact ⟨_, _, _, RoA.of_good hg rfl rfl⟩
      · exact ⟨_, _, _, RoA.of_bad hg rfl⟩
    refine law_of s v w V E K V2 E2 K2 (prt v) ?_ ?_ ?_ ?_ h8 h9
    · intro wx
      refine (Read_any s wx hs).mono ?_
      rintro e w' ⟨⟨a, b, c, rfl, h⟩, k⟩
      obtain ⟨rfl, rfl, rfl⟩ := h.one hA
      exact ⟨rfl, k⟩
    · intro wx
      refine (rRead_any s wx hs).mono ?_
      rintro e w' ⟨⟨a, b, c, rfl, h⟩, k⟩
      obtain ⟨rfl, rfl, rfl⟩ := h.one hA
      exact ⟨rfl, k⟩
    · intro wx
      refine (Rounded_any s wx hs).mono ?_
      rintro e w' ⟨⟨a, b, c, rfl, h⟩, k⟩
      obtain ⟨rfl, rfl, rfl⟩ := h.one hB
      exact ⟨rfl, k⟩
    · intro wx
      refine (hDec s wx hs).mono ?_
      rintro e w' ⟨⟨a, b, c, rfl, h⟩, k⟩
      obtain ⟨rfl, rfl, rfl⟩ := h.one hB
      exact ⟨rfl, k⟩
  · exact law_of s v w 0 4 0 0 4 0 (prt v) (fun wx => Read_long s wx hs hm) (fun wx => rRead_long s wx hs hm) (fun wx => Rounded_long s wx hs hm) (fun wx => rDecimal_long s wx hs hm) h8 h9
end Go.Proofs.YtgciimjcdhallaaDoor
