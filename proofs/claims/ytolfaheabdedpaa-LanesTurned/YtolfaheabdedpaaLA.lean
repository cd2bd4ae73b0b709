import Derived.Test.YtolfaheabdedpaaUE
set_option linter.unusedVariables false
set_option linter.unusedSimpArgs false
namespace Go.Proofs.Ytolfaheabdedpaa
open Go.RowKit Go.Shelf
theorem pkA_len (V : List (List Nat)) (d : Int) : (pkA V d).length ≤ many V.length := by
  unfold pkA
  split
  · split
    · simp
    · rw [pk_len]; omega
  · simp
theorem upA_len (G : List (List Nat)) (n d : Int) : (upA G n d).length ≤ n.toNat := by
  unfold upA
  split
  · split
    · rw [upk_len]; omega
    · simp
  · simp
theorem upA_big (G : List (List Nat)) (n d : Int) (hbig : G.length = many n.toNat → n.toNat ≤ 5864062014804) : (upA G n d).length ≤ 17592186044416 := by
  unfold upA
  split
  · split
    · rename_i h; rw [upk_len]; have := hbig h.1; omega
    · simp
  · simp
set_option maxRecDepth 100000 in
set_option maxHeartbeats 4000000 in
theorem law_packs (a : Option Addr) (c : Nat) (V : List (List Nat)) (d : Int) (ga : Option Addr) (gc : Nat) (G : List (List Nat)) (n : Int) (w : World) (hn : n ≤ 9223372036854775807) (hl : V.length ≤ 5864062014804) (hlc : V.length ≤ c) (hr : RdS 1 w a V) (hg : G.length ≤ 17592186044416) (hbig : G.length = many n.toNat → n.toNat ≤ 5864062014804) (hrg : RdS 8 w ga G) :
    Calls Try.prog 3 #[.slice a V.length c, .int .i64 d, .slice ga G.length gc, .int .i64 n] w fun e w' => e = .returned (.bool true) ∧ Keep w w' := by
  have h7 := copied_any a c V w hl hr
  have h8 := fun a' c' (wx : World) (hc : V.length ≤ c') (h : RdS 1 wx a' V) => Pack_any a' c' V d wx hl hc h
  have h9 := fun (wx : World) (k : Keep w wx) => rPack_any a c V d wx hl (hr.keep k)
  have h10 := fun (wx : World) (k : Keep w wx) => Unpack_any ga gc G n d wx hn hg hbig (hrg.keep k)
  have h11 := fun (wx : World) (k : Keep w wx) => rUnpack_any ga gc G n d wx hn hg hbig (hrg.keep k)
  have hpl : (pkA V d).length ≤ 17592186044416 := by have := pkA_len V d; unfold many at this; omega
  have hul := upA_big G n d hbig
  have h12 := fun a1 a2 c1 c2 (wx : World) (h1 : RdS 8 wx a1 (pkA V d)) (h2 : RdS 8 wx a2 (pkA V d)) => groups_eq a1 a2 c1 c2 (pkA V d) wx hpl h1 h2
  have h13 := fun a1 a2 c1 c2 (wx : World) (h1 : RdS 1 wx a1 (upA G n d)) (h2 : RdS 1 wx a2 (upA G n d)) => alike_eq a1 a2 c1 c2 (upA G n d) wx hul h1 h2
  have h13b := fun a1 c1 (wx : World) (k : Keep w wx) (h1 : RdS 1 wx a1 V) => alike_eq a1 a c1 c V wx (by omega) h1 (hr.keep k)
  generalize pkA V d = P at *
  generalize pkE V d = pe at *
  generalize upA G n d = U at *
  generalize upE G n d = ue at *
  clear hpl hul hn hbig hg hl
  go_enter Try.func3, Try.ntmps3
  go_wp2_with (first
    | (go_at_call 7; refine h7.mono ?_; rintro e w1 ⟨a1, c1, rfl, hc1, r1, k1⟩)
    | (go_at_call 8; refine (h8 _ _ _ hc1 r1).mono ?_; rintro e w2 ⟨a2, c2, rfl, hc2, r2, k2⟩; have k12 := k1.trans k2)
    | (go_at_call 9; refine (h9 _ k12).mono ?_; rintro e w3 ⟨a3, c3, rfl, hc3, r3, k3⟩; have k13 := k12.trans k3)
    | (go_at_call 10; refine (h10 _ k13).mono ?_; rintro e w4 ⟨a4, c4, rfl, hc4, r4, k4⟩; have k14 := k13.trans k4)
    | (go_at_call 11; refine (h11 _ k14).mono ?_; rintro e w5 ⟨a5, c5, rfl, hc5, r5, k5⟩; have k15 := k14.trans k5)
    | (go_at_call 12; refine (h12 _ _ _ _ _ ((r2.keep k3).keep (k4.trans k5)) (r3.keep (k4.trans k5))).mono ?_; rintro e w6 ⟨rfl, k6⟩; have k16 := k15.trans k6)
    | (go_at_call 13; refine (h13 _ _ _ _ _ (r4.keep (k5.trans k6)) (r5.keep k6)).mono ?_; rintro e w7 ⟨rfl, k7⟩; have k17 := k16.trans k7; clear h13)
    | (go_at_call 13; refine (h13b _ _ _ k17 (r1.keep (((((k2.trans k3).trans k4).trans k5).trans k6).trans k7))).mono ?_; rintro e w8 ⟨rfl, k8⟩; have k18 := k17.trans k8))
  all_goals
    go_ret
    exact ⟨rfl, k18⟩
end Go.Proofs.Ytolfaheabdedpaa
