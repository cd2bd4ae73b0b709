import Derived.Test.YtolfaheabdedpaaY1
set_option linter.unusedVariables false
set_option linter.unusedSimpArgs false
namespace Go.Proofs.Ytolfaheabdedpaa
open Go.RowKit Go.Shelf
theorem Itm.own {B : Nat} {w : World} {v : Value} {l : List Nat} (h : OwnF B w v l) : ∃ a c, v = .slice a l.length c ∧ Itm 1 33 B w (a, l.length, c) l := by
  rcases h.2 with ⟨h1, h2⟩ | ⟨g, cap, cur, hv, hg, hh, h1, h2, h3, h4⟩
  · refine ⟨none, 0, by rw [h1, h2], ⟨by simp, by show l.length ≤ 0; omega, by intro j hj; have : l.length = 0 := h2; omega, by intro p hp; cases hp⟩⟩
  · obtain ⟨a, c, e, hc, hr⟩ := h.shape
    rw [e] at hv
    simp only [Value.slice.injEq, true_and] at hv
    obtain ⟨rfl, rfl⟩ := hv
    refine ⟨_, _, e, ⟨by simp, hc, hr, ?_⟩⟩
    intro p hp
    simp only [Option.some.injEq] at hp
    subst hp
    exact ⟨hg, cur, hh⟩
theorem Itm.mono {z I B B' : Nat} {w : World} {x : Sl} {l : List Nat} (h : Itm z I B w x l) (hB : B' ≤ B) : Itm z I B' w x l :=
  ⟨h.n, h.c, h.rd, fun p hp => ⟨Nat.le_trans hB (h.ty p hp).1, (h.ty p hp).2⟩⟩
theorem list_ext2 {a b : List Nat} (h1 : a.length = b.length) (h2 : ∀ j, j < a.length → a.getD j 0 = b.getD j 0) : a = b := by
  apply List.ext_getElem h1
  intro i h3 h4
  have := h2 i h3
  simpa [List.getD, h3, h4] using this
/-- A copy of vectors, each in memory of its own. -/
theorem isMany_any (d : Int) (w : World) : Calls Try.prog 22 #[.int .i64 d] w fun e w' => e = .returned (.bool (decide (0 ≤ d) && decide (d ≤ 65536))) ∧ w' = w := by
  by_cases h : 0 ≤ d
  · have hd : decide (0 ≤ d) = true := decide_eq_true h
    go_enter Try.func22, Try.ntmps22
    go_wp2_with fail
    go_ret
    exact ⟨by simp [hd], rfl⟩
  · have hd : decide (0 ≤ d) = false := decide_eq_false h
    go_enter Try.func22, Try.ntmps22
    go_wp2_with fail
    go_ret
    exact ⟨by simp [hd], rfl⟩
set_option maxRecDepth 100000 in
set_option maxHeartbeats 1000000 in
theorem copied_any (a : Option Addr) (c : Nat) (V : List (List Nat)) (w : World) (hl : V.length ≤ 5864062014804) (hr : RdS 1 w a V) :
    Calls Try.prog 7 #[.slice a V.length c] w fun e w' => ∃ a' c', e = .returned (.slice a' V.length c') ∧ V.length ≤ c' ∧ RdS 1 w' a' V ∧ Keep w w' := by
  go_enter Try.func7, Try.ntmps7
  go_wp2_with fail
  go_loopw [3, 4] (fun v i wr => ∃ (k : Nat) (K : List Sl), k ≤ V.length ∧ i = .int .i64 k ∧ SI 1 46 33 w K (V.take k) v wr) (fun _ i _ => V.length - (intOf i).toNat)
  case atStart => exact ⟨0, [], by omega, rfl, SI.nil _ _ _ _⟩
  case round =>
    obtain ⟨k, K, hk, rfl, hI⟩ := hrel
    by_cases hkl : k < V.length
    · have hkc : (k : Int) < (V.length : Int) := by omega
      obtain ⟨b, o, va, n, vc, rfl, c1, hn, hnc, hrf, hnl⟩ := (hr.keep hI.k0) k hkl
      obtain rfl : n = (V.getD k []).length := by omega
      have hsn : Hid (V.take (k + 1) = V.take k ++ [V.getD k []]) := by
        show _ = _
        rw [List.take_succ_eq_append_getElem hkl]; simp [List.getD, hkl]
      have hKl : K.length + 1 ≤ 5864062014805 := by rw [hI.kl]; simp; omega
      have hB := hI.k0.le
      have hz : b < wr.heap.size := World.block_lt_of_cell? _ _ c1
      generalize V.getD k [] = l at *
      go_wp2_with (at_builtin; first
        | (refine wpList_copyFe rfl _ _ rfl l va vc _ rfl rfl rfl hrf hnl ?_; intro v1 w1 o1 k1; obtain ⟨a1, c1', rfl, hI1⟩ := Itm.own o1)
        | (refine wpList_appS Try.underlying22 i46 w.heap.size _ rfl _ _ rfl K (a1, l.length, c1') _ rfl (own_keep (own_keep hI.own k1) ((Keep.refl _).alloc _)) (Nat.le_trans hI.k0.le (Nat.le_trans k1.le ((Keep.refl _).alloc _).le)) _ _ rfl (newsS 46 _ (a1, l.length, c1')) hKl ?_; intro v7 w7 o7 g7))
      go_roundw
      case rel => exact ⟨k + 1, _, by omega, by go_num, by rw [hsn.out]; exact hI.next (by decide) (k1.trans ((Keep.refl _).alloc _)) ((hI1.mono hB).keep ((Keep.refl _).alloc _)) o7 g7⟩
      case measure => simp [intOf]; omega
    · have hkc : ¬ (k : Int) < (V.length : Int) := by omega
      obtain rfl : k = V.length := by omega
      rw [List.take_length] at hI
      obtain ⟨a', c', rfl, hc', hr'⟩ := hI.rd (fun i hi => by obtain ⟨_, _, _, _, _, _, _, _, _, _, h⟩ := hr i hi; exact h)
      have kw := hI.k0
      go_wp2_with fail
      go_ret
      exact ⟨a', c', rfl, hc', hr', kw⟩
end Go.Proofs.Ytolfaheabdedpaa
