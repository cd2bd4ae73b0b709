import Derived.Test.YtgmnadlmejkkpaaDoorD1
import Derived.RangeFuncCalls
set_option linter.unusedVariables false
set_option linter.unusedSimpArgs false
namespace Go.Proofs.YtgmnadlmejkkpaaDoor
open Go.RowKit Go.Shelf
attribute [local go_sem] Oper.semAt_some
theorem back_stops (n : Nat) (hn : 1 ≤ n) (Bs n0 : Nat) (a : Option Addr) (cap : Nat) (l : List Nat) (hl : l.length ≤ 17592186044416) (hw : W64 l) (w : World) (hB : Bs < n0) (hn0 : n0 ≤ w.heap.size)
    (hc : w.cell? ⟨Bs, 0, none⟩ = some (.slice a l.length cap)) (hI : Rb n0 w a l) :
    SeqStopsK Fence.wide n Tryd.prog 71 #[.pointer (some ⟨Bs, 0, none⟩)] encs (Below n0) (fun ys => ys = dn l hl hw 0) (fun pre => ∃ m, m < l.length ∧ pre = dn l hl hw m) l.length w := fun y J Jx W hW _ _ hY h0 => by
  have hW' : Below n0 w W := hW.mono hn0
  refine (back1_in n hn y Bs n0 a cap l hl hw J Jx hY W hB ((hW'.cell (p := ⟨Bs, 0, none⟩) hB).trans hc) (hI.below hW') h0).mono ?_
  rintro e W' ⟨he, hj | ⟨m, hm, hj⟩⟩
  · exact ⟨he, .inl ⟨_, rfl, hj⟩⟩
  · exact ⟨he, .inr ⟨_, ⟨m, hm, rfl⟩, hj⟩⟩
set_option maxHeartbeats 1000000 in
theorem Backward_in (n : Nat) (a : Option Addr) (len cap : Nat) (w : World) :
    CallsIn Fence.wide n Tryd.prog 65 #[.slice a len cap] w fun e w' => e = .returned (.func (.func 71) #[] #[.pointer (some ⟨w.heap.size, 0, none⟩)]) ∧ w' = w.alloc (.cells #[.slice a len cap] 25) := by
  refine callsIn_of_wp Tryd.func65 rfl trivial ?_ rfl
  simp only [Tryd.ntmps65, List.size_toArray, List.length_cons, List.length_nil, Nat.reduceAdd, Nat.reduceSub, Array.replicate_succ, Array.replicate_zero, List.push_toArray, List.append_toArray, List.nil_append, List.cons_append]
  gi_wp2
  go_ret
  exact ⟨rfl, rfl⟩
/-- What Highest answers. -/
def HgP (l : List Nat) (r : Int) : Prop := (r = -1 ∧ ∀ j, j < l.length → l.getD j 0 = 0) ∨ ∃ p, p < l.length ∧ l.getD p 0 ≠ 0 ∧ r = (p : Int) * 64 + (Lib.bitLen (l.getD p 0) : Int) - 1 ∧ ∀ j, p < j → j < l.length → l.getD j 0 = 0
set_option maxRecDepth 100000 in
set_option maxHeartbeats 2000000 in
theorem Highest_in (n : Nat) (hn : 3 ≤ n) (a : Option Addr) (cap : Nat) (l : List Nat) (hl : l.length ≤ 17592186044416) (hw : W64 l) (w : World) (hI : Rd w a l) :
    CallsIn Fence.wide n Tryd.prog 35 #[.slice a l.length cap] w fun e W' => (∃ r, e = .returned (.int .i64 r) ∧ HgP l r) ∧ Below w.heap.size w W' := by
  have h1 : 1 ≤ n := by omega
  refine callsIn_of_wp_marks Tryd.func35 rfl trivial ?_ rfl
  simp only [Tryd.ntmps35, List.size_toArray, List.length_cons, List.length_nil, Nat.reduceAdd, Nat.reduceSub, Array.replicate_succ, Array.replicate_zero, List.push_toArray, List.append_toArray, List.nil_append, List.cons_append]
  gi_wp2_with (refine ⟨trivial, ?_⟩; gi_at_call 65; refine (Backward_in (n - 1) _ _ _ _).mono ?_; rintro e w' ⟨rfl, rfl⟩)

  have bR := Boxed.new w 3 (.int .i64 0)
  have bN := Boxed.new (w.alloc (.cells #[.int .i64 0] 3)) 25 (.slice a l.length cap)
  rw [World.size_alloc] at bN
  have hB0 : Below w.heap.size w ((w.alloc (.cells #[.int .i64 0] 3)).alloc (.cells #[.slice a l.length cap] 25)) := ((Below.refl _ w).alloc (Nat.le_refl _) _).alloc (by simp) _
  have hRb : Rb (w.heap.size + 2) ((w.alloc (.cells #[.int .i64 0] 3)).alloc (.cells #[.slice a l.length cap] 25)) a l := by
    intro j hj
    obtain ⟨b, o, e, hb, hc⟩ := hI.rb.below hB0 j hj
    exact ⟨b, o, e, by omega, hc⟩
  refine wpIn_rangeFunc_ownG rfl h1 (gf := 71) (lb := #[.pointer (some ⟨w.heap.size + 1, 0, none⟩)]) rfl trivial (enters_of Tryd.func71 (by kernel_rfl) rfl)
    (back_stops (n - 1) (by omega) (w.heap.size + 1) (w.heap.size + 2) a cap l hl hw _ (by omega) (by simp) bN.cell hRb) belowK_t (belowK_b (by simp)) (Below.refl _ _) (fun _ => rfl)
    (fun pre W => ((∀ p ∈ pre, p.1.2 = 0) ∧ W.cell? ⟨w.heap.size, 0, none⟩ = some (.int .i64 0) ∧ W.frozen? ⟨w.heap.size, 0, none⟩ = false) ∧ Below w.heap.size w W)
    (fun c pre W => (c = .ret ∧ ∃ ini last, pre = ini ++ [last] ∧ (∀ p ∈ ini, p.1.2 = 0) ∧ last.1.2 ≠ 0 ∧ W.cell? ⟨w.heap.size, 0, none⟩ = some (.int .i64 ((last.1.1 : Int) * 64 + (Lib.bitLen last.1.2 : Int) - 1))) ∧ Below w.heap.size w W)
    (OwnFrom.and (Own.from (fun s A B row hs hg hr => ⟨hs.1, cell_kept hs.2.1 hg hr, (frozen_kept hs.2.1 hg hr).trans hs.2.2⟩) _) (ownFrom_below (Nat.le_refl _) (by simp; omega)))
    (fun c => OwnFrom.and (Own.from (fun s A B row hs hg hr => by obtain ⟨hc, ini, last, e1, e2, e3, e4⟩ := hs; exact ⟨hc, ini, last, e1, e2, e3, cell_kept e4 hg hr⟩) _) (ownFrom_below (Nat.le_refl _) (by simp; omega)))
    ⟨⟨by simp, (bR.alloc _).cell, (bR.alloc _).frozen⟩, hB0⟩
    (fun x => { tmps := #[.slice a l.length cap, undef, .pointer (some ⟨w.heap.size, 0, none⟩), .int .i64 (x.1.1 : Int), .int .u64 (x.1.2 : Int), .slice a l.length cap, .func (.func 71) #[] #[.pointer (some ⟨w.heap.size + 1, 0, none⟩)], .int .i64 (x.1.1 : Int), .int .u64 (x.1.2 : Int), undef, undef, undef, undef, undef, undef, undef, undef], defers := [] }) ?assign ?body ?done ?stop
  case assign =>
    intro l x W K hK
    unfold encs
    gi_wp2
    exact hK
  case body =>
    rintro y pre ⟨⟨p, x⟩, hp1, hp2⟩ W ⟨⟨hp, hcr, hfr⟩, hB⟩ _
    simp only at hp1 hp2 ⊢
    by_cases hx : x = 0
    · subst hx
      gi_wp2
      exact ⟨KeepsFrom.refl _ _, Below.refl _ _, ⟨fun p hp' => (List.mem_append.1 hp').elim (hp p) (fun e => by simp at e; subst e; rfl), hcr, hfr⟩, hB⟩
    · have hx0 : ((x : Int) == 0) = false := by rw [beq_eq_false_iff_ne]; omega
      have hL := fun w => Tryd.bits_Len64 (x : Int) w (by omega) (by omega)
      rw [Int.toNat_natCast] at hL
      have hbl : Lib.bitLen x ≤ 64 := Lib.bitLenAux_le 64 x 64 hp2
      have h12 : 1 ≤ n - 1 - 1 := by omega
      gi_wp2_with fail
      refine ⟨trivial, ?_⟩
      refine (CallsIn.inRound y (callsIn_wide.2 (hL _))).mono ?_
      rintro e w' ⟨rfl, rfl⟩
      gi_wp2_with fail
      have hxx : x ≠ 0 := hx
      refine ⟨(KeepsOthers.setCell _ _ _).from _, ⟨rfl, pre, ⟨(p, x), hp1, hp2⟩, rfl, hp, hxx, World.cell?_setCell_same' _ _ _ (by rw [hcr]; rfl)⟩, hB.setCell (p := ⟨w.heap.size, 0, none⟩) (Nat.le_refl _) _⟩
  case done =>
    rintro D ys W hD rfl ⟨⟨hne, hcr, hfr⟩, hB⟩ hK
    gi_wp2
    have hK' := (KeepsOthers.setCell W ⟨w.heap.size, 0, none⟩ (.int .i64 (-1))).same D _ hK rfl
    refine ⟨by simp, .inl ⟨_, _, rfl, run_takeDeferred hK', ?_⟩⟩
    have hc5 := cell_kept (World.cell?_setCell_same' W ⟨w.heap.size, 0, none⟩ (.int .i64 (-1)) (by rw [hcr]; rfl)) (grownBy_putObj' _ D (.deferred none)) (fun r e => by cases e; exact ⟨_, hK', rfl⟩)
    refine ⟨.int .i64 (-1), ?_, ⟨-1, rfl, .inl ⟨rfl, fun j hj => ?_⟩⟩, (hB.setCell (p := ⟨w.heap.size, 0, none⟩) (Nat.le_refl _) _).trans (belowK_b (w := w) (Nat.le_refl _) _ D _ _ (by simp at hD; omega) hK' rfl rfl)⟩
    · simp [results, Tryd.f35, go_sem, hc5]
    · have := hne (pw l hl hw j) (by
        unfold dn
        rw [List.mem_map]
        exact ⟨l.length - 1 - j, List.mem_range.2 (by omega), by rw [show l.length - 1 - (l.length - 1 - j) = j by omega]⟩)
      exact this
  case stop =>
    rintro D c pre W hD ⟨k, hk, rfl⟩ ⟨⟨rfl, ini, last, e1, e2, e3, hcr⟩, hB⟩ hK
    gi_wp2
    refine ⟨by simp, .inl ⟨_, _, rfl, run_takeDeferred hK, ?_⟩⟩
    have hc5 := cell_kept hcr (grownBy_putObj' _ D (.deferred none)) (fun r e => by cases e; exact ⟨_, hK, rfl⟩)
    rw [dn_step l hl hw k hk] at e1
    obtain ⟨rfl, e5⟩ := List.append_inj' e1 rfl
    obtain rfl : pw l hl hw k = last := by simpa using e5
    refine ⟨.int .i64 ((((pw l hl hw k).1.1 : Nat) : Int) * 64 + (Lib.bitLen (pw l hl hw k).1.2 : Int) - 1), ?_, ⟨_, rfl, .inr ⟨k, hk, e3, ?_, fun j h1 h2 => ?_⟩⟩, hB.trans (belowK_b (w := w) (Nat.le_refl _) W D _ _ (by simp at hD; omega) hK rfl rfl)⟩
    · simp [results, Tryd.f35, go_sem, hc5]
    · unfold pw
      simp only
      rw [show min k (l.length - 1) = k by omega]
    · have := e2 (pw l hl hw j) (by
        unfold dn
        rw [List.mem_map]
        exact ⟨l.length - 1 - j, List.mem_range.2 (by omega), by rw [show l.length - 1 - (l.length - 1 - j) = j by omega]⟩)
      exact this
theorem Highest_any (a : Option Addr) (cap : Nat) (l : List Nat) (hl : l.length ≤ 17592186044416) (hw : W64 l) (w : World) (hI : Rd w a l) :
    Calls Tryd.prog 35 #[.slice a l.length cap] w fun e w' => (∃ r, e = .returned (.int .i64 r) ∧ HgP l r) ∧ Keep w w' :=
  (callsIn_wide (n := 3)).1 (Highest_in 3 (Nat.le_refl _) a cap l hl hw w hI)
end Go.Proofs.YtgmnadlmejkkpaaDoor
