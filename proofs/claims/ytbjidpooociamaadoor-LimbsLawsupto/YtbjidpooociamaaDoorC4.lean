import Derived.Test.YtbjidpooociamaaDoorC3
namespace Go.Proofs.YtbjidpooociamaaDoor
open Go.RowKit Lb
/-- A slice that owns its limbs (made by append). -/
def Own (B : Nat) (w : World) (v : Value) (l : List Nat) : Prop := w.ownsRow B 62 1 v l.length (U l)
theorem Own.keep {B : Nat} {w w' : World} {v : Value} {l : List Nat} (h : Own B w v l) (k : Keep w w') : Own B w' v l := by
  refine ⟨h.1, ?_⟩
  rcases h.2 with h2 | ⟨g, cap, cur, hv, hg, hh, r⟩
  · exact .inl h2
  · exact .inr ⟨g, cap, cur, hv, hg, by rw [k.block g (Array.getElem?_eq_some_iff.1 hh).1]; exact hh, r⟩
theorem Own.mono {B B' : Nat} {w : World} {v : Value} {l : List Nat} (h : Own B w v l) (hB : B' ≤ B) : Own B' w v l := by
  refine ⟨h.1, ?_⟩
  rcases h.2 with h2 | ⟨g, cap, cur, hv, hg, r⟩
  · exact .inl h2
  · exact .inr ⟨g, cap, cur, hv, by omega, r⟩
theorem Own.shape {B : Nat} {w : World} {v : Value} {l : List Nat} (h : Own B w v l) : ∃ a c, v = .slice a l.length c ∧ l.length ≤ c ∧ Rd w a l := by
  rcases h.2 with ⟨h1, h2⟩ | ⟨g, cap, cur, hv, hg, hh, h1, h2, h3, h4⟩
  · exact ⟨none, 0, by rw [h1, h2], by omega, fun j hj => by omega⟩
  · refine ⟨some ⟨g, 0, none⟩, cap, hv, h1, ?_⟩
    intro j hj
    refine ⟨g, 0, rfl, ?_⟩
    rw [Nat.zero_add, cell_of_row w g j cur 62 (0, 0) hh, ← U_get l j hj, ← h4]
    simp [hj]
theorem Res.own {B : Nat} {w : World} {v : Value} {l : List Nat} (h : Res B w v l) (hl : ∀ a n c, v = .slice a n c → c ≤ maxLen) : Own B w v l := by
  refine ⟨by simp [U], ?_⟩
  rcases h with ⟨rfl, rfl⟩ | ⟨g, r, e, hb, hr, h1, h2⟩
  · exact .inl ⟨rfl, rfl⟩
  · refine .inr ⟨g, r.length, _, e, hb, hr, h1, hl _ _ _ e, by simp [U], ?_⟩
    rw [← h2]; simp [U, List.map_take]
/-- out = append(out, x). -/
theorem wpList_app32 {w0 wr : World} {ops : Array Oper} {rest : List Oper} {o : Oper} {a : Act} {Q : Exit → Act → World → Prop} (hgd : o.guard = none) (s x : Operand)
    (ho : o.op = .call { callee := .builtin .append, args := #[s, x], argTypes := #[22, 22] }) (l : List Nat) (v : Value) (hs : a.eval s = v) (Y : Int) (y : Nat) (hY : Y = (y : Int))
    (hx : a.eval x = .slice (some ⟨wr.heap.size, 0, none⟩) 1 1) (hown : Own w0.heap.size wr v l) (hk : Keep w0 wr) (hlen : l.length < 35184372088832)
    (hK : ∀ v' w1, Own w0.heap.size w1 v' (l ++ [y]) → Keep w0 w1 → wpList Tryd.prog ops Q rest (a.put o.dst v') w1) :
    wpList Tryd.prog ops Q (o :: rest) a (wr.alloc (.cells #[.int .u32 Y] 62)) := by
  obtain ⟨i0, hi, hz0, hz1, hz2⟩ := info_parts i62
  subst hY
  refine wpList_append_own _ hgd s x 22 ho w0.heap.size 62 i0 (.int .u32 0) 1 4 Tryd.underlying22 hi hz0 hz1 hz2 rfl (by decide) v _ _ hs (hown.alloc _) ⟨wr.heap.size, 0, none⟩ 1 1 [.int .u32 (y : Int)] hx rfl ?_ ?_ ?_ ?_ ?_ ?_
  · intro j u hj
    match j, hj with
    | 0, hj => simp at hj; subst hj; simp [Addr.add]
  · intro u hu; simp at hu; subst hu; rfl
  · simp only [maxLen]; omega
  · omega
  · have := hk.le; simp; omega
  · intro v' w1 h1 h2 _
    refine hK v' w1 ?_ ?_
    · unfold Own; simpa [U] using h1
    · refine Below.grown (hk.alloc _) h2 (by have := hk.le; simp; omega) ?_
      intro k hk'
      have := hown.lt k hk'
      exact this.1
theorem take_snoc (l : List Nat) (j : Nat) (h : j < l.length) : l.take (j + 1) = l.take j ++ [l.getD j 0] := by
  rw [List.take_succ_eq_append_getElem h]; simp [List.getD, h]
set_option maxHeartbeats 400000 in
set_option maxRecDepth 100000 in
theorem rNorm_any (a : Option Addr) (c : Nat) (l : List Nat) (w : World) (_hnc : l.length ≤ c) (hl : l.length ≤ 35184372087808) (hr : Rd w a l) :
    Calls Tryd.prog 18 #[.slice a l.length c] w fun e w' => ∃ v, e = .returned v ∧ Own w.heap.size w' v (l.take (nl l)) ∧ Keep w w' := by
  obtain ⟨i0, hi, hz0, hz1, hz2⟩ := info_parts i62
  go_enter Tryd.func18, Tryd.ntmps18
  go_wp2
  go_loop [3] (fun i => ∃ k : Nat, k ≤ l.length ∧ i = .int .i64 k ∧ ∀ j, k ≤ j → l.getD j 0 = 0) (fun i => (intOf i).toNat)
  case atStart => exact ⟨l.length, Nat.le_refl _, rfl, fun j hj => by simp [List.getD, List.getElem?_eq_none hj]⟩
  case round =>
    obtain ⟨k, hk, rfl, hz⟩ := hrel
    by_cases hc0 : 0 < k ∧ l.getD (k - 1) 0 = 0
    · obtain ⟨h0, hx⟩ := hc0
      obtain ⟨b, o, rfl, hc⟩ := hr (k - 1) (by omega)
      rw [hx] at hc
      have Hx : Hid (l.getD (k - 1) 0 = 0) := hx; clear hx
      go_wp2
      go_round
      case rel => exact ⟨k - 1, by omega, by go_num, fun j hj => by
        by_cases e : j = k - 1
        · subst e; exact Hx.out
        · exact hz j (by omega)⟩
      case measure => simp [intOf]; omega
    · have hnl : nl l = k := nl_eq l k hz (fun h h' => hc0 ⟨h, h'⟩)
      have Hnl : Hid (nl l = k) := hnl
      clear hz hnl
      have hex : (0 < k ∧ ∃ b o x, a = some ⟨b, o, none⟩ ∧ x ≠ 0 ∧ w.cell? ⟨b, o + (k - 1), none⟩ = some (.int .u32 (x : Nat))) ∨ k = 0 := by
        by_cases h0 : 0 < k
        · obtain ⟨b, o, e, hc⟩ := hr (k - 1) (by omega)
          exact .inl ⟨h0, b, o, _, e, fun h => hc0 ⟨h0, h⟩, hc⟩
        · exact .inr (by omega)
      clear hc0
      rcases hex with ⟨h0, b, o, x, rfl, hx0, hc⟩ | rfl
      all_goals
        go_wp2
        go_loopw [4, 5] (fun v i wr => ∃ j : Nat, j ≤ nl l ∧ i = .int .i64 j ∧ Own w.heap.size wr v (l.take j) ∧ Keep w wr) (fun _ i _ => nl l - (intOf i).toNat)
        case atStart => exact ⟨0, by omega, rfl, World.ownsRow_nil _ _ _ _, Keep.refl _⟩
        case round =>
          obtain ⟨j, hj, rfl, hown, hkp⟩ := hrel
          rw [Hnl.out] at hj
          first
          | (have hj0 : j = 0 := by omega
             subst hj0
             go_wp2
             go_ret
             exact ⟨_, rfl, by rw [Hnl.out]; exact hown, hkp⟩)
          | (clear hc
             by_cases hjl : j < k
             · obtain ⟨b', o', e', hc'⟩ := hr j (by omega)
               simp only [Option.some.injEq, Addr.mk.injEq, and_true] at e'
               obtain ⟨rfl, rfl⟩ := e'
               have hc2 := hkp.cell hc'
               clear hc'
               obtain ⟨y, hy⟩ : ∃ y, l.getD j 0 = y := ⟨_, rfl⟩
               rw [hy] at hc2
               have Hy : Hid (l.getD j 0 = y) := hy; clear hy
               have hlen : (l.take j).length < 35184372088832 := by simp; omega
               have hle : (l.take j).length = j := by simp; omega
               go_wp2_with (at_builtin; refine wpList_app32 rfl _ _ rfl (l.take j) _ rfl _ y rfl rfl hown hkp hlen ?_; intro v' w1 hown' hk')
               go_roundw
               case rel => exact ⟨j + 1, by rw [Hnl.out]; omega, by go_num, by rw [take_snoc l j (by omega), Hy.out]; exact hown', hk'⟩
               case measure => have := Hnl.out; simp [intOf]; omega
             · go_wp2
               go_ret
               exact ⟨_, rfl, by rw [Hnl.out, show k = j by omega]; exact hown, hkp⟩)
end Go.Proofs.YtbjidpooociamaaDoor
