import Derived.Test.YtgmnadlmejkkpaaDoorK1
set_option linter.unusedVariables false
set_option linter.unusedSimpArgs false
namespace Go.Proofs.YtgmnadlmejkkpaaDoor
open Go.RowKit
/-- Runs as cells. -/
def UR : List (Nat × Nat) → List Value
  | [] => []
  | r :: L => .int .i64 (r.1 : Nat) :: .int .i64 (r.2 : Nat) :: UR L
theorem UR_append : ∀ L M, UR (L ++ M) = UR L ++ UR M
  | [], _ => rfl
  | r :: L, M => by simp [UR, UR_append L M]
theorem UR_length : ∀ L, (UR L).length = L.length * 2
  | [] => rfl
  | r :: L => by simp [UR, UR_length L]; omega
theorem UR_get : ∀ (L : List (Nat × Nat)) (j : Nat), j < L.length → (UR L)[2 * j]? = some (.int .i64 ((L.getD j (0, 0)).1 : Nat)) ∧ (UR L)[2 * j + 1]? = some (.int .i64 ((L.getD j (0, 0)).2 : Nat))
  | [], j, h => by simp at h
  | r :: L, 0, _ => by simp [UR]
  | r :: L, j + 1, h => by
    have := UR_get L j (by simpa using h)
    rw [show 2 * (j + 1) = 2 * j + 1 + 1 by omega, show 2 * j + 1 + 1 + 1 = (2 * j + 1) + 1 + 1 by omega]
    simp only [UR, List.getElem?_cons_succ, List.getD_cons_succ]
    exact this
def OwnR (B : Nat) (w : World) (v : Value) (L : List (Nat × Nat)) : Prop := w.ownsRow B 55 2 v L.length (UR L)
theorem OwnR.nil (B : Nat) (w : World) : OwnR B w (.slice none 0 0) [] := ⟨rfl, .inl ⟨rfl, rfl⟩⟩
/-- Runs that can be read. -/
def RdR2 (w : World) (a : Option Addr) (L : List (Nat × Nat)) : Prop :=
  ∀ j, j < L.length → ∃ b o, a = some ⟨b, o, none⟩ ∧ w.cell? ⟨b, o + j * 2, none⟩ = some (.int .i64 ((L.getD j (0, 0)).1 : Nat)) ∧ w.cell? ⟨b, o + j * 2 + 1, none⟩ = some (.int .i64 ((L.getD j (0, 0)).2 : Nat))
theorem RdR2.keep {w w' : World} {a : Option Addr} {L : List (Nat × Nat)} (h : RdR2 w a L) (k : Keep w w') : RdR2 w' a L := by
  intro j hj
  obtain ⟨b, o, e, h1, h2⟩ := h j hj
  exact ⟨b, o, e, k.cell h1, k.cell h2⟩
theorem OwnR.shape {B : Nat} {w : World} {v : Value} {L : List (Nat × Nat)} (h : OwnR B w v L) : ∃ a c, v = .slice a L.length c ∧ L.length ≤ c ∧ RdR2 w a L := by
  rcases h.2 with ⟨h1, h2⟩ | ⟨g, cap, cur, hv, hg, hh, h1, h2, h3, h4⟩
  · exact ⟨none, 0, by rw [h1, h2], by omega, fun j hj => by omega⟩
  · refine ⟨some ⟨g, 0, none⟩, cap, hv, h1, ?_⟩
    intro j hj
    obtain ⟨g1, g2⟩ := UR_get L j hj
    have e1 : cur.toList[2 * j]? = (UR L)[2 * j]? := by rw [← h4, List.getElem?_take, if_pos (by omega)]
    have e2 : cur.toList[2 * j + 1]? = (UR L)[2 * j + 1]? := by rw [← h4, List.getElem?_take, if_pos (by omega)]
    refine ⟨g, 0, rfl, ?_, ?_⟩
    · rw [show 0 + j * 2 = 2 * j by omega, cell_of_row w g _ cur 55 (0, 0) hh, ← g1, ← e1]; simp
    · rw [show 0 + j * 2 + 1 = 2 * j + 1 by omega, cell_of_row w g _ cur 55 (0, 0) hh, ← g2, ← e2]; simp
theorem i55 : (Tryd.prog.info? 55).map (fun i => (i.zero, i.size, i.bytes)) = some (some (.agg #[.int .i64 0, .int .i64 0]), 2, 16) := by kernel_rfl
/-- l = append(l, Run). -/
theorem wpList_appR {w0 wr : World} {ops : Array Oper} {rest : List Oper} {o : Oper} {a : Act} {Q : Exit → Act → World → Prop} (hgd : o.guard = none) (s x : Operand)
    (ho : o.op = .call { callee := .builtin .append, args := #[s, x], argTypes := #[44, 44] }) (L : List (Nat × Nat)) (v : Value) (hs : a.eval s = v) (f t : Nat)
    (hx : a.eval x = .slice (some ⟨wr.heap.size, 0, none⟩) 1 1) (hown : OwnR w0.heap.size wr v L) (hk : Keep w0 wr) (hlen : L.length < 1099511627776)
    (hK : ∀ v' w1, OwnR w0.heap.size w1 v' (L ++ [(f, t)]) → Keep w0 w1 → wpList Tryd.prog ops Q rest (a.put o.dst v') w1) :
    wpList Tryd.prog ops Q (o :: rest) a (wr.alloc (.cells #[.int .i64 (f : Nat), .int .i64 (t : Nat)] 55)) := by
  obtain ⟨i0, hi, hz0, hz1, hz2⟩ := info_parts i55
  refine wpList_append_own _ hgd s x 44 ho w0.heap.size 55 i0 (.agg #[.int .i64 0, .int .i64 0]) 2 16 Tryd.underlying44 hi hz0 hz1 hz2 rfl (by decide) v _ _ hs (hown.alloc _) ⟨wr.heap.size, 0, none⟩ 1 1 [.int .i64 (f : Int), .int .i64 (t : Int)] hx rfl ?_ ?_ ?_ ?_ ?_ ?_
  · intro j u hj
    match j, hj with
    | 0, hj => simp at hj; subst hj; simp [Addr.add]
    | 1, hj => simp at hj; subst hj; simp [Addr.add]
  · intro u hu; simp at hu; rcases hu with rfl | rfl <;> rfl
  · simp only [maxLen]; omega
  · omega
  · have := hk.le; simp; omega
  · intro v' w1 h1 h2 _
    refine hK v' w1 ?_ ?_
    · unfold OwnR; rw [UR_append]; simpa [UR] using h1
    · refine Below.grown (hk.alloc _) h2 (by have := hk.le; simp; omega) ?_
      intro k hk'
      have := hown.lt k hk'
      exact this.1
/-- Runs one behind the other, up to e. -/
def Ch (L : List (Nat × Nat)) (e : Nat) : Prop := ∀ j, j < L.length → (L.getD j (0, 0)).1 < (L.getD j (0, 0)).2 ∧ (L.getD j (0, 0)).2 ≤ e ∧ (j + 1 < L.length → (L.getD j (0, 0)).2 ≤ (L.getD (j + 1) (0, 0)).1)
/-- They have just the bits of l below k. -/
def Cov (l : List Nat) (L : List (Nat × Nat)) (k : Nat) : Prop := ∀ p, p < k → (hs l p = true ↔ ∃ j, j < L.length ∧ (L.getD j (0, 0)).1 ≤ p ∧ p < (L.getD j (0, 0)).2)
theorem getD_snoc (L : List (Nat × Nat)) (r : Nat × Nat) (j : Nat) : (L ++ [r]).getD j (0, 0) = if j = L.length then r else L.getD j (0, 0) := by
  by_cases h : j < L.length
  · rw [if_neg (by omega)]; simp [List.getD, List.getElem?_append, h]
  · by_cases h2 : j = L.length
    · subst h2; simp [List.getD]
    · rw [if_neg h2]; simp [List.getD, List.getElem?_append, h, show ¬ j - L.length = 0 by omega]
theorem Ch.snoc {L : List (Nat × Nat)} {e f t : Nat} (h : Ch L e) (h1 : e ≤ f) (h2 : f < t) : Ch (L ++ [(f, t)]) t := by
  intro j hj
  rw [List.length_append, List.length_singleton] at hj
  rw [getD_snoc, getD_snoc]
  by_cases hj2 : j = L.length
  · rw [if_pos hj2]
    exact ⟨h2, Nat.le_refl _, fun hh => by rw [List.length_append, List.length_singleton] at hh; omega⟩
  · rw [if_neg hj2]
    obtain ⟨q1, q2, q3⟩ := h j (by omega)
    refine ⟨q1, by omega, fun _ => ?_⟩
    by_cases hj3 : j + 1 = L.length
    · rw [if_pos hj3]; omega
    · rw [if_neg hj3]; exact q3 (by omega)
theorem Cov.snoc {l : List Nat} {L : List (Nat × Nat)} {f t : Nat} (h : Cov l L f) (hc : Ch L f) (h1 : ∀ p, f ≤ p → p < t → hs l p = true) : Cov l (L ++ [(f, t)]) t := by
  intro p hp
  rw [List.length_append, List.length_singleton]
  constructor
  · intro hb
    by_cases hpf : p < f
    · obtain ⟨j, q1, q2, q3⟩ := (h p hpf).1 hb
      exact ⟨j, by omega, by rw [getD_snoc, if_neg (by omega)]; exact q2, by rw [getD_snoc, if_neg (by omega)]; exact q3⟩
    · exact ⟨L.length, by omega, by rw [getD_snoc, if_pos rfl]; show f ≤ p; omega, by rw [getD_snoc, if_pos rfl]; exact hp⟩
  · rintro ⟨j, q1, q2, q3⟩
    rw [getD_snoc] at q2 q3
    by_cases hj : j = L.length
    · rw [if_pos hj] at q2 q3
      exact h1 p q2 hp
    · rw [if_neg hj] at q2 q3
      have := (hc j (by omega)).2.1
      exact (h p (by omega)).2 ⟨j, by omega, q2, q3⟩
theorem Cov.rest {l : List Nat} {L : List (Nat × Nat)} {e k : Nat} (h : Cov l L e) (hc : Ch L e) (h1 : ∀ p, e ≤ p → p < k → hs l p = false) : Cov l L k := by
  intro p hp
  by_cases hpe : p < e
  · exact h p hpe
  · rw [h1 p (by omega) hp]
    constructor
    · intro hh; cases hh
    · rintro ⟨j, q1, q2, q3⟩
      have := (hc j q1).2.1
      omega
set_option maxRecDepth 100000 in
set_option maxHeartbeats 1000000 in
theorem Runs_any (a : Option Addr) (c : Nat) (l : List Nat) (w : World) (hl : l.length ≤ 1048576) (hr : Rd w a l) (hw : W64 l) (hT : Tab w) :
    Calls Tryd.prog 46 #[.slice a l.length c] w fun e w' => ∃ (v : Value) (L : List (Nat × Nat)), e = .returned v ∧ OwnR w.heap.size w' v L ∧ L.length ≤ 64 * l.length ∧ Ch L (64 * l.length) ∧ Cov l L (64 * l.length) ∧ Keep w w' := by
  have hS := fun wx (i : Nat) (b : Bool) (hi : i ≤ 64 * l.length) (k : Keep w wx) => seek_any a c i l b wx (by omega) hi (hr.keep k) hw (hT.keep k)
  have h0 := hS w 0 true (by omega) (Keep.refl _)
  go_enter Tryd.func46, Tryd.ntmps46
  go_wp2_with (go_at_call 70; refine h0.mono ?_; clear h0; rintro e w' ⟨⟨j, rfl, hj⟩, rfl⟩)
  go_loopw [3, 5] (fun v i wr => ∃ (k : Nat) (L : List (Nat × Nat)), i = .int .i64 k ∧ k ≤ 64 * l.length ∧ OwnR w'.heap.size wr v L ∧ Hid (L.length ≤ k ∧ Ch L k ∧ Cov l L k ∧ (k < 64 * l.length → hs l k = true)) ∧ Keep w' wr) (fun _ i _ => 64 * l.length - (intOf i).toNat)
  case atStart => exact ⟨j, [], rfl, hj.2.1, OwnR.nil _ _, ⟨by simp, fun j hj => by simp at hj, Cov.rest (e := 0) (fun p hp => by omega) (fun j hj => by simp at hj) (fun p _ h2 => hj.2.2.1 p (by omega) h2), hj.2.2.2⟩, Keep.refl _⟩
  case round =>
    obtain ⟨k, L, rfl, hk, hown, hinv, hkp⟩ := hrel
    obtain ⟨av, cv, rfl, hcv, -⟩ := hown.shape
    by_cases hkl : k < 64 * l.length
    · have hgt : (k : Int) < (l.length : Int) * 64 := by omega
      have h1 := hS wr k false hk hkp
      have hbd : L.length < 1099511627776 := by have := hinv.out.1; omega
      go_wp2_with first
        | (go_at_call 70; refine h1.mono ?_; clear h1; rintro e w1 ⟨⟨j2, rfl, hj2⟩, rfl⟩)
        | (at_builtin; refine wpList_appR rfl _ _ rfl L _ rfl k j2 rfl hown hkp hbd ?_; intro v' w2 hown' hk')
      have h2 := hS w2 j2 true hj2.2.1 hk'
      refine h2.mono ?_
      rintro e w3 ⟨⟨j3, rfl, hj3⟩, rfl⟩
      obtain ⟨av', cv', rfl, hcv', -⟩ := hown'.shape
      rw [List.length_append, List.length_singleton] at hown'
      have hkj : k < j2 := by
        rcases Nat.lt_or_ge k j2 with h | h
        · exact h
        · have e : j2 = k := by have := hj2.1; omega
          have q := hj2.2.2.2 (by omega)
          rw [e, hinv.out.2.2.2 hkl] at q
          cases q
      have Hnew : Hid ((L ++ [(k, j2)]).length ≤ j3 ∧ Ch (L ++ [(k, j2)]) j3 ∧ Cov l (L ++ [(k, j2)]) j3 ∧ (j3 < 64 * l.length → hs l j3 = true)) := by
        obtain ⟨q1, q2, q3, q4⟩ := hinv.out
        have c1 := q2.snoc (Nat.le_refl _) hkj
        have c2 := q3.snoc q2 (t := j2) (fun p p1 p2 => by have := hj2.2.2.1 p p1 p2; simpa using this)
        refine ⟨by rw [List.length_append, List.length_singleton]; have := hj3.1; omega, ?_, ?_, hj3.2.2.2⟩
        · intro j hj'
          obtain ⟨r1, r2, r3⟩ := c1 j hj'
          exact ⟨r1, by have := hj3.1; omega, r3⟩
        · exact c2.rest c1 (fun p p1 p2 => by have := hj3.2.2.1 p p1 p2; simpa using this)
      have hj23 := hj3.1
      have hj33 := hj3.2.1
      clear hj2 hj3 hinv
      go_wp2_with fail
      go_roundw
      case rel => exact ⟨j3, L ++ [(k, j2)], rfl, hj33, hown', Hnew, hk'⟩
      case measure => simp [intOf]; omega
    · have hge : ¬ (k : Int) < (l.length : Int) * 64 := by omega
      have hke : Hid (k = 64 * l.length) := by show _ = _; omega
      go_wp2_with fail
      go_ret
      refine ⟨_, rfl, L, hown, by have := hinv.out.1; omega, ?_, ?_, hkp⟩
      · rw [← hke.out]; exact hinv.out.2.1
      · rw [← hke.out]; exact hinv.out.2.2.1
end Go.Proofs.YtgmnadlmejkkpaaDoor
