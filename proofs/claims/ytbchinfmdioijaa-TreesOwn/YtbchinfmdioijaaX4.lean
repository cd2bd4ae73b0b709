import Derived.Test.YtbchinfmdioijaaX2
set_option linter.unusedVariables false
set_option linter.unusedSimpArgs false
namespace Go.Proofs.Ytbchinfmdioijaa
open Go.RowKit Go.Shelf
/-- Whole numbers as cells. -/
def UZ (l : List Int) : List Value := l.map (fun x => Value.int .i64 x)
theorem UZ_length (l : List Int) : (UZ l).length = l.length := by simp [UZ]
theorem UZ_get (l : List Int) (j : Nat) (h : j < l.length) : (UZ l)[j]? = some (.int .i64 (l.getD j 0)) := by simp [UZ, List.getD, h]
theorem UZ_one (l : List Int) : ∀ u ∈ UZ l, u.oneCell' = true := by intro u hu; obtain ⟨_, _, rfl⟩ := List.mem_map.1 hu; rfl
theorem i2 : (Try.prog.info? 2).map (fun i => (i.zero, i.size, i.bytes)) = some (some (.int .i64 0), 1, 8) := by kernel_rfl
/-- A list of whole numbers with memory of its own. -/
def OwnZ (E B : Nat) (w : World) (v : Value) (l : List Int) : Prop := w.ownsRow B E 1 v l.length (UZ l)
theorem OwnZ.same {E B : Nat} {w w' : World} {v : Value} {l : List Int} (h : OwnZ E B w v l) (k : ∀ b, v.ownBlock = some b → w'.heap[b]? = w.heap[b]?) : OwnZ E B w' v l := by
  refine ⟨h.1, ?_⟩
  rcases h.2 with h2 | ⟨g, cap, cur, hv, hg, hh, r⟩
  · exact .inl h2
  · exact .inr ⟨g, cap, cur, hv, hg, by rw [k g (by rw [hv]; rfl)]; exact hh, r⟩
theorem OwnZ.block {E B : Nat} {w : World} {v : Value} {l : List Int} (h : OwnZ E B w v l) {b : Nat} (hb : v.ownBlock = some b) : B ≤ b ∧ ∃ cur, w.heap[b]? = some (.cells cur E (0, 0)) := by
  rcases h.2 with ⟨h1, _⟩ | ⟨g, cap, cur, hv, hg, hh, r⟩
  · rw [h1] at hb; cases hb
  · rw [hv] at hb
    have hb : some g = some b := hb
    simp only [Option.some.injEq] at hb
    subst hb
    exact ⟨hg, cur, hh⟩
theorem OwnZ.keep {E B : Nat} {w w' : World} {v : Value} {l : List Int} (h : OwnZ E B w v l) (k : Keep w w') : OwnZ E B w' v l :=
  h.same (fun b hb => by obtain ⟨_, cur, hh⟩ := h.block hb; exact k.block b (Array.getElem?_eq_some_iff.1 hh).1)
theorem OwnZ.mono {E B B' : Nat} {w : World} {v : Value} {l : List Int} (h : OwnZ E B w v l) (hB : B' ≤ B) : OwnZ E B' w v l := by
  refine ⟨h.1, ?_⟩
  rcases h.2 with h2 | ⟨g, cap, cur, hv, hg, r⟩
  · exact .inl h2
  · exact .inr ⟨g, cap, cur, hv, by omega, r⟩
theorem OwnZ.nil (E B : Nat) (w : World) : OwnZ E B w (.slice none 0 0) [] := ⟨rfl, .inl ⟨rfl, rfl⟩⟩
theorem OwnZ.shape {E B : Nat} {w : World} {v : Value} {l : List Int} (h : OwnZ E B w v l) : ∃ a c, v = .slice a l.length c ∧ l.length ≤ c ∧ RdI w a l := by
  rcases h.2 with ⟨h1, h2⟩ | ⟨g, cap, cur, hv, hg, hh, h1, h2, h3, h4⟩
  · exact ⟨none, 0, by rw [h1, h2], by omega, fun j hj => by omega⟩
  · refine ⟨some ⟨g, 0, none⟩, cap, hv, h1, ?_⟩
    intro j hj
    refine ⟨g, 0, rfl, ?_⟩
    rw [Nat.zero_add, cell_of_row w g j cur E (0, 0) hh, ← UZ_get l j hj, ← h4]
    simp [hj]
/-- A cell written over. -/
theorem OwnZ.set {E B : Nat} {w : World} {g c : Nat} {l : List Int} (h : OwnZ E B w (.slice (some ⟨g, 0, none⟩) l.length c) l) (j : Nat) (hj : j < l.length) (x : Int) : OwnZ E B (w.setCell ⟨g, j, none⟩ (.int .i64 x)) (.slice (some ⟨g, 0, none⟩) l.length c) (l.set j x) ∧ w.frozen? ⟨g, j, none⟩ = false := by
  rcases h.2 with ⟨h1, h2⟩ | ⟨g', cap, cur, hv, hg, hh, h1, h2, h3, h4⟩
  · cases h1
  · simp only [Value.slice.injEq, Option.some.injEq, Addr.mk.injEq, and_true, true_and] at hv
    obtain ⟨rfl, rfl⟩ := hv
    refine ⟨⟨by simp [UZ], .inr ⟨g, c, cur.setIfInBounds j (.int .i64 x), by simp, hg, heap_setCell_same w g j cur E _ hh, by simpa using h1, h2, by simpa using h3, ?_⟩⟩, frozen_of_row w g j cur E hh⟩
    rw [Array.toList_setIfInBounds]
    simp only [List.length_set, Nat.mul_one] at h4 ⊢
    rw [List.take_set, h4]
    simp [UZ, List.map_set]
/-- append(nil, l...). -/
theorem wpList_copyZ {w : World} {ops : Array Oper} {rest : List Oper} {o : Oper} {a : Act} {Q : Exit → Act → World → Prop} (hgd : o.guard = none) (s x : Operand)
    (ho : o.op = .call { callee := .builtin .append, args := #[s, x], argTypes := #[49, 49] }) (l : List Int) (ad : Addr) (c : Nat) (hs : a.eval s = .slice none 0 0)
    (hx : a.eval x = .slice (some ad) l.length c) (hr : RdI w (some ad) l) (hlen : l.length ≤ 17592186044416)
    (hK : ∀ v w1, OwnZ 2 w.heap.size w1 v l → Keep w w1 → wpList Try.prog ops Q rest (a.put o.dst v) w1) :
    wpList Try.prog ops Q (o :: rest) a w := by
  obtain ⟨i0, hi, hz0, hz1, hz2⟩ := info_parts i2
  refine wpList_append_own _ hgd s x 49 ho w.heap.size 2 i0 (.int .i64 0) 1 8 Try.underlying49 hi hz0 hz1 hz2 rfl (by decide) _ _ _ hs (OwnZ.nil 2 w.heap.size w) ad l.length c (UZ l) hx (by simp [UZ]) ?_ (UZ_one l) ?_ ?_ ?_ ?_
  · intro j u hj
    have hjl : j < l.length := by have := (List.getElem?_eq_some_iff.1 hj).1; simpa [UZ_length] using this
    rw [UZ_get l j hjl] at hj
    obtain ⟨b', o', e, hc⟩ := hr j hjl
    simp only [Option.some.injEq] at e
    subst e
    rw [Addr.add_lit, hc, hj]
  · simp only [maxLen, List.length_nil]; omega
  · simp only [List.length_nil]; omega
  · exact Nat.le_refl _
  · intro v' w1 h1 h2 _
    refine hK v' w1 ?_ ?_
    · unfold OwnZ; simpa [UZ] using h1
    · refine Below.grown (Keep.refl w) h2 (Nat.le_refl _) ?_
      intro k hk'
      cases hk'
set_option maxRecDepth 100000 in
theorem copyZ_any (a : Option Addr) (c : Nat) (l : List Int) (w : World) (hl : l.length ≤ 17592186044416) (hlc : l.length ≤ c) (hr : RdI w a l) :
    Calls Try.prog 61 #[.slice a l.length c] w fun e w' => ∃ v, e = .returned v ∧ OwnZ 2 w.heap.size w' v l ∧ Keep w w' := by
  rcases a with _ | ad
  · obtain rfl : l = [] := by
      by_cases h : l = []
      · exact h
      · obtain ⟨b, o, e, -⟩ := hr 0 (List.length_pos_iff.2 h); cases e
    go_enter Try.func61, Try.ntmps61
    go_wp2_with fail
    go_ret
    exact ⟨_, rfl, OwnZ.nil _ _ _, Keep.refl _⟩
  · go_enter Try.func61, Try.ntmps61
    go_wp2_with (at_builtin; refine wpList_copyZ rfl _ _ rfl l ad c ?_ ?_ hr hl ?_; rotate_left 2; intro v w1 h1 k1)
    go_ret
    exact ⟨_, rfl, h1, k1⟩
    all_goals rfl
/-- append(nil, l...). -/
theorem wpList_copyN {w : World} {ops : Array Oper} {rest : List Oper} {o : Oper} {a : Act} {Q : Exit → Act → World → Prop} (hgd : o.guard = none) (s x : Operand)
    (ho : o.op = .call { callee := .builtin .append, args := #[s, x], argTypes := #[29, 29] }) (l : List Int) (ad : Addr) (c : Nat) (hs : a.eval s = .slice none 0 0)
    (hx : a.eval x = .slice (some ad) l.length c) (hr : RdI w (some ad) l) (hlen : l.length ≤ 17592186044416)
    (hK : ∀ v w1, OwnZ 3 w.heap.size w1 v l → Keep w w1 → wpList Try.prog ops Q rest (a.put o.dst v) w1) :
    wpList Try.prog ops Q (o :: rest) a w := by
  obtain ⟨i0, hi, hz0, hz1, hz2⟩ := info_parts i3
  refine wpList_append_own _ hgd s x 29 ho w.heap.size 3 i0 (.int .i64 0) 1 8 Try.underlying29 hi hz0 hz1 hz2 rfl (by decide) _ _ _ hs (OwnZ.nil 3 w.heap.size w) ad l.length c (UZ l) hx (by simp [UZ]) ?_ (UZ_one l) ?_ ?_ ?_ ?_
  · intro j u hj
    have hjl : j < l.length := by have := (List.getElem?_eq_some_iff.1 hj).1; simpa [UZ_length] using this
    rw [UZ_get l j hjl] at hj
    obtain ⟨b', o', e, hc⟩ := hr j hjl
    simp only [Option.some.injEq] at e
    subst e
    rw [Addr.add_lit, hc, hj]
  · simp only [maxLen, List.length_nil]; omega
  · simp only [List.length_nil]; omega
  · exact Nat.le_refl _
  · intro v' w1 h1 h2 _
    refine hK v' w1 ?_ ?_
    · unfold OwnZ; simpa [UZ] using h1
    · refine Below.grown (Keep.refl w) h2 (Nat.le_refl _) ?_
      intro k hk'
      cases hk'
set_option maxRecDepth 100000 in
theorem copyN_any (a : Option Addr) (c : Nat) (l : List Int) (w : World) (hl : l.length ≤ 17592186044416) (hlc : l.length ≤ c) (hr : RdI w a l) :
    Calls Try.prog 83 #[.slice a l.length c] w fun e w' => ∃ v, e = .returned v ∧ OwnZ 3 w.heap.size w' v l ∧ Keep w w' := by
  rcases a with _ | ad
  · obtain rfl : l = [] := by
      by_cases h : l = []
      · exact h
      · obtain ⟨b, o, e, -⟩ := hr 0 (List.length_pos_iff.2 h); cases e
    go_enter Try.func83, Try.ntmps83
    go_wp2_with fail
    go_ret
    exact ⟨_, rfl, OwnZ.nil _ _ _, Keep.refl _⟩
  · go_enter Try.func83, Try.ntmps83
    go_wp2_with (at_builtin; refine wpList_copyN rfl _ _ rfl l ad c ?_ ?_ hr hl ?_; rotate_left 2; intro v w1 h1 k1)
    go_ret
    exact ⟨_, rfl, h1, k1⟩
    all_goals rfl
end Go.Proofs.Ytbchinfmdioijaa
set_option linter.unusedVariables false
set_option linter.unusedSimpArgs false
namespace Go.Proofs.Ytbchinfmdioijaa
open Go.RowKit Go.Shelf
/-- Trees that can be read. -/
def RdT (w : World) (a : Option Addr) (ts : List (Int × List Nd)) : Prop :=
  ∀ j, j < ts.length → ∃ b o na nc, a = some ⟨b, o, none⟩ ∧ w.cell? ⟨b, o + j * 2, none⟩ = some (.int .i64 (ts.getD j (0, [])).1) ∧ w.cell? ⟨b, o + j * 2 + 1, none⟩ = some (.slice na (ts.getD j (0, [])).2.length nc) ∧ RdN w na (ts.getD j (0, [])).2 ∧ (ts.getD j (0, [])).2.length ≤ nc ∧ (ts.getD j (0, [])).2.length ≤ 2199023255552 ∧ (-9223372036854775808 ≤ (ts.getD j (0, [])).1 ∧ (ts.getD j (0, [])).1 ≤ 9223372036854775807)
theorem RdT.keep {w w' : World} {a : Option Addr} {ts : List (Int × List Nd)} (h : RdT w a ts) (k : Keep w w') : RdT w' a ts := by
  intro j hj
  obtain ⟨b, o, na, nc, e, h1, h2, h3, h4⟩ := h j hj
  exact ⟨b, o, na, nc, e, k.cell h1, k.cell h2, h3.keep k, h4⟩
/-- What trees add up to, each for its output. -/
def scF (N : Int) (xs : List Nat) : List (Int × List Nd) → List Int → List Int × Int
  | [], s => (s, 0)
  | t :: ts, s => if woE t.2 t.1 N xs.length = 0 then scF N xs ts (s.set t.1.toNat (wrap64 (s.getD t.1.toNat 0 + woV t.2 t.1 N xs))) else ([], woE t.2 t.1 N xs.length)
def scS (F : Nat) (N : Int) (base : List Int) (ts : List (Int × List Nd)) (xs : List Nat) : List Int × Int :=
  if N < 1 ∨ (base.length : Int) ≠ N then ([], 6) else if xs.length ≠ F then ([], 72) else scF N xs ts base
theorem woE_ok {L : List Nd} {out N : Int} {m : Nat} (h : woE L out N m = 0) : shE L = 0 ∧ 0 ≤ out ∧ out < N ∧ lackB L m = false := by
  unfold woE at h
  split at h
  · rename_i h0
    split at h
    · cases h
    · rename_i h1
      refine ⟨h0, by omega, by omega, ?_⟩
      cases hl : lackB L m
      · rfl
      · rw [hl] at h; cases h
  · contradiction
theorem drop_one {α : Type} (l : List α) (k : Nat) (d : α) (h : k < l.length) : l.drop k = l.getD k d :: l.drop (k + 1) := by
  rw [List.drop_eq_getElem_cons h]; simp [List.getD, h]
/-- An ensemble as a value. -/
def ens (nm : ByteArray) (fa : Option Addr) (F cf : Nat) (N : Int) (ba : Option Addr) (bl cb : Nat) (ta : Option Addr) (tl ct : Nat) : Value := .agg #[.string nm, .slice fa F cf, .int .i64 N, .slice ba bl cb, .slice ta tl ct]
set_option maxRecDepth 100000 in
set_option maxHeartbeats 1000000 in
theorem Score_any (nm : ByteArray) (fa : Option Addr) (F cf : Nat) (N : Int) (ba : Option Addr) (base : List Int) (cb : Nat) (ta : Option Addr) (ts : List (Int × List Nd)) (ct : Nat) (ax : Option Addr) (xs : List Nat) (cx : Nat) (w : World)
    (hb : RdI w ba base) (hbc : base.length ≤ cb) (hbl : base.length ≤ 17592186044416) (ht : RdT w ta ts) (htl : ts.length ≤ 17592186044416) (hx : RdF w ax xs) (hxl : xs.length ≤ 17592186044416) (hF : F ≤ 17592186044416) :
    Calls Try.prog 29 #[ens nm fa F cf N ba base.length cb ta ts.length ct, .slice ax xs.length cx] w fun e w' => ∃ v, e = .returned (.tuple #[v, .int .i64 (scS F N base ts xs).2]) ∧ OwnZ 2 w.heap.size w' v (scS F N base ts xs).1 ∧ Keep w w' := by
  unfold ens
  have k0 : Keep w (w.alloc (Obj.cells #[Value.string nm, Value.slice fa F cf, Value.int IntKind.i64 N, Value.slice ba base.length cb, Value.slice ta ts.length ct] 52)) := (Keep.refl w).alloc _
  by_cases h1 : N < 1
  · have HR : Hid (scS F N base ts xs = ([], 6)) := by show _ = _; unfold scS; rw [if_pos (.inl h1)]
    have h2 : decide (N < 1) = true := by simpa using h1
    go_enter Try.func29, Try.ntmps29
    go_wp2_with fail
    go_ret2
    rw [HR.out]
    exact ⟨_, rfl, OwnZ.nil _ _ _, k0⟩
  · have h2 : decide (N < 1) = false := by simpa using h1
    by_cases h3 : (base.length : Int) ≠ N
    · have HR : Hid (scS F N base ts xs = ([], 6)) := by show _ = _; unfold scS; rw [if_pos (.inr h3)]
      have h4 : ((base.length : Int) == N) = false := by simpa using h3
      have h5 : ((base.length : Int) != N) = true := by simpa using h3
      clear h3
      go_enter Try.func29, Try.ntmps29
      go_wp2_with fail
      go_ret2
      rw [HR.out]
      exact ⟨_, rfl, OwnZ.nil _ _ _, k0⟩
    · have h3' : (base.length : Int) = N := by simpa using h3
      subst h3'
      clear h3
      by_cases h4 : xs.length ≠ F
      · have HR : Hid (scS F base.length base ts xs = ([], 72)) := by show _ = _; unfold scS; rw [if_neg (by omega), if_pos h4]
        have h5 : ((xs.length : Int) == (F : Int)) = false := by rw [beq_eq_false_iff_ne]; omega
        have h6 : ((xs.length : Int) != (F : Int)) = true := by simp; omega
        clear h4
        go_enter Try.func29, Try.ntmps29
        go_wp2_with fail
        go_ret2
        rw [HR.out]
        exact ⟨_, rfl, OwnZ.nil _ _ _, k0⟩
      · have h4' : xs.length = F := by omega
        subst h4'
        clear h4 hF
        have HR : Hid (scS xs.length base.length base ts xs = scF base.length xs ts base) := by show _ = _; unfold scS; rw [if_neg (by omega), if_neg (by simp)]
        have hC := fun (wx : World) (k : Keep w wx) => copyZ_any ba cb base wx hbl hbc (hb.keep k)
        obtain ⟨w1, hw1⟩ : ∃ w1, w.alloc (Obj.cells #[Value.string nm, Value.slice fa xs.length cf, Value.int IntKind.i64 base.length, Value.slice ba base.length cb, Value.slice ta ts.length ct] 52) = w1 := ⟨_, rfl⟩
        have cN : w1.cell? ⟨w.heap.size, 2, none⟩ = some (.int .i64 (base.length : Nat)) := by rw [← hw1, cell_of_row _ _ 2 _ 52 (0, 0) (heap_alloc_new w _)]; rfl
        have cT : w1.cell? ⟨w.heap.size, 4, none⟩ = some (.slice ta ts.length ct) := by rw [← hw1, cell_of_row _ _ 4 _ 52 (0, 0) (heap_alloc_new w _)]; rfl
        replace hw1 : Hid _ := hw1
        go_enter Try.func29, Try.ntmps29
        go_wp2_with fail
        rw [hw1.out]
        rw [hw1.out] at k0
        refine (hC _ k0).mono ?_
        rintro e w2 ⟨v, rfl, hO, k2⟩
        have cN := k2.cell cN
        have cT := k2.cell cT
        have k02 := k0.trans k2
        have kb := k0.le
        have hO := hO.mono kb
        obtain ⟨av, cv, rfl, hcv, hrv⟩ := hO.shape
        have hbx : w2.heap[w.heap.size]? = some (Obj.cells #[Value.string nm, Value.slice fa xs.length cf, Value.int IntKind.i64 base.length, Value.slice ba base.length cb, Value.slice ta ts.length ct] 52 (0, 0)) := by
          rw [k2.block _ (by rw [← hw1.out]; simp), ← hw1.out]; exact heap_alloc_new w _
        obtain ⟨b0, o0, ea, -⟩ := hrv 0 (by omega)
        subst ea
        obtain ⟨g, ea⟩ : ∃ g, (⟨b0, o0, none⟩ : Addr) = ⟨g, 0, none⟩ := by
          rcases hO.2 with ⟨h, _⟩ | ⟨g, cap, cur, hv, _⟩
          · cases h
          · simp only [Value.slice.injEq, Option.some.injEq] at hv
            exact ⟨g, hv.1⟩
        rw [ea] at hO ⊢
        have hz : w.heap.size < w2.heap.size := (Array.getElem?_eq_some_iff.1 hbx).1
        clear hC hw1 k0 k2 h2 hrv ea cN
        go_wp2_with fail
        clear cT
        go_loopw [34] (fun iv wr => ∃ (k : Nat) (s : List Int), k ≤ ts.length ∧ iv = .int .i64 k ∧ s.length = base.length ∧ OwnZ 2 w.heap.size wr (.slice (some ⟨g, 0, none⟩) base.length cv) s ∧ Keep w wr ∧ wr.heap[w.heap.size]? = some (Obj.cells #[Value.string nm, Value.slice fa xs.length cf, Value.int IntKind.i64 base.length, Value.slice ba base.length cb, Value.slice ta ts.length ct] 52 (0, 0)) ∧ Hid (scF base.length xs ts base = scF base.length xs (ts.drop k) s)) (fun iv _ => ts.length - (intOf iv).toNat)
        case atStart => exact ⟨0, base, by omega, rfl, rfl, hO, k02, hbx, rfl⟩
        case round =>
          obtain ⟨k, s, hk, rfl, hsl, hO, kw, hbx, hsc⟩ := hrel
          clear k02
          by_cases hkl : k < ts.length
          · have hkc : (k : Int) < (ts.length : Int) := by omega
            obtain ⟨b, o, na, nc, rfl, d0, d1, dn, dc, dl, df⟩ := (ht.keep kw) k hkl
            have hW := fun (wx : World) (kx : Keep wr wx) => worth_any na ax nc cx (ts.getD k (0, [])).1 (base.length : Nat) (ts.getD k (0, [])).2 xs dl hxl wx (dn.keep kx) ((hx.keep kw).keep kx)
            have hst : scF base.length xs (ts.drop k) s = if woE (ts.getD k (0, [])).2 (ts.getD k (0, [])).1 base.length xs.length = 0 then scF base.length xs (ts.drop (k + 1)) (s.set (ts.getD k (0, [])).1.toNat (wrap64 (s.getD (ts.getD k (0, [])).1.toNat 0 + woV (ts.getD k (0, [])).2 (ts.getD k (0, [])).1 base.length xs))) else ([], woE (ts.getD k (0, [])).2 (ts.getD k (0, [])).1 base.length xs.length) := by
              rw [drop_one ts k (0, []) hkl, scF]
            have cN : wr.cell? ⟨w.heap.size, 2, none⟩ = some (.int .i64 (base.length : Nat)) := by rw [cell_of_row _ _ 2 _ 52 (0, 0) hbx]; rfl
            have hwo := @woE_ok (ts.getD k (0, [])).2 (ts.getD k (0, [])).1 (base.length : Nat) xs.length
            generalize hE : woE (ts.getD k (0, [])).2 (ts.getD k (0, [])).1 base.length xs.length = E at hW hst hwo
            generalize hV : woV (ts.getD k (0, [])).2 (ts.getD k (0, [])).1 base.length xs = V at hW hst
            generalize (ts.getD k (0, [])).1 = ot at *
            generalize (ts.getD k (0, [])).2 = L at *
            clear hE hV
            have kx : Keep wr (wr.alloc (Obj.cells #[Value.int IntKind.i64 ot, Value.slice na L.length nc] 24)) := (Keep.refl wr).alloc _
            have cN' := kx.cell cN
            have tb0 : (wr.alloc (Obj.cells #[Value.int IntKind.i64 ot, Value.slice na L.length nc] 24)).cell? ⟨wr.heap.size, 0, none⟩ = some (.int .i64 ot) := by rw [cell_of_row _ _ 0 _ 24 (0, 0) (heap_alloc_new wr _)]; rfl
            have hWx := hW _ kx
            clear hW
            by_cases hE0 : E = 0
            · subst hE0
              obtain ⟨-, hot0, hot1, -⟩ := hwo rfl
              obtain ⟨u, rfl⟩ := Int.eq_ofNat_of_zero_le hot0
              rw [if_pos rfl] at hst
              have hub : u < base.length := by omega
              clear hwo hot0 hot1
              go_wp2_with fail
              generalize wr.alloc _ = w4 at kx tb0 hWx ⊢
              refine hWx.mono ?_
              rintro e w5 ⟨rfl, k5⟩
              have tb5 := k5.cell tb0
              have k45 := kx.trans k5
              have hO5 := hO.keep k45
              have hbx5 : w5.heap[w.heap.size]? = _ := (k45.block _ (Array.getElem?_eq_some_iff.1 hbx).1).trans hbx
              have kw5 := kw.trans k45
              clear hWx kx tb0 k5 k45 cN cN' d0 d1 dn
              obtain ⟨hgB, cur, hgc⟩ := hO5.block (b := g) rfl
              have hgne : g ≠ w.heap.size := by
                intro e
                rw [e, hbx5] at hgc
                simp at hgc
              obtain ⟨_, _, he, _, hrd5⟩ := hO5.shape
              simp only [Value.slice.injEq, Option.some.injEq] at he
              obtain ⟨rfl, -, -⟩ := he
              obtain ⟨b', o', eb, hcu⟩ := hrd5 u (by omega)
              simp only [Option.some.injEq, Addr.mk.injEq, and_true] at eb
              obtain ⟨rfl, rfl⟩ := eb
              rw [← hsl] at hO5
              obtain ⟨hset, hfz⟩ := hO5.set u (by omega) (wrap64 (s.getD u 0 + V))
              rw [Nat.zero_add] at hcu
              generalize hsu : s.getD u 0 = su at hcu hset
              rw [show (u : Int).toNat = u from rfl, hsu] at hst
              replace hst : Hid _ := hst
              have hub' : (u : Int) < (base.length : Int) := by omega
              clear hrd5 hO hO5 hsu
              rw [hsl] at hset
              go_wp2_with fail
              refine ⟨⟨k + 1, s.set u (wrap64 (su + V)), by omega, by go_num, by simp [hsl], hset, kw5.setCell hgB _, ?_, ?_⟩, by simp [intOf]; omega⟩
              · rw [neq_set w5 g u _ w.heap.size (fun e => hgne e.symm)]; exact hbx5
              · show _ = _
                rw [hsc.out, hst.out]
            · have hB : (E == 0) = false := by simpa using hE0
              have hB2 : (E != 0) = true := by simpa using hE0
              have HF : Hid (scF base.length xs ts base = ([], E)) := by show _ = _; rw [hsc.out, hst, if_neg hE0]
              clear hst hwo hsc hE0
              go_wp2_with fail
              generalize wr.alloc _ = w4 at kx tb0 hWx ⊢
              refine hWx.mono ?_
              rintro e w5 ⟨rfl, k5⟩
              go_wp2_with fail
              go_ret2
              rw [HR.out, HF.out]
              exact ⟨_, rfl, OwnZ.nil _ _ _, kw.trans (kx.trans k5)⟩
          · have hkc : ¬ (k : Int) < (ts.length : Int) := by omega
            have HF : Hid (scF base.length xs ts base = (s, 0)) := by show _ = _; rw [hsc.out, List.drop_eq_nil_of_le (by omega)]; rfl
            clear hsc
            go_wp2_with fail
            go_ret2
            rw [HR.out, HF.out]
            exact ⟨_, rfl, hO, kw⟩
end Go.Proofs.Ytbchinfmdioijaa
