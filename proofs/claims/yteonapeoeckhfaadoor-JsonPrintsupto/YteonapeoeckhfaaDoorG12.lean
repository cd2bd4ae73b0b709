import Derived.Test.YteonapeoeckhfaaDoorG11
import Derived.Lib.AppendZeros
set_option linter.unusedVariables false
set_option linter.unusedSimpArgs false
namespace Go.Proofs.YteonapeoeckhfaaDoor
open Go.RowKit
theorem neq_set (W : World) (g j : Nat) (v : Value) : ∀ k, k ≠ g → (W.setCell ⟨g, j, none⟩ v).heap[k]? = W.heap[k]? := fun k hk => Below.heap_setCell _ _ _ _ (by simpa using hk)
theorem own_same {B e s n : Nat} {w w' : World} {v : Value} {l : List Value} (h : w.ownsRow B e s v n l) (k : ∀ b, v.ownBlock = some b → w'.heap[b]? = w.heap[b]?) : w'.ownsRow B e s v n l := by
  refine ⟨h.1, ?_⟩
  rcases h.2 with h2 | ⟨g, cap, cur, hv, hg, hh, r⟩
  · exact .inl h2
  · exact .inr ⟨g, cap, cur, hv, hg, by rw [k g (by rw [hv]; rfl)]; exact hh, r⟩
theorem own_block {B e s n : Nat} {w : World} {v : Value} {l : List Value} (h : w.ownsRow B e s v n l) {b : Nat} (hb : v.ownBlock = some b) : B ≤ b ∧ ∃ cur, w.heap[b]? = some (.cells cur e (0, 0)) := by
  rcases h.2 with ⟨h1, _⟩ | ⟨g, cap, cur, hv, hg, hh, r⟩
  · rw [h1] at hb; cases hb
  · rw [hv] at hb
    have hb : some g = some b := hb
    simp only [Option.some.injEq] at hb
    subst hb
    exact ⟨hg, cur, hh⟩
theorem own_keep {B e s n : Nat} {w w' : World} {v : Value} {l : List Value} (h : w.ownsRow B e s v n l) (k : Keep w w') : w'.ownsRow B e s v n l :=
  own_same h (fun b hb => by obtain ⟨_, cur, hh⟩ := own_block h hb; exact k.block b (Array.getElem?_eq_some_iff.1 hh).1)
theorem appS_sep (B : Nat) (w : World) (ty : Nat) (v : Value) (l : List ByteArray) (y : ByteArray) (hown : OwnS B w v l) (hB : B ≤ w.heap.size) (ad : Addr) (c : Nat) (hnews : w.cell? ad = some (.string y)) (hlen : l.length + 1 ≤ 8796093022208) :
    ∃ v' w', (Builtin.append_ #[24, 24] ty #[v, .slice (some ad) 1 c]).run Tryd.prog w = .ok v' w' ∧ OwnS B w' v' (l ++ [y]) ∧ w.grownBy w' v.ownBlock := by
  obtain ⟨i0, hi, hz0, hz1, hz2⟩ := info_parts i9
  obtain ⟨v', w', hr, h2, h3, -⟩ := run_append_own (P := Tryd.prog) w B 24 ty 9 i0 _ 1 16 Tryd.underlying24 hi hz0 hz1 hz2 rfl (by decide) v _ _ hown ad 1 c (US [y]) (by simp [US]) (by
    intro j u hj
    match j, hj with
    | 0, hj =>
      simp [US] at hj
      subst hj
      simpa [Addr.add] using hnews
    | j + 1, hj => simp [US] at hj) (by intro u hu; obtain ⟨_, _, rfl⟩ := List.mem_map.1 hu; rfl) (by simp only [maxLen]; omega) (by omega) hB
  refine ⟨v', w', hr, ?_, h3⟩
  unfold OwnS; rw [List.length_append, US, List.map_append]; exact h2
theorem step_appS {B : Nat} {W : World} {ops : Array Oper} {o : Oper} {a : Act} {K : Act → World → Prop} {Q : Exit → Act → World → Prop} {E : Prop} (hgd : o.guard = none) (s x : Operand)
    (ho : o.op = .call { callee := .builtin .append, args := #[s, x], argTypes := #[24, 24] }) (l : List ByteArray) (y : ByteArray) (v : Value) (hown : OwnS B W v l) (hB : B ≤ W.heap.size) (hlen : l.length + 1 ≤ 8796093022208) (g : Nat) (hnews : W.cell? ⟨g, 0, none⟩ = some (.string y))
    (hs : a.eval s = v) (hx : a.eval x = .slice (some ⟨g, 0, none⟩) 1 1)
    (hK : ∀ v' w', OwnS B w' v' (l ++ [y]) → W.grownBy w' v.ownBlock → K (a.put o.dst v') w') :
    if Region.wanted o (yielded ops a.tmps) = true then Oper.wp Tryd.prog o a W K Q else E := by
  have hw : Region.wanted o (yielded ops a.tmps) = true := by simp [Region.wanted, hgd]
  rw [if_pos hw]
  obtain ⟨v', w', hr, h2, h3⟩ := appS_sep B W o.type v l y hown hB ⟨g, 0, none⟩ 1 hnews hlen
  unfold Oper.wp execOp
  simp only [ho, resolve, invoke, builtin, Sem.run_bind, Sem.run_pure, Result.andThen_ok, List.map_toArray, List.map_cons, List.map_nil, hs, hx, hr]
  exact hK v' w' h2 h3
theorem news1 (w : World) (y : ByteArray) : (w.alloc (Obj.cells #[.string y] 9)).cell? ⟨w.heap.size, 0, none⟩ = some (.string y) := by
  rw [cell_of_row _ _ _ _ 9 (0, 0) (heap_alloc_new w _)]; rfl
theorem i26 : (Tryd.prog.info? 27).map (fun i => (i.zero, i.size, i.bytes)) = some (some (.agg #[.int .u8 0, .string ByteArray.empty, .slice none 0 0, .slice none 0 0]), 4, 72) := by kernel_rfl
theorem UJ_append (K L : List (Value × Value × Value × Value)) : UJ (K ++ L) = UJ K ++ UJ L := by simp [UJ]
/-- A Json value's four cells. -/
def jc (k : Nat) (t : ByteArray) (an : Option Addr) (n cn : Nat) (ai : Option Addr) (m ci : Nat) : Value × Value × Value × Value := (.int .u8 (k : Nat), .string t, .slice an n cn, .slice ai m ci)
theorem jc_one (k : Nat) (t : ByteArray) (an : Option Addr) (n cn : Nat) (ai : Option Addr) (m ci : Nat) : ∀ u ∈ UJ [jc k t an n cn ai m ci], u.oneCell' = true := by
  intro u hu
  simp only [UJ, jc, List.flatMap_cons, List.flatMap_nil, List.append_nil, List.mem_cons, List.not_mem_nil, or_false] at hu
  rcases hu with rfl | rfl | rfl | rfl <;> rfl
theorem appJ_sep (B : Nat) (w : World) (ty : Nat) (v : Value) (l : List (Value × Value × Value × Value)) (k : Nat) (t : ByteArray) (an : Option Addr) (n cn : Nat) (ai : Option Addr) (m ci : Nat) (hown : OwnJ B w v l) (hB : B ≤ w.heap.size) (ad : Addr) (c : Nat) (hnews : ∀ j u, (UJ [jc k t an n cn ai m ci])[j]? = some u → w.cell? (ad.add j) = some u) (hlen : l.length + 1 ≤ 1954687338268) :
    ∃ v' w', (Builtin.append_ #[25, 25] ty #[v, .slice (some ad) 1 c]).run Tryd.prog w = .ok v' w' ∧ OwnJ B w' v' (l ++ [jc k t an n cn ai m ci]) ∧ w.grownBy w' v.ownBlock ∧ (v'.ownBlock = v.ownBlock ∨ v'.ownBlock = some w.heap.size) := by
  obtain ⟨i0, hi, hz0, hz1, hz2⟩ := info_parts i26
  have h1 := jc_one k t an n cn ai m ci
  have hl : (UJ [jc k t an n cn ai m ci]).length = 1 * 4 := by rw [UJ_len]; rfl
  generalize jc k t an n cn ai m ci = y at *
  obtain ⟨v', w', hr, h2, h3, -⟩ := run_append_own (P := Tryd.prog) w B 25 ty 27 i0 _ 4 72 Tryd.underlying25 hi hz0 hz1 hz2 rfl (by decide) v _ _ hown ad 1 c (UJ [y]) hl hnews h1 (by simp only [maxLen]; omega) (by omega) hB
  refine ⟨v', w', hr, ?_, h3, ?_⟩
  · unfold OwnJ; rw [List.length_append, UJ_append]; exact h2
  rcases hown.2 with ⟨rfl, hn⟩ | ⟨g, cap, cur, rfl, hbg, hg, hnc, hcm, hcs, htake⟩
  · have e := run_append_nil (P := Tryd.prog) w 25 ty 27 i0 _ Tryd.underlying25 hi hz0 ad 1 c (UJ [y]) (by rw [hz1]; exact hl) hnews (by omega) (by omega) (by rw [hz2]; omega)
    rw [hr] at e
    simp only [Result.ok.injEq] at e
    rw [e.1]
    exact .inr rfl
  · by_cases hroom : l.length + 1 ≤ cap
    · have e := run_append_room (P := Tryd.prog) w 25 ty 27 i0 Tryd.underlying25 hi g l.length cap cur hg ad 1 c (UJ [y]) (by rw [hz1]; exact hl) hnews h1 hroom (by rw [hz1, UJ_len]; simp; omega)
      rw [hr] at e
      simp only [Result.ok.injEq] at e
      rw [e.1]
      exact .inl rfl
    · have holds : ∀ j u, (UJ l)[j]? = some u → w.cell? ((⟨g, 0, none⟩ : Addr).add j) = some u := World.ownsRow.cells (v := .slice (some ⟨g, 0, none⟩) l.length cap) hown (g := g) rfl
      have e := run_append_grow (P := Tryd.prog) w 25 ty 27 i0 _ Tryd.underlying25 hi hz0 ⟨g, 0, none⟩ l.length cap (UJ l) (by rw [hz1, UJ_len]) holds ad 1 c (UJ [y]) (by rw [hz1]; exact hl) hnews (by omega) (by omega) (growslice_fits (by omega) (by rw [hz2]; omega))
      rw [hr] at e
      simp only [Result.ok.injEq] at e
      rw [e.1]
      exact .inr rfl
theorem newsJ (W : World) (k : Nat) (t : ByteArray) (an : Option Addr) (n cn : Nat) (ai : Option Addr) (m ci : Nat) : ∀ j u, (UJ [jc k t an n cn ai m ci])[j]? = some u → (W.alloc (Obj.cells #[.int .u8 (k : Nat), .string t, .slice an n cn, .slice ai m ci] 27)).cell? ((⟨W.heap.size, 0, none⟩ : Addr).add j) = some u := by
  intro j u hj
  rw [Go.WideShapes.add_plain, Nat.zero_add, cell_of_row _ _ _ _ 27 (0, 0) (heap_alloc_new W _)]
  simpa [UJ, jc] using hj
theorem step_appJ {B : Nat} {w : World} {ops : Array Oper} {o : Oper} {a : Act} {K : Act → World → Prop} {Q : Exit → Act → World → Prop} {E : Prop} (hgd : o.guard = none) (s x : Operand)
    (ho : o.op = .call { callee := .builtin .append, args := #[s, x], argTypes := #[25, 25] }) (l : List (Value × Value × Value × Value)) (k : Nat) (t : ByteArray) (an : Option Addr) (n cn : Nat) (ai : Option Addr) (m ci : Nat) (v : Value) (hown : OwnJ B w v l) (hB : B ≤ w.heap.size) (hlen : l.length + 1 ≤ 1954687338268)
    (hs : a.eval s = v) (hx : a.eval x = .slice (some ⟨w.heap.size, 0, none⟩) 1 1)
    (hK : ∀ v' w', OwnJ B w' v' (l ++ [jc k t an n cn ai m ci]) → (w.alloc (.cells #[.int .u8 (k : Nat), .string t, .slice an n cn, .slice ai m ci] 27)).grownBy w' v.ownBlock → (v'.ownBlock = v.ownBlock ∨ v'.ownBlock = some (w.heap.size + 1)) → K (a.put o.dst v') w') :
    if Region.wanted o (yielded ops a.tmps) = true then Oper.wp Tryd.prog o a (w.alloc (.cells #[.int .u8 (k : Nat), .string t, .slice an n cn, .slice ai m ci] 27)) K Q else E := by
  have hw : Region.wanted o (yielded ops a.tmps) = true := by simp [Region.wanted, hgd]
  rw [if_pos hw]
  obtain ⟨v', w', hr, h2, h3, h4⟩ := appJ_sep B (w.alloc (.cells #[.int .u8 (k : Nat), .string t, .slice an n cn, .slice ai m ci] 27)) o.type v l k t an n cn ai m ci (own_keep hown ((Keep.refl w).alloc _)) (by rw [World.size_alloc]; omega) ⟨w.heap.size, 0, none⟩ 1 (newsJ w k t an n cn ai m ci) hlen
  unfold Oper.wp execOp
  simp only [ho, resolve, invoke, builtin, Sem.run_bind, Sem.run_pure, Result.andThen_ok, List.map_toArray, List.map_cons, List.map_nil, hs, hx, hr]
  exact hK v' w' h2 h3 (by simpa using h4)
end Go.Proofs.YteonapeoeckhfaaDoor
