import Derived.Test.YtolfaheabdedpaaO1
import Derived.Test.YtolfaheabdedpaaY2
set_option linter.unusedVariables false
set_option linter.unusedSimpArgs false
namespace Go.Proofs.Ytolfaheabdedpaa
open Go.ChangeShapes Go.WideShapes Go.ChangeAt Go.RowKit
/-- A slice's datum of a length that fits. -/
def Bd {H : Type} (N : Nat) (d : DataW H) : Prop := ∀ el sp, d = .slice el sp → el.length ≤ N
def Bd2 {H : Type} (N M : Nat) (d : DataW H) : Prop := ∀ el sp, d = .slice el sp → el.length ≤ N ∧ ∀ x ∈ el, Bd M x
theorem Sz.bd22 {H : Type} {d : DataW H} (h : Sz 22 d) : Bd2 5864062014634 17592186044416 d := by
  intro el sp e
  subst e
  obtain ⟨h1, h2⟩ := h.slice Try.underlying22
  rw [bytes46] at h1
  simp only [reachBytes] at h1
  refine ⟨by omega, fun x hx el sp e => ?_⟩
  have h3 := h2 x hx
  subst e
  obtain ⟨h4, -⟩ := h3.slice Try.underlying46
  rw [bytes33] at h4
  simp only [reachBytes] at h4
  omega
theorem Sz.bd23 {H : Type} {d : DataW H} (h : Sz 23 d) : Bd2 5864062014634 2199023255552 d := by
  intro el sp e
  subst e
  obtain ⟨h1, h2⟩ := h.slice Try.underlying23
  rw [bytes51] at h1
  simp only [reachBytes] at h1
  refine ⟨by omega, fun x hx el sp e => ?_⟩
  have h3 := h2 x hx
  subst e
  obtain ⟨h4, -⟩ := h3.slice Try.underlying51
  rw [bytes35] at h4
  simp only [reachBytes] at h4
  omega
theorem bulk_pos {H : Type} (d : DataW H) : 1 ≤ Rows.uptoBulk d := by
  cases d with
  | lit l => cases l <;> simp [Rows.uptoBulk]
  | _ => simp [Rows.uptoBulk]
theorem bulk_len {H : Type} : ∀ l : List (DataW H), l.length ≤ Rows.uptoBulkAll l
  | [] => Nat.zero_le _
  | d :: r => by
    have h1 := bulk_pos d
    have h2 := bulk_len r
    simp only [Rows.uptoBulkAll, List.length_cons]
    omega
theorem bulk_mem {H : Type} : ∀ {l : List (DataW H)} {d : DataW H}, d ∈ l → Rows.uptoBulk d ≤ Rows.uptoBulkAll l
  | [], d, h => by simp at h
  | x :: r, d, h => by
    simp only [Rows.uptoBulkAll]
    rcases List.mem_cons.1 h with rfl | h
    · omega
    · have := bulk_mem h; omega
theorem bulk_of {H : Type} {l : List (DataW H)} (h : Rows.uptoSmall H l = true) : Rows.uptoBulkAll l ≤ 1048576 := of_decide_eq_true h
theorem bulk_bd2 {H : Type} {ds : List (DataW H)} (h : Rows.uptoBulkAll ds ≤ 1048576) {j : Nat} {d : DataW H} (hd : ds[j]? = some d) : Bd2 1048576 1048576 d := by
  have h1 := bulk_mem (List.mem_of_getElem? hd)
  intro el sp e
  subst e
  simp only [Rows.uptoBulk] at h1
  have h2 := bulk_len el
  refine ⟨by omega, fun x hx el' sp' e => ?_⟩
  have h3 := bulk_mem hx
  subst e
  simp only [Rows.uptoBulk] at h3
  have h4 := bulk_len el'
  omega
section
variable {H : Type} {enc : TypeId × Value → H} {W : World}
/-- Numbers in a cell, opened. -/
theorem open_row46 {N fuel : Nat} {v : Value} {y : DataW H × List MemPlace} (hf : DataW.trod enc Try.prog W 0 (fun _ => true) true fuel 46 [v] = some y) (hz : Bd N y.1) :
    ∃ a n cap l, v = .slice a n cap ∧ n * 1 = (l : List Nat).length ∧ n ≤ cap ∧ RdF W a l ∧ l.length ≤ N * 1 := by
  rcases Go.Deep.open_slice Try.underlying46 hf with ⟨hcs, _⟩ | ⟨a, len, cap, m, n, D, Pl, hcs, hb, hl, hm, hmm, rfl, hx⟩
  · simp at hcs
    subst hcs
    exact ⟨none, 0, 0, [], rfl, rfl, Nat.le_refl _, by intro j hj; simp at hj, by simp⟩
  · simp at hcs
    subst hcs
    simp only [if_true] at hmm
    subst hmm
    have hs := hz _ _ rfl
    simp only [List.length_map, List.length_range] at hs
    rw [cells33] at hx
    have each : ∀ i, i < len → ∃ q : Nat, W.cell? ⟨a.block, a.off + i, none⟩ = some (.float .f64 q) ∧ a.spot = none := by
      intro i hi
      obtain ⟨cs', h1, h2⟩ := hx i (by omega)
      obtain ⟨cs0, h10, h20⟩ := hx 0 (by omega)
      obtain ⟨-, -, hcell0⟩ := World.cells?_some h10
      obtain ⟨b0, rfl, -⟩ := trod_float Try.underlying33 h20
      have hsp : a.spot = none := by
        have := hcell0 0 (by omega)
        simpa [Addr.add] using World.cell?_spot this
      obtain ⟨-, hlen, hcell⟩ := World.cells?_some h1
      obtain ⟨b1, rfl, -⟩ := trod_float Try.underlying33 h2
      obtain ⟨b, off, sp⟩ := a
      simp only at hsp
      subst hsp
      have := hcell 0 (by omega)
      rw [Go.WideShapes.add_plain, Go.WideShapes.add_plain] at this
      exact ⟨b1, by simpa using this, rfl⟩
    obtain ⟨q, hq⟩ := Go.Deep.choose_lt each
    refine ⟨some a, len, m, (List.range len).map q, rfl, by simp, hl, ?_, by simpa using hs⟩
    intro j hj
    simp only [List.length_map, List.length_range] at hj
    obtain ⟨h1, h2⟩ := hq j hj
    obtain ⟨b, off, sp⟩ := a
    simp only at h2
    subst h2
    refine ⟨b, off, rfl, ?_⟩
    have : ((List.range len).map q).getD j 0 = q j := by simp [List.getD, hj]
    rw [this]
    exact h1
/-- Lanes in a cell, opened. -/
theorem open_row51 {N fuel : Nat} {v : Value} {y : DataW H × List MemPlace} (hf : DataW.trod enc Try.prog W 0 (fun _ => true) true fuel 51 [v] = some y) (hz : Bd N y.1) :
    ∃ a n cap l, v = .slice a n cap ∧ n * 8 = (l : List Nat).length ∧ n ≤ cap ∧ RdF W a l ∧ l.length ≤ N * 8 := by
  rcases Go.Deep.open_slice Try.underlying51 hf with ⟨hcs, _⟩ | ⟨a, len, cap, m, n, D, Pl, hcs, hb, hl, hm, hmm, rfl, hx⟩
  · simp at hcs
    subst hcs
    exact ⟨none, 0, 0, [], rfl, rfl, Nat.le_refl _, by intro j hj; simp at hj, by simp⟩
  · simp at hcs
    subst hcs
    simp only [if_true] at hmm
    subst hmm
    have hs := hz _ _ rfl
    simp only [List.length_map, List.length_range] at hs
    rw [cells35] at hx
    have each : ∀ i, i < len * 8 → ∃ q : Nat, W.cell? ⟨a.block, a.off + i, none⟩ = some (.float .f64 q) ∧ a.spot = none := by
      intro i hi
      obtain ⟨cs', h1, h2⟩ := hx (i / 8) (by omega)
      obtain ⟨cs0, h10, h20⟩ := hx 0 (by omega)
      obtain ⟨-, -, hcell0⟩ := World.cells?_some h10
      obtain ⟨X0, rfl⟩ := open_lane h20
      have hsp : a.spot = none := by
        have := hcell0 0 (by omega)
        simpa [Addr.add] using World.cell?_spot this
      obtain ⟨-, hlen, hcell⟩ := World.cells?_some h1
      obtain ⟨X, rfl⟩ := open_lane h2
      obtain ⟨b, off, sp⟩ := a
      simp only at hsp
      subst hsp
      have := hcell (i % 8) (by omega)
      rw [Go.WideShapes.add_plain, Go.WideShapes.add_plain] at this
      rw [show off + i / 8 * 8 + i % 8 = off + i by omega] at this
      refine ⟨X (i % 8), ?_, rfl⟩
      rw [this]
      have : i % 8 = 0 ∨ i % 8 = 1 ∨ i % 8 = 2 ∨ i % 8 = 3 ∨ i % 8 = 4 ∨ i % 8 = 5 ∨ i % 8 = 6 ∨ i % 8 = 7 := by omega
      rcases this with h | h | h | h | h | h | h | h <;> rw [h] <;> rfl
    obtain ⟨q, hq⟩ := Go.Deep.choose_lt each
    refine ⟨some a, len, m, (List.range (len * 8)).map q, rfl, by simp, hl, ?_, by simp; omega⟩
    intro j hj
    simp only [List.length_map, List.length_range] at hj
    obtain ⟨h1, h2⟩ := hq j hj
    obtain ⟨b, off, sp⟩ := a
    simp only at h2
    subst h2
    refine ⟨b, off, rfl, ?_⟩
    have : ((List.range (len * 8)).map q).getD j 0 = q j := by simp [List.getD, hj]
    rw [this]
    exact h1
/-- Rows of rows in a cell, opened. -/
theorem open_rows {z S E N M : Nat} (hM : M * z ≤ 17592186044416) (hS : Try.prog.underlying S = some (.slice E)) (hE : Try.prog.cellsOf E = 1)
    (hin : ∀ {fuel : Nat} {v : Value} {y : DataW H × List MemPlace}, DataW.trod enc Try.prog W 0 (fun _ => true) true fuel E [v] = some y → Bd M y.1 → ∃ a n cap l, v = .slice a n cap ∧ n * z = (l : List Nat).length ∧ n ≤ cap ∧ RdF W a l ∧ l.length ≤ M * z)
    {fuel : Nat} {v : Value} {y : DataW H × List MemPlace} (hf : DataW.trod enc Try.prog W 0 (fun _ => true) true fuel S [v] = some y) (hz : Bd2 N M y.1) :
    ∃ a cap V, v = .slice a (V : List (List Nat)).length cap ∧ V.length ≤ cap ∧ RdS z W a V ∧ V.length ≤ N := by
  rcases Go.Deep.open_slice hS hf with ⟨hcs, _⟩ | ⟨a, len, cap, m, n, D, Pl, hcs, hb, hl, hm, hmm, rfl, hx⟩
  · simp at hcs
    subst hcs
    exact ⟨none, 0, [], rfl, Nat.le_refl _, by intro j hj; simp at hj, by simp⟩
  · simp at hcs
    subst hcs
    simp only [if_true] at hmm
    subst hmm
    obtain ⟨hs, hd⟩ := hz _ _ rfl
    simp only [List.length_map, List.length_range] at hs
    rw [hE] at hx
    have each : ∀ i, i < len → ∃ q : List Nat, (∃ va n vc, W.cell? ⟨a.block, a.off + i, none⟩ = some (.slice va n vc) ∧ n * z = q.length ∧ n ≤ vc ∧ RdF W va q ∧ q.length ≤ 17592186044416) ∧ a.spot = none := by
      intro i hi
      have one : ∀ k, k < len → ∃ v, W.cell? (a.add (k * 1)) = some v ∧ ∃ va n vc l, v = .slice va n vc ∧ n * z = (l : List Nat).length ∧ n ≤ vc ∧ RdF W va l ∧ l.length ≤ M * z := by
        intro k hk
        obtain ⟨cs', h1, h2⟩ := hx k (by omega)
        obtain ⟨-, hlen, hcell⟩ := World.cells?_some h1
        match cs', hlen with
        | [u], _ =>
          obtain ⟨va, n', vc, l, rfl, r⟩ := hin h2 (hd _ (List.mem_map.2 ⟨k, List.mem_range.2 hk, rfl⟩))
          have := hcell 0 (by omega)
          refine ⟨.slice va n' vc, ?_, va, n', vc, l, rfl, r⟩
          rw [Go.Deep.add_add] at this
          simpa using this
      obtain ⟨v0, h0, -⟩ := one 0 (by omega)
      have hsp : a.spot = none := by
        simpa [Addr.add] using World.cell?_spot h0
      obtain ⟨v1, h1, va, n', vc, l, rfl, r1, r2, r3, r4⟩ := one i hi
      obtain ⟨b, off, sp⟩ := a
      simp only at hsp
      subst hsp
      rw [Go.WideShapes.add_plain, Nat.mul_one] at h1
      exact ⟨l, ⟨va, n', vc, h1, r1, r2, r3, by omega⟩, rfl⟩
    obtain ⟨q, hq⟩ := Go.Deep.choose_lt each
    refine ⟨some a, m, (List.range len).map q, by simp, by simpa using hl, ?_, by simpa using hs⟩
    intro j hj
    simp only [List.length_map, List.length_range] at hj
    obtain ⟨⟨va, n', vc, h1, r⟩, h2⟩ := hq j hj
    obtain ⟨b, off, sp⟩ := a
    simp only at h2
    subst h2
    have e : ((List.range len).map q).getD j [] = q j := by simp [List.getD, hj]
    rw [e]
    exact ⟨b, off, va, n', vc, rfl, h1, r⟩
theorem arg_vecs' {N M base : Nat} (hM : M * 1 ≤ 17592186044416) {v : Value} {d : DataW H} {p : List MemPlace} (hv : Value.okWide Try.prog W .any base 22 v) (h : DataW.Trod enc Try.prog W 0 (fun _ => true) true 22 v d p) (hz : Bd2 N M d) :
    ∃ a cap V, v = .slice a (V : List (List Nat)).length cap ∧ V.length ≤ cap ∧ RdS 1 W a V ∧ V.length ≤ N := by
  obtain ⟨a, len, cap, rfl⟩ := okWide_slice Try.underlying22 hv
  obtain ⟨fuel, hf⟩ := h
  exact open_rows hM Try.underlying22 cells46 (fun h hb => open_row46 h hb) hf hz
theorem arg_groups' {N M base : Nat} (hM : M * 8 ≤ 17592186044416) {v : Value} {d : DataW H} {p : List MemPlace} (hv : Value.okWide Try.prog W .any base 23 v) (h : DataW.Trod enc Try.prog W 0 (fun _ => true) true 23 v d p) (hz : Bd2 N M d) :
    ∃ a cap V, v = .slice a (V : List (List Nat)).length cap ∧ V.length ≤ cap ∧ RdS 8 W a V ∧ V.length ≤ N := by
  obtain ⟨a, len, cap, rfl⟩ := okWide_slice Try.underlying23 hv
  obtain ⟨fuel, hf⟩ := h
  exact open_rows hM Try.underlying23 cells51 (fun h hb => open_row51 h hb) hf hz
end
end Go.Proofs.Ytolfaheabdedpaa
