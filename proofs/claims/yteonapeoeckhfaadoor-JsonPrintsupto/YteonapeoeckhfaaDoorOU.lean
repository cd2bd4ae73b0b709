import Derived.Test.YteonapeoeckhfaaDoorJD
import Derived.Test.YteonapeoeckhfaaDoorShelf
import Derived.Test.YteonapeoeckhfaaDoorCards
import Derived.Test.YteonapeoeckhfaaDoorTie
import Derived.Test.YteonapeoeckhfaaDoorRows
import Derived.Test.YteonapeoeckhfaaDoorChecked
import Derived.ProofKit
import Derived.OpenShut
import Derived.SizedLaws
import Derived.Deep.DeepHandedRow
import Derived.Lib.LaidTab
import Derived.Deep.Slices
import Derived.Laws.Cover2
set_option linter.unusedVariables false
set_option linter.unusedSimpArgs false
namespace Go.Proofs.YteonapeoeckhfaaDoor
open Go.ChangeShapes Go.WideShapes Go.ChangeAt Go.RowKit
theorem own : ownKnob Tryd.prog.godebug = none := by kernel_rfl
theorem laidOut : laidOutB Tryd.prog = true := by kernel_rfl
theorem cells9 : Tryd.prog.cellsOf 9 = 1 := by kernel_rfl
theorem cells23 : Tryd.prog.cellsOf 23 = 1 := by kernel_rfl
theorem cells24 : Tryd.prog.cellsOf 24 = 1 := by kernel_rfl
theorem cells25 : Tryd.prog.cellsOf 25 = 1 := by kernel_rfl
theorem cells27 : Tryd.prog.cellsOf 27 = 4 := by kernel_rfl
theorem bounds_u8 {n : Int} (h : (Lit.int .u8 n).wf = true) : 0 ≤ n ∧ n < 256 := by
  simp only [Lit.wf, IntKind.min, IntKind.max, IntKind.signed, IntKind.bits, Bool.and_eq_true, decide_eq_true_eq] at h
  simp at h
  omega
theorem bulk_of {H : Type} {l : List (DataW H)} (h : Rows.uptoSmall H l = true) : Rows.uptoBulkAll l ≤ 1048576 := of_decide_eq_true h
theorem bulk_pos {H : Type} (d : DataW H) : 1 ≤ Rows.uptoBulk d := by
  cases d with
  | lit l => cases l <;> simp [Rows.uptoBulk]
  | _ => simp [Rows.uptoBulk]
theorem sum_ones (l : List Nat) : (l.map (fun _ : Nat => (1 : Nat))).sum = l.length := by
  induction l with
  | nil => rfl
  | cons x l ih => rw [List.map_cons, List.sum_cons, ih, List.length_cons]; omega
/-- The bulk of a row of data. -/
theorem bulk_sum {H : Type} (D : Nat → DataW H) (f : Nat → Nat) (n : Nat) (h : ∀ i, i < n → f i ≤ Rows.uptoBulk (D i)) : ((List.range n).map f).sum ≤ Rows.uptoBulkAll ((List.range n).map D) := by
  have key : ∀ l : List Nat, (∀ i ∈ l, i < n) → (l.map f).sum ≤ Rows.uptoBulkAll (l.map D) := by
    intro l
    induction l with
    | nil => intro _; simp [Rows.uptoBulkAll]
    | cons x l ih =>
      intro hl
      have h1 := h x (hl x (by simp))
      have h2 := ih (fun i hi => hl i (by simp [hi]))
      simp only [List.map_cons, List.sum_cons, Rows.uptoBulkAll]
      omega
  exact key _ (fun i hi => List.mem_range.1 hi)
theorem IxC_this : IxC := by
  intro ts c wx
  have h := Tryd.strings_IndexByte ⟨ts.toArray⟩ (c.toNat : Int) wx
  have e : ((c.toNat : Int)).toNat.toUInt8 = c := by simp
  rw [e] at h
  exact h
section
variable {H : Type} {enc : TypeId × Value → H} {W : World}
/-- Texts in a cell, opened, and how much they hold. -/
theorem open_texts {fuel : Nat} {v : Value} {y : DataW H × List MemPlace} (hf : DataW.trod enc Tryd.prog W 0 (fun _ => true) true fuel 24 [v] = some y) :
    ∃ a cap l, v = .slice a (l : List ByteArray).length cap ∧ RdS W a l ∧ (l.map (fun t => t.size + 1)).sum + 1 ≤ Rows.uptoBulk y.1 := by
  rcases Go.Deep.open_slice Tryd.underlying24 hf with ⟨hcs, hy⟩ | ⟨a, len, cap, m, n, D, Pl, hcs, hb, hl, hm, hmm, rfl, hx⟩
  · simp at hcs
    subst hcs
    refine ⟨none, 0, [], rfl, by intro j hj; simp at hj, ?_⟩
    rw [hy]
    simp [Rows.uptoBulk]
  · simp at hcs
    subst hcs
    simp only [if_true] at hmm
    subst hmm
    rw [cells9] at hx
    have each : ∀ i, i < len → ∃ q : ByteArray, W.cell? ⟨a.block, a.off + i, none⟩ = some (.string q) ∧ a.spot = none ∧ q.size + 1 ≤ Rows.uptoBulk (D i) := by
      intro i hi
      obtain ⟨cs', h1, h2⟩ := hx i (by omega)
      obtain ⟨cs0, h10, h20⟩ := hx 0 (by omega)
      obtain ⟨-, -, hcell0⟩ := World.cells?_some h10
      obtain ⟨b0, rfl, -⟩ := DataW.trod_string Tryd.underlying9 h20
      have hsp : a.spot = none := by
        have := hcell0 0 (by omega)
        simpa [Addr.add] using World.cell?_spot this
      obtain ⟨-, hlen, hcell⟩ := World.cells?_some h1
      obtain ⟨b1, rfl, hb1, -⟩ := DataW.trod_string Tryd.underlying9 h2
      have hzz : b1.size + 1 ≤ Rows.uptoBulk (D i) := by
        rw [Prod.mk.injEq] at hb1
        rw [hb1.1]
        simp only [Rows.uptoBulk, Array.length_toList]
        exact Nat.le_refl _
      obtain ⟨b, off, sp⟩ := a
      simp only at hsp
      subst hsp
      have := hcell 0 (by omega)
      rw [Go.WideShapes.add_plain, Go.WideShapes.add_plain] at this
      exact ⟨b1, by simpa using this, rfl, hzz⟩
    haveI : Inhabited ByteArray := ⟨ByteArray.empty⟩
    obtain ⟨q, hq⟩ := Go.Deep.choose_lt each
    refine ⟨some a, m, (List.range len).map q, by simp, ?_, ?_⟩
    · intro j hj
      simp only [List.length_map, List.length_range] at hj
      obtain ⟨h1, h2, -⟩ := hq j hj
      obtain ⟨b, off, sp⟩ := a
      simp only at h2
      subst h2
      refine ⟨b, off, rfl, ?_⟩
      have : ((List.range len).map q).getD j ByteArray.empty = q j := by simp [List.getD, hj]
      rw [this]
      exact h1
    · have := bulk_sum D (fun i => (q i).size + 1) len (fun i hi => (hq i hi).2.2)
      rw [List.map_map]
      simp only [Rows.uptoBulk]
      have e : ((fun t : ByteArray => t.size + 1) ∘ q) = fun i => (q i).size + 1 := rfl
      rw [e]
      omega
set_option maxRecDepth 100000 in
/-- A Json value's cells, opened in all their depth. -/
theorem open_json : ∀ (N : Nat) {fuel : Nat} {cs : List Value} {y : DataW H × List MemPlace}, SizeOf.sizeOf y.1 ≤ N → DataW.trod enc Tryd.prog W 0 (fun _ => true) true fuel 27 cs = some y → Rows.uptoBulk y.1 ≤ 1048576 →
    ∃ (j : J) (c0 c1 c2 c3 : Value), cs = [c0, c1, c2, c3] ∧ RdV W (.agg #[c0, c1, c2, c3]) j ∧ blk j ≤ Rows.uptoBulk y.1 := by
  intro N
  induction N with
  | zero =>
    intro fuel cs y hN hf hz
    obtain ⟨xs, m, -, rfl, -⟩ := DataW.trod_struct Tryd.underlying27 hf
    simp at hN
  | succ N ih =>
    intro fuel cs y hN hf hz
    obtain ⟨xs, m, -, rfl, hcs, hxs, hfld⟩ := DataW.trod_struct Tryd.underlying27 hf
    rw [cells27] at hcs
    match cs, hcs with
    | [c0, c1, c2, c3], _ =>
      match xs, hxs with
      | [y0, y1, y2, y3], _ =>
        have t0 : DataW.trod enc Tryd.prog W 0 (fun _ => true) true m 23 [c0] = some y0 := by have h := hfld 0 _ rfl; simpa [cells23] using h
        have t1 : DataW.trod enc Tryd.prog W 0 (fun _ => true) true m 9 [c1] = some y1 := by have h := hfld 1 _ rfl; simpa [cells23, cells9] using h
        have t2 : DataW.trod enc Tryd.prog W 0 (fun _ => true) true m 24 [c2] = some y2 := by have h := hfld 2 _ rfl; simpa [cells23, cells9, cells24] using h
        have t3 : DataW.trod enc Tryd.prog W 0 (fun _ => true) true m 25 [c3] = some y3 := by have h := hfld 3 _ rfl; simpa [cells23, cells9, cells24, cells25] using h
        have hB : Rows.uptoBulk (DataW.agg (List.map (fun x => x.1) [y0, y1, y2, y3])) = Rows.uptoBulk y0.1 + (Rows.uptoBulk y1.1 + (Rows.uptoBulk y2.1 + (Rows.uptoBulk y3.1 + 0))) + 1 := rfl
        have hz' := hz
        simp only [List.map_cons, List.map_nil] at hB hz' ⊢
        rw [hB] at hz' ⊢
        have hN3 : SizeOf.sizeOf y3.1 ≤ N := by
          simp only [List.map_cons, List.map_nil, DataW.agg.sizeOf_spec, List.cons.sizeOf_spec, List.nil.sizeOf_spec] at hN
          omega
        obtain ⟨k0, e0, -, w0⟩ := DataW.trod_int Tryd.underlying23 t0
        obtain ⟨s1, e1, hd1, -⟩ := DataW.trod_string Tryd.underlying9 t1
        obtain ⟨an, cn, ns, e2, hn, hnz⟩ := open_texts t2
        have hs1 : s1.size + 1 ≤ Rows.uptoBulk y1.1 := by
          rw [hd1]
          simp only [Rows.uptoBulk, Array.length_toList]
          exact Nat.le_refl _
        have ln : ns.length ≤ (ns.map (fun t => t.size + 1)).sum := sum_len ns (fun t : ByteArray => t.size + 1) (fun x _ => by omega)
        have e0 : c0 = .int .u8 k0 := by simpa using e0
        have e1 : c1 = .string s1 := by simpa using e1
        subst e0 e1 e2
        have hk0 := bounds_u8 w0
        obtain ⟨k, rfl⟩ : ∃ k : Nat, k0 = k := ⟨k0.toNat, by omega⟩
        have hk : k < 256 := by omega
        rcases Go.Deep.open_slice Tryd.underlying25 t3 with ⟨hc, hy3⟩ | ⟨a, len, cap, m', n, D, Pl, hc, hb, hl, hm, hmm, rfl, hx⟩
        · simp at hc
          subst hc
          refine ⟨.mk k s1 ns [], _, _, _, _, rfl, ?_, ?_⟩
          · exact RdV.mk k s1 ns [] an cn none 0 (fun _ => (.bool false, .bool false, .bool false, .bool false)) hk hn (by omega) (by simp) (fun i hi => by simp at hi) (fun i hi => by simp at hi)
          · rw [blk_eq]
            simp only [List.map_nil, List.sum_nil]
            omega
        · simp at hc
          subst hc
          simp only [if_true] at hmm
          subst hmm
          have hBs : Rows.uptoBulk (DataW.slice (List.map D (List.range len)) (List.map (fun j => D (len + j)) (List.range (m' - len)))) = Rows.uptoBulkAll ((List.range len).map D) + Rows.uptoBulkAll (List.map (fun j => D (len + j)) (List.range (m' - len))) + 1 := rfl
          rw [hBs] at hz' ⊢
          have hlz : len ≤ Rows.uptoBulkAll ((List.range len).map D) := by
            have := bulk_sum D (fun _ => 1) len (fun i _ => bulk_pos (D i))
            rw [sum_ones, List.length_range] at this
            omega
          rw [cells27] at hx
          have hDi : ∀ i, i < len → Rows.uptoBulk (D i) ≤ 1048576 := by
            intro i hi
            have := bulk_sum D (fun j => if j = i then Rows.uptoBulk (D i) else 0) len (fun j _ => by
              show (if j = i then Rows.uptoBulk (D i) else 0) ≤ _
              split
              · next e => subst e; exact Nat.le_refl _
              · exact Nat.zero_le _)
            have e2 := sum_mem (fun j => if j = i then Rows.uptoBulk (D i) else 0) (l := List.range len) (x := i) (List.mem_range.2 hi)
            simp only [if_true] at e2
            omega
          have each : ∀ i, i < len → ∃ q : J × Value × Value × Value × Value, RdV W (.agg #[q.2.1, q.2.2.1, q.2.2.2.1, q.2.2.2.2]) q.1 ∧ blk q.1 ≤ Rows.uptoBulk (D i) ∧ a.spot = none ∧ W.cell? ⟨a.block, a.off + i * 4, none⟩ = some q.2.1 ∧ W.cell? ⟨a.block, a.off + i * 4 + 1, none⟩ = some q.2.2.1 ∧ W.cell? ⟨a.block, a.off + i * 4 + 2, none⟩ = some q.2.2.2.1 ∧ W.cell? ⟨a.block, a.off + i * 4 + 3, none⟩ = some q.2.2.2.2 := by
            intro i hi
            obtain ⟨cs', h1, h2⟩ := hx i (by omega)
            obtain ⟨-, hlen, hcell⟩ := World.cells?_some h1
            have hmem : D i ∈ (List.range len).map D := List.mem_map.2 ⟨i, List.mem_range.2 (by omega), rfl⟩
            have hNi : SizeOf.sizeOf (D i) ≤ N := by
              have h3 := List.sizeOf_lt_of_mem hmem
              simp only [DataW.slice.sizeOf_spec] at hN3
              omega
            obtain ⟨j, q0, q1, q2, q3, rfl, hr, hF⟩ := ih (y := (D i, Pl i)) hNi h2 (hDi i hi)
            have hc0 := hcell 0 (by omega)
            have hc1 := hcell 1 (by omega)
            have hc2 := hcell 2 (by omega)
            have hc3 := hcell 3 (by omega)
            have hsp : a.spot = none := by
              obtain ⟨cs0, h10, h20⟩ := hx 0 (by omega)
              obtain ⟨-, hlen0, hcell0⟩ := World.cells?_some h10
              have hmem0 : D 0 ∈ (List.range len).map D := List.mem_map.2 ⟨0, List.mem_range.2 (by omega), rfl⟩
              have hN0 : SizeOf.sizeOf (D 0) ≤ N := by
                have h3 := List.sizeOf_lt_of_mem hmem0
                simp only [DataW.slice.sizeOf_spec] at hN3
                omega
              obtain ⟨-, q0, q1, q2, q3, rfl, -, -⟩ := ih (y := (D 0, Pl 0)) hN0 h20 (hDi 0 (by omega))
              have := hcell0 0 (by omega)
              simpa [Addr.add] using World.cell?_spot this
            obtain ⟨b, off, sp⟩ := a
            simp only at hsp
            subst hsp
            rw [Go.WideShapes.add_plain, Go.WideShapes.add_plain] at hc0 hc1 hc2 hc3
            exact ⟨(j, q0, q1, q2, q3), hr, hF, rfl, by simpa using hc0, by simpa using hc1, by simpa using hc2, by simpa using hc3⟩
          haveI : Inhabited (J × Value × Value × Value × Value) := ⟨(j0, .bool false, .bool false, .bool false, .bool false)⟩
          obtain ⟨q, hq⟩ := Go.Deep.choose_lt each
          have hg : ∀ i, i < len → ((List.range len).map fun i => (q i).1).getD i j0 = (q i).1 := fun i hi => by simp [List.getD, hi]
          have hll : ((List.range len).map fun i => (q i).1).length = len := by simp
          have hR : RdV W (.agg #[.int .u8 (k : Nat), .string s1, .slice an ns.length cn, .slice (some a) ((List.range len).map fun i => (q i).1).length m']) (.mk k s1 ns ((List.range len).map fun i => (q i).1)) := by
            refine RdV.mk k s1 ns _ an cn (some a) m' (fun i => (q i).2) hk hn (by omega) (by rw [hll]; omega) ?_ ?_
            · intro i hi
              rw [hll] at hi
              obtain ⟨h1, h2, h3, h4, h5, h6, h7⟩ := hq i hi
              obtain ⟨b, off, sp⟩ := a
              simp only at h3
              subst h3
              exact ⟨b, off, rfl, h4, h5, h6, h7⟩
            · intro i hi
              rw [hll] at hi
              rw [hg i hi]
              exact (hq i hi).1
          rw [hll] at hR
          refine ⟨_, _, _, _, _, rfl, hR, ?_⟩
          rw [blk_eq, List.map_map]
          have hS := bulk_sum D (fun i => blk (q i).1) len (fun i hi => (hq i hi).2.1)
          have e : (blk ∘ fun i => (q i).1) = fun i => blk (q i).1 := rfl
          rw [e]
          omega
set_option maxRecDepth 100000 in
/-- An argument that is a Json value. -/
theorem arg_json {base : Nat} {v : Value} {d : DataW H} {p : List MemPlace} (hv : Value.okWide Tryd.prog W .any base 27 v) (h : DataW.Trod enc Tryd.prog W 0 (fun _ => true) true 27 v d p) (hz : Rows.uptoBulk d ≤ 1048576) : ∃ j, RdV W v j ∧ blk j ≤ 1048576 := by
  obtain ⟨cs, rfl, -⟩ := okWide_struct Tryd.underlying27 hv
  obtain ⟨fuel, hf⟩ := h
  simp only [Value.cells] at hf
  obtain ⟨j, c0, c1, c2, c3, hcs, hr, hF⟩ := open_json (y := (d, p)) _ (Nat.le_refl _) hf hz
  obtain ⟨l⟩ := cs
  simp only at hcs
  subst hcs
  have hF2 : blk j ≤ Rows.uptoBulk d := hF
  exact ⟨j, hr, by omega⟩
end
end Go.Proofs.YteonapeoeckhfaaDoor
