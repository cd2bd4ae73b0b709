import Derived.Test.YtaogjiffnebnkaaP2
import Derived.Test.YtaogjiffnebnkaaRows
import Derived.Test.YtaogjiffnebnkaaChecked
import Derived.ProofKit
import Derived.OpenShut
import Derived.SizedLaws
import Derived.Deep.DeepHandedRow
import Derived.Lib.LaidTab
import Derived.Deep.Slices
import Derived.Laws.Cover2
set_option linter.unusedVariables false
set_option linter.unusedSimpArgs false
namespace Go.Proofs.Ytaogjiffnebnkaa
open Go.ChangeShapes Go.WideShapes Go.ChangeAt Go.RowKit
theorem own : ownKnob Try.prog.godebug = none := by kernel_rfl
theorem laidOut : laidOutB Try.prog = true := by kernel_rfl
theorem cells3 : Try.prog.cellsOf 3 = 1 := by kernel_rfl
theorem cells31 : Try.prog.cellsOf 31 = 1 := by kernel_rfl
theorem cells33 : Try.prog.cellsOf 33 = 4 := by kernel_rfl
theorem cells34 : Try.prog.cellsOf 34 = 1 := by kernel_rfl
theorem cells55 : Try.prog.cellsOf 55 = 1 := by kernel_rfl
theorem cells57 : Try.prog.cellsOf 57 = 5 := by kernel_rfl
theorem bulk_pos {H : Type} (d : DataW H) : 1 ≤ Rows.uptoBulk d := by
  cases d with
  | lit l => cases l <;> simp [Rows.uptoBulk]
  | _ => simp [Rows.uptoBulk]
theorem bulk_len {H : Type} : ∀ l : List (DataW H), l.length ≤ Rows.uptoBulkAll l
  | [] => Nat.zero_le _
  | d :: r => by
    have h1 := bulk_pos d
    have h2 := bulk_len r
    simp only [Rows.uptoBulkAll, List.length_cons]
    omega
theorem bulk_mem {H : Type} : ∀ {l : List (DataW H)} {d : DataW H}, d ∈ l → Rows.uptoBulk d ≤ Rows.uptoBulkAll l
  | [], d, h => by simp at h
  | x :: r, d, h => by
    simp only [Rows.uptoBulkAll]
    rcases List.mem_cons.1 h with rfl | h
    · omega
    · have := bulk_mem h; omega
theorem bulk_of {H : Type} {l : List (DataW H)} (h : Rows.uptoSmall H l = true) : Rows.uptoBulkAll l ≤ 1048576 := of_decide_eq_true h
/-- A datum of a bulk that fits. -/
def Sz {H : Type} (d : DataW H) : Prop := Rows.uptoBulk d ≤ 1048576
theorem Sz.slice {H : Type} {el sp : List (DataW H)} (h : Sz (.slice el sp)) : el.length + sp.length ≤ 1048576 ∧ ∀ d ∈ el, Sz d := by
  unfold Sz at h ⊢
  simp only [Rows.uptoBulk] at h
  have h1 := bulk_len el
  have h2 := bulk_len sp
  exact ⟨by omega, fun d hd => by have := bulk_mem hd; omega⟩
theorem Sz.agg {H : Type} {ds : List (DataW H)} (h : Sz (.agg ds)) {i : Nat} {d : DataW H} (hd : ds[i]? = some d) : Sz d := by
  unfold Sz at h ⊢
  simp only [Rows.uptoBulk] at h
  have := bulk_mem (List.mem_of_getElem? hd)
  omega
theorem Sz.arg {H : Type} {ds : List (DataW H)} (h : Rows.uptoBulkAll ds ≤ 1048576) {j : Nat} {d : DataW H} (hd : ds[j]? = some d) : Sz d := by
  have := bulk_mem (List.mem_of_getElem? hd)
  unfold Sz
  omega
section
variable {H : Type} {enc : TypeId × Value → H} {W : World}
/-- A list of whole numbers in a cell, opened. -/
theorem open_ints_c {fuel : Nat} {v : Value} {y : DataW H × List MemPlace} (hf : DataW.trod enc Try.prog W 0 (fun _ => true) true fuel 55 [v] = some y) (hz : Sz y.1) :
    ∃ a c l, v = .slice a (l : List Int).length c ∧ l.length ≤ c ∧ RdI W a l ∧ l.length ≤ 17592186044416 := by
  rcases open_ints Try.underlying55 Try.underlying3 cells3 hf with ⟨hcs, _⟩ | ⟨x, len, cap, zs, hcs, _, hl, hm, hzs, hx, hcell, hwz⟩
  · simp at hcs
    subst hcs
    exact ⟨none, 0, [], rfl, Nat.le_refl _, RdI.nil _ _, by simp⟩
  · simp at hcs
    subst hcs
    subst hx
    simp only [if_true] at hzs
    have hlen : (zs.take len).length = len := by simp; omega
    have hsz := hz.slice.1
    simp only [lits, List.length_map, List.length_take, List.length_drop] at hsz
    refine ⟨some x, cap, zs.take len, by rw [hlen], by omega, ?_, by rw [hlen]; omega⟩
    intro j hj
    rw [hlen] at hj
    obtain ⟨b, off, rfl, hc⟩ := ints_at hcell (by omega)
    refine ⟨b, off, rfl, ?_⟩
    rw [hc j (by omega)]
    have e : (zs.take len).getD j 0 = zs.getD j 0 := by simp [List.getD, hj]
    rw [e]
theorem trod_float {t : TypeId} {k : FloatKind} {fuel : Nat} {cs : List Value} {x : DataW H × List MemPlace} (ht : Try.prog.underlying t = some (.float k)) (h : DataW.trod enc Try.prog W 0 (fun _ => true) true fuel t cs = some x) : ∃ b, cs = [.float k b] ∧ (Lit.float k b).wf = true := by
  cases fuel with
  | zero => simp [DataW.trod] at h
  | succ n =>
    unfold DataW.trod at h
    rw [ht] at h
    split at h
    all_goals simp_all
set_option maxRecDepth 100000 in
/-- A cut's cells, opened. -/
theorem open_cut {fuel : Nat} {cs : List Value} {y : DataW H × List MemPlace} (hf : DataW.trod enc Try.prog W 0 (fun _ => true) true fuel 57 cs = some y) (hz : Sz y.1) :
    ∃ (n : Ct) (ca : Option Addr) (cap : Nat), cs = [.float .f64 n.th, .slice ca n.cs.length cap, .int .i64 n.tr, .int .i64 n.fr, .int .i64 n.to] ∧ RdI W ca n.cs ∧ n.cs.length ≤ cap ∧ n.cs.length ≤ 17592186044416 := by
  obtain ⟨xs, m, -, rfl, hcs, hxs, hfld⟩ := DataW.trod_struct Try.underlying57 hf
  rw [cells57] at hcs
  match cs, hcs with
  | [c0, c1, c2, c3, c4], _ =>
    match xs, hxs with
    | [y0, y1, y2, y3, y4], _ =>
      have t0 : DataW.trod enc Try.prog W 0 (fun _ => true) true m 34 [c0] = some y0 := by have h := hfld 0 _ rfl; simpa [cells34] using h
      have t1 : DataW.trod enc Try.prog W 0 (fun _ => true) true m 55 [c1] = some y1 := by have h := hfld 1 _ rfl; simpa [cells34, cells55] using h
      have t2 : DataW.trod enc Try.prog W 0 (fun _ => true) true m 3 [c2] = some y2 := by have h := hfld 2 _ rfl; simpa [cells34, cells55, cells3] using h
      have t3 : DataW.trod enc Try.prog W 0 (fun _ => true) true m 3 [c3] = some y3 := by have h := hfld 3 _ rfl; simpa [cells34, cells55, cells3] using h
      have t4 : DataW.trod enc Try.prog W 0 (fun _ => true) true m 3 [c4] = some y4 := by have h := hfld 4 _ rfl; simpa [cells34, cells55, cells3] using h
      have z1 : Sz y1.1 := hz.agg (i := 1) rfl
      obtain ⟨n0, e0, w0⟩ := trod_float Try.underlying34 t0
      obtain ⟨a1, k1, l1, e1, h1, r1, b1⟩ := open_ints_c t1 z1
      obtain ⟨n2, e2, -, w2⟩ := DataW.trod_int Try.underlying3 t2
      obtain ⟨n3, e3, -, w3⟩ := DataW.trod_int Try.underlying3 t3
      obtain ⟨n4, e4, -, w4⟩ := DataW.trod_int Try.underlying3 t4
      have e0 : c0 = .float .f64 n0 := by simpa using e0
      have e2 : c2 = .int .i64 n2 := by simpa using e2
      have e3 : c3 = .int .i64 n3 := by simpa using e3
      have e4 : c4 = .int .i64 n4 := by simpa using e4
      subst e0 e1 e2 e3 e4
      exact ⟨⟨n0, l1, n2, n3, n4⟩, a1, k1, rfl, r1, h1, b1⟩
/-- Cuts in a cell, opened. -/
theorem open_cuts {fuel : Nat} {v : Value} {y : DataW H × List MemPlace} (hf : DataW.trod enc Try.prog W 0 (fun _ => true) true fuel 31 [v] = some y) (hz : Sz y.1) :
    ∃ a cap L, v = .slice a (L : List Ct).length cap ∧ L.length ≤ cap ∧ RdC W a L ∧ L.length ≤ 1048576 := by
  rcases Go.Deep.open_slice Try.underlying31 hf with ⟨hcs, _⟩ | ⟨a, len, cap, m, n, D, Pl, hcs, hb, hl, hm, hmm, rfl, hx⟩
  · simp at hcs
    subst hcs
    exact ⟨none, 0, [], rfl, Nat.le_refl _, by intro j hj; simp at hj, by simp⟩
  · simp at hcs
    subst hcs
    simp only [if_true] at hmm
    subst hmm
    obtain ⟨hs, hd⟩ := hz.slice
    simp only [List.length_map, List.length_range] at hs
    rw [cells57] at hx
    have each : ∀ i, i < len → ∃ q : Ct × Option Addr × Nat, CtAt W a.block (a.off + i * 5) q.1 q.2.1 q.2.2 ∧ a.spot = none := by
      intro i hi
      obtain ⟨cs', h1, h2⟩ := hx i (by omega)
      obtain ⟨cs0, h10, h20⟩ := hx 0 (by omega)
      obtain ⟨-, -, hcell0⟩ := World.cells?_some h10
      obtain ⟨nd0', ca0', cp0', rfl, -⟩ := open_cut h20 (hd _ (List.mem_map.2 ⟨0, List.mem_range.2 (by omega), rfl⟩))
      have hsp : a.spot = none := by
        have := hcell0 0 (by omega)
        simpa [Addr.add] using World.cell?_spot this
      obtain ⟨-, hlen, hcell⟩ := World.cells?_some h1
      obtain ⟨nd, ca, cp, rfl, r1, r2, r3⟩ := open_cut h2 (hd _ (List.mem_map.2 ⟨i, List.mem_range.2 hi, rfl⟩))
      obtain ⟨b, off, sp⟩ := a
      simp only at hsp
      subst hsp
      have cell : ∀ k, k < 5 → W.cell? ⟨b, off + i * 5 + k, none⟩ = ([.float .f64 nd.th, .slice ca nd.cs.length cp, .int .i64 nd.tr, .int .i64 nd.fr, .int .i64 nd.to] : List Value)[k]? := by
        intro k hk
        rw [← hcell k hk, Go.WideShapes.add_plain, Go.WideShapes.add_plain]
      exact ⟨⟨nd, ca, cp⟩, ⟨cell 0 (by omega), cell 1 (by omega), cell 2 (by omega), cell 3 (by omega), cell 4 (by omega), r1, r2, r3⟩, rfl⟩
    haveI : Inhabited (Ct × Option Addr × Nat) := ⟨(cd0, none, 0)⟩
    obtain ⟨q, hq⟩ := Go.Deep.choose_lt each
    refine ⟨some a, m, (List.range len).map (fun i => (q i).1), by simp, by simpa using hl, ?_, by simp; omega⟩
    intro j hj
    simp only [List.length_map, List.length_range] at hj
    obtain ⟨h1, h2⟩ := hq j hj
    obtain ⟨b, off, sp⟩ := a
    simp only at h2
    subst h2
    refine ⟨b, off, (q j).2.1, (q j).2.2, rfl, ?_⟩
    have : ((List.range len).map (fun i => (q i).1)).getD j cd0 = (q j).1 := by simp [List.getD, hj]
    rw [this]
    exact h1
set_option maxRecDepth 100000 in
/-- An argument that is a list of cuts. -/
theorem arg_list {base : Nat} {v : Value} {d : DataW H} {p : List MemPlace} (hv : Value.okWide Try.prog W .any base 33 v) (h : DataW.Trod enc Try.prog W 0 (fun _ => true) true 33 v d p) (hz : Sz d) :
    ∃ (F : Int) (na : Option Addr) (L : List Ct) (nc : Nat) (ca : Option Addr) (C : List Ct) (cc : Nat) (la : Option Addr) (O : List Ct) (lc : Nat),
      v = .agg #[.int .i64 F, .slice na L.length nc, .slice ca C.length cc, .slice la O.length lc] ∧ (L.length ≤ nc ∧ RdC W na L ∧ L.length ≤ 1048576) ∧ (C.length ≤ cc ∧ RdC W ca C ∧ C.length ≤ 1048576) ∧ (O.length ≤ lc ∧ RdC W la O ∧ O.length ≤ 1048576) := by
  obtain ⟨cs, rfl, -⟩ := okWide_struct Try.underlying33 hv
  obtain ⟨fuel, hf⟩ := h
  obtain ⟨xs, m, -, hdp, hcs, hxs, hfld⟩ := DataW.trod_struct Try.underlying33 hf
  simp only [Prod.mk.injEq] at hdp
  obtain ⟨rfl, -⟩ := hdp
  rw [cells33] at hcs
  simp only [Value.cells] at hcs hfld
  obtain ⟨l⟩ := cs
  simp only at hcs hfld
  match l, hcs with
  | [c0, c1, c2, c3], _ =>
    match xs, hxs with
    | [y0, y1, y2, y3], _ =>
      have t0 : DataW.trod enc Try.prog W 0 (fun _ => true) true m 3 [c0] = some y0 := by have h := hfld 0 _ rfl; simpa [cells3] using h
      have t1 : DataW.trod enc Try.prog W 0 (fun _ => true) true m 31 [c1] = some y1 := by have h := hfld 1 _ rfl; simpa [cells3, cells31] using h
      have t2 : DataW.trod enc Try.prog W 0 (fun _ => true) true m 31 [c2] = some y2 := by have h := hfld 2 _ rfl; simpa [cells3, cells31] using h
      have t3 : DataW.trod enc Try.prog W 0 (fun _ => true) true m 31 [c3] = some y3 := by have h := hfld 3 _ rfl; simpa [cells3, cells31] using h
      have z1 : Sz y1.1 := hz.agg (i := 1) rfl
      have z2 : Sz y2.1 := hz.agg (i := 2) rfl
      have z3 : Sz y3.1 := hz.agg (i := 3) rfl
      obtain ⟨F, e0, -, w0⟩ := DataW.trod_int Try.underlying3 t0
      obtain ⟨na, nc, L, e1, h1⟩ := open_cuts t1 z1
      obtain ⟨ca, cc, C, e2, h2⟩ := open_cuts t2 z2
      obtain ⟨la, lc, O, e3, h3⟩ := open_cuts t3 z3
      have e0 : c0 = .int .i64 F := by simpa using e0
      subst e0 e1 e2 e3
      exact ⟨F, na, L, nc, ca, C, cc, la, O, lc, rfl, h1, h2, h3⟩
end
end Go.Proofs.Ytaogjiffnebnkaa
