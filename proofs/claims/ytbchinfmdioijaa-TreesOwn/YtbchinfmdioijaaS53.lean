import Derived.Test.YtbchinfmdioijaaS50
import Derived.BigQuiet
import Derived.BigRegion
import Derived.Deep.RegionHeld3
set_option linter.unusedVariables false
set_option linter.unusedSimpArgs false
namespace Go.Proofs.Ytbchinfmdioijaa
open Go.RowKit Go.Shelf
/-- The two cells that every way to a node goes by. -/
theorem SpI.two {A : Nat → Prop} {w wr : World} {gb : Nat} {nm N : Value} {MF MB MT : Nat} {fv bv : Value} {gt T ct : Nat} {nv : Nat → Value} {nn MN : Nat → Nat} {bc : Nat → Nat → Nat} (h : SpI A w gb nm N MF MB MT wr fv bv (.slice (some ⟨gt, 0, none⟩) T ct) T nv nn MN bc) {i : Nat} (hi : i < T) {v : Value} (hv : nv i = v) :
    wr.cell? ⟨gb, 4, none⟩ = some (.slice (some ⟨gt, 0, none⟩) T ct) ∧ wr.cell? ⟨gt, i * 2 + 1, none⟩ = some v := by
  obtain ⟨cur3, h3, h4⟩ := h.t
  refine ⟨?_, (cell_of_row wr gt (i * 2 + 1) cur3 24 (0, 0) h3.room.2).trans (by rw [h4 i hi, hv])⟩
  have b4 := cell_of_row _ _ 4 _ 52 (0, 0) h.bx
  simp only [List.getElem?_toArray, List.getElem?_cons_zero, List.getElem?_cons_succ] at b4
  exact b4
theorem news_lit (w : World) (B0 E : Nat) (cs : List Value) (h : w.heap[B0]? = some (.cells cs.toArray E (0, 0))) : ∀ j u, cs[j]? = some u → w.cell? ((⟨B0, 0, none⟩ : Addr).add j) = some u := by
  intro j u hj
  rw [Addr.add_lit, Nat.zero_add, cell_of_row w B0 j _ E (0, 0) h, ← hj]
  simp
theorem bc_twice {X : Type} (i : Nat) (x y : X) (z : Nat → X) : (fun j => if j = i then x else (if j = i then y else z j)) = fun j => if j = i then x else z j := by
  funext j
  by_cases e : j = i <;> simp [e]
set_option maxRecDepth 100000 in
set_option maxHeartbeats 4000000 in
theorem spoil_any {A : Nat → Prop} (w : World) (nm : ByteArray) (N : Int) (fa ba ta : Option Addr) (F cf b cb T ct : Nat) (MF MB MT : Nat) (nv : Nat → Value) (nn MN : Nat → Nat) (bc : Nat → Nat → Nat) (hA : ∀ b, w.heap.size ≤ b → A b)
    (h : SpB A w MF MB MT (.slice fa F cf) (.slice ba b cb) (.slice ta T ct) T nv nn MN bc) (hMF : MF ≤ 8796093022208) (hMB : MB ≤ 17592186044416) (hMT : MT ≤ 4398046511104) (hMN : ∀ i, i < T → MN i ≤ 1759218604441 ∧ ∀ k, bc i k ≤ 17592186044416) :
    Calls Try.prog 41 #[ens nm fa F cf N ba b cb ta T ct] w fun e w' => e = .returned (.tuple #[]) ∧ w'.os = w.os ∧ w'.tape = w.tape ∧ w'.output = w.output ∧ w.heap.size ≤ w'.heap.size ∧ ∀ b, b < w.heap.size → ¬ A b → w'.heap[b]? = w.heap[b]? := by
  have hI0 : SpI A w w.heap.size (.string nm) (.int .i64 N) MF MB MT (w.alloc (Obj.cells #[Value.string nm, Value.slice fa F cf, Value.int IntKind.i64 N, Value.slice ba b cb, Value.slice ta T ct] 52)) (.slice fa F cf) (.slice ba b cb) (.slice ta T ct) T nv nn MN bc :=
    h.spI hA ((Keep.refl w).alloc _) (heap_alloc_new w _)
  have hFl : F ≤ 8796093022208 := by obtain ⟨n, cur, hw⟩ := h.f; have h1 := hw.le; obtain ⟨a, c, e, -⟩ := hw.shape; simp only [Value.slice.injEq] at e; omega
  have hBl : b ≤ 17592186044416 := by obtain ⟨n, cur, hw⟩ := h.b; have h1 := hw.le; obtain ⟨a, c, e, -⟩ := hw.shape; simp only [Value.slice.injEq] at e; omega
  have hTl : T ≤ 4398046511104 := by obtain ⟨cur, hw, -⟩ := h.t; have h1 := hw.le; omega
  have hMN : Hid (∀ i, i < T → MN i ≤ 1759218604441 ∧ ∀ k, bc i k ≤ 17592186044416) := hMN
  clear h
  unfold ens
  obtain ⟨G, hG⟩ : ∃ G, w.heap.size = G := ⟨_, rfl⟩
  have HG : Hid (w.heap.size = G) := hG
  go_enter Try.func41, Try.ntmps41
  go_wp2_with fail
  generalize hwx : w.alloc _ = wx at hI0 ⊢
  rw [hG] at hI0
  clear hwx
  have b1 := cell_of_row _ _ 1 _ 52 (0, 0) hI0.bx
  simp only [List.getElem?_toArray, List.getElem?_cons_zero, List.getElem?_cons_succ] at b1
  try rw [hG]
  clear hG
  go_wp2_with fail
  go_loopw [10] (fun iv wr => ∃ k : Nat, k ≤ F ∧ iv = .int .i64 k ∧ SpI A w G (.string nm) (.int .i64 N) MF MB MT wr (.slice fa F cf) (.slice ba b cb) (.slice ta T ct) T nv nn MN bc) (fun iv _ => F - (intOf iv).toNat)
  case atStart => exact ⟨0, by omega, rfl, hI0⟩
  case round =>
    clear hI0 b1
    obtain ⟨k, hk, rfl, hI⟩ := hrel
    have b1 := cell_of_row _ _ 1 _ 52 (0, 0) hI.bx
    simp only [List.getElem?_toArray, List.getElem?_cons_zero, List.getElem?_cons_succ] at b1
    by_cases hkl : k < F
    · have hkc : (k : Int) < (F : Int) := by omega
      obtain ⟨n, cur, hw⟩ := hI.f
      obtain ⟨a0, c0, e0, hg0⟩ := hw.shape
      simp only [Value.slice.injEq] at e0
      obtain ⟨rfl, rfl, rfl⟩ := e0
      obtain ⟨g, rfl⟩ := hg0 (by omega)
      obtain ⟨u, -, hc, hfz⟩ := hw.at (i := k) (by omega)
      have hJ := hI.putF hw k (.string { data := #[103, 111, 110, 101] })
      clear hg0
      replace hw : Hid _ := hw
      go_wp2_with fail
      exact ⟨⟨k + 1, by omega, by go_num, hJ⟩, by simp [intOf]; omega⟩
    · have hkc : ¬ (k : Int) < (F : Int) := by omega
      obtain rfl : F = k := by omega
      clear b1
      have b3 := cell_of_row _ _ 3 _ 52 (0, 0) hI.bx
      simp only [List.getElem?_toArray, List.getElem?_cons_zero, List.getElem?_cons_succ] at b3
      have hI0 := hI
      clear hI
      go_wp2_with fail
      go_loopw [21] (fun iv wr => ∃ k : Nat, k ≤ b ∧ iv = .int .i64 k ∧ SpI A w G (.string nm) (.int .i64 N) MF MB MT wr (.slice fa F cf) (.slice ba b cb) (.slice ta T ct) T nv nn MN bc) (fun iv _ => b - (intOf iv).toNat)
      case atStart => exact ⟨0, by omega, rfl, hI0⟩
      case round =>
        clear hI0 b3
        obtain ⟨k, hk, rfl, hI⟩ := hrel
        have b3 := cell_of_row _ _ 3 _ 52 (0, 0) hI.bx
        simp only [List.getElem?_toArray, List.getElem?_cons_zero, List.getElem?_cons_succ] at b3
        by_cases hkl : k < b
        · have hkc : (k : Int) < (b : Int) := by omega
          obtain ⟨n, cur, hw⟩ := hI.b
          obtain ⟨a0, c0, e0, hg0⟩ := hw.shape
          simp only [Value.slice.injEq] at e0
          obtain ⟨rfl, rfl, rfl⟩ := e0
          obtain ⟨g, rfl⟩ := hg0 (by omega)
          obtain ⟨u, -, hc, hfz⟩ := hw.at (i := k) (by omega)
          have hJ := hI.putB hw k (.int .i64 (-1))
          clear hg0
          replace hw : Hid _ := hw
          go_wp2_with fail
          exact ⟨⟨k + 1, by omega, by go_num, hJ⟩, by simp [intOf]; omega⟩
        · have hkc : ¬ (k : Int) < (b : Int) := by omega
          obtain rfl : b = k := by omega
          clear b3
          have b4 := cell_of_row _ _ 4 _ 52 (0, 0) hI.bx
          simp only [List.getElem?_toArray, List.getElem?_cons_zero, List.getElem?_cons_succ] at b4
          have hI0 := hI
          clear hI
          go_wp2_with fail
          go_loopw [32] (fun iv wr => ∃ (i : Nat) (nv : Nat → Value) (nn MN : Nat → Nat) (bc : Nat → Nat → Nat), i ≤ T ∧ iv = .int .i64 i ∧ SpI A w G (.string nm) (.int .i64 N) MF MB MT wr (.slice fa F cf) (.slice ba b cb) (.slice ta T ct) T nv nn MN bc ∧ Hid (∀ j, i ≤ j → j < T → MN j ≤ 1759218604441 ∧ ∀ k, bc j k ≤ 17592186044416)) (fun iv _ => T - (intOf iv).toNat)
          case atStart => exact ⟨0, nv, nn, MN, bc, by omega, rfl, hI0, fun j _ hj => hMN.out j hj⟩
          case round =>
            clear hI0 b4 hMN
            obtain ⟨i, nv, nn, MN, bc, hi, rfl, hI, hMN⟩ := hrel
            have b4 := cell_of_row _ _ 4 _ 52 (0, 0) hI.bx
            simp only [List.getElem?_toArray, List.getElem?_cons_zero, List.getElem?_cons_succ] at b4
            by_cases hil : i < T
            · have hic : (i : Int) < (T : Int) := by omega
              obtain ⟨cur3, h3, h4⟩ := hI.t
              obtain ⟨a0, c0, e0, hg0⟩ := h3.shape
              simp only [Value.slice.injEq, true_and] at e0
              obtain ⟨rfl, rfl⟩ := e0
              obtain ⟨gt, rfl⟩ := hg0 (by omega)
              have t1 : wr.cell? ⟨gt, i * 2 + 1, none⟩ = some (nv i) := (cell_of_row wr gt (i * 2 + 1) cur3 24 (0, 0) h3.room.2).trans (h4 i hil)
              obtain ⟨curN, q1, -⟩ := hI.n i hil
              obtain ⟨na, nc, hnv, hng⟩ := q1.shape
              obtain ⟨n0, hn0⟩ : ∃ n0, nn i = n0 := ⟨_, rfl⟩
              have hb0 := (hMN.out i (Nat.le_refl _) hil)
              have hn0l : n0 ≤ 1759218604441 := by have := q1.le; omega
              rw [hnv] at t1
              rw [hn0] at t1 hng hnv
              have HN : Hid (nn i = n0) := hn0
              have HV : Hid (nv i = .slice na n0 nc) := hnv
              have HG0 : Hid (0 < n0 → ∃ g, na = some ⟨g, 0, none⟩) := hng
              have HB : Hid (∀ k, bc i k ≤ 17592186044416) := hb0.2
              clear hn0 hnv hng q1 hb0 h3 h4 hg0
              have e0 : (fun j => if j = i then bc i else bc j) = bc := by funext j; by_cases e : j = i <;> simp [e]
              have hI0 : SpI A w G (.string nm) (.int .i64 N) MF MB MT wr (.slice fa F cf) (.slice ba b cb) (.slice (some ⟨gt, 0, none⟩) T ct) T nv nn MN (fun j => if j = i then bc i else bc j) := by rw [e0]; exact hI
              clear e0
              go_wp2_with fail
              go_loopw [42] (fun iv wr => ∃ (k : Nat) (bc' : Nat → Nat), k ≤ n0 ∧ iv = .int .i64 k ∧ SpI A w G (.string nm) (.int .i64 N) MF MB MT wr (.slice fa F cf) (.slice ba b cb) (.slice (some ⟨gt, 0, none⟩) T ct) T nv nn MN (fun j => if j = i then bc' else bc j) ∧ Hid (∀ k', k ≤ k' → bc' k' ≤ 17592186044416)) (fun iv _ => n0 - (intOf iv).toNat)
              case atStart => exact ⟨0, bc i, by omega, rfl, hI0, fun k' _ => HB.out k'⟩
              case round =>
                clear hI0 b4 t1 hI HB
                obtain ⟨k, bc', hk, rfl, hI, HB⟩ := hrel
                have b4 := cell_of_row _ _ 4 _ 52 (0, 0) hI.bx
                simp only [List.getElem?_toArray, List.getElem?_cons_zero, List.getElem?_cons_succ] at b4
                obtain ⟨cur3, h3, h4⟩ := hI.t
                have t1 : wr.cell? ⟨gt, i * 2 + 1, none⟩ = some (nv i) := (cell_of_row wr gt (i * 2 + 1) cur3 24 (0, 0) h3.room.2).trans (h4 i hil)
                rw [HV.out] at t1
                clear h3 h4
                by_cases hkl : k < n0
                · have hkc : (k : Int) < (n0 : Int) := by omega
                  obtain ⟨gn, rfl⟩ := HG0.out (by omega)
                  obtain ⟨curN, q1, q2⟩ := hI.n i hil
                  rw [HV.out, HN.out] at q1
                  rw [HN.out] at q2
                  obtain ⟨cv, ecv, hcv⟩ := q2 k hkl
                  have n4 : wr.cell? ⟨gn, k * 8 + 4, none⟩ = some cv := (cell_of_row wr gn (k * 8 + 4) curN 40 (0, 0) q1.room.2).trans ecv
                  obtain ⟨m, curC, hw⟩ := hcv
                  obtain ⟨ca, cc, rfl, hcg⟩ := hw.shape
                  have hml : m ≤ 17592186044416 := by have := hw.le; rw [if_pos rfl] at this; exact Nat.le_trans this (HB.out k (Nat.le_refl _))
                  have HC : Hid (curN[k * 8 + 4]? = some (.slice ca m cc)) := ecv
                  have HCG : Hid (0 < m → ∃ g, ca = some ⟨g, 0, none⟩) := hcg
                  have HS : Hid (wr.heap[gn]? = some (.cells curN 40 (0, 0))) := q1.room.2
                  clear hw q2 ecv hcg q1
                  have hI0 := hI
                  go_wp2_with fail
                  go_loopw [56] (fun iv wr => ∃ n : Nat, n ≤ m ∧ iv = .int .i64 n ∧ SpI A w G (.string nm) (.int .i64 N) MF MB MT wr (.slice fa F cf) (.slice ba b cb) (.slice (some ⟨gt, 0, none⟩) T ct) T nv nn MN (fun j => if j = i then bc' else bc j) ∧ Hid (wr.heap[gn]? = some (.cells curN 40 (0, 0)))) (fun iv _ => m - (intOf iv).toNat)
                  case atStart => exact ⟨0, by omega, rfl, hI0, HS⟩
                  case round =>
                    clear hI0 b4 t1 n4 hI HS
                    obtain ⟨n, hn, rfl, hI, HS⟩ := hrel
                    have b4 := cell_of_row _ _ 4 _ 52 (0, 0) hI.bx
                    simp only [List.getElem?_toArray, List.getElem?_cons_zero, List.getElem?_cons_succ] at b4
                    obtain ⟨cur3, h3, h4⟩ := hI.t
                    have t1 : wr.cell? ⟨gt, i * 2 + 1, none⟩ = some (nv i) := (cell_of_row wr gt (i * 2 + 1) cur3 24 (0, 0) h3.room.2).trans (h4 i hil)
                    rw [HV.out] at t1
                    have n4 : wr.cell? ⟨gn, k * 8 + 4, none⟩ = some (.slice ca m cc) := (cell_of_row wr gn (k * 8 + 4) curN 40 (0, 0) HS.out).trans HC.out
                    clear h3 h4
                    obtain ⟨curN', q1, q2⟩ := hI.n i hil
                    rw [HV.out, HN.out] at q1
                    rw [HN.out] at q2
                    obtain ⟨cv, ecv, hcv⟩ := q2 k hkl
                    have eN : curN' = curN := by have := q1.room.2; rw [HS.out] at this; simpa using this.symm
                    subst eN
                    have ev : cv = .slice ca m cc := by have := HC.out; rw [ecv] at this; simpa using this
                    subst ev
                    by_cases hnl : n < m
                    · have hnc : (n : Int) < (m : Int) := by omega
                      obtain ⟨m', curC, hw⟩ := hcv
                      obtain ⟨a1, c1, e1, hcg⟩ := hw.shape
                      simp only [Value.slice.injEq] at e1
                      obtain ⟨-, rfl, -⟩ := e1
                      obtain ⟨gc, rfl⟩ := HCG.out (by omega)
                      obtain ⟨u, -, hc, hfz⟩ := hw.at (i := n) (by omega)
                      obtain ⟨hAc, hgc⟩ := hw.blk (b := gc) rfl
                      have hJ := hI.turn3 (One.set gc n wr (.int .i64 (-5))) hAc hgc (heap_setCell_same wr gc n curC 3 (.int .i64 (-5)) hgc) (by simp)
                      have HS' : Hid ((wr.setCell ⟨gc, n, none⟩ (.int .i64 (-5))).heap[gn]? = some (.cells curN' 40 (0, 0))) := by
                        show _ = _
                        rw [neq_set wr gc n _ gn (fun e => by have h := HS.out; rw [e, hgc] at h; simp at h)]
                        exact HS.out
                      clear hgc q1 ecv q2 hcg hw
                      go_wp2_with fail
                      exact ⟨⟨n + 1, by omega, by go_num, hJ, HS'⟩, by simp [intOf]; omega⟩
                    · have hnc : ¬ (n : Int) < (m : Int) := by omega
                      obtain rfl : m = n := by omega
                      rw [if_pos rfl] at hcv
                      have ka : Keep wr (wr.alloc (Obj.cells #[Value.int IntKind.i64 7, Value.int IntKind.i64 7, Value.int IntKind.i64 7] 3)).drew := ((Keep.refl wr).alloc _).drew
                      have hIa := hI.keep ka
                      have hca := CsW.keep hcv ka
                      have hlit : (wr.alloc (Obj.cells #[Value.int IntKind.i64 7, Value.int IntKind.i64 7, Value.int IntKind.i64 7] 3)).drew.heap[wr.heap.size]? = some (Obj.cells #[Value.int IntKind.i64 7, Value.int IntKind.i64 7, Value.int IntKind.i64 7] 3 (0, 0)) := heap_alloc_new wr _
                      have hbk := HB.out k (Nat.le_refl _)
                      have hgn : gn < wr.heap.size := (Array.getElem?_eq_some_iff.1 HS.out).1
                      have hgG : G < wr.heap.size := (Array.getElem?_eq_some_iff.1 hI.bx).1
                      have hgt : gt < wr.heap.size := World.block_lt_of_cell? wr _ t1
                      clear q1 q2 ecv hcv
                      go_wp2_with fail
                      have bd4 : wr.drew.cell? ⟨G, 4, none⟩ = some (.slice (some ⟨gt, 0, none⟩) T ct) := b4
                      have td1 : wr.drew.cell? ⟨gt, i * 2 + 1, none⟩ = some (.slice (some ⟨gn, 0, none⟩) n0 nc) := t1
                      have ba4 := ka.cell b4
                      have ta1 := ka.cell t1
                      refine wp_region_held_drew (S := (fun wx => wx.cell? ⟨G, 4, none⟩ = some (.slice (some ⟨gt, 0, none⟩) T ct) ∧ wx.cell? ⟨gt, i * 2 + 1, none⟩ = some (.slice (some ⟨gn, 0, none⟩) n0 nc))) (by kernel_rfl) ⟨bd4, td1⟩ (fun hHeld => ?_)
                      refine wpAnyH_take (i := 0) (oi := { dst := some 72, op := Go.Op.fieldAddr 52 (Go.Operand.tmp 1) 4, type := 0, pos := "law.go:238", after := #[], guard := none }) (v := .pointer (some ⟨G, 4, none⟩)) rfl (by kernel_rfl) (by kernel_rfl) (by kernel_rfl) (fun _ _ _ h => h) (Or.inl ⟨by rfl, by (intro w hSw; (try dsimp only at hSw); go_simp; try with_reducible rfl)⟩) (by assumption) ?_
                      try simp only [Act.put, List.setIfInBounds_toArray, List.set_cons_zero, List.set_cons_succ]
                      refine wpAnyH_take (i := 1) (oi := { dst := some 73, op := Go.Op.load 50 (Go.Operand.tmp 72), type := 50, pos := "law.go:238", after := #[{ on := 0, ground := Go.Ground.data }], guard := none }) (v := .slice (some ⟨gt, 0, none⟩) T ct) rfl (by kernel_rfl) (by kernel_rfl) (by kernel_rfl) (fun _ _ _ h => h) (Or.inl ⟨by rfl, by (intro w hSw; (try dsimp only at hSw); go_simp; try with_reducible rfl)⟩) (by assumption) ?_
                      try simp only [Act.put, List.setIfInBounds_toArray, List.set_cons_zero, List.set_cons_succ]
                      refine wpAnyH_take (i := 2) (oi := { dst := some 74, op := Go.Op.move (Go.Operand.tmp 4), type := 3, pos := "law.go:238", after := #[], guard := none }) (v := .int .i64 (i : Nat)) rfl (by kernel_rfl) (by kernel_rfl) (by kernel_rfl) (fun _ _ _ h => h) (Or.inl ⟨by rfl, by (intro w hSw; (try dsimp only at hSw); go_simp; try with_reducible rfl)⟩) (by assumption) ?_
                      try simp only [Act.put, List.setIfInBounds_toArray, List.set_cons_zero, List.set_cons_succ]
                      refine wpAnyH_take (i := 3) (oi := { dst := some 75, op := Go.Op.indexAddr 50 (Go.Operand.tmp 73) (Go.Operand.tmp 74), type := 0, pos := "law.go:238", after := #[{ on := 1, ground := Go.Ground.data }, { on := 2, ground := Go.Ground.data }], guard := none }) (v := .pointer (some ⟨gt, i * 2, none⟩)) rfl (by kernel_rfl) (by kernel_rfl) (by kernel_rfl) (fun _ _ _ h => h) (Or.inl ⟨by rfl, by (intro w hSw; (try dsimp only at hSw); go_simp; try with_reducible rfl)⟩) (by assumption) ?_
                      try simp only [Act.put, List.setIfInBounds_toArray, List.set_cons_zero, List.set_cons_succ]
                      refine wpAnyH_take (i := 4) (oi := { dst := some 76, op := Go.Op.fieldAddr 24 (Go.Operand.tmp 75) 1, type := 0, pos := "law.go:238", after := #[{ on := 3, ground := Go.Ground.data }], guard := none }) (v := .pointer (some ⟨gt, i * 2 + 1, none⟩)) rfl (by kernel_rfl) (by kernel_rfl) (by kernel_rfl) (fun _ _ _ h => h) (Or.inl ⟨by rfl, by (intro w hSw; (try dsimp only at hSw); go_simp; try with_reducible rfl)⟩) (by assumption) ?_
                      try simp only [Act.put, List.setIfInBounds_toArray, List.set_cons_zero, List.set_cons_succ]
                      refine wpAnyH_take (i := 5) (oi := { dst := some 77, op := Go.Op.load 22 (Go.Operand.tmp 76), type := 22, pos := "law.go:238", after := #[{ on := 4, ground := Go.Ground.data }], guard := none }) (v := .slice (some ⟨gn, 0, none⟩) n0 nc) rfl (by kernel_rfl) (by kernel_rfl) (by kernel_rfl) (fun _ _ _ h => h) (Or.inl ⟨by rfl, by (intro w hSw; (try dsimp only at hSw); go_simp; try with_reducible rfl)⟩) (by assumption) ?_
                      try simp only [Act.put, List.setIfInBounds_toArray, List.set_cons_zero, List.set_cons_succ]
                      refine wpAnyH_take (i := 6) (oi := { dst := some 78, op := Go.Op.move (Go.Operand.tmp 5), type := 3, pos := "law.go:238", after := #[], guard := none }) (v := .int .i64 (k : Nat)) rfl (by kernel_rfl) (by kernel_rfl) (by kernel_rfl) (fun _ _ _ h => h) (Or.inl ⟨by rfl, by (intro w hSw; (try dsimp only at hSw); go_simp; try with_reducible rfl)⟩) (by assumption) ?_
                      try simp only [Act.put, List.setIfInBounds_toArray, List.set_cons_zero, List.set_cons_succ]
                      refine wpAnyH_take (i := 7) (oi := { dst := some 79, op := Go.Op.fieldAddr 52 (Go.Operand.tmp 1) 4, type := 0, pos := "law.go:238", after := #[], guard := none }) (v := .pointer (some ⟨G, 4, none⟩)) rfl (by kernel_rfl) (by kernel_rfl) (by kernel_rfl) (fun _ _ _ h => h) (Or.inl ⟨by rfl, by (intro w hSw; (try dsimp only at hSw); go_simp; try with_reducible rfl)⟩) (by assumption) ?_
                      try simp only [Act.put, List.setIfInBounds_toArray, List.set_cons_zero, List.set_cons_succ]
                      refine wpAnyH_take (i := 8) (oi := { dst := some 80, op := Go.Op.load 50 (Go.Operand.tmp 79), type := 50, pos := "law.go:238", after := #[{ on := 7, ground := Go.Ground.data }], guard := none }) (v := .slice (some ⟨gt, 0, none⟩) T ct) rfl (by kernel_rfl) (by kernel_rfl) (by kernel_rfl) (fun _ _ _ h => h) (Or.inl ⟨by rfl, by (intro w hSw; (try dsimp only at hSw); go_simp; try with_reducible rfl)⟩) (by assumption) ?_
                      try simp only [Act.put, List.setIfInBounds_toArray, List.set_cons_zero, List.set_cons_succ]
                      refine wpAnyH_take (i := 9) (oi := { dst := some 81, op := Go.Op.move (Go.Operand.tmp 4), type := 3, pos := "law.go:238", after := #[], guard := none }) (v := .int .i64 (i : Nat)) rfl (by kernel_rfl) (by kernel_rfl) (by kernel_rfl) (fun _ _ _ h => h) (Or.inl ⟨by rfl, by (intro w hSw; (try dsimp only at hSw); go_simp; try with_reducible rfl)⟩) (by assumption) ?_
                      try simp only [Act.put, List.setIfInBounds_toArray, List.set_cons_zero, List.set_cons_succ]
                      refine wpAnyH_take (i := 10) (oi := { dst := some 82, op := Go.Op.indexAddr 50 (Go.Operand.tmp 80) (Go.Operand.tmp 81), type := 0, pos := "law.go:238", after := #[{ on := 8, ground := Go.Ground.data }, { on := 9, ground := Go.Ground.data }], guard := none }) (v := .pointer (some ⟨gt, i * 2, none⟩)) rfl (by kernel_rfl) (by kernel_rfl) (by kernel_rfl) (fun _ _ _ h => h) (Or.inl ⟨by rfl, by (intro w hSw; (try dsimp only at hSw); go_simp; try with_reducible rfl)⟩) (by assumption) ?_
                      try simp only [Act.put, List.setIfInBounds_toArray, List.set_cons_zero, List.set_cons_succ]
                      refine wpAnyH_take (i := 11) (oi := { dst := some 83, op := Go.Op.fieldAddr 24 (Go.Operand.tmp 82) 1, type := 0, pos := "law.go:238", after := #[{ on := 10, ground := Go.Ground.data }], guard := none }) (v := .pointer (some ⟨gt, i * 2 + 1, none⟩)) rfl (by kernel_rfl) (by kernel_rfl) (by kernel_rfl) (fun _ _ _ h => h) (Or.inl ⟨by rfl, by (intro w hSw; (try dsimp only at hSw); go_simp; try with_reducible rfl)⟩) (by assumption) ?_
                      try simp only [Act.put, List.setIfInBounds_toArray, List.set_cons_zero, List.set_cons_succ]
                      refine wpAnyH_take (i := 12) (oi := { dst := some 84, op := Go.Op.load 22 (Go.Operand.tmp 83), type := 22, pos := "law.go:238", after := #[{ on := 11, ground := Go.Ground.data }], guard := none }) (v := .slice (some ⟨gn, 0, none⟩) n0 nc) rfl (by kernel_rfl) (by kernel_rfl) (by kernel_rfl) (fun _ _ _ h => h) (Or.inl ⟨by rfl, by (intro w hSw; (try dsimp only at hSw); go_simp; try with_reducible rfl)⟩) (by assumption) ?_
                      try simp only [Act.put, List.setIfInBounds_toArray, List.set_cons_zero, List.set_cons_succ]
                      refine wpAnyH_take (i := 13) (oi := { dst := some 85, op := Go.Op.move (Go.Operand.tmp 5), type := 3, pos := "law.go:238", after := #[], guard := none }) (v := .int .i64 (k : Nat)) rfl (by kernel_rfl) (by kernel_rfl) (by kernel_rfl) (fun _ _ _ h => h) (Or.inl ⟨by rfl, by (intro w hSw; (try dsimp only at hSw); go_simp; try with_reducible rfl)⟩) (by assumption) ?_
                      try simp only [Act.put, List.setIfInBounds_toArray, List.set_cons_zero, List.set_cons_succ]
                      refine wpAnyH_take (i := 14) (oi := { dst := some 86, op := Go.Op.indexAddr 22 (Go.Operand.tmp 84) (Go.Operand.tmp 85), type := 0, pos := "law.go:238", after := #[{ on := 12, ground := Go.Ground.data }, { on := 13, ground := Go.Ground.data }], guard := none }) (v := .pointer (some ⟨gn, k * 8, none⟩)) rfl (by kernel_rfl) (by kernel_rfl) (by kernel_rfl) (fun _ _ _ h => h) (Or.inl ⟨by rfl, by (intro w hSw; (try dsimp only at hSw); go_simp; try with_reducible rfl)⟩) (by assumption) ?_
                      try simp only [Act.put, List.setIfInBounds_toArray, List.set_cons_zero, List.set_cons_succ]
                      refine wpAnyH_take (i := 15) (oi := { dst := some 87, op := Go.Op.fieldAddr 40 (Go.Operand.tmp 86) 4, type := 0, pos := "law.go:238", after := #[{ on := 14, ground := Go.Ground.data }], guard := none }) (v := .pointer (some ⟨gn, k * 8 + 4, none⟩)) rfl (by kernel_rfl) (by kernel_rfl) (by kernel_rfl) (fun _ _ _ h => h) (Or.inl ⟨by rfl, by (intro w hSw; (try dsimp only at hSw); go_simp; try with_reducible rfl)⟩) (by assumption) ?_
                      try simp only [Act.put, List.setIfInBounds_toArray, List.set_cons_zero, List.set_cons_succ]
                      refine wpAnyH_ready (rs := [16, 17]) (by kernel_rfl) (by simp) ?_
                      refine AllReadyH.cons (o := { dst := some 88, op := Go.Op.load 29 (Go.Operand.tmp 87), type := 29, pos := "law.go:238", after := #[{ on := 15, ground := Go.Ground.data }], guard := none }) rfl (fun K hK => ?_) (AllReadyH.cons (o := { dst := some 89, op := Go.Op.buildSlice 29 3 #[(0, Go.Operand.const (Go.Value.int Go.IntKind.i64 7)), (1, Go.Operand.const (Go.Value.int Go.IntKind.i64 7)), (2, Go.Operand.const (Go.Value.int Go.IntKind.i64 7))], type := 29, pos := "law.go:238", after := #[], guard := none }) rfl (fun K hK => ?_) AllReadyH.nil)
                      · go_simp
                        refine hK.out _ _ ⟨bd4, td1⟩ (fun hHeld => ?_)
                        clear hK K
                        try simp only [Act.put, List.setIfInBounds_toArray, List.set_cons_zero, List.set_cons_succ]
                        refine wpAnyH_ready (rs := [17]) (by kernel_rfl) (by simp) ?_
                        refine AllReadyH.cons (o := { dst := some 89, op := Go.Op.buildSlice 29 3 #[(0, Go.Operand.const (Go.Value.int Go.IntKind.i64 7)), (1, Go.Operand.const (Go.Value.int Go.IntKind.i64 7)), (2, Go.Operand.const (Go.Value.int Go.IntKind.i64 7))], type := 29, pos := "law.go:238", after := #[], guard := none }) rfl (fun K hK => ?_) AllReadyH.nil
                        go_simp
                        refine hK.out _ _ ⟨ba4, ta1⟩ (fun hHeld => ?_)
                        clear hK K
                        try simp only [Act.put, List.setIfInBounds_toArray, List.set_cons_zero, List.set_cons_succ]
                        refine wpAnyH_ready (rs := [18]) (by kernel_rfl) (by simp) ?_
                        refine AllReadyH.cons (o := { dst := some 90, op := Go.Op.call { callee := Go.Callee.builtin Go.Builtin.append, args := #[Go.Operand.tmp 88, Go.Operand.tmp 89], argTypes := #[29, 29] }, type := 29, pos := "law.go:238", after := #[{ on := 16, ground := Go.Ground.data }, { on := 17, ground := Go.Ground.data }], guard := none }) rfl (fun K hK => ?_) AllReadyH.nil
                        refine hIa.step_appC rfl _ _ rfl (bc' k) wr.heap.size _ hca hlit hbk rfl rfl ?_
                        intro a7 n7 c7 w7 hc7 h7
                        have N7 := h7.n i hil
                        rw [HV.out, HN.out, if_pos rfl] at N7
                        obtain ⟨cur7, r1, -⟩ := id N7
                        obtain ⟨u7, -, y7, f7⟩ := r1.at (i := k * 8 + 4) (by omega)
                        obtain ⟨b47, t17⟩ := h7.two hil HV.out
                        have hN := NdW.setC N7 hkl hc7
                        have hJ := h7.putN hil HV.out (k * 8 + 4) (.slice a7 n7 c7) _ (by rw [HV.out, HN.out]; exact hN)
                        obtain ⟨b48, t18⟩ := hJ.two hil HV.out
                        clear r1
                        refine hK.out _ _ ⟨b47, t17⟩ (fun hHeld => ?_)
                        clear hK K
                        try simp only [Act.put, List.setIfInBounds_toArray, List.set_cons_zero, List.set_cons_succ]
                        refine wpAnyH_take (i := 19) (oi := { dst := some 91, op := Go.Op.indexAddr 22 (Go.Operand.tmp 77) (Go.Operand.tmp 78), type := 0, pos := "law.go:238", after := #[{ on := 5, ground := Go.Ground.data }, { on := 6, ground := Go.Ground.data }, { on := 0, ground := Go.Ground.phase }, { on := 1, ground := Go.Ground.phase }, { on := 2, ground := Go.Ground.phase }, { on := 3, ground := Go.Ground.phase }, { on := 4, ground := Go.Ground.phase }, { on := 5, ground := Go.Ground.phase }, { on := 6, ground := Go.Ground.phase }, { on := 7, ground := Go.Ground.phase }, { on := 8, ground := Go.Ground.phase }, { on := 9, ground := Go.Ground.phase }, { on := 10, ground := Go.Ground.phase }, { on := 11, ground := Go.Ground.phase }, { on := 12, ground := Go.Ground.phase }, { on := 13, ground := Go.Ground.phase }, { on := 14, ground := Go.Ground.phase }, { on := 15, ground := Go.Ground.phase }, { on := 16, ground := Go.Ground.phase }, { on := 17, ground := Go.Ground.phase }, { on := 18, ground := Go.Ground.phase }], guard := none }) (v := .pointer (some ⟨gn, k * 8, none⟩)) rfl (by kernel_rfl) (by kernel_rfl) (by kernel_rfl) (fun _ _ _ h => h) (Or.inl ⟨by rfl, by (intro w hSw; (try dsimp only at hSw); go_simp; try with_reducible rfl)⟩) (by assumption) ?_
                        try simp only [Act.put, List.setIfInBounds_toArray, List.set_cons_zero, List.set_cons_succ]
                        refine wpAnyH_take (i := 20) (oi := { dst := some 92, op := Go.Op.fieldAddr 40 (Go.Operand.tmp 91) 4, type := 0, pos := "law.go:238", after := #[{ on := 19, ground := Go.Ground.data }, { on := 0, ground := Go.Ground.phase }, { on := 1, ground := Go.Ground.phase }, { on := 2, ground := Go.Ground.phase }, { on := 3, ground := Go.Ground.phase }, { on := 4, ground := Go.Ground.phase }, { on := 5, ground := Go.Ground.phase }, { on := 6, ground := Go.Ground.phase }, { on := 7, ground := Go.Ground.phase }, { on := 8, ground := Go.Ground.phase }, { on := 9, ground := Go.Ground.phase }, { on := 10, ground := Go.Ground.phase }, { on := 11, ground := Go.Ground.phase }, { on := 12, ground := Go.Ground.phase }, { on := 13, ground := Go.Ground.phase }, { on := 14, ground := Go.Ground.phase }, { on := 15, ground := Go.Ground.phase }, { on := 16, ground := Go.Ground.phase }, { on := 17, ground := Go.Ground.phase }, { on := 18, ground := Go.Ground.phase }], guard := none }) (v := .pointer (some ⟨gn, k * 8 + 4, none⟩)) rfl (by kernel_rfl) (by kernel_rfl) (by kernel_rfl) (fun _ _ _ h => h) (Or.inl ⟨by rfl, by (intro w hSw; (try dsimp only at hSw); go_simp; try with_reducible rfl)⟩) (by assumption) ?_
                        try simp only [Act.put, List.setIfInBounds_toArray, List.set_cons_zero, List.set_cons_succ]
                        refine wpAnyH_ready (rs := [21]) (by kernel_rfl) (by simp) ?_
                        refine AllReadyH.cons (o := { dst := none, op := Go.Op.store 29 (Go.Operand.tmp 92) (Go.Operand.tmp 90), type := 0, pos := "law.go:238", after := #[{ on := 20, ground := Go.Ground.data }, { on := 18, ground := Go.Ground.data }, { on := 18, ground := Go.Ground.chain }, { on := 0, ground := Go.Ground.phase }, { on := 1, ground := Go.Ground.phase }, { on := 2, ground := Go.Ground.phase }, { on := 3, ground := Go.Ground.phase }, { on := 4, ground := Go.Ground.phase }, { on := 5, ground := Go.Ground.phase }, { on := 6, ground := Go.Ground.phase }, { on := 7, ground := Go.Ground.phase }, { on := 8, ground := Go.Ground.phase }, { on := 9, ground := Go.Ground.phase }, { on := 10, ground := Go.Ground.phase }, { on := 11, ground := Go.Ground.phase }, { on := 12, ground := Go.Ground.phase }, { on := 13, ground := Go.Ground.phase }, { on := 14, ground := Go.Ground.phase }, { on := 15, ground := Go.Ground.phase }, { on := 16, ground := Go.Ground.phase }, { on := 17, ground := Go.Ground.phase }, { on := 18, ground := Go.Ground.phase }], guard := none }) rfl (fun K hK => ?_) AllReadyH.nil
                        go_simp
                        refine hK.out _ _ ⟨b48, t18⟩ (fun hHeld => ?_)
                        clear hK K
                        try simp only [Act.put, List.setIfInBounds_toArray, List.set_cons_zero, List.set_cons_succ]
                        refine wpAnyH_done (by kernel_rfl) ?_ _
                        rw [bc_twice] at hJ
                        generalize hbq : (fun j => if j = k then bc' k + 3 else bc' j) = bq at *
                        have HB' : Hid (∀ k', k + 1 ≤ k' → bq k' ≤ 17592186044416) := by
                          intro k' hk'
                          rw [← hbq]
                          simp only
                          rw [if_neg (by omega)]
                          exact HB.out k' (by omega)
                        clear hgn hgG hgt hIa hca hlit hI hN N7 h7 hc7 y7 f7 b4 t1 n4 HS hbq hbk bd4 td1 ba4 ta1 b47 t17 b48 t18
                        generalize w7.setCell _ _ = w8 at *
                        have N8 := hJ.n i hil
                        rw [HV.out, HN.out, if_pos rfl] at N8
                        obtain ⟨cur8, r1, -⟩ := id N8
                        obtain ⟨u8, -, y8, f8⟩ := r1.at (i := k * 8) (by omega)
                        have b4 := cell_of_row _ _ 4 _ 52 (0, 0) hJ.bx
                        simp only [List.getElem?_toArray, List.getElem?_cons_zero, List.getElem?_cons_succ] at b4
                        obtain ⟨cur3, h3, h4⟩ := hJ.t
                        have t1 : w8.cell? ⟨gt, i * 2 + 1, none⟩ = some (nv i) := (cell_of_row w8 gt (i * 2 + 1) cur3 24 (0, 0) h3.room.2).trans (h4 i hil)
                        rw [HV.out] at t1
                        have hJ2 := hJ.putN hil HV.out (k * 8) (.int .u8 0) bq (by rw [HV.out, HN.out]; exact NdW.setK N8 (fun j => by omega))
                        rw [bc_twice] at hJ2
                        clear h3 h4 r1 N8 hJ
                        go_wp2_with fail
                        exact ⟨⟨k + 1, bq, by omega, by go_num, hJ2, HB'⟩, by simp [intOf]; omega⟩
                      · go_simp
                        refine hK.out _ _ ⟨ba4, ta1⟩ (fun hHeld => ?_)
                        clear hK K
                        try simp only [Act.put, List.setIfInBounds_toArray, List.set_cons_zero, List.set_cons_succ]
                        refine wpAnyH_ready (rs := [16]) (by kernel_rfl) (by simp) ?_
                        refine AllReadyH.cons (o := { dst := some 88, op := Go.Op.load 29 (Go.Operand.tmp 87), type := 29, pos := "law.go:238", after := #[{ on := 15, ground := Go.Ground.data }], guard := none }) rfl (fun K hK => ?_) AllReadyH.nil
                        go_simp
                        refine hK.out _ _ ⟨ba4, ta1⟩ (fun hHeld => ?_)
                        clear hK K
                        try simp only [Act.put, List.setIfInBounds_toArray, List.set_cons_zero, List.set_cons_succ]
                        refine wpAnyH_ready (rs := [18]) (by kernel_rfl) (by simp) ?_
                        refine AllReadyH.cons (o := { dst := some 90, op := Go.Op.call { callee := Go.Callee.builtin Go.Builtin.append, args := #[Go.Operand.tmp 88, Go.Operand.tmp 89], argTypes := #[29, 29] }, type := 29, pos := "law.go:238", after := #[{ on := 16, ground := Go.Ground.data }, { on := 17, ground := Go.Ground.data }], guard := none }) rfl (fun K hK => ?_) AllReadyH.nil
                        refine hIa.step_appC rfl _ _ rfl (bc' k) wr.heap.size _ hca hlit hbk rfl rfl ?_
                        intro a7 n7 c7 w7 hc7 h7
                        have N7 := h7.n i hil
                        rw [HV.out, HN.out, if_pos rfl] at N7
                        obtain ⟨cur7, r1, -⟩ := id N7
                        obtain ⟨u7, -, y7, f7⟩ := r1.at (i := k * 8 + 4) (by omega)
                        obtain ⟨b47, t17⟩ := h7.two hil HV.out
                        have hN := NdW.setC N7 hkl hc7
                        have hJ := h7.putN hil HV.out (k * 8 + 4) (.slice a7 n7 c7) _ (by rw [HV.out, HN.out]; exact hN)
                        obtain ⟨b48, t18⟩ := hJ.two hil HV.out
                        clear r1
                        refine hK.out _ _ ⟨b47, t17⟩ (fun hHeld => ?_)
                        clear hK K
                        try simp only [Act.put, List.setIfInBounds_toArray, List.set_cons_zero, List.set_cons_succ]
                        refine wpAnyH_take (i := 19) (oi := { dst := some 91, op := Go.Op.indexAddr 22 (Go.Operand.tmp 77) (Go.Operand.tmp 78), type := 0, pos := "law.go:238", after := #[{ on := 5, ground := Go.Ground.data }, { on := 6, ground := Go.Ground.data }, { on := 0, ground := Go.Ground.phase }, { on := 1, ground := Go.Ground.phase }, { on := 2, ground := Go.Ground.phase }, { on := 3, ground := Go.Ground.phase }, { on := 4, ground := Go.Ground.phase }, { on := 5, ground := Go.Ground.phase }, { on := 6, ground := Go.Ground.phase }, { on := 7, ground := Go.Ground.phase }, { on := 8, ground := Go.Ground.phase }, { on := 9, ground := Go.Ground.phase }, { on := 10, ground := Go.Ground.phase }, { on := 11, ground := Go.Ground.phase }, { on := 12, ground := Go.Ground.phase }, { on := 13, ground := Go.Ground.phase }, { on := 14, ground := Go.Ground.phase }, { on := 15, ground := Go.Ground.phase }, { on := 16, ground := Go.Ground.phase }, { on := 17, ground := Go.Ground.phase }, { on := 18, ground := Go.Ground.phase }], guard := none }) (v := .pointer (some ⟨gn, k * 8, none⟩)) rfl (by kernel_rfl) (by kernel_rfl) (by kernel_rfl) (fun _ _ _ h => h) (Or.inl ⟨by rfl, by (intro w hSw; (try dsimp only at hSw); go_simp; try with_reducible rfl)⟩) (by assumption) ?_
                        try simp only [Act.put, List.setIfInBounds_toArray, List.set_cons_zero, List.set_cons_succ]
                        refine wpAnyH_take (i := 20) (oi := { dst := some 92, op := Go.Op.fieldAddr 40 (Go.Operand.tmp 91) 4, type := 0, pos := "law.go:238", after := #[{ on := 19, ground := Go.Ground.data }, { on := 0, ground := Go.Ground.phase }, { on := 1, ground := Go.Ground.phase }, { on := 2, ground := Go.Ground.phase }, { on := 3, ground := Go.Ground.phase }, { on := 4, ground := Go.Ground.phase }, { on := 5, ground := Go.Ground.phase }, { on := 6, ground := Go.Ground.phase }, { on := 7, ground := Go.Ground.phase }, { on := 8, ground := Go.Ground.phase }, { on := 9, ground := Go.Ground.phase }, { on := 10, ground := Go.Ground.phase }, { on := 11, ground := Go.Ground.phase }, { on := 12, ground := Go.Ground.phase }, { on := 13, ground := Go.Ground.phase }, { on := 14, ground := Go.Ground.phase }, { on := 15, ground := Go.Ground.phase }, { on := 16, ground := Go.Ground.phase }, { on := 17, ground := Go.Ground.phase }, { on := 18, ground := Go.Ground.phase }], guard := none }) (v := .pointer (some ⟨gn, k * 8 + 4, none⟩)) rfl (by kernel_rfl) (by kernel_rfl) (by kernel_rfl) (fun _ _ _ h => h) (Or.inl ⟨by rfl, by (intro w hSw; (try dsimp only at hSw); go_simp; try with_reducible rfl)⟩) (by assumption) ?_
                        try simp only [Act.put, List.setIfInBounds_toArray, List.set_cons_zero, List.set_cons_succ]
                        refine wpAnyH_ready (rs := [21]) (by kernel_rfl) (by simp) ?_
                        refine AllReadyH.cons (o := { dst := none, op := Go.Op.store 29 (Go.Operand.tmp 92) (Go.Operand.tmp 90), type := 0, pos := "law.go:238", after := #[{ on := 20, ground := Go.Ground.data }, { on := 18, ground := Go.Ground.data }, { on := 18, ground := Go.Ground.chain }, { on := 0, ground := Go.Ground.phase }, { on := 1, ground := Go.Ground.phase }, { on := 2, ground := Go.Ground.phase }, { on := 3, ground := Go.Ground.phase }, { on := 4, ground := Go.Ground.phase }, { on := 5, ground := Go.Ground.phase }, { on := 6, ground := Go.Ground.phase }, { on := 7, ground := Go.Ground.phase }, { on := 8, ground := Go.Ground.phase }, { on := 9, ground := Go.Ground.phase }, { on := 10, ground := Go.Ground.phase }, { on := 11, ground := Go.Ground.phase }, { on := 12, ground := Go.Ground.phase }, { on := 13, ground := Go.Ground.phase }, { on := 14, ground := Go.Ground.phase }, { on := 15, ground := Go.Ground.phase }, { on := 16, ground := Go.Ground.phase }, { on := 17, ground := Go.Ground.phase }, { on := 18, ground := Go.Ground.phase }], guard := none }) rfl (fun K hK => ?_) AllReadyH.nil
                        go_simp
                        refine hK.out _ _ ⟨b48, t18⟩ (fun hHeld => ?_)
                        clear hK K
                        try simp only [Act.put, List.setIfInBounds_toArray, List.set_cons_zero, List.set_cons_succ]
                        refine wpAnyH_done (by kernel_rfl) ?_ _
                        rw [bc_twice] at hJ
                        generalize hbq : (fun j => if j = k then bc' k + 3 else bc' j) = bq at *
                        have HB' : Hid (∀ k', k + 1 ≤ k' → bq k' ≤ 17592186044416) := by
                          intro k' hk'
                          rw [← hbq]
                          simp only
                          rw [if_neg (by omega)]
                          exact HB.out k' (by omega)
                        clear hgn hgG hgt hIa hca hlit hI hN N7 h7 hc7 y7 f7 b4 t1 n4 HS hbq hbk bd4 td1 ba4 ta1 b47 t17 b48 t18
                        generalize w7.setCell _ _ = w8 at *
                        have N8 := hJ.n i hil
                        rw [HV.out, HN.out, if_pos rfl] at N8
                        obtain ⟨cur8, r1, -⟩ := id N8
                        obtain ⟨u8, -, y8, f8⟩ := r1.at (i := k * 8) (by omega)
                        have b4 := cell_of_row _ _ 4 _ 52 (0, 0) hJ.bx
                        simp only [List.getElem?_toArray, List.getElem?_cons_zero, List.getElem?_cons_succ] at b4
                        obtain ⟨cur3, h3, h4⟩ := hJ.t
                        have t1 : w8.cell? ⟨gt, i * 2 + 1, none⟩ = some (nv i) := (cell_of_row w8 gt (i * 2 + 1) cur3 24 (0, 0) h3.room.2).trans (h4 i hil)
                        rw [HV.out] at t1
                        have hJ2 := hJ.putN hil HV.out (k * 8) (.int .u8 0) bq (by rw [HV.out, HN.out]; exact NdW.setK N8 (fun j => by omega))
                        rw [bc_twice] at hJ2
                        clear h3 h4 r1 N8 hJ
                        go_wp2_with fail
                        exact ⟨⟨k + 1, bq, by omega, by go_num, hJ2, HB'⟩, by simp [intOf]; omega⟩
                · have hkc : ¬ (k : Int) < (n0 : Int) := by omega
                  obtain rfl : n0 = k := by omega
                  have ka : Keep wr (wr.alloc (Obj.cells (zn ++ zn).toArray 40)).drew := ((Keep.refl wr).alloc _).drew
                  have hIa := hI.keep ka
                  have hlit : (wr.alloc (Obj.cells (zn ++ zn).toArray 40)).drew.heap[wr.heap.size]? = some (Obj.cells (zn ++ zn).toArray 40 (0, 0)) := heap_alloc_new wr _
                  have hMi : MN i ≤ 1759218604441 := (hMN.out i (Nat.le_refl _) hil).1
                  have hgG : G < wr.heap.size := (Array.getElem?_eq_some_iff.1 hI.bx).1
                  have hgt : gt < wr.heap.size := World.block_lt_of_cell? wr _ t1
                  have bd4 : wr.drew.cell? ⟨G, 4, none⟩ = some (.slice (some ⟨gt, 0, none⟩) T ct) := b4
                  have ba4 := ka.cell b4
                  unfold zn at hIa hlit ba4
                  simp only [List.cons_append, List.nil_append] at hIa hlit ba4
                  go_wp2_with fail
                  refine wp_region_held_drew (S := (fun wx => wx.cell? ⟨G, 4, none⟩ = some (.slice (some ⟨gt, 0, none⟩) T ct))) (by kernel_rfl) bd4 (fun hHeld => ?_)
                  refine wpAnyH_take (i := 0) (oi := { dst := some 103, op := Go.Op.fieldAddr 52 (Go.Operand.tmp 1) 4, type := 0, pos := "law.go:241", after := #[], guard := none }) (v := .pointer (some ⟨G, 4, none⟩)) rfl (by kernel_rfl) (by kernel_rfl) (by kernel_rfl) (fun _ _ _ h => h) (Or.inl ⟨by rfl, by (intro w hSw; (try dsimp only at hSw); go_simp; try with_reducible rfl)⟩) (by assumption) ?_
                  try simp only [Act.put, List.setIfInBounds_toArray, List.set_cons_zero, List.set_cons_succ]
                  refine wpAnyH_take (i := 1) (oi := { dst := some 104, op := Go.Op.load 50 (Go.Operand.tmp 103), type := 50, pos := "law.go:241", after := #[{ on := 0, ground := Go.Ground.data }], guard := none }) (v := .slice (some ⟨gt, 0, none⟩) T ct) rfl (by kernel_rfl) (by kernel_rfl) (by kernel_rfl) (fun _ _ _ h => h) (Or.inl ⟨by rfl, by (intro w hSw; (try dsimp only at hSw); go_simp; try with_reducible rfl)⟩) (by assumption) ?_
                  try simp only [Act.put, List.setIfInBounds_toArray, List.set_cons_zero, List.set_cons_succ]
                  refine wpAnyH_take (i := 2) (oi := { dst := some 105, op := Go.Op.move (Go.Operand.tmp 4), type := 3, pos := "law.go:241", after := #[], guard := none }) (v := .int .i64 (i : Nat)) rfl (by kernel_rfl) (by kernel_rfl) (by kernel_rfl) (fun _ _ _ h => h) (Or.inl ⟨by rfl, by (intro w hSw; (try dsimp only at hSw); go_simp; try with_reducible rfl)⟩) (by assumption) ?_
                  try simp only [Act.put, List.setIfInBounds_toArray, List.set_cons_zero, List.set_cons_succ]
                  refine wpAnyH_take (i := 3) (oi := { dst := some 106, op := Go.Op.fieldAddr 52 (Go.Operand.tmp 1) 4, type := 0, pos := "law.go:241", after := #[], guard := none }) (v := .pointer (some ⟨G, 4, none⟩)) rfl (by kernel_rfl) (by kernel_rfl) (by kernel_rfl) (fun _ _ _ h => h) (Or.inl ⟨by rfl, by (intro w hSw; (try dsimp only at hSw); go_simp; try with_reducible rfl)⟩) (by assumption) ?_
                  try simp only [Act.put, List.setIfInBounds_toArray, List.set_cons_zero, List.set_cons_succ]
                  refine wpAnyH_take (i := 4) (oi := { dst := some 107, op := Go.Op.load 50 (Go.Operand.tmp 106), type := 50, pos := "law.go:241", after := #[{ on := 3, ground := Go.Ground.data }], guard := none }) (v := .slice (some ⟨gt, 0, none⟩) T ct) rfl (by kernel_rfl) (by kernel_rfl) (by kernel_rfl) (fun _ _ _ h => h) (Or.inl ⟨by rfl, by (intro w hSw; (try dsimp only at hSw); go_simp; try with_reducible rfl)⟩) (by assumption) ?_
                  try simp only [Act.put, List.setIfInBounds_toArray, List.set_cons_zero, List.set_cons_succ]
                  refine wpAnyH_take (i := 5) (oi := { dst := some 108, op := Go.Op.move (Go.Operand.tmp 4), type := 3, pos := "law.go:241", after := #[], guard := none }) (v := .int .i64 (i : Nat)) rfl (by kernel_rfl) (by kernel_rfl) (by kernel_rfl) (fun _ _ _ h => h) (Or.inl ⟨by rfl, by (intro w hSw; (try dsimp only at hSw); go_simp; try with_reducible rfl)⟩) (by assumption) ?_
                  try simp only [Act.put, List.setIfInBounds_toArray, List.set_cons_zero, List.set_cons_succ]
                  refine wpAnyH_take (i := 6) (oi := { dst := some 109, op := Go.Op.indexAddr 50 (Go.Operand.tmp 107) (Go.Operand.tmp 108), type := 0, pos := "law.go:241", after := #[{ on := 4, ground := Go.Ground.data }, { on := 5, ground := Go.Ground.data }], guard := none }) (v := .pointer (some ⟨gt, i * 2, none⟩)) rfl (by kernel_rfl) (by kernel_rfl) (by kernel_rfl) (fun _ _ _ h => h) (Or.inl ⟨by rfl, by (intro w hSw; (try dsimp only at hSw); go_simp; try with_reducible rfl)⟩) (by assumption) ?_
                  try simp only [Act.put, List.setIfInBounds_toArray, List.set_cons_zero, List.set_cons_succ]
                  refine wpAnyH_take (i := 7) (oi := { dst := some 110, op := Go.Op.fieldAddr 24 (Go.Operand.tmp 109) 1, type := 0, pos := "law.go:241", after := #[{ on := 6, ground := Go.Ground.data }], guard := none }) (v := .pointer (some ⟨gt, i * 2 + 1, none⟩)) rfl (by kernel_rfl) (by kernel_rfl) (by kernel_rfl) (fun _ _ _ h => h) (Or.inl ⟨by rfl, by (intro w hSw; (try dsimp only at hSw); go_simp; try with_reducible rfl)⟩) (by assumption) ?_
                  try simp only [Act.put, List.setIfInBounds_toArray, List.set_cons_zero, List.set_cons_succ]
                  refine wpAnyH_take (i := 9) (oi := { dst := some 112, op := Go.Op.build 40 #[], type := 40, pos := "law.go:241", after := #[], guard := none }) (v := (.agg #[.int .u8 0, .int .i64 0, .int .i64 0, .float .f64 0, .slice none 0 0, .int .u8 0, .int .i64 0, .int .i64 0])) rfl (by kernel_rfl) (by kernel_rfl) (by kernel_rfl) (fun _ _ _ h => h) (Or.inl ⟨by rfl, by (intro w hSw; (try dsimp only at hSw); go_simp; try with_reducible rfl)⟩) (by assumption) ?_
                  try simp only [Act.put, List.setIfInBounds_toArray, List.set_cons_zero, List.set_cons_succ]
                  refine wpAnyH_take (i := 10) (oi := { dst := some 113, op := Go.Op.build 40 #[], type := 40, pos := "law.go:241", after := #[], guard := none }) (v := (.agg #[.int .u8 0, .int .i64 0, .int .i64 0, .float .f64 0, .slice none 0 0, .int .u8 0, .int .i64 0, .int .i64 0])) rfl (by kernel_rfl) (by kernel_rfl) (by kernel_rfl) (fun _ _ _ h => h) (Or.inl ⟨by rfl, by (intro w hSw; (try dsimp only at hSw); go_simp; try with_reducible rfl)⟩) (by assumption) ?_
                  try simp only [Act.put, List.setIfInBounds_toArray, List.set_cons_zero, List.set_cons_succ]
                  refine wpAnyH_ready (rs := [8, 11]) (by kernel_rfl) (by simp) ?_
                  refine AllReadyH.cons (o := { dst := some 111, op := Go.Op.load 22 (Go.Operand.tmp 110), type := 22, pos := "law.go:241", after := #[{ on := 7, ground := Go.Ground.data }], guard := none }) rfl (fun K hK => ?_) (AllReadyH.cons (o := { dst := some 114, op := Go.Op.buildSlice 22 2 #[(0, Go.Operand.tmp 112), (1, Go.Operand.tmp 113)], type := 22, pos := "law.go:241", after := #[{ on := 9, ground := Go.Ground.data }, { on := 10, ground := Go.Ground.data }], guard := none }) rfl (fun K hK => ?_) AllReadyH.nil)
                  · go_simp
                    refine hK.out _ _ bd4 (fun hHeld => ?_)
                    clear hK K
                    try simp only [Act.put, List.setIfInBounds_toArray, List.set_cons_zero, List.set_cons_succ]
                    refine wpAnyH_ready (rs := [11]) (by kernel_rfl) (by simp) ?_
                    refine AllReadyH.cons (o := { dst := some 114, op := Go.Op.buildSlice 22 2 #[(0, Go.Operand.tmp 112), (1, Go.Operand.tmp 113)], type := 22, pos := "law.go:241", after := #[{ on := 9, ground := Go.Ground.data }, { on := 10, ground := Go.Ground.data }], guard := none }) rfl (fun K hK => ?_) AllReadyH.nil
                    go_simp
                    refine hK.out _ _ ba4 (fun hHeld => ?_)
                    clear hK K
                    try simp only [Act.put, List.setIfInBounds_toArray, List.set_cons_zero, List.set_cons_succ]
                    refine wpAnyH_ready (rs := [12]) (by kernel_rfl) (by simp) ?_
                    refine AllReadyH.cons (o := { dst := some 115, op := Go.Op.call { callee := Go.Callee.builtin Go.Builtin.append, args := #[Go.Operand.tmp 111, Go.Operand.tmp 114], argTypes := #[22, 22] }, type := 22, pos := "law.go:241", after := #[{ on := 8, ground := Go.Ground.data }, { on := 11, ground := Go.Ground.data }], guard := none }) rfl (fun K hK => ?_) AllReadyH.nil
                    refine hIa.step_appN hil rfl _ _ rfl wr.heap.size hlit hMi _ HV.out rfl rfl ?_
                    intro g7 c7 w7 hN7 hA7 hO7 hg7
                    obtain ⟨b47, ⟨u7, y7⟩, f7⟩ := hIa.mid hil hO7 hg7
                    have hJ := hIa.putT hil hO7 hA7 hg7 hN7 rfl
                    have b48 := cell_of_row _ _ 4 _ 52 (0, 0) hJ.bx
                    simp only [List.getElem?_toArray, List.getElem?_cons_zero, List.getElem?_cons_succ] at b48
                    refine hK.out _ _ b47 (fun hHeld => ?_)
                    clear hK K
                    try simp only [Act.put, List.setIfInBounds_toArray, List.set_cons_zero, List.set_cons_succ]
                    refine wpAnyH_take (i := 13) (oi := { dst := some 116, op := Go.Op.indexAddr 50 (Go.Operand.tmp 104) (Go.Operand.tmp 105), type := 0, pos := "law.go:241", after := #[{ on := 1, ground := Go.Ground.data }, { on := 2, ground := Go.Ground.data }, { on := 0, ground := Go.Ground.phase }, { on := 1, ground := Go.Ground.phase }, { on := 2, ground := Go.Ground.phase }, { on := 3, ground := Go.Ground.phase }, { on := 4, ground := Go.Ground.phase }, { on := 5, ground := Go.Ground.phase }, { on := 6, ground := Go.Ground.phase }, { on := 7, ground := Go.Ground.phase }, { on := 8, ground := Go.Ground.phase }, { on := 9, ground := Go.Ground.phase }, { on := 10, ground := Go.Ground.phase }, { on := 11, ground := Go.Ground.phase }, { on := 12, ground := Go.Ground.phase }], guard := none }) (v := .pointer (some ⟨gt, i * 2, none⟩)) rfl (by kernel_rfl) (by kernel_rfl) (by kernel_rfl) (fun _ _ _ h => h) (Or.inl ⟨by rfl, by (intro w hSw; (try dsimp only at hSw); go_simp; try with_reducible rfl)⟩) (by assumption) ?_
                    try simp only [Act.put, List.setIfInBounds_toArray, List.set_cons_zero, List.set_cons_succ]
                    refine wpAnyH_take (i := 14) (oi := { dst := some 117, op := Go.Op.fieldAddr 24 (Go.Operand.tmp 116) 1, type := 0, pos := "law.go:241", after := #[{ on := 13, ground := Go.Ground.data }, { on := 0, ground := Go.Ground.phase }, { on := 1, ground := Go.Ground.phase }, { on := 2, ground := Go.Ground.phase }, { on := 3, ground := Go.Ground.phase }, { on := 4, ground := Go.Ground.phase }, { on := 5, ground := Go.Ground.phase }, { on := 6, ground := Go.Ground.phase }, { on := 7, ground := Go.Ground.phase }, { on := 8, ground := Go.Ground.phase }, { on := 9, ground := Go.Ground.phase }, { on := 10, ground := Go.Ground.phase }, { on := 11, ground := Go.Ground.phase }, { on := 12, ground := Go.Ground.phase }], guard := none }) (v := .pointer (some ⟨gt, i * 2 + 1, none⟩)) rfl (by kernel_rfl) (by kernel_rfl) (by kernel_rfl) (fun _ _ _ h => h) (Or.inl ⟨by rfl, by (intro w hSw; (try dsimp only at hSw); go_simp; try with_reducible rfl)⟩) (by assumption) ?_
                    try simp only [Act.put, List.setIfInBounds_toArray, List.set_cons_zero, List.set_cons_succ]
                    refine wpAnyH_ready (rs := [15]) (by kernel_rfl) (by simp) ?_
                    refine AllReadyH.cons (o := { dst := none, op := Go.Op.store 22 (Go.Operand.tmp 117) (Go.Operand.tmp 115), type := 0, pos := "law.go:241", after := #[{ on := 14, ground := Go.Ground.data }, { on := 12, ground := Go.Ground.data }, { on := 12, ground := Go.Ground.chain }, { on := 0, ground := Go.Ground.phase }, { on := 1, ground := Go.Ground.phase }, { on := 2, ground := Go.Ground.phase }, { on := 3, ground := Go.Ground.phase }, { on := 4, ground := Go.Ground.phase }, { on := 5, ground := Go.Ground.phase }, { on := 6, ground := Go.Ground.phase }, { on := 7, ground := Go.Ground.phase }, { on := 8, ground := Go.Ground.phase }, { on := 9, ground := Go.Ground.phase }, { on := 10, ground := Go.Ground.phase }, { on := 11, ground := Go.Ground.phase }, { on := 12, ground := Go.Ground.phase }], guard := none }) rfl (fun K hK => ?_) AllReadyH.nil
                    go_simp
                    refine hK.out _ _ b48 (fun hHeld => ?_)
                    clear hK K
                    try simp only [Act.put, List.setIfInBounds_toArray, List.set_cons_zero, List.set_cons_succ]
                    refine wpAnyH_done (by kernel_rfl) ?_ _
                    clear hIa hlit hI b47 b48 y7 f7 hHeld bd4 ba4 hN7 hO7 hg7 b4 t1 hgG hgt
                    generalize w7.setCell _ _ = w8 at *
                    go_wp2_with fail
                    refine ⟨⟨i + 1, _, _, _, _, by omega, by go_num, hJ, ?_⟩, by simp [intOf]; omega⟩
                    intro j hj hjT
                    have hji : j ≠ i := by omega
                    simp only [if_neg hji]
                    exact hMN.out j (by omega) hjT
                  · go_simp
                    refine hK.out _ _ ba4 (fun hHeld => ?_)
                    clear hK K
                    try simp only [Act.put, List.setIfInBounds_toArray, List.set_cons_zero, List.set_cons_succ]
                    refine wpAnyH_ready (rs := [8]) (by kernel_rfl) (by simp) ?_
                    refine AllReadyH.cons (o := { dst := some 111, op := Go.Op.load 22 (Go.Operand.tmp 110), type := 22, pos := "law.go:241", after := #[{ on := 7, ground := Go.Ground.data }], guard := none }) rfl (fun K hK => ?_) AllReadyH.nil
                    go_simp
                    refine hK.out _ _ ba4 (fun hHeld => ?_)
                    clear hK K
                    try simp only [Act.put, List.setIfInBounds_toArray, List.set_cons_zero, List.set_cons_succ]
                    refine wpAnyH_ready (rs := [12]) (by kernel_rfl) (by simp) ?_
                    refine AllReadyH.cons (o := { dst := some 115, op := Go.Op.call { callee := Go.Callee.builtin Go.Builtin.append, args := #[Go.Operand.tmp 111, Go.Operand.tmp 114], argTypes := #[22, 22] }, type := 22, pos := "law.go:241", after := #[{ on := 8, ground := Go.Ground.data }, { on := 11, ground := Go.Ground.data }], guard := none }) rfl (fun K hK => ?_) AllReadyH.nil
                    refine hIa.step_appN hil rfl _ _ rfl wr.heap.size hlit hMi _ HV.out rfl rfl ?_
                    intro g7 c7 w7 hN7 hA7 hO7 hg7
                    obtain ⟨b47, ⟨u7, y7⟩, f7⟩ := hIa.mid hil hO7 hg7
                    have hJ := hIa.putT hil hO7 hA7 hg7 hN7 rfl
                    have b48 := cell_of_row _ _ 4 _ 52 (0, 0) hJ.bx
                    simp only [List.getElem?_toArray, List.getElem?_cons_zero, List.getElem?_cons_succ] at b48
                    refine hK.out _ _ b47 (fun hHeld => ?_)
                    clear hK K
                    try simp only [Act.put, List.setIfInBounds_toArray, List.set_cons_zero, List.set_cons_succ]
                    refine wpAnyH_take (i := 13) (oi := { dst := some 116, op := Go.Op.indexAddr 50 (Go.Operand.tmp 104) (Go.Operand.tmp 105), type := 0, pos := "law.go:241", after := #[{ on := 1, ground := Go.Ground.data }, { on := 2, ground := Go.Ground.data }, { on := 0, ground := Go.Ground.phase }, { on := 1, ground := Go.Ground.phase }, { on := 2, ground := Go.Ground.phase }, { on := 3, ground := Go.Ground.phase }, { on := 4, ground := Go.Ground.phase }, { on := 5, ground := Go.Ground.phase }, { on := 6, ground := Go.Ground.phase }, { on := 7, ground := Go.Ground.phase }, { on := 8, ground := Go.Ground.phase }, { on := 9, ground := Go.Ground.phase }, { on := 10, ground := Go.Ground.phase }, { on := 11, ground := Go.Ground.phase }, { on := 12, ground := Go.Ground.phase }], guard := none }) (v := .pointer (some ⟨gt, i * 2, none⟩)) rfl (by kernel_rfl) (by kernel_rfl) (by kernel_rfl) (fun _ _ _ h => h) (Or.inl ⟨by rfl, by (intro w hSw; (try dsimp only at hSw); go_simp; try with_reducible rfl)⟩) (by assumption) ?_
                    try simp only [Act.put, List.setIfInBounds_toArray, List.set_cons_zero, List.set_cons_succ]
                    refine wpAnyH_take (i := 14) (oi := { dst := some 117, op := Go.Op.fieldAddr 24 (Go.Operand.tmp 116) 1, type := 0, pos := "law.go:241", after := #[{ on := 13, ground := Go.Ground.data }, { on := 0, ground := Go.Ground.phase }, { on := 1, ground := Go.Ground.phase }, { on := 2, ground := Go.Ground.phase }, { on := 3, ground := Go.Ground.phase }, { on := 4, ground := Go.Ground.phase }, { on := 5, ground := Go.Ground.phase }, { on := 6, ground := Go.Ground.phase }, { on := 7, ground := Go.Ground.phase }, { on := 8, ground := Go.Ground.phase }, { on := 9, ground := Go.Ground.phase }, { on := 10, ground := Go.Ground.phase }, { on := 11, ground := Go.Ground.phase }, { on := 12, ground := Go.Ground.phase }], guard := none }) (v := .pointer (some ⟨gt, i * 2 + 1, none⟩)) rfl (by kernel_rfl) (by kernel_rfl) (by kernel_rfl) (fun _ _ _ h => h) (Or.inl ⟨by rfl, by (intro w hSw; (try dsimp only at hSw); go_simp; try with_reducible rfl)⟩) (by assumption) ?_
                    try simp only [Act.put, List.setIfInBounds_toArray, List.set_cons_zero, List.set_cons_succ]
                    refine wpAnyH_ready (rs := [15]) (by kernel_rfl) (by simp) ?_
                    refine AllReadyH.cons (o := { dst := none, op := Go.Op.store 22 (Go.Operand.tmp 117) (Go.Operand.tmp 115), type := 0, pos := "law.go:241", after := #[{ on := 14, ground := Go.Ground.data }, { on := 12, ground := Go.Ground.data }, { on := 12, ground := Go.Ground.chain }, { on := 0, ground := Go.Ground.phase }, { on := 1, ground := Go.Ground.phase }, { on := 2, ground := Go.Ground.phase }, { on := 3, ground := Go.Ground.phase }, { on := 4, ground := Go.Ground.phase }, { on := 5, ground := Go.Ground.phase }, { on := 6, ground := Go.Ground.phase }, { on := 7, ground := Go.Ground.phase }, { on := 8, ground := Go.Ground.phase }, { on := 9, ground := Go.Ground.phase }, { on := 10, ground := Go.Ground.phase }, { on := 11, ground := Go.Ground.phase }, { on := 12, ground := Go.Ground.phase }], guard := none }) rfl (fun K hK => ?_) AllReadyH.nil
                    go_simp
                    refine hK.out _ _ b48 (fun hHeld => ?_)
                    clear hK K
                    try simp only [Act.put, List.setIfInBounds_toArray, List.set_cons_zero, List.set_cons_succ]
                    refine wpAnyH_done (by kernel_rfl) ?_ _
                    clear hIa hlit hI b47 b48 y7 f7 hHeld bd4 ba4 hN7 hO7 hg7 b4 t1 hgG hgt
                    generalize w7.setCell _ _ = w8 at *
                    go_wp2_with fail
                    refine ⟨⟨i + 1, _, _, _, _, by omega, by go_num, hJ, ?_⟩, by simp [intOf]; omega⟩
                    intro j hj hjT
                    have hji : j ≠ i := by omega
                    simp only [if_neg hji]
                    exact hMN.out j (by omega) hjT
            · have hic : ¬ (i : Int) < (T : Int) := by omega
              obtain rfl : T = i := by omega
              have hAG : A G := hI.nw G (Nat.le_of_eq HG.out)
              have hF0 := (hI.spF).keep ((Keep.refl wr).alloc (Obj.cells #[Value.int IntKind.i64 0, Value.slice none 0 0] 24))
              have l0 := news_lit _ _ _ [Value.int IntKind.i64 0, Value.slice none 0 0] (heap_alloc_new wr (Obj.cells #[Value.int IntKind.i64 0, Value.slice none 0 0] 24))
              obtain ⟨nT, cT, hT⟩ := hF0.t
              obtain ⟨aT, kT, eT, -⟩ := hT.shape
              simp only [Value.slice.injEq] at eT
              obtain ⟨rfl, rfl, rfl⟩ := eT
              clear hI hMN
              go_wp2_with (first
                | (at_builtin; refine wpList_appWS Try.underlying50 i24 rfl rfl _ _ rfl MT T _ cT rfl hT (fun b hb => hF0.nw b (Nat.le_trans hF0.size hb)) ⟨wr.heap.size, 0, none⟩ 1 1 rfl (by decide) [.int .i64 0, .slice none 0 0] rfl l0 (by intro u hu; simp at hu; rcases hu with rfl | rfl <;> rfl) (by omega) (by omega) ?_; intro g1 c1 q1 w1 hT1 hA1 hO1 hg1; obtain ⟨x1, x2, x3, x4, x5, x6, x7⟩ := hF0.one hO1 hA1 hg1 (by decide); have y1 := cell_of_row _ _ 1 _ 52 (0, 0) x6; have y4 := cell_of_row _ _ 4 _ 52 (0, 0) x6; have f4 := frozen_of_row _ _ 4 _ 52 x6; simp only [List.getElem?_toArray, List.getElem?_cons_zero, List.getElem?_cons_succ] at y1 y4; replace x6 : Hid _ := x6; have hF1 := (SpF.box (A := A) (w := w) (i := 4) (u := .slice (some ⟨g1, 0, none⟩) (T + 1) c1) (fv' := .slice fa F cf) (bv' := .slice ba b cb) (tv' := .slice (some ⟨g1, 0, none⟩) (T + 1) c1) x6.out rfl ⟨x1, x2, x3, x4, x5⟩ hF0.nw hAG (by obtain ⟨n, c, h⟩ := hF0.f; exact ⟨n, c, x7 _ _ _ _ _ _ (by decide) h⟩) (by obtain ⟨n, c, h⟩ := hF0.b; exact ⟨n, c, x7 _ _ _ _ _ _ (by decide) h⟩) ⟨_, _, hT1⟩).keep ((Keep.refl _).alloc (Obj.cells #[Value.string { data := #[120] }, Value.string { data := #[121] }] 9)); have l1 := news_lit _ _ _ [Value.string { data := #[120] }, Value.string { data := #[121] }] (heap_alloc_new (w1.setCell ⟨G, 4, none⟩ (.slice (some ⟨g1, 0, none⟩) (T + 1) c1)) (Obj.cells #[Value.string { data := #[120] }, Value.string { data := #[121] }] 9)); rw [World.size_setCell] at l1; clear hF0 hT hT1 hO1 hg1 x1 x2 x3 x4 x5 x7 l0 b4; obtain ⟨nF, cF, hW⟩ := hF1.f; obtain ⟨aF, kF, eF, -⟩ := hW.shape; simp only [Value.slice.injEq] at eF; obtain ⟨rfl, rfl, rfl⟩ := eF)
                | (at_builtin; refine wpList_appWS Try.underlying48 i9 rfl rfl _ _ rfl MF F _ cF rfl hW (fun b hb => hF1.nw b (Nat.le_trans hF1.size hb)) ⟨w1.heap.size, 0, none⟩ 2 2 rfl (by decide) [Value.string { data := #[120] }, Value.string { data := #[121] }] rfl l1 (by intro u hu; simp at hu; rcases hu with rfl | rfl <;> rfl) (by omega) (by omega) ?_; intro g2 c2 q2 w2 hT2 hA2 hO2 hg2; obtain ⟨x1, x2, x3, x4, x5, x6, x7⟩ := hF1.one hO2 hA2 hg2 (by decide); have y1 := cell_of_row _ _ 1 _ 52 (0, 0) x6; have y3 := cell_of_row _ _ 3 _ 52 (0, 0) x6; have f1 := frozen_of_row _ _ 1 _ 52 x6; simp only [List.getElem?_toArray, List.getElem?_cons_zero, List.getElem?_cons_succ] at y1 y3; replace x6 : Hid _ := x6; have hF2 := (SpF.box (A := A) (w := w) (i := 1) (u := .slice (some ⟨g2, 0, none⟩) (F + 2) c2) (fv' := .slice (some ⟨g2, 0, none⟩) (F + 2) c2) (bv' := .slice ba b cb) (tv' := .slice (some ⟨g1, 0, none⟩) (T + 1) c1) x6.out rfl ⟨x1, x2, x3, x4, x5⟩ hF1.nw hAG ⟨_, _, hT2⟩ (by obtain ⟨n, c, h⟩ := hF1.b; exact ⟨n, c, x7 _ _ _ _ _ _ (by decide) h⟩) (by obtain ⟨n, c, h⟩ := hF1.t; exact ⟨n, c, x7 _ _ _ _ _ _ (by decide) h⟩)).keep ((Keep.refl _).alloc (Obj.cells #[Value.int IntKind.i64 1, Value.int IntKind.i64 2] 2)); have l2 := news_lit _ _ _ [Value.int IntKind.i64 1, Value.int IntKind.i64 2] (heap_alloc_new (w2.setCell ⟨G, 1, none⟩ (.slice (some ⟨g2, 0, none⟩) (F + 2) c2)) (Obj.cells #[Value.int IntKind.i64 1, Value.int IntKind.i64 2] 2)); rw [World.size_setCell] at l2; clear hF1 hW hT2 hO2 hg2 x1 x2 x3 x4 x5 x7 l1; obtain ⟨nB, cB, hW⟩ := hF2.b; obtain ⟨aB, kB, eB, -⟩ := hW.shape; simp only [Value.slice.injEq] at eB; obtain ⟨rfl, rfl, rfl⟩ := eB)
                | (at_builtin; refine wpList_appWS Try.underlying49 i2 rfl rfl _ _ rfl MB b _ cB rfl hW (fun b hb => hF2.nw b (Nat.le_trans hF2.size hb)) ⟨w2.heap.size, 0, none⟩ 2 2 rfl (by decide) [Value.int IntKind.i64 1, Value.int IntKind.i64 2] rfl l2 (by intro u hu; simp at hu; rcases hu with rfl | rfl <;> rfl) (by omega) (by omega) ?_; intro g3 c3 q3 w3 hT3 hA3 hO3 hg3; obtain ⟨x1, x2, x3, x4, x5, x6, x7⟩ := hF2.one hO3 hA3 hg3 (by decide); have y1 := cell_of_row _ _ 1 _ 52 (0, 0) x6; have y3 := cell_of_row _ _ 3 _ 52 (0, 0) x6; have y4 := cell_of_row _ _ 4 _ 52 (0, 0) x6; have f3 := frozen_of_row _ _ 3 _ 52 x6; simp only [List.getElem?_toArray, List.getElem?_cons_zero, List.getElem?_cons_succ] at y1 y3 y4; replace x6 : Hid _ := x6; have hF3 := SpF.box (A := A) (w := w) (i := 3) (u := .slice (some ⟨g3, 0, none⟩) (b + 2) c3) (fv' := .slice (some ⟨g2, 0, none⟩) (F + 2) c2) (bv' := .slice (some ⟨g3, 0, none⟩) (b + 2) c3) (tv' := .slice (some ⟨g1, 0, none⟩) (T + 1) c1) x6.out rfl ⟨x1, x2, x3, x4, x5⟩ hF2.nw hAG (by obtain ⟨n, c, h⟩ := hF2.f; exact ⟨n, c, x7 _ _ _ _ _ _ (by decide) h⟩) ⟨_, _, hT3⟩ (by obtain ⟨n, c, h⟩ := hF2.t; exact ⟨n, c, x7 _ _ _ _ _ _ (by decide) h⟩)))
              try simp only [Exit.inBlock, Exit.then]
              go_end0
              exact ⟨rfl, hF3.os, hF3.tape, hF3.output, hF3.size, hF3.kp⟩
end Go.Proofs.Ytbchinfmdioijaa
