import Derived.Test.YtjiflgdbgpegiaaSG0
import Derived.Test.YtjiflgdbgpegiaaSD1
set_option linter.unusedVariables false
set_option linter.unusedSimpArgs false
namespace Go.Proofs.Ytjiflgdbgpegiaa
open Go.RowKit Go.Shelf
/-- A block of marks. -/
def RwB (w : World) (g : Nat) (u : List Bool) : Prop := w.heap[g]? = some (.cells (u.map Value.bool).toArray 4 (0, 0))
theorem RwB.cell {w : World} {g : Nat} {u : List Bool} (h : RwB w g u) {j : Nat} (hj : j < u.length) : w.cell? ⟨g, j, none⟩ = some (.bool (u.getD j false)) := by
  rw [cell_of_row w g j _ 4 (0, 0) h]
  simp [List.getD, hj]
theorem RwB.frozen {w : World} {g : Nat} {u : List Bool} (h : RwB w g u) (j : Nat) : w.frozen? ⟨g, j, none⟩ = false := frozen_of_row w g j _ 4 h
theorem RwB.set {w : World} {g : Nat} {u : List Bool} (h : RwB w g u) (j : Nat) (x : Bool) : RwB (w.setCell ⟨g, j, none⟩ (.bool x)) g (u.set j x) := by
  have := heap_setCell_same w g j _ 4 (.bool x) h
  unfold RwB
  rw [this]
  simp [List.map_set]
theorem RwB.drewN {w : World} {g : Nat} {u : List Bool} (h : RwB w g u) (n : Nat) : RwB (w.drewN n) g u := by
  unfold RwB
  rw [(heap_drewN w n).1]
  exact h
theorem i4 : (Try.prog.info? 4).map (fun i => (i.zero, i.size, i.bytes)) = some (some (.bool false), 1, 1) := by kernel_rfl
theorem madeB (n : Nat) : madeCells (Value.bool false).cells n = ((List.replicate n false).map Value.bool).toArray := by
  have := toList_madeCells_one (.bool false) n
  rw [← Array.toList_inj]
  simp only [List.map_replicate]
  exact this
/-- make([]bool, n). -/
theorem wpList_makeB (w : World) {ops : Array Oper} {rest : List Oper} {o : Oper} {a : Act} {Q : Exit → Act → World → Prop}
    (hg : o.guard = none) (l c : Operand) (hop : o.op = Op.makeSlice 96 l c) (kl kc : IntKind) (L C : Int) (n : Nat) (hl : a.eval l = .int kl L) (hc : a.eval c = .int kc C) (hL : L = (n : Int)) (hC : C = (n : Int)) (hn : n ≤ 17592186044416)
    (hK : ∀ w', RwB w' w.heap.size (List.replicate n false) → Keep w w' → w'.heap.size = w.heap.size + 1 → wpList Try.prog ops Q rest (a.put o.dst (.slice (some ⟨w.heap.size, 0, none⟩) n n)) w') :
    wpList Try.prog ops Q (o :: rest) a w := by
  refine wpList_plain hg fun K hK' => ?_
  obtain ⟨i, hi, hz0, hz1, hz2⟩ := info_parts i4
  have hr := run_make (P := Try.prog) w 96 4 i _ Try.underlying96 hi hz0 kl kc n n (by omega) (by omega) (by rw [hz2]; omega) (by omega)
  subst hL
  subst hC
  rw [hz1] at hr
  unfold Oper.wp
  simp only [Int.toNat_natCast, Nat.mul_one, madeB] at hr
  simp [execOp, hop, hl, hc, hr, Result.andThen]
  exact hK' _ _ (hK _ (by unfold RwB; rw [heap_alloc_new]; simp) ((Keep.refl w).alloc _) (by simp))
theorem Oth.cell {g : Nat} {a b : World} (h : Oth g a b) {p : Addr} (hp : p.block ≠ g) {v : Value} (hc : a.cell? p = some v) : b.cell? p = some v := by
  have hb := h.block p.block hp
  unfold World.cell? at hc ⊢
  rw [hb]
  exact hc
set_option maxRecDepth 100000 in
set_option maxHeartbeats 8000000 in
/-- Each of one list has one of its own in the other. -/
theorem counts_any (pa pb : Option Addr) (ca cb n : Nat) (a b : List Nat) (w : World) (hla : a.length = n) (hlb : b.length = n) (hl : n ≤ 17592186044416) (hFa : F64 a) (hFb : F64 b) (hp : b.Perm a) (hA : RdV w pa a) (hB : RdV w pb b) :
    Calls Try.prog 50 #[.slice pa n ca, .slice pb n cb] w fun e w' => e = .returned (.bool true) ∧ Keep w w' := by
  have HA : Hid (∀ i, i < n → ∃ g o, pa = some ⟨g, o, none⟩ ∧ w.cell? ⟨g, o + i, none⟩ = some (.float .f64 (a.getD i 0)) ∧ a.getD i 0 < 18446744073709551616) := fun i hi => by
    obtain ⟨g, o, e, q⟩ := hA i (by omega)
    exact ⟨g, o, e, q, hFa.at i (by omega)⟩
  have HB : Hid (∀ i, i < n → ∃ g o, pb = some ⟨g, o, none⟩ ∧ w.cell? ⟨g, o + i, none⟩ = some (.float .f64 (b.getD i 0)) ∧ b.getD i 0 < 18446744073709551616) := fun i hi => by
    obtain ⟨g, o, e, q⟩ := hB i (by omega)
    exact ⟨g, o, e, q, hFb.at i (by omega)⟩
  have HP : Hid (b.Perm a ∧ a.length = n ∧ b.length = n) := ⟨hp, hla, hlb⟩
  have hf := fun x wx => f64bits x wx
  clear hA hB hFa hFb hp hla hlb
  go_enter Try.func50, Try.ntmps50
  go_wp2_with (at_make; refine wpList_makeB _ rfl _ _ rfl _ _ _ _ n rfl rfl rfl rfl hl ?_; intro w1 hr1 k1 z1; replace hr1 : Hid (RwB w1 w.heap.size (List.replicate n false)) := hr1; replace k1 : Hid (Keep w w1) := k1; replace z1 : Hid (w1.heap.size = w.heap.size + 1) := z1)
  obtain ⟨G, hG⟩ : ∃ G, w.heap.size = G := ⟨_, rfl⟩
  have HG : Hid (w.heap.size = G) := hG
  rw [hG] at hr1 ⊢
  have HC : Hid (∀ (wr : World) (q : Addr) (v : Value), Oth G w1 wr → w.cell? q = some v → wr.cell? q = some v) := by
    intro wr q v ho hc
    have h1 := World.block_lt_of_cell? w q hc
    exact ho.cell (by have := HG.out; omega) (k1.out.cell hc)
  clear hG z1
  go_loopw [6] (fun iv wr => ∃ (i : Nat) (used : List Bool), iv = .int .i64 (i : Int) ∧ i ≤ n ∧ Hid (Mkd a b i used) ∧ RwB wr G used ∧ Oth G w1 wr) (fun iv _ => n - (intOf iv).toNat)
  case atStart => exact ⟨0, List.replicate n false, rfl, by omega, by have := Mkd.start a b; rw [HP.out.2.2] at this; exact this, hr1.out, Oth.refl _ _⟩
  case round =>
    obtain ⟨i, used0, rfl, hi, hM, hR0, ko0⟩ := hrel
    by_cases hin : i < n
    · have hic : (i : Int) < (n : Int) := by omega
      obtain ⟨ga, oa, rfl, ca0, hx64⟩ := HA.out i hin
      obtain ⟨x, hx⟩ : ∃ x, a.getD i 0 = x := ⟨_, rfl⟩
      have HX : Hid (a.getD i 0 = x) := hx
      rw [hx] at ca0 hx64
      have HU0 : Hid (used0.length = n) := by have := hM.out.1; rw [HP.out.2.2] at this; exact this
      have HR0 : Hid (RwB wr G used0 ∧ Oth G w1 wr) := ⟨hR0, ko0⟩
      clear hx hR0 ko0 hr1
      go_wp2_with fail
      go_loopw [7, 8] (fun fv kv wr => ∃ (k : Nat) (fb : Bool) (used : List Bool), kv = .int .i64 (k : Int) ∧ fv = .bool fb ∧ k ≤ n ∧ RwB wr G used ∧ Oth G w1 wr ∧ ((fb = false ∧ used = used0 ∧ ∀ j, j < k → ¬ (used0.getD j false = false ∧ cls (b.getD j 0) = cls x)) ∨ (fb = true ∧ Mkd a b (i + 1) used))) (fun _ kv _ => n - (intOf kv).toNat)
      case atStart => exact ⟨0, false, used0, rfl, rfl, by omega, HR0.out.1, HR0.out.2, .inl ⟨rfl, rfl, fun j hj => by omega⟩⟩
      case round =>
        obtain ⟨k, fb, used, rfl, rfl, hk, hR, ko, hcase⟩ := hrel
        rcases hcase with ⟨rfl, rfl, hno0⟩ | ⟨rfl, hM2⟩
        · have hno : Hid (∀ j, j < k → ¬ (used.getD j false = false ∧ cls (b.getD j 0) = cls x)) := hno0
          have HU : Hid (used.length = n) := HU0
          clear hno0
          by_cases hkn : k < n
          · have hkc : (k : Int) < (n : Int) := by omega
            obtain ⟨gb, ob, rfl, cb0, hy64⟩ := HB.out k hkn
            obtain ⟨y, hy⟩ : ∃ y, b.getD k 0 = y := ⟨_, rfl⟩
            rw [hy] at cb0 hy64
            have cx := HC.out wr _ _ ko ca0
            have cy := HC.out wr _ _ ko cb0
            have cu := hR.cell (j := k) (by have := HU.out; omega)
            have fu := hR.frozen k
            have hfx := fun wx => hf x wx
            have hfy := fun wx => hf y wx
            by_cases hu : used.getD k false = true
            · rw [hu] at cu
              have HNO : Hid (¬ (used.getD k false = false ∧ cls (b.getD k 0) = cls x)) := by rintro ⟨q, -⟩; rw [hu] at q; cases q
              clear hu hy cb0 hkn
              go_wp2_with fail
              refine wp_region_quiet_lit (by kernel_rfl) (by kernel_rfl) ?_
              iterate 40
                with_reducible refine wpQuiet_step ?_
                intro K hK
                go_simp
                first
                  | (with_reducible refine hK _ ?_; clear hK K)
                  | (with_reducible refine (if_neg ?_).mpr (hK _ ?_)
                     · decide
                     clear hK K)
                  | (apply Exists.intro
                     refine ⟨fun _ => ?_, hK _ ?_⟩
                     · with_reducible rfl
                     clear hK K)
              refine wpQuiet_nil ?_
              rintro _ ⟨nq, rfl⟩
              go_wp2_with fail
              refine ⟨⟨k + 1, false, used, by go_num, rfl, by omega, hR.drewN nq, ko.drewN nq, .inl ⟨rfl, rfl, fun j hj => ?_⟩⟩, ?_⟩
              · by_cases e : j = k
                · rw [e]; exact HNO.out
                · exact hno.out j (by omega)
              · simp [intOf]; omega
            · have hu0 : used.getD k false = false := by simpa using hu
              rw [hu0] at cu
              have HST : Hid (cls y = cls x → Mkd a b (i + 1) (used.set k true)) := by
                intro q
                refine hM.out.step (by rw [HP.out.2.1]; exact hin) (by rw [HP.out.2.2]; exact hkn) hu0 ?_
                rw [hy, HX.out]; exact q
              have HY : Hid (b.getD k 0 = y) := hy
              clear hu hy cb0
              by_cases hxy : x = y
              · subst hxy
                replace HST : Hid (Mkd a b (i + 1) (used.set k true)) := HST.out rfl
                go_wp2_with fail
                refine wp_region_quiet_lit (by kernel_rfl) (by kernel_rfl) ?_
                iterate 40
                  with_reducible refine wpQuiet_step ?_
                  intro K hK
                  go_simp
                  first
                    | (with_reducible refine hK _ ?_; clear hK K)
                    | (with_reducible refine (if_neg ?_).mpr (hK _ ?_)
                       · decide
                       clear hK K)
                    | (apply Exists.intro
                       refine ⟨fun _ => ?_, hK _ ?_⟩
                       · with_reducible rfl
                       clear hK K)
                refine wpQuiet_nil ?_
                rintro _ ⟨nq, rfl⟩
                have hR2 := hR.drewN nq
                have ko2 := ko.drewN nq
                generalize wr.drewN nq = wv at hR2 ko2 ⊢
                have cu2 := hR2.cell (j := k) (by have := HU.out; omega)
                have fu2 := hR2.frozen k
                rw [hu0] at cu2
                have q1 := hR2.set k true
                have q2 := ko2.set k (.bool true)
                have Q1 : Hid (RwB (wv.setCell ⟨G, k, none⟩ (.bool true)) G (used.set k true)) := q1
                clear cu fu q1 hR2
                go_wp2_with fail
                refine ⟨⟨k + 1, true, used.set k true, by go_num, rfl, by omega, Q1.out, q2, .inr ⟨rfl, HST.out⟩⟩, ?_⟩
                simp [intOf]; omega
              · have hxc : ¬ ((x : Int) = (y : Int)) := by omega
                have hxb : ((x : Int) == (y : Int)) = false := by simpa using hxc
                by_cases hxn : isNaN x
                · have oxx : FloatKind.f64.format.order x x = none := ord_nan (.inl hxn)
                  by_cases hyn : isNaN y
                  · have oyy : FloatKind.f64.format.order y y = none := ord_nan (.inl hyn)
                    replace HST : Hid (Mkd a b (i + 1) (used.set k true)) := HST.out (by rw [cls_nan hxn, cls_nan hyn])
                    go_wp2_with fail
                    refine wp_region_quiet_lit (by kernel_rfl) (by kernel_rfl) ?_
                    iterate 40
                      with_reducible refine wpQuiet_step ?_
                      intro K hK
                      go_simp
                      first
                        | (with_reducible refine hK _ ?_; clear hK K)
                        | (with_reducible refine (if_neg ?_).mpr (hK _ ?_)
                           · decide
                           clear hK K)
                        | (apply Exists.intro
                           refine ⟨fun _ => ?_, hK _ ?_⟩
                           · with_reducible rfl
                           clear hK K)
                    refine wpQuiet_nil ?_
                    rintro _ ⟨nq, rfl⟩
                    have hR2 := hR.drewN nq
                    have ko2 := ko.drewN nq
                    generalize wr.drewN nq = wv at hR2 ko2 ⊢
                    have cu2 := hR2.cell (j := k) (by have := HU.out; omega)
                    have fu2 := hR2.frozen k
                    rw [hu0] at cu2
                    have q1 := hR2.set k true
                    have q2 := ko2.set k (.bool true)
                    have Q1 : Hid (RwB (wv.setCell ⟨G, k, none⟩ (.bool true)) G (used.set k true)) := q1
                    clear cu fu q1 hR2
                    go_wp2_with fail
                    refine ⟨⟨k + 1, true, used.set k true, by go_num, rfl, by omega, Q1.out, q2, .inr ⟨rfl, HST.out⟩⟩, ?_⟩
                    simp [intOf]; omega
                  · have oyy : FloatKind.f64.format.order y y = some .eq := ord_eq hy64 hy64 hyn hyn rfl
                    have HNO : Hid (¬ (used.getD k false = false ∧ cls (b.getD k 0) = cls x)) := by
                      rintro ⟨-, q⟩
                      rw [HY.out] at q
                      rcases cls_ne hy64 hx64 q with q | q
                      · exact hxy q.symm
                      · exact hyn q.1
                    clear hu0 HST
                    go_wp2_with fail
                    refine wp_region_quiet_lit (by kernel_rfl) (by kernel_rfl) ?_
                    iterate 40
                      with_reducible refine wpQuiet_step ?_
                      intro K hK
                      go_simp
                      first
                        | (with_reducible refine hK _ ?_; clear hK K)
                        | (with_reducible refine (if_neg ?_).mpr (hK _ ?_)
                           · decide
                           clear hK K)
                        | (apply Exists.intro
                           refine ⟨fun _ => ?_, hK _ ?_⟩
                           · with_reducible rfl
                           clear hK K)
                    refine wpQuiet_nil ?_
                    rintro _ ⟨nq, rfl⟩
                    go_wp2_with fail
                    refine ⟨⟨k + 1, false, used, by go_num, rfl, by omega, hR.drewN nq, ko.drewN nq, .inl ⟨rfl, rfl, fun j hj => ?_⟩⟩, ?_⟩
                    · by_cases e : j = k
                      · rw [e]; exact HNO.out
                      · exact hno.out j (by omega)
                    · simp [intOf]; omega
                · have oxx : FloatKind.f64.format.order x x = some .eq := ord_eq hx64 hx64 hxn hxn rfl
                  have HNO : Hid (¬ (used.getD k false = false ∧ cls (b.getD k 0) = cls x)) := by
                    rintro ⟨-, q⟩
                    rw [HY.out] at q
                    rcases cls_ne hy64 hx64 q with q | q
                    · exact hxy q.symm
                    · exact hxn q.2
                  clear hu0 HST
                  go_wp2_with fail
                  refine wp_region_quiet_lit (by kernel_rfl) (by kernel_rfl) ?_
                  iterate 40
                    with_reducible refine wpQuiet_step ?_
                    intro K hK
                    go_simp
                    first
                      | (with_reducible refine hK _ ?_; clear hK K)
                      | (with_reducible refine (if_neg ?_).mpr (hK _ ?_)
                         · decide
                         clear hK K)
                      | (apply Exists.intro
                         refine ⟨fun _ => ?_, hK _ ?_⟩
                         · with_reducible rfl
                         clear hK K)
                  refine wpQuiet_nil ?_
                  rintro _ ⟨nq, rfl⟩
                  go_wp2_with fail
                  refine ⟨⟨k + 1, false, used, by go_num, rfl, by omega, hR.drewN nq, ko.drewN nq, .inl ⟨rfl, rfl, fun j hj => ?_⟩⟩, ?_⟩
                  · by_cases e : j = k
                    · rw [e]; exact HNO.out
                    · exact hno.out j (by omega)
                  · simp [intOf]; omega
          · exfalso
            obtain ⟨j, h1, h2, h3⟩ := hM.out.left HP.out.1 (by rw [HP.out.2.1]; exact hin)
            rw [HX.out] at h3
            exact hno.out j (by rw [HP.out.2.2] at h1; omega) ⟨h2, h3⟩
        · have HM2 : Hid (Mkd a b (i + 1) used) := hM2
          clear hM2
          by_cases hkn : k < n
          · have hkc : (k : Int) < (n : Int) := by omega
            go_wp2_with fail
            refine ⟨⟨i + 1, used, by go_num, by omega, HM2, hR, ko⟩, ?_⟩
            simp [intOf]; omega
          · have hkc : ¬ (k : Int) < (n : Int) := by omega
            go_wp2_with fail
            refine ⟨⟨i + 1, used, by go_num, by omega, HM2, hR, ko⟩, ?_⟩
            simp [intOf]; omega
    · have hic : ¬ (i : Int) < (n : Int) := by omega
      have hkk : Hid (Keep w wr) := k1.out.oth ko0 (by have := HG.out; omega)
      go_wp2_with fail
      go_ret
      exact ⟨rfl, hkk.out⟩
end Go.Proofs.Ytjiflgdbgpegiaa
