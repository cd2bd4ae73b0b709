import Derived.Test.YtlfkdmddlnekiaaG7
set_option linter.unusedVariables false
set_option linter.unusedSimpArgs false
namespace Go.Proofs.Ytlfkdmddlnekiaa
open Go.RowKit
theorem Keep.setCell {a b : World} (h : Keep a b) {p : Addr} (hp : a.heap.size ≤ p.block) (u : Value) : Keep a (b.setCell p u) := Below.setCell h hp u
set_option maxRecDepth 100000 in
set_option maxHeartbeats 1000000 in
theorem rGet_any (j : J) (v : Value) (nm : ByteArray) (w : World) (hv : RdV w v j) :
    Calls Try.prog 5 #[v, .string nm] w fun e w' => ∃ v' r ok, e = .returned (.tuple #[v', .bool ok]) ∧ RdV w' v' r ∧ IsGet j nm r ok ∧ Keep w w' := by
  cases hv with
  | mk k t ns is an cn ai ci X hk hn ln li hx hr =>
  obtain ⟨w0, hw0, k0, tb, tc⟩ : ∃ w0, (w.alloc (Obj.cells #[.int .u8 (k : Nat), .string t, .slice an ns.length cn, .slice ai is.length ci] 26)).alloc (Obj.cells #[.int .u8 0, .string ByteArray.empty, .slice none 0 0, .slice none 0 0] 26) = w0 ∧ Keep w w0 ∧ w0.heap[w.heap.size]? = some (Obj.cells #[.int .u8 (k : Nat), .string t, .slice an ns.length cn, .slice ai is.length ci] 26 (0, 0)) ∧ w0.heap[w.heap.size + 1]? = some (Obj.cells #[.int .u8 0, .string ByteArray.empty, .slice none 0 0, .slice none 0 0] 26 (0, 0)) := by
    refine ⟨_, rfl, ((Keep.refl w).alloc _).alloc _, ?_, ?_⟩
    · have hs : w.heap.size < (w.alloc (Obj.cells #[.int .u8 (k : Nat), .string t, .slice an ns.length cn, .slice ai is.length ci] 26)).heap.size := by simp
      exact (((Keep.refl (w.alloc (Obj.cells #[.int .u8 (k : Nat), .string t, .slice an ns.length cn, .slice ai is.length ci] 26))).alloc _).block _ hs).trans (heap_alloc_new w _)
    · have hs : (w.alloc (Obj.cells #[.int .u8 (k : Nat), .string t, .slice an ns.length cn, .slice ai is.length ci] 26)).heap.size = w.heap.size + 1 := by simp
      rw [← hs]
      exact heap_alloc_new _ _
  have a0 := cell_of_row _ _ 0 _ 26 (0, 0) tb
  have a1 := cell_of_row _ _ 1 _ 26 (0, 0) tb
  have a2 := cell_of_row _ _ 2 _ 26 (0, 0) tb
  have a3 := cell_of_row _ _ 3 _ 26 (0, 0) tb
  have b0 := cell_of_row _ _ 0 _ 26 (0, 0) tc
  have b1 := cell_of_row _ _ 1 _ 26 (0, 0) tc
  have b2 := cell_of_row _ _ 2 _ 26 (0, 0) tc
  have b3 := cell_of_row _ _ 3 _ 26 (0, 0) tc
  simp only [List.getElem?_toArray, List.getElem?_cons_zero, List.getElem?_cons_succ] at a0 a1 a2 a3 b0 b1 b2 b3
  have q0 := frozen_of_row _ _ 0 _ 26 tc
  have q1 := frozen_of_row _ _ 1 _ 26 tc
  have q2 := frozen_of_row _ _ 2 _ 26 tc
  have q3 := frozen_of_row _ _ 3 _ 26 tc
  have hgl : w.heap.size ≤ w.heap.size + 1 := Nat.le_succ _
  have hkf : ∀ x0 x1 x2 x3 : Value, Keep w ((((w0.setCell ⟨w.heap.size + 1, 0, none⟩ x0).setCell ⟨w.heap.size + 1, 1, none⟩ x1).setCell ⟨w.heap.size + 1, 2, none⟩ x2).setCell ⟨w.heap.size + 1, 3, none⟩ x3) := fun x0 x1 x2 x3 =>
    (((k0.setCell (p := ⟨w.heap.size + 1, 0, none⟩) hgl x0).setCell (p := ⟨w.heap.size + 1, 1, none⟩) hgl x1).setCell (p := ⟨w.heap.size + 1, 2, none⟩) hgl x2).setCell (p := ⟨w.heap.size + 1, 3, none⟩) hgl x3
  replace hkf : Hid _ := hkf
  go_enter Try.func5, Try.ntmps5
  go_wp2_with fail
  go_loopg [6] ns.length (fun gg s6 wx => w0 = wx ∧ ∃ i : Nat, i ≤ ns.length ∧ gg = ns.length - i ∧ s6 = .int .i64 i ∧ Hid (∀ p, p < i → ns.getD p ByteArray.empty ≠ nm))
  case atStart => exact ⟨hw0.symm, 0, by omega, by omega, rfl, fun p hp => by omega⟩
  case round =>
    obtain ⟨rfl, i, hi, rfl, rfl, hq⟩ := hrel
    by_cases hil : i < ns.length
    · by_cases hk7 : k = 7
      · have c1 : ((k : Int) == 7) = true := by rw [beq_iff_eq]; omega
        replace hk7 : Hid _ := hk7
        obtain ⟨bb, oo, hae, hc⟩ := (hn.keep k0) i hil
        obtain ⟨s, hs1⟩ : ∃ s, ns.getD i ByteArray.empty = s := ⟨_, rfl⟩
        rw [hs1] at hc
        replace hs1 : Hid _ := hs1
        subst hae
        by_cases hss : s = nm
        · subst hss
          have c2 : (s.toList == s.toList) = true := by simp
          have hat : Hid (IsAt ns s i) := ⟨hil, hs1.out, hq.out⟩
          by_cases hii : i < is.length
          · have c3 : decide ((is.length : Int) ≤ (i : Int)) = false := decide_eq_false (by omega)
            have hi3 : i ≤ 140737488355328 := by omega
            obtain ⟨bb2, oo2, hae2, hd0, hd1, hd2, hd3⟩ := hx i hii
            have g0 := Keep.cell k0 hd0
            have g1 := Keep.cell k0 hd1
            have g2 := Keep.cell k0 hd2
            have g3 := Keep.cell k0 hd3
            have hri := hr i hii
            subst hae2
            clear hx hr hd0 hd1 hd2 hd3
            generalize (X i).1 = A0 at *
            generalize (X i).2.1 = A1 at *
            generalize (X i).2.2.1 = A2 at *
            generalize (X i).2.2.2 = A3 at *
            obtain ⟨u1, u2, u3, u4, u5, u6, u7, u8, rfl, rfl, rfl, rfl⟩ := hri.shape
            go_wp2_with fail
            refine bodyPost_ret (results_box4 rfl _ _ (w.heap.size + 1) _ _ _ _ rfl (heap4 _ (w.heap.size + 1) _ _ _ _ tc)) rfl ?_
            exact ⟨_, _, true, rfl, hri.keep (hkf.out _ _ _ _), .inl ⟨rfl, hk7.out, i, hat.out, hii, rfl⟩, hkf.out _ _ _ _⟩
          · have c3 : decide ((is.length : Int) ≤ (i : Int)) = true := decide_eq_true (by omega)
            clear hx hr
            go_wp2_with fail
            refine bodyPost_ret (results_box4 rfl _ _ (w.heap.size + 1) _ _ _ _ rfl (heap4 _ (w.heap.size + 1) _ _ _ _ tc)) rfl ?_
            refine ⟨_, _, false, rfl, rdv0 _, .inr ⟨rfl, rfl, .inr fun p hp => ?_⟩, hkf.out _ _ _ _⟩
            rw [isAt_one hp hat.out]
            simp only [J.is]
            omega
        · have c2 := ba_ne hss
          clear hx hr
          go_wp2_with fail
          go_roundg (ns.length - (i + 1))
          case measure => omega
          case rel =>
            refine ⟨rfl, i + 1, by omega, rfl, by go_num, ?_⟩
            intro p hp
            by_cases hpj : p = i
            · subst hpj; rw [hs1.out]; exact hss
            · exact hq.out p (by omega)
      · have c1 : ((k : Int) == 7) = false := by rw [beq_eq_false_iff_ne]; omega
        clear hx hr
        go_wp2_with fail
        refine bodyPost_ret (results_box4 rfl _ _ (w.heap.size + 1) _ _ _ _ rfl (heap4 _ (w.heap.size + 1) _ _ _ _ tc)) rfl ?_
        exact ⟨_, _, false, rfl, rdv0 _, .inr ⟨rfl, rfl, .inl hk7⟩, hkf.out _ _ _ _⟩
    · clear hx hr
      go_wp2_with fail
      refine bodyPost_ret (results_box4 rfl _ _ (w.heap.size + 1) _ _ _ _ rfl (heap4 _ (w.heap.size + 1) _ _ _ _ tc)) rfl ?_
      refine ⟨_, _, false, rfl, rdv0 _, .inr ⟨rfl, rfl, .inr fun p hp => ?_⟩, hkf.out _ _ _ _⟩
      exact absurd hp.2.1 (hq.out p (by have := hp.1; simp only [J.ns] at this; omega))
end Go.Proofs.Ytlfkdmddlnekiaa
