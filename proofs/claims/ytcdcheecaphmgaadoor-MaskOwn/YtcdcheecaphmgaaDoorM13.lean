import Derived.Test.YtcdcheecaphmgaaDoorM11
import Derived.Test.YtcdcheecaphmgaaDoorYX4
import Derived.Test.YtcdcheecaphmgaaDoorYV2
set_option linter.unusedVariables false
set_option linter.unusedSimpArgs false
namespace Go.Proofs.YtcdcheecaphmgaaDoor
open Go.RowKit Go.Shelf
attribute [local go_sem] run_store_float
def lvG (L : List Nd) (m : Nat) : Int := if lvE L ≠ 0 then lvE L else if lackB L m then 72 else 0
set_option maxRecDepth 100000 in
set_option maxHeartbeats 1000000 in
theorem leavesFor_any (a ax : Option Addr) (cap m cx : Nat) (out : Int) (L : List Nd) (hLn : L.length ≤ 2199023255552) (hm : m ≤ 17592186044416) (w : World) (hrd : RdN w a L) :
    Calls Tryd.prog 43 #[.agg #[.int .i64 out, .slice a L.length cap], .slice ax m cx] w fun e w' => ∃ v, e = .returned (.tuple #[v, .int .i64 (lvG L m)]) ∧ (lvG L m = 0 → OwnI w' v (lvs L) ∧ ∀ b, v.ownBlock = some b → w.heap.size ≤ b) ∧ (lvG L m ≠ 0 → v = .slice none 0 0) ∧ Keep w w' := by
  have k0 : Keep w (w.alloc (Obj.cells #[Value.int IntKind.i64 out, Value.slice a L.length cap] 24)) := (Keep.refl w).alloc _
  have tb : (w.alloc (Obj.cells #[Value.int IntKind.i64 out, Value.slice a L.length cap] 24)).heap[w.heap.size]? = some (Obj.cells #[Value.int IntKind.i64 out, Value.slice a L.length cap] 24 (0, 0)) := heap_alloc_new w _
  have hC := leavesOf_any a cap out L hLn _ (hrd.keep k0)
  go_enter Tryd.func43, Tryd.ntmps43
  go_wp2_with fail
  generalize w.alloc (Obj.cells #[Value.int IntKind.i64 out, Value.slice a L.length cap] 24) = w1 at *
  refine hC.mono ?_
  rintro e w2 ⟨v, rfl, h1, h2, k2⟩
  have k02 := k0.trans k2
  by_cases hE : lvE L = 0
  · have c1 : (lvE L != 0) = false := by rw [bne_eq_false_iff_eq]; exact hE
    obtain ⟨-, hR, -, b, hb, hlv, hn⟩ := lvE_ok hE
    have t2 := (k2.block _ (Array.getElem?_eq_some_iff.1 tb).1).trans tb
    have x1 := cell_of_row _ _ 1 _ 24 (0, 0) t2
    simp only [List.getElem?_toArray, List.getElem?_cons_zero, List.getElem?_cons_succ] at x1
    obtain ⟨h1, h1b⟩ := h1 hE
    obtain ⟨av, cv, rfl, -⟩ := h1.shape
    have h1b' : ∀ b, (Value.slice av (lvs L).length cv).ownBlock = some b → w.heap.size ≤ b := fun b hb => Nat.le_trans k0.le (h1b b hb)
    replace hE : Hid _ := hE
    replace hlv : Hid _ := hlv
    replace h1 : Hid _ := h1
    replace h1b' : Hid _ := h1b'
    clear hC h2 t2 h1b
    go_wp2_with fail
    clear x1
    go_loopw [21] (fun iv wr => Keep w2 wr ∧ ∃ (i : Nat), i ≤ L.length ∧ iv = .int .i64 i ∧ Hid (∀ k, k < i → ¬ (((L.getD k nd0).kd = 2 ∨ (L.getD k nd0).kd = 3) ∧ (m : Int) ≤ (L.getD k nd0).ft))) (fun iv _ => L.length - (intOf iv).toNat)
    case atStart => exact ⟨Keep.refl _, 0, by omega, rfl, fun k hk => by omega⟩
    case round =>
      obtain ⟨kw, i, hi, rfl, hq⟩ := hrel
      by_cases hil : i < L.length
      · have hic : (i : Int) < (L.length : Int) := by omega
        obtain ⟨bb, o, ca, cpn, rfl, hN⟩ := hrd.keep (k02.trans kw) i hil
        have hrt := hR.2 i hil
        obtain ⟨N, hNd⟩ : ∃ N, L.getD i nd0 = N := ⟨_, rfl⟩
        rw [hNd] at hN hrt
        have c0 := hN.c0
        have c1' := hN.c1
        have c2 := hN.c2
        have c3 := hN.c3
        have c4 := hN.c4
        have c5 := hN.c5
        have c6 := hN.c6
        have c7 := hN.c7
        have hkx : Hid (N.kd ≠ 1 ↔ (N.kd = 2 ∨ N.kd = 3)) := by
          show _ ↔ _
          unfold rightB at hrt
          by_cases e1 : N.kd = 1
          · simp [e1]
          · by_cases e2 : N.kd = 2
            · simp [e2]
            · by_cases e3 : N.kd = 3
              · simp [e3]
              · rw [if_neg e1, if_neg e2, if_neg e3] at hrt; cases hrt
        have kx : Keep w2 (wr.alloc (Obj.cells #[Value.int IntKind.u8 N.kd, Value.int IntKind.i64 N.vl, Value.int IntKind.i64 N.ft, Value.float FloatKind.f64 N.th, Value.slice ca N.cs.length cpn, Value.int IntKind.u8 N.ms, Value.int IntKind.i64 N.lf, Value.int IntKind.i64 N.rt] 63)) := kw.alloc _
        have hib : i ≤ 2199023255552 := by omega
        replace hNd : Hid _ := hNd
        replace kx : Hid _ := kx
        replace kw : Hid _ := kw
        clear hN hrt
        by_cases e1 : N.kd = 1
        · have cE : ((N.kd : Int) != 1) = false := by rw [bne_eq_false_iff_eq]; omega
          have hq2 : Hid (∀ k, k < i + 1 → ¬ (((L.getD k nd0).kd = 2 ∨ (L.getD k nd0).kd = 3) ∧ (m : Int) ≤ (L.getD k nd0).ft)) := by
            show ∀ k, _
            intro k hk
            by_cases e : k = i
            · subst e; rw [hNd.out]; exact fun h => hkx.out.2 h.1 e1
            · exact hq.out k (by omega)
          replace e1 : Hid _ := e1
          go_wp2_with fail
          exact ⟨⟨kx.out, i + 1, by omega, by go_num, hq2⟩, by simp [intOf]; omega⟩
        · have cE : ((N.kd : Int) != 1) = true := by rw [bne_iff_ne]; omega
          by_cases e2 : (m : Int) ≤ N.ft
          · have cF : decide (N.ft ≥ (m : Int)) = true := decide_eq_true e2
            have cG : decide ((m : Int) ≤ N.ft) = true := decide_eq_true e2
            have hlk : lackB L m = true := lackB_yes hil (by rw [hNd.out]; exact ⟨hkx.out.1 e1, e2⟩)
            have HE : Hid (lvG L m = 72) := by show _ = _; unfold lvG; rw [if_neg (by simpa using hE.out), hlk]; rfl
            replace e1 : Hid _ := e1
            replace e2 : Hid _ := e2
            replace hlk : Hid _ := hlk
            have kf := k02.trans kx.out
            go_wp2_with fail
            go_ret2
            exact ⟨.slice none 0 0, by rw [HE.out]; rfl, fun h => (by rw [HE.out] at h; cases h), fun _ => rfl, kf⟩
          · have cF : decide (N.ft ≥ (m : Int)) = false := decide_eq_false e2
            have cG : decide ((m : Int) ≤ N.ft) = false := decide_eq_false e2
            have hq2 : Hid (∀ k, k < i + 1 → ¬ (((L.getD k nd0).kd = 2 ∨ (L.getD k nd0).kd = 3) ∧ (m : Int) ≤ (L.getD k nd0).ft)) := by
              show ∀ k, _
              intro k hk
              by_cases e : k = i
              · subst e; rw [hNd.out]; exact fun h => e2 h.2
              · exact hq.out k (by omega)
            replace e1 : Hid _ := e1
            replace e2 : Hid _ := e2
            go_wp2_with fail
            exact ⟨⟨kx.out, i + 1, by omega, by go_num, hq2⟩, by simp [intOf]; omega⟩
      · have hic : ¬ (i : Int) < (L.length : Int) := by omega
        obtain rfl : i = L.length := by omega
        have hlk : lackB L m = false := by
          cases h : lackB L m
          · rfl
          · unfold lackB at h
            rw [List.any_eq_true] at h
            obtain ⟨x, hx, h2⟩ := h
            obtain ⟨k, hk, rfl⟩ := List.getElem_of_mem hx
            have := hq.out k hk
            rw [List.getD_eq_getElem?_getD, List.getElem?_eq_getElem hk] at this
            exact absurd (of_decide_eq_true h2) this
        have HE : Hid (lvG L m = 0) := by show _ = _; unfold lvG; rw [if_neg (by simpa using hE.out), hlk]; rfl
        have kf := k02.trans kw
        have h1f : OwnI wr (.slice av (lvs L).length cv) (lvs L) := OwnI.same h1.out (fun b hb => by obtain ⟨cur, hc⟩ := OwnI.block h1.out hb; exact kw.block b (Array.getElem?_eq_some_iff.1 hc).1)
        replace hlk : Hid _ := hlk
        replace kw : Hid _ := kw
        replace h1f : Hid _ := h1f
        go_wp2_with fail
        go_ret2
        exact ⟨.slice av (lvs L).length cv, by rw [HE.out]; rfl, fun _ => ⟨h1f.out, h1b'.out⟩, fun h => absurd HE.out h, kf⟩
  · have c1 : (lvE L != 0) = true := by rw [bne_iff_ne]; exact hE
    have h2 := h2 hE
    subst h2
    have HE : Hid (lvG L m = lvE L) := by show _ = _; unfold lvG; rw [if_pos hE]
    replace hE : Hid _ := hE
    clear hC h1
    go_wp2_with fail
    go_ret2
    exact ⟨.slice none 0 0, by rw [HE.out]; rfl, fun h => absurd (HE.out.symm.trans h) hE.out, fun _ => rfl, k02⟩
end Go.Proofs.YtcdcheecaphmgaaDoor
