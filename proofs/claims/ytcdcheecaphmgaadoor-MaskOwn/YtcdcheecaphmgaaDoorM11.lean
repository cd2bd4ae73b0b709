import Derived.Test.YtcdcheecaphmgaaDoorM9
set_option linter.unusedVariables false
set_option linter.unusedSimpArgs false
namespace Go.Proofs.YtcdcheecaphmgaaDoor
open Go.RowKit Go.Shelf
set_option maxRecDepth 100000 in
set_option maxHeartbeats 1000000 in
theorem rMasks_any (a : Option Addr) (cap : Nat) (out : Int) (L : List Nd) (hLn : L.length ≤ 2199023255552) (w : World) (hrd : RdN w a L) :
    Calls Tryd.prog 13 #[.agg #[.int .i64 out, .slice a L.length cap]] w fun e w' => ∃ av cv ms, e = .returned (.tuple #[.slice av (ms : List (List Nat)).length cv, .int .i64 (lvE L)]) ∧ RdK w' av ms ∧ MsOk L ms ∧ Keep w w' := by
  have k0 : Keep w (w.alloc (Obj.cells #[Value.int IntKind.i64 out, Value.slice a L.length cap] 24)) := (Keep.refl w).alloc _
  have tb : (w.alloc (Obj.cells #[Value.int IntKind.i64 out, Value.slice a L.length cap] 24)).heap[w.heap.size]? = some (Obj.cells #[Value.int IntKind.i64 out, Value.slice a L.length cap] 24 (0, 0)) := heap_alloc_new w _
  have hC := rMarks_any a cap out L hLn _ (hrd.keep k0)
  go_enter Tryd.func13, Tryd.ntmps13
  go_wp2_with fail
  generalize w.alloc (Obj.cells #[Value.int IntKind.i64 out, Value.slice a L.length cap] 24) = w1 at *
  refine hC.mono ?_
  rintro e w2 ⟨v, l, rfl, hO, h2, h1, k2⟩
  have k02 := k0.trans k2
  by_cases hE : lvE L = 0
  · have c1 : (lvE L != 0) = false := by rw [bne_eq_false_iff_eq]; exact hE
    obtain ⟨-, hR, -, b, hb, hlv, hn⟩ := lvE_ok hE
    have t2 := (k2.block _ (Array.getElem?_eq_some_iff.1 tb).1).trans tb
    have x0 := cell_of_row _ _ 0 _ 24 (0, 0) t2
    have x1 := cell_of_row _ _ 1 _ 24 (0, 0) t2
    simp only [List.getElem?_toArray, List.getElem?_cons_zero, List.getElem?_cons_succ] at x0 x1
    have hM := rCount_any a cap out L hLn w2 (hrd.keep k02)
    have h1 := h1 b hE hb
    subst h1
    obtain ⟨av, cv, rfl, -, hr2⟩ := hO.shape
    have hcn : cnN L = (b.nl : Int) := by unfold cnN; rw [if_pos hE, hlv, b.lv_len]
    rw [hcn] at hM
    replace hE : Hid _ := hE
    replace hlv : Hid _ := hlv
    replace hcn : Hid _ := hcn
    clear hC h2 t2
    go_wp2_with fail
    refine hM.mono ?_
    rintro e w3 ⟨rfl, k3⟩
    have hr3 := hr2.keep k3
    have hml := b.mks_len 0
    have hmb : (b.mks 0).length ≤ 4096 := by omega
    have I0 : VI b.nl (b.mks 0) w3 0 [] [] (.slice none 0 0) w3 := ⟨Keep.refl _, OwnV.nil _ _, rfl, rfl, fun i hi => by omega⟩
    replace I0 : Hid _ := I0
    clear hM x0 x1
    go_wp2_with fail
    go_loopw [8, 28] (fun v iv wr => ∃ (j : Nat) (K : List (Nat × Nat)) (ms : List (List Nat)), j ≤ (b.mks 0).length ∧ iv = .int .i64 j ∧ VI b.nl (b.mks 0) w3 j K ms v wr) (fun _ iv _ => (b.mks 0).length - (intOf iv).toNat)
    case atStart => exact ⟨0, [], [], by omega, rfl, I0.out⟩
    case round =>
      clear I0
      obtain ⟨j, K, ms, hj, rfl, hI⟩ := hrel
      by_cases hjl : j < (b.mks 0).length
      · have hjc : (j : Int) < ((b.mks 0).length : Int) := by omega
        obtain ⟨bb, o, hae, d0, d1, d2⟩ := (hr3.keep hI.k0) j hjl
        obtain ⟨f1, f2⟩ := mks_at hjl
        obtain ⟨m, hm⟩ : ∃ m, (b.mks 0).getD j m0 = m := ⟨_, rfl⟩
        rw [hm] at d0 d1 d2 f1 f2
        obtain ⟨mi, mf, mt⟩ := m
        simp only at d0 d1 d2 f1 f2
        subst hae
        have kx : Keep wr (wr.alloc (Obj.cells #[.int .i64 (mi : Nat), .int .i64 (mf : Nat), .int .i64 (mt : Nat)] 52)) := (Keep.refl wr).alloc _
        have hCm := Bi.rMask_ok b.nl mf mt (wr.alloc (Obj.cells #[.int .i64 (mi : Nat), .int .i64 (mf : Nat), .int .i64 (mt : Nat)] 52)) (by omega) f1 f2
        obtain ⟨va, vc, hve, hvc, -⟩ := hI.own.shape
        subst hve
        have hkl := hI.kl
        have hjb : j ≤ 4096 := by omega
        replace hI : Hid _ := hI
        replace hm : Hid _ := hm
        replace hkl : Hid _ := hkl
        go_wp2_with fail
        refine hCm.mono ?_
        rintro e w6 ⟨m, rfl, hrow, hmk, k6⟩
        have k6 : Keep _ _ := k6
        rw [World.size_alloc] at hrow
        obtain ⟨g, hgg⟩ : ∃ g, wr.heap.size + 1 = g := ⟨_, rfl⟩
        try rw [World.size_alloc]
        rw [hgg] at hrow ⊢
        replace hgg : Hid _ := hgg
        have kw6 := kx.trans k6
        have hO6 : OwnV _ _ _ _ := own_keep hI.out.own (kw6.alloc (Obj.cells #[.slice (some ⟨g, 0, none⟩) m.length m.length] 40))
        have hB6 : w3.heap.size ≤ (w6.alloc (Obj.cells #[.slice (some ⟨g, 0, none⟩) m.length m.length] 40)).heap.size := Nat.le_trans hI.out.k0.le (kw6.alloc _).le
        have hL6 : K.length + 1 ≤ 5864062014805 := by rw [hkl.out]; omega
        have hrw : Bi.Row (w6.alloc (Obj.cells #[.slice (some ⟨g, 0, none⟩) m.length m.length] 40)) g m := hrow.keep ((Keep.refl w6).alloc _)
        have hmk2 : Bi.mkl b.nl (mkF ((b.mks 0).getD j m0)) m := by rw [hm.out]; exact hmk
        replace hO6 : Hid _ := hO6
        replace hB6 : Hid _ := hB6
        replace hL6 : Hid _ := hL6
        replace hrw : Hid _ := hrw
        replace hmk : Hid _ := hmk
        replace hmk2 : Hid _ := hmk2
        replace hrow : Hid _ := hrow
        clear hCm
        go_wp2_with (at_builtin; refine wpList_appV w3.heap.size _ rfl _ _ rfl K (g, m.length) (.slice va K.length vc) ?_ ?_ ?_ ⟨w6.heap.size, 0, none⟩ 1 ?_ ?_ ?_ ?_; rfl; exact hO6.out; exact hB6.out; rfl; exact newsV w6 g m.length; exact hL6.out; intro v7 w7 hO7 g7; have hN7 := hI.out.next (kw6.alloc _) hrw.out hmk2.out hO7 g7; obtain ⟨a7, c7, rfl, -, -⟩ := hO7.shape; replace hN7 : Hid _ := hN7)
        have hkl2 : (K ++ [(g, m.length)]).length = j + 1 := by rw [List.length_append, hkl.out]; rfl
        rw [show (K ++ [(g, m.length)]).length = K.length + 1 by simp] at hN7
        clear g7 hO7
        go_wp2_with fail
        exact ⟨⟨j + 1, _, _, by omega, by go_num, hN7.out⟩, by simp [intOf]; omega⟩
      · have hjc : ¬ (j : Int) < ((b.mks 0).length : Int) := by omega
        obtain rfl : j = (b.mks 0).length := by omega
        obtain ⟨va, vc, hve, hrk⟩ := hI.rd
        subst hve
        have hML : MsOk L ms := ⟨fun h => absurd hE.out h, fun b2 _ hb2 => by
          rw [← hb.one hb2]
          exact ⟨hI.ml, fun i hi => (hI.ok i (by rw [← hI.ml]; exact hi)).2.2⟩⟩
        have kf := (k02.trans k3).trans hI.k0
        replace hI : Hid _ := hI
        replace hrk : Hid _ := hrk
        replace hML : Hid _ := hML
        go_wp2_with fail
        go_ret2
        exact ⟨va, vc, ms, by rw [hE.out]; rfl, hrk.out, hML.out, kf⟩
  · have c1 : (lvE L != 0) = true := by rw [bne_iff_ne]; exact hE
    have h2 := h2 hE
    subst h2
    obtain ⟨av, cv, rfl, -, -⟩ := hO.shape
    replace hE : Hid _ := hE
    clear hC h1
    go_wp2_with fail
    go_ret2
    exact ⟨none, 0, [], rfl, fun j hj => by simp at hj, ⟨fun _ => rfl, fun b h _ => absurd h hE.out⟩, k02⟩
end Go.Proofs.YtcdcheecaphmgaaDoor
set_option linter.unusedVariables false
set_option linter.unusedSimpArgs false
namespace Go.Proofs.YtcdcheecaphmgaaDoor
open Go.RowKit Go.Shelf
set_option maxRecDepth 100000 in
set_option maxHeartbeats 1000000 in
theorem SameM_eq (a b : Option Addr) (ca cb : Nat) (l : List (Nat × Nat × Nat)) (w : World) (hl : l.length ≤ 10000) (ra : RdM w a l) (rb : RdM w b l) :
    Calls Tryd.prog 15 #[.slice a l.length ca, .slice b l.length cb] w fun e w' => e = .returned (.bool true) ∧ Keep w w' := by
  go_enter Tryd.func15, Tryd.ntmps15
  go_wp2_with fail
  go_loopw [13] (fun iv wr => Keep w wr ∧ ∃ (i : Nat), i ≤ l.length ∧ iv = .int .i64 i) (fun iv _ => l.length - (intOf iv).toNat)
  case atStart => exact ⟨Keep.refl _, 0, by omega, rfl⟩
  case round =>
    obtain ⟨kw, i, hi, rfl⟩ := hrel
    by_cases hil : i < l.length
    · have hic : (i : Int) < (l.length : Int) := by omega
      obtain ⟨b1, o1, e1, p0, p1, p2⟩ := (ra.keep kw) i hil
      obtain ⟨b2, o2, e2, q0, q1, q2⟩ := (rb.keep kw) i hil
      subst e1 e2
      obtain ⟨m, hm⟩ : ∃ m, l.getD i m0 = m := ⟨_, rfl⟩
      rw [hm] at p0 p1 p2 q0 q1 q2
      obtain ⟨x, y, z⟩ := m
      simp only at p0 p1 p2 q0 q1 q2
      replace hm : Hid _ := hm
      replace kw : Hid _ := kw
      go_wp2_with fail
      go_region
      all_goals
        go_simp
        go_wp2_with fail
        exact ⟨⟨kw.out.drew, i + 1, by omega, by go_num⟩, by simp [intOf]; omega⟩
    · have hic : ¬ (i : Int) < (l.length : Int) := by omega
      replace kw : Hid _ := kw
      go_wp2_with fail
      go_ret
      exact ⟨rfl, kw.out⟩
set_option maxRecDepth 100000 in
set_option maxHeartbeats 1000000 in
theorem Sets_eq (a b : Option Addr) (ca cb : Nat) (ms : List (List Nat)) (w : World) (hl : ms.length ≤ 10000) (hm : ∀ i, i < ms.length → (ms.getD i []).length ≤ 10000) (ra : RdK w a ms) (rb : RdK w b ms) :
    Calls Tryd.prog 16 #[.slice a ms.length ca, .slice b ms.length cb] w fun e w' => e = .returned (.bool true) ∧ Keep w w' := by
  go_enter Tryd.func16, Tryd.ntmps16
  go_wp2_with fail
  go_loopw [13] (fun iv wr => Keep w wr ∧ ∃ (i : Nat), i ≤ ms.length ∧ iv = .int .i64 i) (fun iv _ => ms.length - (intOf iv).toNat)
  case atStart => exact ⟨Keep.refl _, 0, by omega, rfl⟩
  case round =>
    obtain ⟨kw, i, hi, rfl⟩ := hrel
    by_cases hil : i < ms.length
    · have hic : (i : Int) < (ms.length : Int) := by omega
      obtain ⟨b1, o1, g1, e1, p0, p1⟩ := (ra.keep (kw.drew)) i hil
      obtain ⟨b2, o2, g2, e2, q0, q1⟩ := (rb.keep (kw.drew)) i hil
      subst e1 e2
      have hS := Bi.Same_any (some ⟨g1, 0, none⟩) (some ⟨g2, 0, none⟩) (ms.getD i []).length (ms.getD i []).length (ms.getD i []) wr.drew (by have := hm i hil; omega) p1 q1
      generalize (ms.getD i []).length = n at *
      replace kw : Hid _ := kw
      clear p1 q1
      go_wp2_with fail
      go_region_with (go_at_call 24; refine hS.mono ?_; rintro e w6 ⟨rfl, k6⟩)
      all_goals
        have k6 : Keep _ _ := k6
        clear hS
        go_simp
        go_wp2_with fail
        exact ⟨⟨Keep.trans (Keep.drew kw.out) k6, i + 1, by omega, by go_num⟩, by simp [intOf]; omega⟩
    · have hic : ¬ (i : Int) < (ms.length : Int) := by omega
      replace kw : Hid _ := kw
      go_wp2_with fail
      go_ret
      exact ⟨rfl, kw.out⟩
end Go.Proofs.YtcdcheecaphmgaaDoor
