import Derived.Test.YtcdcheecaphmgaaDoorM8
import Derived.Test.YtcdcheecaphmgaaDoorBB4
set_option linter.unusedVariables false
set_option linter.unusedSimpArgs false
namespace Go.Proofs.YtcdcheecaphmgaaDoor
open Go.RowKit Go.Shelf
/-- The masks of a tree. -/
def MsOk (L : List Nd) (ms : List (List Nat)) : Prop := (lvE L ≠ 0 → ms = []) ∧ ∀ b, lvE L = 0 → Bt (shp L) b 0 → ms.length = (b.mks 0).length ∧ ∀ i, i < ms.length → Bi.mkl b.nl (mkF ((b.mks 0).getD i m0)) (ms.getD i [])
theorem MsOk.one {L : List Nd} {ms ns : List (List Nat)} (h : MsOk L ms) (g : MsOk L ns) : ms = ns := by
  by_cases hE : lvE L = 0
  · obtain ⟨-, -, -, b, hb, -⟩ := lvE_ok hE
    obtain ⟨h1, h2⟩ := h.2 b hE hb
    obtain ⟨g1, g2⟩ := g.2 b hE hb
    refine List.ext_getElem (by omega) fun i a c => ?_
    have := Bi.mkl_eq (h2 i a) (g2 i c)
    simpa [List.getD, a, c] using this
  · rw [h.1 hE, g.1 hE]
theorem mks_at {b : BT} {i : Nat} (h : i < (b.mks 0).length) : ((b.mks 0).getD i m0).2.1 ≤ ((b.mks 0).getD i m0).2.2 ∧ ((b.mks 0).getD i m0).2.2 ≤ b.nl := by
  have hm : (b.mks 0).getD i m0 ∈ b.mks 0 := by
    rw [List.getD_eq_getElem?_getD, List.getElem?_eq_getElem h]
    exact List.getElem_mem h
  have := b.mks_in 0 _ hm
  omega
set_option maxRecDepth 100000 in
set_option maxHeartbeats 1000000 in
theorem Masks_any (a : Option Addr) (cap : Nat) (out : Int) (L : List Nd) (hLn : L.length ≤ 2199023255552) (w : World) (hrd : RdN w a L) :
    Calls Tryd.prog 12 #[.agg #[.int .i64 out, .slice a L.length cap]] w fun e w' => ∃ av cv ms, e = .returned (.tuple #[.slice av (ms : List (List Nat)).length cv, .int .i64 (lvE L)]) ∧ RdK w' av ms ∧ MsOk L ms ∧ Keep w w' := by
  have k0 : Keep w (w.alloc (Obj.cells #[Value.int IntKind.i64 out, Value.slice a L.length cap] 24)) := (Keep.refl w).alloc _
  have tb : (w.alloc (Obj.cells #[Value.int IntKind.i64 out, Value.slice a L.length cap] 24)).heap[w.heap.size]? = some (Obj.cells #[Value.int IntKind.i64 out, Value.slice a L.length cap] 24 (0, 0)) := heap_alloc_new w _
  have hC := leavesOf_any a cap out L hLn _ (hrd.keep k0)
  go_enter Tryd.func12, Tryd.ntmps12
  go_wp2_with fail
  generalize w.alloc (Obj.cells #[Value.int IntKind.i64 out, Value.slice a L.length cap] 24) = w1 at *
  refine hC.mono ?_
  rintro e w2 ⟨v, rfl, h1, h2, k2⟩
  have k02 := k0.trans k2
  by_cases hE : lvE L = 0
  · have c1 : (lvE L != 0) = false := by rw [bne_eq_false_iff_eq]; exact hE
    obtain ⟨-, hR, -, b, hb, hlv, hn⟩ := lvE_ok hE
    have t2 := (k2.block _ (Array.getElem?_eq_some_iff.1 tb).1).trans tb
    have x0 := cell_of_row _ _ 0 _ 24 (0, 0) t2
    have x1 := cell_of_row _ _ 1 _ 24 (0, 0) t2
    simp only [List.getElem?_toArray, List.getElem?_cons_zero, List.getElem?_cons_succ] at x0 x1
    have hM := marksOf_any a cap out L hLn hR hb hn w2 (hrd.keep k02)
    obtain ⟨h1, -⟩ := h1 hE
    obtain ⟨av, cv, rfl, -⟩ := h1.shape
    have hln : (lvs L).length = b.nl := by rw [hlv, b.lv_len]
    rw [hln]
    replace hE : Hid _ := hE
    replace hln : Hid _ := hln
    replace hlv : Hid _ := hlv
    clear hC h1 h2 t2
    go_wp2_with fail
    refine hM.mono ?_
    rintro e w3 ⟨v3, rfl, hO, k3⟩
    obtain ⟨a3, c3, rfl, -, hr3⟩ := hO.shape
    have hml := b.mks_len 0
    have hmb : (b.mks 0).length ≤ 4096 := by omega
    have I0 : VI b.nl (b.mks 0) w3 0 [] [] (.slice none 0 0) w3 := ⟨Keep.refl _, OwnV.nil _ _, rfl, rfl, fun i hi => by omega⟩
    replace I0 : Hid _ := I0
    clear hM hO x0 x1
    go_wp2_with fail
    go_loopw [6, 20] (fun v iv wr => ∃ (j : Nat) (K : List (Nat × Nat)) (ms : List (List Nat)), j ≤ (b.mks 0).length ∧ iv = .int .i64 j ∧ VI b.nl (b.mks 0) w3 j K ms v wr) (fun _ iv _ => (b.mks 0).length - (intOf iv).toNat)
    case atStart => exact ⟨0, [], [], by omega, rfl, I0.out⟩
    case round =>
      clear I0
      obtain ⟨j, K, ms, hj, rfl, hI⟩ := hrel
      by_cases hjl : j < (b.mks 0).length
      · have hjc : (j : Int) < ((b.mks 0).length : Int) := by omega
        obtain ⟨bb, o, hae, d0, d1, d2⟩ := (hr3.keep hI.k0) j hjl
        obtain ⟨f1, f2⟩ := mks_at hjl
        obtain ⟨m, hm⟩ : ∃ m, (b.mks 0).getD j m0 = m := ⟨_, rfl⟩
        rw [hm] at d0 d1 d2 f1 f2
        obtain ⟨mi, mf, mt⟩ := m
        simp only at d0 d1 d2 f1 f2
        subst hae
        have kx : Keep wr (wr.alloc (Obj.cells #[.int .i64 (mi : Nat), .int .i64 (mf : Nat), .int .i64 (mt : Nat)] 52)) := (Keep.refl wr).alloc _
        have hCm := maskOf_any mi mf mt b.nl (wr.alloc (Obj.cells #[.int .i64 (mi : Nat), .int .i64 (mf : Nat), .int .i64 (mt : Nat)] 52)) (by omega) f1 f2
        obtain ⟨va, vc, hve, hvc, -⟩ := hI.own.shape
        subst hve
        have hkl := hI.kl
        have hjb : j ≤ 4096 := by omega
        replace hI : Hid _ := hI
        replace hm : Hid _ := hm
        replace hkl : Hid _ := hkl
        go_wp2_with fail
        refine hCm.mono ?_
        rintro e w6 ⟨m, g, rfl, hg, hrow, hmk, k6⟩
        have kw6 := kx.trans k6
        have hO6 : OwnV _ _ _ _ := own_keep hI.out.own (kw6.alloc (Obj.cells #[.slice (some ⟨g, 0, none⟩) m.length m.length] 40))
        have hB6 : w3.heap.size ≤ (w6.alloc (Obj.cells #[.slice (some ⟨g, 0, none⟩) m.length m.length] 40)).heap.size := Nat.le_trans hI.out.k0.le (kw6.alloc _).le
        have hL6 : K.length + 1 ≤ 5864062014805 := by rw [hkl.out]; omega
        have hrw : Bi.Row (w6.alloc (Obj.cells #[.slice (some ⟨g, 0, none⟩) m.length m.length] 40)) g m := hrow.keep ((Keep.refl w6).alloc _)
        have hmk2 : Bi.mkl b.nl (mkF ((b.mks 0).getD j m0)) m := by rw [hm.out]; exact hmk
        replace hO6 : Hid _ := hO6
        replace hB6 : Hid _ := hB6
        replace hL6 : Hid _ := hL6
        replace hrw : Hid _ := hrw
        replace hmk : Hid _ := hmk
        replace hmk2 : Hid _ := hmk2
        replace hrow : Hid _ := hrow
        clear hCm
        go_wp2_with (at_builtin; refine wpList_appV w3.heap.size _ rfl _ _ rfl K (g, m.length) (.slice va K.length vc) ?_ ?_ ?_ ⟨w6.heap.size, 0, none⟩ 1 ?_ ?_ ?_ ?_; rfl; exact hO6.out; exact hB6.out; rfl; exact newsV w6 g m.length; exact hL6.out; intro v7 w7 hO7 g7; have hN7 := hI.out.next (kw6.alloc _) hrw.out hmk2.out hO7 g7; obtain ⟨a7, c7, rfl, -, -⟩ := hO7.shape; replace hN7 : Hid _ := hN7)
        have hkl2 : (K ++ [(g, m.length)]).length = j + 1 := by rw [List.length_append, hkl.out]; rfl
        rw [show (K ++ [(g, m.length)]).length = K.length + 1 by simp] at hN7
        clear g7 hO7
        go_wp2_with fail
        exact ⟨⟨j + 1, _, _, by omega, by go_num, hN7.out⟩, by simp [intOf]; omega⟩
      · have hjc : ¬ (j : Int) < ((b.mks 0).length : Int) := by omega
        obtain rfl : j = (b.mks 0).length := by omega
        obtain ⟨va, vc, hve, hrk⟩ := hI.rd
        subst hve
        have hML : MsOk L ms := ⟨fun h => absurd hE.out h, fun b2 _ hb2 => by
          rw [← hb.one hb2]
          exact ⟨hI.ml, fun i hi => (hI.ok i (by rw [← hI.ml]; exact hi)).2.2⟩⟩
        have kf := (k02.trans k3).trans hI.k0
        replace hI : Hid _ := hI
        replace hrk : Hid _ := hrk
        replace hML : Hid _ := hML
        go_wp2_with fail
        go_ret2
        exact ⟨va, vc, ms, by rw [hE.out]; rfl, hrk.out, hML.out, kf⟩
  · have c1 : (lvE L != 0) = true := by rw [bne_iff_ne]; exact hE
    have h2 := h2 hE
    subst h2
    replace hE : Hid _ := hE
    clear hC h1
    go_wp2_with fail
    go_ret2
    exact ⟨none, 0, [], rfl, fun j hj => by simp at hj, ⟨fun _ => rfl, fun b h _ => absurd h hE.out⟩, k02⟩
end Go.Proofs.YtcdcheecaphmgaaDoor
