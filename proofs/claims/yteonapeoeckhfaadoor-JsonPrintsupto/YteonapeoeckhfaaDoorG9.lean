import Derived.Test.YteonapeoeckhfaaDoorG6
set_option linter.unusedVariables false
set_option linter.unusedSimpArgs false
namespace Go.Proofs.YteonapeoeckhfaaDoor
open Go.RowKit
theorem heap4 (w : World) (g : Nat) {x0 x1 x2 x3 : Value} (v0 v1 v2 v3 : Value) (h : w.heap[g]? = some (.cells #[x0, x1, x2, x3] 27 (0, 0))) :
    ((((w.setCell ⟨g, 0, none⟩ v0).setCell ⟨g, 1, none⟩ v1).setCell ⟨g, 2, none⟩ v2).setCell ⟨g, 3, none⟩ v3).heap[g]? = some (.cells #[v0, v1, v2, v3] 27 (0, 0)) := by
  have a0 := heap_setCell_same w g 0 _ 27 v0 h
  have a1 := heap_setCell_same _ g 1 _ 27 v1 a0
  have a2 := heap_setCell_same _ g 2 _ 27 v2 a1
  have a3 := heap_setCell_same _ g 3 _ 27 v3 a2
  simpa using a3
theorem results_box4 {fn : Func} {t u : Tmp} (h : fn.results = #[.cell t 27, .tmp u]) (tmps : Array Value) (w : World) (g : Nat) (v0 v1 v2 v3 : Value) (hp : tmps.getD t undef = .pointer (some ⟨g, 0, none⟩)) (hh : w.heap[g]? = some (.cells #[v0, v1, v2, v3] 27 (0, 0))) :
    (results fn tmps).run Tryd.prog w = .ok (.tuple #[.agg #[v0, v1, v2, v3], tmps.getD u undef]) w := by
  have c0 := cell_of_row _ _ 0 _ 27 (0, 0) hh
  have c1 := cell_of_row _ _ 1 _ 27 (0, 0) hh
  have c2 := cell_of_row _ _ 2 _ 27 (0, 0) hh
  have c3 := cell_of_row _ _ 3 _ 27 (0, 0) hh
  simp only [List.getElem?_toArray, List.getElem?_cons_zero, List.getElem?_cons_succ] at c0 c1 c2 c3
  have hp' : (tmps[t]?).getD undef = .pointer (some ⟨g, 0, none⟩) := by simpa using hp
  simp [results, h, hp, hp', go_sem, c0, c1, c2, c3]
theorem rdv0 (w : World) : RdV w (.agg #[.int .u8 0, .string ByteArray.empty, .slice none 0 0, .slice none 0 0]) j0 :=
  RdV.mk 0 ByteArray.empty [] [] none 0 none 0 (fun _ => (.bool false, .bool false, .bool false, .bool false)) (by omega) (fun j hj => by simp at hj) (by simp) (by simp) (fun i hi => by simp at hi) (fun i hi => by simp at hi)
/-- Where a name stands first. -/
def IsAt (ns : List ByteArray) (nm : ByteArray) (p : Nat) : Prop := p < ns.length ∧ ns.getD p ByteArray.empty = nm ∧ ∀ q, q < p → ns.getD q ByteArray.empty ≠ nm
theorem isAt_one {ns : List ByteArray} {nm : ByteArray} {p q : Nat} (h : IsAt ns nm p) (g : IsAt ns nm q) : p = q := by
  rcases Nat.lt_trichotomy p q with hl | hl | hl
  · exact absurd h.2.1 (g.2.2 p hl)
  · exact hl
  · exact absurd g.2.1 (h.2.2 q hl)
/-- What Get answers. -/
def IsGet (j : J) (nm : ByteArray) (r : J) (ok : Bool) : Prop :=
  (ok = true ∧ j.k = 7 ∧ ∃ p, IsAt j.ns nm p ∧ p < j.is.length ∧ r = j.is.getD p j0) ∨ (ok = false ∧ r = j0 ∧ (j.k ≠ 7 ∨ ∀ p, IsAt j.ns nm p → j.is.length ≤ p))
theorem isGet_one {j : J} {nm : ByteArray} {r s : J} {ok fine : Bool} (h : IsGet j nm r ok) (g : IsGet j nm s fine) : r = s ∧ ok = fine := by
  rcases h with ⟨rfl, h1, p, h2, h3, rfl⟩ | ⟨rfl, rfl, h1⟩
  · rcases g with ⟨rfl, g1, q, g2, g3, rfl⟩ | ⟨rfl, rfl, g1⟩
    · rw [isAt_one h2 g2]; exact ⟨rfl, rfl⟩
    · rcases g1 with g1 | g1
      · exact absurd h1 g1
      · have := g1 p h2; omega
  · rcases g with ⟨rfl, g1, q, g2, g3, rfl⟩ | ⟨rfl, rfl, g1⟩
    · rcases h1 with h1 | h1
      · exact absurd g1 h1
      · have := h1 q g2; omega
    · exact ⟨rfl, rfl⟩
end Go.Proofs.YteonapeoeckhfaaDoor
set_option linter.unusedVariables false
set_option linter.unusedSimpArgs false
namespace Go.Proofs.YteonapeoeckhfaaDoor
open Go.RowKit
theorem Keep.setCell {a b : World} (h : Keep a b) {p : Addr} (hp : a.heap.size ≤ p.block) (u : Value) : Keep a (b.setCell p u) := Below.setCell h hp u

end Go.Proofs.YteonapeoeckhfaaDoor
set_option linter.unusedVariables false
set_option linter.unusedSimpArgs false
namespace Go.Proofs.YteonapeoeckhfaaDoor
open Go.RowKit
theorem ret_int {k : IntKind} {a b : Int} (h : a = b) : Ending.returned (.int k a) = .returned (.int k b) := by rw [h]
/-- What Index answers. -/
def IsIdx (ns : List ByteArray) (nm : ByteArray) (x : Int) : Prop := (∃ p : Nat, x = p ∧ IsAt ns nm p) ∨ (x = -1 ∧ ∀ p, ¬ IsAt ns nm p)
set_option maxRecDepth 100000 in
set_option maxHeartbeats 400000 in
theorem Index_any (an : Option Addr) (cn : Nat) (ns : List ByteArray) (nm : ByteArray) (w : World) (ln : ns.length ≤ 140737488355328) (hn : RdS w an ns) :
    Calls Tryd.prog 43 #[.slice an ns.length cn, .string nm] w fun e w' => ∃ x, e = .returned (.int .i64 x) ∧ IsIdx ns nm x ∧ w' = w := by
  go_enter Tryd.func43, Tryd.ntmps43
  go_wp2_with fail
  go_loopg [8] ns.length (fun gg s8 wx => w = wx ∧ ∃ i : Nat, i ≤ ns.length ∧ gg = ns.length - i ∧ s8 = .int .i64 i ∧ Hid (∀ p, p < i → ns.getD p ByteArray.empty ≠ nm))
  case atStart => exact ⟨rfl, 0, by omega, by omega, rfl, fun p hp => by omega⟩
  case round =>
    obtain ⟨rfl, i, hi, rfl, rfl, hq⟩ := hrel
    by_cases hil : i < ns.length
    · obtain ⟨bb, oo, hae, hc⟩ := hn i hil
      obtain ⟨s, hs1⟩ : ∃ s, ns.getD i ByteArray.empty = s := ⟨_, rfl⟩
      rw [hs1] at hc
      replace hs1 : Hid _ := hs1
      subst hae
      by_cases hss : nm = s
      · subst hss
        have c2 : (nm.toList == nm.toList) = true := by simp
        have hat : Hid (IsAt ns nm i) := ⟨hil, hs1.out, hq.out⟩
        go_wp2_with fail
        go_ret
        exact ⟨_, rfl, .inl ⟨i, rfl, hat.out⟩, rfl⟩
      · have c2 := ba_ne hss
        go_wp2_with fail
        go_roundg (ns.length - (i + 1))
        case measure => omega
        case rel =>
          refine ⟨rfl, i + 1, by omega, rfl, by go_num, ?_⟩
          intro p hp
          by_cases hpj : p = i
          · subst hpj; rw [hs1.out]; exact fun h => hss h.symm
          · exact hq.out p (by omega)
    · go_wp2_with fail
      go_ret
      refine ⟨_, rfl, .inr ⟨rfl, fun p hp => ?_⟩, rfl⟩
      exact absurd hp.2.1 (hq.out p (by have := hp.1; omega))
theorem RdV.form {w : World} {v : Value} {j : J} (h : RdV w v j) : ∃ (k : Nat) (t : ByteArray) (an : Option Addr) (n cn : Nat) (ai : Option Addr) (m ci : Nat), v = .agg #[.int .u8 (k : Nat), .string t, .slice an n cn, .slice ai m ci] := by
  cases h with
  | mk k t ns is an cn ai ci X hk hn ln li hx hr => exact ⟨k, t, an, ns.length, cn, ai, is.length, ci, rfl⟩
theorem RdW.box {w : World} {S : Nat → Prop} {v : Value} {j : J} (h : RdW w S v j) (g : Nat) (hg : ∀ b, S b → b ≠ g) (x0 x1 x2 x3 : Value) : RdW ((((w.setCell ⟨g, 0, none⟩ x0).setCell ⟨g, 1, none⟩ x1).setCell ⟨g, 2, none⟩ x2).setCell ⟨g, 3, none⟩ x3) S v j := by
  refine h.same ?_ (fun _ h => h)
  intro b hb
  have hne := hg b hb
  rw [heap_setCell_other _ ⟨g, 3, none⟩ b _ hne, heap_setCell_other _ ⟨g, 2, none⟩ b _ hne, heap_setCell_other _ ⟨g, 1, none⟩ b _ hne, heap_setCell_other _ ⟨g, 0, none⟩ b _ hne]
/-- The bounds that copies want. -/
inductive Fit : J → Prop where
  | mk (k : Nat) (t : ByteArray) (ns : List ByteArray) (is : List J) (h1 : t.size ≤ 281474976710656) (h2 : ns.length ≤ 8796093022208) (h3 : ∀ j, j < ns.length → (ns.getD j ByteArray.empty).size ≤ 281474976710656) (h4 : is.length ≤ 1954687338268) (h5 : ∀ j, j < is.length → Fit (is.getD j j0)) : Fit (.mk k t ns is)
theorem Fit.item {k : Nat} {t : ByteArray} {ns : List ByteArray} {is : List J} (h : Fit (.mk k t ns is)) {p : Nat} (hp : p < is.length) : Fit (is.getD p j0) := by
  cases h with
  | mk _ _ _ _ h1 h2 h3 h4 h5 => exact h5 p hp
/-- What Copy must keep (not yet proved). -/
def CopyOk : Prop := ∀ (j : J) (v : Value) (w : World), RdV w v j → Fit j → Calls Tryd.prog 19 #[v] w fun e w' => ∃ v', e = .returned v' ∧ RdW w' (fun b => w.heap.size ≤ b) v' j ∧ Keep w w'
set_option maxRecDepth 100000 in
set_option maxHeartbeats 1000000 in
theorem Get_any (hC : CopyOk) (j : J) (v : Value) (nm : ByteArray) (w : World) (hv : RdV w v j) (hF : Fit j) :
    Calls Tryd.prog 20 #[v, .string nm] w fun e w' => ∃ v' r ok, e = .returned (.tuple #[v', .bool ok]) ∧ RdV w' v' r ∧ IsGet j nm r ok ∧ Keep w w' := by
  cases hv with
  | mk k t ns is an cn ai ci X hk hn ln li hx hr =>
  obtain ⟨w0, hw0, k0, tb, tc⟩ : ∃ w0, (w.alloc (Obj.cells #[.int .u8 (k : Nat), .string t, .slice an ns.length cn, .slice ai is.length ci] 27)).alloc (Obj.cells #[.int .u8 0, .string ByteArray.empty, .slice none 0 0, .slice none 0 0] 27) = w0 ∧ Keep w w0 ∧ w0.heap[w.heap.size]? = some (Obj.cells #[.int .u8 (k : Nat), .string t, .slice an ns.length cn, .slice ai is.length ci] 27 (0, 0)) ∧ w0.heap[w.heap.size + 1]? = some (Obj.cells #[.int .u8 0, .string ByteArray.empty, .slice none 0 0, .slice none 0 0] 27 (0, 0)) := by
    refine ⟨_, rfl, ((Keep.refl w).alloc _).alloc _, ?_, ?_⟩
    · have hs : w.heap.size < (w.alloc (Obj.cells #[.int .u8 (k : Nat), .string t, .slice an ns.length cn, .slice ai is.length ci] 27)).heap.size := by simp
      exact (((Keep.refl (w.alloc (Obj.cells #[.int .u8 (k : Nat), .string t, .slice an ns.length cn, .slice ai is.length ci] 27))).alloc _).block _ hs).trans (heap_alloc_new w _)
    · have hs : (w.alloc (Obj.cells #[.int .u8 (k : Nat), .string t, .slice an ns.length cn, .slice ai is.length ci] 27)).heap.size = w.heap.size + 1 := by simp
      rw [← hs]
      exact heap_alloc_new _ _
  have a0 := cell_of_row _ _ 0 _ 27 (0, 0) tb
  have a1 := cell_of_row _ _ 1 _ 27 (0, 0) tb
  have a2 := cell_of_row _ _ 2 _ 27 (0, 0) tb
  have a3 := cell_of_row _ _ 3 _ 27 (0, 0) tb
  have b0 := cell_of_row _ _ 0 _ 27 (0, 0) tc
  have b1 := cell_of_row _ _ 1 _ 27 (0, 0) tc
  have b2 := cell_of_row _ _ 2 _ 27 (0, 0) tc
  have b3 := cell_of_row _ _ 3 _ 27 (0, 0) tc
  simp only [List.getElem?_toArray, List.getElem?_cons_zero, List.getElem?_cons_succ] at a0 a1 a2 a3 b0 b1 b2 b3
  have q0 := frozen_of_row _ _ 0 _ 27 tc
  have q1 := frozen_of_row _ _ 1 _ 27 tc
  have q2 := frozen_of_row _ _ 2 _ 27 tc
  have q3 := frozen_of_row _ _ 3 _ 27 tc
  have hgl : w.heap.size ≤ w.heap.size + 1 := Nat.le_succ _
  have hkf : ∀ x0 x1 x2 x3 : Value, Keep w ((((w0.setCell ⟨w.heap.size + 1, 0, none⟩ x0).setCell ⟨w.heap.size + 1, 1, none⟩ x1).setCell ⟨w.heap.size + 1, 2, none⟩ x2).setCell ⟨w.heap.size + 1, 3, none⟩ x3) := fun x0 x1 x2 x3 =>
    (((k0.setCell (p := ⟨w.heap.size + 1, 0, none⟩) hgl x0).setCell (p := ⟨w.heap.size + 1, 1, none⟩) hgl x1).setCell (p := ⟨w.heap.size + 1, 2, none⟩) hgl x2).setCell (p := ⟨w.heap.size + 1, 3, none⟩) hgl x3
  replace hkf : Hid _ := hkf
  have hI := Index_any an cn ns nm w0 ln (hn.keep k0)
  go_enter Tryd.func20, Tryd.ntmps20
  go_wp2_with fail
  have hw0' : (w.alloc (Obj.cells #[.int .u8 (k : Nat), .string t, .slice an ns.length cn, .slice ai is.length ci] 27)).alloc (Obj.cells #[.int .u8 0, .string { data := #[] }, .slice none 0 0, .slice none 0 0] 27) = w0 := hw0
  rw [hw0']
  refine hI.mono ?_
  rintro e wx ⟨x, rfl, hid, rfl⟩
  by_cases hk7 : k = 7
  · have c1 : ((k : Int) != 7) = false := by rw [bne_eq_false_iff_eq]; omega
    replace hk7 : Hid _ := hk7
    rcases hid with ⟨p, rfl, hp⟩ | ⟨rfl, hno⟩
    · by_cases hpl : p < is.length
      · have hpb : p ≤ 140737488355328 := by omega
        have c3 : decide ((is.length : Int) ≤ (p : Int)) = false := decide_eq_false (by omega)
        obtain ⟨bb2, oo2, hae2, hd0, hd1, hd2, hd3⟩ := hx p hpl
        have g0 := Keep.cell k0 hd0
        have g1 := Keep.cell k0 hd1
        have g2 := Keep.cell k0 hd2
        have g3 := Keep.cell k0 hd3
        have hri := hr p hpl
        have hat : Hid (IsAt ns nm p) := hp
        subst hae2
        clear hx hr hd0 hd1 hd2 hd3 hp
        generalize (X p).1 = A0 at *
        generalize (X p).2.1 = A1 at *
        generalize (X p).2.2.1 = A2 at *
        generalize (X p).2.2.2 = A3 at *
        obtain ⟨u1, u2, u3, u4, u5, u6, u7, u8, rfl, rfl, rfl, rfl⟩ := hri.shape
        have hCp := hC _ _ wx (hri.keep k0) (hF.item hpl)
        go_wp2_with fail
        refine hCp.mono ?_
        rintro e wz ⟨v', rfl, hv', kz⟩
        have tz := (kz.block _ (Array.getElem?_eq_some_iff.1 tc).1).trans tc
        have hltz : w.heap.size + 1 < wx.heap.size := (Array.getElem?_eq_some_iff.1 tc).1
        obtain ⟨y1, y2, y3, y4, y5, y6, y7, y8, rfl⟩ := hv'.rdv.form
        have m0 := cell_of_row _ _ 0 _ 27 (0, 0) tz
        have m1 := cell_of_row _ _ 1 _ 27 (0, 0) tz
        have m2 := cell_of_row _ _ 2 _ 27 (0, 0) tz
        have m3 := cell_of_row _ _ 3 _ 27 (0, 0) tz
        simp only [List.getElem?_toArray, List.getElem?_cons_zero, List.getElem?_cons_succ] at m0 m1 m2 m3
        have n0 := frozen_of_row _ _ 0 _ 27 tz
        have n1 := frozen_of_row _ _ 1 _ 27 tz
        have n2 := frozen_of_row _ _ 2 _ 27 tz
        have n3 := frozen_of_row _ _ 3 _ 27 tz
        have hbox := hv'.box (w.heap.size + 1) (fun b hb => by omega)
        have kall := fun x0 x1 x2 x3 => ((((k0.trans kz).setCell (p := ⟨w.heap.size + 1, 0, none⟩) hgl x0).setCell (p := ⟨w.heap.size + 1, 1, none⟩) hgl x1).setCell (p := ⟨w.heap.size + 1, 2, none⟩) hgl x2).setCell (p := ⟨w.heap.size + 1, 3, none⟩) hgl x3
        replace kall : Hid _ := kall
        replace hbox : Hid _ := hbox
        clear hCp hC hkf
        go_wp2_with fail
        refine bodyPost_ret (results_box4 rfl _ _ (w.heap.size + 1) _ _ _ _ rfl (heap4 _ (w.heap.size + 1) _ _ _ _ tz)) rfl ?_
        exact ⟨_, _, true, rfl, (hbox.out _ _ _ _).rdv, .inl ⟨rfl, hk7.out, p, hat.out, hpl, rfl⟩, kall.out _ _ _ _⟩
      · have c3 : decide ((is.length : Int) ≤ (p : Int)) = true := decide_eq_true (by omega)
        have hat : Hid (IsAt ns nm p) := hp
        clear hx hr hp hC
        go_wp2_with fail
        refine bodyPost_ret (results_box4 rfl _ _ (w.heap.size + 1) _ _ _ _ rfl (heap4 _ (w.heap.size + 1) _ _ _ _ tc)) rfl ?_
        refine ⟨_, _, false, rfl, rdv0 _, .inr ⟨rfl, rfl, .inr fun p' hp' => ?_⟩, hkf.out _ _ _ _⟩
        rw [isAt_one hp' hat.out]
        simp only [J.is]
        omega
    · have HN : Hid (∀ p, ¬ IsAt ns nm p) := hno
      clear hx hr hC hno
      go_wp2_with fail
      refine bodyPost_ret (results_box4 rfl _ _ (w.heap.size + 1) _ _ _ _ rfl (heap4 _ (w.heap.size + 1) _ _ _ _ tc)) rfl ?_
      exact ⟨_, _, false, rfl, rdv0 _, .inr ⟨rfl, rfl, .inr fun p' hp' => absurd hp' (HN.out p')⟩, hkf.out _ _ _ _⟩
  · have c1 : ((k : Int) != 7) = true := by rw [bne_iff_ne]; omega
    clear hx hr hC hid
    go_wp2_with fail
    refine bodyPost_ret (results_box4 rfl _ _ (w.heap.size + 1) _ _ _ _ rfl (heap4 _ (w.heap.size + 1) _ _ _ _ tc)) rfl ?_
    exact ⟨_, _, false, rfl, rdv0 _, .inr ⟨rfl, rfl, .inl hk7⟩, hkf.out _ _ _ _⟩
end Go.Proofs.YteonapeoeckhfaaDoor
