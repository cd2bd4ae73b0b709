import Derived.Test.YtbjidpooociamaaDoorP4
set_option linter.unusedVariables false
set_option linter.unusedSimpArgs false
namespace Go.Proofs.YtbjidpooociamaaDoor
open Go.RowKit Lb
theorem getD_app (x y : List Nat) (t : Nat) (h : t < x.length) : (x ++ y).getD t 0 = x.getD t 0 := by simp [List.getD, List.getElem?_append_left h]
/-- Written over up to the k-th number of the i-th slice. -/
def X1 (w3 w0 : World) (A : Nat) (VL : List Value) (LL : List (List Nat)) (i k : Nat) (wr : World) : Prop :=
  ∃ LL', TI w3 w0 A VL LL' wr ∧ (∀ j, (LL'.getD j []).length = (LL.getD j []).length) ∧ (∀ j t, j < 10 → t < (LL.getD j []).length → (LL'.getD j []).getD t 0 = if j < i ∨ (j = i ∧ t < k) then xr ((LL.getD j []).getD t 0) else (LL.getD j []).getD t 0)
theorem X1.start {w3 w0 : World} {A : Nat} {VL : List Value} {LL : List (List Nat)} (h : TI w3 w0 A VL LL w0) : X1 w3 w0 A VL LL 0 0 w0 :=
  ⟨LL, h, fun _ => rfl, fun j t _ _ => by rw [if_neg (by omega)]⟩
theorem X1.next {w3 w0 wr : World} {A : Nat} {VL : List Value} {LL : List (List Nat)} {i k : Nat} (h : X1 w3 w0 A VL LL i k wr) (hk : (LL.getD i []).length ≤ k) : X1 w3 w0 A VL LL (i + 1) 0 wr := by
  obtain ⟨L', h1, h2, h3⟩ := h
  refine ⟨L', h1, h2, fun j t hj ht => ?_⟩
  rw [h3 j t hj ht]
  by_cases c : j < i ∨ (j = i ∧ t < k)
  · rw [if_pos c, if_pos (by omega)]
  · by_cases e : j = i
    · subst e; exfalso; omega
    · rw [if_neg c, if_neg (by omega)]
theorem X1.at {w3 w0 wr : World} {A : Nat} {VL : List Value} {LL : List (List Nat)} {i k : Nat} (h : X1 w3 w0 A VL LL i k wr) (hA : w3.heap.size ≤ A ∧ A < w0.heap.size) (hi : i < 10) (hk : k < (LL.getD i []).length) :
    ∃ g cap, VL.getD i nilS = .slice (some ⟨g, 0, none⟩) (LL.getD i []).length cap ∧ (LL.getD i []).length ≤ cap ∧ wr.cell? ⟨g, k, none⟩ = some (.int .u32 ((LL.getD i []).getD k 0 : Nat)) ∧ wr.frozen? ⟨g, k, none⟩ = false ∧ X1 w3 w0 A VL LL i (k + 1) (wr.setCell ⟨g, k, none⟩ (.int .u32 (xr ((LL.getD i []).getD k 0) : Nat))) := by
  obtain ⟨L', h1, h2, h3⟩ := h
  rcases h1.ow i hi with ⟨-, h0⟩ | ⟨g, cap, cur, e1, hh, q1, q2, q3⟩
  · have := h2 i; rw [h0] at this; simp at this; simp at hk; omega
  · have hk' : k < (L'.getD i []).length := by rw [h2 i]; exact hk
    refine ⟨g, cap, by rw [e1, h2 i], by rw [← h2 i]; exact q1, ?_, frozen_of_row wr g k cur 62 hh, ?_⟩
    · rw [cell_of_row wr g k cur 62 (0, 0) hh]
      have e5 := h3 i k hi hk
      rw [if_neg (by omega)] at e5
      rw [← e5, ← U_get _ k hk', ← q3]
      rw [← Array.getElem?_toList, List.getElem?_take, if_pos hk']
    · refine ⟨_, h1.set hA i k (xr ((LL.getD i []).getD k 0)) g cap hi hk' e1, ?_, ?_⟩
      · intro j
        rw [getD_set _ _ _ _ _ (by rw [h1.ll]; exact hi)]
        by_cases e : j = i
        · subst e; rw [if_pos rfl, List.length_set]; exact h2 j
        · rw [if_neg e]; exact h2 j
      · intro j t hj ht
        rw [get_set2 _ _ _ _ _ _ (by rw [h1.ll]; exact hi) hk', h3 j t hj ht]
        by_cases e : j = i ∧ t = k
        · obtain ⟨rfl, rfl⟩ := e
          rw [if_pos ⟨rfl, rfl⟩, if_pos (by omega)]
        · rw [if_neg e]
          by_cases c : j < i ∨ (j = i ∧ t < k)
          · rw [if_pos c, if_pos (by omega)]
          · rw [if_neg c, if_neg (by omega)]
theorem TI.drew {w3 w0 wr : World} {A : Nat} {VL : List Value} {LL : List (List Nat)} (h : TI w3 w0 A VL LL wr) : TI w3 w0 A VL LL wr.drew := ⟨h.kp.drew, h.pr, h.sz, h.lv, h.ll, h.ar, h.ow, h.pl, h.ap⟩
theorem X1.drew {w3 w0 wr : World} {A : Nat} {VL : List Value} {LL : List (List Nat)} {i k : Nat} (h : X1 w3 w0 A VL LL i k wr) : X1 w3 w0 A VL LL i k wr.drew := by
  obtain ⟨L', h1, h2⟩ := h
  exact ⟨L', h1.drew, h2⟩
/-- Grown: the i-th slice by k numbers, those ahead of it whole. -/
def X2 (w3 w0 : World) (A : Nat) (LL : List (List Nat)) (i k : Nat) (wr : World) : Prop :=
  ∃ VL LL', TI w3 w0 A VL LL' wr ∧ (∀ j, i < j → (LL'.getD j []).length = (LL.getD j []).length) ∧ (LL'.getD i []).length = (LL.getD i []).length + k ∧ (∀ j, (LL.getD j []).length ≤ (LL'.getD j []).length) ∧ (∀ j t, j < 10 → t < (LL.getD j []).length → (LL'.getD j []).getD t 0 = xr ((LL.getD j []).getD t 0))
theorem X1.grow {w3 w0 wr : World} {A : Nat} {VL : List Value} {LL : List (List Nat)} {k : Nat} (h : X1 w3 w0 A VL LL 10 k wr) : X2 w3 w0 A LL 0 0 wr := by
  obtain ⟨L', h1, h2, h3⟩ := h
  exact ⟨VL, L', h1, fun j _ => h2 j, h2 0, fun j => Nat.le_of_eq (h2 j).symm, fun j t hj ht => by rw [h3 j t hj ht, if_pos (.inl hj)]⟩
theorem X2.next {w3 w0 wr : World} {A : Nat} {LL : List (List Nat)} {i k : Nat} (h : X2 w3 w0 A LL i k wr) : X2 w3 w0 A LL (i + 1) 0 wr := by
  obtain ⟨VL, L', h1, h2, h3, h4, h5⟩ := h
  exact ⟨VL, L', h1, fun j hj => h2 j (by omega), h2 (i + 1) (by omega), h4, h5⟩
theorem X2.at {w3 w0 wr : World} {A : Nat} {LL : List (List Nat)} {i k : Nat} (h : X2 w3 w0 A LL i k wr) (hA : w3.heap.size ≤ A ∧ A < w0.heap.size) (hi : i < 10) :
    ∃ v l, Sl wr v l ∧ l.length = (LL.getD i []).length + k ∧ wr.cell? ⟨A, i, none⟩ = some v ∧ ∀ (o : Obj) (wB : World) (v' : Value), Sl wB v' (l ++ [77]) → (wr.alloc o).grownBy wB v.ownBlock → (v'.ownBlock = v.ownBlock ∨ v'.ownBlock = some (wr.heap.size + 1)) →
      wB.cell? ⟨A, i, none⟩ = some v ∧ wB.frozen? ⟨A, i, none⟩ = false ∧ X2 w3 w0 A LL i (k + 1) (wB.setCell ⟨A, i, none⟩ v') := by
  obtain ⟨VL, L', h1, h2, h3, h4, h5⟩ := h
  refine ⟨VL.getD i nilS, L'.getD i [], h1.ow i hi, h3, arr_cell h1.ar i (by rw [h1.lv]; exact hi), ?_⟩
  intro o wB v' hs hg loc
  obtain ⟨hAB, hT⟩ := h1.grow hA i hi o v' _ hs hg loc
  refine ⟨arr_cell hAB i (by rw [h1.lv]; exact hi), frozen_of_row wB A i _ 63 hAB, _, _, hT, ?_, ?_, ?_, ?_⟩
  · intro j hj
    rw [getD_set _ _ _ _ _ (by rw [h1.ll]; exact hi), if_neg (by omega)]
    exact h2 j hj
  · rw [getD_set _ _ _ _ _ (by rw [h1.ll]; exact hi), if_pos rfl, List.length_append, h3]
    simp
    omega
  · intro j
    rw [getD_set _ _ _ _ _ (by rw [h1.ll]; exact hi)]
    by_cases e : j = i
    · subst e; rw [if_pos rfl, List.length_append]; have := h4 j; omega
    · rw [if_neg e]; exact h4 j
  · intro j t hj ht
    rw [getD_set _ _ _ _ _ (by rw [h1.ll]; exact hi)]
    by_cases e : j = i
    · subst e
      rw [if_pos rfl, ← h5 j t hj ht]
      exact getD_app _ _ _ (Nat.lt_of_lt_of_le ht (h4 j))
    · rw [if_neg e]; exact h5 j t hj ht
/-- What is there to be compared at the end. -/
structure X3 (w3 wE : World) (A : Nat) (LL : List (List Nat)) : Prop where
  kp : Keep w3 wE
  at' : ∀ i, i < 10 → ∃ v w a c, wE.cell? ⟨A, i, none⟩ = some v ∧ wE.cell? ⟨A + 1, i, none⟩ = some w ∧ w = .slice a (LL.getD i []).length c ∧ ∀ k, k < (LL.getD i []).length → ∃ g n cap b o, v = .slice (some ⟨g, 0, none⟩) n cap ∧ (LL.getD i []).length ≤ n ∧ wE.cell? ⟨g, k, none⟩ = some (.int .u32 (xr ((LL.getD i []).getD k 0) : Nat)) ∧ a = some ⟨b, o, none⟩ ∧ wE.cell? ⟨b, o + k, none⟩ = some (.int .u32 ((LL.getD i []).getD k 0 : Nat))
theorem X2.done {w3 w12 w0 wr : World} {A : Nat} {VL WV : List Value} {LL : List (List Nat)} {k : Nat} (h : X2 w3 w0 A LL 10 k wr) (hW : WI w12 A VL LL 10 WV w0) : X3 w3 wr A LL := by
  obtain ⟨VL, L', h1, h2, h3, h4, h5⟩ := h
  refine ⟨h1.kp, fun i hi => ?_⟩
  obtain ⟨a, c, e1, r⟩ := hW.rd i hi
  have haw : wr.heap[A + 1]? = some (.cells WV.toArray 63 (0, 0)) := (h1.pr (A + 1) (by omega) hW.sz).trans hW.aw
  have hrq : RdQ (A + 2) w0.heap.size wr a (LL.getD i []) := r.same (w' := wr) (fun b p1 p2 => h1.pr b (by have := p1; omega) p2)
  refine ⟨VL.getD i nilS, WV.getD i nilS, a, c, arr_cell h1.ar i (by rw [h1.lv]; exact hi), arr_cell haw i (by rw [hW.lw]; exact hi), e1, fun k hk => ?_⟩
  obtain ⟨b, o, e2, -, -, cb⟩ := hrq k hk
  have h6 := h4 i
  rcases h1.ow i hi with ⟨-, h0⟩ | ⟨g, cap, cur, e3, hh, q1, q2, q3⟩
  · rw [h0] at h6; have := Nat.lt_of_lt_of_le hk h6; simp at this
  · refine ⟨g, _, cap, b, o, e3, h6, ?_, e2, cb⟩
    have hk' : k < (L'.getD i []).length := by omega
    rw [cell_of_row wr g k cur 62 (0, 0) hh, ← h5 i k hi hk, ← U_get _ k hk', ← q3]
    rw [← Array.getElem?_toList, List.getElem?_take, if_pos hk']
end Go.Proofs.YtbjidpooociamaaDoor
set_option linter.unusedVariables false
set_option linter.unusedSimpArgs false
namespace Go.Proofs.YtbjidpooociamaaDoor
open Go.RowKit Lb
/-- Over by what is not nought: both parts in memory of their own. -/
theorem Over_both (neg : Bool) (a b : Option Addr) (ca cb : Nat) (la lb : List Nat) (w : World) (hca : la.length ≤ ca) (hcb : lb.length ≤ cb) (hla : la.length ≤ 70368744177663) (hlb : lb.length ≤ 70368744177663) (hra : Rd w a la) (hrb : Rd w b lb) (hma : Lim la) (hmb : Lim lb) (hb0 : val lb ≠ 0) :
    Calls Tryd.prog 50 #[.bool neg, .slice a la.length ca, .slice b lb.length cb] w fun e w' => ∃ M s vn vd nn nd, e = .returned (.tuple #[.agg #[.bool s, vn, vd], .int .i64 0]) ∧ w.heap.size ≤ M ∧ M ≤ w'.heap.size ∧ NatQ w.heap.size M w' vn nn ∧ NatQ M w'.heap.size w' vd nd ∧ nn ≤ val la ∧ nd ≤ val lb ∧ Keep w w' := by
  have hb' : nl lb ≠ 0 := fun h => hb0 (nl_val.1 h)
  by_cases ha : val la = 0
  · refine (Over_nought_own neg a b ca cb la lb w hca hcb hla hlb hra hrb hb' (nl_val.2 ha)).mono ?_
    rintro e w' ⟨M, vn, vd, rfl, k1, k2, k3, k4, k5⟩
    exact ⟨M, _, vn, vd, 0, 1, rfl, k1, k2, k3, k4, Nat.zero_le _, by omega, k5⟩
  · refine (Over_full_own neg a b ca cb la lb w hca hcb hla hlb hra hrb hma hmb hb' (fun h => ha (nl_val.1 h))).mono ?_
    rintro e w' ⟨M, vn, vd, rfl, k1, k2, k3, k4, k5⟩
    exact ⟨M, _, vn, vd, _, _, rfl, k1, k2, k3, k4, Nat.div_le_self _ _, Nat.div_le_self _ _, k5⟩
theorem Sl.at {w : World} {v : Value} {l : List Nat} (h : Sl w v l) (k : Nat) (hk : k < l.length) :
    ∃ g cap, v = .slice (some ⟨g, 0, none⟩) l.length cap ∧ l.length ≤ cap ∧ w.cell? ⟨g, k, none⟩ = some (.int .u32 (l.getD k 0 : Nat)) ∧ w.frozen? ⟨g, k, none⟩ = false ∧ ∀ x : Nat, Sl (w.setCell ⟨g, k, none⟩ (.int .u32 (x : Nat))) v (l.set k x) := by
  rcases h with ⟨-, h0⟩ | ⟨g, cap, cur, e1, hh, q1, q2, q3⟩
  · rw [h0] at hk; simp at hk
  · refine ⟨g, cap, e1, q1, ?_, frozen_of_row w g k cur 62 hh, fun x => ?_⟩
    · rw [cell_of_row w g k cur 62 (0, 0) hh, ← U_get _ k hk, ← q3]
      rw [← Array.getElem?_toList, List.getElem?_take, if_pos hk]
    · refine .inr ⟨g, cap, _, by rw [e1]; simp, heap_setCell_same w g k cur 62 _ hh, by simpa using q1, by simpa using q2, ?_⟩
      rw [List.length_set]
      simp only [Array.toList_setIfInBounds, List.take_set, q3]
      simp [U, List.map_set]
/-- A quotient's variable whose two parts are its own. -/
structure OZ (wy : World) (G : Nat) (s : Bool) (vn vd : Value) (ln ld : List Nat) (wr : World) : Prop where
  kp : Keep wy wr
  hG : wy.heap.size ≤ G
  lt : G < wr.heap.size
  bx : Box wr G (.bool s) vn vd
  sn : Sl wr vn ln
  sd : Sl wr vd ld
  pn : ∀ g, vn.ownBlock = some g → wy.heap.size ≤ g ∧ g ≠ G
  pd : ∀ g, vd.ownBlock = some g → wy.heap.size ≤ g ∧ g ≠ G
  ap : ∀ g, vn.ownBlock = some g → vd.ownBlock ≠ some g
theorem OZ.atN {wy wr : World} {G : Nat} {s : Bool} {vn vd : Value} {ln ld : List Nat} (h : OZ wy G s vn vd ln ld wr) (k : Nat) (hk : k < ln.length) :
    ∃ g cap, vn = .slice (some ⟨g, 0, none⟩) ln.length cap ∧ ln.length ≤ cap ∧ wr.cell? ⟨g, k, none⟩ = some (.int .u32 (ln.getD k 0 : Nat)) ∧ wr.frozen? ⟨g, k, none⟩ = false ∧ ∀ x : Nat, OZ wy G s vn vd (ln.set k x) ld (wr.setCell ⟨g, k, none⟩ (.int .u32 (x : Nat))) := by
  obtain ⟨g, cap, e1, q1, c, f, hs⟩ := h.sn.at k hk
  have hp := h.pn g (by rw [e1]; rfl)
  refine ⟨g, cap, e1, q1, c, f, fun x => ⟨h.kp.setCell (p := ⟨g, k, none⟩) hp.1 _, h.hG, by have := h.lt; simpa using this, (set_other wr g k _ G (Ne.symm hp.2)).trans h.bx, hs x, ?_, h.pn, h.pd, h.ap⟩⟩
  exact h.sd.same (fun g' hg' => set_other wr g k _ g' (fun e2 => h.ap g (by rw [e1]; rfl) (by rw [hg', e2])))
theorem OZ.atD {wy wr : World} {G : Nat} {s : Bool} {vn vd : Value} {ln ld : List Nat} (h : OZ wy G s vn vd ln ld wr) (k : Nat) (hk : k < ld.length) :
    ∃ g cap, vd = .slice (some ⟨g, 0, none⟩) ld.length cap ∧ ld.length ≤ cap ∧ wr.cell? ⟨g, k, none⟩ = some (.int .u32 (ld.getD k 0 : Nat)) ∧ wr.frozen? ⟨g, k, none⟩ = false ∧ ∀ x : Nat, OZ wy G s vn vd ln (ld.set k x) (wr.setCell ⟨g, k, none⟩ (.int .u32 (x : Nat))) := by
  obtain ⟨g, cap, e1, q1, c, f, hs⟩ := h.sd.at k hk
  have hp := h.pd g (by rw [e1]; rfl)
  refine ⟨g, cap, e1, q1, c, f, fun x => ⟨h.kp.setCell (p := ⟨g, k, none⟩) hp.1 _, h.hG, by have := h.lt; simpa using this, (set_other wr g k _ G (Ne.symm hp.2)).trans h.bx, ?_, hs x, h.pn, h.pd, h.ap⟩⟩
  exact h.sn.same (fun g' hg' => set_other wr g k _ g' (fun e2 => h.ap g (by rw [hg', e2]) (by rw [e1]; rfl)))
theorem Box.put1 {w : World} {g : Nat} {x y z : Value} (h : Box w g x y z) (y' : Value) : Box (w.setCell ⟨g, 1, none⟩ y') g x y' z := by
  have h1 := heap_setCell_same w g 1 _ 47 y' h
  unfold Box
  rw [h1]
  simp
theorem Box.put2 {w : World} {g : Nat} {x y z : Value} (h : Box w g x y z) (z' : Value) : Box (w.setCell ⟨g, 2, none⟩ z') g x y z' := by
  have h1 := heap_setCell_same w g 2 _ 47 z' h
  unfold Box
  rw [h1]
  simp
theorem OZ.growN {wy wr wB : World} {G : Nat} {s : Bool} {vn vd : Value} {ln ld : List Nat} (h : OZ wy G s vn vd ln ld wr) (o : Obj) (v' : Value) (l' : List Nat) (hs : Sl wB v' l') (hg : (wr.alloc o).grownBy wB vn.ownBlock) (loc : v'.ownBlock = vn.ownBlock ∨ v'.ownBlock = some (wr.heap.size + 1)) :
    Box wB G (.bool s) vn vd ∧ OZ wy G s v' vd l' ld (wB.setCell ⟨G, 1, none⟩ v') := by
  have hlt := h.lt
  have hs1 : (wr.alloc o).heap.size = wr.heap.size + 1 := by simp
  have hB := hg.size
  rw [hs1] at hB
  have hk := h.kp.le
  have hgg := h.hG
  have same : ∀ b, b < wr.heap.size → vn.ownBlock ≠ some b → wB.heap[b]? = wr.heap[b]? := by
    intro b h1 h2
    rw [hg.block b (by omega) (fun e => h2 e.symm)]
    exact ((Keep.refl wr).alloc o).block b h1
  have bxB : Box wB G (.bool s) vn vd := (same G hlt (fun e => (h.pn G e).2 rfl)).trans h.bx
  have np : ∀ g, v'.ownBlock = some g → wy.heap.size ≤ g ∧ g ≠ G ∧ vd.ownBlock ≠ some g := by
    intro g e
    rcases loc with q | q
    · have e' : vn.ownBlock = some g := q ▸ e
      exact ⟨(h.pn g e').1, (h.pn g e').2, h.ap g e'⟩
    · rw [q] at e; simp only [Option.some.injEq] at e
      refine ⟨by omega, by omega, fun e2 => ?_⟩
      have := h.sd.lt g e2
      omega
  refine ⟨bxB, ⟨?_, h.hG, by simp; omega, bxB.put1 v', hs.same (fun g e => set_other wB G 1 _ g (np g e).2.1), ?_, fun g e => ⟨(np g e).1, (np g e).2.1⟩, h.pd, fun g e => (np g e).2.2⟩⟩
  · have kB : Keep wy wB := Below.grown (h.kp.alloc o) hg (by rw [hs1]; omega) (fun k hk => (h.pn k hk).1)
    exact kB.setCell (p := ⟨G, 1, none⟩) h.hG _
  · refine h.sd.same (fun g e => ?_)
    rw [set_other wB G 1 _ g (h.pd g e).2]
    exact same g (h.sd.lt g e) (fun e2 => h.ap g e2 e)
theorem OZ.growD {wy wr wB : World} {G : Nat} {s : Bool} {vn vd : Value} {ln ld : List Nat} (h : OZ wy G s vn vd ln ld wr) (o : Obj) (v' : Value) (l' : List Nat) (hs : Sl wB v' l') (hg : (wr.alloc o).grownBy wB vd.ownBlock) (loc : v'.ownBlock = vd.ownBlock ∨ v'.ownBlock = some (wr.heap.size + 1)) :
    Box wB G (.bool s) vn vd ∧ OZ wy G s vn v' ln l' (wB.setCell ⟨G, 2, none⟩ v') := by
  have hlt := h.lt
  have hs1 : (wr.alloc o).heap.size = wr.heap.size + 1 := by simp
  have hB := hg.size
  rw [hs1] at hB
  have hk := h.kp.le
  have hgg := h.hG
  have same : ∀ b, b < wr.heap.size → vd.ownBlock ≠ some b → wB.heap[b]? = wr.heap[b]? := by
    intro b h1 h2
    rw [hg.block b (by omega) (fun e => h2 e.symm)]
    exact ((Keep.refl wr).alloc o).block b h1
  have bxB : Box wB G (.bool s) vn vd := (same G hlt (fun e => (h.pd G e).2 rfl)).trans h.bx
  have np : ∀ g, v'.ownBlock = some g → wy.heap.size ≤ g ∧ g ≠ G ∧ vn.ownBlock ≠ some g := by
    intro g e
    rcases loc with q | q
    · have e' : vd.ownBlock = some g := q ▸ e
      exact ⟨(h.pd g e').1, (h.pd g e').2, fun e2 => h.ap g e2 e'⟩
    · rw [q] at e; simp only [Option.some.injEq] at e
      refine ⟨by omega, by omega, fun e2 => ?_⟩
      have := h.sn.lt g e2
      omega
  refine ⟨bxB, ⟨?_, h.hG, by simp; omega, bxB.put2 v', ?_, hs.same (fun g e => set_other wB G 2 _ g (np g e).2.1), h.pn, fun g e => ⟨(np g e).1, (np g e).2.1⟩, fun g e1 e2 => (np g e2).2.2 e1⟩⟩
  · have kB : Keep wy wB := Below.grown (h.kp.alloc o) hg (by rw [hs1]; omega) (fun k hk => (h.pd k hk).1)
    exact kB.setCell (p := ⟨G, 2, none⟩) h.hG _
  · refine h.sn.same (fun g e => ?_)
    rw [set_other wB G 2 _ g (h.pn g e).2]
    exact same g (h.sn.lt g e) (fun e2 => h.ap g e e2)
theorem OZ.new {wy w20 : World} {M : Nat} {s : Bool} {vn vd : Value} {ln ld : List Nat} (k : Keep wy w20) (hM : M ≤ w20.heap.size) (sn : Sl w20 vn ln) (sd : Sl w20 vd ld) (pn : ∀ g, vn.ownBlock = some g → wy.heap.size ≤ g ∧ g < M) (pd : ∀ g, vd.ownBlock = some g → M ≤ g ∧ g < w20.heap.size) (h0 : wy.heap.size ≤ M) :
    OZ wy w20.heap.size s vn vd ln ld (w20.alloc (.cells #[.bool s, vn, vd] 47)) := by
  have ka : Keep w20 (w20.alloc (.cells #[.bool s, vn, vd] 47)) := (Keep.refl w20).alloc _
  refine ⟨k.alloc _, k.le, by simp, Box.new w20 _ _ _, sn.keep ka, sd.keep ka, fun g e => ?_, fun g e => ?_, fun g e1 e2 => ?_⟩
  · have := pn g e; omega
  · have := pd g e; omega
  · have := pn g e1; have := pd g e2; omega
end Go.Proofs.YtbjidpooociamaaDoor
