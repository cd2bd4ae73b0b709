import Derived.Test.YtcdcheecaphmgaaDoorM14
import Derived.Test.YtcdcheecaphmgaaDoorBF1
set_option linter.unusedVariables false
set_option linter.unusedSimpArgs false
namespace Go.Proofs.YtcdcheecaphmgaaDoor
open Go.RowKit Go.Shelf
theorem keep_mut {a b c : World} {g : Nat} (h : Keep a b) (m : Bi.Mut g b c) (hg : a.heap.size ≤ g) : Keep a c :=
  ⟨m.os.trans h.os, m.tape.trans h.tape, m.output.trans h.output, by rw [m.size]; exact h.size, fun k hk => (m.block k (by omega)).trans (h.block k hk)⟩
/-- What marks leave of a set. -/
def lftF (l : List (Nat × Nat × Nat)) : Nat → Bool := fun i => l.all fun x => mkF x i
theorem lftF_snoc (l : List (Nat × Nat × Nat)) (x : Nat × Nat × Nat) : lftF (l ++ [x]) = fun i => lftF l i && mkF x i := by
  funext i
  simp [lftF, List.all_append]
set_option maxRecDepth 100000 in
set_option maxHeartbeats 1000000 in
theorem reachOf_any (a ax : Option Addr) (cap cx : Nat) (out : Int) (L : List Nd) (xs : List Nat) (hLn : L.length ≤ 2199023255552) (hxl : xs.length ≤ 17592186044416) (hR : Rgt L) {b : BT} (hT : Tr (shp L) L.length) (hb : Bt (shp L) b 0) (hn : b.nl ≤ 4096) (hlk : lackB L xs.length = false) (w : World) (hrd : RdN w a L) (hxd : RdF w ax xs) :
    Calls Tryd.prog 47 #[.agg #[.int .i64 out, .slice a L.length cap], .slice ax xs.length cx, .int .i64 (b.nl : Nat)] w fun e w' => ∃ l g, e = .returned (.slice (some ⟨g, 0, none⟩) (l : List Nat).length l.length) ∧ w.heap.size ≤ g ∧ Bi.Row w' g l ∧ Bi.mkl b.nl (lftF (flm L xs (b.mks 0))) l ∧ Keep w w' := by
  have k0 : Keep w (w.alloc (Obj.cells #[Value.int IntKind.i64 out, Value.slice a L.length cap] 24)) := (Keep.refl w).alloc _
  have tb : (w.alloc (Obj.cells #[Value.int IntKind.i64 out, Value.slice a L.length cap] 24)).heap[w.heap.size]? = some (Obj.cells #[Value.int IntKind.i64 out, Value.slice a L.length cap] 24 (0, 0)) := heap_alloc_new w _
  have hC := Bi.Full_ok b.nl (w.alloc (Obj.cells #[Value.int IntKind.i64 out, Value.slice a L.length cap] 24)) (by omega)
  have hs1 : (w.alloc (Obj.cells #[Value.int IntKind.i64 out, Value.slice a L.length cap] 24)).heap.size = w.heap.size + 1 := by simp
  go_enter Tryd.func47, Tryd.ntmps47
  go_wp2_with fail
  refine hC.mono ?_
  rintro e w2 ⟨l0, rfl, hrow, hmk, k2⟩
  rw [hs1] at hrow ⊢
  have k2 : Keep _ _ := k2
  have k02 := k0.trans k2
  have t2 := (k2.block _ (Array.getElem?_eq_some_iff.1 tb).1).trans tb
  have hgl : w.heap.size + 1 < w2.heap.size := hrow.lt
  have x0 := cell_of_row _ _ 0 _ 24 (0, 0) t2
  have x1 := cell_of_row _ _ 1 _ 24 (0, 0) t2
  simp only [List.getElem?_toArray, List.getElem?_cons_zero, List.getElem?_cons_succ] at x0 x1
  have hC2 := falseOf_any a ax cap cx out L xs hLn hxl hR hT hb hn hlk w2 (hrd.keep k02) (hxd.keep k02)
  have hql : l0.length ≤ 65 := by rw [hmk.1]; omega
  obtain ⟨gR, hgR⟩ : ∃ gR, w.heap.size + 1 = gR := ⟨_, rfl⟩
  rw [hgR] at hrow hgl ⊢
  obtain ⟨q, hq⟩ : ∃ q, l0.length = q := ⟨_, rfl⟩
  have hqn : q = (b.nl + 63) / 64 := by rw [← hq]; exact hmk.1
  rw [hq] at hql ⊢
  replace hq : Hid _ := hq
  replace hqn : Hid _ := hqn
  replace hgR : Hid _ := hgR
  replace hrow : Hid _ := hrow
  replace hmk : Hid _ := hmk
  clear hC t2 tb
  go_wp2_with fail
  refine hC2.mono ?_
  rintro e w3 ⟨v3, rfl, hO3, k3⟩
  obtain ⟨a3, c3, rfl, -, -⟩ := hO3.shape
  obtain ⟨fl, hfl⟩ : ∃ fl, flm L xs (b.mks 0) = fl := ⟨_, rfl⟩
  have hfm : ∀ x ∈ fl, x ∈ b.mks 0 := by rw [← hfl]; intro x hx; exact (List.mem_filter.1 hx).1
  have hflen : fl.length ≤ 4096 := by
    rw [← hfl]
    have h1 : (flm L xs (b.mks 0)).length ≤ (b.mks 0).length := List.length_filter_le _ _
    have := b.mks_len 0
    omega
  rw [hfl] at hO3 ⊢
  have I0 : ∃ l, Bi.Row w3 gR l ∧ Bi.mkl b.nl (lftF (fl.take 0)) l ∧ OwnM w2.heap.size w3 (.slice a3 fl.length c3) fl ∧ Keep w w3 := ⟨l0, Bi.Row.keep hrow.out k3, hmk.out, hO3, k02.trans k3⟩
  replace I0 : Hid _ := I0
  replace hfl : Hid _ := hfl
  replace hfm : Hid _ := hfm
  clear hC2 hO3 x0 x1 hrow hmk
  go_wp2_with fail
  go_loopw [20] (fun iv wr => ∃ (j : Nat), j ≤ fl.length ∧ iv = .int .i64 j ∧ ∃ l, Bi.Row wr gR l ∧ Bi.mkl b.nl (lftF (fl.take j)) l ∧ OwnM w2.heap.size wr (.slice a3 fl.length c3) fl ∧ Keep w wr) (fun iv _ => fl.length - (intOf iv).toNat)
  case atStart => exact ⟨0, by omega, rfl, I0.out⟩
  case round =>
    clear I0
    obtain ⟨j, hj, rfl, l, hr, hmk, hO, kw⟩ := hrel
    by_cases hjl : j < fl.length
    · have hjc : (j : Int) < (fl.length : Int) := by omega
      obtain ⟨a', c', e', -, hrm⟩ := hO.shape
      simp only [Value.slice.injEq] at e'
      obtain ⟨rfl, -, rfl⟩ := e'
      obtain ⟨b1, o1, hae, d0, d1, d2⟩ := hrm j hjl
      have hmem : fl.getD j m0 ∈ fl := by
        rw [List.getD_eq_getElem?_getD, List.getElem?_eq_getElem hjl]
        exact List.getElem_mem hjl
      have hin := b.mks_in 0 _ (hfm.out _ hmem)
      have htn := take_nextM fl j hjl
      obtain ⟨m, hm⟩ : ∃ m, fl.getD j m0 = m := ⟨_, rfl⟩
      rw [hm] at d0 d1 d2 hin htn
      obtain ⟨mi, mf, mt⟩ := m
      simp only at d0 d1 d2 hin
      subst hae
      have kx : Keep wr (wr.alloc (Obj.cells #[.int .i64 (mi : Nat), .int .i64 (mf : Nat), .int .i64 (mt : Nat)] 52)) := (Keep.refl wr).alloc _
      have hCm := maskOf_any mi mf mt b.nl (wr.alloc (Obj.cells #[.int .i64 (mi : Nat), .int .i64 (mf : Nat), .int .i64 (mt : Nat)] 52)) (by omega) (by omega) (by omega)
      have hjb : j ≤ 4096 := by omega
      replace hm : Hid _ := hm
      replace htn : Hid _ := htn
      replace hin : Hid _ := hin
      replace hr : Hid _ := hr
      replace hmk : Hid _ := hmk
      replace hO : Hid _ := hO
      clear hrm hmem
      go_wp2_with fail
      refine hCm.mono ?_
      rintro e w6 ⟨m, g, rfl, hg, hrow6, hmk6, k6⟩
      have kw6 := kx.trans k6
      have hr6 : Bi.Row w6 gR l := Bi.Row.keep hr.out kw6
      have hlq : l.length = q := by rw [hmk.out.1]; exact hqn.out.symm
      have hmq : m.length = q := by rw [hmk6.1]; exact hqn.out.symm
      have hgne : g ≠ gR := by
        have h1 := Bi.Row.lt hr.out
        rw [World.size_alloc] at hg
        omega
      have hMt := Bi.Meet_row gR g q q l m w6 hr6 hrow6 hgne (by omega) (by omega) hmk.out.2.1 hmk6.2.1
      rw [hlq] at hMt
      rw [hmq]
      replace hlq : Hid _ := hlq
      replace hmq : Hid _ := hmq
      replace hmk6 : Hid _ := hmk6
      clear hCm
      go_wp2_with fail
      refine hMt.mono ?_
      rintro e w7 ⟨rfl, hr7, m7⟩
      have hmk7 := Bi.mkl_and hmk.out hmk6.out
      have hO6 : OwnM _ _ _ _ := own_keep hO.out kw6
      have hO7 : OwnM w2.heap.size w7 (.slice (some ⟨b1, o1, none⟩) fl.length c3) fl := own_same hO6 (fun b hb => m7.block b (by have := (own_block hO.out hb).1; omega))
      have k7 : Keep w w7 := keep_mut (kw.trans kw6) m7 (by have := hgR.out; omega)
      have hmk8 : Bi.mkl b.nl (lftF (fl.take (j + 1))) (Bi.zw (fun x y => x &&& y) l m) := by rw [htn.out, lftF_snoc]; exact hmk7
      replace hmk7 : Hid _ := hmk7
      replace hmk8 : Hid _ := hmk8
      replace hr7 : Hid _ := hr7
      replace hO7 : Hid _ := hO7
      clear hMt
      go_wp2_with fail
      exact ⟨⟨j + 1, by omega, by go_num, _, hr7.out, hmk8.out, hO7.out, k7⟩, by simp [intOf]; omega⟩
    · have hjc : ¬ (j : Int) < (fl.length : Int) := by omega
      obtain rfl : j = fl.length := by omega
      rw [List.take_length] at hmk
      have hlq : l.length = q := by rw [hmk.1]; exact hqn.out.symm
      rw [← hlq]
      replace hlq : Hid _ := hlq
      replace hmk : Hid _ := hmk
      replace hr : Hid _ := hr
      go_wp2_with fail
      go_ret
      exact ⟨l, gR, rfl, by have := hgR.out; omega, hr.out, by rw [hfl.out]; exact hmk.out, kw⟩
end Go.Proofs.YtcdcheecaphmgaaDoor
set_option linter.unusedVariables false
set_option linter.unusedSimpArgs false
namespace Go.Proofs.YtcdcheecaphmgaaDoor
open Go.RowKit Go.Shelf
theorem gs12 {L : List Nd} (hR : Rgt L) {i : Nat} (hi : i < L.length) (hK : (shp L).K i = true) (x : Nat) : gsS (L.getD i nd0) x = 1 ∨ gsS (L.getD i nd0) x = 2 := by
  have hr := hR.2 i hi
  simp only [shp, decide_eq_true_eq] at hK
  generalize L.getD i nd0 = n at *
  have hms : n.ms = 1 ∨ n.ms = 2 := by
    unfold rightB spl at hr
    rcases hK with hk | hk
    · rw [if_neg (by omega), if_pos hk] at hr
      simp only [Bool.and_eq_true, decide_eq_true_eq] at hr
      exact hr.1.1.2.2.2.1
    · rw [if_neg (by omega), if_neg (by omega), if_pos hk] at hr
      simp only [Bool.and_eq_true, decide_eq_true_eq] at hr
      exact hr.1.1.2.2.2.1
  cases hx : nanB x
  · rcases hK with hk | hk
    · rw [gsS_number n x hx hk]; split <;> simp
    · rw [gsS_cats n x hx hk]; split <;> simp
  · rw [gsS_nan n x hx hK]; exact hms
theorem rgt_chs {L : List Nd} (hR : Rgt L) {i : Nat} (hi : i < L.length) (hK : (shp L).K i = true) (xs : List Nat) : rgtB L xs i = !chs L xs i := by
  unfold rgtB chs
  rcases gs12 hR hi hK (xs.getD (L.getD i nd0).ft.toNat 0) with h | h <;> rw [h] <;> rfl
/-- The vector's leaf, by its place. -/
def extI (L : List Nd) (xs : List Nat) (b : BT) : Nat := b.ext (chs L xs) 0
theorem ext_left {L : List Nd} (hR : Rgt L) (hT : Tr (shp L) L.length) (xs : List Nat) {b : BT} (hb : Bt (shp L) b 0) : extI L xs b < b.nl ∧ lftF (flm L xs (b.mks 0)) (extI L xs b) = true ∧ ∀ p, p < extI L xs b → lftF (flm L xs (b.mks 0)) p = false := by
  have hin : ∀ x ∈ b.mks 0, x.1 < L.length ∧ (shp L).K x.1 = true := by
    intro x hx
    obtain ⟨h1, h2, -⟩ := hb.fr_mks 0 x hx
    exact ⟨ord_lt hT.wi _ (by rw [ord_bt hT hb, ← b.fr_pre 0]; exact List.mem_map.2 ⟨_, h1, rfl⟩), h2⟩
  have hfm : ∀ x, x ∈ flm L xs (b.mks 0) ↔ x ∈ b.mks 0 ∧ chs L xs x.1 = false := by
    intro x
    unfold flm
    rw [List.mem_filter]
    constructor
    · rintro ⟨h1, h2⟩
      obtain ⟨h3, h4⟩ := hin x h1
      rw [rgt_chs hR h3 h4] at h2
      exact ⟨h1, by simpa using h2⟩
    · rintro ⟨h1, h2⟩
      obtain ⟨h3, h4⟩ := hin x h1
      exact ⟨h1, by rw [rgt_chs hR h3 h4, h2]; rfl⟩
  have h0 := b.ext_in (chs L xs) 0
  obtain ⟨h1, h2⟩ := b.ext_cut (chs L xs) 0
  refine ⟨by unfold extI; omega, ?_, ?_⟩
  · unfold lftF extI
    rw [List.all_eq_true]
    intro x hx
    obtain ⟨hx1, hx2⟩ := (hfm x).1 hx
    have := h2 x hx1 hx2
    unfold mkF
    simp only [Bool.not_eq_true', decide_eq_false_iff_not]
    exact this
  · intro p hp
    obtain ⟨x, hx1, hx2, hx3⟩ := h1 p (by omega) hp
    unfold lftF
    rw [List.all_eq_false]
    exact ⟨x, (hfm x).2 ⟨hx1, hx2⟩, by unfold mkF; simp [hx3.1, hx3.2]⟩
/-- The lowest of a set. -/
theorem low_eq {n e : Nat} {f : Nat → Bool} {l : List Nat} (h : Bi.mkl n f l) (he : e < n) (h1 : f e = true) (h2 : ∀ p, p < e → f p = false) : Bi.selI l 0 = (e : Int) := by
  have hb : e < 64 * l.length := by rw [h.1]; omega
  have ha : (Bi.allB l)[0]? = some e := by
    unfold Bi.allB
    have hsplit : List.range (64 * l.length) = List.range e ++ (List.range (64 * l.length - e)).map (· + e) := by
      conv => lhs; rw [show 64 * l.length = e + (64 * l.length - e) by omega, List.range_add]
      congr 1
      apply List.map_congr_left
      intro x _
      omega
    rw [hsplit, List.filter_append]
    have e1 : (List.range e).filter (Bi.hs l) = [] := by
      rw [List.filter_eq_nil_iff]
      intro p hp
      have hp := List.mem_range.1 hp
      rw [h.2.2, h2 p hp]
      simp
    rw [e1, List.nil_append]
    obtain ⟨k, hk⟩ : ∃ k, 64 * l.length - e = k + 1 := ⟨64 * l.length - e - 1, by omega⟩
    rw [hk, List.range_succ_eq_map, List.map_cons, List.filter_cons]
    rw [if_pos (by rw [Nat.zero_add, h.2.2, h1]; simp [he])]
    simp
  unfold Bi.selI
  rw [ha]
end Go.Proofs.YtcdcheecaphmgaaDoor
