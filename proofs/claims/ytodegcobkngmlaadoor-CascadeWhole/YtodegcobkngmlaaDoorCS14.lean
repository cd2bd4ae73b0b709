import Derived.Test.YtodegcobkngmlaaDoorCS11
import Derived.Test.YtodegcobkngmlaaDoorW3
set_option linter.unusedVariables false
set_option linter.unusedSimpArgs false
namespace Go.Proofs.YtodegcobkngmlaaDoor
open Go.RowKit Go.Shelf
theorem MB_stable (base : List Int) (ts : List (Int × List Nd)) (v : List Nd → Int) : ∀ x T A B, MB base ts v x T A → (∀ g, T g → B.heap[g]? = A.heap[g]?) → MB base ts v x T B := fun x T A B h hk => ⟨h.1, (hk _ h.1).trans h.2⟩
/-- What lies behind the trees, as an iterator. -/
theorem behind_seq (w0 : World) (n : Nat) (hn : 1 ≤ n) (Be Bx : Nat) (nm : ByteArray) (fa : Option Addr) (Fn cf : Nat) (ba : Option Addr) (base : List Int) (cb : Nat) (ta : Option Addr) (ts : List (Int × List Nd)) (ct : Nat) (ax : Option Addr) (cx : Nat) (xs : List Nat) (hxl : xs.length ≤ 17592186044416) (v : List Nd → Int)
    (hN : base.length ≤ 64) (hb : RdI w0 ba base) (ht : RdT w0 ta ts) (htl : ts.length ≤ 65536) (htn : ∀ j, j < ts.length → (ts.getD j (0, [])).2.length ≤ 1759218604441)
    (ho : ∀ k, k < ts.length → ∃ q : Nat, (ts.getD k (0, [])).1 = (q : Int) ∧ q < base.length) (hrm : ∀ o, o < base.length → rm base ts o < 4611686018427387904)
    (hva : ∀ t ∈ ts, (v t.2).natAbs ≤ lg t.2) (hvv : ∀ k, k < ts.length → ((ts.getD k (0, [])).2.getD (endN (ts.getD k (0, [])).2 xs) nd0).vl = v (ts.getD k (0, [])).2) (hE : ∀ k, k < ts.length → shE (ts.getD k (0, [])).2 = 0)
    (hft : ∀ k, k < ts.length → ∀ i, i < (ts.getD k (0, [])).2.length → (((ts.getD k (0, [])).2.getD i nd0).kd = 2 ∨ ((ts.getD k (0, [])).2.getD i nd0).kd = 3) → 0 ≤ ((ts.getD k (0, [])).2.getD i nd0).ft ∧ ((ts.getD k (0, [])).2.getD i nd0).ft < (xs.length : Int))
    (w : World) (hBl : w.heap[Be]? = some (.cells (ev nm fa Fn cf (base.length : Int) ba base.length cb ta ts.length ct) 26 (0, 0))) (hBx : w.heap[Bx]? = some (.cells #[.slice ax xs.length cx] 27 (0, 0))) (hBn : w0.heap.size ≤ Be) (hBm : w0.heap.size ≤ Bx) (hnW : Keep w0 w) (hxd : RdF w0 ax xs) :
    SeqM n Tryd.prog 27 #[.pointer (some ⟨Be, 0, none⟩), .pointer (some ⟨Bx, 0, none⟩)] (yB base.length) w0.heap.size (fun g => g = Be ∨ g = Bx) (fun l => ∃ g, l = (List.range (ts.length + 1)).map fun k => (k, g)) (fun l => ∃ g k, k ≤ ts.length ∧ l = (List.range (k + 1)).map fun k => (k, g)) (MB base ts v) (ts.length + 1) w := by
  intro y J Jx W hW hJ1 hY h0
  have kW : Keep w W := hW
  refine (behinds_in w0 n hn y Be Bx nm fa Fn cf ba base cb ta ts ct ax cx xs hxl J Jx v hN hb ht htl htn ho hrm hva hvv hE hft hJ1 hY W (kW.at hBl) (kW.at hBx) hBn hBm (hnW.trans kW) hxd h0).mono ?_
  rintro e W' ⟨he, ⟨g, T, h⟩ | ⟨g, k, hk, h⟩⟩
  · exact ⟨he, .inl ⟨_, T, ⟨g, rfl⟩, h⟩⟩
  · exact ⟨he, .inr ⟨_, ⟨g, k, hk, rfl⟩, h⟩⟩
end Go.Proofs.YtodegcobkngmlaaDoor
set_option linter.unusedVariables false
set_option linter.unusedSimpArgs false
namespace Go.Proofs.YtodegcobkngmlaaDoor
open Go.RowKit Go.Shelf
/-- What a tree says of a vector. -/
def vX (xs : List Nat) (L : List Nd) : Int := (L.getD (endN L xs) nd0).vl
/-- What is known of a right ensemble and a vector of its length. -/
structure RtE (N : Int) (base : List Int) (ts : List (Int × List Nd)) (xs : List Nat) : Prop where
  n1 : 1 ≤ base.length
  nl : base.length ≤ 64
  nb : (base.length : Int) = N
  tl : ts.length ≤ 65536
  tn : ∀ j, j < ts.length → (ts.getD j (0, [])).2.length ≤ 1759218604441
  ho : ∀ k, k < ts.length → ∃ q : Nat, (ts.getD k (0, [])).1 = (q : Int) ∧ q < base.length
  rm : ∀ o, o < base.length → rm base ts o < 4611686018427387904
  va : ∀ t ∈ ts, (vX xs t.2).natAbs ≤ lg t.2
  sv : ∀ t ∈ ts, (sp t.2).1 ≤ vX xs t.2 ∧ vX xs t.2 ≤ (sp t.2).2
  se : ∀ k, k < ts.length → shE (ts.getD k (0, [])).2 = 0
  ft : ∀ k, k < ts.length → ∀ i, i < (ts.getD k (0, [])).2.length → (((ts.getD k (0, [])).2.getD i nd0).kd = 2 ∨ ((ts.getD k (0, [])).2.getD i nd0).kd = 3) → 0 ≤ ((ts.getD k (0, [])).2.getD i nd0).ft ∧ ((ts.getD k (0, [])).2.getD i nd0).ft < (xs.length : Int)
theorem end_leaf {L : List Nd} {xs : List Nat} (h : shE L = 0) : endN L xs < L.length ∧ (L.getD (endN L xs) nd0).kd = 1 := by
  obtain ⟨l, -, h2, h3, -⟩ := way_last (xs := xs) h
  have hr := (shE_rgt h).2 _ h3
  have hk : ¬ ((L.getD (endN L xs) nd0).kd = 2 ∨ (L.getD (endN L xs) nd0).kd = 3) := by
    have := h2
    simp only [shp] at this
    exact of_decide_eq_false this
  unfold rightB at hr
  by_cases h1 : (L.getD (endN L xs) nd0).kd = 1
  · exact ⟨h3, h1⟩
  · rw [if_neg h1, if_neg (fun q => hk (.inl q)), if_neg (fun q => hk (.inr q))] at hr
    cases hr
theorem rtE {nm : ByteArray} {fs : List ByteArray} {N : Int} {base : List Int} {ts : List (Int × List Nd)} {xs : List Nat} (h : (chB nm fs N base ts).1 = 0) (hx : xs.length = fs.length) : RtE N base ts xs := by
  obtain ⟨-, ⟨h1, h2⟩, h3, h4, -, h5, h6⟩ := chB_ok h
  have hE : ∀ k, k < ts.length → shE (ts.getD k (0, [])).2 = 0 := fun k hk => (trB_ok (h5 k hk)).2.2.1
  have hm : ∀ t ∈ ts, shE t.2 = 0 := by
    intro t ht
    obtain ⟨k, hk, rfl⟩ := List.getElem_of_mem ht
    have := hE k hk
    simpa [List.getD, hk] using this
  refine ⟨by omega, by omega, h3, h4, fun j hj => by have := (trB_ok (h5 j hj)).2.1; omega, ?_, ?_, fun t ht => lf_le (hm t ht), fun t ht => ?_, hE, ?_⟩
  · intro k hk
    obtain ⟨⟨q1, q2⟩, -⟩ := trB_ok (h5 k hk)
    exact ⟨(ts.getD k (0, [])).1.toNat, by omega, by omega⟩
  · intro o ho
    exact ouF_all _ _ h6 o (by omega) (by omega)
  · obtain ⟨q1, q2⟩ := end_leaf (xs := xs) (hm t ht)
    exact sp_leaf q1 q2
  · intro k hk i hi hkd
    have := (trB_ok (h5 k hk)).2.2.2 i hi hkd
    omega
theorem results_c2 {fn : Func} {t u : Tmp} (h : fn.results = #[.cell t 33, .cell u 29]) (tmps : Array Value) (w : World) (g k : Nat) (a : Option Addr) (l c : Nat) (i : Int) (hp : tmps.getD t undef = .pointer (some ⟨g, 0, none⟩)) (hq : tmps.getD u undef = .pointer (some ⟨k, 0, none⟩))
    (h1 : w.cell? ⟨g, 0, none⟩ = some (.slice a l c)) (h2 : w.cell? ⟨k, 0, none⟩ = some (.int .i64 i)) :
    (results fn tmps).run Tryd.prog w = .ok (.tuple #[.slice a l c, .int .i64 i]) w := by
  have hp' : (tmps[t]?).getD undef = .pointer (some ⟨g, 0, none⟩) := by simpa using hp
  have hq' : (tmps[u]?).getD undef = .pointer (some ⟨k, 0, none⟩) := by simpa using hq
  simp [results, h, hp, hp', hq, hq', go_sem, h1, h2]
end Go.Proofs.YtodegcobkngmlaaDoor
set_option linter.unusedVariables false
set_option linter.unusedSimpArgs false
namespace Go.Proofs.YtodegcobkngmlaaDoor
open Go.RowKit Go.Shelf
attribute [local go_sem] Oper.semAt_some
/-- What is wrong with an ensemble and a vector. -/
def exE (nm : ByteArray) (fs : List ByteArray) (N : Int) (base : List Int) (ts : List (Int × List Nd)) (m : Nat) : Int := if (chB nm fs N base ts).1 = 0 then (if m = fs.length then 0 else 72) else 5
/-- The boxes of Bounds. -/
theorem boxes5 (w : World) (E : Array Value) (u v x y : Value) (t1 t2 t3 t4 t5 : Nat) : ∃ w5, ((((w.alloc (Obj.cells E t1)).alloc (Obj.cells #[u] t2)).alloc (Obj.cells #[v] t3)).alloc (Obj.cells #[x] t4)).alloc (Obj.cells #[y] t5) = w5 ∧ Keep w w5 ∧ w5.heap.size = w.heap.size + 5 ∧
    w5.heap[w.heap.size]? = some (Obj.cells E t1 (0, 0)) ∧ w5.heap[w.heap.size + 1]? = some (Obj.cells #[u] t2 (0, 0)) ∧ w5.heap[w.heap.size + 1 + 1]? = some (Obj.cells #[v] t3 (0, 0)) ∧ w5.heap[w.heap.size + 1 + 1 + 1]? = some (Obj.cells #[x] t4 (0, 0)) ∧ w5.heap[w.heap.size + 1 + 1 + 1 + 1]? = some (Obj.cells #[y] t5 (0, 0)) := by
  obtain ⟨w1, e1, k1, h1, s1⟩ := boxed w E t1
  obtain ⟨w2, e2, k2, h2, s2⟩ := boxed w1 #[u] t2
  obtain ⟨w3, e3, k3, h3, s3⟩ := boxed w2 #[v] t3
  obtain ⟨w4, e4, k4, h4, s4⟩ := boxed w3 #[x] t4
  obtain ⟨w5, e5, k5, h5, s5⟩ := boxed w4 #[y] t5
  rw [s1] at h2
  rw [s2, s1] at h3
  rw [s3, s2, s1] at h4
  rw [s4, s3, s2, s1] at h5
  have k35 := k4.trans k5
  have k25 := k3.trans k35
  have k15 := k2.trans k25
  exact ⟨w5, by rw [e1, e2, e3, e4, e5], k1.trans k15, by omega, k15.at h1, k25.at h2, k35.at h3, k5.at h4, h5⟩
/-- Two boxes written over. -/
theorem put11 {w : World} {g k T U : Nat} {x0 x1 : Value} (h : w.heap[g]? = some (.cells #[x0] T (0, 0))) (h' : w.heap[k]? = some (.cells #[x1] U (0, 0))) (hne : g ≠ k) (v0 v1 : Value) :
    (w.setCell ⟨g, 0, none⟩ v0).cell? ⟨k, 0, none⟩ = some x1 ∧ (w.setCell ⟨g, 0, none⟩ v0).frozen? ⟨k, 0, none⟩ = false ∧
    ∃ w', ((w.setCell ⟨g, 0, none⟩ v0).setCell ⟨k, 0, none⟩ v1) = w' ∧ w'.heap[g]? = some (.cells #[v0] T (0, 0)) ∧ w'.heap[k]? = some (.cells #[v1] U (0, 0)) ∧ (∀ j, j ≠ g → j ≠ k → w'.heap[j]? = w.heap[j]?) ∧ w'.heap.size = w.heap.size ∧ (∀ w0, Keep w0 w → w0.heap.size ≤ g → w0.heap.size ≤ k → Keep w0 w') := by
  have a0 := heap1 w g v0 h
  have a1 : (w.setCell ⟨g, 0, none⟩ v0).heap[k]? = some (.cells #[x1] U (0, 0)) := (neq_set _ _ _ _ k (fun e => hne e.symm)).trans h'
  refine ⟨(cells1 a1).1, (cells1 a1).2, _, rfl, (neq_set _ _ _ _ g hne).trans a0, heap1 _ k v1 a1, fun j h1 h2 => by rw [neq_set _ _ _ _ j h2, neq_set _ _ _ _ j h1], by simp only [World.size_setCell], fun w0 kk hg hk => (kk.setCell (p := ⟨g, 0, none⟩) hg v0).setCell (p := ⟨k, 0, none⟩) hk v1⟩
set_option maxRecDepth 100000 in
set_option maxHeartbeats 2000000 in
theorem Bounds_err (nm : ByteArray) (fa : Option Addr) (fs : List ByteArray) (cf : Nat) (N : Int) (ba : Option Addr) (base : List Int) (cb : Nat) (ta : Option Addr) (ts : List (Int × List Nd)) (ct : Nat) (ax : Option Addr) (xs : List Nat) (cx : Nat) (n : Int) (w : World) (h : EnA w nm fa fs ba base ta ts) (he : exE nm fs N base ts xs.length ≠ 0) :
    Calls Tryd.prog 8 #[.agg (ev nm fa fs.length cf N ba base.length cb ta ts.length ct), .slice ax xs.length cx, .int .i64 n] w fun e w' => e = .returned (.tuple #[.slice none 0 0, .int .i64 (exE nm fs N base ts xs.length)]) ∧ Keep w w' := by
  obtain ⟨w5, hw5, k5, s5, b0, b1, b2, b3, b4⟩ := boxes5 w (ev nm fa fs.length cf N ba base.length cb ta ts.length ct) (.int .i64 n) (.slice none 0 0) (.int .i64 0) (.slice ax xs.length cx) 26 3 33 29 27
  have hX := errorOf_any nm fa fs cf N ba base cb ta ts ct (w.heap.size + 1 + 1 + 1 + 1) 1 xs.length cx ax w5 (h.keep k5) (cells1 b4).1
  have hX2 : Calls Tryd.prog 15 #[.agg (ev nm fa fs.length cf N ba base.length cb ta ts.length ct), .slice (some ⟨w.heap.size + 1 + 1 + 1 + 1, 0, none⟩) 1 1] w5 fun e w' => e = .returned (.int .i64 (exE nm fs N base ts xs.length)) ∧ Keep w5 w' := hX
  clear hX
  obtain ⟨E, hE⟩ : ∃ E, exE nm fs N base ts xs.length = E := ⟨_, rfl⟩
  rw [hE] at hX2 he ⊢
  clear hE
  have hne : (E != 0) = true := by simpa using he
  clear he
  obtain ⟨m, hm⟩ : ∃ m, xs.length = m := ⟨_, rfl⟩
  rw [hm] at hw5 ⊢
  clear hm
  go_enter Tryd.func8, Tryd.ntmps8
  go_wp2_with (first | rw [hw5] | (go_at_call 15; refine hX2.mono ?_; rintro e w6 ⟨rfl, k6⟩; have c2 := k6.at b2; have c3 := k6.at b3; obtain ⟨p1, p2, w7, hw7, q1, q2, q3, q4, q5⟩ := put11 c2 c3 (by omega) (.slice none 0 0) (.int .i64 E); obtain ⟨d2, f2⟩ := cells1 c2))
  refine bodyPost_ret (results_c2 rfl _ _ (w.heap.size + 1 + 1) (w.heap.size + 1 + 1 + 1) none 0 0 E rfl rfl (cells1 q1).1 (cells1 q2).1) rfl ⟨rfl, q5 w (k5.trans k6) (by omega) (by omega)⟩
end Go.Proofs.YtodegcobkngmlaaDoor
