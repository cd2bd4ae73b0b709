import Derived.Test.YtbjidpooociamaaDoorF6
namespace Go.Proofs.YtbjidpooociamaaDoor
open Go.RowKit Lb
theorem numv_from (b : List Nat) : ∀ s, b.foldl (fun a x => a * 10 + (x - 48)) s = s * 10 ^ b.length + numv b := by
  induction b with
  | nil => intro s; simp [numv]
  | cons x xs ih =>
    intro s
    have h1 := ih (s * 10 + (x - 48))
    have h2 := ih (0 * 10 + (x - 48))
    simp only [List.foldl_cons, numv, List.length_cons] at *
    rw [h1, h2, Nat.pow_succ]
    grind
theorem numv_append (a b : List Nat) : numv (a ++ b) = numv a * 10 ^ b.length + numv b := by
  rw [numv, List.foldl_append]
  exact numv_from b _
theorem numv_lt (l : List Nat) (h : ∀ x ∈ l, 48 ≤ x ∧ x < 58) : numv l < 10 ^ l.length := by
  induction l with
  | nil => simp [numv]
  | cons x xs ih =>
    have h1 := ih (fun y hy => h y (by simp [hy]))
    have h2 := h x (by simp)
    have h3 := numv_append [x] xs
    simp only [List.singleton_append] at h3
    rw [h3, List.length_cons, Nat.pow_succ]
    have h4 : numv [x] = x - 48 := by simp [numv]
    rw [h4]
    have h5 : (x - 48) * 10 ^ xs.length ≤ 9 * 10 ^ xs.length := Nat.mul_le_mul_right _ (by omega)
    omega
/-- Powers as an argument: so many of them, readable. -/
def Pw (w : World) (av : Option Addr) (k : Nat) : Prop := ∀ i, i < k → ∃ g gx cx lx, av = some ⟨g, 0, none⟩ ∧ w.cell? ⟨g, i, none⟩ = some (.slice (some ⟨gx, 0, none⟩) (List.length lx) cx) ∧ lx.length ≤ cx ∧ Rd w (some ⟨gx, 0, none⟩) lx ∧ Lim lx ∧ Nrm lx ∧ val lx = 10 ^ (288 * 2 ^ i)
theorem Pw.keep {w w' : World} {av : Option Addr} {k : Nat} (h : Pw w av k) (hk : Keep w w') : Pw w' av k := by
  intro i hi
  obtain ⟨g, gx, cx, lx, e, hc, hl, hr, r⟩ := h i hi
  exact ⟨g, gx, cx, lx, e, hk.cell hc, hl, hr.keep hk, r⟩
theorem Pw.less {w : World} {av : Option Addr} {k j : Nat} (h : Pw w av k) (hj : j ≤ k) : Pw w av j := fun i hi => h i (by omega)
theorem Pows.pw {B : Nat} {w : World} {av : Option Addr} {c : Nat} {vs : List Value} (ho : OwnP B w (.slice av vs.length c) vs) (h : Pows B w vs) : Pw w av vs.length := by
  intro i hi
  obtain ⟨a, c', e, -, hcell⟩ := ho.shape
  simp only [Value.slice.injEq] at e
  obtain ⟨rfl, -, rfl⟩ := e
  obtain ⟨x, hx⟩ : ∃ x, vs[i]? = some x := ⟨_, List.getElem?_eq_getElem hi⟩
  obtain ⟨g, rfl, hc⟩ := hcell i x hx
  obtain ⟨gx, rx, lx, rfl, hgx, hrx, hlrx, htx, hrlx, hmrx, hmlx, hnlx, hvlx⟩ := h i x hx
  refine ⟨g, gx, rx.length, lx, rfl, hc, hlrx, ?_, hmlx, hnlx, hvlx⟩
  have := hrx.rd 0 lx.length (by omega)
  rw [List.drop_zero, htx] at this
  exact this
set_option maxRecDepth 100000 in
set_option maxHeartbeats 400000 in
theorem joined_zero (av : Option Addr) (c : Nat) (cs : List Nat) (w : World) (hcs : ∀ x ∈ cs, 48 ≤ x ∧ x < 58) (hl : cs.length ≤ 140737488355328) :
    Calls Tryd.prog 73 #[.string (S8 cs), .slice av 0 c] w fun e w' => ∃ v, e = .returned v ∧ NatR w.heap.size w' v (numv cs) ∧ Keep w w' := by
  go_enter Tryd.func73, Tryd.ntmps73
  go_wp2_with fail
  refine (joinedChunks_any cs w hcs hl).mono ?_
  rintro e w1 ⟨v, rfl, hn, hk⟩
  obtain ⟨a, c, l, rfl, -⟩ := hn.shape
  go_wp2_with fail
  go_ret
  exact ⟨_, rfl, hn, hk⟩
end Go.Proofs.YtbjidpooociamaaDoor
