import Derived.Test.YtcdcheecaphmgaaDoorM33
import Derived.Test.YtcdcheecaphmgaaDoorM19
set_option linter.unusedVariables false
set_option linter.unusedSimpArgs false
namespace Go.Proofs.YtcdcheecaphmgaaDoor
/-- A node whose children are renamed; the row of them. -/
def unN (f : Nat → Nat) (n : Nd) : Nd := if n.kd = 1 then n else { n with lf := (f n.lf.toNat : Nat), rt := (f n.rt.toNat : Nat) }
def unL (L : List Nd) (l : List Nat) (f : Nat → Nat) : List Nd := l.map fun i => unN f (L.getD i nd0)
theorem unL_len (L : List Nd) (l : List Nat) (f : Nat → Nat) : (unL L l f).length = l.length := by simp [unL]
theorem unL_get (L : List Nd) (l : List Nat) (f : Nat → Nat) {k : Nat} (h : k < l.length) : (unL L l f).getD k nd0 = unN f (L.getD (l.getD k 0) nd0) := by simp [unL, List.getD, h]
theorem unN_kd (f : Nat → Nat) (n : Nd) : (unN f n).kd = n.kd := by unfold unN; split <;> rfl
theorem unN_right {f : Nat → Nat} {n : Nd} {N M : Nat} (h : rightB n N = true) (hc : n.kd ≠ 1 → (1 ≤ f n.lf.toNat ∧ f n.lf.toNat < M) ∧ 1 ≤ f n.rt.toNat ∧ f n.rt.toNat < M) : rightB (unN f n) M = true := by
  unfold rightB at h ⊢
  rw [unN_kd]
  by_cases h1 : n.kd = 1
  · rw [if_pos h1] at h ⊢
    unfold unN
    rw [if_pos h1]
    exact h
  · obtain ⟨⟨c1, c2⟩, c3, c4⟩ := hc h1
    have hs : spl n N = true → spl (unN f n) M = true := by
      unfold spl unN
      rw [if_neg h1]
      simp only [decide_eq_true_eq]
      rintro ⟨a1, a2, a3, a4, a5, a6⟩
      exact ⟨a1, a2, a3, a4, ⟨by omega, by omega⟩, by omega, by omega⟩
    rw [if_neg h1] at h ⊢
    have e1 : (unN f n).th = n.th := by unfold unN; rw [if_neg h1]
    have e2 : (unN f n).cs = n.cs := by unfold unN; rw [if_neg h1]
    rw [e1, e2]
    by_cases h2 : n.kd = 2
    · rw [if_pos h2] at h ⊢
      simp only [Bool.and_eq_true] at h ⊢
      exact ⟨⟨hs h.1.1, h.1.2⟩, h.2⟩
    · rw [if_neg h2] at h ⊢
      by_cases h3 : n.kd = 3
      · rw [if_pos h3] at h ⊢
        simp only [Bool.and_eq_true] at h ⊢
        exact ⟨⟨hs h.1.1, h.1.2⟩, h.2⟩
      · rw [if_neg h3] at h; cases h
/-- The nodes below one, numbered anew, are right, and a tree with as many leaves. -/
theorem under_ok {L : List Nd} (hR : Rgt L) {b : BT} {r : Nat} {l : List Nat} {f : Nat → Nat} (h : Bt (shp L) b r) (hin : ∀ k ∈ b.pre, k < L.length) (hp : l.Perm b.pre) (hf : Plc l f) (h0 : f r = 0) :
    Rgt (unL L l f) ∧ Tr (shp (unL L l f)) l.length ∧ Bt (shp (unL L l f)) (b.ren f) 0 ∧ (b.ren f).nl = b.nl := by
  have back : ∀ k ∈ b.pre, f k < l.length ∧ l.getD (f k) 0 = k := by
    intro k hk
    obtain ⟨m, hm, e⟩ := List.mem_iff_getElem.1 (hp.mem_iff.2 hk)
    have e2 : l.getD m 0 = k := by rw [List.getD_eq_getElem?_getD, List.getElem?_eq_getElem hm]; exact e
    have e3 := hf m hm
    rw [e2] at e3
    rw [e3]
    exact ⟨hm, e2⟩
  have row : ∀ k ∈ b.pre, (unL L l f).getD (f k) nd0 = unN f (L.getD k nd0) := by
    intro k hk
    obtain ⟨h1, h2⟩ := back k hk
    rw [unL_get L l f h1, h2]
  have hu : ∀ k ∈ b.pre, (shp (unL L l f)).K (f k) = (shp L).K k ∧ ((shp L).K k = true → (shp (unL L l f)).A (f k) = f ((shp L).A k) ∧ (shp (unL L l f)).B (f k) = f ((shp L).B k)) := by
    intro k hk
    simp only [shp]
    rw [row k hk, unN_kd]
    refine ⟨rfl, fun hK => ?_⟩
    have h1 : (L.getD k nd0).kd ≠ 1 := by
      simp only [decide_eq_true_eq] at hK
      omega
    unfold unN
    rw [if_neg h1]
    simp
  obtain ⟨hT, hb, hn⟩ := sub_tree h hp hf h0 hu
  refine ⟨⟨by rw [unL_len]; exact hT.wi.1, fun i hi => ?_⟩, hT, hb, hn⟩
  rw [unL_len] at hi ⊢
  have hk : l.getD i 0 ∈ b.pre := hp.mem_iff.1 (by rw [List.getD_eq_getElem?_getD, List.getElem?_eq_getElem hi]; exact List.getElem_mem hi)
  have hfi := hf i hi
  rw [unL_get L l f hi]
  generalize l.getD i 0 = k at *
  have hr := hR.2 k (hin k hk)
  refine unN_right hr fun h1 => ?_
  have hK : (shp L).K k = true := by
    simp only [shp, decide_eq_true_eq]
    unfold rightB at hr
    rw [if_neg h1] at hr
    by_cases h2 : (L.getD k nd0).kd = 2
    · exact .inl h2
    · rw [if_neg h2] at hr
      by_cases h3 : (L.getD k nd0).kd = 3
      · exact .inr h3
      · rw [if_neg h3] at hr; cases hr
  obtain ⟨u1, u2⟩ := hu k hk
  obtain ⟨u3, u4⟩ := u2 hK
  rw [hfi] at u1 u3 u4
  have hK2 : (shp (unL L l f)).K i = true := by rw [u1]; exact hK
  obtain ⟨z1, z2⟩ := hT.z i hi hK2
  obtain ⟨l1, l2⟩ := hT.wi.2 i hi hK2
  rw [u3] at z1 l1
  rw [u4] at z2 l2
  exact ⟨⟨Nat.pos_of_ne_zero z1, l1⟩, Nat.pos_of_ne_zero z2, l2⟩
end Go.Proofs.YtcdcheecaphmgaaDoor
