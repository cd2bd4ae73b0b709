import Derived.Test.YtaogjiffnebnkaaV7
import Derived.Test.YtaogjiffnebnkaaV4
set_option linter.unusedVariables false
set_option linter.unusedSimpArgs false
namespace Go.Proofs.Ytaogjiffnebnkaa
open Go.RowKit Go.Shelf
/-- A list, as mathematics. -/
structure Lst where
  ft : Int
  ns : List Ct
  cs : List Ct
  ls : List Ct
def lst0 : Lst := ⟨0, [], [], []⟩
/-- Lists that can be read. -/
def RdL (w : World) (a : Option Addr) (T : List Lst) : Prop :=
  ∀ j, j < T.length → ∃ b o na nc ca cc la lc, a = some ⟨b, o, none⟩ ∧ w.cell? ⟨b, o + j * 4, none⟩ = some (.int .i64 (T.getD j lst0).ft) ∧ w.cell? ⟨b, o + j * 4 + 1, none⟩ = some (.slice na (T.getD j lst0).ns.length nc) ∧ w.cell? ⟨b, o + j * 4 + 2, none⟩ = some (.slice ca (T.getD j lst0).cs.length cc) ∧ w.cell? ⟨b, o + j * 4 + 3, none⟩ = some (.slice la (T.getD j lst0).ls.length lc) ∧
    RdC w na (T.getD j lst0).ns ∧ RdC w ca (T.getD j lst0).cs ∧ RdC w la (T.getD j lst0).ls ∧ (T.getD j lst0).ns.length ≤ 1099511627776 ∧ (T.getD j lst0).cs.length ≤ 1099511627776 ∧ (T.getD j lst0).ls.length ≤ 1099511627776 ∧ (T.getD j lst0).ns.length ≤ nc ∧ (T.getD j lst0).cs.length ≤ cc ∧ (T.getD j lst0).ls.length ≤ lc
theorem RdL.keep {w w' : World} {a : Option Addr} {T : List Lst} (h : RdL w a T) (k : Keep w w') : RdL w' a T := by
  intro j hj
  obtain ⟨b, o, na, nc, ca, cc, la, lc, e, h0, h1, h2, h3, r1, r2, r3, q⟩ := h j hj
  exact ⟨b, o, na, nc, ca, cc, la, lc, e, k.cell h0, k.cell h1, k.cell h2, k.cell h3, r1.keep k, r2.keep k, r3.keep k, q⟩
set_option maxRecDepth 100000 in
set_option maxHeartbeats 4000000 in
theorem Alike_eq (a b : Option Addr) (ca cb : Nat) (T : List Lst) (n : Nat) (hn : T.length = n) (w : World) (hLn : n ≤ 1099511627776) (ha : RdL w a T) (hb : RdL w b T) :
    Calls Try.prog 12 #[.slice a n ca, .slice b n cb] w fun e w' => e = .returned (.bool true) ∧ Keep w w' := by
  have HL : Hid (n ≤ 1099511627776) := hLn
  have HN : Hid (T.length = n) := hn
  clear hLn hn
  go_enter Try.func12, Try.ntmps12
  go_wp2_with fail
  go_loopw [5] (fun iv wr => ∃ k : Nat, k ≤ n ∧ iv = .int .i64 k ∧ Keep w wr) (fun iv _ => n - (intOf iv).toNat)
  case atStart => exact ⟨0, Nat.zero_le _, rfl, Keep.refl w⟩
  case round =>
    obtain ⟨k, hk, rfl, kw⟩ := hrel
    by_cases hkl : k < n
    · have hkc : (k : Int) < (n : Int) := by omega
      obtain ⟨b1, o1, na1, nc1, ca1, cc1, la1, lc1, rfl, c0, c1, c2, c3, r1, r2, r3, m1, m2, m3, -⟩ := (ha.keep kw) k (by rw [HN.out]; exact hkl)
      obtain ⟨b2, o2, na2, nc2, ca2, cc2, la2, lc2, rfl, d0, d1, d2, d3, s1, s2, s3, -⟩ := (hb.keep kw) k (by rw [HN.out]; exact hkl)
      generalize T.getD k lst0 = N at *
      obtain ⟨ft, ns, cs, ls⟩ := N
      simp only at c0 c1 c2 c3 d0 d1 d2 d3 r1 r2 r3 s1 s2 s3 m1 m2 m3
      have h1 := fun (wx : World) (k : Keep wr wx) => Same_big na1 na2 nc1 nc2 ns ns.length rfl wx m1 (r1.keep k) (s1.keep k)
      have h2 := fun (wx : World) (k : Keep wr wx) => Same_big ca1 ca2 cc1 cc2 cs cs.length rfl wx m2 (r2.keep k) (s2.keep k)
      have h3 := fun (wx : World) (k : Keep wr wx) => Same_big la1 la2 lc1 lc2 ls ls.length rfl wx m3 (r3.keep k) (s3.keep k)
      generalize ns.length = x1 at c1 d1 h1
      generalize cs.length = x2 at c2 d2 h2
      generalize ls.length = x3 at c3 d3 h3
      clear r1 r2 r3 s1 s2 s3 m1 m2 m3 ha hb
      go_wp2_with fail
      try simp only [List.append_eq, List.cons_append, List.nil_append]
      refine region_keepQ (Keep.refl wr) (by kernel_rfl) (by kernel_rfl) ?_
      repeat
        with_reducible refine wpQuiet_step ?_
        intro K hK
        go_simp
        first
          | (with_reducible refine hK _ ?_; clear hK K)
          | (with_reducible refine (if_neg ?_).mpr (hK _ ?_)
             · decide
             clear hK K)
          | (apply Exists.intro
             with_reducible refine ⟨fun wx hq => ?_, hK _ ?_⟩
             · first
                 | with_reducible rfl
                 | with_reducible exact (h1 wx hq).mono fun e w'' h => ⟨h.1, hq.trans h.2⟩
                 | with_reducible exact (h2 wx hq).mono fun e w'' h => ⟨h.1, hq.trans h.2⟩
                 | with_reducible exact (h3 wx hq).mono fun e w'' h => ⟨h.1, hq.trans h.2⟩
                 | (have x0 := hq.cell c0; have x1 := hq.cell c1; have x2 := hq.cell c2; have x3 := hq.cell c3; have y0 := hq.cell d0; have y1 := hq.cell d1; have y2 := hq.cell d2; have y3 := hq.cell d3; go_simp; with_reducible rfl)
             clear hK K)
      with_reducible refine wpQuiet_nil ?_
      intro w3 k3
      go_simp
      go_wp2_with fail
      have hL := HL.out
      rw [wrap_up4 hL hkl]
      exact ⟨⟨k + 1, hkl, rfl, kw.trans k3⟩, by show n - (((k + 1 : Nat) : Int)).toNat < n - ((k : Int)).toNat; omega⟩
    · have hkc : ¬ (k : Int) < (n : Int) := by omega
      go_wp2_with fail
      go_ret
      exact ⟨rfl, kw⟩
end Go.Proofs.Ytaogjiffnebnkaa
set_option linter.unusedVariables false
set_option linter.unusedSimpArgs false
namespace Go.Proofs.Ytaogjiffnebnkaa
open Go.RowKit Go.Shelf Go.Maps
theorem rise_ext : ∀ {a b : List Int}, a.Pairwise (· < ·) → b.Pairwise (· < ·) → (∀ x, x ∈ a ↔ x ∈ b) → a = b
  | [], [], _, _, _ => rfl
  | [], y :: b, _, _, h => by have := (h y).2 List.mem_cons_self; cases this
  | x :: a, [], _, _, h => by have := (h x).1 List.mem_cons_self; cases this
  | x :: a, y :: b, ha, hb, h => by
    obtain ⟨a1, a2⟩ := List.pairwise_cons.1 ha
    obtain ⟨b1, b2⟩ := List.pairwise_cons.1 hb
    have e : x = y := by
      rcases List.mem_cons.1 ((h x).1 List.mem_cons_self) with q | q
      · exact q
      · rcases List.mem_cons.1 ((h y).2 List.mem_cons_self) with q2 | q2
        · exact q2.symm
        · have := b1 x q; have := a1 y q2; omega
    subst e
    congr 1
    refine rise_ext a2 b2 fun z => ?_
    constructor
    · intro hz
      rcases List.mem_cons.1 ((h z).1 (List.mem_cons_of_mem _ hz)) with q | q
      · have := a1 z hz; omega
      · exact q
    · intro hz
      rcases List.mem_cons.1 ((h z).2 (List.mem_cons_of_mem _ hz)) with q | q
      · have := b1 z hz; omega
      · exact q
/-- A cut's key. -/
def kC (c : Ct) : Int := (key c.th : Nat)
theorem srt_fst {K : List CI} (h : srt Cu.kI K) : srt kC (K.map (fun r => r.1)) := by
  show (K.map _).Pairwise _
  rw [List.pairwise_map]
  exact h
theorem eqv_fst {K M : List CI} (h : eqv Cu.kI K M) : eqv kC (K.map (fun r => r.1)) (M.map (fun r => r.1)) := by
  intro k
  rw [List.filter_map, List.filter_map]
  congr 1
  exact h k
/-- A feature's list. -/
def lstP (X : GX) (M : Nat → List CI) (i : Nat) : Lst := ⟨X.f i, (M i).map (fun r => r.1), (X.K i 1).map (fun r => r.1), (X.K i 2).map (fun r => r.1)⟩
/-- A row of cuts that can be read, in all its depth. -/
theorem WrC.rd {B : Nat} {w : World} {v : Value} {K : List CI} (h : WrC B w v K) (hc : ∀ r ∈ K, OwnZ 3 B w (.slice r.2.1 r.1.cs.length r.2.2) r.1.cs ∧ r.1.cs.length ≤ 17592186044416) : ∃ a c, v = .slice a K.length c ∧ RdC w a (K.map (fun r => r.1)) ∧ K.length ≤ c := by
  rcases h with ⟨h1, rfl⟩ | ⟨g, cap, cur, hv, hg, hh, hcap, htk⟩
  · exact ⟨none, 0, h1, fun j hj => by simp at hj, Nat.le_refl _⟩
  · refine ⟨_, _, hv, ?_, hcap⟩
    intro j hj
    rw [List.length_map] at hj
    have ej : (K.map (fun r => r.1)).getD j cd0 = (K.getD j ct0).1 := by simp [List.getD, hj]
    have hm : K.getD j ct0 ∈ K := by
      have : K.getD j ct0 = K[j] := by simp [List.getD, hj]
      rw [this]; exact List.getElem_mem _
    obtain ⟨h1, h2⟩ := hc _ hm
    rw [ej]
    have hu : ∀ i u, i < 5 → (UC [K.getD j ct0])[i]? = some u → w.cell? ⟨g, j * 5 + i, none⟩ = some u := by
      intro i u hi hu
      have e1 : cur.toList[j * 5 + i]? = (UC K)[j * 5 + i]? := by rw [← htk, List.getElem?_take, if_pos (by omega)]
      rw [cell_of_row w g _ cur 57 (0, 0) hh, ← hu, ← UC_get K j i hj hi, ← e1]; simp
    generalize K.getD j ct0 = r at *
    obtain ⟨a', c', e', hc', hr'⟩ := h1.shape
    simp only [Value.slice.injEq] at e'
    obtain ⟨rfl, -, rfl⟩ := e'
    refine ⟨g, 0, r.2.1, r.2.2, rfl, ?_⟩
    rw [Nat.zero_add]
    exact ⟨hu 0 _ (by omega) rfl, hu 1 _ (by omega) rfl, hu 2 _ (by omega) rfl, hu 3 _ (by omega) rfl, hu 4 _ (by omega) rfl, hr', hc', h2⟩
/-- A row of lists that can be read. -/
def RowL (w : World) (v : Value) (T : List Li) : Prop := (v = .slice none 0 0 ∧ T = []) ∨ ∃ g c, ∃ cur : Array Value, v = .slice (some ⟨g, 0, none⟩) T.length c ∧ w.heap[g]? = some (.cells cur 33 (0, 0)) ∧ cur.toList.take (T.length * 4) = UL T
theorem OwnL.row {B : Nat} {w : World} {v : Value} {T : List Li} (h : OwnL B w v T) : RowL w v T := by
  rcases h.2 with ⟨h1, h2⟩ | ⟨g, cap, cur, hv, hg, hh, h1, h2, h3, h4⟩
  · exact .inl ⟨h1, List.eq_nil_of_length_eq_zero h2⟩
  · exact .inr ⟨g, cap, cur, hv, hh, h4⟩
theorem RowL.rd {B : Nat} {w : World} {v : Value} {X : GX} {A : List Nat} {M : Nat → List CI} (h : RowL w v (A.map (item X))) (hr : ∀ i ∈ A, ∀ j, j < 3 → WrC B w (X.v i j) ((X.wth M).K i j)) (hc : ∀ i ∈ A, ∀ j, j < 3 → ∀ r ∈ (X.wth M).K i j, OwnZ 3 B w (.slice r.2.1 r.1.cs.length r.2.2) r.1.cs ∧ r.1.cs.length ≤ 17592186044416)
    (hl : ∀ i ∈ A, ∀ j, j < 3 → ((X.wth M).K i j).length ≤ 1099511627776) : ∃ a c, v = .slice a A.length c ∧ RdL w a (A.map (lstP X M)) := by
  rcases h with ⟨h1, h2⟩ | ⟨g, c, cur, hv, hh, htk⟩
  · have : A = [] := List.map_eq_nil_iff.1 h2
    subst this
    exact ⟨none, 0, h1, fun j hj => by simp at hj⟩
  · rw [List.length_map] at hv htk
    refine ⟨_, _, hv, ?_⟩
    intro j hj
    rw [List.length_map] at hj
    have hi : A[j] ∈ A := List.getElem_mem _
    have ej : (A.map (lstP X M)).getD j lst0 = lstP X M A[j] := by simp [List.getD, hj]
    have et : (A.map (item X)).getD j Ls.d0 = item X A[j] := by simp [List.getD, hj]
    have hu : ∀ i u, i < 4 → (UL [item X A[j]])[i]? = some u → w.cell? ⟨g, j * 4 + i, none⟩ = some u := by
      intro i u hi' hu
      have e1 : cur.toList[j * 4 + i]? = (UL (A.map (item X)))[j * 4 + i]? := by rw [← htk, List.getElem?_take, if_pos (by omega)]
      rw [cell_of_row w g _ cur 33 (0, 0) hh, ← hu, ← et, ← UL_get (A.map (item X)) j i (by simpa using hj) hi', ← e1]; simp
    rw [ej]
    generalize A[j] = i at *
    obtain ⟨a0, c0, e0, r0, p0⟩ := (hr i hi 0 (by omega)).rd (hc i hi 0 (by omega))
    obtain ⟨a1, c1, e1, r1, p1⟩ := (hr i hi 1 (by omega)).rd (hc i hi 1 (by omega))
    obtain ⟨a2, c2, e2, r2, p2⟩ := (hr i hi 2 (by omega)).rd (hc i hi 2 (by omega))
    have l0 := hl i hi 0 (by omega)
    have l1 := hl i hi 1 (by omega)
    have l2 := hl i hi 2 (by omega)
    have w0 : (X.wth M).K i 0 = M i := rfl
    have w1 : (X.wth M).K i 1 = X.K i 1 := rfl
    have w2 : (X.wth M).K i 2 = X.K i 2 := rfl
    rw [w0] at e0 r0 l0 p0
    rw [w1] at e1 r1 l1 p1
    rw [w2] at e2 r2 l2 p2
    replace e0 : X.v i 0 = _ := e0
    replace e1 : X.v i 1 = _ := e1
    replace e2 : X.v i 2 = _ := e2
    have hit : item X i = ⟨X.f i, a0, (M i).length, c0, a1, (X.K i 1).length, c1, a2, (X.K i 2).length, c2⟩ := by
      unfold item; rw [e0, e1, e2]; rfl
    rw [hit] at hu
    refine ⟨g, 0, a0, c0, a1, c1, a2, c2, rfl, ?_, ?_, ?_, ?_, r0, r1, r2, ?_, ?_, ?_, ?_, ?_, ?_⟩
    · rw [Nat.zero_add]; exact hu 0 _ (by omega) rfl
    · rw [Nat.zero_add]; simpa [lstP] using hu 1 _ (by omega) rfl
    · rw [Nat.zero_add]; simpa [lstP] using hu 2 _ (by omega) rfl
    · rw [Nat.zero_add]; simpa [lstP] using hu 3 _ (by omega) rfl
    · simpa [lstP] using l0
    · simpa [lstP] using l1
    · simpa [lstP] using l2
    · simpa [lstP] using p0
    · simpa [lstP] using p1
    · simpa [lstP] using p2
theorem gall_len {ts : List (Int × List Nd)} {F : Int} (hT : ∀ j, j < ts.length → tkE (ts.getD j (0, [])).2 F = 0) : ∀ k, k ≤ ts.length → (gall (ts.take k)).length ≤ k * 4096
  | 0, _ => by simp [gall]
  | k + 1, hk => by
    have h1 := gall_len hT k (by omega)
    have hkl : k < ts.length := by omega
    have HT : ts.take (k + 1) = ts.take k ++ [ts.getD k (0, [])] := by rw [List.take_succ_eq_append_getElem hkl]; simp [List.getD, hkl]
    rw [HT, gall_snoc, List.length_append, Nat.succ_mul]
    exact Nat.add_le_add h1 (gat_len (tkE_tr (hT k hkl)) _)
end Go.Proofs.Ytaogjiffnebnkaa
