import Derived.Test.YtaogjiffnebnkaaV3
import Derived.Deep.RegionHeld3
set_option linter.unusedVariables false
set_option linter.unusedSimpArgs false
namespace Go.Proofs.Ytaogjiffnebnkaa
open Go.RowKit Go.Shelf Go.Maps
attribute [local go_sem] run_store_float
/-- append(l, whole numbers...), l of one's own and empty, as a step of a region. -/
theorem step_copyE (B : Nat) {ops : Array Oper} {o : Oper} {a : Act} {K : Act → World → Prop} {Q : Exit → Act → World → Prop} {X : Prop} {w : World} (hgd : o.guard = none) (s x : Operand)
    (ho : o.op = .call { callee := .builtin .append, args := #[s, x], argTypes := #[55, 55] }) (g : Nat) (hown : OwnZ 3 B w (.slice (some ⟨g, 0, none⟩) 0 0) []) (hB : B ≤ w.heap.size) (l : List Int) (ad : Option Addr) (c : Nat) (hs : a.eval s = .slice (some ⟨g, 0, none⟩) 0 0)
    (hx : a.eval x = .slice ad l.length c) (hr : RdI w ad l) (hlen : l.length ≤ 17592186044416)
    (hK : ∀ v' w1, OwnZ 3 B w1 v' l → w.grownBy w1 (some g) → K (a.put o.dst v') w1) :
    if Region.wanted o (yielded ops a.tmps) = true then Oper.wp Try.prog o a w K Q else X := by
  have hw : Region.wanted o (yielded ops a.tmps) = true := by simp [Region.wanted, hgd]
  rw [if_pos hw]
  have hrun : ∃ v' w1, (Builtin.append_ #[55, 55] o.type #[.slice (some ⟨g, 0, none⟩) 0 0, .slice ad l.length c]).run Try.prog w = .ok v' w1 ∧ OwnZ 3 B w1 v' l ∧ w.grownBy w1 (some g) := by
    obtain ⟨i0, hi, hz0, hz1, hz2⟩ := info_parts i3
    rcases ad with _ | ad
    · obtain rfl : l = [] := by
        by_cases h : l = []
        · exact h
        · obtain ⟨b, o, e, -⟩ := hr 0 (List.length_pos_iff.2 h); cases e
      refine ⟨_, w, ?_, hown, ⟨rfl, rfl, rfl, Nat.le_refl _, fun _ _ _ => rfl⟩⟩
      go_simp
    · have hnews : ∀ i u, (UZ l)[i]? = some u → w.cell? (ad.add i) = some u := by
        intro i u hi
        have hjl : i < l.length := by have := (List.getElem?_eq_some_iff.1 hi).1; simpa [UZ_length] using this
        rw [UZ_get l i hjl] at hi
        obtain ⟨b', o', e, hc⟩ := hr i hjl
        simp only [Option.some.injEq] at e
        subst e
        rw [Addr.add_lit, hc, hi]
      obtain ⟨v', w1, h1, h2, h3, -⟩ := run_append_own (P := Try.prog) w B 55 o.type 3 i0 _ 1 8 Try.underlying55 hi hz0 hz1 hz2 rfl (by decide) _ _ _ hown ad l.length c (UZ l) (by simp [UZ]) hnews (UZ_one l) (by simp only [maxLen, List.length_nil]; omega) (by simp only [List.length_nil]; omega) hB
      exact ⟨v', w1, h1, by unfold OwnZ; simpa [UZ] using h2, h3⟩
  obtain ⟨v', w1, h1, h2, h3⟩ := hrun
  unfold Oper.wp
  simp [execOp, ho, resolve, invoke, builtin, hs, hx, h1, Result.andThen]
  exact hK v' w1 h2 h3
abbrev zCt : Array Value := #[.float .f64 0, .slice none 0 0, .int .i64 0, .int .i64 0, .int .i64 0]
theorem fin14 {W w5 : World} {cb cc : Nat} {va : Option Addr} {N : Ct} (k : Keep W w5) (hcb : W.heap.size ≤ cb) (hb : w5.heap[cb]? = some (Obj.cells zCt 57 (0, 0))) (hz : OwnZ 3 W.heap.size w5 (.slice va N.cs.length cc) N.cs) :
    Keep W (((((w5.setCell ⟨cb, 0, none⟩ (.float .f64 N.th)).setCell ⟨cb, 1, none⟩ (.slice va N.cs.length cc)).setCell ⟨cb, 2, none⟩ (.int .i64 N.tr)).setCell ⟨cb, 3, none⟩ (.int .i64 N.fr)).setCell ⟨cb, 4, none⟩ (.int .i64 N.to)) ∧
    (((((w5.setCell ⟨cb, 0, none⟩ (.float .f64 N.th)).setCell ⟨cb, 1, none⟩ (.slice va N.cs.length cc)).setCell ⟨cb, 2, none⟩ (.int .i64 N.tr)).setCell ⟨cb, 3, none⟩ (.int .i64 N.fr)).setCell ⟨cb, 4, none⟩ (.int .i64 N.to)).heap[cb]? = some (Obj.cells (N.cells va cc) 57 (0, 0)) ∧
    OwnZ 3 W.heap.size (((((w5.setCell ⟨cb, 0, none⟩ (.float .f64 N.th)).setCell ⟨cb, 1, none⟩ (.slice va N.cs.length cc)).setCell ⟨cb, 2, none⟩ (.int .i64 N.tr)).setCell ⟨cb, 3, none⟩ (.int .i64 N.fr)).setCell ⟨cb, 4, none⟩ (.int .i64 N.to)) (.slice va N.cs.length cc) N.cs := by
  obtain ⟨h1, h2⟩ := store5 w5 cb 57 _ _ _ _ _ (.float .f64 N.th) (.slice va N.cs.length cc) (.int .i64 N.tr) (.int .i64 N.fr) (.int .i64 N.to) hb
  refine ⟨((((k.setCell (p := ⟨cb, 0, none⟩) hcb _).setCell (p := ⟨cb, 1, none⟩) hcb _).setCell (p := ⟨cb, 2, none⟩) hcb _).setCell (p := ⟨cb, 3, none⟩) hcb _).setCell (p := ⟨cb, 4, none⟩) hcb _, h1, ?_⟩
  refine hz.same fun b hb' => h2 b fun e => ?_
  obtain ⟨-, c2, hc⟩ := hz.block hb'
  rw [e, hb] at hc
  simp at hc
/-- What a cut's making leaves. -/
structure Mkd (W W2 : World) (cb : Nat) (N : Ct) (va : Option Addr) (cc : Nat) : Prop where
  k : Keep W W2
  le : W.heap.size ≤ cb
  c : W2.heap[cb]? = some (Obj.cells (N.cells va cc) 57 (0, 0))
  z : OwnZ 3 W.heap.size W2 (.slice va N.cs.length cc) N.cs
set_option maxRecDepth 100000 in
set_option maxHeartbeats 4000000 in
theorem refRegion14 {W : World} {nb bm om n2 cv k j fr t2 th cp : Nat} {ca : Option Addr} {cs : List Int} (h3 : W.cell? ⟨nb, 3, none⟩ = some (.float .f64 th)) (h4 : W.cell? ⟨nb, 4, none⟩ = some (.slice ca cs.length cp)) (m1 : W.cell? ⟨bm, om + j * 3 + 1, none⟩ = some (.int .i64 (fr : Nat))) (m2 : W.cell? ⟨bm, om + j * 3 + 2, none⟩ = some (.int .i64 (t2 : Nat)))
    (hj : (j : Int) < (n2 : Int)) (hr : RdI W ca cs) (hl : cs.length ≤ 17592186044416) {Q : Exit → Act → World → Prop} (hP : ∀ (c : List PanicEntry) (a : Act) (d : Option Tmp) (v : Value) (w : World), Q (.panic c) (a.put d v) w → Q (.panic c) a w) (x0 x1 x2 x3 x4 x5 x6 x7 x8 x11 x14 x15 x16 x17 x18 x19 x20 x21 x22 x23 x24 x25 x26 x27 x28 x29 x30 x31 x32 x33 x34 x35 x36 x37 x38 x39 x40 x41 x42 x43 x44 x45 x46 x47 x48 x49 x50 x51 x52 x53 x54 x55 x56 x57 x58 x59 x60 x61 x62 x63 x64 x65 x66 x67 x68 x69 x70 x71 x72 x73 x74 x75 x76 x77 x78 x79 x80 x81 x82 x83 x84 x85 x86 x87 x88 x89 x90 x91 x92 x93 x94 x95 x96 x97 x98 x99 x100 x101 x102 x103 x104 x105 x106 x107 x108 x109 x110 x111 x112 x113 x114 x115 x116 x117 x118 x119 x120 x121 x122 x123 x124 x125 x126 x127 x128 x129 x130 x131 x132 x133 x134 x135 x136 x137 x138 x139 x140 x141 x142 x143 x144 x145 x146 x147 x148 x149 x150 x151 x152 x153 x154 x155 x156 x157 x158 x159 x160 x161 x162 x163 x164 x165 x166 x167 x168 x169 x170 x171 x172 x173 : Value) (ds : List Deferred)
    (hK : ∀ (u58 u59 u60 u61 u62 u63 u64 u65 u66 u67 u68 u69 u70 u71 u72 u73 u74 u75 : Value) (cb : Nat) (va : Option Addr) (cc : Nat) (W2 : World), Mkd W W2 cb ⟨th, cs, (k : Nat), (fr : Nat), (t2 : Nat)⟩ va cc → Q .normal ⟨#[x0, x1, x2, x3, x4, x5, x6, x7, x8, (.int .i64 (k : Nat)), (.slice (some ⟨bm, om, none⟩) n2 cv), x11, (.int .i64 (j : Nat)), (.pointer (some ⟨nb, 0, none⟩)), (.pointer (some ⟨cb, 0, none⟩)), x15, x16, x17, x18, x19, x20, x21, x22, x23, x24, x25, x26, x27, x28, x29, x30, x31, x32, x33, x34, x35, x36, x37, x38, x39, x40, x41, x42, x43, x44, x45, x46, x47, x48, x49, x50, x51, x52, x53, x54, x55, x56, x57, u58, u59, u60, u61, u62, u63, u64, u65, u66, u67, u68, u69, u70, u71, u72, u73, u74, u75, x76, x77, x78, x79, x80, x81, x82, x83, x84, x85, x86, x87, x88, x89, x90, x91, x92, x93, x94, x95, x96, x97, x98, x99, x100, x101, x102, x103, x104, x105, x106, x107, x108, x109, x110, x111, x112, x113, x114, x115, x116, x117, x118, x119, x120, x121, x122, x123, x124, x125, x126, x127, x128, x129, x130, x131, x132, x133, x134, x135, x136, x137, x138, x139, x140, x141, x142, x143, x144, x145, x146, x147, x148, x149, x150, x151, x152, x153, x154, x155, x156, x157, x158, x159, x160, x161, x162, x163, x164, x165, x166, x167, x168, x169, x170, x171, x172, x173], ds⟩ W2) :
    (Code.region 14 #[{ dst := some 58, op := Op.fieldAddr 83 (Operand.tmp 13) 3, type := 0, pos := "ref.go:56", after := #[], guard := none }, { dst := some 59, op := Op.load 34 (Operand.tmp 58), type := 34, pos := "ref.go:56", after := #[{ on := 0, ground := Ground.data }], guard := none }, { dst := some 60, op := Op.buildSlice 55 0 #[], type := 55, pos := "ref.go:56", after := #[], guard := none }, { dst := some 61, op := Op.fieldAddr 83 (Operand.tmp 13) 4, type := 0, pos := "ref.go:56", after := #[], guard := none }, { dst := some 62, op := Op.load 55 (Operand.tmp 61), type := 55, pos := "ref.go:56", after := #[{ on := 3, ground := Ground.data }], guard := none }, { dst := some 63, op := Op.call { callee := Callee.builtin Builtin.append, args := #[Operand.tmp 60, Operand.tmp 62], argTypes := #[55, 55] }, type := 55, pos := "ref.go:56", after := #[{ on := 2, ground := Ground.data }, { on := 4, ground := Ground.data }], guard := none }, { dst := some 64, op := Op.move (Operand.tmp 9), type := 3, pos := "ref.go:56", after := #[], guard := none }, { dst := some 65, op := Op.move (Operand.tmp 10), type := 49, pos := "ref.go:56", after := #[], guard := none }, { dst := some 66, op := Op.move (Operand.tmp 12), type := 3, pos := "ref.go:56", after := #[], guard := none }, { dst := some 67, op := Op.indexAddr 49 (Operand.tmp 65) (Operand.tmp 66), type := 0, pos := "ref.go:56", after := #[{ on := 7, ground := Ground.data }, { on := 8, ground := Ground.data }], guard := none }, { dst := some 68, op := Op.fieldAddr 59 (Operand.tmp 67) 1, type := 0, pos := "ref.go:56", after := #[{ on := 9, ground := Ground.data }], guard := none }, { dst := some 69, op := Op.load 3 (Operand.tmp 68), type := 3, pos := "ref.go:56", after := #[{ on := 10, ground := Ground.data }], guard := none }, { dst := some 70, op := Op.move (Operand.tmp 10), type := 49, pos := "ref.go:56", after := #[], guard := none }, { dst := some 71, op := Op.move (Operand.tmp 12), type := 3, pos := "ref.go:56", after := #[], guard := none }, { dst := some 72, op := Op.indexAddr 49 (Operand.tmp 70) (Operand.tmp 71), type := 0, pos := "ref.go:56", after := #[{ on := 12, ground := Ground.data }, { on := 13, ground := Ground.data }], guard := none }, { dst := some 73, op := Op.fieldAddr 59 (Operand.tmp 72) 2, type := 0, pos := "ref.go:56", after := #[{ on := 14, ground := Ground.data }], guard := none }, { dst := some 74, op := Op.load 3 (Operand.tmp 73), type := 3, pos := "ref.go:56", after := #[{ on := 15, ground := Ground.data }], guard := none }, { dst := some 75, op := Op.build 57 #[(0, Operand.tmp 59), (1, Operand.tmp 63), (2, Operand.tmp 64), (3, Operand.tmp 69), (4, Operand.tmp 74)], type := 57, pos := "ref.go:56", after := #[{ on := 1, ground := Ground.data }, { on := 5, ground := Ground.data }, { on := 6, ground := Ground.data }, { on := 11, ground := Ground.data }, { on := 16, ground := Ground.data }], guard := none }, { dst := some 14, op := Op.alloc 57, type := 0, pos := "ref.go:56", after := #[], guard := none }, { dst := none, op := Op.store 57 (Operand.tmp 14) (Operand.tmp 75), type := 0, pos := "ref.go:56", after := #[{ on := 18, ground := Ground.data }, { on := 17, ground := Ground.data }, { on := 5, ground := Ground.chain }, { on := 0, ground := Ground.phase }, { on := 1, ground := Ground.phase }, { on := 2, ground := Ground.phase }, { on := 3, ground := Ground.phase }, { on := 4, ground := Ground.phase }, { on := 5, ground := Ground.phase }, { on := 6, ground := Ground.phase }, { on := 7, ground := Ground.phase }, { on := 8, ground := Ground.phase }, { on := 9, ground := Ground.phase }, { on := 10, ground := Ground.phase }, { on := 11, ground := Ground.phase }, { on := 12, ground := Ground.phase }, { on := 13, ground := Ground.phase }, { on := 14, ground := Ground.phase }, { on := 15, ground := Ground.phase }, { on := 16, ground := Ground.phase }, { on := 17, ground := Ground.phase }, { on := 18, ground := Ground.phase }], guard := none }] true).wp Try.prog Q ⟨#[x0, x1, x2, x3, x4, x5, x6, x7, x8, (.int .i64 (k : Nat)), (.slice (some ⟨bm, om, none⟩) n2 cv), x11, (.int .i64 (j : Nat)), (.pointer (some ⟨nb, 0, none⟩)), x14, x15, x16, x17, x18, x19, x20, x21, x22, x23, x24, x25, x26, x27, x28, x29, x30, x31, x32, x33, x34, x35, x36, x37, x38, x39, x40, x41, x42, x43, x44, x45, x46, x47, x48, x49, x50, x51, x52, x53, x54, x55, x56, x57, x58, x59, x60, x61, x62, x63, x64, x65, x66, x67, x68, x69, x70, x71, x72, x73, x74, x75, x76, x77, x78, x79, x80, x81, x82, x83, x84, x85, x86, x87, x88, x89, x90, x91, x92, x93, x94, x95, x96, x97, x98, x99, x100, x101, x102, x103, x104, x105, x106, x107, x108, x109, x110, x111, x112, x113, x114, x115, x116, x117, x118, x119, x120, x121, x122, x123, x124, x125, x126, x127, x128, x129, x130, x131, x132, x133, x134, x135, x136, x137, x138, x139, x140, x141, x142, x143, x144, x145, x146, x147, x148, x149, x150, x151, x152, x153, x154, x155, x156, x157, x158, x159, x160, x161, x162, x163, x164, x165, x166, x167, x168, x169, x170, x171, x172, x173], ds⟩ W := by
  have hd : W.drew.cell? ⟨nb, 3, none⟩ = some (.float .f64 th) ∧ W.drew.cell? ⟨nb, 4, none⟩ = some (.slice ca cs.length cp) ∧ W.drew.cell? ⟨bm, om + j * 3 + 1, none⟩ = some (.int .i64 (fr : Nat)) ∧ W.drew.cell? ⟨bm, om + j * 3 + 2, none⟩ = some (.int .i64 (t2 : Nat)) := ⟨h3, h4, m1, m2⟩
  have k0 : Keep W W.drew := (Keep.refl W).drew
  refine wp_region_held_drew (S := (fun wx => wx.cell? ⟨nb, 3, none⟩ = some (.float .f64 th) ∧ wx.cell? ⟨nb, 4, none⟩ = some (.slice ca cs.length cp) ∧ wx.cell? ⟨bm, om + j * 3 + 1, none⟩ = some (.int .i64 (fr : Nat)) ∧ wx.cell? ⟨bm, om + j * 3 + 2, none⟩ = some (.int .i64 (t2 : Nat)))) (by kernel_rfl) hd (fun hHeld => ?_)
  refine wpAnyH_take (i := 0) (oi := { dst := some 58, op := Op.fieldAddr 83 (Operand.tmp 13) 3, type := 0, pos := "ref.go:56", after := #[], guard := none }) (v := .pointer (some ⟨nb, 3, none⟩)) rfl (by kernel_rfl) (by kernel_rfl) (by kernel_rfl) (fun _ _ _ h => hP _ _ _ _ _ h) (Or.inl ⟨by rfl, by (intro w hSw; (try dsimp only at hSw); go_simp; try with_reducible rfl)⟩) (by assumption) ?_
  try simp only [Act.put, List.setIfInBounds_toArray, List.set_cons_zero, List.set_cons_succ]
  refine wpAnyH_take (i := 1) (oi := { dst := some 59, op := Op.load 34 (Operand.tmp 58), type := 34, pos := "ref.go:56", after := #[{ on := 0, ground := Ground.data }], guard := none }) (v := .float .f64 th) rfl (by kernel_rfl) (by kernel_rfl) (by kernel_rfl) (fun _ _ _ h => hP _ _ _ _ _ h) (Or.inl ⟨by rfl, by (intro w hSw; (try dsimp only at hSw); go_simp; try with_reducible rfl)⟩) (by assumption) ?_
  try simp only [Act.put, List.setIfInBounds_toArray, List.set_cons_zero, List.set_cons_succ]
  refine wpAnyH_take (i := 3) (oi := { dst := some 61, op := Op.fieldAddr 83 (Operand.tmp 13) 4, type := 0, pos := "ref.go:56", after := #[], guard := none }) (v := .pointer (some ⟨nb, 4, none⟩)) rfl (by kernel_rfl) (by kernel_rfl) (by kernel_rfl) (fun _ _ _ h => hP _ _ _ _ _ h) (Or.inl ⟨by rfl, by (intro w hSw; (try dsimp only at hSw); go_simp; try with_reducible rfl)⟩) (by assumption) ?_
  try simp only [Act.put, List.setIfInBounds_toArray, List.set_cons_zero, List.set_cons_succ]
  refine wpAnyH_take (i := 4) (oi := { dst := some 62, op := Op.load 55 (Operand.tmp 61), type := 55, pos := "ref.go:56", after := #[{ on := 3, ground := Ground.data }], guard := none }) (v := .slice ca cs.length cp) rfl (by kernel_rfl) (by kernel_rfl) (by kernel_rfl) (fun _ _ _ h => hP _ _ _ _ _ h) (Or.inl ⟨by rfl, by (intro w hSw; (try dsimp only at hSw); go_simp; try with_reducible rfl)⟩) (by assumption) ?_
  try simp only [Act.put, List.setIfInBounds_toArray, List.set_cons_zero, List.set_cons_succ]
  refine wpAnyH_take (i := 6) (oi := { dst := some 64, op := Op.move (Operand.tmp 9), type := 3, pos := "ref.go:56", after := #[], guard := none }) (v := (.int .i64 (k : Nat))) rfl (by kernel_rfl) (by kernel_rfl) (by kernel_rfl) (fun _ _ _ h => hP _ _ _ _ _ h) (Or.inl ⟨by rfl, by (intro w hSw; (try dsimp only at hSw); go_simp; try with_reducible rfl)⟩) (by assumption) ?_
  try simp only [Act.put, List.setIfInBounds_toArray, List.set_cons_zero, List.set_cons_succ]
  refine wpAnyH_take (i := 7) (oi := { dst := some 65, op := Op.move (Operand.tmp 10), type := 49, pos := "ref.go:56", after := #[], guard := none }) (v := (.slice (some ⟨bm, om, none⟩) n2 cv)) rfl (by kernel_rfl) (by kernel_rfl) (by kernel_rfl) (fun _ _ _ h => hP _ _ _ _ _ h) (Or.inl ⟨by rfl, by (intro w hSw; (try dsimp only at hSw); go_simp; try with_reducible rfl)⟩) (by assumption) ?_
  try simp only [Act.put, List.setIfInBounds_toArray, List.set_cons_zero, List.set_cons_succ]
  refine wpAnyH_take (i := 8) (oi := { dst := some 66, op := Op.move (Operand.tmp 12), type := 3, pos := "ref.go:56", after := #[], guard := none }) (v := (.int .i64 (j : Nat))) rfl (by kernel_rfl) (by kernel_rfl) (by kernel_rfl) (fun _ _ _ h => hP _ _ _ _ _ h) (Or.inl ⟨by rfl, by (intro w hSw; (try dsimp only at hSw); go_simp; try with_reducible rfl)⟩) (by assumption) ?_
  try simp only [Act.put, List.setIfInBounds_toArray, List.set_cons_zero, List.set_cons_succ]
  refine wpAnyH_take (i := 9) (oi := { dst := some 67, op := Op.indexAddr 49 (Operand.tmp 65) (Operand.tmp 66), type := 0, pos := "ref.go:56", after := #[{ on := 7, ground := Ground.data }, { on := 8, ground := Ground.data }], guard := none }) (v := .pointer (some ⟨bm, om + j * 3, none⟩)) rfl (by kernel_rfl) (by kernel_rfl) (by kernel_rfl) (fun _ _ _ h => hP _ _ _ _ _ h) (Or.inl ⟨by rfl, by (intro w hSw; (try dsimp only at hSw); go_simp; try with_reducible rfl)⟩) (by assumption) ?_
  try simp only [Act.put, List.setIfInBounds_toArray, List.set_cons_zero, List.set_cons_succ]
  refine wpAnyH_take (i := 10) (oi := { dst := some 68, op := Op.fieldAddr 59 (Operand.tmp 67) 1, type := 0, pos := "ref.go:56", after := #[{ on := 9, ground := Ground.data }], guard := none }) (v := .pointer (some ⟨bm, om + j * 3 + 1, none⟩)) rfl (by kernel_rfl) (by kernel_rfl) (by kernel_rfl) (fun _ _ _ h => hP _ _ _ _ _ h) (Or.inl ⟨by rfl, by (intro w hSw; (try dsimp only at hSw); go_simp; try with_reducible rfl)⟩) (by assumption) ?_
  try simp only [Act.put, List.setIfInBounds_toArray, List.set_cons_zero, List.set_cons_succ]
  refine wpAnyH_take (i := 11) (oi := { dst := some 69, op := Op.load 3 (Operand.tmp 68), type := 3, pos := "ref.go:56", after := #[{ on := 10, ground := Ground.data }], guard := none }) (v := .int .i64 (fr : Nat)) rfl (by kernel_rfl) (by kernel_rfl) (by kernel_rfl) (fun _ _ _ h => hP _ _ _ _ _ h) (Or.inl ⟨by rfl, by (intro w hSw; (try dsimp only at hSw); go_simp; try with_reducible rfl)⟩) (by assumption) ?_
  try simp only [Act.put, List.setIfInBounds_toArray, List.set_cons_zero, List.set_cons_succ]
  refine wpAnyH_take (i := 12) (oi := { dst := some 70, op := Op.move (Operand.tmp 10), type := 49, pos := "ref.go:56", after := #[], guard := none }) (v := (.slice (some ⟨bm, om, none⟩) n2 cv)) rfl (by kernel_rfl) (by kernel_rfl) (by kernel_rfl) (fun _ _ _ h => hP _ _ _ _ _ h) (Or.inl ⟨by rfl, by (intro w hSw; (try dsimp only at hSw); go_simp; try with_reducible rfl)⟩) (by assumption) ?_
  try simp only [Act.put, List.setIfInBounds_toArray, List.set_cons_zero, List.set_cons_succ]
  refine wpAnyH_take (i := 13) (oi := { dst := some 71, op := Op.move (Operand.tmp 12), type := 3, pos := "ref.go:56", after := #[], guard := none }) (v := (.int .i64 (j : Nat))) rfl (by kernel_rfl) (by kernel_rfl) (by kernel_rfl) (fun _ _ _ h => hP _ _ _ _ _ h) (Or.inl ⟨by rfl, by (intro w hSw; (try dsimp only at hSw); go_simp; try with_reducible rfl)⟩) (by assumption) ?_
  try simp only [Act.put, List.setIfInBounds_toArray, List.set_cons_zero, List.set_cons_succ]
  refine wpAnyH_take (i := 14) (oi := { dst := some 72, op := Op.indexAddr 49 (Operand.tmp 70) (Operand.tmp 71), type := 0, pos := "ref.go:56", after := #[{ on := 12, ground := Ground.data }, { on := 13, ground := Ground.data }], guard := none }) (v := .pointer (some ⟨bm, om + j * 3, none⟩)) rfl (by kernel_rfl) (by kernel_rfl) (by kernel_rfl) (fun _ _ _ h => hP _ _ _ _ _ h) (Or.inl ⟨by rfl, by (intro w hSw; (try dsimp only at hSw); go_simp; try with_reducible rfl)⟩) (by assumption) ?_
  try simp only [Act.put, List.setIfInBounds_toArray, List.set_cons_zero, List.set_cons_succ]
  refine wpAnyH_take (i := 15) (oi := { dst := some 73, op := Op.fieldAddr 59 (Operand.tmp 72) 2, type := 0, pos := "ref.go:56", after := #[{ on := 14, ground := Ground.data }], guard := none }) (v := .pointer (some ⟨bm, om + j * 3 + 2, none⟩)) rfl (by kernel_rfl) (by kernel_rfl) (by kernel_rfl) (fun _ _ _ h => hP _ _ _ _ _ h) (Or.inl ⟨by rfl, by (intro w hSw; (try dsimp only at hSw); go_simp; try with_reducible rfl)⟩) (by assumption) ?_
  try simp only [Act.put, List.setIfInBounds_toArray, List.set_cons_zero, List.set_cons_succ]
  refine wpAnyH_take (i := 16) (oi := { dst := some 74, op := Op.load 3 (Operand.tmp 73), type := 3, pos := "ref.go:56", after := #[{ on := 15, ground := Ground.data }], guard := none }) (v := .int .i64 (t2 : Nat)) rfl (by kernel_rfl) (by kernel_rfl) (by kernel_rfl) (fun _ _ _ h => hP _ _ _ _ _ h) (Or.inl ⟨by rfl, by (intro w hSw; (try dsimp only at hSw); go_simp; try with_reducible rfl)⟩) (by assumption) ?_
  try simp only [Act.put, List.setIfInBounds_toArray, List.set_cons_zero, List.set_cons_succ]
  refine wpAnyH_ready (rs := [2, 18]) (by kernel_rfl) (by simp) ?_
  refine AllReadyH.cons (o := { dst := some 60, op := Op.buildSlice 55 0 #[], type := 55, pos := "ref.go:56", after := #[], guard := none }) rfl (fun K hK => ?_) (AllReadyH.cons (o := { dst := some 14, op := Op.alloc 57, type := 0, pos := "ref.go:56", after := #[], guard := none }) rfl (fun K hK => ?_) AllReadyH.nil)
  · go_simp
    have kA : Keep W (W.drew.alloc (Obj.cells #[] 3)) := k0.alloc _
    refine hK.out _ _ ⟨Keep.cell kA h3, Keep.cell kA h4, Keep.cell kA m1, Keep.cell kA m2⟩ (fun hHeld => ?_)
    clear hK K
    try simp only [Act.put, List.setIfInBounds_toArray, List.set_cons_zero, List.set_cons_succ]
    refine wpAnyH_ready (rs := [5, 18]) (by kernel_rfl) (by simp) ?_
    refine AllReadyH.cons (o := { dst := some 63, op := Op.call { callee := Callee.builtin Builtin.append, args := #[Operand.tmp 60, Operand.tmp 62], argTypes := #[55, 55] }, type := 55, pos := "ref.go:56", after := #[{ on := 2, ground := Ground.data }, { on := 4, ground := Ground.data }], guard := none }) rfl (fun K hK => ?_) (AllReadyH.cons (o := { dst := some 14, op := Op.alloc 57, type := 0, pos := "ref.go:56", after := #[], guard := none }) rfl (fun K hK => ?_) AllReadyH.nil)
    · have hg3 : (W.drew.alloc (Obj.cells #[] 3)).heap[W.heap.size]? = some (Obj.cells #[] 3 (0, 0)) := heap_alloc_new W.drew _
      have oe : OwnZ 3 W.heap.size (W.drew.alloc (Obj.cells #[] 3)) (.slice (some ⟨W.heap.size, 0, none⟩) 0 0) [] := ⟨rfl, .inr ⟨W.heap.size, 0, #[], rfl, by omega, hg3, Nat.le_refl _, by simp [maxLen], rfl, rfl⟩⟩
      refine step_copyE W.heap.size rfl _ _ rfl (W.heap.size) oe kA.le cs ca cp rfl rfl (hr.keep kA) hl ?_
      intro v' w5 hO g5
      obtain ⟨va, cc, rfl, hcc, -⟩ := hO.shape
      have k5 : Keep W w5 := Below.grown kA g5 kA.le (fun b hb => by cases hb; omega)
      refine hK.out _ _ ⟨Keep.cell k5 h3, Keep.cell k5 h4, Keep.cell k5 m1, Keep.cell k5 m2⟩ (fun hHeld => ?_)
      clear hK K
      try simp only [Act.put, List.setIfInBounds_toArray, List.set_cons_zero, List.set_cons_succ]
      refine wpAnyH_take (i := 17) (oi := { dst := some 75, op := Op.build 57 #[(0, Operand.tmp 59), (1, Operand.tmp 63), (2, Operand.tmp 64), (3, Operand.tmp 69), (4, Operand.tmp 74)], type := 57, pos := "ref.go:56", after := #[{ on := 1, ground := Ground.data }, { on := 5, ground := Ground.data }, { on := 6, ground := Ground.data }, { on := 11, ground := Ground.data }, { on := 16, ground := Ground.data }], guard := none }) (v := (.agg #[.float .f64 th, .slice va cs.length cc, .int .i64 (k : Nat), .int .i64 (fr : Nat), .int .i64 (t2 : Nat)])) rfl (by kernel_rfl) (by kernel_rfl) (by kernel_rfl) (fun _ _ _ h => hP _ _ _ _ _ h) (Or.inl ⟨by rfl, by (intro w hSw; (try dsimp only at hSw); go_simp; try with_reducible rfl)⟩) (by assumption) ?_
      try simp only [Act.put, List.setIfInBounds_toArray, List.set_cons_zero, List.set_cons_succ]
      refine wpAnyH_ready (rs := [18]) (by kernel_rfl) (by simp) ?_
      refine AllReadyH.cons (o := { dst := some 14, op := Op.alloc 57, type := 0, pos := "ref.go:56", after := #[], guard := none }) rfl (fun K hK => ?_) AllReadyH.nil
      go_simp
      have kB : Keep W (w5.alloc (Obj.cells zCt 57)) := k5.alloc _
      refine hK.out _ _ ⟨Keep.cell kB h3, Keep.cell kB h4, Keep.cell kB m1, Keep.cell kB m2⟩ (fun hHeld => ?_)
      clear hK K
      try simp only [Act.put, List.setIfInBounds_toArray, List.set_cons_zero, List.set_cons_succ]
      refine wpAnyH_ready (rs := [19]) (by kernel_rfl) (by simp) ?_
      refine AllReadyH.cons (o := { dst := none, op := Op.store 57 (Operand.tmp 14) (Operand.tmp 75), type := 0, pos := "ref.go:56", after := #[{ on := 18, ground := Ground.data }, { on := 17, ground := Ground.data }, { on := 5, ground := Ground.chain }, { on := 0, ground := Ground.phase }, { on := 1, ground := Ground.phase }, { on := 2, ground := Ground.phase }, { on := 3, ground := Ground.phase }, { on := 4, ground := Ground.phase }, { on := 5, ground := Ground.phase }, { on := 6, ground := Ground.phase }, { on := 7, ground := Ground.phase }, { on := 8, ground := Ground.phase }, { on := 9, ground := Ground.phase }, { on := 10, ground := Ground.phase }, { on := 11, ground := Ground.phase }, { on := 12, ground := Ground.phase }, { on := 13, ground := Ground.phase }, { on := 14, ground := Ground.phase }, { on := 15, ground := Ground.phase }, { on := 16, ground := Ground.phase }, { on := 17, ground := Ground.phase }, { on := 18, ground := Ground.phase }], guard := none }) rfl (fun K hK => ?_) AllReadyH.nil
      go_simp
      have kF : Keep W (w5.alloc (Obj.cells #[.float .f64 th, .slice va cs.length cc, .int .i64 (k : Nat), .int .i64 (fr : Nat), .int .i64 (t2 : Nat)] 57)) := k5.alloc _
      refine hK.out _ _ ⟨Keep.cell kF h3, Keep.cell kF h4, Keep.cell kF m1, Keep.cell kF m2⟩ (fun hHeld => ?_)
      clear hK K
      try simp only [Act.put, List.setIfInBounds_toArray, List.set_cons_zero, List.set_cons_succ]
      refine wpAnyH_done (by kernel_rfl) ?_ _
      exact hK _ _ _ _ _ _ _ _ _ _ _ _ _ _ _ _ _ _ _ va cc _ ⟨kF, Keep.le k5, heap_alloc_new w5 _, hO.keep ((Keep.refl w5).alloc _)⟩
    · go_simp
      have kB : Keep W ((W.drew.alloc (Obj.cells #[] 3)).alloc (Obj.cells zCt 57)) := kA.alloc _
      refine hK.out _ _ ⟨Keep.cell kB h3, Keep.cell kB h4, Keep.cell kB m1, Keep.cell kB m2⟩ (fun hHeld => ?_)
      clear hK K
      try simp only [Act.put, List.setIfInBounds_toArray, List.set_cons_zero, List.set_cons_succ]
      refine wpAnyH_ready (rs := [5]) (by kernel_rfl) (by simp) ?_
      refine AllReadyH.cons (o := { dst := some 63, op := Op.call { callee := Callee.builtin Builtin.append, args := #[Operand.tmp 60, Operand.tmp 62], argTypes := #[55, 55] }, type := 55, pos := "ref.go:56", after := #[{ on := 2, ground := Ground.data }, { on := 4, ground := Ground.data }], guard := none }) rfl (fun K hK => ?_) AllReadyH.nil
      have hg3 : ((W.drew.alloc (Obj.cells #[] 3)).alloc (Obj.cells zCt 57)).heap[W.heap.size]? = some (Obj.cells #[] 3 (0, 0)) := (Below.heap_alloc _ _ _ (by rw [World.size_alloc]; exact Nat.lt_succ_self _)).trans (heap_alloc_new W.drew _)
      have oe : OwnZ 3 W.heap.size ((W.drew.alloc (Obj.cells #[] 3)).alloc (Obj.cells zCt 57)) (.slice (some ⟨W.heap.size, 0, none⟩) 0 0) [] := ⟨rfl, .inr ⟨W.heap.size, 0, #[], rfl, by omega, hg3, Nat.le_refl _, by simp [maxLen], rfl, rfl⟩⟩
      refine step_copyE W.heap.size rfl _ _ rfl (W.heap.size) oe kB.le cs ca cp rfl rfl (hr.keep kB) hl ?_
      intro v' w5 hO g5
      obtain ⟨va, cc, rfl, hcc, -⟩ := hO.shape
      have k5 : Keep W w5 := Below.grown kB g5 kB.le (fun b hb => by cases hb; omega)
      refine hK.out _ _ ⟨Keep.cell k5 h3, Keep.cell k5 h4, Keep.cell k5 m1, Keep.cell k5 m2⟩ (fun hHeld => ?_)
      clear hK K
      try simp only [Act.put, List.setIfInBounds_toArray, List.set_cons_zero, List.set_cons_succ]
      refine wpAnyH_take (i := 17) (oi := { dst := some 75, op := Op.build 57 #[(0, Operand.tmp 59), (1, Operand.tmp 63), (2, Operand.tmp 64), (3, Operand.tmp 69), (4, Operand.tmp 74)], type := 57, pos := "ref.go:56", after := #[{ on := 1, ground := Ground.data }, { on := 5, ground := Ground.data }, { on := 6, ground := Ground.data }, { on := 11, ground := Ground.data }, { on := 16, ground := Ground.data }], guard := none }) (v := (.agg #[.float .f64 th, .slice va cs.length cc, .int .i64 (k : Nat), .int .i64 (fr : Nat), .int .i64 (t2 : Nat)])) rfl (by kernel_rfl) (by kernel_rfl) (by kernel_rfl) (fun _ _ _ h => hP _ _ _ _ _ h) (Or.inl ⟨by rfl, by (intro w hSw; (try dsimp only at hSw); go_simp; try with_reducible rfl)⟩) (by assumption) ?_
      try simp only [Act.put, List.setIfInBounds_toArray, List.set_cons_zero, List.set_cons_succ]
      have hbn : w5.heap[W.heap.size + 1]? = some (Obj.cells zCt 57 (0, 0)) := (g5.block _ (by simp) (by intro e; have := Option.some.inj e; omega)).trans (by have := heap_alloc_new (W.drew.alloc (Obj.cells #[] 3)) (Obj.cells zCt 57); rw [World.size_alloc] at this; exact this)
      refine wpAnyH_ready (rs := [19]) (by kernel_rfl) (by simp) ?_
      refine AllReadyH.cons (o := { dst := none, op := Op.store 57 (Operand.tmp 14) (Operand.tmp 75), type := 0, pos := "ref.go:56", after := #[{ on := 18, ground := Ground.data }, { on := 17, ground := Ground.data }, { on := 5, ground := Ground.chain }, { on := 0, ground := Ground.phase }, { on := 1, ground := Ground.phase }, { on := 2, ground := Ground.phase }, { on := 3, ground := Ground.phase }, { on := 4, ground := Ground.phase }, { on := 5, ground := Ground.phase }, { on := 6, ground := Ground.phase }, { on := 7, ground := Ground.phase }, { on := 8, ground := Ground.phase }, { on := 9, ground := Ground.phase }, { on := 10, ground := Ground.phase }, { on := 11, ground := Ground.phase }, { on := 12, ground := Ground.phase }, { on := 13, ground := Ground.phase }, { on := 14, ground := Ground.phase }, { on := 15, ground := Ground.phase }, { on := 16, ground := Ground.phase }, { on := 17, ground := Ground.phase }, { on := 18, ground := Ground.phase }], guard := none }) rfl (fun K hK => ?_) AllReadyH.nil
      have hb5 : w5.heap[W.heap.size + 1]? = some (Obj.cells zCt 57 (0, 0)) := hbn
      have hle : W.heap.size ≤ W.heap.size + 1 := by first | omega | exact Keep.le k5
      have e0 := cell_of_row w5 (W.heap.size + 1) 0 _ 57 (0, 0) hb5
      have e1 := cell_of_row w5 (W.heap.size + 1) 1 _ 57 (0, 0) hb5
      have e2 := cell_of_row w5 (W.heap.size + 1) 2 _ 57 (0, 0) hb5
      have e3 := cell_of_row w5 (W.heap.size + 1) 3 _ 57 (0, 0) hb5
      have e4 := cell_of_row w5 (W.heap.size + 1) 4 _ 57 (0, 0) hb5
      have f0 := frozen_of_row w5 (W.heap.size + 1) 0 _ 57 hb5
      have f1 := frozen_of_row w5 (W.heap.size + 1) 1 _ 57 hb5
      have f2 := frozen_of_row w5 (W.heap.size + 1) 2 _ 57 hb5
      have f3 := frozen_of_row w5 (W.heap.size + 1) 3 _ 57 hb5
      have f4 := frozen_of_row w5 (W.heap.size + 1) 4 _ 57 hb5
      simp at e0 e1 e2 e3 e4
      have hfin := fin14 (cb := W.heap.size + 1) (N := ⟨th, cs, (k : Nat), (fr : Nat), (t2 : Nat)⟩) k5 hle hb5 hO
      go_simp
      refine hK.out _ _ ⟨Keep.cell hfin.1 h3, Keep.cell hfin.1 h4, Keep.cell hfin.1 m1, Keep.cell hfin.1 m2⟩ (fun hHeld => ?_)
      clear hK K
      try simp only [Act.put, List.setIfInBounds_toArray, List.set_cons_zero, List.set_cons_succ]
      refine wpAnyH_done (by kernel_rfl) ?_ _
      exact hK _ _ _ _ _ _ _ _ _ _ _ _ _ _ _ _ _ _ _ va cc _ ⟨hfin.1, hle, hfin.2.1, hfin.2.2⟩
  · go_simp
    have kB : Keep W (W.drew.alloc (Obj.cells zCt 57)) := k0.alloc _
    refine hK.out _ _ ⟨Keep.cell kB h3, Keep.cell kB h4, Keep.cell kB m1, Keep.cell kB m2⟩ (fun hHeld => ?_)
    clear hK K
    try simp only [Act.put, List.setIfInBounds_toArray, List.set_cons_zero, List.set_cons_succ]
    refine wpAnyH_ready (rs := [2]) (by kernel_rfl) (by simp) ?_
    refine AllReadyH.cons (o := { dst := some 60, op := Op.buildSlice 55 0 #[], type := 55, pos := "ref.go:56", after := #[], guard := none }) rfl (fun K hK => ?_) AllReadyH.nil
    go_simp
    have kA : Keep W ((W.drew.alloc (Obj.cells zCt 57)).alloc (Obj.cells #[] 3)) := kB.alloc _
    refine hK.out _ _ ⟨Keep.cell kA h3, Keep.cell kA h4, Keep.cell kA m1, Keep.cell kA m2⟩ (fun hHeld => ?_)
    clear hK K
    try simp only [Act.put, List.setIfInBounds_toArray, List.set_cons_zero, List.set_cons_succ]
    refine wpAnyH_ready (rs := [5]) (by kernel_rfl) (by simp) ?_
    refine AllReadyH.cons (o := { dst := some 63, op := Op.call { callee := Callee.builtin Builtin.append, args := #[Operand.tmp 60, Operand.tmp 62], argTypes := #[55, 55] }, type := 55, pos := "ref.go:56", after := #[{ on := 2, ground := Ground.data }, { on := 4, ground := Ground.data }], guard := none }) rfl (fun K hK => ?_) AllReadyH.nil
    have hg3 : ((W.drew.alloc (Obj.cells zCt 57)).alloc (Obj.cells #[] 3)).heap[W.heap.size + 1]? = some (Obj.cells #[] 3 (0, 0)) := (by have := heap_alloc_new (W.drew.alloc (Obj.cells zCt 57)) (Obj.cells #[] 3); rw [World.size_alloc] at this; exact this)
    have oe : OwnZ 3 W.heap.size ((W.drew.alloc (Obj.cells zCt 57)).alloc (Obj.cells #[] 3)) (.slice (some ⟨W.heap.size + 1, 0, none⟩) 0 0) [] := ⟨rfl, .inr ⟨W.heap.size + 1, 0, #[], rfl, by omega, hg3, Nat.le_refl _, by simp [maxLen], rfl, rfl⟩⟩
    refine step_copyE W.heap.size rfl _ _ rfl (W.heap.size + 1) oe kA.le cs ca cp rfl rfl (hr.keep kA) hl ?_
    intro v' w5 hO g5
    obtain ⟨va, cc, rfl, hcc, -⟩ := hO.shape
    have k5 : Keep W w5 := Below.grown kA g5 kA.le (fun b hb => by cases hb; omega)
    refine hK.out _ _ ⟨Keep.cell k5 h3, Keep.cell k5 h4, Keep.cell k5 m1, Keep.cell k5 m2⟩ (fun hHeld => ?_)
    clear hK K
    try simp only [Act.put, List.setIfInBounds_toArray, List.set_cons_zero, List.set_cons_succ]
    refine wpAnyH_take (i := 17) (oi := { dst := some 75, op := Op.build 57 #[(0, Operand.tmp 59), (1, Operand.tmp 63), (2, Operand.tmp 64), (3, Operand.tmp 69), (4, Operand.tmp 74)], type := 57, pos := "ref.go:56", after := #[{ on := 1, ground := Ground.data }, { on := 5, ground := Ground.data }, { on := 6, ground := Ground.data }, { on := 11, ground := Ground.data }, { on := 16, ground := Ground.data }], guard := none }) (v := (.agg #[.float .f64 th, .slice va cs.length cc, .int .i64 (k : Nat), .int .i64 (fr : Nat), .int .i64 (t2 : Nat)])) rfl (by kernel_rfl) (by kernel_rfl) (by kernel_rfl) (fun _ _ _ h => hP _ _ _ _ _ h) (Or.inl ⟨by rfl, by (intro w hSw; (try dsimp only at hSw); go_simp; try with_reducible rfl)⟩) (by assumption) ?_
    try simp only [Act.put, List.setIfInBounds_toArray, List.set_cons_zero, List.set_cons_succ]
    have hbn : w5.heap[W.heap.size]? = some (Obj.cells zCt 57 (0, 0)) := (g5.block _ (by simp; omega) (by intro e; have := Option.some.inj e; omega)).trans ((Below.heap_alloc _ _ _ (by rw [World.size_alloc]; exact Nat.lt_succ_self _)).trans (heap_alloc_new W.drew _))
    refine wpAnyH_ready (rs := [19]) (by kernel_rfl) (by simp) ?_
    refine AllReadyH.cons (o := { dst := none, op := Op.store 57 (Operand.tmp 14) (Operand.tmp 75), type := 0, pos := "ref.go:56", after := #[{ on := 18, ground := Ground.data }, { on := 17, ground := Ground.data }, { on := 5, ground := Ground.chain }, { on := 0, ground := Ground.phase }, { on := 1, ground := Ground.phase }, { on := 2, ground := Ground.phase }, { on := 3, ground := Ground.phase }, { on := 4, ground := Ground.phase }, { on := 5, ground := Ground.phase }, { on := 6, ground := Ground.phase }, { on := 7, ground := Ground.phase }, { on := 8, ground := Ground.phase }, { on := 9, ground := Ground.phase }, { on := 10, ground := Ground.phase }, { on := 11, ground := Ground.phase }, { on := 12, ground := Ground.phase }, { on := 13, ground := Ground.phase }, { on := 14, ground := Ground.phase }, { on := 15, ground := Ground.phase }, { on := 16, ground := Ground.phase }, { on := 17, ground := Ground.phase }, { on := 18, ground := Ground.phase }], guard := none }) rfl (fun K hK => ?_) AllReadyH.nil
    have hb5 : w5.heap[W.heap.size]? = some (Obj.cells zCt 57 (0, 0)) := hbn
    have hle : W.heap.size ≤ W.heap.size := by first | omega | exact Keep.le k5
    have e0 := cell_of_row w5 (W.heap.size) 0 _ 57 (0, 0) hb5
    have e1 := cell_of_row w5 (W.heap.size) 1 _ 57 (0, 0) hb5
    have e2 := cell_of_row w5 (W.heap.size) 2 _ 57 (0, 0) hb5
    have e3 := cell_of_row w5 (W.heap.size) 3 _ 57 (0, 0) hb5
    have e4 := cell_of_row w5 (W.heap.size) 4 _ 57 (0, 0) hb5
    have f0 := frozen_of_row w5 (W.heap.size) 0 _ 57 hb5
    have f1 := frozen_of_row w5 (W.heap.size) 1 _ 57 hb5
    have f2 := frozen_of_row w5 (W.heap.size) 2 _ 57 hb5
    have f3 := frozen_of_row w5 (W.heap.size) 3 _ 57 hb5
    have f4 := frozen_of_row w5 (W.heap.size) 4 _ 57 hb5
    simp at e0 e1 e2 e3 e4
    have hfin := fin14 (cb := W.heap.size) (N := ⟨th, cs, (k : Nat), (fr : Nat), (t2 : Nat)⟩) k5 hle hb5 hO
    go_simp
    refine hK.out _ _ ⟨Keep.cell hfin.1 h3, Keep.cell hfin.1 h4, Keep.cell hfin.1 m1, Keep.cell hfin.1 m2⟩ (fun hHeld => ?_)
    clear hK K
    try simp only [Act.put, List.setIfInBounds_toArray, List.set_cons_zero, List.set_cons_succ]
    refine wpAnyH_done (by kernel_rfl) ?_ _
    exact hK _ _ _ _ _ _ _ _ _ _ _ _ _ _ _ _ _ _ _ va cc _ ⟨hfin.1, hle, hfin.2.1, hfin.2.2⟩
end Go.Proofs.Ytaogjiffnebnkaa
set_option linter.unusedVariables false
set_option linter.unusedSimpArgs false
namespace Go.Proofs.Ytaogjiffnebnkaa
open Go.RowKit Go.Shelf Go.Maps
theorem wpList_lookI {w : World} {ops : Array Oper} {rest : List Oper} {o : Oper} {a : Act} {Q : Exit → Act → World → Prop} (hg : o.guard = none) (m x : Operand) (hop : o.op = Op.lookup 78 m x false) (mb : Nat) (φ : Int) (hm : a.eval m = .map (some mb)) (hx : a.eval x = .int .i64 φ) (u : Value)
    (hrun : (Instr.lookup 78 (.map (some mb)) (.int .i64 φ) false).run Try.prog w = .ok u w) (hK : wpList Try.prog ops Q rest (a.put o.dst u) w) : wpList Try.prog ops Q (o :: rest) a w := by
  refine wpList_plain hg fun K' hK' => ?_
  unfold Oper.wp
  simp [execOp, hop, hm, hx, hrun, Result.andThen]
  exact hK' _ _ hK
theorem item_shape {B : Nat} {w : World} {X : GX} {i : Nat} {K0 K1 K2 : List CI} (h0 : OwnC B w (X.v i 0) K0) (h1 : OwnC B w (X.v i 1) K1) (h2 : OwnC B w (X.v i 2) K2) : ∃ a0 c0 a1 c1 a2 c2, X.v i 0 = .slice a0 K0.length c0 ∧ X.v i 1 = .slice a1 K1.length c1 ∧ X.v i 2 = .slice a2 K2.length c2 ∧ item X i = ⟨X.f i, a0, K0.length, c0, a1, K1.length, c1, a2, K2.length, c2⟩ := by
  obtain ⟨a0, c0, e0, -, -⟩ := h0.shape
  obtain ⟨a1, c1, e1, -, -⟩ := h1.shape
  obtain ⟨a2, c2, e2, -, -⟩ := h2.shape
  refine ⟨a0, c0, a1, c1, a2, c2, e0, e1, e2, ?_⟩
  unfold item
  rw [e0, e1, e2]
  rfl
section
variable {w0 w2 W : World} {mb : Nat} {vo : Value} {T : List Li} {X : GX} {nb cb : Nat} {d : Nd} {nca : Option Addr} {ncp : Nat} {N : Ct} {va : Option Addr} {cc : Nat}
theorem RS.start {wr w3 w4 : World} (hG : HJ w0.heap.size wr mb X) (hO : OwnL w0.heap.size wr vo T) (kw : Keep w0 wr) (kt : KT w2 wr) (k3 : Keep wr w3) (r3 : w3.heap[nb]? = some (Obj.cells (d.cells nca ncp) 83 (0, 0))) (hM : Mkd w3 w4 cb N va cc) (hs : N.cs.length ≤ 17592186044416) : RS w0 w2 mb vo T X nb cb d nca ncp N va cc w4 := by
  refine ⟨(hG.keep k3).keep hM.k, (hO.keep k3).keep hM.k, Keep.trans (Keep.trans kw k3) hM.k, (kt.trans (KT.of_keep k3)).trans (KT.of_keep hM.k), (hM.k.block _ (Array.getElem?_eq_some_iff.1 r3).1).trans r3, hM.c, hM.z.mono (Nat.le_trans kw.le k3.le), hs, ?_⟩
  intro i j hi hj e
  obtain ⟨-, c2, hc⟩ := (hG.row i hi j hj).block e
  have := (Array.getElem?_eq_some_iff.1 hc).1
  have := hM.le
  have := k3.le
  omega
/-- One list more. -/
theorem RS.grow (h : RS w0 w2 mb vo (its X) X nb cb d nca ncp N va cc W) {φ : Int} {v5 : Value} {w5 : World} (hO5 : OwnL w0.heap.size w5 v5 (its X ++ [⟨φ, none, 0, 0, none, 0, 0, none, 0, 0⟩])) (g5 : (W.alloc (Obj.cells #[Value.int .i64 φ, .slice none 0 0, .slice none 0 0, .slice none 0 0] 33)).grownBy w5 vo.ownBlock) {q : Nat} (hq : X.n + 1 = q) : RS w0 w2 mb v5 (its X ++ [⟨φ, none, 0, 0, none, 0, 0, none, 0, 0⟩]) X nb cb d nca ncp N va cc w5 ∧ ∃ g cap, v5 = .slice (some ⟨g, 0, none⟩) q cap := by
  refine ⟨(h.keep ((Keep.refl W).alloc _)).lists hO5 g5, ?_⟩
  obtain ⟨g, cap, e, -⟩ := hO5.shape (by rw [List.length_append]; exact Nat.lt_of_lt_of_le Nat.zero_lt_one (Nat.le_add_left _ _))
  rw [List.length_append, its_len, List.length_singleton, hq] at e
  exact ⟨g, cap, e⟩
/-- The list's box, laid. -/
theorem RS.box (h : RS w0 w2 mb vo T X nb cb d nca ncp N va cc W) {i : Nat} {vs : Array Value} (hv : vs = #[.int .i64 (X.f i), X.v i 0, X.v i 1, X.v i 2]) : RS w0 w2 mb vo T X nb cb d nca ncp N va cc (W.alloc (Obj.cells vs 33)) ∧ XB (W.alloc (Obj.cells vs 33)) vo W.heap.size i X w0.heap.size := by
  subst hv
  refine ⟨h.keep ((Keep.refl W).alloc _), ⟨heap_alloc_new W _, ?_, h.k0.le⟩⟩
  intro e
  obtain ⟨-, c2, hc⟩ := h.out.block e
  have := (Array.getElem?_eq_some_iff.1 hc).1
  omega
/-- The list handed back. -/
theorem RS.back {g n cap : Nat} (h : RS w0 w2 mb (.slice (some ⟨g, 0, none⟩) n cap) T X nb cb d nca ncp N va cc W) {i : Nat} (x : Li) (hi : i < T.length) : RS w0 w2 mb (.slice (some ⟨g, 0, none⟩) n cap) (T.set i x) X nb cb d nca ncp N va cc (Ls.put W g i x) := by
  have o := (Ls.Oth.refl g W).put i x
  exact h.lists (h.out.put i x hi) ⟨o.os, o.tape, o.output, o.size, fun b hb hne => o.block b hb (fun e => hne (by rw [e]; rfl))⟩
end
theorem ConM.th {X : GX} {S : List (Nd × Ct)} {P : Int → Prop} (h : ConM X S P) {R : Ct → Prop} (hR : ∀ s ∈ S, R s.2) {i : Nat} (hi : i < X.n) : ∀ y ∈ X.K i 0, R y.1 := by
  intro y hy
  obtain ⟨-, G, hG, hE⟩ := h.num i hi
  have hm : y.1 ∈ G.map (fun r => r.1) := List.mem_map.2 ⟨y, hE.mem hy, rfl⟩
  rw [hG] at hm
  unfold sel at hm
  obtain ⟨s, hs, e⟩ := List.mem_map.1 hm
  rw [← e]
  exact hR s (List.mem_filter.1 hs).1
/-- A threshold that can be compared. -/
def okT (c : Ct) : Prop := c.th < 18446744073709551616 ∧ ¬ isNaN c.th
theorem rep_item {X : GX} {i j : Nat} {v' : Value} {K' : List CI} : ∀ i', i' ≠ i → item (X.rep i j v' K') i' = item X i' := by
  intro i' h
  simp [item, GX.rep, h]
end Go.Proofs.Ytaogjiffnebnkaa
