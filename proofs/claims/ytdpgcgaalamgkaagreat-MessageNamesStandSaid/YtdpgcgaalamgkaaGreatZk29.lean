/-
  Messages in memory; the walks of message.countsOf, rowsOf, first. Condition: Go can have the message.
-/
import Derived.Test.YtdpgcgaalamgkaaGreatZk28
import Derived.Test.YtdpgcgaalamgkaaGreatZk25
namespace Go.Proofs.YtdpgcgaalamgkaaGreat
open Go.RowKit Go.Maps
set_option linter.unusedVariables false
set_option maxRecDepth 100000

/-- A message's cells; vq, va, vu, vm: the slices of its rows. -/
abbrev cellsM (h : Hd) (vq va vu vm : Value) : Array Value :=
  #[.int .u16 h.id, .bool h.re, .int .i64 h.op, .bool h.aa, .bool h.tc, .bool h.rd, .bool h.ra, .bool h.ad, .bool h.cd, .int .i64 h.rc, .int .i64 h.n0, .int .i64 h.n1, .int .i64 h.n2, .int .i64 h.n3, vq, va, vu, vm]
abbrev msgV (h : Hd) (vq va vu vm : Value) : Value := .agg (cellsM h vq va vu vm)
/-- A slice that points nowhere has no room. -/
def NilOk (v : Value) : Prop := ∀ n c, v = .slice none n c → c = 0
/-- A message that Go can have. -/
structure FitM (w : World) (m : MM) (vq va vu vm : Value) : Prop where
  h : m.h.fits
  q : CRow csQ 3 w vq m.q
  a : CRow csR 16 w va m.a
  u : CRow csR 16 w vu m.u
  rm : CRow csR 16 w vm m.m
  qs : ∀ x ∈ m.q, x.n.size ≤ maxLen
  rs : ∀ x ∈ m.recs, FitR w x.1 x.2
  nl : NilOk va ∧ NilOk vu ∧ NilOk vm
theorem FitM.next {w w' : World} {m : MM} {vq va vu vm : Value} (f : FitM w m vq va vu vm) (hb : Below w.heap.size w w') : FitM w' m vq va vu vm :=
  ⟨f.h, f.q.below hb, f.a.below hb, f.u.below hb, f.rm.below hb, f.qs, fun x hx => (f.rs x hx).next hb, f.nl⟩
/-- The four slices, written out. -/
theorem FitM.shapes {w : World} {m : MM} {vq va vu vm : Value} (f : FitM w m vq va vu vm) : ∃ Aq cq Aa ca Au cu Am cm, vq = .slice Aq m.q.length cq ∧ va = .slice Aa m.a.length ca ∧ vu = .slice Au m.u.length cu ∧ vm = .slice Am m.m.length cm ∧ (m.q.length ≤ maxLen ∧ m.a.length ≤ maxLen ∧ m.u.length ≤ maxLen ∧ m.m.length ≤ maxLen) ∧ m.q.length ≤ cq ∧ m.a.length ≤ ca ∧ m.u.length ≤ cu ∧ m.m.length ≤ cm ∧ cq ≤ maxLen ∧ ca ≤ maxLen ∧ cu ≤ maxLen ∧ cm ≤ maxLen := by
  obtain ⟨A1, c1, e1, k1, l1, _⟩ := f.q.shape
  obtain ⟨A2, c2, e2, k2, l2, _⟩ := f.a.shape
  obtain ⟨A3, c3, e3, k3, l3, _⟩ := f.u.shape
  obtain ⟨A4, c4, e4, k4, l4, _⟩ := f.rm.shape
  exact ⟨A1, c1, A2, c2, A3, c3, A4, c4, e1, e2, e3, e4, ⟨by omega, by omega, by omega, by omega⟩, k1, k2, k3, k4, l1, l2, l3, l4⟩
abbrev intsV (a b c d : Int) : Value := .agg #[.int .i64 a, .int .i64 b, .int .i64 c, .int .i64 d]
theorem boxed2 (w : World) (o : Obj) (t : TypeId) (cs : Array Value) : Lies ((w.alloc o).alloc (.cells cs t)) (w.heap.size + 1) t cs := by
  have h := Lies.new (w.alloc o) t cs
  rwa [show (w.alloc o).heap.size = w.heap.size + 1 by simp] at h
theorem below2 (w : World) (o p : Obj) : Below w.heap.size w ((w.alloc o).alloc p) := ((Below.refl _ _).alloc (Nat.le_refl _) o).alloc (by simp) p
set_option maxHeartbeats 1000000 in
theorem countsOf_any (h : Hd) (Aq Aa Au Am : Option Addr) (nq na nu nm cq ca cu cm : Nat) (w : World) :
    Calls Tryz.prog 71 #[msgV h (.slice Aq nq cq) (.slice Aa na ca) (.slice Au nu cu) (.slice Am nm cm)] w (Told w (intsV nq na nu nm)) := by
  have HL : Hid (∀ o : Obj, Lies ((w.alloc o).alloc (.cells #[.int .i64 (nq : Int), .int .i64 (na : Int), .int .i64 (nu : Int), .int .i64 (nm : Int)] 48)) (w.heap.size + 1) 48 #[.int .i64 (nq : Int), .int .i64 (na : Int), .int .i64 (nu : Int), .int .i64 (nm : Int)]) := Lib.hid fun o => boxed2 _ _ _ _
  go_enter Tryz.func71, Tryz.ntmps71
  go_wp2
  refine bodyPost_ret (v := intsV nq na nu nm) (results_cell_row (p := 2) (ty := 48) rfl _ _ (w.heap.size + 1) _ _ (0, 0) _ rfl (HL.out _) Tryz.underlying48 rfl (by kernel_rfl)) rfl ⟨rfl, below2 _ _ _⟩
abbrev rowsV (g : Nat) : Value := .agg #[.pointer (some ⟨g, 15, none⟩), .pointer (some ⟨g, 16, none⟩), .pointer (some ⟨g, 17, none⟩)]
set_option maxHeartbeats 1000000 in
theorem rowsOf_any (g : Nat) (w : World) : Calls Tryz.prog 73 #[pp g] w (Told w (rowsV g)) := by
  have HL : Hid (Lies (w.alloc (.cells #[.pointer (some ⟨g, 15, none⟩), .pointer (some ⟨g, 16, none⟩), .pointer (some ⟨g, 17, none⟩)] 119)) w.heap.size 119 #[.pointer (some ⟨g, 15, none⟩), .pointer (some ⟨g, 16, none⟩), .pointer (some ⟨g, 17, none⟩)]) := Lib.hid (Lies.new w _ _)
  go_enter Tryz.func73, Tryz.ntmps73
  go_wp2
  go_region
  all_goals
    go_wp2
    refine bodyPost_ret (v := rowsV g) (results_cell_row (p := 2) (ty := 119) rfl _ _ w.heap.size _ _ (0, 0) _ rfl HL.out.drew Tryz.underlying119 rfl (by kernel_rfl)) rfl ⟨rfl, hd_below_dr ((Below.refl _ _).alloc (Nat.le_refl _) _)⟩
theorem liesM {w : World} {b : Nat} {t : TypeId} {h : Hd} {vq va vu vm : Value} (l : Lies w b t (cellsM h vq va vu vm)) :
    (w.cell? ⟨b, 0, none⟩ = some (.int .u16 h.id) ∧ w.cell? ⟨b, 1, none⟩ = some (.bool h.re) ∧ w.cell? ⟨b, 2, none⟩ = some (.int .i64 h.op) ∧ w.cell? ⟨b, 3, none⟩ = some (.bool h.aa) ∧ w.cell? ⟨b, 4, none⟩ = some (.bool h.tc) ∧ w.cell? ⟨b, 5, none⟩ = some (.bool h.rd) ∧ w.cell? ⟨b, 6, none⟩ = some (.bool h.ra) ∧ w.cell? ⟨b, 7, none⟩ = some (.bool h.ad) ∧ w.cell? ⟨b, 8, none⟩ = some (.bool h.cd) ∧ w.cell? ⟨b, 9, none⟩ = some (.int .i64 h.rc) ∧
    w.cell? ⟨b, 10, none⟩ = some (.int .i64 h.n0) ∧ w.cell? ⟨b, 11, none⟩ = some (.int .i64 h.n1) ∧ w.cell? ⟨b, 12, none⟩ = some (.int .i64 h.n2) ∧ w.cell? ⟨b, 13, none⟩ = some (.int .i64 h.n3)) ∧ w.cell? ⟨b, 14, none⟩ = some vq ∧ w.cell? ⟨b, 15, none⟩ = some va ∧ w.cell? ⟨b, 16, none⟩ = some vu ∧ w.cell? ⟨b, 17, none⟩ = some vm :=
  ⟨⟨l.cell 0, l.cell 1, l.cell 2, l.cell 3, l.cell 4, l.cell 5, l.cell 6, l.cell 7, l.cell 8, l.cell 9, l.cell 10, l.cell 11, l.cell 12, l.cell 13⟩, l.cell 14, l.cell 15, l.cell 16, l.cell 17⟩
theorem CRow.q_at {w : World} {A : Option Addr} {n cap : Nat} {L : List MQ} (h : CRow csQ 3 w (.slice A n cap) L) (j : Nat) (hj : j < L.length) : ∃ g o, A = some ⟨g, o, none⟩ ∧ ∀ wx, Below w.heap.size w wx → wx.cell? ⟨g, o + j * 3, none⟩ = some (.string L[j].n) ∧ wx.cell? ⟨g, o + j * 3 + 1, none⟩ = some (.int .i64 L[j].t) ∧ wx.cell? ⟨g, o + j * 3 + 2, none⟩ = some (.int .i64 L[j].c) := by
  obtain ⟨g, o, e1, e2, e3⟩ := h.at j hj
  exact ⟨g, o, e1, fun wx hb => q_cells fun i v hv => (hb.cell (p := ⟨g, o + j * 3 + i, none⟩) e2).trans (e3 i v hv)⟩
/-! ### One operation of a whole record -/
theorem wpList_alloc1 {ops : Array Oper} {rest : List Oper} {o : Oper} {a : Act} {w w' : World} {Q : Exit → Act → World → Prop} (hgd : o.guard = none) (t : TypeId) (ho : o.op = .alloc t) (u : Value) (hb : (Instr.alloc t true (.tuple #[])).run Tryz.prog w = .ok u w')
    (h : wpList Tryz.prog ops Q rest (a.put o.dst u) w') : wpList Tryz.prog ops Q (o :: rest) a w := by
  refine wpList_plain hgd fun K hK => ?_
  unfold Oper.wp execOp
  simp only [ho, Sem.run_bind, Sem.run_pure, hb, Result.andThen_ok]
  exact hK _ _ h
theorem wpList_store1 {ops : Array Oper} {rest : List Oper} {o : Oper} {a : Act} {w w' : World} {Q : Exit → Act → World → Prop} (hgd : o.guard = none) (t : TypeId) (x y : Operand) (ho : o.op = .store t x y) (p V : Value) (hx : a.eval x = p) (hy : a.eval y = V) (hb : (Instr.storeAt t p V).run Tryz.prog w = .ok () w')
    (h : wpList Tryz.prog ops Q rest (a.put o.dst undef) w') : wpList Tryz.prog ops Q (o :: rest) a w := by
  refine wpList_plain hgd fun K hK => ?_
  unfold Oper.wp execOp
  simp only [ho, hx, hy, Sem.run_bind, Sem.run_pure, hb, Result.andThen_ok]
  exact hK _ _ h
abbrev zeroR : Array Value := #[.string ⟨#[]⟩, .int .i64 0, .int .i64 0, .int .u32 0, .bool false, .int .u64 0, .int .u64 0, .string ⟨#[]⟩, .string ⟨#[]⟩, .int .u32 0, .int .u32 0, .int .u32 0, .int .u32 0, .int .u32 0, .slice none 0 0, .string ⟨#[]⟩]
theorem alloc_r (w : World) : (Instr.alloc 32 true (.tuple #[])).run Tryz.prog w = .ok (pp w.heap.size) (w.alloc (.cells zeroR 32)) := by
  go_simp
theorem store_r (r : MR) (A : Option Addr) (n cap : Nat) (w : World) : (Instr.storeAt 32 (pp w.heap.size) (recV r (.slice A n cap))).run Tryz.prog (w.alloc (.cells zeroR 32)) = .ok () (w.alloc (.cells (cellsR r (.slice A n cap)) 32)) := by
  unfold recV cellsR
  go_simp
theorem lies_rng {w : World} {g : Nat} {t : TypeId} {cs : Array Value} (h : Lies w g t cs) : w.rangeAt g 0 cs.toList := fun i v hv => by
  rw [Nat.zero_add, h.cell, ← Array.getElem?_toList]
  exact hv
theorem load_rl {w : World} {g : Nat} {r : MR} {tv : Value} (h : Lies w g 32 (cellsR r tv)) : (Instr.loadAt 32 (pp g)).run Tryz.prog w = .ok (recV r tv) w :=
  load_r (x := (r, tv)) (lies_rng h)
theorem wpList_box1 {ops : Array Oper} {rest : List Oper} {o : Oper} {a : Act} {w w' : World} {Q : Exit → Act → World → Prop} (hgd : o.guard = none) (t : TypeId) (x : Operand) (ho : o.op = .box t x) (V u : Value) (hx : a.eval x = V) (hb : (Instr.box t V).run Tryz.prog w = .ok u w')
    (h : wpList Tryz.prog ops Q rest (a.put o.dst u) w') : wpList Tryz.prog ops Q (o :: rest) a w := by
  refine wpList_plain hgd fun K hK => ?_
  unfold Oper.wp execOp
  simp only [ho, hx, Sem.run_bind, Sem.run_pure, hb, Result.andThen_ok]
  exact hK _ _ h
theorem box_m (h : Hd) (Aq Aa Au Am : Option Addr) (nq na nu nm cq ca cu cm : Nat) (w : World) : (Instr.box 54 (msgV h (.slice Aq nq cq) (.slice Aa na ca) (.slice Au nu cu) (.slice Am nm cm))).run Tryz.prog w = .ok (pp w.heap.size) (w.alloc (.cells (cellsM h (.slice Aq nq cq) (.slice Aa na ca) (.slice Au nu cu) (.slice Am nm cm)) 54)) := by
  unfold msgV cellsM
  go_simp
theorem load_m {w : World} {g o : Nat} {h : Hd} {vq va vu vm : Value} (l : w.rangeAt g o (cellsM h vq va vu vm).toList) : (Instr.loadAt 54 (.pointer (some ⟨g, o, none⟩))).run Tryz.prog w = .ok (msgV h vq va vu vm) w :=
  run_loadAt_mid w g o 54 (cellsM h vq va vu vm).toList _ l Tryz.underlying54 rfl (by kernel_rfl)
theorem load_ml {w : World} {g : Nat} {h : Hd} {vq va vu vm : Value} (l : Lies w g 54 (cellsM h vq va vu vm)) : (Instr.loadAt 54 (pp g)).run Tryz.prog w = .ok (msgV h vq va vu vm) w := load_m (lies_rng l)
theorem load_hd {w : World} {g : Nat} {t : TypeId} {h : Hd} {vq va vu vm : Value} (l : Lies w g t (cellsM h vq va vu vm)) : (Instr.loadAt 50 (pp g)).run Tryz.prog w = .ok (hv h) w :=
  run_loadAt_mid w g 0 50 [.int .u16 h.id, .bool h.re, .int .i64 h.op, .bool h.aa, .bool h.tc, .bool h.rd, .bool h.ra, .bool h.ad, .bool h.cd, .int .i64 h.rc, .int .i64 h.n0, .int .i64 h.n1, .int .i64 h.n2, .int .i64 h.n3] _ (fun i v hv => by
    refine lies_rng l i v ?_
    have : i < 14 := by
      have := (List.getElem?_eq_some_iff.1 hv).1
      simpa using this
    match i, this with
    | 0, _ | 1, _ | 2, _ | 3, _ | 4, _ | 5, _ | 6, _ | 7, _ | 8, _ | 9, _ | 10, _ | 11, _ | 12, _ | 13, _ => exact hv) Tryz.underlying50 rfl (by kernel_rfl)
theorem wpQuiet_load1 {ops : Array Oper} {C : World → Prop} {Q : Go.Act → Prop} {o : Oper} {rest : List Oper} {a : Go.Act} (hgd : o.guard = none) (t : TypeId) (x : Operand) (ho : o.op = .load t x) (p V : Value) (hx : a.eval x = p) (hb : ∀ w, C w → (Instr.loadAt t p).run Tryz.prog w = .ok V w)
    (h : wpQuiet Tryz.prog ops C Q rest (a.put o.dst V)) : wpQuiet Tryz.prog ops C Q (o :: rest) a := by
  refine BigFrame.wpQuiet_want (by simp [Region.wanted, hgd]) fun K hK => ⟨V, fun w hw => ?_, hK _ h⟩
  unfold Oper.quietAt execOp
  simp only [ho, hx, Sem.run_bind, Sem.run_pure, hb w hw, Result.andThen_ok]
  exact ⟨rfl, rfl⟩
end Go.Proofs.YtdpgcgaalamgkaaGreat
