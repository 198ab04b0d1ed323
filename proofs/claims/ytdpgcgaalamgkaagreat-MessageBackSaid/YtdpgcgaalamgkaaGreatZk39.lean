/-
  Messages in memory; the walks of message.countsOf, rowsOf, first. Condition: Go can have the message. What a question, a record that is read is like; rows of records that a call owns. Condition: the octets are no longer than 2^40. What the laws on messages share: rows of records appended whole; Own, Records: the walks. Condition: Go can have the message; its rows are short. An argument that is a message, opened. Condition: no slice of it is longer than a machine's memory (the form's own reach).
-/
import Derived.Test.YtdpgcgaalamgkaaGreatZk38
import Derived.Test.YtdpgcgaalamgkaaGreatZk35
import Derived.Laws.OwnMore
import Derived.Test.YtdpgcgaalamgkaaGreatZk4
import Derived.Lib.SmallJoins
namespace Go.Proofs.YtdpgcgaalamgkaaGreat
open Go.RowKit Go.Maps
set_option linter.unusedVariables false
set_option maxRecDepth 100000

/-- A message's cells; vq, va, vu, vm: the slices of its rows. -/
abbrev cellsM (h : Hd) (vq va vu vm : Value) : Array Value :=
  #[.int .u16 h.id, .bool h.re, .int .i64 h.op, .bool h.aa, .bool h.tc, .bool h.rd, .bool h.ra, .bool h.ad, .bool h.cd, .int .i64 h.rc, .int .i64 h.n0, .int .i64 h.n1, .int .i64 h.n2, .int .i64 h.n3, vq, va, vu, vm]
abbrev msgV (h : Hd) (vq va vu vm : Value) : Value := .agg (cellsM h vq va vu vm)
/-- A slice that points nowhere has no room. -/
def NilOk (v : Value) : Prop := ∀ n c, v = .slice none n c → c = 0
/-- A message that Go can have. -/
structure FitM (w : World) (m : MM) (vq va vu vm : Value) : Prop where
  h : m.h.fits
  q : CRow csQ 3 w vq m.q
  a : CRow csR 16 w va m.a
  u : CRow csR 16 w vu m.u
  rm : CRow csR 16 w vm m.m
  qs : ∀ x ∈ m.q, x.n.size ≤ maxLen
  rs : ∀ x ∈ m.recs, FitR w x.1 x.2
  nl : NilOk va ∧ NilOk vu ∧ NilOk vm
theorem FitM.next {w w' : World} {m : MM} {vq va vu vm : Value} (f : FitM w m vq va vu vm) (hb : Below w.heap.size w w') : FitM w' m vq va vu vm :=
  ⟨f.h, f.q.below hb, f.a.below hb, f.u.below hb, f.rm.below hb, f.qs, fun x hx => (f.rs x hx).next hb, f.nl⟩
/-- The four slices, written out. -/
theorem FitM.shapes {w : World} {m : MM} {vq va vu vm : Value} (f : FitM w m vq va vu vm) : ∃ Aq cq Aa ca Au cu Am cm, vq = .slice Aq m.q.length cq ∧ va = .slice Aa m.a.length ca ∧ vu = .slice Au m.u.length cu ∧ vm = .slice Am m.m.length cm ∧ (m.q.length ≤ maxLen ∧ m.a.length ≤ maxLen ∧ m.u.length ≤ maxLen ∧ m.m.length ≤ maxLen) ∧ m.q.length ≤ cq ∧ m.a.length ≤ ca ∧ m.u.length ≤ cu ∧ m.m.length ≤ cm ∧ cq ≤ maxLen ∧ ca ≤ maxLen ∧ cu ≤ maxLen ∧ cm ≤ maxLen := by
  obtain ⟨A1, c1, e1, k1, l1, _⟩ := f.q.shape
  obtain ⟨A2, c2, e2, k2, l2, _⟩ := f.a.shape
  obtain ⟨A3, c3, e3, k3, l3, _⟩ := f.u.shape
  obtain ⟨A4, c4, e4, k4, l4, _⟩ := f.rm.shape
  exact ⟨A1, c1, A2, c2, A3, c3, A4, c4, e1, e2, e3, e4, ⟨by omega, by omega, by omega, by omega⟩, k1, k2, k3, k4, l1, l2, l3, l4⟩
abbrev intsV (a b c d : Int) : Value := .agg #[.int .i64 a, .int .i64 b, .int .i64 c, .int .i64 d]
theorem boxed2 (w : World) (o : Obj) (t : TypeId) (cs : Array Value) : Lies ((w.alloc o).alloc (.cells cs t)) (w.heap.size + 1) t cs := by
  have h := Lies.new (w.alloc o) t cs
  rwa [show (w.alloc o).heap.size = w.heap.size + 1 by simp] at h
theorem below2 (w : World) (o p : Obj) : Below w.heap.size w ((w.alloc o).alloc p) := ((Below.refl _ _).alloc (Nat.le_refl _) o).alloc (by simp) p
set_option maxHeartbeats 1000000 in
theorem countsOf_any (h : Hd) (Aq Aa Au Am : Option Addr) (nq na nu nm cq ca cu cm : Nat) (w : World) :
    Calls Tryz.prog 71 #[msgV h (.slice Aq nq cq) (.slice Aa na ca) (.slice Au nu cu) (.slice Am nm cm)] w (Told w (intsV nq na nu nm)) := by
  have HL : Hid (∀ o : Obj, Lies ((w.alloc o).alloc (.cells #[.int .i64 (nq : Int), .int .i64 (na : Int), .int .i64 (nu : Int), .int .i64 (nm : Int)] 48)) (w.heap.size + 1) 48 #[.int .i64 (nq : Int), .int .i64 (na : Int), .int .i64 (nu : Int), .int .i64 (nm : Int)]) := Lib.hid fun o => boxed2 _ _ _ _
  go_enter Tryz.func71, Tryz.ntmps71
  go_wp2
  refine bodyPost_ret (v := intsV nq na nu nm) (results_cell_row (p := 2) (ty := 48) rfl _ _ (w.heap.size + 1) _ _ (0, 0) _ rfl (HL.out _) Tryz.underlying48 rfl (by kernel_rfl)) rfl ⟨rfl, below2 _ _ _⟩
abbrev rowsV (g : Nat) : Value := .agg #[.pointer (some ⟨g, 15, none⟩), .pointer (some ⟨g, 16, none⟩), .pointer (some ⟨g, 17, none⟩)]
set_option maxHeartbeats 1000000 in
theorem rowsOf_any (g : Nat) (w : World) : Calls Tryz.prog 73 #[pp g] w (Told w (rowsV g)) := by
  have HL : Hid (Lies (w.alloc (.cells #[.pointer (some ⟨g, 15, none⟩), .pointer (some ⟨g, 16, none⟩), .pointer (some ⟨g, 17, none⟩)] 119)) w.heap.size 119 #[.pointer (some ⟨g, 15, none⟩), .pointer (some ⟨g, 16, none⟩), .pointer (some ⟨g, 17, none⟩)]) := Lib.hid (Lies.new w _ _)
  go_enter Tryz.func73, Tryz.ntmps73
  go_wp2
  go_region
  all_goals
    go_wp2
    refine bodyPost_ret (v := rowsV g) (results_cell_row (p := 2) (ty := 119) rfl _ _ w.heap.size _ _ (0, 0) _ rfl HL.out.drew Tryz.underlying119 rfl (by kernel_rfl)) rfl ⟨rfl, hd_below_dr ((Below.refl _ _).alloc (Nat.le_refl _) _)⟩
theorem liesM {w : World} {b : Nat} {t : TypeId} {h : Hd} {vq va vu vm : Value} (l : Lies w b t (cellsM h vq va vu vm)) :
    (w.cell? ⟨b, 0, none⟩ = some (.int .u16 h.id) ∧ w.cell? ⟨b, 1, none⟩ = some (.bool h.re) ∧ w.cell? ⟨b, 2, none⟩ = some (.int .i64 h.op) ∧ w.cell? ⟨b, 3, none⟩ = some (.bool h.aa) ∧ w.cell? ⟨b, 4, none⟩ = some (.bool h.tc) ∧ w.cell? ⟨b, 5, none⟩ = some (.bool h.rd) ∧ w.cell? ⟨b, 6, none⟩ = some (.bool h.ra) ∧ w.cell? ⟨b, 7, none⟩ = some (.bool h.ad) ∧ w.cell? ⟨b, 8, none⟩ = some (.bool h.cd) ∧ w.cell? ⟨b, 9, none⟩ = some (.int .i64 h.rc) ∧
    w.cell? ⟨b, 10, none⟩ = some (.int .i64 h.n0) ∧ w.cell? ⟨b, 11, none⟩ = some (.int .i64 h.n1) ∧ w.cell? ⟨b, 12, none⟩ = some (.int .i64 h.n2) ∧ w.cell? ⟨b, 13, none⟩ = some (.int .i64 h.n3)) ∧ w.cell? ⟨b, 14, none⟩ = some vq ∧ w.cell? ⟨b, 15, none⟩ = some va ∧ w.cell? ⟨b, 16, none⟩ = some vu ∧ w.cell? ⟨b, 17, none⟩ = some vm :=
  ⟨⟨l.cell 0, l.cell 1, l.cell 2, l.cell 3, l.cell 4, l.cell 5, l.cell 6, l.cell 7, l.cell 8, l.cell 9, l.cell 10, l.cell 11, l.cell 12, l.cell 13⟩, l.cell 14, l.cell 15, l.cell 16, l.cell 17⟩
theorem CRow.q_at {w : World} {A : Option Addr} {n cap : Nat} {L : List MQ} (h : CRow csQ 3 w (.slice A n cap) L) (j : Nat) (hj : j < L.length) : ∃ g o, A = some ⟨g, o, none⟩ ∧ ∀ wx, Below w.heap.size w wx → wx.cell? ⟨g, o + j * 3, none⟩ = some (.string L[j].n) ∧ wx.cell? ⟨g, o + j * 3 + 1, none⟩ = some (.int .i64 L[j].t) ∧ wx.cell? ⟨g, o + j * 3 + 2, none⟩ = some (.int .i64 L[j].c) := by
  obtain ⟨g, o, e1, e2, e3⟩ := h.at j hj
  exact ⟨g, o, e1, fun wx hb => q_cells fun i v hv => (hb.cell (p := ⟨g, o + j * 3 + i, none⟩) e2).trans (e3 i v hv)⟩
/-! ### One operation of a whole record -/
theorem wpList_alloc1 {ops : Array Oper} {rest : List Oper} {o : Oper} {a : Act} {w w' : World} {Q : Exit → Act → World → Prop} (hgd : o.guard = none) (t : TypeId) (ho : o.op = .alloc t) (u : Value) (hb : (Instr.alloc t true (.tuple #[])).run Tryz.prog w = .ok u w')
    (h : wpList Tryz.prog ops Q rest (a.put o.dst u) w') : wpList Tryz.prog ops Q (o :: rest) a w := by
  refine wpList_plain hgd fun K hK => ?_
  unfold Oper.wp execOp
  simp only [ho, Sem.run_bind, Sem.run_pure, hb, Result.andThen_ok]
  exact hK _ _ h
theorem wpList_store1 {ops : Array Oper} {rest : List Oper} {o : Oper} {a : Act} {w w' : World} {Q : Exit → Act → World → Prop} (hgd : o.guard = none) (t : TypeId) (x y : Operand) (ho : o.op = .store t x y) (p V : Value) (hx : a.eval x = p) (hy : a.eval y = V) (hb : (Instr.storeAt t p V).run Tryz.prog w = .ok () w')
    (h : wpList Tryz.prog ops Q rest (a.put o.dst undef) w') : wpList Tryz.prog ops Q (o :: rest) a w := by
  refine wpList_plain hgd fun K hK => ?_
  unfold Oper.wp execOp
  simp only [ho, hx, hy, Sem.run_bind, Sem.run_pure, hb, Result.andThen_ok]
  exact hK _ _ h
abbrev zeroR : Array Value := #[.string ⟨#[]⟩, .int .i64 0, .int .i64 0, .int .u32 0, .bool false, .int .u64 0, .int .u64 0, .string ⟨#[]⟩, .string ⟨#[]⟩, .int .u32 0, .int .u32 0, .int .u32 0, .int .u32 0, .int .u32 0, .slice none 0 0, .string ⟨#[]⟩]
theorem alloc_r (w : World) : (Instr.alloc 32 true (.tuple #[])).run Tryz.prog w = .ok (pp w.heap.size) (w.alloc (.cells zeroR 32)) := by
  go_simp
theorem store_r (r : MR) (A : Option Addr) (n cap : Nat) (w : World) : (Instr.storeAt 32 (pp w.heap.size) (recV r (.slice A n cap))).run Tryz.prog (w.alloc (.cells zeroR 32)) = .ok () (w.alloc (.cells (cellsR r (.slice A n cap)) 32)) := by
  unfold recV cellsR
  go_simp
theorem lies_rng {w : World} {g : Nat} {t : TypeId} {cs : Array Value} (h : Lies w g t cs) : w.rangeAt g 0 cs.toList := fun i v hv => by
  rw [Nat.zero_add, h.cell, ← Array.getElem?_toList]
  exact hv
theorem load_rl {w : World} {g : Nat} {r : MR} {tv : Value} (h : Lies w g 32 (cellsR r tv)) : (Instr.loadAt 32 (pp g)).run Tryz.prog w = .ok (recV r tv) w :=
  load_r (x := (r, tv)) (lies_rng h)
theorem wpList_box1 {ops : Array Oper} {rest : List Oper} {o : Oper} {a : Act} {w w' : World} {Q : Exit → Act → World → Prop} (hgd : o.guard = none) (t : TypeId) (x : Operand) (ho : o.op = .box t x) (V u : Value) (hx : a.eval x = V) (hb : (Instr.box t V).run Tryz.prog w = .ok u w')
    (h : wpList Tryz.prog ops Q rest (a.put o.dst u) w') : wpList Tryz.prog ops Q (o :: rest) a w := by
  refine wpList_plain hgd fun K hK => ?_
  unfold Oper.wp execOp
  simp only [ho, hx, Sem.run_bind, Sem.run_pure, hb, Result.andThen_ok]
  exact hK _ _ h
theorem box_m (h : Hd) (Aq Aa Au Am : Option Addr) (nq na nu nm cq ca cu cm : Nat) (w : World) : (Instr.box 54 (msgV h (.slice Aq nq cq) (.slice Aa na ca) (.slice Au nu cu) (.slice Am nm cm))).run Tryz.prog w = .ok (pp w.heap.size) (w.alloc (.cells (cellsM h (.slice Aq nq cq) (.slice Aa na ca) (.slice Au nu cu) (.slice Am nm cm)) 54)) := by
  unfold msgV cellsM
  go_simp
theorem load_m {w : World} {g o : Nat} {h : Hd} {vq va vu vm : Value} (l : w.rangeAt g o (cellsM h vq va vu vm).toList) : (Instr.loadAt 54 (.pointer (some ⟨g, o, none⟩))).run Tryz.prog w = .ok (msgV h vq va vu vm) w :=
  run_loadAt_mid w g o 54 (cellsM h vq va vu vm).toList _ l Tryz.underlying54 rfl (by kernel_rfl)
theorem load_ml {w : World} {g : Nat} {h : Hd} {vq va vu vm : Value} (l : Lies w g 54 (cellsM h vq va vu vm)) : (Instr.loadAt 54 (pp g)).run Tryz.prog w = .ok (msgV h vq va vu vm) w := load_m (lies_rng l)
theorem load_hd {w : World} {g : Nat} {t : TypeId} {h : Hd} {vq va vu vm : Value} (l : Lies w g t (cellsM h vq va vu vm)) : (Instr.loadAt 50 (pp g)).run Tryz.prog w = .ok (hv h) w :=
  run_loadAt_mid w g 0 50 [.int .u16 h.id, .bool h.re, .int .i64 h.op, .bool h.aa, .bool h.tc, .bool h.rd, .bool h.ra, .bool h.ad, .bool h.cd, .int .i64 h.rc, .int .i64 h.n0, .int .i64 h.n1, .int .i64 h.n2, .int .i64 h.n3] _ (fun i v hv => by
    refine lies_rng l i v ?_
    have : i < 14 := by
      have := (List.getElem?_eq_some_iff.1 hv).1
      simpa using this
    match i, this with
    | 0, _ | 1, _ | 2, _ | 3, _ | 4, _ | 5, _ | 6, _ | 7, _ | 8, _ | 9, _ | 10, _ | 11, _ | 12, _ | 13, _ => exact hv) Tryz.underlying50 rfl (by kernel_rfl)
theorem wpQuiet_load1 {ops : Array Oper} {C : World → Prop} {Q : Go.Act → Prop} {o : Oper} {rest : List Oper} {a : Go.Act} (hgd : o.guard = none) (t : TypeId) (x : Operand) (ho : o.op = .load t x) (p V : Value) (hx : a.eval x = p) (hb : ∀ w, C w → (Instr.loadAt t p).run Tryz.prog w = .ok V w)
    (h : wpQuiet Tryz.prog ops C Q rest (a.put o.dst V)) : wpQuiet Tryz.prog ops C Q (o :: rest) a := by
  refine BigFrame.wpQuiet_want (by simp [Region.wanted, hgd]) fun K hK => ⟨V, fun w hw => ?_, hK _ h⟩
  unfold Oper.quietAt execOp
  simp only [ho, hx, Sem.run_bind, Sem.run_pure, hb w hw, Result.andThen_ok]
  exact ⟨rfl, rfl⟩
end Go.Proofs.YtdpgcgaalamgkaaGreat
namespace Go.Proofs.YtdpgcgaalamgkaaGreat
open Go.RowKit Go.Maps
set_option linter.unusedVariables false
set_option maxRecDepth 100000

theorem rdNm_len (T : List UInt8) (k : Nat) (hk : k ≤ T.length) : (rdNm T k).s.length ≤ 254 := by
  have hr : (readU T k k).l.length ≤ 254 := by
    unfold readU
    rw [if_neg (by omega)]
    exact (run_inv T _ _ (begU_inv (by omega) (by omega))).l
  unfold rdNm
  split
  · exact Nat.zero_le _
  · split
    · exact hr
    · exact hr
theorem rdQ_fit (T : List UInt8) (a : Int) : (rdQ T a).q.n.size ≤ 254 := by
  have hk := rdNm_len T (seekR T 0 a).2 (seekR_le T 0 a (Nat.zero_le _))
  unfold rdQ
  split
  · exact Nat.zero_le _
  · split
    · exact Nat.zero_le _
    · split
      · exact Nat.zero_le _
      · split
        · exact Nat.zero_le _
        · show (mkb _).size ≤ 254
          rw [mkb_size]
          exact hk
/-- A record whose parts are no greater than octets may tell. -/
structure FitB (r : MR) : Prop where
  n : r.n.size ≤ 254
  x : r.x < 4294967296
  d : MFit 17592186044416 r.d
theorem fitB0 : FitB mr0 := ⟨Nat.zero_le _, by decide, { mfit0 with tl := Nat.zero_le _ }⟩
theorem FitB.fit {w : World} {r : MR} {tv : Value} (h : FitB r) (hr : SRow w tv r.d.L) : FitR w r tv := ⟨Nat.le_trans h.n (by unfold maxLen; decide), h.x, h.d.fit (Nat.le_refl _) hr⟩
theorem readD_fit (T : List UInt8) (a e t : Int) (hT : T.length ≤ 1099511627776) : MFit 17592186044416 (readD T a e t).2 := by
  have h0 : MFit 17592186044416 md0 := { mfit0 with tl := Nat.zero_le _ }
  unfold readD
  split
  · split
    · exact h0
    · rename_i h1
      split
      · exact h0
      · rename_i h2
        split
        · exact h0
        · split
          · exact h0
          · have hl : (T.take e.toNat).length = e.toNat := by rw [List.length_take]; omega
            obtain ⟨k1, k2⟩ := kind_ok t
            have h := rdK_fit (T := T) (R := T.take e.toNat) hT (by rw [hl]; omega) (kindK t) 0 md0 a.toNat k1 mfit0 rfl (by rw [hl]; omega)
            have hb : 0 + (kindK t).length * ((T.take e.toNat).length + 1) ≤ 17592186044416 := by
              have : (kindK t).length * ((T.take e.toNat).length + 1) ≤ 3 * (1099511627776 + 1) := Nat.mul_le_mul k2 (by omega)
              omega
            exact { h with tl := Nat.le_trans h.tl hb }
  · exact h0
theorem rdTail_fit (T : List UInt8) (q : MQ) (k : Nat) (hT : T.length ≤ 1099511627776) (hq : q.n.size ≤ 254) : FitB (rdTail T q k).r := by
  unfold rdTail
  split
  · exact fitB0
  · split
    · exact fitB0
    · split
      · exact fitB0
      · split
        · exact fitB0
        · exact ⟨hq, numR_num_lt _ _ _, readD_fit _ _ _ _ hT⟩
theorem rdR_fit (T : List UInt8) (a : Int) (hT : T.length ≤ 1099511627776) : FitB (rdR T a).r := by
  unfold rdR
  split
  · exact fitB0
  · exact rdTail_fit _ _ _ hT (rdQ_fit _ _)

/-! ### Rows that a call owns -/
section
variable {α : Type} {cs : α → List Value} {k : Nat} {t : TypeId}
/-- append of one. -/
theorem wpList_appendC2 {w : World} {ops : Array Oper} {rest : List Oper} {o : Oper} {a : Act} {Q : Exit → Act → World → Prop} (hgd : o.guard = none) (s x : Operand) (ts : TypeId)
    (ho : o.op = .call { callee := .builtin .append, args := #[s, x], argTypes := #[ts, ts] }) (hts : Tryz.prog.underlying ts = some (.slice t)) {z : Value} {by_ : Nat}
    (hinfo : (Tryz.prog.info? t).map (fun i => (i.zero, i.size, i.bytes)) = some (some z, k, by_)) (hzs : z.cells.size = k) (hk0 : 0 < k) (hby : by_ ≤ 1000) (hk : ∀ x, (cs x).length = k)
    (base : Nat) (v : Value) (D : List α) (hs : a.eval s = v) (hown : OwnC cs k t w base v D) (ad : Addr) (len cap : Nat) (Y : List α) (hone : ∀ y ∈ Y, ∀ u ∈ cs y, u.oneCell' = true) (hlen : len = Y.length) (hx : a.eval x = .slice (some ad) len cap)
    (hnews : ∀ j u, (allC cs Y)[j]? = some u → w.cell? (ad.add j) = some u) (hfew : D.length + Y.length ≤ 100000) (hbase : base ≤ w.heap.size)
    (h : ∀ v' w', OwnC cs k t w' base v' (D ++ Y) → w.grownBy w' v.ownBlock → (v'.ownBlock = v.ownBlock ∨ v'.ownBlock = some w.heap.size) → wpList Tryz.prog ops Q rest (a.put o.dst v') w') :
    wpList Tryz.prog ops Q (o :: rest) a w := by
  obtain ⟨i, hi, hz, hsz, hb⟩ := info_parts hinfo
  subst hlen
  refine wpList_append_own_at w hgd s x ts ho base t i _ k by_ hts hi hz hsz hb hzs hk0 v D.length (allC cs D) hs hown ad Y.length cap (allC cs Y) hx (allC_len hk Y) hnews (fun u hu => ?_) (by unfold maxLen; omega) ?_ hbase fun v' w' h1 h2 _ h4 => ?_
  · obtain ⟨y, hy, hu'⟩ := List.mem_flatMap.1 hu
    exact hone y hy u hu'
  · have : (D.length + Y.length) * by_ ≤ 100000 * 1000 := Nat.mul_le_mul hfew hby
    omega
  · refine h v' w' ?_ h2 h4
    unfold OwnC
    rw [List.length_append, allC_app]
    exact h1
end
/-- A row of records that the call owns, each such as Go can have. -/
structure RowR (w : World) (base : Nat) (v : Value) (X : List RV) : Prop where
  own : OwnC csR 16 32 w base v X
  fit : ∀ x ∈ X, FitR w x.1 x.2
  far : ∀ x ∈ X, ∀ j, blk x.2 = some j → v.ownBlock ≠ some j
section
variable {w w' : World} {base : Nat} {v v' : Value} {X Y : List RV}
theorem RowR.nil (w : World) (base : Nat) : RowR w base nilS [] := ⟨OwnC.none_ _ _, fun x h => (nomatch h), fun x h => (nomatch h)⟩
theorem RowR.next (h : RowR w base v X) (hb : Below w.heap.size w w') : RowR w' base v X :=
  ⟨h.own.same fun k hk => hb.block k (h.own.block hk).2.1, fun x hx => (h.fit x hx).next hb, h.far⟩
theorem FitR.grown {r : MR} {tv : Value} (h : FitR w r tv) {row : Option Nat} (hg : w.grownBy w' row) (hf : ∀ j, blk tv = some j → row ≠ some j) : FitR w' r tv :=
  ⟨h.n, h.x, { h.d with row := h.d.row.far hg.size fun j hj => hg.block j (blk_ltC h.d.row j hj) fun e => hf j hj e.symm }⟩
theorem RowR.snoc (h : RowR w base v X) (ho : OwnC csR 16 32 w' base v' (X ++ Y)) (hg : w.grownBy w' v.ownBlock) (hob : v'.ownBlock = v.ownBlock ∨ v'.ownBlock = some w.heap.size) (hy : ∀ y ∈ Y, FitR w y.1 y.2) (hf : ∀ y ∈ Y, ∀ j, blk y.2 = some j → v.ownBlock ≠ some j) : RowR w' base v' (X ++ Y) := by
  have hfit : ∀ y ∈ X ++ Y, FitR w y.1 y.2 := fun y hy' => (List.mem_append.1 hy').elim (h.fit y) (hy y)
  have hfar : ∀ y ∈ X ++ Y, ∀ j, blk y.2 = some j → v.ownBlock ≠ some j := fun y hy' => (List.mem_append.1 hy').elim (h.far y) (hf y)
  refine ⟨ho, fun y hy' => (hfit y hy').grown hg (hfar y hy'), fun y hy' j hj => ?_⟩
  rcases hob with e | e
  · rw [e]; exact hfar y hy' j hj
  · rw [e]
    intro e2
    injection e2 with e2
    have := blk_ltC (hfit y hy').d.row j hj
    omega
theorem OwnC.base_le {α : Type} {cs : α → List Value} {k b : Nat} {t : TypeId} {D : List α} (h : OwnC cs k t w base v D) (hb : b ≤ base) : OwnC cs k t w b v D :=
  ⟨h.1, h.2.imp id fun ⟨g, cap, cur, h1, h2, h3⟩ => ⟨g, cap, cur, h1, Nat.le_trans hb h2, h3⟩⟩
/-- A row of its own can be read. -/
theorem OwnC.crow {α : Type} {cs : α → List Value} {k : Nat} {t : TypeId} (hk : ∀ x, (cs x).length = k) {D : List α} (h : OwnC cs k t w base v D) : CRow cs k w v D := by
  obtain ⟨A, cap, rfl, h1, h2⟩ := h.shape
  refine ⟨A, cap, rfl, h1, h2, fun j hj => ?_⟩
  obtain ⟨g, rfl, hr⟩ := h.at hk j hj
  exact ⟨g, 0, rfl, (h.block (b := g) rfl).2.1, hr⟩
theorem OwnC.app_below {α : Type} {cs : α → List Value} {k : Nat} {t : TypeId} {D : List α} (h : OwnC cs k t w base v D) (hg : w.grownBy w' v.ownBlock) (hb : base ≤ w.heap.size) : Below base w w' :=
  (Below.refl base w).grown hg hb fun _ hk => (h.block hk).1
end
section
variable {w : World} {ops : Array Oper} {rest : List Oper} {o : Oper} {a : Act} {Q : Exit → Act → World → Prop}
theorem app_q2 (hgd : o.guard = none) (sl x : Operand) (ho : o.op = .call { callee := .builtin .append, args := #[sl, x], argTypes := #[51, 51] }) {base : Nat} {v : Value} {D : List MQ} (hs : a.eval sl = v) (hown : OwnC csQ 3 65 w base v D) (y : MQ) (c : Nat) (hx : a.eval x = .slice (some ⟨c, 0, none⟩) 1 1) (hc : Lies w c 65 (cellsQ y)) (hfew : D.length ≤ 99999) (hbase : base ≤ w.heap.size)
    (h : ∀ v' w', OwnC csQ 3 65 w' base v' (D ++ [y]) → Below base w w' → wpList Tryz.prog ops Q rest (a.put o.dst v') w') : wpList Tryz.prog ops Q (o :: rest) a w :=
  wpList_appendC2 (t := 65) hgd sl x 51 ho Tryz.underlying51 infoQb rfl (by decide) (by decide) csQ_len base v D hs hown ⟨c, 0, none⟩ 1 1 [y] (fun z hz => by rw [List.mem_singleton.1 hz]; exact csQ_one y) rfl hx (by simpa [allC] using lies_add hc) (by simp; omega) hbase fun v' w' h1 h2 _ => h v' w' h1 (hown.app_below h2 hbase)
theorem app_r3 (hgd : o.guard = none) (sl x : Operand) (ho : o.op = .call { callee := .builtin .append, args := #[sl, x], argTypes := #[52, 52] }) {base : Nat} {v : Value} {D : List RV} (hs : a.eval sl = v) (hown : RowR w base v D) (r : MR) (tv : Value) (hy : FitR w r tv) (hf : ∀ j, blk tv = some j → v.ownBlock ≠ some j) (c : Nat) (hx : a.eval x = .slice (some ⟨c, 0, none⟩) 1 1) (hc : Lies w c 32 (cellsR r tv)) (hfew : D.length ≤ 99999) (hbase : base ≤ w.heap.size)
    (h : ∀ v' w', RowR w' base v' (D ++ [(r, tv)]) → Below base w w' → wpList Tryz.prog ops Q rest (a.put o.dst v') w') : wpList Tryz.prog ops Q (o :: rest) a w :=
  wpList_appendC2 (t := 32) (cs := csR) hgd sl x 52 ho Tryz.underlying52 infoRb rfl (by decide) (by decide) csR_len base v D hs hown.own ⟨c, 0, none⟩ 1 1 [(r, tv)] (fun z hz => by rw [List.mem_singleton.1 hz]; exact csR_one hy) rfl hx (by simpa [allC] using lies_add hc) (by simp; omega) hbase fun v' w' h1 h2 h3 => h v' w' (hown.snoc h1 h2 h3 (fun z hz => by rw [List.mem_singleton.1 hz]; exact hy) (fun z hz => by rw [List.mem_singleton.1 hz]; exact hf)) (hown.own.app_below h2 hbase)
end
theorem OwnC.two {α : Type} {cs : α → List Value} {k base : Nat} {t : TypeId} {w : World} {v : Value} {D : List α} (h : OwnC cs k t w base v D) (o p : Obj) : OwnC cs k t ((w.alloc o).alloc p) base v D := h.same fun b hb => (below2 w o p).block b (h.block hb).2.1
theorem RowR.two {base : Nat} {w : World} {v : Value} {D : List RV} (h : RowR w base v D) (o p : Obj) : RowR ((w.alloc o).alloc p) base v D := h.next (below2 w o p)
theorem below_two {w w1 : World} (h : Below w.heap.size w w1) (o p : Obj) : Below w.heap.size w ((w1.alloc o).alloc p) := h.trans ((below2 w1 o p).mono h.size)
theorem nilOk0 : NilOk nilS := fun n c h => by injection h with _ _ h; exact h.symm
theorem OwnC.nilOk {α : Type} {cs : α → List Value} {k base : Nat} {t : TypeId} {w : World} {v : Value} {D : List α} (h : OwnC cs k t w base v D) : NilOk v := by
  rcases h.2 with ⟨rfl, _⟩ | ⟨g, cap, cur, rfl, _⟩
  · exact nilOk0
  · intro n c e
    injection e with e
    cases e
end Go.Proofs.YtdpgcgaalamgkaaGreat
namespace Go.Proofs.YtdpgcgaalamgkaaGreat
open Go.RowKit Go.Maps
set_option linter.unusedVariables false
set_option maxRecDepth 100000

theorem CRow.news {w : World} {a : Addr} {n cap : Nat} {L : List RV} (h : CRow csR 16 w (.slice (some a) n cap) L) : ∀ j u, (allC csR L)[j]? = some u → w.cell? (a.add j) = some u := by
  intro j u hu
  have hj : j < L.length * 16 := by
    have := (List.getElem?_eq_some_iff.1 hu).1
    rwa [allC_len csR_len] at this
  have hq : j / 16 < L.length := by omega
  obtain ⟨g, o, e, _, hr⟩ := h.at (j / 16) hq
  injection e with e
  subst e
  have hm := allC_at csR_len L (j / 16) (j % 16) hq (Nat.mod_lt _ (by decide))
  rw [show j / 16 * 16 + j % 16 = j by omega] at hm
  rw [Addr.add_mid]
  have := hr (j % 16) u (by rw [← hm]; exact hu)
  rw [show o + j / 16 * 16 + j % 16 = o + j by omega] at this
  exact this
theorem run_app {w : World} {base : Nat} {v sv : Value} {X Y : List RV} (hown : RowR w base v X) (ty : TypeId) (hr : CRow csR 16 w sv Y) (hn : NilOk sv) (hY : ∀ y ∈ Y, FitR w y.1 y.2) (hf : ∀ y ∈ Y, ∀ j, blk y.2 = some j → v.ownBlock ≠ some j) (hfew : X.length + Y.length ≤ 100000) (hbase : base ≤ w.heap.size) :
    ∃ v' w', (Builtin.append_ #[52, 52] ty #[v, sv]).run Tryz.prog w = .ok v' w' ∧ RowR w' base v' (X ++ Y) ∧ Below base w w' := by
  obtain ⟨i, hi, hz, hsz, hb⟩ := info_parts infoRb
  obtain ⟨A, cap, rfl, hl, hc, _⟩ := hr.shape
  cases A with
  | none =>
    have hc0 := hn _ _ rfl
    subst hc0
    have hY0 : Y = [] := List.eq_nil_of_length_eq_zero (Nat.le_zero.1 hl)
    subst hY0
    refine ⟨v, w, run_append_owned_none (P := Tryz.prog) w base 52 ty 32 i 16 Tryz.underlying52 hi v X.length (allC csR X) hown.own, ?_, Below.refl _ _⟩
    rw [List.append_nil]
    exact hown
  | some a =>
    obtain ⟨v', w', h1, h2, h3, _, h5⟩ := run_append_own_at (P := Tryz.prog) w base 52 ty 32 i _ 16 160 Tryz.underlying52 hi hz hsz hb rfl (by decide) v X.length (allC csR X) hown.own a Y.length cap (allC csR Y) (allC_len csR_len Y) hr.news (fun u hu => by
      obtain ⟨y, hy, hu'⟩ := List.mem_flatMap.1 hu
      exact csR_one (hY y hy) u hu') (by unfold maxLen; omega) (by omega) hbase
    have ho : OwnC csR 16 32 w' base v' (X ++ Y) := by
      unfold OwnC
      rw [List.length_append, allC_app]
      exact h2
    exact ⟨v', w', h1, hown.snoc ho h3 h5 hY hf, hown.own.app_below h3 hbase⟩
section
variable {w : World} {ops : Array Oper} {rest : List Oper} {o : Oper} {a : Act} {Q : Exit → Act → World → Prop}
theorem wpList_app (hgd : o.guard = none) (s x : Operand) (ho : o.op = .call { callee := .builtin .append, args := #[s, x], argTypes := #[52, 52] }) {base : Nat} {v sv : Value} {X Y : List RV} (hs : a.eval s = v) (hx : a.eval x = sv) (hown : RowR w base v X) (hr : CRow csR 16 w sv Y) (hn : NilOk sv) (hY : ∀ y ∈ Y, FitR w y.1 y.2) (hf : ∀ y ∈ Y, ∀ j, blk y.2 = some j → v.ownBlock ≠ some j) (hfew : X.length + Y.length ≤ 100000) (hbase : base ≤ w.heap.size)
    (h : ∀ v' w', RowR w' base v' (X ++ Y) → Below base w w' → wpList Tryz.prog ops Q rest (a.put o.dst v') w') : wpList Tryz.prog ops Q (o :: rest) a w := by
  refine wpList_plain hgd fun K hK => ?_
  obtain ⟨v', w', h1, h2, h3⟩ := run_app hown o.type hr hn hY hf hfew hbase
  unfold Oper.wp execOp
  simp only [ho, resolve, invoke, builtin, Sem.run_bind, Sem.run_pure, Result.andThen_ok, List.map_toArray, List.map_cons, List.map_nil, hs, hx, h1]
  exact hK _ _ (h v' w' h2 h3)
theorem step_app {K : Act → World → Prop} {E : Prop} (hgd : o.guard = none) (s x : Operand) (ho : o.op = .call { callee := .builtin .append, args := #[s, x], argTypes := #[52, 52] }) {base : Nat} {v sv : Value} {X Y : List RV} (hs : a.eval s = v) (hx : a.eval x = sv) (hown : RowR w base v X) (hr : CRow csR 16 w sv Y) (hn : NilOk sv) (hY : ∀ y ∈ Y, FitR w y.1 y.2) (hf : ∀ y ∈ Y, ∀ j, blk y.2 = some j → v.ownBlock ≠ some j) (hfew : X.length + Y.length ≤ 100000) (hbase : base ≤ w.heap.size)
    (h : ∀ v' w', RowR w' base v' (X ++ Y) → Below base w w' → K (a.put o.dst v') w') :
    if Region.wanted o (yielded ops a.tmps) = true then Oper.wp Tryz.prog o a w K Q else E := by
  have hw : Region.wanted o (yielded ops a.tmps) = true := by simp [Region.wanted, hgd]
  rw [if_pos hw]
  obtain ⟨v', w', h1, h2, h3⟩ := run_app hown o.type hr hn hY hf hfew hbase
  unfold Oper.wp execOp
  simp only [ho, resolve, invoke, builtin, Sem.run_bind, Sem.run_pure, Result.andThen_ok, List.map_toArray, List.map_cons, List.map_nil, hs, hx, h1]
  exact h v' w' h2 h3
end
/-- A row of its own, of those that came. -/
def OwnR (w : World) (base : Nat) (L : List RV) (e : Ending) (w' : World) : Prop := ∃ v, e = .returned v ∧ RowR w' base v L ∧ Below w.heap.size w w'
theorem ownR_far {w : World} {base : Nat} {v : Value} {X Y : List RV} (h : RowR w base v X) (hlo : ∀ y ∈ Y, ∀ j, blk y.2 = some j → j < base) : ∀ y ∈ Y, ∀ j, blk y.2 = some j → v.ownBlock ≠ some j := fun y hy j hj e => by
  have h1 := hlo y hy j hj
  have h2 := (h.own.block e).1
  omega
set_option maxHeartbeats 1000000 in
theorem ownRec_any (sv : Value) (L : List RV) (w : World) (hr : CRow csR 16 w sv L) (hn : NilOk sv) (hf : ∀ x ∈ L, FitR w x.1 x.2) (hfew : L.length ≤ 100000) :
    Calls Tryz.prog 94 #[sv] w (OwnR w w.heap.size L) := by
  have h0 : RowR (w.alloc (.cells #[] 32)) w.heap.size (.slice (some ⟨w.heap.size, 0, none⟩) 0 0) [] :=
    ⟨⟨rfl, .inr ⟨w.heap.size, 0, #[], rfl, Nat.le_refl _, Lies.new _ _ _, Nat.le_refl _, Nat.zero_le _, rfl, rfl⟩⟩, fun x h => (nomatch h), fun x h => (nomatch h)⟩
  have hB : Below w.heap.size w (w.alloc (.cells #[] 32)) := (Below.refl _ _).alloc (Nat.le_refl _) _
  have H0 := Lib.hid h0
  have HB := Lib.hid hB
  have HR := Lib.hid (hr.below hB)
  have HN := Lib.hid hn
  have HF := Lib.hid fun x hx => (hf x hx).next hB
  have HLo : Hid (∀ y ∈ L, ∀ j, blk y.2 = some j → j < w.heap.size) := Lib.hid fun y hy j hj => blk_ltC (hf y hy).d.row j hj
  have HFew : Hid (([] : List RV).length + L.length ≤ 100000) := Lib.hid (by simpa using hfew)
  clear h0 hB hr hn hf hfew
  go_enter Tryz.func94, Tryz.ntmps94
  go_wp2_with (at_builtin; refine wpList_app rfl (.tmp 3) (.tmp 4) rfl rfl rfl H0.out HR.out HN.out HF.out (ownR_far H0.out HLo.out) HFew.out HB.out.size ?_; intro v5 w5 h5 hb5; have HO5 := Lib.hid h5; have HB5 := Lib.hid (HB.out.trans hb5); clear h5 hb5)
  go_ret
  exact ⟨v5, rfl, HO5.out, HB5.out⟩
set_option maxHeartbeats 4000000 in
theorem records_any (m : MM) (vq va vu vm : Value) (w : World) (hf : FitM w m vq va vu vm) (hfew : m.recs.length ≤ 100000) :
    Calls Tryz.prog 39 #[msgV m.h vq va vu vm] w (OwnR w w.heap.size m.recs) := by
  have hlo : ∀ y ∈ m.recs, ∀ j, blk y.2 = some j → j < w.heap.size := fun y hy j hj => blk_ltC (hf.rs y hy).d.row j hj
  have hlen : m.a.length + m.u.length + m.m.length ≤ 100000 := by unfold MM.recs at hfew; rw [List.length_append, List.length_append] at hfew; exact hfew
  obtain ⟨Aq, cq, Aa, ca, Au, cu, Am, cm, rfl, rfl, rfl, rfl, _⟩ := hf.shapes
  obtain ⟨C, hC⟩ : ∃ C, cellsM m.h (.slice Aq m.q.length cq) (.slice Aa m.a.length ca) (.slice Au m.u.length cu) (.slice Am m.m.length cm) = C := ⟨_, rfl⟩
  obtain ⟨V, hV⟩ : ∃ V, msgV m.h (.slice Aq m.q.length cq) (.slice Aa m.a.length ca) (.slice Au m.u.length cu) (.slice Am m.m.length cm) = V := ⟨_, rfl⟩
  have hbx := box_m m.h Aq Aa Au Am m.q.length m.a.length m.u.length m.m.length cq ca cu cm w
  obtain ⟨W, hW⟩ : ∃ W, W = w.alloc (.cells C 54) := ⟨_, rfl⟩
  rw [hC, hV, ← hW] at hbx
  have hB0 : Below w.heap.size w W := by rw [hW]; exact (Below.refl _ _).alloc (Nat.le_refl _) _
  have hL0 : Lies W w.heap.size 54 C := by rw [hW]; exact Lies.new _ _ _
  have HL : Hid (∀ wx, Below W.heap.size W wx → wx.cell? ⟨w.heap.size, 15, none⟩ = some (.slice Aa m.a.length ca) ∧ wx.cell? ⟨w.heap.size, 16, none⟩ = some (.slice Au m.u.length cu) ∧ wx.cell? ⟨w.heap.size, 17, none⟩ = some (.slice Am m.m.length cm)) := Lib.hid fun wx hb => by
    have l := hL0.next hb
    rw [← hC] at l
    exact ⟨l.cell 15, l.cell 16, l.cell 17⟩
  have HBx := Lib.hid hbx
  have HB0 := Lib.hid hB0
  have HF := Lib.hid hf
  have HLo := Lib.hid hlo
  have HLen := Lib.hid hlen
  have hsz : w.heap.size ≤ W.heap.size := hB0.size
  have HOwn := Lib.hid fun wx (hb : Below w.heap.size w wx) => ownRec_any _ _ wx (hf.a.below hb) hf.nl.1 (fun x hx => (hf.rs x (mem_recs.2 (.inl hx))).next hb) (by omega)
  rw [hV]
  clear hbx hB0 hL0 hC hV hW hf hlo hlen hfew
  go_enter Tryz.func39, Tryz.ntmps39
  go_wp2_with (refine wpList_box1 rfl 54 (.tmp 0) rfl V _ rfl HBx.out ?_)
  have HD : Hid (Below W.heap.size W W.drew) := Lib.hid ⟨rfl, rfl, rfl, Nat.le_refl _, fun _ _ => rfl⟩
  have HU : Hid (∀ wx, Below W.heap.size W wx → ∀ v X, RowR wx W.heap.size v X → X.length ≤ m.a.length → CRow csR 16 wx (.slice Au m.u.length cu) m.u ∧ NilOk (.slice Au m.u.length cu) ∧ (∀ y ∈ m.u, FitR wx y.1 y.2) ∧ (∀ y ∈ m.u, ∀ j, blk y.2 = some j → v.ownBlock ≠ some j) ∧ X.length + m.u.length ≤ 100000) := Lib.hid fun wx hb v X hr hx => by
    have hw := HB0.out.trans (hb.mono HB0.out.size)
    exact ⟨HF.out.u.below hw, HF.out.nl.2.1, fun y hy => (HF.out.rs y (mem_recs.2 (.inr (.inl hy)))).next hw, ownR_far hr fun y hy j hj => Nat.lt_of_lt_of_le (HLo.out y (mem_recs.2 (.inr (.inl hy))) j hj) hsz, by have := HLen.out; omega⟩
  have HM : Hid (∀ wx, Below W.heap.size W wx → ∀ v X, RowR wx W.heap.size v X → X.length ≤ m.a.length + m.u.length → CRow csR 16 wx (.slice Am m.m.length cm) m.m ∧ NilOk (.slice Am m.m.length cm) ∧ (∀ y ∈ m.m, FitR wx y.1 y.2) ∧ (∀ y ∈ m.m, ∀ j, blk y.2 = some j → v.ownBlock ≠ some j) ∧ X.length + m.m.length ≤ 100000) := Lib.hid fun wx hb v X hr hx => by
    have hw := HB0.out.trans (hb.mono HB0.out.size)
    exact ⟨HF.out.rm.below hw, HF.out.nl.2.2, fun y hy => (HF.out.rs y (mem_recs.2 (.inr (.inr hy)))).next hw, ownR_far hr fun y hy j hj => Nat.lt_of_lt_of_le (HLo.out y (mem_recs.2 (.inr (.inr hy))) j hj) hsz, by have := HLen.out; omega⟩
  go_region_held3 (fun w' => w'.cell? ⟨w.heap.size, 15, none⟩ = some (.slice Aa m.a.length ca) ∧ w'.cell? ⟨w.heap.size, 16, none⟩ = some (.slice Au m.u.length cu) ∧ w'.cell? ⟨w.heap.size, 17, none⟩ = some (.slice Am m.m.length cm)) (first | exact HL.out _ HB5.out | exact HL.out _ HB4.out | exact HL.out _ HB3.out | exact HL.out _ HD.out | go_keep) (first | (go_at_call 94; (refine (HOwn.out _ (HB0.out.trans (HD.out.mono HB0.out.size))).mono ?_); rintro e w3 ⟨v3, rfl, hr3, hb3⟩; have HR3 := Lib.hid (show RowR w3 W.heap.size v3 m.a from hr3); have HB3 := Lib.hid (HD.out.trans (show Below W.heap.size W.drew w3 from hb3)); clear hr3 hb3) | (refine step_app rfl (.tmp 5) (.tmp 7) rfl rfl rfl HR3.out (HU.out _ HB3.out _ _ HR3.out (Nat.le_refl _)).1 (HU.out _ HB3.out _ _ HR3.out (Nat.le_refl _)).2.1 (HU.out _ HB3.out _ _ HR3.out (Nat.le_refl _)).2.2.1 (HU.out _ HB3.out _ _ HR3.out (Nat.le_refl _)).2.2.2.1 (HU.out _ HB3.out _ _ HR3.out (Nat.le_refl _)).2.2.2.2 HB3.out.size ?_; intro v4 w4 h4 hb4; have HR4 := Lib.hid h4; have HB4 := Lib.hid (HB3.out.trans hb4); clear h4 hb4) | (refine step_app rfl (.tmp 8) (.tmp 10) rfl rfl rfl HR4.out (HM.out _ HB4.out _ _ HR4.out (by rw [List.length_append]; exact Nat.le_refl _)).1 (HM.out _ HB4.out _ _ HR4.out (by rw [List.length_append]; exact Nat.le_refl _)).2.1 (HM.out _ HB4.out _ _ HR4.out (by rw [List.length_append]; exact Nat.le_refl _)).2.2.1 (HM.out _ HB4.out _ _ HR4.out (by rw [List.length_append]; exact Nat.le_refl _)).2.2.2.1 (HM.out _ HB4.out _ _ HR4.out (by rw [List.length_append]; exact Nat.le_refl _)).2.2.2.2 HB4.out.size ?_; intro v5 w5 h5 hb5; have HR5 := Lib.hid h5; have HB5 := Lib.hid (HB4.out.trans hb5); clear h5 hb5) | fail)
  all_goals
    go_wp2
    go_ret
    exact ⟨v5, rfl, { HR5.out with own := HR5.out.own.base_le hsz }, HB0.out.trans (HB5.out.mono HB0.out.size)⟩
end Go.Proofs.YtdpgcgaalamgkaaGreat
namespace Go.Proofs.YtdpgcgaalamgkaaGreat
open Go.ChangeShapes Go.WideShapes Go.ChangeAt Go.RowKit Go.Deep
set_option linter.unusedVariables false
set_option maxRecDepth 100000

section
variable {H : Type} {enc : TypeId × Value → H} {W : World} {base b0 : Nat} {held : Bool} {v : Value} {d : DataW H} {p : List MemPlace}
set_option maxHeartbeats 2000000 in
theorem header_core {c0 c1 c2 c3 c4 c5 c6 c7 c8 c9 c10 c11 c12 c13 : Value} {N : Nat} {xd : DataW H × List MemPlace} {spare : Nat → Bool} (hg : DataW.trod enc Tryz.prog W b0 spare held N 50 [c0, c1, c2, c3, c4, c5, c6, c7, c8, c9, c10, c11, c12, c13] = some xd) :
    ∃ a : Hd, [c0, c1, c2, c3, c4, c5, c6, c7, c8, c9, c10, c11, c12, c13] = [.int .u16 a.id, .bool a.re, .int .i64 a.op, .bool a.aa, .bool a.tc, .bool a.rd, .bool a.ra, .bool a.ad, .bool a.cd, .int .i64 a.rc, .int .i64 a.n0, .int .i64 a.n1, .int .i64 a.n2, .int .i64 a.n3] ∧ a.fits := by
  have u1 : Tryz.prog.cellsOf 47 = 1 := by kernel_rfl
  have u2 : Tryz.prog.cellsOf 4 = 1 := by kernel_rfl
  have u3 : Tryz.prog.cellsOf 3 = 1 := by kernel_rfl
  have u4 : Tryz.prog.cellsOf 48 = 4 := by kernel_rfl
  obtain ⟨xs, n, _, hx, hl, hlen, hfl⟩ := DataW.trod_struct Tryz.underlying50 hg
  obtain ⟨x0, x1, x2, x3, x4, x5, x6, x7, x8, x9, x10, rfl⟩ := list11 (l := xs) hlen
  have g0 : DataW.trod enc Tryz.prog W b0 spare held n 47 [c0] = some x0 := by simpa [Value.cells, u1] using hfl 0 _ rfl
  have g1 : DataW.trod enc Tryz.prog W b0 spare held n 4 [c1] = some x1 := by simpa [Value.cells, u2] using hfl 1 _ rfl
  have g2 : DataW.trod enc Tryz.prog W b0 spare held n 3 [c2] = some x2 := by simpa [Value.cells, u3] using hfl 2 _ rfl
  have g3 : DataW.trod enc Tryz.prog W b0 spare held n 4 [c3] = some x3 := by simpa [Value.cells, u2] using hfl 3 _ rfl
  have g4 : DataW.trod enc Tryz.prog W b0 spare held n 4 [c4] = some x4 := by simpa [Value.cells, u2] using hfl 4 _ rfl
  have g5 : DataW.trod enc Tryz.prog W b0 spare held n 4 [c5] = some x5 := by simpa [Value.cells, u2] using hfl 5 _ rfl
  have g6 : DataW.trod enc Tryz.prog W b0 spare held n 4 [c6] = some x6 := by simpa [Value.cells, u2] using hfl 6 _ rfl
  have g7 : DataW.trod enc Tryz.prog W b0 spare held n 4 [c7] = some x7 := by simpa [Value.cells, u2] using hfl 7 _ rfl
  have g8 : DataW.trod enc Tryz.prog W b0 spare held n 4 [c8] = some x8 := by simpa [Value.cells, u2] using hfl 8 _ rfl
  have g9 : DataW.trod enc Tryz.prog W b0 spare held n 3 [c9] = some x9 := by simpa [Value.cells, u3] using hfl 9 _ rfl
  have g10 : DataW.trod enc Tryz.prog W b0 spare held n 48 [c10, c11, c12, c13] = some x10 := by simpa [Value.cells, u4] using hfl 10 _ rfl
  obtain ⟨b0_1, e0, _, w0⟩ := DataW.trod_int Tryz.underlying47 g0
  obtain ⟨b1, e1, _⟩ := DataW.trod_bool Tryz.underlying4 g1
  obtain ⟨b2, e2, _, w2⟩ := DataW.trod_int Tryz.underlying3 g2
  obtain ⟨b3, e3, _⟩ := DataW.trod_bool Tryz.underlying4 g3
  obtain ⟨b4, e4, _⟩ := DataW.trod_bool Tryz.underlying4 g4
  obtain ⟨b5, e5, _⟩ := DataW.trod_bool Tryz.underlying4 g5
  obtain ⟨b6, e6, _⟩ := DataW.trod_bool Tryz.underlying4 g6
  obtain ⟨b7, e7, _⟩ := DataW.trod_bool Tryz.underlying4 g7
  obtain ⟨b8, e8, _⟩ := DataW.trod_bool Tryz.underlying4 g8
  obtain ⟨b9, e9, _, w9⟩ := DataW.trod_int Tryz.underlying3 g9
  obtain ⟨ys, m, _, _, _, hyl, hel⟩ := DataW.trod_array Tryz.underlying48 g10
  obtain ⟨y0, y1, y2, y3, rfl⟩ := list4 (l := ys) hyl
  have k0 : DataW.trod enc Tryz.prog W b0 spare held m 3 [c10] = some y0 := by simpa [u3] using hel 0 (by omega)
  have k1 : DataW.trod enc Tryz.prog W b0 spare held m 3 [c11] = some y1 := by simpa [u3] using hel 1 (by omega)
  have k2 : DataW.trod enc Tryz.prog W b0 spare held m 3 [c12] = some y2 := by simpa [u3] using hel 2 (by omega)
  have k3 : DataW.trod enc Tryz.prog W b0 spare held m 3 [c13] = some y3 := by simpa [u3] using hel 3 (by omega)
  obtain ⟨q0, f0, _, v0⟩ := DataW.trod_int Tryz.underlying3 k0
  obtain ⟨q1, f1, _, v1⟩ := DataW.trod_int Tryz.underlying3 k1
  obtain ⟨q2, f2, _, v2⟩ := DataW.trod_int Tryz.underlying3 k2
  obtain ⟨q3, f3, _, v3⟩ := DataW.trod_int Tryz.underlying3 k3
  simp only [List.cons.injEq, and_true] at e0 e1 e2 e3 e4 e5 e6 e7 e8 e9 f0 f1 f2 f3
  subst e0 e1 e2 e3 e4 e5 e6 e7 e8 e9 f0 f1 f2 f3
  have r0 := bounds_u16 w0
  obtain ⟨i, rfl⟩ : ∃ n : Nat, b0_1 = n := ⟨b0_1.toNat, by omega⟩
  exact ⟨⟨i, b1, b2, b3, b4, b5, b6, b7, b8, b9, q0, q1, q2, q3⟩, rfl, ⟨by show i < 65536; omega, bounds_i64 w2, bounds_i64 w9, bounds_i64 v0, bounds_i64 v1, bounds_i64 v2, bounds_i64 v3⟩⟩
theorem quests_core {c : Value} {N : Nat} {xd : DataW H × List MemPlace} (hg : DataW.trod enc Tryz.prog W b0 (fun _ => true) held N 51 [c] = some xd) (hz : ∀ n ∈ xd.1.weights Tryz.prog 51, n ≤ reachBytes) : ∃ L : List MQ, CRow csQ 3 W c L ∧ (∀ q ∈ L, q.n.size ≤ maxLen) ∧ L.length ≤ 17592186044416 := by
  rcases open_slice Tryz.underlying51 hg with ⟨hcs, _⟩ | ⟨a, len', cap', m, n, D, Pl, hcs, _, hl, hm, hmm, hx, hi⟩
  · simp only [List.cons.injEq, and_true] at hcs
    subst hcs
    exact ⟨[], ⟨none, 0, rfl, Nat.le_refl _, Nat.zero_le _, fun j h => by simp at h⟩, fun x h => (by cases h), Nat.zero_le _⟩
  · simp only [List.cons.injEq, and_true] at hcs
    subst hcs
    have hlm : len' ≤ m := by rw [hmm]; split <;> omega
    have hd : xd.1 = .slice ((List.range len').map D) ((List.range (m - len')).map fun j => D (len' + j)) := congrArg Prod.fst hx
    have hb32 : Tryz.prog.bytesOf 65 = 32 := by kernel_rfl
    have hlen : len' ≤ 17592186044416 := by
      have := hz ((((List.range len').map D).length + ((List.range (m - len')).map fun j => D (len' + j)).length) * 32) (by rw [hd, DataW.weights]; simp only [Tryz.underlying51, hb32]; exact List.mem_cons_self)
      simp only [List.length_map, List.length_range] at this
      unfold reachBytes at this
      omega
    have hc3 : Tryz.prog.cellsOf 65 = 3 := by kernel_rfl
    rw [hc3] at hi
    obtain ⟨L, h1, h2⟩ := crow_of (Pr := fun q : MQ => q.n.size ≤ maxLen) (w := W) csQ_len (by decide) hl hm fun i hil => by
      obtain ⟨cs, hc, ht⟩ := hi i (by omega)
      obtain ⟨_, hlen, hcell⟩ := World.cells?_some hc
      obtain ⟨c0, c1, c2, rfl⟩ := listc3 hlen
      obtain ⟨q, e, hn⟩ := quest_core ht
      exact ⟨q, hn, fun j hj => by rw [hcell j hj, e]⟩
    refine ⟨L, h1, h2, ?_⟩
    obtain ⟨_, _, e, _⟩ := h1.shape
    injection e with _ e _
    rw [← e]
    exact hlen
theorem recs_core {c : Value} {N : Nat} {xd : DataW H × List MemPlace} (hg : DataW.trod enc Tryz.prog W b0 (fun _ => true) held N 52 [c] = some xd) (hz : ∀ n ∈ xd.1.weights Tryz.prog 52, n ≤ reachBytes) : ∃ L : List (MR × Value), CRow csR 16 W c L ∧ (∀ x ∈ L, FitR W x.1 x.2) ∧ NilOk c ∧ L.length ≤ 17592186044416 := by
  rcases open_slice Tryz.underlying52 hg with ⟨hcs, _⟩ | ⟨a, len', cap', m, n, D, Pl, hcs, _, hl, hm, hmm, hx, hi⟩
  · simp only [List.cons.injEq, and_true] at hcs
    subst hcs
    exact ⟨[], ⟨none, 0, rfl, Nat.le_refl _, Nat.zero_le _, fun j h => by simp at h⟩, fun x h => (by cases h), nilOk0, Nat.zero_le _⟩
  · simp only [List.cons.injEq, and_true] at hcs
    subst hcs
    have hlm : len' ≤ m := by rw [hmm]; split <;> omega
    have hc16 : Tryz.prog.cellsOf 32 = 16 := by kernel_rfl
    have hd : xd.1 = .slice ((List.range len').map D) ((List.range (m - len')).map fun j => D (len' + j)) := congrArg Prod.fst hx
    have hb160 : Tryz.prog.bytesOf 32 = 160 := by kernel_rfl
    have hlen : len' ≤ 17592186044416 := by
      have := hz ((((List.range len').map D).length + ((List.range (m - len')).map fun j => D (len' + j)).length) * 160) (by rw [hd, DataW.weights]; simp only [Tryz.underlying52, hb160]; exact List.mem_cons_self)
      simp only [List.length_map, List.length_range] at this
      unfold reachBytes at this
      omega
    rw [hc16] at hi
    obtain ⟨L, h1, h2⟩ := crow_of (Pr := fun x : MR × Value => FitR W x.1 x.2) (w := W) csR_len (by decide) hl hm fun i hil => by
      obtain ⟨cs, hc, ht⟩ := hi i (by omega)
      obtain ⟨_, hlen, hcell⟩ := World.cells?_some hc
      obtain ⟨c0, c1, c2, c3, c4, c5, c6, c7, c8, c9, c10, c11, c12, c13, c14, c15, rfl⟩ := listc16 hlen
      obtain ⟨r, tv, e, fit⟩ := rec_core ht (fun k hk => hz k (by
        rw [hd]
        exact weights_elem Tryz.underlying52 (List.mem_map_of_mem (List.mem_range.2 hil)) hk))
      exact ⟨(r, tv), fit, fun j hj => by rw [hcell j hj, e]⟩
    refine ⟨L, h1, h2, fun n c e => (by injection e with e; cases e), ?_⟩
    obtain ⟨_, _, e, _⟩ := h1.shape
    injection e with _ e _
    rw [← e]
    exact hlen
theorem list18 {α : Type} {l : List α} (h : l.length = 18) : ∃ c0 c1 c2 c3 c4 c5 c6 c7 c8 c9 c10 c11 c12 c13 c14 c15 c16 c17, l = [c0, c1, c2, c3, c4, c5, c6, c7, c8, c9, c10, c11, c12, c13, c14, c15, c16, c17] := by
  match l, h with
  | [c0, c1, c2, c3, c4, c5, c6, c7, c8, c9, c10, c11, c12, c13, c14, c15, c16, c17], _ => exact ⟨c0, c1, c2, c3, c4, c5, c6, c7, c8, c9, c10, c11, c12, c13, c14, c15, c16, c17, rfl⟩
/-- Its rows are no longer than a machine's memory. -/
structure ShortM (m : MM) : Prop where
  q : m.q.length ≤ 17592186044416
  a : m.a.length ≤ 17592186044416
  u : m.u.length ≤ 17592186044416
  m : m.m.length ≤ 17592186044416
set_option maxHeartbeats 2000000 in
theorem open_msg (hok : Value.okWide Tryz.prog W .any base 54 v) (h : DataW.Trod enc Tryz.prog W b0 (fun _ => true) held 54 v d p) (hz : ∀ n ∈ d.weights Tryz.prog 54, n ≤ reachBytes) : ∃ (m : MM) (vq va vu vm : Value), v = msgV m.h vq va vu vm ∧ FitM W m vq va vu vm ∧ ShortM m := by
  have hok' := hok
  simp only [Value.okWide, Tryz.underlying54] at hok'
  obtain ⟨cs, rfl, hsz, hrow⟩ := hok'
  have hC : Tryz.prog.cellsOf 54 = 18 := by kernel_rfl
  have hH : Tryz.prog.cellsOf 50 = 14 := by kernel_rfl
  have hQ : Tryz.prog.cellsOf 51 = 1 := by kernel_rfl
  have hR : Tryz.prog.cellsOf 52 = 1 := by kernel_rfl
  rw [hC] at hsz
  obtain ⟨l⟩ := cs
  obtain ⟨c0, c1, c2, c3, c4, c5, c6, c7, c8, c9, c10, c11, c12, c13, c14, c15, c16, c17, rfl⟩ := list18 (l := l) hsz
  obtain ⟨fuel, hf⟩ := h
  obtain ⟨xs, n, _, hx, hl, hlen, hfl⟩ := DataW.trod_struct Tryz.underlying54 hf
  obtain ⟨x0, x1, x2, x3, x4, rfl⟩ := listc5 (l := xs) hlen
  have g0 : DataW.trod enc Tryz.prog W b0 (fun _ => true) held n 50 [c0, c1, c2, c3, c4, c5, c6, c7, c8, c9, c10, c11, c12, c13] = some x0 := by simpa [Value.cells, hH] using hfl 0 _ rfl
  have g1 : DataW.trod enc Tryz.prog W b0 (fun _ => true) held n 51 [c14] = some x1 := by simpa [Value.cells, hQ] using hfl 1 _ rfl
  have g2 : DataW.trod enc Tryz.prog W b0 (fun _ => true) held n 52 [c15] = some x2 := by simpa [Value.cells, hR] using hfl 2 _ rfl
  have g3 : DataW.trod enc Tryz.prog W b0 (fun _ => true) held n 52 [c16] = some x3 := by simpa [Value.cells, hR] using hfl 3 _ rfl
  have g4 : DataW.trod enc Tryz.prog W b0 (fun _ => true) held n 52 [c17] = some x4 := by simpa [Value.cells, hR] using hfl 4 _ rfl
  have hd : d = .agg ([x0, x1, x2, x3, x4].map (·.1)) := by have := congrArg Prod.fst hx; exact this
  obtain ⟨hh, e0, hfit⟩ := header_core g0
  obtain ⟨Lq, q1, q2, q4⟩ := quests_core g1 (fun k hk => hz k (by
    rw [hd]
    simp only [DataW.weights, Tryz.underlying54, List.map_cons, List.map_nil]
    simp [DataW.weightsEach, hk]))
  obtain ⟨La, a1, a2, a3, a4⟩ := recs_core g2 (fun k hk => hz k (by
    rw [hd]
    simp only [DataW.weights, Tryz.underlying54, List.map_cons, List.map_nil]
    simp [DataW.weightsEach, hk]))
  obtain ⟨Lu, u1, u2, u3, u4⟩ := recs_core g3 (fun k hk => hz k (by
    rw [hd]
    simp only [DataW.weights, Tryz.underlying54, List.map_cons, List.map_nil]
    simp [DataW.weightsEach, hk]))
  obtain ⟨Lm, m1, m2, m3, m4⟩ := recs_core g4 (fun k hk => hz k (by
    rw [hd]
    simp only [DataW.weights, Tryz.underlying54, List.map_cons, List.map_nil]
    simp [DataW.weightsEach, hk]))
  simp only [List.cons.injEq, and_true] at e0
  obtain ⟨rfl, rfl, rfl, rfl, rfl, rfl, rfl, rfl, rfl, rfl, rfl, rfl, rfl, rfl⟩ := e0
  exact ⟨⟨hh, Lq, La, Lu, Lm⟩, c14, c15, c16, c17, rfl, ⟨hfit, q1, a1, u1, m1, q2, fun x hx => (mem_recs.1 hx).elim (a2 x) (fun h => h.elim (u2 x) (m2 x)), a3, u3, m3⟩, ⟨q4, a4, u4, m4⟩⟩
end
end Go.Proofs.YtdpgcgaalamgkaaGreat
