/-
  What a question, a record that is read is like; rows of records that a call owns. Condition: the octets are no longer than 2^40.
-/
import Derived.Test.YtdpgcgaalamgkaaGreatZk29
namespace Go.Proofs.YtdpgcgaalamgkaaGreat
open Go.RowKit Go.Maps
set_option linter.unusedVariables false
set_option maxRecDepth 100000

theorem rdNm_len (T : List UInt8) (k : Nat) (hk : k ≤ T.length) : (rdNm T k).s.length ≤ 254 := by
  have hr : (readU T k k).l.length ≤ 254 := by
    unfold readU
    rw [if_neg (by omega)]
    exact (run_inv T _ _ (begU_inv (by omega) (by omega))).l
  unfold rdNm
  split
  · exact Nat.zero_le _
  · split
    · exact hr
    · exact hr
theorem rdQ_fit (T : List UInt8) (a : Int) : (rdQ T a).q.n.size ≤ 254 := by
  have hk := rdNm_len T (seekR T 0 a).2 (seekR_le T 0 a (Nat.zero_le _))
  unfold rdQ
  split
  · exact Nat.zero_le _
  · split
    · exact Nat.zero_le _
    · split
      · exact Nat.zero_le _
      · split
        · exact Nat.zero_le _
        · show (mkb _).size ≤ 254
          rw [mkb_size]
          exact hk
/-- A record whose parts are no greater than octets may tell. -/
structure FitB (r : MR) : Prop where
  n : r.n.size ≤ 254
  x : r.x < 4294967296
  d : MFit 17592186044416 r.d
theorem fitB0 : FitB mr0 := ⟨Nat.zero_le _, by decide, { mfit0 with tl := Nat.zero_le _ }⟩
theorem FitB.fit {w : World} {r : MR} {tv : Value} (h : FitB r) (hr : SRow w tv r.d.L) : FitR w r tv := ⟨Nat.le_trans h.n (by unfold maxLen; decide), h.x, h.d.fit (Nat.le_refl _) hr⟩
theorem readD_fit (T : List UInt8) (a e t : Int) (hT : T.length ≤ 1099511627776) : MFit 17592186044416 (readD T a e t).2 := by
  have h0 : MFit 17592186044416 md0 := { mfit0 with tl := Nat.zero_le _ }
  unfold readD
  split
  · split
    · exact h0
    · rename_i h1
      split
      · exact h0
      · rename_i h2
        split
        · exact h0
        · split
          · exact h0
          · have hl : (T.take e.toNat).length = e.toNat := by rw [List.length_take]; omega
            obtain ⟨k1, k2⟩ := kind_ok t
            have h := rdK_fit (T := T) (R := T.take e.toNat) hT (by rw [hl]; omega) (kindK t) 0 md0 a.toNat k1 mfit0 rfl (by rw [hl]; omega)
            have hb : 0 + (kindK t).length * ((T.take e.toNat).length + 1) ≤ 17592186044416 := by
              have : (kindK t).length * ((T.take e.toNat).length + 1) ≤ 3 * (1099511627776 + 1) := Nat.mul_le_mul k2 (by omega)
              omega
            exact { h with tl := Nat.le_trans h.tl hb }
  · exact h0
theorem rdTail_fit (T : List UInt8) (q : MQ) (k : Nat) (hT : T.length ≤ 1099511627776) (hq : q.n.size ≤ 254) : FitB (rdTail T q k).r := by
  unfold rdTail
  split
  · exact fitB0
  · split
    · exact fitB0
    · split
      · exact fitB0
      · split
        · exact fitB0
        · exact ⟨hq, numR_num_lt _ _ _, readD_fit _ _ _ _ hT⟩
theorem rdR_fit (T : List UInt8) (a : Int) (hT : T.length ≤ 1099511627776) : FitB (rdR T a).r := by
  unfold rdR
  split
  · exact fitB0
  · exact rdTail_fit _ _ _ hT (rdQ_fit _ _)

/-! ### Rows that a call owns -/
section
variable {α : Type} {cs : α → List Value} {k : Nat} {t : TypeId}
/-- append of one. -/
theorem wpList_appendC2 {w : World} {ops : Array Oper} {rest : List Oper} {o : Oper} {a : Act} {Q : Exit → Act → World → Prop} (hgd : o.guard = none) (s x : Operand) (ts : TypeId)
    (ho : o.op = .call { callee := .builtin .append, args := #[s, x], argTypes := #[ts, ts] }) (hts : Tryz.prog.underlying ts = some (.slice t)) {z : Value} {by_ : Nat}
    (hinfo : (Tryz.prog.info? t).map (fun i => (i.zero, i.size, i.bytes)) = some (some z, k, by_)) (hzs : z.cells.size = k) (hk0 : 0 < k) (hby : by_ ≤ 1000) (hk : ∀ x, (cs x).length = k)
    (base : Nat) (v : Value) (D : List α) (hs : a.eval s = v) (hown : OwnC cs k t w base v D) (ad : Addr) (len cap : Nat) (Y : List α) (hone : ∀ y ∈ Y, ∀ u ∈ cs y, u.oneCell' = true) (hlen : len = Y.length) (hx : a.eval x = .slice (some ad) len cap)
    (hnews : ∀ j u, (allC cs Y)[j]? = some u → w.cell? (ad.add j) = some u) (hfew : D.length + Y.length ≤ 100000) (hbase : base ≤ w.heap.size)
    (h : ∀ v' w', OwnC cs k t w' base v' (D ++ Y) → w.grownBy w' v.ownBlock → (v'.ownBlock = v.ownBlock ∨ v'.ownBlock = some w.heap.size) → wpList Tryz.prog ops Q rest (a.put o.dst v') w') :
    wpList Tryz.prog ops Q (o :: rest) a w := by
  obtain ⟨i, hi, hz, hsz, hb⟩ := info_parts hinfo
  subst hlen
  refine wpList_append_own_at w hgd s x ts ho base t i _ k by_ hts hi hz hsz hb hzs hk0 v D.length (allC cs D) hs hown ad Y.length cap (allC cs Y) hx (allC_len hk Y) hnews (fun u hu => ?_) (by unfold maxLen; omega) ?_ hbase fun v' w' h1 h2 _ h4 => ?_
  · obtain ⟨y, hy, hu'⟩ := List.mem_flatMap.1 hu
    exact hone y hy u hu'
  · have : (D.length + Y.length) * by_ ≤ 100000 * 1000 := Nat.mul_le_mul hfew hby
    omega
  · refine h v' w' ?_ h2 h4
    unfold OwnC
    rw [List.length_append, allC_app]
    exact h1
end
/-- A row of records that the call owns, each such as Go can have. -/
structure RowR (w : World) (base : Nat) (v : Value) (X : List RV) : Prop where
  own : OwnC csR 16 32 w base v X
  fit : ∀ x ∈ X, FitR w x.1 x.2
  far : ∀ x ∈ X, ∀ j, blk x.2 = some j → v.ownBlock ≠ some j
section
variable {w w' : World} {base : Nat} {v v' : Value} {X Y : List RV}
theorem RowR.nil (w : World) (base : Nat) : RowR w base nilS [] := ⟨OwnC.none_ _ _, fun x h => (nomatch h), fun x h => (nomatch h)⟩
theorem RowR.next (h : RowR w base v X) (hb : Below w.heap.size w w') : RowR w' base v X :=
  ⟨h.own.same fun k hk => hb.block k (h.own.block hk).2.1, fun x hx => (h.fit x hx).next hb, h.far⟩
theorem FitR.grown {r : MR} {tv : Value} (h : FitR w r tv) {row : Option Nat} (hg : w.grownBy w' row) (hf : ∀ j, blk tv = some j → row ≠ some j) : FitR w' r tv :=
  ⟨h.n, h.x, { h.d with row := h.d.row.far hg.size fun j hj => hg.block j (blk_ltC h.d.row j hj) fun e => hf j hj e.symm }⟩
theorem RowR.snoc (h : RowR w base v X) (ho : OwnC csR 16 32 w' base v' (X ++ Y)) (hg : w.grownBy w' v.ownBlock) (hob : v'.ownBlock = v.ownBlock ∨ v'.ownBlock = some w.heap.size) (hy : ∀ y ∈ Y, FitR w y.1 y.2) (hf : ∀ y ∈ Y, ∀ j, blk y.2 = some j → v.ownBlock ≠ some j) : RowR w' base v' (X ++ Y) := by
  have hfit : ∀ y ∈ X ++ Y, FitR w y.1 y.2 := fun y hy' => (List.mem_append.1 hy').elim (h.fit y) (hy y)
  have hfar : ∀ y ∈ X ++ Y, ∀ j, blk y.2 = some j → v.ownBlock ≠ some j := fun y hy' => (List.mem_append.1 hy').elim (h.far y) (hf y)
  refine ⟨ho, fun y hy' => (hfit y hy').grown hg (hfar y hy'), fun y hy' j hj => ?_⟩
  rcases hob with e | e
  · rw [e]; exact hfar y hy' j hj
  · rw [e]
    intro e2
    injection e2 with e2
    have := blk_ltC (hfit y hy').d.row j hj
    omega
theorem OwnC.base_le {α : Type} {cs : α → List Value} {k b : Nat} {t : TypeId} {D : List α} (h : OwnC cs k t w base v D) (hb : b ≤ base) : OwnC cs k t w b v D :=
  ⟨h.1, h.2.imp id fun ⟨g, cap, cur, h1, h2, h3⟩ => ⟨g, cap, cur, h1, Nat.le_trans hb h2, h3⟩⟩
/-- A row of its own can be read. -/
theorem OwnC.crow {α : Type} {cs : α → List Value} {k : Nat} {t : TypeId} (hk : ∀ x, (cs x).length = k) {D : List α} (h : OwnC cs k t w base v D) : CRow cs k w v D := by
  obtain ⟨A, cap, rfl, h1, h2⟩ := h.shape
  refine ⟨A, cap, rfl, h1, h2, fun j hj => ?_⟩
  obtain ⟨g, rfl, hr⟩ := h.at hk j hj
  exact ⟨g, 0, rfl, (h.block (b := g) rfl).2.1, hr⟩
theorem OwnC.app_below {α : Type} {cs : α → List Value} {k : Nat} {t : TypeId} {D : List α} (h : OwnC cs k t w base v D) (hg : w.grownBy w' v.ownBlock) (hb : base ≤ w.heap.size) : Below base w w' :=
  (Below.refl base w).grown hg hb fun _ hk => (h.block hk).1
end
section
variable {w : World} {ops : Array Oper} {rest : List Oper} {o : Oper} {a : Act} {Q : Exit → Act → World → Prop}
theorem app_q2 (hgd : o.guard = none) (sl x : Operand) (ho : o.op = .call { callee := .builtin .append, args := #[sl, x], argTypes := #[51, 51] }) {base : Nat} {v : Value} {D : List MQ} (hs : a.eval sl = v) (hown : OwnC csQ 3 65 w base v D) (y : MQ) (c : Nat) (hx : a.eval x = .slice (some ⟨c, 0, none⟩) 1 1) (hc : Lies w c 65 (cellsQ y)) (hfew : D.length ≤ 99999) (hbase : base ≤ w.heap.size)
    (h : ∀ v' w', OwnC csQ 3 65 w' base v' (D ++ [y]) → Below base w w' → wpList Tryz.prog ops Q rest (a.put o.dst v') w') : wpList Tryz.prog ops Q (o :: rest) a w :=
  wpList_appendC2 (t := 65) hgd sl x 51 ho Tryz.underlying51 infoQb rfl (by decide) (by decide) csQ_len base v D hs hown ⟨c, 0, none⟩ 1 1 [y] (fun z hz => by rw [List.mem_singleton.1 hz]; exact csQ_one y) rfl hx (by simpa [allC] using lies_add hc) (by simp; omega) hbase fun v' w' h1 h2 _ => h v' w' h1 (hown.app_below h2 hbase)
theorem app_r3 (hgd : o.guard = none) (sl x : Operand) (ho : o.op = .call { callee := .builtin .append, args := #[sl, x], argTypes := #[52, 52] }) {base : Nat} {v : Value} {D : List RV} (hs : a.eval sl = v) (hown : RowR w base v D) (r : MR) (tv : Value) (hy : FitR w r tv) (hf : ∀ j, blk tv = some j → v.ownBlock ≠ some j) (c : Nat) (hx : a.eval x = .slice (some ⟨c, 0, none⟩) 1 1) (hc : Lies w c 32 (cellsR r tv)) (hfew : D.length ≤ 99999) (hbase : base ≤ w.heap.size)
    (h : ∀ v' w', RowR w' base v' (D ++ [(r, tv)]) → Below base w w' → wpList Tryz.prog ops Q rest (a.put o.dst v') w') : wpList Tryz.prog ops Q (o :: rest) a w :=
  wpList_appendC2 (t := 32) (cs := csR) hgd sl x 52 ho Tryz.underlying52 infoRb rfl (by decide) (by decide) csR_len base v D hs hown.own ⟨c, 0, none⟩ 1 1 [(r, tv)] (fun z hz => by rw [List.mem_singleton.1 hz]; exact csR_one hy) rfl hx (by simpa [allC] using lies_add hc) (by simp; omega) hbase fun v' w' h1 h2 h3 => h v' w' (hown.snoc h1 h2 h3 (fun z hz => by rw [List.mem_singleton.1 hz]; exact hy) (fun z hz => by rw [List.mem_singleton.1 hz]; exact hf)) (hown.own.app_below h2 hbase)
end
theorem OwnC.two {α : Type} {cs : α → List Value} {k base : Nat} {t : TypeId} {w : World} {v : Value} {D : List α} (h : OwnC cs k t w base v D) (o p : Obj) : OwnC cs k t ((w.alloc o).alloc p) base v D := h.same fun b hb => (below2 w o p).block b (h.block hb).2.1
theorem RowR.two {base : Nat} {w : World} {v : Value} {D : List RV} (h : RowR w base v D) (o p : Obj) : RowR ((w.alloc o).alloc p) base v D := h.next (below2 w o p)
theorem below_two {w w1 : World} (h : Below w.heap.size w w1) (o p : Obj) : Below w.heap.size w ((w1.alloc o).alloc p) := h.trans ((below2 w1 o p).mono h.size)
theorem nilOk0 : NilOk nilS := fun n c h => by injection h with _ _ h; exact h.symm
theorem OwnC.nilOk {α : Type} {cs : α → List Value} {k base : Nat} {t : TypeId} {w : World} {v : Value} {D : List α} (h : OwnC cs k t w base v D) : NilOk v := by
  rcases h.2 with ⟨rfl, _⟩ | ⟨g, cap, cur, rfl, _⟩
  · exact nilOk0
  · intro n c e
    injection e with e
    cases e
end Go.Proofs.YtdpgcgaalamgkaaGreat
