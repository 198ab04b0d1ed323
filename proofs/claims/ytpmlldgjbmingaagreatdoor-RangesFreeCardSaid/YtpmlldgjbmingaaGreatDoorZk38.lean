/-
  Rows of ranges: an argument opened; a row that the call owns; append of more; nameplatekit.Own. Conditions: as each theorem names them. An argument that is a slice of ranges, opened. No condition. RangesFree: plain mathematics of what is free; law05.light. Conditions: as each theorem names them.
-/
import Derived.Test.YtpmlldgjbmingaaGreatDoorZk37
import Derived.Test.YtpmlldgjbmingaaGreatDoorZk8
import Derived.Deep.MidRow
import Derived.Deep.Slices
import Derived.Maps.AppendAt
import Derived.Laws.OwnMore
import Derived.OpenShut
import Derived.Carry
import Derived.Test.YtpmlldgjbmingaaGreatDoorZk35
namespace Go.Proofs.YtpmlldgjbmingaaGreatDoor
open Go.RowKit Go.Maps Go.ChangeShapes Go.WideShapes Go.ChangeAt Go.Deep
set_option linter.unusedVariables false
set_option maxRecDepth 100000

def csG (x : Ad × Int) : List Value := [.bool x.1.1, .int .u64 (x.1.2.1 : Int), .int .u64 (x.1.2.2 : Int), .int .i64 x.2]
def allG (L : List (Ad × Int)) : List Value := L.flatMap csG
theorem allG_cons (D : List (Ad × Int)) (x : Ad × Int) : allG (x :: D) = csG x ++ allG D := by simp [allG]
theorem allG_app (D E : List (Ad × Int)) : allG (D ++ E) = allG D ++ allG E := by simp [allG]
theorem allG_len (D : List (Ad × Int)) : (allG D).length = D.length * 4 := by
  induction D with
  | nil => simp [allG]
  | cons x D ih => rw [allG_cons, List.length_append, ih, List.length_cons, Nat.succ_mul]; simp [csG]; omega
theorem allG_at (D : List (Ad × Int)) (j i : Nat) (h : j < D.length) (hi : i < 4) : (allG D)[j * 4 + i]? = (csG D[j])[i]? := by
  have e : allG D = allG (D.take j) ++ (csG D[j] ++ allG (D.drop (j + 1))) := by
    rw [← allG_cons, ← allG_app, ← List.drop_eq_getElem_cons h, List.take_append_drop]
  have hl : (allG (D.take j)).length = j * 4 := by rw [allG_len, List.length_take]; congr 1; omega
  rw [e, List.getElem?_append_right (by omega), hl, List.getElem?_append_left (by simp [csG]; omega)]
  congr 1
  omega
/-- A row of ranges that can be read, which is nil without room if it is nil. -/
structure RgRowN (w : World) (v : Value) (L : List (Ad × Int)) : Prop where
  row : RgRow w v L
  nil : ∀ n c, v = .slice none n c → c = 0
  wf : ∀ x ∈ L, (Lit.int IntKind.i64 x.2).wf = true
theorem RgRowN.next {w w' : World} {v : Value} {L : List (Ad × Int)} (h : RgRowN w v L) (hb : Below w.heap.size w w') : RgRowN w' v L := ⟨h.row.next hb, h.nil, h.wf⟩
/-- The call owns the row. -/
def OwnG (w : World) (base : Nat) (v : Value) (D : List (Ad × Int)) : Prop := w.ownsRow base 41 4 v D.length (allG D)
theorem OwnG.block {w : World} {base : Nat} {v : Value} {D : List (Ad × Int)} (h : OwnG w base v D) {b : Nat} (hb : v.ownBlock = some b) : base ≤ b ∧ b < w.heap.size := by
  rcases h.2 with ⟨rfl, _⟩ | ⟨g, cap, cur, rfl, hb', hg, _⟩
  · cases hb
  · obtain rfl : g = b := by simpa [Value.ownBlock] using hb
    refine ⟨hb', ?_⟩
    rcases Nat.lt_or_ge g w.heap.size with hlt | hge
    · exact hlt
    · rw [Array.getElem?_eq_none hge] at hg; cases hg
theorem OwnG.next {w w' : World} {base : Nat} {v : Value} {D : List (Ad × Int)} (h : OwnG w base v D) (hb : Below w.heap.size w w') : OwnG w' base v D := by
  refine ⟨h.1, h.2.imp id fun ⟨g, cap, cur, h1, h2, h3, h4⟩ => ⟨g, cap, cur, h1, h2, (hb.block g (OwnG.block (b := g) h (by rw [h1]; rfl)).2).trans h3, h4⟩⟩
theorem OwnG.base {w : World} {base b : Nat} {v : Value} {D : List (Ad × Int)} (h : OwnG w base v D) (hb : b ≤ base) : OwnG w b v D :=
  ⟨h.1, h.2.imp id fun ⟨g, cap, cur, h1, h2, h3⟩ => ⟨g, cap, cur, h1, Nat.le_trans hb h2, h3⟩⟩
theorem OwnG.row {w : World} {base : Nat} {v : Value} {D : List (Ad × Int)} (h : OwnG w base v D) (hf : ∀ x ∈ D, fitA x.1) : RgRow w v D := by
  rcases h.2 with ⟨rfl, hn⟩ | ⟨g, cap, cur, rfl, hb, hg, hnc, hcm, _⟩
  · exact ⟨⟨none, 0, by rw [hn], by rw [hn]; exact Nat.le_refl _, Nat.zero_le _, fun j hj => by omega⟩, hf⟩
  · refine ⟨⟨_, cap, rfl, hnc, hcm, fun j hj => ⟨g, 0, rfl, (OwnG.block (b := g) h rfl).2, ?_⟩⟩, hf⟩
    have at_ : ∀ i, i < 4 → w.cell? ⟨g, 0 + j * 4 + i, none⟩ = (csG D[j])[i]? := fun i hi => by
      rw [Nat.zero_add, ← allG_at D j i hj hi]
      exact World.ownsRow.cellAt h (j * 4 + i) (by omega)
    exact ⟨at_ 0 (by decide), at_ 1 (by decide), at_ 2 (by decide), at_ 3 (by decide)⟩
theorem RgRow.news {w : World} {a : Addr} {n cap : Nat} {L : List (Ad × Int)} (h : RgRow w (.slice (some a) n cap) L) : ∀ j u, (allG L)[j]? = some u → w.cell? (a.add j) = some u := by
  intro j u hu
  have hj : j < L.length * 4 := by
    have := (List.getElem?_eq_some_iff.1 hu).1
    rwa [allG_len] at this
  have hq : j / 4 < L.length := by omega
  obtain ⟨A, cap', h1, _, _, h4⟩ := h.shape
  injection h1 with h1
  subst h1
  obtain ⟨g, o, e, _, hr⟩ := h4 (j / 4) hq
  injection e with e
  subst e
  have hm := allG_at L (j / 4) (j % 4) hq (Nat.mod_lt _ (by decide))
  rw [show j / 4 * 4 + j % 4 = j by omega, hu] at hm
  rw [Addr.add_mid, show o + j = o + j / 4 * 4 + j % 4 by omega]
  have h4 : j % 4 = 0 ∨ j % 4 = 1 ∨ j % 4 = 2 ∨ j % 4 = 3 := by omega
  rcases h4 with e | e | e | e <;> rw [e] at hm ⊢ <;> simp [csG] at hm <;> rw [hm]
  · exact hr.c0
  · exact hr.c1
  · exact hr.c2
  · exact hr.c3
theorem infoRg4 : (Tryz.prog.info? 41).map (fun i => (i.zero, i.size, i.bytes)) = some (some (.agg #[.bool false, .int .u64 0, .int .u64 0, .int .i64 0]), 4, 32) := by kernel_rfl
theorem csG_one {L : List (Ad × Int)} : ∀ u ∈ allG L, u.oneCell' = true := by
  intro u hu
  obtain ⟨y, hy, hu'⟩ := List.mem_flatMap.1 hu
  simp only [csG, List.mem_cons, List.not_mem_nil, or_false] at hu'
  rcases hu' with rfl | rfl | rfl | rfl <;> rfl
theorem run_appG {w : World} {base : Nat} {v sv : Value} {X Y : List (Ad × Int)} (hown : OwnG w base v X) (ty : TypeId) (hr : RgRowN w sv Y) (hfew : X.length + Y.length ≤ 100000) (hbase : base ≤ w.heap.size) :
    ∃ v' w', (Builtin.append_ #[53, 53] ty #[v, sv]).run Tryz.prog w = .ok v' w' ∧ OwnG w' base v' (X ++ Y) ∧ Below base w w' := by
  obtain ⟨i, hi, hz, hsz, hb⟩ := info_parts infoRg4
  obtain ⟨A, cap, rfl, hl, hc, _⟩ := hr.row.shape
  cases A with
  | none =>
    have hc0 := hr.nil _ _ rfl
    subst hc0
    have hY0 : Y = [] := List.eq_nil_of_length_eq_zero (Nat.le_zero.1 hl)
    subst hY0
    refine ⟨v, w, run_append_owned_none (P := Tryz.prog) w base 53 ty 41 i 4 Tryz.underlying53 hi v X.length (allG X) hown, ?_, Below.refl _ _⟩
    rw [List.append_nil]
    exact hown
  | some a =>
    obtain ⟨v', w', h1, h2, h3, _, h5⟩ := run_append_own_at (P := Tryz.prog) w base 53 ty 41 i _ 4 32 Tryz.underlying53 hi hz hsz hb rfl (by decide) v X.length (allG X) hown a Y.length cap (allG Y) (allG_len Y) hr.row.news csG_one (by unfold maxLen; omega) (by omega) hbase
    refine ⟨v', w', h1, ?_, (Below.refl base w).grown h3 hbase fun _ hk => (OwnG.block hown hk).1⟩
    unfold OwnG
    rw [List.length_append, allG_app]
    exact h2
section
variable {w : World} {ops : Array Oper} {rest : List Oper} {o : Oper} {a : Act} {Q : Exit → Act → World → Prop}
theorem wpList_appG (hgd : o.guard = none) (s x : Operand) (ho : o.op = .call { callee := .builtin .append, args := #[s, x], argTypes := #[53, 53] }) {base : Nat} {v sv : Value} {X Y : List (Ad × Int)} (hs : a.eval s = v) (hx : a.eval x = sv) (hown : OwnG w base v X) (hr : RgRowN w sv Y) (hfew : X.length + Y.length ≤ 100000) (hbase : base ≤ w.heap.size)
    (h : ∀ v' w', OwnG w' base v' (X ++ Y) → Below base w w' → wpList Tryz.prog ops Q rest (a.put o.dst v') w') : wpList Tryz.prog ops Q (o :: rest) a w := by
  refine wpList_plain hgd fun K hK => ?_
  obtain ⟨v', w', h1, h2, h3⟩ := run_appG hown o.type hr hfew hbase
  unfold Oper.wp execOp
  simp only [ho, resolve, invoke, builtin, Sem.run_bind, Sem.run_pure, Result.andThen_ok, List.map_toArray, List.map_cons, List.map_nil, hs, hx, h1]
  exact hK _ _ (h v' w' h2 h3)
end
set_option maxHeartbeats 1000000 in
theorem ownRg_any (sv : Value) (L : List (Ad × Int)) (w : World) (hr : RgRowN w sv L) (hfew : L.length ≤ 100000) :
    Calls Tryz.prog 46 #[sv] w fun e w' => ∃ v, e = .returned v ∧ OwnG w' w.heap.size v L ∧ Below w.heap.size w w' := by
  have h0 : OwnG (w.alloc (.cells #[] 41)) w.heap.size (.slice (some ⟨w.heap.size, 0, none⟩) 0 0) [] :=
    ⟨rfl, .inr ⟨w.heap.size, 0, #[], rfl, Nat.le_refl _, Lies.new _ _ _, Nat.le_refl _, Nat.zero_le _, rfl, rfl⟩⟩
  have hB : Below w.heap.size w (w.alloc (.cells #[] 41)) := (Below.refl _ _).alloc (Nat.le_refl _) _
  have H0 := Lib.hid h0
  have HB := Lib.hid hB
  have HR := Lib.hid (hr.next hB)
  have HFew : Hid (([] : List (Ad × Int)).length + L.length ≤ 100000) := Lib.hid (by simpa using hfew)
  clear h0 hB hr hfew
  go_enter Tryz.func46, Tryz.ntmps46
  go_wp2_with (at_builtin; refine wpList_appG rfl (.tmp 3) (.tmp 4) rfl rfl rfl H0.out HR.out HFew.out HB.out.size ?_; intro v5 w5 h5 hb5; have HO5 := Lib.hid h5; have HB5 := Lib.hid (HB.out.trans hb5); clear h5 hb5)
  go_ret
  exact ⟨v5, rfl, HO5.out, HB5.out⟩
end Go.Proofs.YtpmlldgjbmingaaGreatDoor
namespace Go.Proofs.YtpmlldgjbmingaaGreatDoor
open Go.RowKit Go.Maps Go.ChangeShapes Go.WideShapes Go.ChangeAt Go.Deep
set_option linter.unusedVariables false
set_option maxRecDepth 100000
section
variable {H : Type} {enc : TypeId × Value → H} {W : World} {base b0 : Nat} {spare : Nat → Bool} {held : Bool} {v : Value} {d : DataW H} {p : List MemPlace}
theorem range_cells {n0 : Nat} {a : Addr} {cs : List Value} {x : DataW H × List MemPlace} (hc : W.cells? b0 a 4 = some cs) (hf : DataW.trod enc Tryz.prog W b0 spare held n0 41 cs = some x) :
    ∃ y : Ad × Int, (fitA y.1 ∧ (Lit.int IntKind.i64 y.2).wf = true) ∧ ∀ j : Nat, j < 4 → W.cell? (a.add j) = (csG y)[j]? := by
  obtain ⟨_, hsz, hcell⟩ := World.cells?_some hc
  have u0 : Tryz.prog.cellsOf 24 = 3 := by kernel_rfl
  have u1 : Tryz.prog.cellsOf 22 = 1 := by kernel_rfl
  have u2 : Tryz.prog.cellsOf 4 = 1 := by kernel_rfl
  have u3 : Tryz.prog.cellsOf 3 = 1 := by kernel_rfl
  obtain ⟨c0, c1, c2, c3, rfl⟩ := listR4 (l := cs) hsz
  obtain ⟨xs, n, _, hx, hl, hlen, hfl⟩ := DataW.trod_struct Tryz.underlying41 hf
  obtain ⟨x0, x1, rfl⟩ := listR2 (l := xs) hlen
  have g0 : DataW.trod enc Tryz.prog W b0 spare held n 24 [c0, c1, c2] = some x0 := by simpa [u0] using hfl 0 _ rfl
  have g3 : DataW.trod enc Tryz.prog W b0 spare held n 3 [c3] = some x1 := by simpa [u3] using hfl 1 _ rfl
  obtain ⟨ys, m, _, _, _, hlen2, hfl2⟩ := DataW.trod_struct Tryz.underlying24 g0
  obtain ⟨y0, y1, y2, rfl⟩ := listR3 (l := ys) hlen2
  have k0 : DataW.trod enc Tryz.prog W b0 spare held m 4 [c0] = some y0 := by simpa [u2] using hfl2 0 _ rfl
  have k1 : DataW.trod enc Tryz.prog W b0 spare held m 22 [c1] = some y1 := by simpa [u1] using hfl2 1 _ rfl
  have k2 : DataW.trod enc Tryz.prog W b0 spare held m 22 [c2] = some y2 := by simpa [u1] using hfl2 2 _ rfl
  obtain ⟨s, e0, _⟩ := DataW.trod_bool Tryz.underlying4 k0
  obtain ⟨z1, e1, _, w1⟩ := DataW.trod_int Tryz.underlying22 k1
  obtain ⟨z2, e2, _, w2⟩ := DataW.trod_int Tryz.underlying22 k2
  obtain ⟨z3, e3, _, w3⟩ := DataW.trod_int Tryz.underlying3 g3
  simp only [List.cons.injEq, and_true] at e0 e1 e2 e3
  subst e0 e1 e2 e3
  have r1 := u64_range w1
  have r2 := u64_range w2
  obtain ⟨hi, rfl⟩ : ∃ n : Nat, z1 = n := ⟨z1.toNat, by omega⟩
  obtain ⟨lo, rfl⟩ : ∃ n : Nat, z2 = n := ⟨z2.toNat, by omega⟩
  refine ⟨((s, hi, lo), z3), ⟨⟨show hi < 18446744073709551616 by omega, show lo < 18446744073709551616 by omega⟩, w3⟩, fun j hj => ?_⟩
  rw [hcell j hj]
  rfl
theorem open_ranges (hv : Value.okWide Tryz.prog W .any base 53 v) (h : DataW.Trod enc Tryz.prog W b0 spare held 53 v d p) : ∃ L, RgRowN W v L := by
  obtain ⟨s0, len, cap, rfl⟩ := okWide_slice Tryz.underlying53 hv
  obtain ⟨fuel, hf⟩ := h
  rcases open_slice Tryz.underlying53 hf with ⟨hcs, _⟩ | ⟨a, len', cap', m, n, D, Pl, hcs, _, hl, hm, hmm, _, hi⟩
  · simp [Value.cells] at hcs
    obtain ⟨rfl, rfl, rfl⟩ := hcs
    exact ⟨[], ⟨⟨none, 0, rfl, Nat.le_refl _, Nat.zero_le _, fun j h => by simp at h⟩, fun x h => by cases h⟩, fun n c e => by injection e with _ _ e; exact e.symm, fun x h => by cases h⟩
  · simp [Value.cells] at hcs
    obtain ⟨rfl, rfl, rfl⟩ := hcs
    have hlm : len ≤ m := by rw [hmm]; split <;> omega
    have hx : ∀ i, i < len → ∃ y : Ad × Int, (fitA y.1 ∧ (Lit.int IntKind.i64 y.2).wf = true) ∧ ∀ j : Nat, j < 4 → W.cell? ((a.add (i * 4)).add j) = (csG y)[j]? := by
      intro i hil
      obtain ⟨cs, hc, ht⟩ := hi i (by omega)
      rw [show Tryz.prog.cellsOf 41 = 4 by kernel_rfl] at hc
      exact range_cells hc ht
    have hchoose := fun i (h : i < len) => Classical.choose_spec (hx i h)
    refine ⟨List.ofFn fun i : Fin len => Classical.choose (hx i.1 i.2), ⟨⟨some a, cap, by rw [List.length_ofFn], by rw [List.length_ofFn]; exact hl, hm, fun j hj => ?_⟩, fun x hxm => ?_⟩, fun n c e => (by injection e with e; cases e), fun x hxm => ?_⟩
    · rw [List.length_ofFn] at hj
      have hc := (hchoose j hj).2
      rw [List.getElem_ofFn]
      generalize Classical.choose (hx j hj) = y at hc ⊢
      have c0 := hc 0 (by decide)
      have c1 := hc 1 (by decide)
      have c2 := hc 2 (by decide)
      have c3 := hc 3 (by decide)
      have c00 := (hchoose 0 (by omega)).2 0 (by decide)
      obtain ⟨b, off, spot⟩ := a
      have hspot : spot = none := by simpa [Addr.add, csG] using World.cell?_spot c00
      clear c00
      subst hspot
      rw [Addr.add_mid, Addr.add_mid] at c0 c1 c2 c3
      exact ⟨b, off, rfl, World.block_lt_of_cell? W _ c0, c0, c1, c2, c3⟩
    · obtain ⟨i, rfl⟩ := List.mem_ofFn.1 hxm
      exact (hchoose i.1 i.2).1.1
    · obtain ⟨i, rfl⟩ := List.mem_ofFn.1 hxm
      exact (hchoose i.1 i.2).1.2
end
end Go.Proofs.YtpmlldgjbmingaaGreatDoor
namespace Go.Proofs.YtpmlldgjbmingaaGreatDoor
open Go.RowKit
set_option linter.unusedVariables false

def okP (r : Ad) (L : List (Ad × Int)) (j : Nat) : Bool := L.all fun o => !hasR o.1 o.2 (plR r j)
/-- How many of the first k places none has. -/
def cnP (r : Ad) (L : List (Ad × Int)) (k : Nat) : Nat := ((List.range k).filter (okP r L)).length
theorem cnP_succ (r : Ad) (L : List (Ad × Int)) (k : Nat) : cnP r L (k + 1) = cnP r L k + (if okP r L k = true then 1 else 0) := by
  unfold cnP
  rw [List.range_succ, List.filter_append, List.length_append]
  congr 1
  by_cases h : okP r L k = true
  · rw [if_pos h]; simp [h]
  · rw [if_neg h]; simp [h]
theorem cnP_le (r : Ad) (L : List (Ad × Int)) (k : Nat) : cnP r L k ≤ k := by
  unfold cnP
  exact Nat.le_trans (List.length_filter_le _ _) (by simp)
theorem free_cnP (r : Ad) (b : Int) (L : List (Ad × Int)) : freeR r b L = cnP r L (sizeR r b) := rfl
theorem size_chk {r : Ad} {b : Int} {j : Nat} (hj : j < sizeR r b) : chkR r b = 0 := by
  by_cases h : chkR r b = 0
  · exact h
  · have : sizeR r b = 0 := if_neg h
    omega
theorem at_pl {r : Ad} {b : Int} (hf : fitA r) {j : Nat} (hj : j < sizeR r b) : atR r b (j : Int) = (plR r j, true) := by
  have hr := size_chk hj
  obtain ⟨_, b', rfl, _, _⟩ := chkR_yes hr
  unfold atR
  rw [if_neg (by omega), Int.toNat_natCast, (place hf hr hj).1]
  rfl
theorem pl_fit {r : Ad} {b : Int} (hf : fitA r) {j : Nat} (hj : j < sizeR r b) : fitA (plR r j) := by
  have h := addA_fit r j
  have hr := size_chk hj
  obtain ⟨_, b', rfl, _, _⟩ := chkR_yes hr
  rw [(place hf hr hj).1] at h
  exact h
theorem free_more {r : Ad} {b : Int} (L : List (Ad × Int)) (x : Ad × Int) : freeR r b (L ++ [x]) ≤ freeR r b L := by
  unfold freeR
  rw [← List.countP_eq_length_filter, ← List.countP_eq_length_filter]
  refine List.countP_mono_left fun j hj h => ?_
  rw [List.all_append, Bool.and_eq_true] at h
  exact h.1
theorem free_same {r : Ad} {b : Int} (hf : fitA r) (L : List (Ad × Int)) {x : Ad × Int} (hx : fitA x.1) (hm : meetR r b x.1 x.2 = false) : freeR r b (L ++ [x]) = freeR r b L := by
  unfold freeR
  congr 1
  apply List.filter_congr
  intro j hj
  have hj' := List.mem_range.1 hj
  rw [List.all_append]
  have : hasR x.1 x.2 (plR r j) = false := by
    rw [Bool.eq_false_iff]
    intro h
    have := ((has_nar hf hx (size_chk hj') hj').1 h).1
    rw [hm] at this
    cases this
  simp [this]
theorem free_nil (r : Ad) (b : Int) : freeR r b [] = sizeR r b := by
  unfold freeR
  rw [List.filter_eq_self.2 (by simp)]
  simp
theorem free_self {r : Ad} {b : Int} (hf : fitA r) : freeR r b [(r, b)] = 0 := by
  unfold freeR
  rw [List.filter_eq_nil_iff.2 ?_]
  · rfl
  · intro j hj
    have hj' := List.mem_range.1 hj
    have hr := size_chk hj'
    obtain ⟨_, b', rfl, _, _⟩ := chkR_yes hr
    obtain ⟨_, _, h3, h4, _⟩ := place hf hr hj'
    have : hasR r b' (plR r j) = true := (hasR_iff hr).2 ⟨h3, h4⟩
    simp [this]
theorem light_any (six : Bool) (hi lo : Nat) (n : Int) (z : Nat) (hf : fitA (six, hi, lo)) (hz : sizeR (six, hi, lo) n = z) : GG 45 #[.agg #[.bool six, .int .u64 (hi : Int), .int .u64 (lo : Int), .int .i64 n]] (.bool (decide (z ≤ 300))) := fun w hG => by
  have GS := Lib.hid (gSr hf hz)
  have HG := Lib.hid (fun wx (hb : Below w.heap.size w wx) => hG.next hb)
  have HS := Lib.hid ((Bx.start w).more 41 #[.bool six, .int .u64 (hi : Int), .int .u64 (lo : Int), .int .i64 n])
  have hd : decide ((z : Int) ≤ 300) = decide (z ≤ 300) := by rw [Bool.eq_iff_iff, decide_eq_true_iff, decide_eq_true_iff]; omega
  have HD := Lib.hid hd
  clear hd
  go_enter Tryz.func45, Tryz.ntmps45
  go_wp2_with (go_at_call 32; (with_reducible refine (GS.out.go _ (HG.out _ HS.out.bel)).mono ?_); rintro e w1 ⟨rfl, hb⟩; replace HS := Lib.hid (HS.out.next hb); clear hb)
  go_ret
  exact ⟨by rw [← HD.out]; rfl, HS.out.bel⟩
end Go.Proofs.YtpmlldgjbmingaaGreatDoor
