/-
  The document's own Same (layer 9), of data that are alike. Conditions: Go can have them. The document's own Read of data (layer 9), where it goes well. Conditions: as each theorem names them. What stands in a record's octets, by how they are read: the name and its nought, type, class, TTL, length, data; numbers by another fold: plain mathematics. Conditions as each theorem names them. The document's own Read of data (layer 9) answers what was put, by what the program's own read answers. Conditions as each theorem names them.
-/
import Derived.Test.YtodedbokeodmkaaGreatZk48
import Derived.Test.YtodedbokeodmkaaGreatZk47
import Derived.Deep.AppendLies
import Derived.Deep.RegionLaw
import Derived.Lib.OwnKind
import Derived.Test.YtodedbokeodmkaaGreatZk46
import Derived.Test.YtodedbokeodmkaaGreatZk35
namespace Go.Proofs.YtodedbokeodmkaaGreat
open Go.RowKit Go.Maps
set_option linter.unusedVariables false
set_option maxRecDepth 100000

theorem liesD12 {w : World} {b : Nat} {t : TypeId} {d : MD} {tv : Value} (h : Lies w b t (cellsD d tv)) : w.cell? ⟨b, 0, none⟩ = some (.bool d.six) ∧ w.cell? ⟨b, 1, none⟩ = some (.int .u64 (d.hi : Int)) ∧ w.cell? ⟨b, 2, none⟩ = some (.int .u64 (d.lo : Int)) ∧ w.cell? ⟨b, 3, none⟩ = some (.string d.n) ∧ w.cell? ⟨b, 4, none⟩ = some (.string d.m) ∧ w.cell? ⟨b, 5, none⟩ = some (.int .u32 (d.v0 : Int)) ∧ w.cell? ⟨b, 6, none⟩ = some (.int .u32 (d.v1 : Int)) ∧ w.cell? ⟨b, 7, none⟩ = some (.int .u32 (d.v2 : Int)) ∧ w.cell? ⟨b, 8, none⟩ = some (.int .u32 (d.v3 : Int)) ∧ w.cell? ⟨b, 9, none⟩ = some (.int .u32 (d.v4 : Int)) ∧ w.cell? ⟨b, 10, none⟩ = some tv ∧ w.cell? ⟨b, 11, none⟩ = some (.string d.r) :=
  ⟨h.cell 0, h.cell 1, h.cell 2, h.cell 3, h.cell 4, h.cell 5, h.cell 6, h.cell 7, h.cell 8, h.cell 9, h.cell 10, h.cell 11⟩
set_option maxHeartbeats 4000000 in
theorem refSame_eq (a : MD) (ta tb : Value) (w : World) (fa : Fit w a ta) (fb : Fit w a tb) : Calls Tryz.prog 14 #[dataV a ta, dataV a tb] w (Told w (.bool true)) := by
  obtain ⟨A, ca, hta, hc1, hc1'⟩ := fa.row.shape
  obtain ⟨B, cb, htb, hc2, hc2'⟩ := fb.row.shape
  subst hta htb
  have hB : Below w.heap.size w ((w.alloc (.cells (cellsD a (.slice A a.L.length ca)) 30)).alloc (.cells (cellsD a (.slice B a.L.length cb)) 30)) := ((Below.refl _ _).alloc (Nat.le_refl _) _).alloc (by simp) _
  have hl1 : Lies ((w.alloc (.cells (cellsD a (.slice A a.L.length ca)) 30)).alloc (.cells (cellsD a (.slice B a.L.length cb)) 30)) w.heap.size 30 (cellsD a (.slice A a.L.length ca)) := (Lies.new w _ _).alloc _
  have hl2 : Lies ((w.alloc (.cells (cellsD a (.slice A a.L.length ca)) 30)).alloc (.cells (cellsD a (.slice B a.L.length cb)) 30)) (w.heap.size + 1) 30 (cellsD a (.slice B a.L.length cb)) := by
    have := Lies.new (w.alloc (.cells (cellsD a (.slice A a.L.length ca)) 30)) 30 (cellsD a (.slice B a.L.length cb))
    rwa [show (w.alloc (.cells (cellsD a (.slice A a.L.length ca)) 30)).heap.size = w.heap.size + 1 by simp] at this
  obtain ⟨W, hW⟩ : ∃ W, W = (w.alloc (.cells (cellsD a (.slice A a.L.length ca)) 30)).alloc (.cells (cellsD a (.slice B a.L.length cb)) 30) := ⟨_, rfl⟩
  rw [← hW] at hB hl1 hl2
  have HB := Lib.hid hB
  have H1 := Lib.hid hl1
  have H2 := Lib.hid hl2
  have HF1 := Lib.hid (fa.row.next hB)
  have HF2 := Lib.hid (fb.row.next hB)
  have HA : Hid (∀ wx, (Op.equalIn 10000 26 (.agg #[.bool a.six, .int .u64 (a.hi : Int), .int .u64 (a.lo : Int)]) (.agg #[.bool a.six, .int .u64 (a.hi : Int), .int .u64 (a.lo : Int)])).run Tryz.prog wx = .ok true wx) := Lib.hid fun wx => by have := ad_eql a.six a.hi a.lo a.six a.hi a.lo wx; simpa using this
  have HV : Hid (∀ wx, (Op.equalIn 10000 27 (.agg #[.int .u32 (a.v0 : Int), .int .u32 (a.v1 : Int), .int .u32 (a.v2 : Int), .int .u32 (a.v3 : Int), .int .u32 (a.v4 : Int)]) (.agg #[.int .u32 (a.v0 : Int), .int .u32 (a.v1 : Int), .int .u32 (a.v2 : Int), .int .u32 (a.v3 : Int), .int .u32 (a.v4 : Int)])).run Tryz.prog wx = .ok true wx) := Lib.hid fun wx => by have := ns_eql a.v0 a.v1 a.v2 a.v3 a.v4 a.v0 a.v1 a.v2 a.v3 a.v4 wx; unfold nsV at this; simpa using this
  have hn1 : (a.n.toList == a.n.toList) = true := by simp
  have hn2 : (a.m.toList == a.m.toList) = true := by simp
  have hn3 : (a.r.toList == a.r.toList) = true := by simp
  have hnn : ((a.L.length : Int) != (a.L.length : Int)) = false := by rw [bne_eq_false_iff_eq]
  have hsz : w.heap.size + 1 < W.heap.size := hl2.lt
  have tl := fa.tl
  unfold maxLen at hc1' hc2'
  clear hB hl1 hl2 fa fb
  unfold dataV cellsD at *
  go_enter Tryz.func14, Tryz.ntmps14
  go_upto_region 1 with (fail)
  try rw [← hW]
  clear hW
  obtain ⟨x0, x1, x2, x3, x4, x5, x6, x7, x8, x9, x10, x11⟩ := liesD12 (d := a) H1.out
  obtain ⟨y0, y1, y2, y3, y4, y5, y6, y7, y8, y9, y10, y11⟩ := liesD12 (d := a) H2.out
  have ha := HA.out W
  have hv := HV.out W
  go_wp2
  clear x0 x1 x2 x3 x4 x5 x6 x7 x8 x9 x10 x11 y0 y1 y2 y3 y4 y5 y6 y7 y8 y9 y10 y11 ha hv hn1 hn2 hn3 hnn HA HV
  go_loopw [5] (fun i wr => ∃ k m : Nat, i = .int .i64 k ∧ k ≤ a.L.length ∧ wr = W.drewN m) (fun i _ => a.L.length - (intOf i).toNat)
  case atStart => exact ⟨0, 0, rfl, Nat.zero_le _, rfl⟩
  case round =>
    obtain ⟨k, m, rfl, hk, rfl⟩ := hrel
    have x10 : ∀ q, (W.drewN q).cell? ⟨w.heap.size, 10, none⟩ = some (.slice A a.L.length ca) := fun q => (H1.out.drewN q).cell 10
    have y10 : ∀ q, (W.drewN q).cell? ⟨w.heap.size + 1, 10, none⟩ = some (.slice B a.L.length cb) := fun q => (H2.out.drewN q).cell 10
    have x10' := x10 m
    by_cases hlt : k < a.L.length
    · have gA : ∃ g o, A = some ⟨g, o, none⟩ ∧ ∀ q, (W.drewN q).cell? ⟨g, o + k, none⟩ = some (.string a.L[k]) := by
        rcases HF1.out with ⟨_, _, e2⟩ | ⟨g1, off1, cp1, e1, _, _, _, e3⟩
        · rw [e2] at hlt
          simp at hlt
        · injection e1 with e1 _ _
          exact ⟨g1, off1, e1, fun q => by rw [← e3 k hlt]; exact (below_draws (Below.refl W.heap.size W) q).cell (p := ⟨g1, off1 + k, none⟩) (by assumption)⟩
      have gB : ∃ g o, B = some ⟨g, o, none⟩ ∧ ∀ q, (W.drewN q).cell? ⟨g, o + k, none⟩ = some (.string a.L[k]) := by
        rcases HF2.out with ⟨_, _, e2⟩ | ⟨g1, off1, cp1, e1, _, _, _, e3⟩
        · rw [e2] at hlt
          simp at hlt
        · injection e1 with e1 _ _
          exact ⟨g1, off1, e1, fun q => by rw [← e3 k hlt]; exact (below_draws (Below.refl W.heap.size W) q).cell (p := ⟨g1, off1 + k, none⟩) (by assumption)⟩
      obtain ⟨g1, o1, rfl, c1⟩ := gA
      obtain ⟨g2, o2, rfl, c2⟩ := gB
      have hb1 : (a.L[k].toList == a.L[k].toList) = true := by simp
      have i1 : (0 : Int) ≤ (k : Int) := by omega
      have i2 : (k : Int) < (a.L.length : Int) := by omega
      go_wp2
      go_quiet (fail)
      go_wp2
      go_roundw
      case rel => exact ⟨k + 1, _, by go_num, by omega, rfl⟩
      case measure => simp [intOf]; omega
    · obtain rfl : k = a.L.length := by omega
      go_wp2
      go_ret
      exact ⟨rfl, below_draws HB.out _⟩
end Go.Proofs.YtodedbokeodmkaaGreat
namespace Go.Proofs.YtodedbokeodmkaaGreat
open Go.RowKit
set_option linter.unusedVariables false
set_option linter.unusedSimpArgs false
set_option maxRecDepth 100000

abbrev zD : Array Value := #[.bool false, .int .u64 0, .int .u64 0, .string ⟨#[]⟩, .string ⟨#[]⟩, .int .u32 0, .int .u32 0, .int .u32 0, .int .u32 0, .int .u32 0, .slice none 0 0, .string ⟨#[]⟩]
/-- The blocks of a read: what is handed back, the cursor, what the type has, the data so far. -/
structure RdS (w0 W : World) (R C H D : Nat) (S : ByteArray) (a z : Nat) (hs cs : Array Value) : Prop where
  bel : Below w0.heap.size w0 W
  r : Lies W R 30 zD
  c : Lies W C 91 (cursC S a z)
  h : Lies W H 93 hs
  d : Lies W D 30 cs
  o : w0.heap.size ≤ R ∧ R < C ∧ C < H ∧ H < D
theorem two_box (w : World) (o : Obj) (t : TypeId) (cs : Array Value) : Lies ((w.alloc o).alloc (.cells cs t)) (w.heap.size + 1) t cs := by
  have h := Lies.new (w.alloc o) t cs
  rwa [show (w.alloc o).heap.size = w.heap.size + 1 by simp] at h
section
variable {w0 W W' : World} {R C H D : Nat} {S : ByteArray} {a a' z : Nat} {hs cs cs' : Array Value}
theorem RdS.call (k : RdS w0 W R C H D S a z hs cs) (hl : Lies W' C 91 (cursC S a' z)) (hg : W.grownBy W' (some C)) : RdS w0 W' R C H D S a' z hs cs := by
  have h0 := k.o
  exact ⟨k.bel.grown hg k.bel.size (fun j e => by injection e with e; omega), k.r.grown hg (fun e => by injection e with e; omega), hl, k.h.grown hg (fun e => by injection e with e; omega), k.d.grown hg (fun e => by injection e with e; omega), k.o⟩
theorem RdS.next (k : RdS w0 W R C H D S a z hs cs) (hb : Below W.heap.size W W') : RdS w0 W' R C H D S a z hs cs :=
  ⟨k.bel.trans (hb.mono k.bel.size), k.r.next hb, k.c.next hb, k.h.next hb, k.d.next hb, k.o⟩
theorem RdS.put (k : RdS w0 W R C H D S a z hs cs) (i : Nat) (v : Value) (e : cs.setIfInBounds i v = cs') : RdS w0 (W.setCell ⟨D, i, none⟩ v) R C H D S a z hs cs' := by
  have h0 := k.o
  subst e
  have hg := grown_set (base := 0) W D i v
  exact ⟨k.bel.grown hg k.bel.size (fun j e => by injection e with e; omega), k.r.grown hg (fun e => by injection e with e; omega), k.c.grown hg (fun e => by injection e with e; omega), k.h.grown hg (fun e => by injection e with e; omega), k.d.set i v, k.o⟩
theorem RdS.facts (k : RdS w0 W R C H D S a z hs cs) : W.cell? ⟨C, 1, none⟩ = some (.int .i64 (a : Int)) ∧ W.cell? ⟨C, 3, none⟩ = some (.int .i64 0) ∧ ∀ j, W.frozen? ⟨D, j, none⟩ = false := ⟨k.c.cell 1, k.c.cell 3, fun j => k.d.free j⟩
end
theorem wpList_load1d {ops : Array Oper} {rest : List Oper} {o : Oper} {a : Act} {w : World} {Q : Exit → Act → World → Prop} (hw : Region.wanted o (yielded ops a.tmps) = true) (t : TypeId) (x : Operand) (ho : o.op = .load t x) (p V : Value) (hx : a.eval x = p) (hb : (Instr.loadAt t p).run Tryz.prog w = .ok V w)
    (h : wpList Tryz.prog ops Q rest (a.put o.dst V) w) : wpList Tryz.prog ops Q (o :: rest) a w := by
  refine BigFrame.wpList_want hw fun K hK => ?_
  unfold Oper.wp execOp
  simp only [ho, hx, Sem.run_bind, Sem.run_pure, hb, Result.andThen_ok]
  exact hK _ _ h
theorem wpList_store1d {ops : Array Oper} {rest : List Oper} {o : Oper} {a : Act} {w w' : World} {Q : Exit → Act → World → Prop} (hgd : o.guard = none) (t : TypeId) (x y : Operand) (ho : o.op = .store t x y) (p V : Value) (hx : a.eval x = p) (hy : a.eval y = V) (hb : (Instr.storeAt t p V).run Tryz.prog w = .ok () w')
    (h : wpList Tryz.prog ops Q rest (a.put o.dst undef) w') : wpList Tryz.prog ops Q (o :: rest) a w := by
  refine wpList_plain hgd fun K hK => ?_
  unfold Oper.wp execOp
  simp only [ho, hx, hy, Sem.run_bind, Sem.run_pure, hb, Result.andThen_ok]
  exact hK _ _ h
abbrev dCs (s : Bool) (x1 x2 : Int) (n m : ByteArray) (y0 y1 y2 y3 y4 : Int) (tv : Value) (r : ByteArray) : Array Value := #[.bool s, .int .u64 x1, .int .u64 x2, .string n, .string m, .int .u32 y0, .int .u32 y1, .int .u32 y2, .int .u32 y3, .int .u32 y4, tv, .string r]
theorem load_dw {w : World} {g : Nat} {s : Bool} {x1 x2 : Int} {n m : ByteArray} {y0 y1 y2 y3 y4 : Int} {tv : Value} {r : ByteArray} (l : Lies w g 30 (dCs s x1 x2 n m y0 y1 y2 y3 y4 tv r)) : (Instr.loadAt 30 (.pointer (some ⟨g, 0, none⟩))).run Tryz.prog w = .ok (.agg (dCs s x1 x2 n m y0 y1 y2 y3 y4 tv r)) w :=
  run_loadAt_mid w g 0 30 (dCs s x1 x2 n m y0 y1 y2 y3 y4 tv r).toList _ (fun i v hv => by rw [Nat.zero_add, l.cell, ← Array.getElem?_toList]; exact hv) Tryz.underlying30 rfl (by kernel_rfl)
set_option maxHeartbeats 2000000 in
theorem store_dr {w : World} {g : Nat} (l : Lies w g 30 zD) (s : Bool) (x1 x2 : Int) (n m : ByteArray) (y0 y1 y2 y3 y4 : Int) (A : Option Addr) (k c : Nat) (r : ByteArray) : (Instr.storeAt 30 (.pointer (some ⟨g, 0, none⟩)) (.agg (dCs s x1 x2 n m y0 y1 y2 y3 y4 (.slice A k c) r))).run Tryz.prog w = .ok () ((((((((((((w.setCell ⟨g, 0, none⟩ (.bool s)).setCell ⟨g, 1, none⟩ (.int .u64 x1)).setCell ⟨g, 2, none⟩ (.int .u64 x2)).setCell ⟨g, 3, none⟩ (.string n)).setCell ⟨g, 4, none⟩ (.string m)).setCell ⟨g, 5, none⟩ (.int .u32 y0)).setCell ⟨g, 6, none⟩ (.int .u32 y1)).setCell ⟨g, 7, none⟩ (.int .u32 y2)).setCell ⟨g, 8, none⟩ (.int .u32 y3)).setCell ⟨g, 9, none⟩ (.int .u32 y4)).setCell ⟨g, 10, none⟩ (.slice A k c)).setCell ⟨g, 11, none⟩ (.string r)) := by
  have c0 : w.cell? ⟨g, 0, none⟩ = some (.bool false) := l.cell 0
  have c1 : w.cell? ⟨g, 1, none⟩ = some (.int .u64 0) := l.cell 1
  have c2 : w.cell? ⟨g, 2, none⟩ = some (.int .u64 0) := l.cell 2
  have c3 : w.cell? ⟨g, 3, none⟩ = some (.string ⟨#[]⟩) := l.cell 3
  have c4 : w.cell? ⟨g, 4, none⟩ = some (.string ⟨#[]⟩) := l.cell 4
  have c5 : w.cell? ⟨g, 5, none⟩ = some (.int .u32 0) := l.cell 5
  have c6 : w.cell? ⟨g, 6, none⟩ = some (.int .u32 0) := l.cell 6
  have c7 : w.cell? ⟨g, 7, none⟩ = some (.int .u32 0) := l.cell 7
  have c8 : w.cell? ⟨g, 8, none⟩ = some (.int .u32 0) := l.cell 8
  have c9 : w.cell? ⟨g, 9, none⟩ = some (.int .u32 0) := l.cell 9
  have c10 : w.cell? ⟨g, 10, none⟩ = some (.slice none 0 0) := l.cell 10
  have c11 : w.cell? ⟨g, 11, none⟩ = some (.string ⟨#[]⟩) := l.cell 11
  have f := fun j => l.free j
  clear l
  unfold dCs
  go_simp
theorem store_dl {w : World} {g : Nat} (l : Lies w g 30 zD) (s : Bool) (x1 x2 : Int) (n m : ByteArray) (y0 y1 y2 y3 y4 : Int) (A : Option Addr) (k c : Nat) (r : ByteArray) : Lies ((((((((((((w.setCell ⟨g, 0, none⟩ (.bool s)).setCell ⟨g, 1, none⟩ (.int .u64 x1)).setCell ⟨g, 2, none⟩ (.int .u64 x2)).setCell ⟨g, 3, none⟩ (.string n)).setCell ⟨g, 4, none⟩ (.string m)).setCell ⟨g, 5, none⟩ (.int .u32 y0)).setCell ⟨g, 6, none⟩ (.int .u32 y1)).setCell ⟨g, 7, none⟩ (.int .u32 y2)).setCell ⟨g, 8, none⟩ (.int .u32 y3)).setCell ⟨g, 9, none⟩ (.int .u32 y4)).setCell ⟨g, 10, none⟩ (.slice A k c)).setCell ⟨g, 11, none⟩ (.string r)) g 30 (dCs s x1 x2 n m y0 y1 y2 y3 y4 (.slice A k c) r) := by
  have l0 : Lies w g 30 #[.bool false, .int .u64 0, .int .u64 0, .string ⟨#[]⟩, .string ⟨#[]⟩, .int .u32 0, .int .u32 0, .int .u32 0, .int .u32 0, .int .u32 0, .slice none 0 0, .string ⟨#[]⟩] := l
  have l1 : Lies _ g 30 #[.bool s, .int .u64 0, .int .u64 0, .string ⟨#[]⟩, .string ⟨#[]⟩, .int .u32 0, .int .u32 0, .int .u32 0, .int .u32 0, .int .u32 0, .slice none 0 0, .string ⟨#[]⟩] := l0.set 0 (.bool s)
  have l2 : Lies _ g 30 #[.bool s, .int .u64 x1, .int .u64 0, .string ⟨#[]⟩, .string ⟨#[]⟩, .int .u32 0, .int .u32 0, .int .u32 0, .int .u32 0, .int .u32 0, .slice none 0 0, .string ⟨#[]⟩] := l1.set 1 (.int .u64 x1)
  have l3 : Lies _ g 30 #[.bool s, .int .u64 x1, .int .u64 x2, .string ⟨#[]⟩, .string ⟨#[]⟩, .int .u32 0, .int .u32 0, .int .u32 0, .int .u32 0, .int .u32 0, .slice none 0 0, .string ⟨#[]⟩] := l2.set 2 (.int .u64 x2)
  have l4 : Lies _ g 30 #[.bool s, .int .u64 x1, .int .u64 x2, .string n, .string ⟨#[]⟩, .int .u32 0, .int .u32 0, .int .u32 0, .int .u32 0, .int .u32 0, .slice none 0 0, .string ⟨#[]⟩] := l3.set 3 (.string n)
  have l5 : Lies _ g 30 #[.bool s, .int .u64 x1, .int .u64 x2, .string n, .string m, .int .u32 0, .int .u32 0, .int .u32 0, .int .u32 0, .int .u32 0, .slice none 0 0, .string ⟨#[]⟩] := l4.set 4 (.string m)
  have l6 : Lies _ g 30 #[.bool s, .int .u64 x1, .int .u64 x2, .string n, .string m, .int .u32 y0, .int .u32 0, .int .u32 0, .int .u32 0, .int .u32 0, .slice none 0 0, .string ⟨#[]⟩] := l5.set 5 (.int .u32 y0)
  have l7 : Lies _ g 30 #[.bool s, .int .u64 x1, .int .u64 x2, .string n, .string m, .int .u32 y0, .int .u32 y1, .int .u32 0, .int .u32 0, .int .u32 0, .slice none 0 0, .string ⟨#[]⟩] := l6.set 6 (.int .u32 y1)
  have l8 : Lies _ g 30 #[.bool s, .int .u64 x1, .int .u64 x2, .string n, .string m, .int .u32 y0, .int .u32 y1, .int .u32 y2, .int .u32 0, .int .u32 0, .slice none 0 0, .string ⟨#[]⟩] := l7.set 7 (.int .u32 y2)
  have l9 : Lies _ g 30 #[.bool s, .int .u64 x1, .int .u64 x2, .string n, .string m, .int .u32 y0, .int .u32 y1, .int .u32 y2, .int .u32 y3, .int .u32 0, .slice none 0 0, .string ⟨#[]⟩] := l8.set 8 (.int .u32 y3)
  have l10 : Lies _ g 30 #[.bool s, .int .u64 x1, .int .u64 x2, .string n, .string m, .int .u32 y0, .int .u32 y1, .int .u32 y2, .int .u32 y3, .int .u32 y4, .slice none 0 0, .string ⟨#[]⟩] := l9.set 9 (.int .u32 y4)
  have l11 : Lies _ g 30 #[.bool s, .int .u64 x1, .int .u64 x2, .string n, .string m, .int .u32 y0, .int .u32 y1, .int .u32 y2, .int .u32 y3, .int .u32 y4, .slice A k c, .string ⟨#[]⟩] := l10.set 10 (.slice A k c)
  have l12 : Lies _ g 30 #[.bool s, .int .u64 x1, .int .u64 x2, .string n, .string m, .int .u32 y0, .int .u32 y1, .int .u32 y2, .int .u32 y3, .int .u32 y4, .slice A k c, .string r] := l11.set 11 (.string r)
  exact l12
theorem store_dg (w : World) (g : Nat) (s : Bool) (x1 x2 : Int) (n m : ByteArray) (y0 y1 y2 y3 y4 : Int) (A : Option Addr) (k c : Nat) (r : ByteArray) : w.grownBy ((((((((((((w.setCell ⟨g, 0, none⟩ (.bool s)).setCell ⟨g, 1, none⟩ (.int .u64 x1)).setCell ⟨g, 2, none⟩ (.int .u64 x2)).setCell ⟨g, 3, none⟩ (.string n)).setCell ⟨g, 4, none⟩ (.string m)).setCell ⟨g, 5, none⟩ (.int .u32 y0)).setCell ⟨g, 6, none⟩ (.int .u32 y1)).setCell ⟨g, 7, none⟩ (.int .u32 y2)).setCell ⟨g, 8, none⟩ (.int .u32 y3)).setCell ⟨g, 9, none⟩ (.int .u32 y4)).setCell ⟨g, 10, none⟩ (.slice A k c)).setCell ⟨g, 11, none⟩ (.string r)) (some g) := (((((((((((grown_set (base := 0) w g 0 _).trans (grown_set (base := 0) _ g 1 _)).trans (grown_set (base := 0) _ g 2 _)).trans (grown_set (base := 0) _ g 3 _)).trans (grown_set (base := 0) _ g 4 _)).trans (grown_set (base := 0) _ g 5 _)).trans (grown_set (base := 0) _ g 6 _)).trans (grown_set (base := 0) _ g 7 _)).trans (grown_set (base := 0) _ g 8 _)).trans (grown_set (base := 0) _ g 9 _)).trans (grown_set (base := 0) _ g 10 _)).trans (grown_set (base := 0) _ g 11 _)
theorem store_dw {w : World} {g : Nat} (l : Lies w g 30 zD) (s : Bool) (x1 x2 : Int) (n m : ByteArray) (y0 y1 y2 y3 y4 : Int) (A : Option Addr) (k c : Nat) (r : ByteArray) : ∃ w', (Instr.storeAt 30 (.pointer (some ⟨g, 0, none⟩)) (.agg (dCs s x1 x2 n m y0 y1 y2 y3 y4 (.slice A k c) r))).run Tryz.prog w = .ok () w' ∧ Lies w' g 30 (dCs s x1 x2 n m y0 y1 y2 y3 y4 (.slice A k c) r) ∧ w.grownBy w' (some g) :=
  ⟨_, store_dr l s x1 x2 n m y0 y1 y2 y3 y4 A k c r, store_dl l s x1 x2 n m y0 y1 y2 y3 y4 A k c r, store_dg w g s x1 x2 n m y0 y1 y2 y3 y4 A k c r⟩
/-- What the read hands back. -/
def Red (w : World) (V : Value) (e : Ending) (w' : World) : Prop := e = .returned (.tuple #[V, .int .i64 0]) ∧ Below w.heap.size w w'
set_option maxHeartbeats 4000000 in
theorem refRead_adr (S : ByteArray) (a z : Nat) (t : Int) (n : Nat) (six : Bool) (hi lo : Nat) (w : World) (ht : (t = 1 ∧ n = 4) ∨ (t = 28 ∧ n = 16)) (haz : a + n = z) (hz : z ≤ S.size) (hs : S.size ≤ 1099511627776)
    (hh : ∀ wx, Calls Tryz.prog 43 #[.int .i64 t] wx (Told wx (.agg (hasC true false false false false 0 0))))
    (hof : ∀ wx, Calls Tryz.prog 44 #[.string (S.extract a z)] wx (Told wx (.tuple #[.agg #[.bool six, .int .u64 (hi : Int), .int .u64 (lo : Int)], .int .i64 0])))
    (hck : ∀ wx, Calls Tryz.prog 48 #[.int .i64 t, (.agg (dCs six hi lo ⟨#[]⟩ ⟨#[]⟩ 0 0 0 0 0 (.slice none 0 0) ⟨#[]⟩))] wx (Told wx (.int .i64 0))) :
    Calls Tryz.prog 12 #[.string S, .int .i64 (a : Int), .int .i64 (z : Int), .int .i64 t] w (Red w (.agg (dCs six hi lo ⟨#[]⟩ ⟨#[]⟩ 0 0 0 0 0 (.slice none 0 0) ⟨#[]⟩))) := by
  have HOf := Lib.hid hof
  have HCk := Lib.hid hck
  clear hof hck
  rcases ht with ⟨rfl, rfl⟩ | ⟨rfl, rfl⟩
  · have HH := Lib.hid hh
    have z1 : decide ((a : Int) < 0) = false := decide_eq_false (by omega)
    have z2 : decide ((z : Int) < (a : Int)) = false := decide_eq_false (by omega)
    have z2' : decide (z < a) = false := decide_eq_false (by omega)
    have z3 : decide ((S.size : Int) < (z : Int)) = false := decide_eq_false (by omega)
    have z3' : decide (S.size < z) = false := decide_eq_false (by omega)
    have HAZ := Lib.hid haz
    have HZS := Lib.hid hz
    have HSS := Lib.hid hs
    have hk4 := (((Below.refl w.heap.size w).alloc (Nat.le_refl _) (.cells #[.bool false, .int .u64 0, .int .u64 0, .string ⟨#[]⟩, .string ⟨#[]⟩, .int .u32 0, .int .u32 0, .int .u32 0, .int .u32 0, .int .u32 0, .slice none 0 0, .string ⟨#[]⟩] 30)).alloc (by simp) (.cells #[.string S, .int .i64 (a : Int), .int .i64 (z : Int), .int .i64 0] 91))
    have hr4 : Lies ((w.alloc (.cells #[.bool false, .int .u64 0, .int .u64 0, .string ⟨#[]⟩, .string ⟨#[]⟩, .int .u32 0, .int .u32 0, .int .u32 0, .int .u32 0, .int .u32 0, .slice none 0 0, .string ⟨#[]⟩] 30)).alloc (.cells #[.string S, .int .i64 (a : Int), .int .i64 (z : Int), .int .i64 0] 91)) w.heap.size 30 zD := (Lies.new w _ _).alloc _
    have hc4 : Lies ((w.alloc (.cells #[.bool false, .int .u64 0, .int .u64 0, .string ⟨#[]⟩, .string ⟨#[]⟩, .int .u32 0, .int .u32 0, .int .u32 0, .int .u32 0, .int .u32 0, .slice none 0 0, .string ⟨#[]⟩] 30)).alloc (.cells #[.string S, .int .i64 (a : Int), .int .i64 (z : Int), .int .i64 0] 91)) (w.heap.size + 1) 91 (cursC S a z) := two_box _ _ _ _
    clear hh haz hz hs
    go_enter Tryz.func12, Tryz.ntmps12
    go_upto_region 4 with (fail)
    obtain ⟨W4, hW4⟩ : ∃ x, x = (w.alloc (.cells #[.bool false, .int .u64 0, .int .u64 0, .string ⟨#[]⟩, .string ⟨#[]⟩, .int .u32 0, .int .u32 0, .int .u32 0, .int .u32 0, .int .u32 0, .slice none 0 0, .string ⟨#[]⟩] 30)).alloc (.cells #[.string S, .int .i64 (a : Int), .int .i64 (z : Int), .int .i64 0] 91) := ⟨_, rfl⟩
    rw [← hW4] at hk4 hr4 hc4 ⊢
    obtain ⟨R, hR⟩ : ∃ x, x = w.heap.size := ⟨_, rfl⟩
    obtain ⟨C, hC⟩ : ∃ x, x = w.heap.size + 1 := ⟨_, rfl⟩
    rw [← hR] at hr4
    rw [← hC] at hc4
    clear z1 z2 z2' z3 z3' hW4
    rw [← hC, ← hR]
    go_wp2_with fail
    refine (HH.out _).mono ?_
    rintro e w5 ⟨rfl, hb5⟩
    have hk6 : RdS w ((w5.alloc (.cells #[.bool true, .bool false, .bool false, .bool false, .bool false, .int .i64 0, .int .i64 0] 93)).alloc (.cells #[.bool false, .int .u64 0, .int .u64 0, .string ⟨#[]⟩, .string ⟨#[]⟩, .int .u32 0, .int .u32 0, .int .u32 0, .int .u32 0, .int .u32 0, .slice none 0 0, .string ⟨#[]⟩] 30)) R C w5.heap.size (w5.heap.size + 1) S a z #[.bool true, .bool false, .bool false, .bool false, .bool false, .int .i64 0, .int .i64 0] zD := by
      have hlt := Nat.lt_of_lt_of_le hc4.lt hb5.size
      exact ⟨((hk4.trans (hb5.mono hk4.size)).alloc (Nat.le_trans hk4.size hb5.size) _).alloc (by have := Nat.le_trans hk4.size hb5.size; simp; omega) _, ((hr4.next hb5).alloc _).alloc _, ((hc4.next hb5).alloc _).alloc _, (Lies.new w5 _ _).alloc _, two_box _ _ _ _, by omega⟩
    have HR : Hid (w.heap.size = R) := Lib.hid hR.symm
    clear hk4 hr4 hc4 hb5 hR hC HH
    go_upto_region 6 with (fail)
    obtain ⟨W6, hW6⟩ : ∃ x, x = (w5.alloc (.cells #[.bool true, .bool false, .bool false, .bool false, .bool false, .int .i64 0, .int .i64 0] 93)).alloc (.cells #[.bool false, .int .u64 0, .int .u64 0, .string ⟨#[]⟩, .string ⟨#[]⟩, .int .u32 0, .int .u32 0, .int .u32 0, .int .u32 0, .int .u32 0, .slice none 0 0, .string ⟨#[]⟩] 30) := ⟨_, rfl⟩
    rw [← hW6] at hk6 ⊢
    obtain ⟨H, hH⟩ : ∃ x, x = w5.heap.size := ⟨_, rfl⟩
    obtain ⟨D, hD⟩ : ∃ x, x = w5.heap.size + 1 := ⟨_, rfl⟩
    rw [← hD, ← hH] at hk6 ⊢
    clear hW6 hH hD
    have HK := Lib.hid hk6
    have h0 := hk6.h.cell 0
    have h1 := hk6.h.cell 1
    have h2 := hk6.h.cell 2
    have h3 := hk6.h.cell 3
    have h4 := hk6.h.cell 4
    have h5 := hk6.h.cell 5
    have h6 := hk6.h.cell 6
    have x0 := hk6.d.cell 0
    have x1 := hk6.d.cell 1
    have x2 := hk6.d.cell 2
    have x3 := hk6.d.cell 3
    have x4 := hk6.d.cell 4
    have x5 := hk6.d.cell 5
    have x6 := hk6.d.cell 6
    have x7 := hk6.d.cell 7
    have x8 := hk6.d.cell 8
    have x9 := hk6.d.cell 9
    have x10 := hk6.d.cell 10
    have x11 := hk6.d.cell 11
    obtain ⟨c1, c3, df⟩ := hk6.facts
    simp at h0 h1 h2 h3 h4 h5 h6 x0 x1 x2 x3 x4 x5 x6 x7 x8 x9 x10 x11
    clear hk6
    go_upto_region 10 with (fail)
    have HT : Hid (Calls Tryz.prog 45 #[.pointer (some ⟨C, 0, none⟩), .int .i64 4] W6 (CurO W6 C S z z (.string (S.extract a z)))) := Lib.hid (by
      have h := refTake_ok S a z 4 W6 C HK.out.c (by have := HAZ.out; omega) HZS.out HSS.out
      rw [HAZ.out] at h
      exact h)
    go_wp2_with fail
    refine HT.out.mono ?_
    rintro e w7 ⟨rfl, hc7, hg7⟩
    have HK7 := Lib.hid (HK.out.call hc7 hg7)
    clear hc7 hg7
    go_wp2_with fail
    refine (HOf.out _).mono ?_
    rintro e w8 ⟨rfl, hb8⟩
    have HK8 := Lib.hid (HK7.out.next hb8)
    clear hb8
    clear h0 h1 h2 h3 h4 h5 h6 x0 x1 x2 x3 x4 x5 x6 x7 x8 x9 x10 x11 c1 c3 df
    have hkk := HK8.out
    have h0 := hkk.h.cell 0
    have h1 := hkk.h.cell 1
    have h2 := hkk.h.cell 2
    have h3 := hkk.h.cell 3
    have h4 := hkk.h.cell 4
    have h5 := hkk.h.cell 5
    have h6 := hkk.h.cell 6
    have x0 := hkk.d.cell 0
    have x1 := hkk.d.cell 1
    have x2 := hkk.d.cell 2
    have x3 := hkk.d.cell 3
    have x4 := hkk.d.cell 4
    have x5 := hkk.d.cell 5
    have x6 := hkk.d.cell 6
    have x7 := hkk.d.cell 7
    have x8 := hkk.d.cell 8
    have x9 := hkk.d.cell 9
    have x10 := hkk.d.cell 10
    have x11 := hkk.d.cell 11
    obtain ⟨c1, c3, df⟩ := hkk.facts
    simp at h0 h1 h2 h3 h4 h5 h6 x0 x1 x2 x3 x4 x5 x6 x7 x8 x9 x10 x11
    clear hkk
    go_upto_region 14 with (fail)
    have hk9 := ((HK8.out.put (cs' := dCs six 0 0 ⟨#[]⟩ ⟨#[]⟩ 0 0 0 0 0 (.slice none 0 0) ⟨#[]⟩) 0 (.bool six) rfl).put (cs' := dCs six hi 0 ⟨#[]⟩ ⟨#[]⟩ 0 0 0 0 0 (.slice none 0 0) ⟨#[]⟩) 1 (.int .u64 (hi : Int)) rfl).put (cs' := dCs six hi lo ⟨#[]⟩ ⟨#[]⟩ 0 0 0 0 0 (.slice none 0 0) ⟨#[]⟩) 2 (.int .u64 (lo : Int)) rfl
    obtain ⟨W9, hW9⟩ : ∃ x, x = ((w8.setCell ⟨D, 0, none⟩ (.bool six)).setCell ⟨D, 1, none⟩ (.int .u64 (hi : Int))).setCell ⟨D, 2, none⟩ (.int .u64 (lo : Int)) := ⟨_, rfl⟩
    rw [← hW9] at hk9 ⊢
    have HK9 := Lib.hid hk9
    clear hW9 hk9
    clear h0 h1 h2 h3 h4 h5 h6 x0 x1 x2 x3 x4 x5 x6 x7 x8 x9 x10 x11 c1 c3 df
    have hkk := HK9.out
    have h0 := hkk.h.cell 0
    have h1 := hkk.h.cell 1
    have h2 := hkk.h.cell 2
    have h3 := hkk.h.cell 3
    have h4 := hkk.h.cell 4
    have h5 := hkk.h.cell 5
    have h6 := hkk.h.cell 6
    have x0 := hkk.d.cell 0
    have x1 := hkk.d.cell 1
    have x2 := hkk.d.cell 2
    have x3 := hkk.d.cell 3
    have x4 := hkk.d.cell 4
    have x5 := hkk.d.cell 5
    have x6 := hkk.d.cell 6
    have x7 := hkk.d.cell 7
    have x8 := hkk.d.cell 8
    have x9 := hkk.d.cell 9
    have x10 := hkk.d.cell 10
    have x11 := hkk.d.cell 11
    obtain ⟨c1, c3, df⟩ := hkk.facts
    simp at h0 h1 h2 h3 h4 h5 h6 x0 x1 x2 x3 x4 x5 x6 x7 x8 x9 x10 x11
    clear hkk
    go_wp2
    go_loop [14] (fun i => i = .int .i64 0) (fun _ => 0)
    case atStart => rfl
    case round =>
      subst hrel
      go_wp2
      go_loop [113] (fun _ => True) (fun _ => 0)
      case atStart => trivial
      case round =>
        clear hrel
        go_upto_region 24 with (fail)
        have hld := load_dw HK9.out.d
        have HLd := Lib.hid hld
        clear hld
        go_wp2_with (first | (refine wpList_load1d (by rfl) 30 (.tmp 12) rfl (.pointer (some ⟨D, 0, none⟩)) (.agg (dCs six hi lo ⟨#[]⟩ ⟨#[]⟩ 0 0 0 0 0 (.slice none 0 0) ⟨#[]⟩)) rfl HLd.out ?_) | fail)
        refine (HCk.out _).mono ?_
        rintro e wy ⟨rfl, hby⟩
        have HKy := Lib.hid (HK9.out.next hby)
        clear hby HLd
        clear h0 h1 h2 h3 h4 h5 h6 x0 x1 x2 x3 x4 x5 x6 x7 x8 x9 x10 x11 c1 c3 df
        have hkk := HKy.out
        have h0 := hkk.h.cell 0
        have h1 := hkk.h.cell 1
        have h2 := hkk.h.cell 2
        have h3 := hkk.h.cell 3
        have h4 := hkk.h.cell 4
        have h5 := hkk.h.cell 5
        have h6 := hkk.h.cell 6
        have x0 := hkk.d.cell 0
        have x1 := hkk.d.cell 1
        have x2 := hkk.d.cell 2
        have x3 := hkk.d.cell 3
        have x4 := hkk.d.cell 4
        have x5 := hkk.d.cell 5
        have x6 := hkk.d.cell 6
        have x7 := hkk.d.cell 7
        have x8 := hkk.d.cell 8
        have x9 := hkk.d.cell 9
        have x10 := hkk.d.cell 10
        have x11 := hkk.d.cell 11
        obtain ⟨c1, c3, df⟩ := hkk.facts
        simp at h0 h1 h2 h3 h4 h5 h6 x0 x1 x2 x3 x4 x5 x6 x7 x8 x9 x10 x11
        clear hkk
        go_upto_region 28 with (fail)
        obtain ⟨wz, hst, hlz, hgz⟩ := store_dw HKy.out.r six hi lo ⟨#[]⟩ ⟨#[]⟩ 0 0 0 0 0 none 0 0 ⟨#[]⟩
        have HLy := Lib.hid (load_dw HKy.out.d)
        have HSt := Lib.hid hst
        have HBz : Hid (Below w.heap.size w wz) := Lib.hid (HKy.out.bel.grown hgz HKy.out.bel.size (fun j e => by injection e with e; have := HKy.out.o; omega))
        have r0 := hlz.cell 0
        have r1 := hlz.cell 1
        have r2 := hlz.cell 2
        have r3 := hlz.cell 3
        have r4 := hlz.cell 4
        have r5 := hlz.cell 5
        have r6 := hlz.cell 6
        have r7 := hlz.cell 7
        have r8 := hlz.cell 8
        have r9 := hlz.cell 9
        have r10 := hlz.cell 10
        have r11 := hlz.cell 11
        simp at r0 r1 r2 r3 r4 r5 r6 r7 r8 r9 r10 r11
        clear hst hlz hgz h0 h1 h2 h3 h4 h5 h6 x0 x1 x2 x3 x4 x5 x6 x7 x8 x9 x10 x11 c1 c3 df
        go_wp2_with (first | (refine wpList_load1d (by rfl) 30 (.tmp 12) rfl (.pointer (some ⟨D, 0, none⟩)) (.agg (dCs six hi lo ⟨#[]⟩ ⟨#[]⟩ 0 0 0 0 0 (.slice none 0 0) ⟨#[]⟩)) rfl HLy.out ?_) | (refine wpList_store1d rfl 30 (.tmp 8) (.tmp 162) rfl (.pointer (some ⟨R, 0, none⟩)) (.agg (dCs six hi lo ⟨#[]⟩ ⟨#[]⟩ 0 0 0 0 0 (.slice none 0 0) ⟨#[]⟩)) rfl rfl HSt.out ?_) | fail)
        refine bodyPost_ret (v := .tuple #[.agg (dCs six hi lo ⟨#[]⟩ ⟨#[]⟩ 0 0 0 0 0 (.slice none 0 0) ⟨#[]⟩), .int .i64 0]) (by simp [results, Tryz.results12, go_sem, r0, r1, r2, r3, r4, r5, r6, r7, r8, r9, r10, r11]) rfl ?_
        exact ⟨rfl, HBz.out⟩
  · have HH := Lib.hid hh
    have z1 : decide ((a : Int) < 0) = false := decide_eq_false (by omega)
    have z2 : decide ((z : Int) < (a : Int)) = false := decide_eq_false (by omega)
    have z2' : decide (z < a) = false := decide_eq_false (by omega)
    have z3 : decide ((S.size : Int) < (z : Int)) = false := decide_eq_false (by omega)
    have z3' : decide (S.size < z) = false := decide_eq_false (by omega)
    have HAZ := Lib.hid haz
    have HZS := Lib.hid hz
    have HSS := Lib.hid hs
    have hk4 := (((Below.refl w.heap.size w).alloc (Nat.le_refl _) (.cells #[.bool false, .int .u64 0, .int .u64 0, .string ⟨#[]⟩, .string ⟨#[]⟩, .int .u32 0, .int .u32 0, .int .u32 0, .int .u32 0, .int .u32 0, .slice none 0 0, .string ⟨#[]⟩] 30)).alloc (by simp) (.cells #[.string S, .int .i64 (a : Int), .int .i64 (z : Int), .int .i64 0] 91))
    have hr4 : Lies ((w.alloc (.cells #[.bool false, .int .u64 0, .int .u64 0, .string ⟨#[]⟩, .string ⟨#[]⟩, .int .u32 0, .int .u32 0, .int .u32 0, .int .u32 0, .int .u32 0, .slice none 0 0, .string ⟨#[]⟩] 30)).alloc (.cells #[.string S, .int .i64 (a : Int), .int .i64 (z : Int), .int .i64 0] 91)) w.heap.size 30 zD := (Lies.new w _ _).alloc _
    have hc4 : Lies ((w.alloc (.cells #[.bool false, .int .u64 0, .int .u64 0, .string ⟨#[]⟩, .string ⟨#[]⟩, .int .u32 0, .int .u32 0, .int .u32 0, .int .u32 0, .int .u32 0, .slice none 0 0, .string ⟨#[]⟩] 30)).alloc (.cells #[.string S, .int .i64 (a : Int), .int .i64 (z : Int), .int .i64 0] 91)) (w.heap.size + 1) 91 (cursC S a z) := two_box _ _ _ _
    clear hh haz hz hs
    go_enter Tryz.func12, Tryz.ntmps12
    go_upto_region 4 with (fail)
    obtain ⟨W4, hW4⟩ : ∃ x, x = (w.alloc (.cells #[.bool false, .int .u64 0, .int .u64 0, .string ⟨#[]⟩, .string ⟨#[]⟩, .int .u32 0, .int .u32 0, .int .u32 0, .int .u32 0, .int .u32 0, .slice none 0 0, .string ⟨#[]⟩] 30)).alloc (.cells #[.string S, .int .i64 (a : Int), .int .i64 (z : Int), .int .i64 0] 91) := ⟨_, rfl⟩
    rw [← hW4] at hk4 hr4 hc4 ⊢
    obtain ⟨R, hR⟩ : ∃ x, x = w.heap.size := ⟨_, rfl⟩
    obtain ⟨C, hC⟩ : ∃ x, x = w.heap.size + 1 := ⟨_, rfl⟩
    rw [← hR] at hr4
    rw [← hC] at hc4
    clear z1 z2 z2' z3 z3' hW4
    rw [← hC, ← hR]
    go_wp2_with fail
    refine (HH.out _).mono ?_
    rintro e w5 ⟨rfl, hb5⟩
    have hk6 : RdS w ((w5.alloc (.cells #[.bool true, .bool false, .bool false, .bool false, .bool false, .int .i64 0, .int .i64 0] 93)).alloc (.cells #[.bool false, .int .u64 0, .int .u64 0, .string ⟨#[]⟩, .string ⟨#[]⟩, .int .u32 0, .int .u32 0, .int .u32 0, .int .u32 0, .int .u32 0, .slice none 0 0, .string ⟨#[]⟩] 30)) R C w5.heap.size (w5.heap.size + 1) S a z #[.bool true, .bool false, .bool false, .bool false, .bool false, .int .i64 0, .int .i64 0] zD := by
      have hlt := Nat.lt_of_lt_of_le hc4.lt hb5.size
      exact ⟨((hk4.trans (hb5.mono hk4.size)).alloc (Nat.le_trans hk4.size hb5.size) _).alloc (by have := Nat.le_trans hk4.size hb5.size; simp; omega) _, ((hr4.next hb5).alloc _).alloc _, ((hc4.next hb5).alloc _).alloc _, (Lies.new w5 _ _).alloc _, two_box _ _ _ _, by omega⟩
    have HR : Hid (w.heap.size = R) := Lib.hid hR.symm
    clear hk4 hr4 hc4 hb5 hR hC HH
    go_upto_region 6 with (fail)
    obtain ⟨W6, hW6⟩ : ∃ x, x = (w5.alloc (.cells #[.bool true, .bool false, .bool false, .bool false, .bool false, .int .i64 0, .int .i64 0] 93)).alloc (.cells #[.bool false, .int .u64 0, .int .u64 0, .string ⟨#[]⟩, .string ⟨#[]⟩, .int .u32 0, .int .u32 0, .int .u32 0, .int .u32 0, .int .u32 0, .slice none 0 0, .string ⟨#[]⟩] 30) := ⟨_, rfl⟩
    rw [← hW6] at hk6 ⊢
    obtain ⟨H, hH⟩ : ∃ x, x = w5.heap.size := ⟨_, rfl⟩
    obtain ⟨D, hD⟩ : ∃ x, x = w5.heap.size + 1 := ⟨_, rfl⟩
    rw [← hD, ← hH] at hk6 ⊢
    clear hW6 hH hD
    have HK := Lib.hid hk6
    have h0 := hk6.h.cell 0
    have h1 := hk6.h.cell 1
    have h2 := hk6.h.cell 2
    have h3 := hk6.h.cell 3
    have h4 := hk6.h.cell 4
    have h5 := hk6.h.cell 5
    have h6 := hk6.h.cell 6
    have x0 := hk6.d.cell 0
    have x1 := hk6.d.cell 1
    have x2 := hk6.d.cell 2
    have x3 := hk6.d.cell 3
    have x4 := hk6.d.cell 4
    have x5 := hk6.d.cell 5
    have x6 := hk6.d.cell 6
    have x7 := hk6.d.cell 7
    have x8 := hk6.d.cell 8
    have x9 := hk6.d.cell 9
    have x10 := hk6.d.cell 10
    have x11 := hk6.d.cell 11
    obtain ⟨c1, c3, df⟩ := hk6.facts
    simp at h0 h1 h2 h3 h4 h5 h6 x0 x1 x2 x3 x4 x5 x6 x7 x8 x9 x10 x11
    clear hk6
    go_upto_region 10 with (fail)
    have HT : Hid (Calls Tryz.prog 45 #[.pointer (some ⟨C, 0, none⟩), .int .i64 16] W6 (CurO W6 C S z z (.string (S.extract a z)))) := Lib.hid (by
      have h := refTake_ok S a z 16 W6 C HK.out.c (by have := HAZ.out; omega) HZS.out HSS.out
      rw [HAZ.out] at h
      exact h)
    go_wp2_with fail
    refine HT.out.mono ?_
    rintro e w7 ⟨rfl, hc7, hg7⟩
    have HK7 := Lib.hid (HK.out.call hc7 hg7)
    clear hc7 hg7
    go_wp2_with fail
    refine (HOf.out _).mono ?_
    rintro e w8 ⟨rfl, hb8⟩
    have HK8 := Lib.hid (HK7.out.next hb8)
    clear hb8
    clear h0 h1 h2 h3 h4 h5 h6 x0 x1 x2 x3 x4 x5 x6 x7 x8 x9 x10 x11 c1 c3 df
    have hkk := HK8.out
    have h0 := hkk.h.cell 0
    have h1 := hkk.h.cell 1
    have h2 := hkk.h.cell 2
    have h3 := hkk.h.cell 3
    have h4 := hkk.h.cell 4
    have h5 := hkk.h.cell 5
    have h6 := hkk.h.cell 6
    have x0 := hkk.d.cell 0
    have x1 := hkk.d.cell 1
    have x2 := hkk.d.cell 2
    have x3 := hkk.d.cell 3
    have x4 := hkk.d.cell 4
    have x5 := hkk.d.cell 5
    have x6 := hkk.d.cell 6
    have x7 := hkk.d.cell 7
    have x8 := hkk.d.cell 8
    have x9 := hkk.d.cell 9
    have x10 := hkk.d.cell 10
    have x11 := hkk.d.cell 11
    obtain ⟨c1, c3, df⟩ := hkk.facts
    simp at h0 h1 h2 h3 h4 h5 h6 x0 x1 x2 x3 x4 x5 x6 x7 x8 x9 x10 x11
    clear hkk
    go_upto_region 14 with (fail)
    have hk9 := ((HK8.out.put (cs' := dCs six 0 0 ⟨#[]⟩ ⟨#[]⟩ 0 0 0 0 0 (.slice none 0 0) ⟨#[]⟩) 0 (.bool six) rfl).put (cs' := dCs six hi 0 ⟨#[]⟩ ⟨#[]⟩ 0 0 0 0 0 (.slice none 0 0) ⟨#[]⟩) 1 (.int .u64 (hi : Int)) rfl).put (cs' := dCs six hi lo ⟨#[]⟩ ⟨#[]⟩ 0 0 0 0 0 (.slice none 0 0) ⟨#[]⟩) 2 (.int .u64 (lo : Int)) rfl
    obtain ⟨W9, hW9⟩ : ∃ x, x = ((w8.setCell ⟨D, 0, none⟩ (.bool six)).setCell ⟨D, 1, none⟩ (.int .u64 (hi : Int))).setCell ⟨D, 2, none⟩ (.int .u64 (lo : Int)) := ⟨_, rfl⟩
    rw [← hW9] at hk9 ⊢
    have HK9 := Lib.hid hk9
    clear hW9 hk9
    clear h0 h1 h2 h3 h4 h5 h6 x0 x1 x2 x3 x4 x5 x6 x7 x8 x9 x10 x11 c1 c3 df
    have hkk := HK9.out
    have h0 := hkk.h.cell 0
    have h1 := hkk.h.cell 1
    have h2 := hkk.h.cell 2
    have h3 := hkk.h.cell 3
    have h4 := hkk.h.cell 4
    have h5 := hkk.h.cell 5
    have h6 := hkk.h.cell 6
    have x0 := hkk.d.cell 0
    have x1 := hkk.d.cell 1
    have x2 := hkk.d.cell 2
    have x3 := hkk.d.cell 3
    have x4 := hkk.d.cell 4
    have x5 := hkk.d.cell 5
    have x6 := hkk.d.cell 6
    have x7 := hkk.d.cell 7
    have x8 := hkk.d.cell 8
    have x9 := hkk.d.cell 9
    have x10 := hkk.d.cell 10
    have x11 := hkk.d.cell 11
    obtain ⟨c1, c3, df⟩ := hkk.facts
    simp at h0 h1 h2 h3 h4 h5 h6 x0 x1 x2 x3 x4 x5 x6 x7 x8 x9 x10 x11
    clear hkk
    go_wp2
    go_loop [14] (fun i => i = .int .i64 0) (fun _ => 0)
    case atStart => rfl
    case round =>
      subst hrel
      go_wp2
      go_loop [113] (fun _ => True) (fun _ => 0)
      case atStart => trivial
      case round =>
        clear hrel
        go_upto_region 24 with (fail)
        have hld := load_dw HK9.out.d
        have HLd := Lib.hid hld
        clear hld
        go_wp2_with (first | (refine wpList_load1d (by rfl) 30 (.tmp 12) rfl (.pointer (some ⟨D, 0, none⟩)) (.agg (dCs six hi lo ⟨#[]⟩ ⟨#[]⟩ 0 0 0 0 0 (.slice none 0 0) ⟨#[]⟩)) rfl HLd.out ?_) | fail)
        refine (HCk.out _).mono ?_
        rintro e wy ⟨rfl, hby⟩
        have HKy := Lib.hid (HK9.out.next hby)
        clear hby HLd
        clear h0 h1 h2 h3 h4 h5 h6 x0 x1 x2 x3 x4 x5 x6 x7 x8 x9 x10 x11 c1 c3 df
        have hkk := HKy.out
        have h0 := hkk.h.cell 0
        have h1 := hkk.h.cell 1
        have h2 := hkk.h.cell 2
        have h3 := hkk.h.cell 3
        have h4 := hkk.h.cell 4
        have h5 := hkk.h.cell 5
        have h6 := hkk.h.cell 6
        have x0 := hkk.d.cell 0
        have x1 := hkk.d.cell 1
        have x2 := hkk.d.cell 2
        have x3 := hkk.d.cell 3
        have x4 := hkk.d.cell 4
        have x5 := hkk.d.cell 5
        have x6 := hkk.d.cell 6
        have x7 := hkk.d.cell 7
        have x8 := hkk.d.cell 8
        have x9 := hkk.d.cell 9
        have x10 := hkk.d.cell 10
        have x11 := hkk.d.cell 11
        obtain ⟨c1, c3, df⟩ := hkk.facts
        simp at h0 h1 h2 h3 h4 h5 h6 x0 x1 x2 x3 x4 x5 x6 x7 x8 x9 x10 x11
        clear hkk
        go_upto_region 28 with (fail)
        obtain ⟨wz, hst, hlz, hgz⟩ := store_dw HKy.out.r six hi lo ⟨#[]⟩ ⟨#[]⟩ 0 0 0 0 0 none 0 0 ⟨#[]⟩
        have HLy := Lib.hid (load_dw HKy.out.d)
        have HSt := Lib.hid hst
        have HBz : Hid (Below w.heap.size w wz) := Lib.hid (HKy.out.bel.grown hgz HKy.out.bel.size (fun j e => by injection e with e; have := HKy.out.o; omega))
        have r0 := hlz.cell 0
        have r1 := hlz.cell 1
        have r2 := hlz.cell 2
        have r3 := hlz.cell 3
        have r4 := hlz.cell 4
        have r5 := hlz.cell 5
        have r6 := hlz.cell 6
        have r7 := hlz.cell 7
        have r8 := hlz.cell 8
        have r9 := hlz.cell 9
        have r10 := hlz.cell 10
        have r11 := hlz.cell 11
        simp at r0 r1 r2 r3 r4 r5 r6 r7 r8 r9 r10 r11
        clear hst hlz hgz h0 h1 h2 h3 h4 h5 h6 x0 x1 x2 x3 x4 x5 x6 x7 x8 x9 x10 x11 c1 c3 df
        go_wp2_with (first | (refine wpList_load1d (by rfl) 30 (.tmp 12) rfl (.pointer (some ⟨D, 0, none⟩)) (.agg (dCs six hi lo ⟨#[]⟩ ⟨#[]⟩ 0 0 0 0 0 (.slice none 0 0) ⟨#[]⟩)) rfl HLy.out ?_) | (refine wpList_store1d rfl 30 (.tmp 8) (.tmp 162) rfl (.pointer (some ⟨R, 0, none⟩)) (.agg (dCs six hi lo ⟨#[]⟩ ⟨#[]⟩ 0 0 0 0 0 (.slice none 0 0) ⟨#[]⟩)) rfl rfl HSt.out ?_) | fail)
        refine bodyPost_ret (v := .tuple #[.agg (dCs six hi lo ⟨#[]⟩ ⟨#[]⟩ 0 0 0 0 0 (.slice none 0 0) ⟨#[]⟩), .int .i64 0]) (by simp [results, Tryz.results12, go_sem, r0, r1, r2, r3, r4, r5, r6, r7, r8, r9, r10, r11]) rfl ?_
        exact ⟨rfl, HBz.out⟩
set_option maxHeartbeats 4000000 in
theorem refRead_raw (S : ByteArray) (a z : Nat) (t : Int) (w : World) (ht : 0 ≤ t ∧ t ≤ 65535) (ht6 : t ≠ 6) (haz : a ≤ z) (hz : z ≤ S.size) (hs : S.size ≤ 1099511627776)
    (hh : ∀ wx, Calls Tryz.prog 43 #[.int .i64 t] wx (Told wx (.agg (hasC false false false false true 0 0))))
    (hck : ∀ wx, Calls Tryz.prog 48 #[.int .i64 t, (.agg (dCs false 0 0 ⟨#[]⟩ ⟨#[]⟩ 0 0 0 0 0 (.slice none 0 0) (S.extract a z)))] wx (Told wx (.int .i64 0))) :
    Calls Tryz.prog 12 #[.string S, .int .i64 (a : Int), .int .i64 (z : Int), .int .i64 t] w (Red w (.agg (dCs false 0 0 ⟨#[]⟩ ⟨#[]⟩ 0 0 0 0 0 (.slice none 0 0) (S.extract a z)))) := by
  have HCk := Lib.hid hck
  obtain ⟨ht0, ht1⟩ := ht
  have z4 : decide (t < 0) = false := decide_eq_false (by omega)
  have z5 : decide (65535 < t) = false := decide_eq_false (by omega)
  have z6 : (t == 6) = false := by rw [beq_eq_false_iff_ne]; exact ht6
  clear hck ht6 ht0 ht1
  have HH := Lib.hid hh
  have z1 : decide ((a : Int) < 0) = false := decide_eq_false (by omega)
  have z2 : decide ((z : Int) < (a : Int)) = false := decide_eq_false (by omega)
  have z2' : decide (z < a) = false := decide_eq_false (by omega)
  have z3 : decide ((S.size : Int) < (z : Int)) = false := decide_eq_false (by omega)
  have z3' : decide (S.size < z) = false := decide_eq_false (by omega)
  have hz' : (z : Int) ≤ 1099511627776 := by omega
  have ha' : (a : Int) ≤ (z : Int) := by omega
  have HAZ := Lib.hid haz
  have HZS := Lib.hid hz
  have HSS := Lib.hid hs
  have hk4 := (((Below.refl w.heap.size w).alloc (Nat.le_refl _) (.cells #[.bool false, .int .u64 0, .int .u64 0, .string ⟨#[]⟩, .string ⟨#[]⟩, .int .u32 0, .int .u32 0, .int .u32 0, .int .u32 0, .int .u32 0, .slice none 0 0, .string ⟨#[]⟩] 30)).alloc (by simp) (.cells #[.string S, .int .i64 (a : Int), .int .i64 (z : Int), .int .i64 0] 91))
  have hr4 : Lies ((w.alloc (.cells #[.bool false, .int .u64 0, .int .u64 0, .string ⟨#[]⟩, .string ⟨#[]⟩, .int .u32 0, .int .u32 0, .int .u32 0, .int .u32 0, .int .u32 0, .slice none 0 0, .string ⟨#[]⟩] 30)).alloc (.cells #[.string S, .int .i64 (a : Int), .int .i64 (z : Int), .int .i64 0] 91)) w.heap.size 30 zD := (Lies.new w _ _).alloc _
  have hc4 : Lies ((w.alloc (.cells #[.bool false, .int .u64 0, .int .u64 0, .string ⟨#[]⟩, .string ⟨#[]⟩, .int .u32 0, .int .u32 0, .int .u32 0, .int .u32 0, .int .u32 0, .slice none 0 0, .string ⟨#[]⟩] 30)).alloc (.cells #[.string S, .int .i64 (a : Int), .int .i64 (z : Int), .int .i64 0] 91)) (w.heap.size + 1) 91 (cursC S a z) := two_box _ _ _ _
  clear hh haz hz hs
  go_enter Tryz.func12, Tryz.ntmps12
  go_upto_region 4 with (fail)
  obtain ⟨W4, hW4⟩ : ∃ x, x = (w.alloc (.cells #[.bool false, .int .u64 0, .int .u64 0, .string ⟨#[]⟩, .string ⟨#[]⟩, .int .u32 0, .int .u32 0, .int .u32 0, .int .u32 0, .int .u32 0, .slice none 0 0, .string ⟨#[]⟩] 30)).alloc (.cells #[.string S, .int .i64 (a : Int), .int .i64 (z : Int), .int .i64 0] 91) := ⟨_, rfl⟩
  rw [← hW4] at hk4 hr4 hc4 ⊢
  obtain ⟨R, hR⟩ : ∃ x, x = w.heap.size := ⟨_, rfl⟩
  obtain ⟨C, hC⟩ : ∃ x, x = w.heap.size + 1 := ⟨_, rfl⟩
  rw [← hR] at hr4
  rw [← hC] at hc4
  clear z1 z2 z2' z3 z3' hW4
  rw [← hC, ← hR]
  go_wp2_with fail
  refine (HH.out _).mono ?_
  rintro e w5 ⟨rfl, hb5⟩
  have hk6 : RdS w ((w5.alloc (.cells #[.bool false, .bool false, .bool false, .bool false, .bool true, .int .i64 0, .int .i64 0] 93)).alloc (.cells #[.bool false, .int .u64 0, .int .u64 0, .string ⟨#[]⟩, .string ⟨#[]⟩, .int .u32 0, .int .u32 0, .int .u32 0, .int .u32 0, .int .u32 0, .slice none 0 0, .string ⟨#[]⟩] 30)) R C w5.heap.size (w5.heap.size + 1) S a z #[.bool false, .bool false, .bool false, .bool false, .bool true, .int .i64 0, .int .i64 0] zD := by
    have hlt := Nat.lt_of_lt_of_le hc4.lt hb5.size
    exact ⟨((hk4.trans (hb5.mono hk4.size)).alloc (Nat.le_trans hk4.size hb5.size) _).alloc (by have := Nat.le_trans hk4.size hb5.size; simp; omega) _, ((hr4.next hb5).alloc _).alloc _, ((hc4.next hb5).alloc _).alloc _, (Lies.new w5 _ _).alloc _, two_box _ _ _ _, by omega⟩
  have HR : Hid (w.heap.size = R) := Lib.hid hR.symm
  clear hk4 hr4 hc4 hb5 hR hC HH
  go_upto_region 6 with (fail)
  obtain ⟨W6, hW6⟩ : ∃ x, x = (w5.alloc (.cells #[.bool false, .bool false, .bool false, .bool false, .bool true, .int .i64 0, .int .i64 0] 93)).alloc (.cells #[.bool false, .int .u64 0, .int .u64 0, .string ⟨#[]⟩, .string ⟨#[]⟩, .int .u32 0, .int .u32 0, .int .u32 0, .int .u32 0, .int .u32 0, .slice none 0 0, .string ⟨#[]⟩] 30) := ⟨_, rfl⟩
  rw [← hW6] at hk6 ⊢
  obtain ⟨H, hH⟩ : ∃ x, x = w5.heap.size := ⟨_, rfl⟩
  obtain ⟨D, hD⟩ : ∃ x, x = w5.heap.size + 1 := ⟨_, rfl⟩
  rw [← hD, ← hH] at hk6 ⊢
  clear hW6 hH hD
  have HK := Lib.hid hk6
  have h0 := hk6.h.cell 0
  have h1 := hk6.h.cell 1
  have h2 := hk6.h.cell 2
  have h3 := hk6.h.cell 3
  have h4 := hk6.h.cell 4
  have h5 := hk6.h.cell 5
  have h6 := hk6.h.cell 6
  have x0 := hk6.d.cell 0
  have x1 := hk6.d.cell 1
  have x2 := hk6.d.cell 2
  have x3 := hk6.d.cell 3
  have x4 := hk6.d.cell 4
  have x5 := hk6.d.cell 5
  have x6 := hk6.d.cell 6
  have x7 := hk6.d.cell 7
  have x8 := hk6.d.cell 8
  have x9 := hk6.d.cell 9
  have x10 := hk6.d.cell 10
  have x11 := hk6.d.cell 11
  obtain ⟨c1, c3, df⟩ := hk6.facts
  simp at h0 h1 h2 h3 h4 h5 h6 x0 x1 x2 x3 x4 x5 x6 x7 x8 x9 x10 x11
  clear hk6
  clear z4 z5
  go_wp2
  go_loop [14] (fun i => i = .int .i64 0) (fun _ => 0)
  case atStart => rfl
  case round =>
    subst hrel
    go_wp2
    go_loop [113] (fun _ => True) (fun _ => 0)
    case atStart => trivial
    case round =>
      clear hrel
      have HT : Hid (Calls Tryz.prog 45 #[.pointer (some ⟨C, 0, none⟩), .int .i64 ((z : Int) - (a : Int))] W6 (CurO W6 C S z z (.string (S.extract a z)))) := Lib.hid (by
        have e : a + (z - a) = z := by have := HAZ.out; omega
        have h := refTake_ok S a z (z - a) W6 C HK.out.c (by omega) HZS.out HSS.out
        rw [e, Int.natCast_sub HAZ.out] at h
        exact h)
      go_wp2_with fail
      refine HT.out.mono ?_
      rintro e w7 ⟨rfl, hc7, hg7⟩
      have HK7 := Lib.hid (HK.out.call hc7 hg7)
      clear hc7 hg7
      clear h0 h1 h2 h3 h4 h5 h6 x0 x1 x2 x3 x4 x5 x6 x7 x8 x9 x10 x11 c1 c3 df
      have hkk := HK7.out
      have h0 := hkk.h.cell 0
      have h1 := hkk.h.cell 1
      have h2 := hkk.h.cell 2
      have h3 := hkk.h.cell 3
      have h4 := hkk.h.cell 4
      have h5 := hkk.h.cell 5
      have h6 := hkk.h.cell 6
      have x0 := hkk.d.cell 0
      have x1 := hkk.d.cell 1
      have x2 := hkk.d.cell 2
      have x3 := hkk.d.cell 3
      have x4 := hkk.d.cell 4
      have x5 := hkk.d.cell 5
      have x6 := hkk.d.cell 6
      have x7 := hkk.d.cell 7
      have x8 := hkk.d.cell 8
      have x9 := hkk.d.cell 9
      have x10 := hkk.d.cell 10
      have x11 := hkk.d.cell 11
      obtain ⟨c1, c3, df⟩ := hkk.facts
      simp at h0 h1 h2 h3 h4 h5 h6 x0 x1 x2 x3 x4 x5 x6 x7 x8 x9 x10 x11
      clear hkk
      go_upto_region 24 with (fail)
      have hk9 := HK7.out.put (cs' := dCs false 0 0 ⟨#[]⟩ ⟨#[]⟩ 0 0 0 0 0 (.slice none 0 0) (S.extract a z)) 11 (.string (S.extract a z)) rfl
      obtain ⟨W9, hW9⟩ : ∃ x, x = w7.setCell ⟨D, 11, none⟩ (.string (S.extract a z)) := ⟨_, rfl⟩
      rw [← hW9] at hk9 ⊢
      have HK9 := Lib.hid hk9
      clear hW9 hk9
      clear h0 h1 h2 h3 h4 h5 h6 x0 x1 x2 x3 x4 x5 x6 x7 x8 x9 x10 x11 c1 c3 df
      have hkk := HK9.out
      have h0 := hkk.h.cell 0
      have h1 := hkk.h.cell 1
      have h2 := hkk.h.cell 2
      have h3 := hkk.h.cell 3
      have h4 := hkk.h.cell 4
      have h5 := hkk.h.cell 5
      have h6 := hkk.h.cell 6
      have x0 := hkk.d.cell 0
      have x1 := hkk.d.cell 1
      have x2 := hkk.d.cell 2
      have x3 := hkk.d.cell 3
      have x4 := hkk.d.cell 4
      have x5 := hkk.d.cell 5
      have x6 := hkk.d.cell 6
      have x7 := hkk.d.cell 7
      have x8 := hkk.d.cell 8
      have x9 := hkk.d.cell 9
      have x10 := hkk.d.cell 10
      have x11 := hkk.d.cell 11
      obtain ⟨c1, c3, df⟩ := hkk.facts
      simp at h0 h1 h2 h3 h4 h5 h6 x0 x1 x2 x3 x4 x5 x6 x7 x8 x9 x10 x11
      clear hkk
      have hld := load_dw HK9.out.d
      have HLd := Lib.hid hld
      clear hld
      go_wp2_with (first | (refine wpList_load1d (by rfl) 30 (.tmp 12) rfl (.pointer (some ⟨D, 0, none⟩)) (.agg (dCs false 0 0 ⟨#[]⟩ ⟨#[]⟩ 0 0 0 0 0 (.slice none 0 0) (S.extract a z))) rfl HLd.out ?_) | fail)
      refine (HCk.out _).mono ?_
      rintro e wy ⟨rfl, hby⟩
      have HKy := Lib.hid (HK9.out.next hby)
      clear hby HLd
      clear h0 h1 h2 h3 h4 h5 h6 x0 x1 x2 x3 x4 x5 x6 x7 x8 x9 x10 x11 c1 c3 df
      have hkk := HKy.out
      have h0 := hkk.h.cell 0
      have h1 := hkk.h.cell 1
      have h2 := hkk.h.cell 2
      have h3 := hkk.h.cell 3
      have h4 := hkk.h.cell 4
      have h5 := hkk.h.cell 5
      have h6 := hkk.h.cell 6
      have x0 := hkk.d.cell 0
      have x1 := hkk.d.cell 1
      have x2 := hkk.d.cell 2
      have x3 := hkk.d.cell 3
      have x4 := hkk.d.cell 4
      have x5 := hkk.d.cell 5
      have x6 := hkk.d.cell 6
      have x7 := hkk.d.cell 7
      have x8 := hkk.d.cell 8
      have x9 := hkk.d.cell 9
      have x10 := hkk.d.cell 10
      have x11 := hkk.d.cell 11
      obtain ⟨c1, c3, df⟩ := hkk.facts
      simp at h0 h1 h2 h3 h4 h5 h6 x0 x1 x2 x3 x4 x5 x6 x7 x8 x9 x10 x11
      clear hkk
      go_upto_region 28 with (fail)
      obtain ⟨wz, hst, hlz, hgz⟩ := store_dw HKy.out.r false 0 0 ⟨#[]⟩ ⟨#[]⟩ 0 0 0 0 0 none 0 0 (S.extract a z)
      have HLy := Lib.hid (load_dw HKy.out.d)
      have HSt := Lib.hid hst
      have HBz : Hid (Below w.heap.size w wz) := Lib.hid (HKy.out.bel.grown hgz HKy.out.bel.size (fun j e => by injection e with e; have := HKy.out.o; omega))
      have r0 := hlz.cell 0
      have r1 := hlz.cell 1
      have r2 := hlz.cell 2
      have r3 := hlz.cell 3
      have r4 := hlz.cell 4
      have r5 := hlz.cell 5
      have r6 := hlz.cell 6
      have r7 := hlz.cell 7
      have r8 := hlz.cell 8
      have r9 := hlz.cell 9
      have r10 := hlz.cell 10
      have r11 := hlz.cell 11
      simp at r0 r1 r2 r3 r4 r5 r6 r7 r8 r9 r10 r11
      clear hst hlz hgz h0 h1 h2 h3 h4 h5 h6 x0 x1 x2 x3 x4 x5 x6 x7 x8 x9 x10 x11 c1 c3 df
      go_wp2_with (first | (refine wpList_load1d (by rfl) 30 (.tmp 12) rfl (.pointer (some ⟨D, 0, none⟩)) (.agg (dCs false 0 0 ⟨#[]⟩ ⟨#[]⟩ 0 0 0 0 0 (.slice none 0 0) (S.extract a z))) rfl HLy.out ?_) | (refine wpList_store1d rfl 30 (.tmp 8) (.tmp 162) rfl (.pointer (some ⟨R, 0, none⟩)) (.agg (dCs false 0 0 ⟨#[]⟩ ⟨#[]⟩ 0 0 0 0 0 (.slice none 0 0) (S.extract a z))) rfl rfl HSt.out ?_) | fail)
      refine bodyPost_ret (v := .tuple #[.agg (dCs false 0 0 ⟨#[]⟩ ⟨#[]⟩ 0 0 0 0 0 (.slice none 0 0) (S.extract a z)), .int .i64 0]) (by simp [results, Tryz.results12, go_sem, r0, r1, r2, r3, r4, r5, r6, r7, r8, r9, r10, r11]) rfl ?_
      exact ⟨rfl, HBz.out⟩
set_option maxHeartbeats 4000000 in
theorem refRead_name (S n : ByteArray) (a z : Nat) (t : Int) (w : World) (ht : 0 ≤ t ∧ t ≤ 65535) (ht6 : t ≠ 6) (ht33 : t ≠ 33) (haz : a ≤ z) (hz : z ≤ S.size) (hs : S.size ≤ 1099511627776)
    (hcn : ∀ wx c, Lies wx c 91 (cursC S a z) → Calls Tryz.prog 46 #[.pointer (some ⟨c, 0, none⟩), .bool false] wx (CurO wx c S z z (.string n)))
    (hh : ∀ wx, Calls Tryz.prog 43 #[.int .i64 t] wx (Told wx (.agg (hasC false true false false false 0 0))))
    (hck : ∀ wx, Calls Tryz.prog 48 #[.int .i64 t, (.agg (dCs false 0 0 n ⟨#[]⟩ 0 0 0 0 0 (.slice none 0 0) ⟨#[]⟩))] wx (Told wx (.int .i64 0))) :
    Calls Tryz.prog 12 #[.string S, .int .i64 (a : Int), .int .i64 (z : Int), .int .i64 t] w (Red w (.agg (dCs false 0 0 n ⟨#[]⟩ 0 0 0 0 0 (.slice none 0 0) ⟨#[]⟩))) := by
  have HCk := Lib.hid hck
  have HCn := Lib.hid hcn
  obtain ⟨ht0, ht1⟩ := ht
  have z4 : decide (t < 0) = false := decide_eq_false (by omega)
  have z5 : decide (65535 < t) = false := decide_eq_false (by omega)
  have z6 : (t == 6) = false := by rw [beq_eq_false_iff_ne]; exact ht6
  have z6' : (t != 6) = true := by rw [bne_iff_ne]; exact ht6
  have z33 : (t == 33) = false := by rw [beq_eq_false_iff_ne]; exact ht33
  clear hck hcn ht6 ht33 ht0 ht1
  have HH := Lib.hid hh
  have z1 : decide ((a : Int) < 0) = false := decide_eq_false (by omega)
  have z2 : decide ((z : Int) < (a : Int)) = false := decide_eq_false (by omega)
  have z2' : decide (z < a) = false := decide_eq_false (by omega)
  have z3 : decide ((S.size : Int) < (z : Int)) = false := decide_eq_false (by omega)
  have z3' : decide (S.size < z) = false := decide_eq_false (by omega)
  have hz' : (z : Int) ≤ 1099511627776 := by omega
  have ha' : (a : Int) ≤ (z : Int) := by omega
  have HAZ := Lib.hid haz
  have HZS := Lib.hid hz
  have HSS := Lib.hid hs
  have hk4 := (((Below.refl w.heap.size w).alloc (Nat.le_refl _) (.cells #[.bool false, .int .u64 0, .int .u64 0, .string ⟨#[]⟩, .string ⟨#[]⟩, .int .u32 0, .int .u32 0, .int .u32 0, .int .u32 0, .int .u32 0, .slice none 0 0, .string ⟨#[]⟩] 30)).alloc (by simp) (.cells #[.string S, .int .i64 (a : Int), .int .i64 (z : Int), .int .i64 0] 91))
  have hr4 : Lies ((w.alloc (.cells #[.bool false, .int .u64 0, .int .u64 0, .string ⟨#[]⟩, .string ⟨#[]⟩, .int .u32 0, .int .u32 0, .int .u32 0, .int .u32 0, .int .u32 0, .slice none 0 0, .string ⟨#[]⟩] 30)).alloc (.cells #[.string S, .int .i64 (a : Int), .int .i64 (z : Int), .int .i64 0] 91)) w.heap.size 30 zD := (Lies.new w _ _).alloc _
  have hc4 : Lies ((w.alloc (.cells #[.bool false, .int .u64 0, .int .u64 0, .string ⟨#[]⟩, .string ⟨#[]⟩, .int .u32 0, .int .u32 0, .int .u32 0, .int .u32 0, .int .u32 0, .slice none 0 0, .string ⟨#[]⟩] 30)).alloc (.cells #[.string S, .int .i64 (a : Int), .int .i64 (z : Int), .int .i64 0] 91)) (w.heap.size + 1) 91 (cursC S a z) := two_box _ _ _ _
  clear hh haz hz hs
  go_enter Tryz.func12, Tryz.ntmps12
  go_upto_region 4 with (fail)
  obtain ⟨W4, hW4⟩ : ∃ x, x = (w.alloc (.cells #[.bool false, .int .u64 0, .int .u64 0, .string ⟨#[]⟩, .string ⟨#[]⟩, .int .u32 0, .int .u32 0, .int .u32 0, .int .u32 0, .int .u32 0, .slice none 0 0, .string ⟨#[]⟩] 30)).alloc (.cells #[.string S, .int .i64 (a : Int), .int .i64 (z : Int), .int .i64 0] 91) := ⟨_, rfl⟩
  rw [← hW4] at hk4 hr4 hc4 ⊢
  obtain ⟨R, hR⟩ : ∃ x, x = w.heap.size := ⟨_, rfl⟩
  obtain ⟨C, hC⟩ : ∃ x, x = w.heap.size + 1 := ⟨_, rfl⟩
  rw [← hR] at hr4
  rw [← hC] at hc4
  clear z1 z2 z2' z3 z3' hW4
  rw [← hC, ← hR]
  go_wp2_with fail
  refine (HH.out _).mono ?_
  rintro e w5 ⟨rfl, hb5⟩
  have hk6 : RdS w ((w5.alloc (.cells #[.bool false, .bool true, .bool false, .bool false, .bool false, .int .i64 0, .int .i64 0] 93)).alloc (.cells #[.bool false, .int .u64 0, .int .u64 0, .string ⟨#[]⟩, .string ⟨#[]⟩, .int .u32 0, .int .u32 0, .int .u32 0, .int .u32 0, .int .u32 0, .slice none 0 0, .string ⟨#[]⟩] 30)) R C w5.heap.size (w5.heap.size + 1) S a z #[.bool false, .bool true, .bool false, .bool false, .bool false, .int .i64 0, .int .i64 0] zD := by
    have hlt := Nat.lt_of_lt_of_le hc4.lt hb5.size
    exact ⟨((hk4.trans (hb5.mono hk4.size)).alloc (Nat.le_trans hk4.size hb5.size) _).alloc (by have := Nat.le_trans hk4.size hb5.size; simp; omega) _, ((hr4.next hb5).alloc _).alloc _, ((hc4.next hb5).alloc _).alloc _, (Lies.new w5 _ _).alloc _, two_box _ _ _ _, by omega⟩
  have HR : Hid (w.heap.size = R) := Lib.hid hR.symm
  clear hk4 hr4 hc4 hb5 hR hC HH
  go_upto_region 6 with (fail)
  obtain ⟨W6, hW6⟩ : ∃ x, x = (w5.alloc (.cells #[.bool false, .bool true, .bool false, .bool false, .bool false, .int .i64 0, .int .i64 0] 93)).alloc (.cells #[.bool false, .int .u64 0, .int .u64 0, .string ⟨#[]⟩, .string ⟨#[]⟩, .int .u32 0, .int .u32 0, .int .u32 0, .int .u32 0, .int .u32 0, .slice none 0 0, .string ⟨#[]⟩] 30) := ⟨_, rfl⟩
  rw [← hW6] at hk6 ⊢
  obtain ⟨H, hH⟩ : ∃ x, x = w5.heap.size := ⟨_, rfl⟩
  obtain ⟨D, hD⟩ : ∃ x, x = w5.heap.size + 1 := ⟨_, rfl⟩
  rw [← hD, ← hH] at hk6 ⊢
  clear hW6 hH hD
  have HK := Lib.hid hk6
  have h0 := hk6.h.cell 0
  have h1 := hk6.h.cell 1
  have h2 := hk6.h.cell 2
  have h3 := hk6.h.cell 3
  have h4 := hk6.h.cell 4
  have h5 := hk6.h.cell 5
  have h6 := hk6.h.cell 6
  have x0 := hk6.d.cell 0
  have x1 := hk6.d.cell 1
  have x2 := hk6.d.cell 2
  have x3 := hk6.d.cell 3
  have x4 := hk6.d.cell 4
  have x5 := hk6.d.cell 5
  have x6 := hk6.d.cell 6
  have x7 := hk6.d.cell 7
  have x8 := hk6.d.cell 8
  have x9 := hk6.d.cell 9
  have x10 := hk6.d.cell 10
  have x11 := hk6.d.cell 11
  obtain ⟨c1, c3, df⟩ := hk6.facts
  simp at h0 h1 h2 h3 h4 h5 h6 x0 x1 x2 x3 x4 x5 x6 x7 x8 x9 x10 x11
  clear hk6
  clear z4 z5
  go_wp2
  go_loop [14] (fun i => i = .int .i64 0) (fun _ => 0)
  case atStart => rfl
  case round =>
    subst hrel
    have HT := Lib.hid (HCn.out W6 C HK.out.c)
    go_wp2_with fail
    refine HT.out.mono ?_
    rintro e w7 ⟨rfl, hc7, hg7⟩
    have HK7 := Lib.hid (HK.out.call hc7 hg7)
    clear hc7 hg7
    clear h0 h1 h2 h3 h4 h5 h6 x0 x1 x2 x3 x4 x5 x6 x7 x8 x9 x10 x11 c1 c3 df
    have hkk := HK7.out
    have h0 := hkk.h.cell 0
    have h1 := hkk.h.cell 1
    have h2 := hkk.h.cell 2
    have h3 := hkk.h.cell 3
    have h4 := hkk.h.cell 4
    have h5 := hkk.h.cell 5
    have h6 := hkk.h.cell 6
    have x0 := hkk.d.cell 0
    have x1 := hkk.d.cell 1
    have x2 := hkk.d.cell 2
    have x3 := hkk.d.cell 3
    have x4 := hkk.d.cell 4
    have x5 := hkk.d.cell 5
    have x6 := hkk.d.cell 6
    have x7 := hkk.d.cell 7
    have x8 := hkk.d.cell 8
    have x9 := hkk.d.cell 9
    have x10 := hkk.d.cell 10
    have x11 := hkk.d.cell 11
    obtain ⟨c1, c3, df⟩ := hkk.facts
    simp at h0 h1 h2 h3 h4 h5 h6 x0 x1 x2 x3 x4 x5 x6 x7 x8 x9 x10 x11
    clear hkk
    go_upto_region 20 with (fail)
    have hk9 := HK7.out.put (cs' := dCs false 0 0 n ⟨#[]⟩ 0 0 0 0 0 (.slice none 0 0) ⟨#[]⟩) 3 (.string n) rfl
    obtain ⟨W9, hW9⟩ : ∃ x, x = w7.setCell ⟨D, 3, none⟩ (.string n) := ⟨_, rfl⟩
    rw [← hW9] at hk9 ⊢
    have HK9 := Lib.hid hk9
    clear hW9 hk9
    clear h0 h1 h2 h3 h4 h5 h6 x0 x1 x2 x3 x4 x5 x6 x7 x8 x9 x10 x11 c1 c3 df
    have hkk := HK9.out
    have h0 := hkk.h.cell 0
    have h1 := hkk.h.cell 1
    have h2 := hkk.h.cell 2
    have h3 := hkk.h.cell 3
    have h4 := hkk.h.cell 4
    have h5 := hkk.h.cell 5
    have h6 := hkk.h.cell 6
    have x0 := hkk.d.cell 0
    have x1 := hkk.d.cell 1
    have x2 := hkk.d.cell 2
    have x3 := hkk.d.cell 3
    have x4 := hkk.d.cell 4
    have x5 := hkk.d.cell 5
    have x6 := hkk.d.cell 6
    have x7 := hkk.d.cell 7
    have x8 := hkk.d.cell 8
    have x9 := hkk.d.cell 9
    have x10 := hkk.d.cell 10
    have x11 := hkk.d.cell 11
    obtain ⟨c1, c3, df⟩ := hkk.facts
    simp at h0 h1 h2 h3 h4 h5 h6 x0 x1 x2 x3 x4 x5 x6 x7 x8 x9 x10 x11
    clear hkk
    go_wp2
    go_loop [113] (fun _ => True) (fun _ => 0)
    case atStart => trivial
    case round =>
      clear hrel
      go_upto_region 24 with (fail)
      have hld := load_dw HK9.out.d
      have HLd := Lib.hid hld
      clear hld
      go_wp2_with (first | (refine wpList_load1d (by rfl) 30 (.tmp 12) rfl (.pointer (some ⟨D, 0, none⟩)) (.agg (dCs false 0 0 n ⟨#[]⟩ 0 0 0 0 0 (.slice none 0 0) ⟨#[]⟩)) rfl HLd.out ?_) | fail)
      refine (HCk.out _).mono ?_
      rintro e wy ⟨rfl, hby⟩
      have HKy := Lib.hid (HK9.out.next hby)
      clear hby HLd
      clear h0 h1 h2 h3 h4 h5 h6 x0 x1 x2 x3 x4 x5 x6 x7 x8 x9 x10 x11 c1 c3 df
      have hkk := HKy.out
      have h0 := hkk.h.cell 0
      have h1 := hkk.h.cell 1
      have h2 := hkk.h.cell 2
      have h3 := hkk.h.cell 3
      have h4 := hkk.h.cell 4
      have h5 := hkk.h.cell 5
      have h6 := hkk.h.cell 6
      have x0 := hkk.d.cell 0
      have x1 := hkk.d.cell 1
      have x2 := hkk.d.cell 2
      have x3 := hkk.d.cell 3
      have x4 := hkk.d.cell 4
      have x5 := hkk.d.cell 5
      have x6 := hkk.d.cell 6
      have x7 := hkk.d.cell 7
      have x8 := hkk.d.cell 8
      have x9 := hkk.d.cell 9
      have x10 := hkk.d.cell 10
      have x11 := hkk.d.cell 11
      obtain ⟨c1, c3, df⟩ := hkk.facts
      simp at h0 h1 h2 h3 h4 h5 h6 x0 x1 x2 x3 x4 x5 x6 x7 x8 x9 x10 x11
      clear hkk
      go_upto_region 28 with (fail)
      obtain ⟨wz, hst, hlz, hgz⟩ := store_dw HKy.out.r false 0 0 n ⟨#[]⟩ 0 0 0 0 0 none 0 0 ⟨#[]⟩
      have HLy := Lib.hid (load_dw HKy.out.d)
      have HSt := Lib.hid hst
      have HBz : Hid (Below w.heap.size w wz) := Lib.hid (HKy.out.bel.grown hgz HKy.out.bel.size (fun j e => by injection e with e; have := HKy.out.o; omega))
      have r0 := hlz.cell 0
      have r1 := hlz.cell 1
      have r2 := hlz.cell 2
      have r3 := hlz.cell 3
      have r4 := hlz.cell 4
      have r5 := hlz.cell 5
      have r6 := hlz.cell 6
      have r7 := hlz.cell 7
      have r8 := hlz.cell 8
      have r9 := hlz.cell 9
      have r10 := hlz.cell 10
      have r11 := hlz.cell 11
      simp at r0 r1 r2 r3 r4 r5 r6 r7 r8 r9 r10 r11
      clear hst hlz hgz h0 h1 h2 h3 h4 h5 h6 x0 x1 x2 x3 x4 x5 x6 x7 x8 x9 x10 x11 c1 c3 df
      go_wp2_with (first | (refine wpList_load1d (by rfl) 30 (.tmp 12) rfl (.pointer (some ⟨D, 0, none⟩)) (.agg (dCs false 0 0 n ⟨#[]⟩ 0 0 0 0 0 (.slice none 0 0) ⟨#[]⟩)) rfl HLy.out ?_) | (refine wpList_store1d rfl 30 (.tmp 8) (.tmp 162) rfl (.pointer (some ⟨R, 0, none⟩)) (.agg (dCs false 0 0 n ⟨#[]⟩ 0 0 0 0 0 (.slice none 0 0) ⟨#[]⟩)) rfl rfl HSt.out ?_) | fail)
      refine bodyPost_ret (v := .tuple #[.agg (dCs false 0 0 n ⟨#[]⟩ 0 0 0 0 0 (.slice none 0 0) ⟨#[]⟩), .int .i64 0]) (by simp [results, Tryz.results12, go_sem, r0, r1, r2, r3, r4, r5, r6, r7, r8, r9, r10, r11]) rfl ?_
      exact ⟨rfl, HBz.out⟩
/-- How the numbers stand. -/
def NumRmx (w wr : World) (R C H D : Nat) (S : ByteArray) (a z : Nat) (vs : Nat → Nat) (i : Value) : Prop :=
  (i = .int .i64 0 ∧ RdS w wr R C H D S (a + 0) z #[.bool false, .bool true, .bool false, .bool false, .bool false, .int .i64 1, .int .i64 2] (dCs false 0 0 ⟨#[]⟩ ⟨#[]⟩ 0 0 0 0 0 (.slice none 0 0) ⟨#[]⟩)) ∨ (i = .int .i64 1 ∧ RdS w wr R C H D S (a + 2) z #[.bool false, .bool true, .bool false, .bool false, .bool false, .int .i64 1, .int .i64 2] (dCs false 0 0 ⟨#[]⟩ ⟨#[]⟩ ((vs 0 : Nat) : Int) 0 0 0 0 (.slice none 0 0) ⟨#[]⟩))
set_option maxHeartbeats 4000000 in
theorem refRead_mx (S n : ByteArray) (a z : Nat) (vs : Nat → Nat) (w : World) (haz : a + 2 ≤ z) (hz : z ≤ S.size) (hs : S.size ≤ 1099511627776)
    (hvs : ∀ k, k < 1 → numL (((bs S).drop (a + k * 2)).take 2) = vs k)
    (hcn : ∀ wx c, Lies wx c 91 (cursC S (a + 2) z) → Calls Tryz.prog 46 #[.pointer (some ⟨c, 0, none⟩), .bool false] wx (CurO wx c S z z (.string n)))
    (hh : ∀ wx, Calls Tryz.prog 43 #[.int .i64 15] wx (Told wx (.agg (hasC false true false false false 1 2))))
    (hck : ∀ wx, Calls Tryz.prog 48 #[.int .i64 15, (.agg (dCs false 0 0 n ⟨#[]⟩ ((vs 0 : Nat) : Int) 0 0 0 0 (.slice none 0 0) ⟨#[]⟩))] wx (Told wx (.int .i64 0))) :
    Calls Tryz.prog 12 #[.string S, .int .i64 (a : Int), .int .i64 (z : Int), .int .i64 15] w (Red w (.agg (dCs false 0 0 n ⟨#[]⟩ ((vs 0 : Nat) : Int) 0 0 0 0 (.slice none 0 0) ⟨#[]⟩))) := by
  have HCk := Lib.hid hck
  have HCn := Lib.hid hcn
  have HVs := Lib.hid hvs
  clear hck hcn hvs
  have HH := Lib.hid hh
  have z1 : decide ((a : Int) < 0) = false := decide_eq_false (by omega)
  have z2 : decide ((z : Int) < (a : Int)) = false := decide_eq_false (by omega)
  have z2' : decide (z < a) = false := decide_eq_false (by omega)
  have z3 : decide ((S.size : Int) < (z : Int)) = false := decide_eq_false (by omega)
  have z3' : decide (S.size < z) = false := decide_eq_false (by omega)
  have hz' : (z : Int) ≤ 1099511627776 := by omega
  have ha' : (a : Int) ≤ (z : Int) := by omega
  have HAZ := Lib.hid haz
  have HZS := Lib.hid hz
  have HSS := Lib.hid hs
  have hk4 := (((Below.refl w.heap.size w).alloc (Nat.le_refl _) (.cells #[.bool false, .int .u64 0, .int .u64 0, .string ⟨#[]⟩, .string ⟨#[]⟩, .int .u32 0, .int .u32 0, .int .u32 0, .int .u32 0, .int .u32 0, .slice none 0 0, .string ⟨#[]⟩] 30)).alloc (by simp) (.cells #[.string S, .int .i64 (a : Int), .int .i64 (z : Int), .int .i64 0] 91))
  have hr4 : Lies ((w.alloc (.cells #[.bool false, .int .u64 0, .int .u64 0, .string ⟨#[]⟩, .string ⟨#[]⟩, .int .u32 0, .int .u32 0, .int .u32 0, .int .u32 0, .int .u32 0, .slice none 0 0, .string ⟨#[]⟩] 30)).alloc (.cells #[.string S, .int .i64 (a : Int), .int .i64 (z : Int), .int .i64 0] 91)) w.heap.size 30 zD := (Lies.new w _ _).alloc _
  have hc4 : Lies ((w.alloc (.cells #[.bool false, .int .u64 0, .int .u64 0, .string ⟨#[]⟩, .string ⟨#[]⟩, .int .u32 0, .int .u32 0, .int .u32 0, .int .u32 0, .int .u32 0, .slice none 0 0, .string ⟨#[]⟩] 30)).alloc (.cells #[.string S, .int .i64 (a : Int), .int .i64 (z : Int), .int .i64 0] 91)) (w.heap.size + 1) 91 (cursC S a z) := two_box _ _ _ _
  clear hh haz hz hs
  go_enter Tryz.func12, Tryz.ntmps12
  go_upto_region 4 with (fail)
  obtain ⟨W4, hW4⟩ : ∃ x, x = (w.alloc (.cells #[.bool false, .int .u64 0, .int .u64 0, .string ⟨#[]⟩, .string ⟨#[]⟩, .int .u32 0, .int .u32 0, .int .u32 0, .int .u32 0, .int .u32 0, .slice none 0 0, .string ⟨#[]⟩] 30)).alloc (.cells #[.string S, .int .i64 (a : Int), .int .i64 (z : Int), .int .i64 0] 91) := ⟨_, rfl⟩
  rw [← hW4] at hk4 hr4 hc4 ⊢
  obtain ⟨R, hR⟩ : ∃ x, x = w.heap.size := ⟨_, rfl⟩
  obtain ⟨C, hC⟩ : ∃ x, x = w.heap.size + 1 := ⟨_, rfl⟩
  rw [← hR] at hr4
  rw [← hC] at hc4
  clear z1 z2 z2' z3 z3' hW4
  rw [← hC, ← hR]
  go_wp2_with fail
  refine (HH.out _).mono ?_
  rintro e w5 ⟨rfl, hb5⟩
  have hk6 : RdS w ((w5.alloc (.cells #[.bool false, .bool true, .bool false, .bool false, .bool false, .int .i64 1, .int .i64 2] 93)).alloc (.cells #[.bool false, .int .u64 0, .int .u64 0, .string ⟨#[]⟩, .string ⟨#[]⟩, .int .u32 0, .int .u32 0, .int .u32 0, .int .u32 0, .int .u32 0, .slice none 0 0, .string ⟨#[]⟩] 30)) R C w5.heap.size (w5.heap.size + 1) S a z #[.bool false, .bool true, .bool false, .bool false, .bool false, .int .i64 1, .int .i64 2] zD := by
    have hlt := Nat.lt_of_lt_of_le hc4.lt hb5.size
    exact ⟨((hk4.trans (hb5.mono hk4.size)).alloc (Nat.le_trans hk4.size hb5.size) _).alloc (by have := Nat.le_trans hk4.size hb5.size; simp; omega) _, ((hr4.next hb5).alloc _).alloc _, ((hc4.next hb5).alloc _).alloc _, (Lies.new w5 _ _).alloc _, two_box _ _ _ _, by omega⟩
  have HR : Hid (w.heap.size = R) := Lib.hid hR.symm
  clear hk4 hr4 hc4 hb5 hR hC HH
  go_upto_region 6 with (fail)
  obtain ⟨W6, hW6⟩ : ∃ x, x = (w5.alloc (.cells #[.bool false, .bool true, .bool false, .bool false, .bool false, .int .i64 1, .int .i64 2] 93)).alloc (.cells #[.bool false, .int .u64 0, .int .u64 0, .string ⟨#[]⟩, .string ⟨#[]⟩, .int .u32 0, .int .u32 0, .int .u32 0, .int .u32 0, .int .u32 0, .slice none 0 0, .string ⟨#[]⟩] 30) := ⟨_, rfl⟩
  rw [← hW6] at hk6 ⊢
  obtain ⟨H, hH⟩ : ∃ x, x = w5.heap.size := ⟨_, rfl⟩
  obtain ⟨D, hD⟩ : ∃ x, x = w5.heap.size + 1 := ⟨_, rfl⟩
  rw [← hD, ← hH] at hk6 ⊢
  clear hW6 hH hD
  have HK := Lib.hid hk6
  have h0 := hk6.h.cell 0
  have h1 := hk6.h.cell 1
  have h2 := hk6.h.cell 2
  have h3 := hk6.h.cell 3
  have h4 := hk6.h.cell 4
  have h5 := hk6.h.cell 5
  have h6 := hk6.h.cell 6
  have x0 := hk6.d.cell 0
  have x1 := hk6.d.cell 1
  have x2 := hk6.d.cell 2
  have x3 := hk6.d.cell 3
  have x4 := hk6.d.cell 4
  have x5 := hk6.d.cell 5
  have x6 := hk6.d.cell 6
  have x7 := hk6.d.cell 7
  have x8 := hk6.d.cell 8
  have x9 := hk6.d.cell 9
  have x10 := hk6.d.cell 10
  have x11 := hk6.d.cell 11
  obtain ⟨c1, c3, df⟩ := hk6.facts
  simp at h0 h1 h2 h3 h4 h5 h6 x0 x1 x2 x3 x4 x5 x6 x7 x8 x9 x10 x11
  clear hk6
  go_wp2
  go_loopw [14] (fun i wr => NumRmx w wr R C H D S a z vs i) (fun i _ => 1 - (intOf i).toNat)
  case atStart => exact .inl ⟨rfl, HK.out⟩
  case round =>
    rcases hrel with ⟨rfl, hk⟩ | ⟨rfl, hk⟩
    · have HKk := Lib.hid hk
      have HT : Hid (Calls Tryz.prog 47 #[.pointer (some ⟨C, 0, none⟩), .int .i64 2] wr (CurO wr C S (a + 2) z (.int .u32 ((vs 0 : Nat) : Int)))) := Lib.hid (by
        have h := refNumber_ok S (a + 0) z 2 wr C HKk.out.c (by have := HAZ.out; omega) HZS.out HSS.out (by decide)
        rw [HVs.out 0 (by decide)] at h
        exact h)
      clear hk
      have hkk := HKk.out
      have h0 := hkk.h.cell 0
      have h1 := hkk.h.cell 1
      have h2 := hkk.h.cell 2
      have h3 := hkk.h.cell 3
      have h4 := hkk.h.cell 4
      have h5 := hkk.h.cell 5
      have h6 := hkk.h.cell 6
      have x0 := hkk.d.cell 0
      have x1 := hkk.d.cell 1
      have x2 := hkk.d.cell 2
      have x3 := hkk.d.cell 3
      have x4 := hkk.d.cell 4
      have x5 := hkk.d.cell 5
      have x6 := hkk.d.cell 6
      have x7 := hkk.d.cell 7
      have x8 := hkk.d.cell 8
      have x9 := hkk.d.cell 9
      have x10 := hkk.d.cell 10
      have x11 := hkk.d.cell 11
      obtain ⟨c1, c3, df⟩ := hkk.facts
      simp at h0 h1 h2 h3 h4 h5 h6 x0 x1 x2 x3 x4 x5 x6 x7 x8 x9 x10 x11
      clear hkk
      go_wp2_with fail
      refine HT.out.mono ?_
      rintro e wn ⟨rfl, hcn, hgn⟩
      have HKn := Lib.hid (HKk.out.call hcn hgn)
      clear hcn hgn
      clear h0 h1 h2 h3 h4 h5 h6 x0 x1 x2 x3 x4 x5 x6 x7 x8 x9 x10 x11 c1 c3 df
      have hkk := HKn.out
      have h0 := hkk.h.cell 0
      have h1 := hkk.h.cell 1
      have h2 := hkk.h.cell 2
      have h3 := hkk.h.cell 3
      have h4 := hkk.h.cell 4
      have h5 := hkk.h.cell 5
      have h6 := hkk.h.cell 6
      have x0 := hkk.d.cell 0
      have x1 := hkk.d.cell 1
      have x2 := hkk.d.cell 2
      have x3 := hkk.d.cell 3
      have x4 := hkk.d.cell 4
      have x5 := hkk.d.cell 5
      have x6 := hkk.d.cell 6
      have x7 := hkk.d.cell 7
      have x8 := hkk.d.cell 8
      have x9 := hkk.d.cell 9
      have x10 := hkk.d.cell 10
      have x11 := hkk.d.cell 11
      obtain ⟨c1, c3, df⟩ := hkk.facts
      simp at h0 h1 h2 h3 h4 h5 h6 x0 x1 x2 x3 x4 x5 x6 x7 x8 x9 x10 x11
      clear hkk
      go_wp2
      go_roundw
      case rel => exact .inr ( ⟨rfl, HKn.out.put (cs' := dCs false 0 0 ⟨#[]⟩ ⟨#[]⟩ ((vs 0 : Nat) : Int) 0 0 0 0 (.slice none 0 0) ⟨#[]⟩) 5 (.int .u32 ((vs 0 : Nat) : Int)) rfl⟩)
      case measure => simp [intOf]
    · have HKk := Lib.hid hk
      clear hk
      have hkk := HKk.out
      have h0 := hkk.h.cell 0
      have h1 := hkk.h.cell 1
      have h2 := hkk.h.cell 2
      have h3 := hkk.h.cell 3
      have h4 := hkk.h.cell 4
      have h5 := hkk.h.cell 5
      have h6 := hkk.h.cell 6
      have x0 := hkk.d.cell 0
      have x1 := hkk.d.cell 1
      have x2 := hkk.d.cell 2
      have x3 := hkk.d.cell 3
      have x4 := hkk.d.cell 4
      have x5 := hkk.d.cell 5
      have x6 := hkk.d.cell 6
      have x7 := hkk.d.cell 7
      have x8 := hkk.d.cell 8
      have x9 := hkk.d.cell 9
      have x10 := hkk.d.cell 10
      have x11 := hkk.d.cell 11
      obtain ⟨c1, c3, df⟩ := hkk.facts
      simp at h0 h1 h2 h3 h4 h5 h6 x0 x1 x2 x3 x4 x5 x6 x7 x8 x9 x10 x11
      clear hkk
      have HT := Lib.hid (HCn.out wr C HKk.out.c)
      go_wp2_with fail
      refine HT.out.mono ?_
      rintro e w7 ⟨rfl, hc7, hg7⟩
      have HK7 := Lib.hid (HKk.out.call hc7 hg7)
      clear hc7 hg7
      clear h0 h1 h2 h3 h4 h5 h6 x0 x1 x2 x3 x4 x5 x6 x7 x8 x9 x10 x11 c1 c3 df
      have hkk := HK7.out
      have h0 := hkk.h.cell 0
      have h1 := hkk.h.cell 1
      have h2 := hkk.h.cell 2
      have h3 := hkk.h.cell 3
      have h4 := hkk.h.cell 4
      have h5 := hkk.h.cell 5
      have h6 := hkk.h.cell 6
      have x0 := hkk.d.cell 0
      have x1 := hkk.d.cell 1
      have x2 := hkk.d.cell 2
      have x3 := hkk.d.cell 3
      have x4 := hkk.d.cell 4
      have x5 := hkk.d.cell 5
      have x6 := hkk.d.cell 6
      have x7 := hkk.d.cell 7
      have x8 := hkk.d.cell 8
      have x9 := hkk.d.cell 9
      have x10 := hkk.d.cell 10
      have x11 := hkk.d.cell 11
      obtain ⟨c1, c3, df⟩ := hkk.facts
      simp at h0 h1 h2 h3 h4 h5 h6 x0 x1 x2 x3 x4 x5 x6 x7 x8 x9 x10 x11
      clear hkk
      go_upto_region 20 with (fail)
      have hk9 := HK7.out.put (cs' := dCs false 0 0 n ⟨#[]⟩ ((vs 0 : Nat) : Int) 0 0 0 0 (.slice none 0 0) ⟨#[]⟩) 3 (.string n) rfl
      obtain ⟨W9, hW9⟩ : ∃ x, x = w7.setCell ⟨D, 3, none⟩ (.string n) := ⟨_, rfl⟩
      rw [← hW9] at hk9 ⊢
      have HK9 := Lib.hid hk9
      clear hW9 hk9
      clear h0 h1 h2 h3 h4 h5 h6 x0 x1 x2 x3 x4 x5 x6 x7 x8 x9 x10 x11 c1 c3 df
      have hkk := HK9.out
      have h0 := hkk.h.cell 0
      have h1 := hkk.h.cell 1
      have h2 := hkk.h.cell 2
      have h3 := hkk.h.cell 3
      have h4 := hkk.h.cell 4
      have h5 := hkk.h.cell 5
      have h6 := hkk.h.cell 6
      have x0 := hkk.d.cell 0
      have x1 := hkk.d.cell 1
      have x2 := hkk.d.cell 2
      have x3 := hkk.d.cell 3
      have x4 := hkk.d.cell 4
      have x5 := hkk.d.cell 5
      have x6 := hkk.d.cell 6
      have x7 := hkk.d.cell 7
      have x8 := hkk.d.cell 8
      have x9 := hkk.d.cell 9
      have x10 := hkk.d.cell 10
      have x11 := hkk.d.cell 11
      obtain ⟨c1, c3, df⟩ := hkk.facts
      simp at h0 h1 h2 h3 h4 h5 h6 x0 x1 x2 x3 x4 x5 x6 x7 x8 x9 x10 x11
      clear hkk
      go_wp2
      go_loop [113] (fun _ => True) (fun _ => 0)
      case atStart => trivial
      case round =>
        clear hrel
        go_upto_region 24 with (fail)
        have hld := load_dw HK9.out.d
        have HLd := Lib.hid hld
        clear hld
        go_wp2_with (first | (refine wpList_load1d (by rfl) 30 (.tmp 12) rfl (.pointer (some ⟨D, 0, none⟩)) (.agg (dCs false 0 0 n ⟨#[]⟩ ((vs 0 : Nat) : Int) 0 0 0 0 (.slice none 0 0) ⟨#[]⟩)) rfl HLd.out ?_) | fail)
        refine (HCk.out _).mono ?_
        rintro e wy ⟨rfl, hby⟩
        have HKy := Lib.hid (HK9.out.next hby)
        clear hby HLd
        clear h0 h1 h2 h3 h4 h5 h6 x0 x1 x2 x3 x4 x5 x6 x7 x8 x9 x10 x11 c1 c3 df
        have hkk := HKy.out
        have h0 := hkk.h.cell 0
        have h1 := hkk.h.cell 1
        have h2 := hkk.h.cell 2
        have h3 := hkk.h.cell 3
        have h4 := hkk.h.cell 4
        have h5 := hkk.h.cell 5
        have h6 := hkk.h.cell 6
        have x0 := hkk.d.cell 0
        have x1 := hkk.d.cell 1
        have x2 := hkk.d.cell 2
        have x3 := hkk.d.cell 3
        have x4 := hkk.d.cell 4
        have x5 := hkk.d.cell 5
        have x6 := hkk.d.cell 6
        have x7 := hkk.d.cell 7
        have x8 := hkk.d.cell 8
        have x9 := hkk.d.cell 9
        have x10 := hkk.d.cell 10
        have x11 := hkk.d.cell 11
        obtain ⟨c1, c3, df⟩ := hkk.facts
        simp at h0 h1 h2 h3 h4 h5 h6 x0 x1 x2 x3 x4 x5 x6 x7 x8 x9 x10 x11
        clear hkk
        go_upto_region 28 with (fail)
        obtain ⟨wz, hst, hlz, hgz⟩ := store_dw HKy.out.r false 0 0 n ⟨#[]⟩ ((vs 0 : Nat) : Int) 0 0 0 0 none 0 0 ⟨#[]⟩
        have HLy := Lib.hid (load_dw HKy.out.d)
        have HSt := Lib.hid hst
        have HBz : Hid (Below w.heap.size w wz) := Lib.hid (HKy.out.bel.grown hgz HKy.out.bel.size (fun j e => by injection e with e; have := HKy.out.o; omega))
        have r0 := hlz.cell 0
        have r1 := hlz.cell 1
        have r2 := hlz.cell 2
        have r3 := hlz.cell 3
        have r4 := hlz.cell 4
        have r5 := hlz.cell 5
        have r6 := hlz.cell 6
        have r7 := hlz.cell 7
        have r8 := hlz.cell 8
        have r9 := hlz.cell 9
        have r10 := hlz.cell 10
        have r11 := hlz.cell 11
        simp at r0 r1 r2 r3 r4 r5 r6 r7 r8 r9 r10 r11
        clear hst hlz hgz h0 h1 h2 h3 h4 h5 h6 x0 x1 x2 x3 x4 x5 x6 x7 x8 x9 x10 x11 c1 c3 df
        go_wp2_with (first | (refine wpList_load1d (by rfl) 30 (.tmp 12) rfl (.pointer (some ⟨D, 0, none⟩)) (.agg (dCs false 0 0 n ⟨#[]⟩ ((vs 0 : Nat) : Int) 0 0 0 0 (.slice none 0 0) ⟨#[]⟩)) rfl HLy.out ?_) | (refine wpList_store1d rfl 30 (.tmp 8) (.tmp 162) rfl (.pointer (some ⟨R, 0, none⟩)) (.agg (dCs false 0 0 n ⟨#[]⟩ ((vs 0 : Nat) : Int) 0 0 0 0 (.slice none 0 0) ⟨#[]⟩)) rfl rfl HSt.out ?_) | fail)
        refine bodyPost_ret (v := .tuple #[.agg (dCs false 0 0 n ⟨#[]⟩ ((vs 0 : Nat) : Int) 0 0 0 0 (.slice none 0 0) ⟨#[]⟩), .int .i64 0]) (by simp [results, Tryz.results12, go_sem, r0, r1, r2, r3, r4, r5, r6, r7, r8, r9, r10, r11]) rfl ?_
        exact ⟨rfl, HBz.out⟩
/-- How the numbers stand. -/
def NumRsrv (w wr : World) (R C H D : Nat) (S : ByteArray) (a z : Nat) (vs : Nat → Nat) (i : Value) : Prop :=
  (i = .int .i64 0 ∧ RdS w wr R C H D S (a + 0) z #[.bool false, .bool true, .bool false, .bool false, .bool false, .int .i64 3, .int .i64 2] (dCs false 0 0 ⟨#[]⟩ ⟨#[]⟩ 0 0 0 0 0 (.slice none 0 0) ⟨#[]⟩)) ∨ (i = .int .i64 1 ∧ RdS w wr R C H D S (a + 2) z #[.bool false, .bool true, .bool false, .bool false, .bool false, .int .i64 3, .int .i64 2] (dCs false 0 0 ⟨#[]⟩ ⟨#[]⟩ ((vs 0 : Nat) : Int) 0 0 0 0 (.slice none 0 0) ⟨#[]⟩)) ∨ (i = .int .i64 2 ∧ RdS w wr R C H D S (a + 4) z #[.bool false, .bool true, .bool false, .bool false, .bool false, .int .i64 3, .int .i64 2] (dCs false 0 0 ⟨#[]⟩ ⟨#[]⟩ ((vs 0 : Nat) : Int) ((vs 1 : Nat) : Int) 0 0 0 (.slice none 0 0) ⟨#[]⟩)) ∨ (i = .int .i64 3 ∧ RdS w wr R C H D S (a + 6) z #[.bool false, .bool true, .bool false, .bool false, .bool false, .int .i64 3, .int .i64 2] (dCs false 0 0 ⟨#[]⟩ ⟨#[]⟩ ((vs 0 : Nat) : Int) ((vs 1 : Nat) : Int) ((vs 2 : Nat) : Int) 0 0 (.slice none 0 0) ⟨#[]⟩))
set_option maxHeartbeats 4000000 in
theorem refRead_srv (S n : ByteArray) (a z : Nat) (vs : Nat → Nat) (w : World) (haz : a + 6 ≤ z) (hz : z ≤ S.size) (hs : S.size ≤ 1099511627776)
    (hvs : ∀ k, k < 3 → numL (((bs S).drop (a + k * 2)).take 2) = vs k)
    (hcn : ∀ wx c, Lies wx c 91 (cursC S (a + 6) z) → Calls Tryz.prog 46 #[.pointer (some ⟨c, 0, none⟩), .bool true] wx (CurO wx c S z z (.string n)))
    (hh : ∀ wx, Calls Tryz.prog 43 #[.int .i64 33] wx (Told wx (.agg (hasC false true false false false 3 2))))
    (hck : ∀ wx, Calls Tryz.prog 48 #[.int .i64 33, (.agg (dCs false 0 0 n ⟨#[]⟩ ((vs 0 : Nat) : Int) ((vs 1 : Nat) : Int) ((vs 2 : Nat) : Int) 0 0 (.slice none 0 0) ⟨#[]⟩))] wx (Told wx (.int .i64 0))) :
    Calls Tryz.prog 12 #[.string S, .int .i64 (a : Int), .int .i64 (z : Int), .int .i64 33] w (Red w (.agg (dCs false 0 0 n ⟨#[]⟩ ((vs 0 : Nat) : Int) ((vs 1 : Nat) : Int) ((vs 2 : Nat) : Int) 0 0 (.slice none 0 0) ⟨#[]⟩))) := by
  have HCk := Lib.hid hck
  have HCn := Lib.hid hcn
  have HVs := Lib.hid hvs
  clear hck hcn hvs
  have HH := Lib.hid hh
  have z1 : decide ((a : Int) < 0) = false := decide_eq_false (by omega)
  have z2 : decide ((z : Int) < (a : Int)) = false := decide_eq_false (by omega)
  have z2' : decide (z < a) = false := decide_eq_false (by omega)
  have z3 : decide ((S.size : Int) < (z : Int)) = false := decide_eq_false (by omega)
  have z3' : decide (S.size < z) = false := decide_eq_false (by omega)
  have hz' : (z : Int) ≤ 1099511627776 := by omega
  have ha' : (a : Int) ≤ (z : Int) := by omega
  have HAZ := Lib.hid haz
  have HZS := Lib.hid hz
  have HSS := Lib.hid hs
  have hk4 := (((Below.refl w.heap.size w).alloc (Nat.le_refl _) (.cells #[.bool false, .int .u64 0, .int .u64 0, .string ⟨#[]⟩, .string ⟨#[]⟩, .int .u32 0, .int .u32 0, .int .u32 0, .int .u32 0, .int .u32 0, .slice none 0 0, .string ⟨#[]⟩] 30)).alloc (by simp) (.cells #[.string S, .int .i64 (a : Int), .int .i64 (z : Int), .int .i64 0] 91))
  have hr4 : Lies ((w.alloc (.cells #[.bool false, .int .u64 0, .int .u64 0, .string ⟨#[]⟩, .string ⟨#[]⟩, .int .u32 0, .int .u32 0, .int .u32 0, .int .u32 0, .int .u32 0, .slice none 0 0, .string ⟨#[]⟩] 30)).alloc (.cells #[.string S, .int .i64 (a : Int), .int .i64 (z : Int), .int .i64 0] 91)) w.heap.size 30 zD := (Lies.new w _ _).alloc _
  have hc4 : Lies ((w.alloc (.cells #[.bool false, .int .u64 0, .int .u64 0, .string ⟨#[]⟩, .string ⟨#[]⟩, .int .u32 0, .int .u32 0, .int .u32 0, .int .u32 0, .int .u32 0, .slice none 0 0, .string ⟨#[]⟩] 30)).alloc (.cells #[.string S, .int .i64 (a : Int), .int .i64 (z : Int), .int .i64 0] 91)) (w.heap.size + 1) 91 (cursC S a z) := two_box _ _ _ _
  clear hh haz hz hs
  go_enter Tryz.func12, Tryz.ntmps12
  go_upto_region 4 with (fail)
  obtain ⟨W4, hW4⟩ : ∃ x, x = (w.alloc (.cells #[.bool false, .int .u64 0, .int .u64 0, .string ⟨#[]⟩, .string ⟨#[]⟩, .int .u32 0, .int .u32 0, .int .u32 0, .int .u32 0, .int .u32 0, .slice none 0 0, .string ⟨#[]⟩] 30)).alloc (.cells #[.string S, .int .i64 (a : Int), .int .i64 (z : Int), .int .i64 0] 91) := ⟨_, rfl⟩
  rw [← hW4] at hk4 hr4 hc4 ⊢
  obtain ⟨R, hR⟩ : ∃ x, x = w.heap.size := ⟨_, rfl⟩
  obtain ⟨C, hC⟩ : ∃ x, x = w.heap.size + 1 := ⟨_, rfl⟩
  rw [← hR] at hr4
  rw [← hC] at hc4
  clear z1 z2 z2' z3 z3' hW4
  rw [← hC, ← hR]
  go_wp2_with fail
  refine (HH.out _).mono ?_
  rintro e w5 ⟨rfl, hb5⟩
  have hk6 : RdS w ((w5.alloc (.cells #[.bool false, .bool true, .bool false, .bool false, .bool false, .int .i64 3, .int .i64 2] 93)).alloc (.cells #[.bool false, .int .u64 0, .int .u64 0, .string ⟨#[]⟩, .string ⟨#[]⟩, .int .u32 0, .int .u32 0, .int .u32 0, .int .u32 0, .int .u32 0, .slice none 0 0, .string ⟨#[]⟩] 30)) R C w5.heap.size (w5.heap.size + 1) S a z #[.bool false, .bool true, .bool false, .bool false, .bool false, .int .i64 3, .int .i64 2] zD := by
    have hlt := Nat.lt_of_lt_of_le hc4.lt hb5.size
    exact ⟨((hk4.trans (hb5.mono hk4.size)).alloc (Nat.le_trans hk4.size hb5.size) _).alloc (by have := Nat.le_trans hk4.size hb5.size; simp; omega) _, ((hr4.next hb5).alloc _).alloc _, ((hc4.next hb5).alloc _).alloc _, (Lies.new w5 _ _).alloc _, two_box _ _ _ _, by omega⟩
  have HR : Hid (w.heap.size = R) := Lib.hid hR.symm
  clear hk4 hr4 hc4 hb5 hR hC HH
  go_upto_region 6 with (fail)
  obtain ⟨W6, hW6⟩ : ∃ x, x = (w5.alloc (.cells #[.bool false, .bool true, .bool false, .bool false, .bool false, .int .i64 3, .int .i64 2] 93)).alloc (.cells #[.bool false, .int .u64 0, .int .u64 0, .string ⟨#[]⟩, .string ⟨#[]⟩, .int .u32 0, .int .u32 0, .int .u32 0, .int .u32 0, .int .u32 0, .slice none 0 0, .string ⟨#[]⟩] 30) := ⟨_, rfl⟩
  rw [← hW6] at hk6 ⊢
  obtain ⟨H, hH⟩ : ∃ x, x = w5.heap.size := ⟨_, rfl⟩
  obtain ⟨D, hD⟩ : ∃ x, x = w5.heap.size + 1 := ⟨_, rfl⟩
  rw [← hD, ← hH] at hk6 ⊢
  clear hW6 hH hD
  have HK := Lib.hid hk6
  have h0 := hk6.h.cell 0
  have h1 := hk6.h.cell 1
  have h2 := hk6.h.cell 2
  have h3 := hk6.h.cell 3
  have h4 := hk6.h.cell 4
  have h5 := hk6.h.cell 5
  have h6 := hk6.h.cell 6
  have x0 := hk6.d.cell 0
  have x1 := hk6.d.cell 1
  have x2 := hk6.d.cell 2
  have x3 := hk6.d.cell 3
  have x4 := hk6.d.cell 4
  have x5 := hk6.d.cell 5
  have x6 := hk6.d.cell 6
  have x7 := hk6.d.cell 7
  have x8 := hk6.d.cell 8
  have x9 := hk6.d.cell 9
  have x10 := hk6.d.cell 10
  have x11 := hk6.d.cell 11
  obtain ⟨c1, c3, df⟩ := hk6.facts
  simp at h0 h1 h2 h3 h4 h5 h6 x0 x1 x2 x3 x4 x5 x6 x7 x8 x9 x10 x11
  clear hk6
  go_wp2
  go_loopw [14] (fun i wr => NumRsrv w wr R C H D S a z vs i) (fun i _ => 3 - (intOf i).toNat)
  case atStart => exact .inl ⟨rfl, HK.out⟩
  case round =>
    rcases hrel with ⟨rfl, hk⟩ | ⟨rfl, hk⟩ | ⟨rfl, hk⟩ | ⟨rfl, hk⟩
    · have HKk := Lib.hid hk
      have HT : Hid (Calls Tryz.prog 47 #[.pointer (some ⟨C, 0, none⟩), .int .i64 2] wr (CurO wr C S (a + 2) z (.int .u32 ((vs 0 : Nat) : Int)))) := Lib.hid (by
        have h := refNumber_ok S (a + 0) z 2 wr C HKk.out.c (by have := HAZ.out; omega) HZS.out HSS.out (by decide)
        rw [HVs.out 0 (by decide)] at h
        exact h)
      clear hk
      have hkk := HKk.out
      have h0 := hkk.h.cell 0
      have h1 := hkk.h.cell 1
      have h2 := hkk.h.cell 2
      have h3 := hkk.h.cell 3
      have h4 := hkk.h.cell 4
      have h5 := hkk.h.cell 5
      have h6 := hkk.h.cell 6
      have x0 := hkk.d.cell 0
      have x1 := hkk.d.cell 1
      have x2 := hkk.d.cell 2
      have x3 := hkk.d.cell 3
      have x4 := hkk.d.cell 4
      have x5 := hkk.d.cell 5
      have x6 := hkk.d.cell 6
      have x7 := hkk.d.cell 7
      have x8 := hkk.d.cell 8
      have x9 := hkk.d.cell 9
      have x10 := hkk.d.cell 10
      have x11 := hkk.d.cell 11
      obtain ⟨c1, c3, df⟩ := hkk.facts
      simp at h0 h1 h2 h3 h4 h5 h6 x0 x1 x2 x3 x4 x5 x6 x7 x8 x9 x10 x11
      clear hkk
      go_wp2_with fail
      refine HT.out.mono ?_
      rintro e wn ⟨rfl, hcn, hgn⟩
      have HKn := Lib.hid (HKk.out.call hcn hgn)
      clear hcn hgn
      clear h0 h1 h2 h3 h4 h5 h6 x0 x1 x2 x3 x4 x5 x6 x7 x8 x9 x10 x11 c1 c3 df
      have hkk := HKn.out
      have h0 := hkk.h.cell 0
      have h1 := hkk.h.cell 1
      have h2 := hkk.h.cell 2
      have h3 := hkk.h.cell 3
      have h4 := hkk.h.cell 4
      have h5 := hkk.h.cell 5
      have h6 := hkk.h.cell 6
      have x0 := hkk.d.cell 0
      have x1 := hkk.d.cell 1
      have x2 := hkk.d.cell 2
      have x3 := hkk.d.cell 3
      have x4 := hkk.d.cell 4
      have x5 := hkk.d.cell 5
      have x6 := hkk.d.cell 6
      have x7 := hkk.d.cell 7
      have x8 := hkk.d.cell 8
      have x9 := hkk.d.cell 9
      have x10 := hkk.d.cell 10
      have x11 := hkk.d.cell 11
      obtain ⟨c1, c3, df⟩ := hkk.facts
      simp at h0 h1 h2 h3 h4 h5 h6 x0 x1 x2 x3 x4 x5 x6 x7 x8 x9 x10 x11
      clear hkk
      go_wp2
      go_roundw
      case rel => exact .inr (.inl ⟨rfl, HKn.out.put (cs' := dCs false 0 0 ⟨#[]⟩ ⟨#[]⟩ ((vs 0 : Nat) : Int) 0 0 0 0 (.slice none 0 0) ⟨#[]⟩) 5 (.int .u32 ((vs 0 : Nat) : Int)) rfl⟩)
      case measure => simp [intOf]
    · have HKk := Lib.hid hk
      have HT : Hid (Calls Tryz.prog 47 #[.pointer (some ⟨C, 0, none⟩), .int .i64 2] wr (CurO wr C S (a + 4) z (.int .u32 ((vs 1 : Nat) : Int)))) := Lib.hid (by
        have h := refNumber_ok S (a + 2) z 2 wr C HKk.out.c (by have := HAZ.out; omega) HZS.out HSS.out (by decide)
        rw [HVs.out 1 (by decide)] at h
        exact h)
      clear hk
      have hkk := HKk.out
      have h0 := hkk.h.cell 0
      have h1 := hkk.h.cell 1
      have h2 := hkk.h.cell 2
      have h3 := hkk.h.cell 3
      have h4 := hkk.h.cell 4
      have h5 := hkk.h.cell 5
      have h6 := hkk.h.cell 6
      have x0 := hkk.d.cell 0
      have x1 := hkk.d.cell 1
      have x2 := hkk.d.cell 2
      have x3 := hkk.d.cell 3
      have x4 := hkk.d.cell 4
      have x5 := hkk.d.cell 5
      have x6 := hkk.d.cell 6
      have x7 := hkk.d.cell 7
      have x8 := hkk.d.cell 8
      have x9 := hkk.d.cell 9
      have x10 := hkk.d.cell 10
      have x11 := hkk.d.cell 11
      obtain ⟨c1, c3, df⟩ := hkk.facts
      simp at h0 h1 h2 h3 h4 h5 h6 x0 x1 x2 x3 x4 x5 x6 x7 x8 x9 x10 x11
      clear hkk
      go_wp2_with fail
      refine HT.out.mono ?_
      rintro e wn ⟨rfl, hcn, hgn⟩
      have HKn := Lib.hid (HKk.out.call hcn hgn)
      clear hcn hgn
      clear h0 h1 h2 h3 h4 h5 h6 x0 x1 x2 x3 x4 x5 x6 x7 x8 x9 x10 x11 c1 c3 df
      have hkk := HKn.out
      have h0 := hkk.h.cell 0
      have h1 := hkk.h.cell 1
      have h2 := hkk.h.cell 2
      have h3 := hkk.h.cell 3
      have h4 := hkk.h.cell 4
      have h5 := hkk.h.cell 5
      have h6 := hkk.h.cell 6
      have x0 := hkk.d.cell 0
      have x1 := hkk.d.cell 1
      have x2 := hkk.d.cell 2
      have x3 := hkk.d.cell 3
      have x4 := hkk.d.cell 4
      have x5 := hkk.d.cell 5
      have x6 := hkk.d.cell 6
      have x7 := hkk.d.cell 7
      have x8 := hkk.d.cell 8
      have x9 := hkk.d.cell 9
      have x10 := hkk.d.cell 10
      have x11 := hkk.d.cell 11
      obtain ⟨c1, c3, df⟩ := hkk.facts
      simp at h0 h1 h2 h3 h4 h5 h6 x0 x1 x2 x3 x4 x5 x6 x7 x8 x9 x10 x11
      clear hkk
      go_wp2
      go_roundw
      case rel => exact .inr (.inr (.inl ⟨rfl, HKn.out.put (cs' := dCs false 0 0 ⟨#[]⟩ ⟨#[]⟩ ((vs 0 : Nat) : Int) ((vs 1 : Nat) : Int) 0 0 0 (.slice none 0 0) ⟨#[]⟩) 6 (.int .u32 ((vs 1 : Nat) : Int)) rfl⟩))
      case measure => simp [intOf]
    · have HKk := Lib.hid hk
      have HT : Hid (Calls Tryz.prog 47 #[.pointer (some ⟨C, 0, none⟩), .int .i64 2] wr (CurO wr C S (a + 6) z (.int .u32 ((vs 2 : Nat) : Int)))) := Lib.hid (by
        have h := refNumber_ok S (a + 4) z 2 wr C HKk.out.c (by have := HAZ.out; omega) HZS.out HSS.out (by decide)
        rw [HVs.out 2 (by decide)] at h
        exact h)
      clear hk
      have hkk := HKk.out
      have h0 := hkk.h.cell 0
      have h1 := hkk.h.cell 1
      have h2 := hkk.h.cell 2
      have h3 := hkk.h.cell 3
      have h4 := hkk.h.cell 4
      have h5 := hkk.h.cell 5
      have h6 := hkk.h.cell 6
      have x0 := hkk.d.cell 0
      have x1 := hkk.d.cell 1
      have x2 := hkk.d.cell 2
      have x3 := hkk.d.cell 3
      have x4 := hkk.d.cell 4
      have x5 := hkk.d.cell 5
      have x6 := hkk.d.cell 6
      have x7 := hkk.d.cell 7
      have x8 := hkk.d.cell 8
      have x9 := hkk.d.cell 9
      have x10 := hkk.d.cell 10
      have x11 := hkk.d.cell 11
      obtain ⟨c1, c3, df⟩ := hkk.facts
      simp at h0 h1 h2 h3 h4 h5 h6 x0 x1 x2 x3 x4 x5 x6 x7 x8 x9 x10 x11
      clear hkk
      go_wp2_with fail
      refine HT.out.mono ?_
      rintro e wn ⟨rfl, hcn, hgn⟩
      have HKn := Lib.hid (HKk.out.call hcn hgn)
      clear hcn hgn
      clear h0 h1 h2 h3 h4 h5 h6 x0 x1 x2 x3 x4 x5 x6 x7 x8 x9 x10 x11 c1 c3 df
      have hkk := HKn.out
      have h0 := hkk.h.cell 0
      have h1 := hkk.h.cell 1
      have h2 := hkk.h.cell 2
      have h3 := hkk.h.cell 3
      have h4 := hkk.h.cell 4
      have h5 := hkk.h.cell 5
      have h6 := hkk.h.cell 6
      have x0 := hkk.d.cell 0
      have x1 := hkk.d.cell 1
      have x2 := hkk.d.cell 2
      have x3 := hkk.d.cell 3
      have x4 := hkk.d.cell 4
      have x5 := hkk.d.cell 5
      have x6 := hkk.d.cell 6
      have x7 := hkk.d.cell 7
      have x8 := hkk.d.cell 8
      have x9 := hkk.d.cell 9
      have x10 := hkk.d.cell 10
      have x11 := hkk.d.cell 11
      obtain ⟨c1, c3, df⟩ := hkk.facts
      simp at h0 h1 h2 h3 h4 h5 h6 x0 x1 x2 x3 x4 x5 x6 x7 x8 x9 x10 x11
      clear hkk
      go_wp2
      go_roundw
      case rel => exact .inr (.inr (.inr ( ⟨rfl, HKn.out.put (cs' := dCs false 0 0 ⟨#[]⟩ ⟨#[]⟩ ((vs 0 : Nat) : Int) ((vs 1 : Nat) : Int) ((vs 2 : Nat) : Int) 0 0 (.slice none 0 0) ⟨#[]⟩) 7 (.int .u32 ((vs 2 : Nat) : Int)) rfl⟩)))
      case measure => simp [intOf]
    · have HKk := Lib.hid hk
      clear hk
      have hkk := HKk.out
      have h0 := hkk.h.cell 0
      have h1 := hkk.h.cell 1
      have h2 := hkk.h.cell 2
      have h3 := hkk.h.cell 3
      have h4 := hkk.h.cell 4
      have h5 := hkk.h.cell 5
      have h6 := hkk.h.cell 6
      have x0 := hkk.d.cell 0
      have x1 := hkk.d.cell 1
      have x2 := hkk.d.cell 2
      have x3 := hkk.d.cell 3
      have x4 := hkk.d.cell 4
      have x5 := hkk.d.cell 5
      have x6 := hkk.d.cell 6
      have x7 := hkk.d.cell 7
      have x8 := hkk.d.cell 8
      have x9 := hkk.d.cell 9
      have x10 := hkk.d.cell 10
      have x11 := hkk.d.cell 11
      obtain ⟨c1, c3, df⟩ := hkk.facts
      simp at h0 h1 h2 h3 h4 h5 h6 x0 x1 x2 x3 x4 x5 x6 x7 x8 x9 x10 x11
      clear hkk
      have HT := Lib.hid (HCn.out wr C HKk.out.c)
      go_wp2_with fail
      refine HT.out.mono ?_
      rintro e w7 ⟨rfl, hc7, hg7⟩
      have HK7 := Lib.hid (HKk.out.call hc7 hg7)
      clear hc7 hg7
      clear h0 h1 h2 h3 h4 h5 h6 x0 x1 x2 x3 x4 x5 x6 x7 x8 x9 x10 x11 c1 c3 df
      have hkk := HK7.out
      have h0 := hkk.h.cell 0
      have h1 := hkk.h.cell 1
      have h2 := hkk.h.cell 2
      have h3 := hkk.h.cell 3
      have h4 := hkk.h.cell 4
      have h5 := hkk.h.cell 5
      have h6 := hkk.h.cell 6
      have x0 := hkk.d.cell 0
      have x1 := hkk.d.cell 1
      have x2 := hkk.d.cell 2
      have x3 := hkk.d.cell 3
      have x4 := hkk.d.cell 4
      have x5 := hkk.d.cell 5
      have x6 := hkk.d.cell 6
      have x7 := hkk.d.cell 7
      have x8 := hkk.d.cell 8
      have x9 := hkk.d.cell 9
      have x10 := hkk.d.cell 10
      have x11 := hkk.d.cell 11
      obtain ⟨c1, c3, df⟩ := hkk.facts
      simp at h0 h1 h2 h3 h4 h5 h6 x0 x1 x2 x3 x4 x5 x6 x7 x8 x9 x10 x11
      clear hkk
      go_upto_region 20 with (fail)
      have hk9 := HK7.out.put (cs' := dCs false 0 0 n ⟨#[]⟩ ((vs 0 : Nat) : Int) ((vs 1 : Nat) : Int) ((vs 2 : Nat) : Int) 0 0 (.slice none 0 0) ⟨#[]⟩) 3 (.string n) rfl
      obtain ⟨W9, hW9⟩ : ∃ x, x = w7.setCell ⟨D, 3, none⟩ (.string n) := ⟨_, rfl⟩
      rw [← hW9] at hk9 ⊢
      have HK9 := Lib.hid hk9
      clear hW9 hk9
      clear h0 h1 h2 h3 h4 h5 h6 x0 x1 x2 x3 x4 x5 x6 x7 x8 x9 x10 x11 c1 c3 df
      have hkk := HK9.out
      have h0 := hkk.h.cell 0
      have h1 := hkk.h.cell 1
      have h2 := hkk.h.cell 2
      have h3 := hkk.h.cell 3
      have h4 := hkk.h.cell 4
      have h5 := hkk.h.cell 5
      have h6 := hkk.h.cell 6
      have x0 := hkk.d.cell 0
      have x1 := hkk.d.cell 1
      have x2 := hkk.d.cell 2
      have x3 := hkk.d.cell 3
      have x4 := hkk.d.cell 4
      have x5 := hkk.d.cell 5
      have x6 := hkk.d.cell 6
      have x7 := hkk.d.cell 7
      have x8 := hkk.d.cell 8
      have x9 := hkk.d.cell 9
      have x10 := hkk.d.cell 10
      have x11 := hkk.d.cell 11
      obtain ⟨c1, c3, df⟩ := hkk.facts
      simp at h0 h1 h2 h3 h4 h5 h6 x0 x1 x2 x3 x4 x5 x6 x7 x8 x9 x10 x11
      clear hkk
      go_wp2
      go_loop [113] (fun _ => True) (fun _ => 0)
      case atStart => trivial
      case round =>
        clear hrel
        go_upto_region 24 with (fail)
        have hld := load_dw HK9.out.d
        have HLd := Lib.hid hld
        clear hld
        go_wp2_with (first | (refine wpList_load1d (by rfl) 30 (.tmp 12) rfl (.pointer (some ⟨D, 0, none⟩)) (.agg (dCs false 0 0 n ⟨#[]⟩ ((vs 0 : Nat) : Int) ((vs 1 : Nat) : Int) ((vs 2 : Nat) : Int) 0 0 (.slice none 0 0) ⟨#[]⟩)) rfl HLd.out ?_) | fail)
        refine (HCk.out _).mono ?_
        rintro e wy ⟨rfl, hby⟩
        have HKy := Lib.hid (HK9.out.next hby)
        clear hby HLd
        clear h0 h1 h2 h3 h4 h5 h6 x0 x1 x2 x3 x4 x5 x6 x7 x8 x9 x10 x11 c1 c3 df
        have hkk := HKy.out
        have h0 := hkk.h.cell 0
        have h1 := hkk.h.cell 1
        have h2 := hkk.h.cell 2
        have h3 := hkk.h.cell 3
        have h4 := hkk.h.cell 4
        have h5 := hkk.h.cell 5
        have h6 := hkk.h.cell 6
        have x0 := hkk.d.cell 0
        have x1 := hkk.d.cell 1
        have x2 := hkk.d.cell 2
        have x3 := hkk.d.cell 3
        have x4 := hkk.d.cell 4
        have x5 := hkk.d.cell 5
        have x6 := hkk.d.cell 6
        have x7 := hkk.d.cell 7
        have x8 := hkk.d.cell 8
        have x9 := hkk.d.cell 9
        have x10 := hkk.d.cell 10
        have x11 := hkk.d.cell 11
        obtain ⟨c1, c3, df⟩ := hkk.facts
        simp at h0 h1 h2 h3 h4 h5 h6 x0 x1 x2 x3 x4 x5 x6 x7 x8 x9 x10 x11
        clear hkk
        go_upto_region 28 with (fail)
        obtain ⟨wz, hst, hlz, hgz⟩ := store_dw HKy.out.r false 0 0 n ⟨#[]⟩ ((vs 0 : Nat) : Int) ((vs 1 : Nat) : Int) ((vs 2 : Nat) : Int) 0 0 none 0 0 ⟨#[]⟩
        have HLy := Lib.hid (load_dw HKy.out.d)
        have HSt := Lib.hid hst
        have HBz : Hid (Below w.heap.size w wz) := Lib.hid (HKy.out.bel.grown hgz HKy.out.bel.size (fun j e => by injection e with e; have := HKy.out.o; omega))
        have r0 := hlz.cell 0
        have r1 := hlz.cell 1
        have r2 := hlz.cell 2
        have r3 := hlz.cell 3
        have r4 := hlz.cell 4
        have r5 := hlz.cell 5
        have r6 := hlz.cell 6
        have r7 := hlz.cell 7
        have r8 := hlz.cell 8
        have r9 := hlz.cell 9
        have r10 := hlz.cell 10
        have r11 := hlz.cell 11
        simp at r0 r1 r2 r3 r4 r5 r6 r7 r8 r9 r10 r11
        clear hst hlz hgz h0 h1 h2 h3 h4 h5 h6 x0 x1 x2 x3 x4 x5 x6 x7 x8 x9 x10 x11 c1 c3 df
        go_wp2_with (first | (refine wpList_load1d (by rfl) 30 (.tmp 12) rfl (.pointer (some ⟨D, 0, none⟩)) (.agg (dCs false 0 0 n ⟨#[]⟩ ((vs 0 : Nat) : Int) ((vs 1 : Nat) : Int) ((vs 2 : Nat) : Int) 0 0 (.slice none 0 0) ⟨#[]⟩)) rfl HLy.out ?_) | (refine wpList_store1d rfl 30 (.tmp 8) (.tmp 162) rfl (.pointer (some ⟨R, 0, none⟩)) (.agg (dCs false 0 0 n ⟨#[]⟩ ((vs 0 : Nat) : Int) ((vs 1 : Nat) : Int) ((vs 2 : Nat) : Int) 0 0 (.slice none 0 0) ⟨#[]⟩)) rfl rfl HSt.out ?_) | fail)
        refine bodyPost_ret (v := .tuple #[.agg (dCs false 0 0 n ⟨#[]⟩ ((vs 0 : Nat) : Int) ((vs 1 : Nat) : Int) ((vs 2 : Nat) : Int) 0 0 (.slice none 0 0) ⟨#[]⟩), .int .i64 0]) (by simp [results, Tryz.results12, go_sem, r0, r1, r2, r3, r4, r5, r6, r7, r8, r9, r10, r11]) rfl ?_
        exact ⟨rfl, HBz.out⟩
/-- How the numbers stand. -/
def NumRsoa (w wr : World) (R C H D : Nat) (S : ByteArray) (a z : Nat) (vs : Nat → Nat) (n : ByteArray) (m : ByteArray) (i : Value) : Prop :=
  (i = .int .i64 0 ∧ RdS w wr R C H D S (a + 0) z #[.bool false, .bool true, .bool true, .bool false, .bool false, .int .i64 5, .int .i64 4] (dCs false 0 0 n m 0 0 0 0 0 (.slice none 0 0) ⟨#[]⟩)) ∨ (i = .int .i64 1 ∧ RdS w wr R C H D S (a + 4) z #[.bool false, .bool true, .bool true, .bool false, .bool false, .int .i64 5, .int .i64 4] (dCs false 0 0 n m ((vs 0 : Nat) : Int) 0 0 0 0 (.slice none 0 0) ⟨#[]⟩)) ∨ (i = .int .i64 2 ∧ RdS w wr R C H D S (a + 8) z #[.bool false, .bool true, .bool true, .bool false, .bool false, .int .i64 5, .int .i64 4] (dCs false 0 0 n m ((vs 0 : Nat) : Int) ((vs 1 : Nat) : Int) 0 0 0 (.slice none 0 0) ⟨#[]⟩)) ∨ (i = .int .i64 3 ∧ RdS w wr R C H D S (a + 12) z #[.bool false, .bool true, .bool true, .bool false, .bool false, .int .i64 5, .int .i64 4] (dCs false 0 0 n m ((vs 0 : Nat) : Int) ((vs 1 : Nat) : Int) ((vs 2 : Nat) : Int) 0 0 (.slice none 0 0) ⟨#[]⟩)) ∨ (i = .int .i64 4 ∧ RdS w wr R C H D S (a + 16) z #[.bool false, .bool true, .bool true, .bool false, .bool false, .int .i64 5, .int .i64 4] (dCs false 0 0 n m ((vs 0 : Nat) : Int) ((vs 1 : Nat) : Int) ((vs 2 : Nat) : Int) ((vs 3 : Nat) : Int) 0 (.slice none 0 0) ⟨#[]⟩)) ∨ (i = .int .i64 5 ∧ RdS w wr R C H D S (a + 20) z #[.bool false, .bool true, .bool true, .bool false, .bool false, .int .i64 5, .int .i64 4] (dCs false 0 0 n m ((vs 0 : Nat) : Int) ((vs 1 : Nat) : Int) ((vs 2 : Nat) : Int) ((vs 3 : Nat) : Int) ((vs 4 : Nat) : Int) (.slice none 0 0) ⟨#[]⟩))
set_option maxHeartbeats 4000000 in
theorem refRead_soa (S n m : ByteArray) (a b d z : Nat) (vs : Nat → Nat) (w : World) (haz : a ≤ b ∧ b ≤ d ∧ d + 20 = z) (hz : z ≤ S.size) (hs : S.size ≤ 1099511627776)
    (hvs : ∀ k, k < 5 → numL (((bs S).drop (d + k * 4)).take 4) = vs k)
    (hcn : ∀ wx c, Lies wx c 91 (cursC S a z) → Calls Tryz.prog 46 #[.pointer (some ⟨c, 0, none⟩), .bool false] wx (CurO wx c S b z (.string n)))
    (hcm : ∀ wx c, Lies wx c 91 (cursC S b z) → Calls Tryz.prog 46 #[.pointer (some ⟨c, 0, none⟩), .bool false] wx (CurO wx c S d z (.string m)))
    (hh : ∀ wx, Calls Tryz.prog 43 #[.int .i64 6] wx (Told wx (.agg (hasC false true true false false 5 4))))
    (hck : ∀ wx, Calls Tryz.prog 48 #[.int .i64 6, (.agg (dCs false 0 0 n m ((vs 0 : Nat) : Int) ((vs 1 : Nat) : Int) ((vs 2 : Nat) : Int) ((vs 3 : Nat) : Int) ((vs 4 : Nat) : Int) (.slice none 0 0) ⟨#[]⟩))] wx (Told wx (.int .i64 0))) :
    Calls Tryz.prog 12 #[.string S, .int .i64 (a : Int), .int .i64 (z : Int), .int .i64 6] w (Red w (.agg (dCs false 0 0 n m ((vs 0 : Nat) : Int) ((vs 1 : Nat) : Int) ((vs 2 : Nat) : Int) ((vs 3 : Nat) : Int) ((vs 4 : Nat) : Int) (.slice none 0 0) ⟨#[]⟩))) := by
  have HCk := Lib.hid hck
  have HCn := Lib.hid hcn
  have HCm := Lib.hid hcm
  have HVs := Lib.hid hvs
  clear hck hcn hcm hvs
  have HH := Lib.hid hh
  have z1 : decide ((a : Int) < 0) = false := decide_eq_false (by omega)
  have z2 : decide ((z : Int) < (a : Int)) = false := decide_eq_false (by omega)
  have z2' : decide (z < a) = false := decide_eq_false (by omega)
  have z3 : decide ((S.size : Int) < (z : Int)) = false := decide_eq_false (by omega)
  have z3' : decide (S.size < z) = false := decide_eq_false (by omega)
  have hz' : (z : Int) ≤ 1099511627776 := by omega
  have ha' : (a : Int) ≤ (z : Int) := by omega
  have HAZ := Lib.hid haz
  have HZS := Lib.hid hz
  have HSS := Lib.hid hs
  have hk4 := (((Below.refl w.heap.size w).alloc (Nat.le_refl _) (.cells #[.bool false, .int .u64 0, .int .u64 0, .string ⟨#[]⟩, .string ⟨#[]⟩, .int .u32 0, .int .u32 0, .int .u32 0, .int .u32 0, .int .u32 0, .slice none 0 0, .string ⟨#[]⟩] 30)).alloc (by simp) (.cells #[.string S, .int .i64 (a : Int), .int .i64 (z : Int), .int .i64 0] 91))
  have hr4 : Lies ((w.alloc (.cells #[.bool false, .int .u64 0, .int .u64 0, .string ⟨#[]⟩, .string ⟨#[]⟩, .int .u32 0, .int .u32 0, .int .u32 0, .int .u32 0, .int .u32 0, .slice none 0 0, .string ⟨#[]⟩] 30)).alloc (.cells #[.string S, .int .i64 (a : Int), .int .i64 (z : Int), .int .i64 0] 91)) w.heap.size 30 zD := (Lies.new w _ _).alloc _
  have hc4 : Lies ((w.alloc (.cells #[.bool false, .int .u64 0, .int .u64 0, .string ⟨#[]⟩, .string ⟨#[]⟩, .int .u32 0, .int .u32 0, .int .u32 0, .int .u32 0, .int .u32 0, .slice none 0 0, .string ⟨#[]⟩] 30)).alloc (.cells #[.string S, .int .i64 (a : Int), .int .i64 (z : Int), .int .i64 0] 91)) (w.heap.size + 1) 91 (cursC S a z) := two_box _ _ _ _
  clear hh haz hz hs
  go_enter Tryz.func12, Tryz.ntmps12
  go_upto_region 4 with (fail)
  obtain ⟨W4, hW4⟩ : ∃ x, x = (w.alloc (.cells #[.bool false, .int .u64 0, .int .u64 0, .string ⟨#[]⟩, .string ⟨#[]⟩, .int .u32 0, .int .u32 0, .int .u32 0, .int .u32 0, .int .u32 0, .slice none 0 0, .string ⟨#[]⟩] 30)).alloc (.cells #[.string S, .int .i64 (a : Int), .int .i64 (z : Int), .int .i64 0] 91) := ⟨_, rfl⟩
  rw [← hW4] at hk4 hr4 hc4 ⊢
  obtain ⟨R, hR⟩ : ∃ x, x = w.heap.size := ⟨_, rfl⟩
  obtain ⟨C, hC⟩ : ∃ x, x = w.heap.size + 1 := ⟨_, rfl⟩
  rw [← hR] at hr4
  rw [← hC] at hc4
  clear z1 z2 z2' z3 z3' hW4
  rw [← hC, ← hR]
  go_wp2_with fail
  refine (HH.out _).mono ?_
  rintro e w5 ⟨rfl, hb5⟩
  have hk6 : RdS w ((w5.alloc (.cells #[.bool false, .bool true, .bool true, .bool false, .bool false, .int .i64 5, .int .i64 4] 93)).alloc (.cells #[.bool false, .int .u64 0, .int .u64 0, .string ⟨#[]⟩, .string ⟨#[]⟩, .int .u32 0, .int .u32 0, .int .u32 0, .int .u32 0, .int .u32 0, .slice none 0 0, .string ⟨#[]⟩] 30)) R C w5.heap.size (w5.heap.size + 1) S a z #[.bool false, .bool true, .bool true, .bool false, .bool false, .int .i64 5, .int .i64 4] zD := by
    have hlt := Nat.lt_of_lt_of_le hc4.lt hb5.size
    exact ⟨((hk4.trans (hb5.mono hk4.size)).alloc (Nat.le_trans hk4.size hb5.size) _).alloc (by have := Nat.le_trans hk4.size hb5.size; simp; omega) _, ((hr4.next hb5).alloc _).alloc _, ((hc4.next hb5).alloc _).alloc _, (Lies.new w5 _ _).alloc _, two_box _ _ _ _, by omega⟩
  have HR : Hid (w.heap.size = R) := Lib.hid hR.symm
  clear hk4 hr4 hc4 hb5 hR hC HH
  go_upto_region 6 with (fail)
  obtain ⟨W6, hW6⟩ : ∃ x, x = (w5.alloc (.cells #[.bool false, .bool true, .bool true, .bool false, .bool false, .int .i64 5, .int .i64 4] 93)).alloc (.cells #[.bool false, .int .u64 0, .int .u64 0, .string ⟨#[]⟩, .string ⟨#[]⟩, .int .u32 0, .int .u32 0, .int .u32 0, .int .u32 0, .int .u32 0, .slice none 0 0, .string ⟨#[]⟩] 30) := ⟨_, rfl⟩
  rw [← hW6] at hk6 ⊢
  obtain ⟨H, hH⟩ : ∃ x, x = w5.heap.size := ⟨_, rfl⟩
  obtain ⟨D, hD⟩ : ∃ x, x = w5.heap.size + 1 := ⟨_, rfl⟩
  rw [← hD, ← hH] at hk6 ⊢
  clear hW6 hH hD
  have HK := Lib.hid hk6
  have h0 := hk6.h.cell 0
  have h1 := hk6.h.cell 1
  have h2 := hk6.h.cell 2
  have h3 := hk6.h.cell 3
  have h4 := hk6.h.cell 4
  have h5 := hk6.h.cell 5
  have h6 := hk6.h.cell 6
  have x0 := hk6.d.cell 0
  have x1 := hk6.d.cell 1
  have x2 := hk6.d.cell 2
  have x3 := hk6.d.cell 3
  have x4 := hk6.d.cell 4
  have x5 := hk6.d.cell 5
  have x6 := hk6.d.cell 6
  have x7 := hk6.d.cell 7
  have x8 := hk6.d.cell 8
  have x9 := hk6.d.cell 9
  have x10 := hk6.d.cell 10
  have x11 := hk6.d.cell 11
  obtain ⟨c1, c3, df⟩ := hk6.facts
  simp at h0 h1 h2 h3 h4 h5 h6 x0 x1 x2 x3 x4 x5 x6 x7 x8 x9 x10 x11
  clear hk6
  have HT := Lib.hid (HCn.out W6 C HK.out.c)
  go_wp2_with fail
  refine HT.out.mono ?_
  rintro e w7 ⟨rfl, hc7, hg7⟩
  have HK7 := Lib.hid (HK.out.call hc7 hg7)
  clear hc7 hg7 HT
  clear h0 h1 h2 h3 h4 h5 h6 x0 x1 x2 x3 x4 x5 x6 x7 x8 x9 x10 x11 c1 c3 df
  have hkk := HK7.out
  have h0 := hkk.h.cell 0
  have h1 := hkk.h.cell 1
  have h2 := hkk.h.cell 2
  have h3 := hkk.h.cell 3
  have h4 := hkk.h.cell 4
  have h5 := hkk.h.cell 5
  have h6 := hkk.h.cell 6
  have x0 := hkk.d.cell 0
  have x1 := hkk.d.cell 1
  have x2 := hkk.d.cell 2
  have x3 := hkk.d.cell 3
  have x4 := hkk.d.cell 4
  have x5 := hkk.d.cell 5
  have x6 := hkk.d.cell 6
  have x7 := hkk.d.cell 7
  have x8 := hkk.d.cell 8
  have x9 := hkk.d.cell 9
  have x10 := hkk.d.cell 10
  have x11 := hkk.d.cell 11
  obtain ⟨c1, c3, df⟩ := hkk.facts
  simp at h0 h1 h2 h3 h4 h5 h6 x0 x1 x2 x3 x4 x5 x6 x7 x8 x9 x10 x11
  clear hkk
  go_upto_region 13 with (fail)
  have hk9 := HK7.out.put (cs' := dCs false 0 0 n ⟨#[]⟩ 0 0 0 0 0 (.slice none 0 0) ⟨#[]⟩) 3 (.string n) rfl
  obtain ⟨X8, hW9⟩ : ∃ x, x = w7.setCell ⟨D, 3, none⟩ (.string n) := ⟨_, rfl⟩
  rw [← hW9] at hk9 ⊢
  have HKX8 := Lib.hid hk9
  clear hW9 hk9 HK7
  clear h0 h1 h2 h3 h4 h5 h6 x0 x1 x2 x3 x4 x5 x6 x7 x8 x9 x10 x11 c1 c3 df
  have hkk := HKX8.out
  have h0 := hkk.h.cell 0
  have h1 := hkk.h.cell 1
  have h2 := hkk.h.cell 2
  have h3 := hkk.h.cell 3
  have h4 := hkk.h.cell 4
  have h5 := hkk.h.cell 5
  have h6 := hkk.h.cell 6
  have x0 := hkk.d.cell 0
  have x1 := hkk.d.cell 1
  have x2 := hkk.d.cell 2
  have x3 := hkk.d.cell 3
  have x4 := hkk.d.cell 4
  have x5 := hkk.d.cell 5
  have x6 := hkk.d.cell 6
  have x7 := hkk.d.cell 7
  have x8 := hkk.d.cell 8
  have x9 := hkk.d.cell 9
  have x10 := hkk.d.cell 10
  have x11 := hkk.d.cell 11
  obtain ⟨c1, c3, df⟩ := hkk.facts
  simp at h0 h1 h2 h3 h4 h5 h6 x0 x1 x2 x3 x4 x5 x6 x7 x8 x9 x10 x11
  clear hkk
  have HT := Lib.hid (HCm.out X8 C HKX8.out.c)
  go_wp2_with fail
  refine HT.out.mono ?_
  rintro e w7 ⟨rfl, hc7, hg7⟩
  have HK7 := Lib.hid (HKX8.out.call hc7 hg7)
  clear hc7 hg7 HT
  clear h0 h1 h2 h3 h4 h5 h6 x0 x1 x2 x3 x4 x5 x6 x7 x8 x9 x10 x11 c1 c3 df
  have hkk := HK7.out
  have h0 := hkk.h.cell 0
  have h1 := hkk.h.cell 1
  have h2 := hkk.h.cell 2
  have h3 := hkk.h.cell 3
  have h4 := hkk.h.cell 4
  have h5 := hkk.h.cell 5
  have h6 := hkk.h.cell 6
  have x0 := hkk.d.cell 0
  have x1 := hkk.d.cell 1
  have x2 := hkk.d.cell 2
  have x3 := hkk.d.cell 3
  have x4 := hkk.d.cell 4
  have x5 := hkk.d.cell 5
  have x6 := hkk.d.cell 6
  have x7 := hkk.d.cell 7
  have x8 := hkk.d.cell 8
  have x9 := hkk.d.cell 9
  have x10 := hkk.d.cell 10
  have x11 := hkk.d.cell 11
  obtain ⟨c1, c3, df⟩ := hkk.facts
  simp at h0 h1 h2 h3 h4 h5 h6 x0 x1 x2 x3 x4 x5 x6 x7 x8 x9 x10 x11
  clear hkk
  go_upto_region 14 with (fail)
  have hk9 := HK7.out.put (cs' := dCs false 0 0 n m 0 0 0 0 0 (.slice none 0 0) ⟨#[]⟩) 4 (.string m) rfl
  obtain ⟨X9, hW9⟩ : ∃ x, x = w7.setCell ⟨D, 4, none⟩ (.string m) := ⟨_, rfl⟩
  rw [← hW9] at hk9 ⊢
  have HKX9 := Lib.hid hk9
  clear hW9 hk9 HK7
  clear h0 h1 h2 h3 h4 h5 h6 x0 x1 x2 x3 x4 x5 x6 x7 x8 x9 x10 x11 c1 c3 df
  have hkk := HKX9.out
  have h0 := hkk.h.cell 0
  have h1 := hkk.h.cell 1
  have h2 := hkk.h.cell 2
  have h3 := hkk.h.cell 3
  have h4 := hkk.h.cell 4
  have h5 := hkk.h.cell 5
  have h6 := hkk.h.cell 6
  have x0 := hkk.d.cell 0
  have x1 := hkk.d.cell 1
  have x2 := hkk.d.cell 2
  have x3 := hkk.d.cell 3
  have x4 := hkk.d.cell 4
  have x5 := hkk.d.cell 5
  have x6 := hkk.d.cell 6
  have x7 := hkk.d.cell 7
  have x8 := hkk.d.cell 8
  have x9 := hkk.d.cell 9
  have x10 := hkk.d.cell 10
  have x11 := hkk.d.cell 11
  obtain ⟨c1, c3, df⟩ := hkk.facts
  simp at h0 h1 h2 h3 h4 h5 h6 x0 x1 x2 x3 x4 x5 x6 x7 x8 x9 x10 x11
  clear hkk
  go_wp2
  go_loopw [14] (fun i wr => NumRsoa w wr R C H D S d z vs n m i) (fun i _ => 5 - (intOf i).toNat)
  case atStart => exact .inl ⟨rfl, HKX9.out⟩
  case round =>
    rcases hrel with ⟨rfl, hk⟩ | ⟨rfl, hk⟩ | ⟨rfl, hk⟩ | ⟨rfl, hk⟩ | ⟨rfl, hk⟩ | ⟨rfl, hk⟩
    · have HKk := Lib.hid hk
      have HT : Hid (Calls Tryz.prog 47 #[.pointer (some ⟨C, 0, none⟩), .int .i64 4] wr (CurO wr C S (d + 4) z (.int .u32 ((vs 0 : Nat) : Int)))) := Lib.hid (by
        have h := refNumber_ok S (d + 0) z 4 wr C HKk.out.c (by have := HAZ.out; omega) HZS.out HSS.out (by decide)
        rw [HVs.out 0 (by decide)] at h
        exact h)
      clear hk
      have hkk := HKk.out
      have h0 := hkk.h.cell 0
      have h1 := hkk.h.cell 1
      have h2 := hkk.h.cell 2
      have h3 := hkk.h.cell 3
      have h4 := hkk.h.cell 4
      have h5 := hkk.h.cell 5
      have h6 := hkk.h.cell 6
      have x0 := hkk.d.cell 0
      have x1 := hkk.d.cell 1
      have x2 := hkk.d.cell 2
      have x3 := hkk.d.cell 3
      have x4 := hkk.d.cell 4
      have x5 := hkk.d.cell 5
      have x6 := hkk.d.cell 6
      have x7 := hkk.d.cell 7
      have x8 := hkk.d.cell 8
      have x9 := hkk.d.cell 9
      have x10 := hkk.d.cell 10
      have x11 := hkk.d.cell 11
      obtain ⟨c1, c3, df⟩ := hkk.facts
      simp at h0 h1 h2 h3 h4 h5 h6 x0 x1 x2 x3 x4 x5 x6 x7 x8 x9 x10 x11
      clear hkk
      go_wp2_with fail
      refine HT.out.mono ?_
      rintro e wn ⟨rfl, hcn, hgn⟩
      have HKn := Lib.hid (HKk.out.call hcn hgn)
      clear hcn hgn
      clear h0 h1 h2 h3 h4 h5 h6 x0 x1 x2 x3 x4 x5 x6 x7 x8 x9 x10 x11 c1 c3 df
      have hkk := HKn.out
      have h0 := hkk.h.cell 0
      have h1 := hkk.h.cell 1
      have h2 := hkk.h.cell 2
      have h3 := hkk.h.cell 3
      have h4 := hkk.h.cell 4
      have h5 := hkk.h.cell 5
      have h6 := hkk.h.cell 6
      have x0 := hkk.d.cell 0
      have x1 := hkk.d.cell 1
      have x2 := hkk.d.cell 2
      have x3 := hkk.d.cell 3
      have x4 := hkk.d.cell 4
      have x5 := hkk.d.cell 5
      have x6 := hkk.d.cell 6
      have x7 := hkk.d.cell 7
      have x8 := hkk.d.cell 8
      have x9 := hkk.d.cell 9
      have x10 := hkk.d.cell 10
      have x11 := hkk.d.cell 11
      obtain ⟨c1, c3, df⟩ := hkk.facts
      simp at h0 h1 h2 h3 h4 h5 h6 x0 x1 x2 x3 x4 x5 x6 x7 x8 x9 x10 x11
      clear hkk
      go_wp2
      go_roundw
      case rel => exact .inr (.inl ⟨rfl, HKn.out.put (cs' := dCs false 0 0 n m ((vs 0 : Nat) : Int) 0 0 0 0 (.slice none 0 0) ⟨#[]⟩) 5 (.int .u32 ((vs 0 : Nat) : Int)) rfl⟩)
      case measure => simp [intOf]
    · have HKk := Lib.hid hk
      have HT : Hid (Calls Tryz.prog 47 #[.pointer (some ⟨C, 0, none⟩), .int .i64 4] wr (CurO wr C S (d + 8) z (.int .u32 ((vs 1 : Nat) : Int)))) := Lib.hid (by
        have h := refNumber_ok S (d + 4) z 4 wr C HKk.out.c (by have := HAZ.out; omega) HZS.out HSS.out (by decide)
        rw [HVs.out 1 (by decide)] at h
        exact h)
      clear hk
      have hkk := HKk.out
      have h0 := hkk.h.cell 0
      have h1 := hkk.h.cell 1
      have h2 := hkk.h.cell 2
      have h3 := hkk.h.cell 3
      have h4 := hkk.h.cell 4
      have h5 := hkk.h.cell 5
      have h6 := hkk.h.cell 6
      have x0 := hkk.d.cell 0
      have x1 := hkk.d.cell 1
      have x2 := hkk.d.cell 2
      have x3 := hkk.d.cell 3
      have x4 := hkk.d.cell 4
      have x5 := hkk.d.cell 5
      have x6 := hkk.d.cell 6
      have x7 := hkk.d.cell 7
      have x8 := hkk.d.cell 8
      have x9 := hkk.d.cell 9
      have x10 := hkk.d.cell 10
      have x11 := hkk.d.cell 11
      obtain ⟨c1, c3, df⟩ := hkk.facts
      simp at h0 h1 h2 h3 h4 h5 h6 x0 x1 x2 x3 x4 x5 x6 x7 x8 x9 x10 x11
      clear hkk
      go_wp2_with fail
      refine HT.out.mono ?_
      rintro e wn ⟨rfl, hcn, hgn⟩
      have HKn := Lib.hid (HKk.out.call hcn hgn)
      clear hcn hgn
      clear h0 h1 h2 h3 h4 h5 h6 x0 x1 x2 x3 x4 x5 x6 x7 x8 x9 x10 x11 c1 c3 df
      have hkk := HKn.out
      have h0 := hkk.h.cell 0
      have h1 := hkk.h.cell 1
      have h2 := hkk.h.cell 2
      have h3 := hkk.h.cell 3
      have h4 := hkk.h.cell 4
      have h5 := hkk.h.cell 5
      have h6 := hkk.h.cell 6
      have x0 := hkk.d.cell 0
      have x1 := hkk.d.cell 1
      have x2 := hkk.d.cell 2
      have x3 := hkk.d.cell 3
      have x4 := hkk.d.cell 4
      have x5 := hkk.d.cell 5
      have x6 := hkk.d.cell 6
      have x7 := hkk.d.cell 7
      have x8 := hkk.d.cell 8
      have x9 := hkk.d.cell 9
      have x10 := hkk.d.cell 10
      have x11 := hkk.d.cell 11
      obtain ⟨c1, c3, df⟩ := hkk.facts
      simp at h0 h1 h2 h3 h4 h5 h6 x0 x1 x2 x3 x4 x5 x6 x7 x8 x9 x10 x11
      clear hkk
      go_wp2
      go_roundw
      case rel => exact .inr (.inr (.inl ⟨rfl, HKn.out.put (cs' := dCs false 0 0 n m ((vs 0 : Nat) : Int) ((vs 1 : Nat) : Int) 0 0 0 (.slice none 0 0) ⟨#[]⟩) 6 (.int .u32 ((vs 1 : Nat) : Int)) rfl⟩))
      case measure => simp [intOf]
    · have HKk := Lib.hid hk
      have HT : Hid (Calls Tryz.prog 47 #[.pointer (some ⟨C, 0, none⟩), .int .i64 4] wr (CurO wr C S (d + 12) z (.int .u32 ((vs 2 : Nat) : Int)))) := Lib.hid (by
        have h := refNumber_ok S (d + 8) z 4 wr C HKk.out.c (by have := HAZ.out; omega) HZS.out HSS.out (by decide)
        rw [HVs.out 2 (by decide)] at h
        exact h)
      clear hk
      have hkk := HKk.out
      have h0 := hkk.h.cell 0
      have h1 := hkk.h.cell 1
      have h2 := hkk.h.cell 2
      have h3 := hkk.h.cell 3
      have h4 := hkk.h.cell 4
      have h5 := hkk.h.cell 5
      have h6 := hkk.h.cell 6
      have x0 := hkk.d.cell 0
      have x1 := hkk.d.cell 1
      have x2 := hkk.d.cell 2
      have x3 := hkk.d.cell 3
      have x4 := hkk.d.cell 4
      have x5 := hkk.d.cell 5
      have x6 := hkk.d.cell 6
      have x7 := hkk.d.cell 7
      have x8 := hkk.d.cell 8
      have x9 := hkk.d.cell 9
      have x10 := hkk.d.cell 10
      have x11 := hkk.d.cell 11
      obtain ⟨c1, c3, df⟩ := hkk.facts
      simp at h0 h1 h2 h3 h4 h5 h6 x0 x1 x2 x3 x4 x5 x6 x7 x8 x9 x10 x11
      clear hkk
      go_wp2_with fail
      refine HT.out.mono ?_
      rintro e wn ⟨rfl, hcn, hgn⟩
      have HKn := Lib.hid (HKk.out.call hcn hgn)
      clear hcn hgn
      clear h0 h1 h2 h3 h4 h5 h6 x0 x1 x2 x3 x4 x5 x6 x7 x8 x9 x10 x11 c1 c3 df
      have hkk := HKn.out
      have h0 := hkk.h.cell 0
      have h1 := hkk.h.cell 1
      have h2 := hkk.h.cell 2
      have h3 := hkk.h.cell 3
      have h4 := hkk.h.cell 4
      have h5 := hkk.h.cell 5
      have h6 := hkk.h.cell 6
      have x0 := hkk.d.cell 0
      have x1 := hkk.d.cell 1
      have x2 := hkk.d.cell 2
      have x3 := hkk.d.cell 3
      have x4 := hkk.d.cell 4
      have x5 := hkk.d.cell 5
      have x6 := hkk.d.cell 6
      have x7 := hkk.d.cell 7
      have x8 := hkk.d.cell 8
      have x9 := hkk.d.cell 9
      have x10 := hkk.d.cell 10
      have x11 := hkk.d.cell 11
      obtain ⟨c1, c3, df⟩ := hkk.facts
      simp at h0 h1 h2 h3 h4 h5 h6 x0 x1 x2 x3 x4 x5 x6 x7 x8 x9 x10 x11
      clear hkk
      go_wp2
      go_roundw
      case rel => exact .inr (.inr (.inr (.inl ⟨rfl, HKn.out.put (cs' := dCs false 0 0 n m ((vs 0 : Nat) : Int) ((vs 1 : Nat) : Int) ((vs 2 : Nat) : Int) 0 0 (.slice none 0 0) ⟨#[]⟩) 7 (.int .u32 ((vs 2 : Nat) : Int)) rfl⟩)))
      case measure => simp [intOf]
    · have HKk := Lib.hid hk
      have HT : Hid (Calls Tryz.prog 47 #[.pointer (some ⟨C, 0, none⟩), .int .i64 4] wr (CurO wr C S (d + 16) z (.int .u32 ((vs 3 : Nat) : Int)))) := Lib.hid (by
        have h := refNumber_ok S (d + 12) z 4 wr C HKk.out.c (by have := HAZ.out; omega) HZS.out HSS.out (by decide)
        rw [HVs.out 3 (by decide)] at h
        exact h)
      clear hk
      have hkk := HKk.out
      have h0 := hkk.h.cell 0
      have h1 := hkk.h.cell 1
      have h2 := hkk.h.cell 2
      have h3 := hkk.h.cell 3
      have h4 := hkk.h.cell 4
      have h5 := hkk.h.cell 5
      have h6 := hkk.h.cell 6
      have x0 := hkk.d.cell 0
      have x1 := hkk.d.cell 1
      have x2 := hkk.d.cell 2
      have x3 := hkk.d.cell 3
      have x4 := hkk.d.cell 4
      have x5 := hkk.d.cell 5
      have x6 := hkk.d.cell 6
      have x7 := hkk.d.cell 7
      have x8 := hkk.d.cell 8
      have x9 := hkk.d.cell 9
      have x10 := hkk.d.cell 10
      have x11 := hkk.d.cell 11
      obtain ⟨c1, c3, df⟩ := hkk.facts
      simp at h0 h1 h2 h3 h4 h5 h6 x0 x1 x2 x3 x4 x5 x6 x7 x8 x9 x10 x11
      clear hkk
      go_wp2_with fail
      refine HT.out.mono ?_
      rintro e wn ⟨rfl, hcn, hgn⟩
      have HKn := Lib.hid (HKk.out.call hcn hgn)
      clear hcn hgn
      clear h0 h1 h2 h3 h4 h5 h6 x0 x1 x2 x3 x4 x5 x6 x7 x8 x9 x10 x11 c1 c3 df
      have hkk := HKn.out
      have h0 := hkk.h.cell 0
      have h1 := hkk.h.cell 1
      have h2 := hkk.h.cell 2
      have h3 := hkk.h.cell 3
      have h4 := hkk.h.cell 4
      have h5 := hkk.h.cell 5
      have h6 := hkk.h.cell 6
      have x0 := hkk.d.cell 0
      have x1 := hkk.d.cell 1
      have x2 := hkk.d.cell 2
      have x3 := hkk.d.cell 3
      have x4 := hkk.d.cell 4
      have x5 := hkk.d.cell 5
      have x6 := hkk.d.cell 6
      have x7 := hkk.d.cell 7
      have x8 := hkk.d.cell 8
      have x9 := hkk.d.cell 9
      have x10 := hkk.d.cell 10
      have x11 := hkk.d.cell 11
      obtain ⟨c1, c3, df⟩ := hkk.facts
      simp at h0 h1 h2 h3 h4 h5 h6 x0 x1 x2 x3 x4 x5 x6 x7 x8 x9 x10 x11
      clear hkk
      go_wp2
      go_roundw
      case rel => exact .inr (.inr (.inr (.inr (.inl ⟨rfl, HKn.out.put (cs' := dCs false 0 0 n m ((vs 0 : Nat) : Int) ((vs 1 : Nat) : Int) ((vs 2 : Nat) : Int) ((vs 3 : Nat) : Int) 0 (.slice none 0 0) ⟨#[]⟩) 8 (.int .u32 ((vs 3 : Nat) : Int)) rfl⟩))))
      case measure => simp [intOf]
    · have HKk := Lib.hid hk
      have HT : Hid (Calls Tryz.prog 47 #[.pointer (some ⟨C, 0, none⟩), .int .i64 4] wr (CurO wr C S (d + 20) z (.int .u32 ((vs 4 : Nat) : Int)))) := Lib.hid (by
        have h := refNumber_ok S (d + 16) z 4 wr C HKk.out.c (by have := HAZ.out; omega) HZS.out HSS.out (by decide)
        rw [HVs.out 4 (by decide)] at h
        exact h)
      clear hk
      have hkk := HKk.out
      have h0 := hkk.h.cell 0
      have h1 := hkk.h.cell 1
      have h2 := hkk.h.cell 2
      have h3 := hkk.h.cell 3
      have h4 := hkk.h.cell 4
      have h5 := hkk.h.cell 5
      have h6 := hkk.h.cell 6
      have x0 := hkk.d.cell 0
      have x1 := hkk.d.cell 1
      have x2 := hkk.d.cell 2
      have x3 := hkk.d.cell 3
      have x4 := hkk.d.cell 4
      have x5 := hkk.d.cell 5
      have x6 := hkk.d.cell 6
      have x7 := hkk.d.cell 7
      have x8 := hkk.d.cell 8
      have x9 := hkk.d.cell 9
      have x10 := hkk.d.cell 10
      have x11 := hkk.d.cell 11
      obtain ⟨c1, c3, df⟩ := hkk.facts
      simp at h0 h1 h2 h3 h4 h5 h6 x0 x1 x2 x3 x4 x5 x6 x7 x8 x9 x10 x11
      clear hkk
      go_wp2_with fail
      refine HT.out.mono ?_
      rintro e wn ⟨rfl, hcn, hgn⟩
      have HKn := Lib.hid (HKk.out.call hcn hgn)
      clear hcn hgn
      clear h0 h1 h2 h3 h4 h5 h6 x0 x1 x2 x3 x4 x5 x6 x7 x8 x9 x10 x11 c1 c3 df
      have hkk := HKn.out
      have h0 := hkk.h.cell 0
      have h1 := hkk.h.cell 1
      have h2 := hkk.h.cell 2
      have h3 := hkk.h.cell 3
      have h4 := hkk.h.cell 4
      have h5 := hkk.h.cell 5
      have h6 := hkk.h.cell 6
      have x0 := hkk.d.cell 0
      have x1 := hkk.d.cell 1
      have x2 := hkk.d.cell 2
      have x3 := hkk.d.cell 3
      have x4 := hkk.d.cell 4
      have x5 := hkk.d.cell 5
      have x6 := hkk.d.cell 6
      have x7 := hkk.d.cell 7
      have x8 := hkk.d.cell 8
      have x9 := hkk.d.cell 9
      have x10 := hkk.d.cell 10
      have x11 := hkk.d.cell 11
      obtain ⟨c1, c3, df⟩ := hkk.facts
      simp at h0 h1 h2 h3 h4 h5 h6 x0 x1 x2 x3 x4 x5 x6 x7 x8 x9 x10 x11
      clear hkk
      go_wp2
      go_roundw
      case rel => exact .inr (.inr (.inr (.inr (.inr ( ⟨rfl, HKn.out.put (cs' := dCs false 0 0 n m ((vs 0 : Nat) : Int) ((vs 1 : Nat) : Int) ((vs 2 : Nat) : Int) ((vs 3 : Nat) : Int) ((vs 4 : Nat) : Int) (.slice none 0 0) ⟨#[]⟩) 9 (.int .u32 ((vs 4 : Nat) : Int)) rfl⟩)))))
      case measure => simp [intOf]
    · rw [HAZ.out.2.2] at hk
      have HKk := Lib.hid hk
      clear hk
      have hkk := HKk.out
      have h0 := hkk.h.cell 0
      have h1 := hkk.h.cell 1
      have h2 := hkk.h.cell 2
      have h3 := hkk.h.cell 3
      have h4 := hkk.h.cell 4
      have h5 := hkk.h.cell 5
      have h6 := hkk.h.cell 6
      have x0 := hkk.d.cell 0
      have x1 := hkk.d.cell 1
      have x2 := hkk.d.cell 2
      have x3 := hkk.d.cell 3
      have x4 := hkk.d.cell 4
      have x5 := hkk.d.cell 5
      have x6 := hkk.d.cell 6
      have x7 := hkk.d.cell 7
      have x8 := hkk.d.cell 8
      have x9 := hkk.d.cell 9
      have x10 := hkk.d.cell 10
      have x11 := hkk.d.cell 11
      obtain ⟨c1, c3, df⟩ := hkk.facts
      simp at h0 h1 h2 h3 h4 h5 h6 x0 x1 x2 x3 x4 x5 x6 x7 x8 x9 x10 x11
      clear hkk
      go_wp2
      go_loop [113] (fun _ => True) (fun _ => 0)
      case atStart => trivial
      case round =>
        clear hrel
        go_upto_region 24 with (fail)
        have hld := load_dw HKk.out.d
        have HLd := Lib.hid hld
        clear hld
        go_wp2_with (first | (refine wpList_load1d (by rfl) 30 (.tmp 12) rfl (.pointer (some ⟨D, 0, none⟩)) (.agg (dCs false 0 0 n m ((vs 0 : Nat) : Int) ((vs 1 : Nat) : Int) ((vs 2 : Nat) : Int) ((vs 3 : Nat) : Int) ((vs 4 : Nat) : Int) (.slice none 0 0) ⟨#[]⟩)) rfl HLd.out ?_) | fail)
        refine (HCk.out _).mono ?_
        rintro e wy ⟨rfl, hby⟩
        have HKy := Lib.hid (HKk.out.next hby)
        clear hby HLd
        clear h0 h1 h2 h3 h4 h5 h6 x0 x1 x2 x3 x4 x5 x6 x7 x8 x9 x10 x11 c1 c3 df
        have hkk := HKy.out
        have h0 := hkk.h.cell 0
        have h1 := hkk.h.cell 1
        have h2 := hkk.h.cell 2
        have h3 := hkk.h.cell 3
        have h4 := hkk.h.cell 4
        have h5 := hkk.h.cell 5
        have h6 := hkk.h.cell 6
        have x0 := hkk.d.cell 0
        have x1 := hkk.d.cell 1
        have x2 := hkk.d.cell 2
        have x3 := hkk.d.cell 3
        have x4 := hkk.d.cell 4
        have x5 := hkk.d.cell 5
        have x6 := hkk.d.cell 6
        have x7 := hkk.d.cell 7
        have x8 := hkk.d.cell 8
        have x9 := hkk.d.cell 9
        have x10 := hkk.d.cell 10
        have x11 := hkk.d.cell 11
        obtain ⟨c1, c3, df⟩ := hkk.facts
        simp at h0 h1 h2 h3 h4 h5 h6 x0 x1 x2 x3 x4 x5 x6 x7 x8 x9 x10 x11
        clear hkk
        go_upto_region 28 with (fail)
        obtain ⟨wz, hst, hlz, hgz⟩ := store_dw HKy.out.r false 0 0 n m ((vs 0 : Nat) : Int) ((vs 1 : Nat) : Int) ((vs 2 : Nat) : Int) ((vs 3 : Nat) : Int) ((vs 4 : Nat) : Int) none 0 0 ⟨#[]⟩
        have HLy := Lib.hid (load_dw HKy.out.d)
        have HSt := Lib.hid hst
        have HBz : Hid (Below w.heap.size w wz) := Lib.hid (HKy.out.bel.grown hgz HKy.out.bel.size (fun j e => by injection e with e; have := HKy.out.o; omega))
        have r0 := hlz.cell 0
        have r1 := hlz.cell 1
        have r2 := hlz.cell 2
        have r3 := hlz.cell 3
        have r4 := hlz.cell 4
        have r5 := hlz.cell 5
        have r6 := hlz.cell 6
        have r7 := hlz.cell 7
        have r8 := hlz.cell 8
        have r9 := hlz.cell 9
        have r10 := hlz.cell 10
        have r11 := hlz.cell 11
        simp at r0 r1 r2 r3 r4 r5 r6 r7 r8 r9 r10 r11
        clear hst hlz hgz h0 h1 h2 h3 h4 h5 h6 x0 x1 x2 x3 x4 x5 x6 x7 x8 x9 x10 x11 c1 c3 df
        go_wp2_with (first | (refine wpList_load1d (by rfl) 30 (.tmp 12) rfl (.pointer (some ⟨D, 0, none⟩)) (.agg (dCs false 0 0 n m ((vs 0 : Nat) : Int) ((vs 1 : Nat) : Int) ((vs 2 : Nat) : Int) ((vs 3 : Nat) : Int) ((vs 4 : Nat) : Int) (.slice none 0 0) ⟨#[]⟩)) rfl HLy.out ?_) | (refine wpList_store1d rfl 30 (.tmp 8) (.tmp 162) rfl (.pointer (some ⟨R, 0, none⟩)) (.agg (dCs false 0 0 n m ((vs 0 : Nat) : Int) ((vs 1 : Nat) : Int) ((vs 2 : Nat) : Int) ((vs 3 : Nat) : Int) ((vs 4 : Nat) : Int) (.slice none 0 0) ⟨#[]⟩)) rfl rfl HSt.out ?_) | fail)
        refine bodyPost_ret (v := .tuple #[.agg (dCs false 0 0 n m ((vs 0 : Nat) : Int) ((vs 1 : Nat) : Int) ((vs 2 : Nat) : Int) ((vs 3 : Nat) : Int) ((vs 4 : Nat) : Int) (.slice none 0 0) ⟨#[]⟩), .int .i64 0]) (by simp [results, Tryz.results12, go_sem, r0, r1, r2, r3, r4, r5, r6, r7, r8, r9, r10, r11]) rfl ?_
        exact ⟨rfl, HBz.out⟩
theorem own_next {w w' : World} {base : Nat} {v : Value} {n : Nat} {xs : List Value} (h : w.ownsRow base 9 1 v n xs) (hb : Below w.heap.size w w') : w'.ownsRow base 9 1 v n xs :=
  h.kept (row := none) (below_to_grown hb) (by
    cases e : v.ownBlock with
    | none => exact .inl rfl
    | some b => exact .inr (by simp))
theorem own_ne {w : World} {base : Nat} {v : Value} {n : Nat} {xs : List Value} {b : Nat} {t : TypeId} {cs : Array Value} (h : w.ownsRow base 9 1 v n xs) (l : Lies w b t cs) (ht : t ≠ 9) : v.ownBlock ≠ some b := fun e => by
  obtain ⟨c, fz, h2⟩ := Lib.ownsRow_kind h b e
  have h3 : w.heap[b]? = some (.cells cs t (0, 0)) := l
  rw [h3] at h2
  injection h2 with h2
  injection h2 with _ h2 _
  exact ht h2
theorem RdS.row {w0 W W' : World} {R C H D : Nat} {S : ByteArray} {a z : Nat} {hs cs : Array Value} {v : Value} {n : Nat} {xs : List Value} (k : RdS w0 W R C H D S a z hs cs) (hg : W.grownBy W' v.ownBlock) (ho : W.ownsRow w0.heap.size 9 1 v n xs) : RdS w0 W' R C H D S a z hs cs :=
  ⟨k.bel.grown hg k.bel.size (fun j e => (ho.lt j e).1), k.r.grown hg (fun e => own_ne ho k.r (by decide) e.symm), k.c.grown hg (fun e => own_ne ho k.c (by decide) e.symm), k.h.grown hg (fun e => own_ne ho k.h (by decide) e.symm), k.d.grown hg (fun e => own_ne ho k.d (by decide) e.symm), k.o⟩
/-- So many texts are read. -/
structure TxS (w0 W : World) (R C H D : Nat) (S : ByteArray) (P : Nat → Nat) (z k : Nat) (L : List ByteArray) (v : Value) : Prop where
  rd : RdS w0 W R C H D S (P k) z #[.bool false, .bool false, .bool false, .bool true, .bool false, .int .i64 0, .int .i64 0] (dCs false 0 0 ⟨#[]⟩ ⟨#[]⟩ 0 0 0 0 0 v ⟨#[]⟩)
  own : W.ownsRow w0.heap.size 9 1 v k ((L.take k).map Value.string)
def lenAt : Option Value → Nat
  | some (.slice _ n _) => n
  | _ => 0
theorem infoS1 : (Tryz.prog.info? 9).map (fun i => (i.zero, i.size, i.bytes)) = some (some (.string ⟨#[]⟩), 1, 16) := by kernel_rfl
/-- What the read of texts hands back. -/
def RedT (w : World) (L : List ByteArray) (e : Ending) (w' : World) : Prop := ∃ A c, e = .returned (.tuple #[.agg (dCs false 0 0 ⟨#[]⟩ ⟨#[]⟩ 0 0 0 0 0 (.slice A L.length c) ⟨#[]⟩), .int .i64 0]) ∧ SRow w' (.slice A L.length c) L ∧ Below w.heap.size w w'
set_option maxHeartbeats 8000000 in
theorem refRead_txt (S : ByteArray) (L : List ByteArray) (P : Nat → Nat) (a z : Nat) (w : World) (h0L : 0 < L.length) (hln : L.length ≤ 1000000) (hP0 : P 0 = a) (hPn : P L.length = z) (haz : a ≤ z) (hz : z ≤ S.size) (hs : S.size ≤ 1099511627776)
    (hst : ∀ k (h : k < L.length), P k + 1 ≤ P (k + 1) ∧ P (k + 1) ≤ z ∧ numL (((bs S).drop (P k)).take 1) = P (k + 1) - (P k + 1) ∧ S.extract (P k + 1) (P (k + 1)) = L[k])
    (hh : ∀ wx, Calls Tryz.prog 43 #[.int .i64 16] wx (Told wx (.agg (hasC false false false true false 0 0))))
    (hck : ∀ A c wx, SRow wx (.slice A L.length c) L → Calls Tryz.prog 48 #[.int .i64 16, .agg (dCs false 0 0 ⟨#[]⟩ ⟨#[]⟩ 0 0 0 0 0 (.slice A L.length c) ⟨#[]⟩)] wx (Told wx (.int .i64 0))) :
    Calls Tryz.prog 12 #[.string S, .int .i64 (a : Int), .int .i64 (z : Int), .int .i64 16] w (RedT w L) := by
  have HCk := Lib.hid hck
  have HSt := Lib.hid hst
  have HP0 := Lib.hid hP0
  have HPn := Lib.hid hPn
  clear hck hst hP0 hPn
  have HH := Lib.hid hh
  have z1 : decide ((a : Int) < 0) = false := decide_eq_false (by omega)
  have z2 : decide ((z : Int) < (a : Int)) = false := decide_eq_false (by omega)
  have z2' : decide (z < a) = false := decide_eq_false (by omega)
  have z3 : decide ((S.size : Int) < (z : Int)) = false := decide_eq_false (by omega)
  have z3' : decide (S.size < z) = false := decide_eq_false (by omega)
  have hz' : (z : Int) ≤ 1099511627776 := by omega
  have ha' : (a : Int) ≤ (z : Int) := by omega
  have HAZ := Lib.hid haz
  have HZS := Lib.hid hz
  have HSS := Lib.hid hs
  have hk4 := (((Below.refl w.heap.size w).alloc (Nat.le_refl _) (.cells #[.bool false, .int .u64 0, .int .u64 0, .string ⟨#[]⟩, .string ⟨#[]⟩, .int .u32 0, .int .u32 0, .int .u32 0, .int .u32 0, .int .u32 0, .slice none 0 0, .string ⟨#[]⟩] 30)).alloc (by simp) (.cells #[.string S, .int .i64 (a : Int), .int .i64 (z : Int), .int .i64 0] 91))
  have hr4 : Lies ((w.alloc (.cells #[.bool false, .int .u64 0, .int .u64 0, .string ⟨#[]⟩, .string ⟨#[]⟩, .int .u32 0, .int .u32 0, .int .u32 0, .int .u32 0, .int .u32 0, .slice none 0 0, .string ⟨#[]⟩] 30)).alloc (.cells #[.string S, .int .i64 (a : Int), .int .i64 (z : Int), .int .i64 0] 91)) w.heap.size 30 zD := (Lies.new w _ _).alloc _
  have hc4 : Lies ((w.alloc (.cells #[.bool false, .int .u64 0, .int .u64 0, .string ⟨#[]⟩, .string ⟨#[]⟩, .int .u32 0, .int .u32 0, .int .u32 0, .int .u32 0, .int .u32 0, .slice none 0 0, .string ⟨#[]⟩] 30)).alloc (.cells #[.string S, .int .i64 (a : Int), .int .i64 (z : Int), .int .i64 0] 91)) (w.heap.size + 1) 91 (cursC S a z) := two_box _ _ _ _
  clear hh haz hz hs
  go_enter Tryz.func12, Tryz.ntmps12
  go_upto_region 4 with (fail)
  obtain ⟨W4, hW4⟩ : ∃ x, x = (w.alloc (.cells #[.bool false, .int .u64 0, .int .u64 0, .string ⟨#[]⟩, .string ⟨#[]⟩, .int .u32 0, .int .u32 0, .int .u32 0, .int .u32 0, .int .u32 0, .slice none 0 0, .string ⟨#[]⟩] 30)).alloc (.cells #[.string S, .int .i64 (a : Int), .int .i64 (z : Int), .int .i64 0] 91) := ⟨_, rfl⟩
  rw [← hW4] at hk4 hr4 hc4 ⊢
  obtain ⟨R, hR⟩ : ∃ x, x = w.heap.size := ⟨_, rfl⟩
  obtain ⟨C, hC⟩ : ∃ x, x = w.heap.size + 1 := ⟨_, rfl⟩
  rw [← hR] at hr4
  rw [← hC] at hc4
  clear z1 z2 z2' z3 z3' hW4
  rw [← hC, ← hR]
  go_wp2_with fail
  refine (HH.out _).mono ?_
  rintro e w5 ⟨rfl, hb5⟩
  have hk6 : RdS w ((w5.alloc (.cells #[.bool false, .bool false, .bool false, .bool true, .bool false, .int .i64 0, .int .i64 0] 93)).alloc (.cells #[.bool false, .int .u64 0, .int .u64 0, .string ⟨#[]⟩, .string ⟨#[]⟩, .int .u32 0, .int .u32 0, .int .u32 0, .int .u32 0, .int .u32 0, .slice none 0 0, .string ⟨#[]⟩] 30)) R C w5.heap.size (w5.heap.size + 1) S a z #[.bool false, .bool false, .bool false, .bool true, .bool false, .int .i64 0, .int .i64 0] zD := by
    have hlt := Nat.lt_of_lt_of_le hc4.lt hb5.size
    exact ⟨((hk4.trans (hb5.mono hk4.size)).alloc (Nat.le_trans hk4.size hb5.size) _).alloc (by have := Nat.le_trans hk4.size hb5.size; simp; omega) _, ((hr4.next hb5).alloc _).alloc _, ((hc4.next hb5).alloc _).alloc _, (Lies.new w5 _ _).alloc _, two_box _ _ _ _, by omega⟩
  have HR : Hid (w.heap.size = R) := Lib.hid hR.symm
  clear hk4 hr4 hc4 hb5 hR hC HH
  go_upto_region 6 with (fail)
  obtain ⟨W6, hW6⟩ : ∃ x, x = (w5.alloc (.cells #[.bool false, .bool false, .bool false, .bool true, .bool false, .int .i64 0, .int .i64 0] 93)).alloc (.cells #[.bool false, .int .u64 0, .int .u64 0, .string ⟨#[]⟩, .string ⟨#[]⟩, .int .u32 0, .int .u32 0, .int .u32 0, .int .u32 0, .int .u32 0, .slice none 0 0, .string ⟨#[]⟩] 30) := ⟨_, rfl⟩
  rw [← hW6] at hk6 ⊢
  obtain ⟨H, hH⟩ : ∃ x, x = w5.heap.size := ⟨_, rfl⟩
  obtain ⟨D, hD⟩ : ∃ x, x = w5.heap.size + 1 := ⟨_, rfl⟩
  rw [← hD, ← hH] at hk6 ⊢
  clear hW6 hH hD
  have HK := Lib.hid hk6
  have h0 := hk6.h.cell 0
  have h1 := hk6.h.cell 1
  have h2 := hk6.h.cell 2
  have h3 := hk6.h.cell 3
  have h4 := hk6.h.cell 4
  have h5 := hk6.h.cell 5
  have h6 := hk6.h.cell 6
  have x0 := hk6.d.cell 0
  have x1 := hk6.d.cell 1
  have x2 := hk6.d.cell 2
  have x3 := hk6.d.cell 3
  have x4 := hk6.d.cell 4
  have x5 := hk6.d.cell 5
  have x6 := hk6.d.cell 6
  have x7 := hk6.d.cell 7
  have x8 := hk6.d.cell 8
  have x9 := hk6.d.cell 9
  have x10 := hk6.d.cell 10
  have x11 := hk6.d.cell 11
  obtain ⟨c1, c3, df⟩ := hk6.facts
  simp at h0 h1 h2 h3 h4 h5 h6 x0 x1 x2 x3 x4 x5 x6 x7 x8 x9 x10 x11
  clear hk6
  go_wp2
  go_loop [14] (fun i => i = .int .i64 0) (fun _ => 0)
  case atStart => rfl
  case round =>
    subst hrel
    go_wp2
    clear h0 h1 h2 h3 h4 h5 h6 x0 x1 x2 x3 x4 x5 x6 x7 x8 x9 x10 x11 c1 c3 df
    go_loopw [113] (fun _ wr => ∃ k v, k ≤ L.length ∧ TxS w wr R C H D S P z k L v) (fun _ wr => L.length - lenAt (wr.cell? ⟨D, 10, none⟩))
    case atStart => exact ⟨0, .slice none 0 0, Nat.zero_le _, by rw [HP0.out]; exact HK.out, World.ownsRow_nil _ _ _ _⟩
    case round =>
      obtain ⟨k, v, hk, ht⟩ := hrel
      obtain ⟨A, cap, rfl⟩ := ownsRow_shape ht.own
      have HT := Lib.hid ht
      clear ht
      rcases Nat.lt_or_ge k L.length with hlt | hge
      · obtain ⟨s1, s2, s3, s4⟩ := HSt.out k hlt
        obtain ⟨x, hx⟩ : ∃ x, L[k] = x := ⟨_, rfl⟩
        have HX : Hid (L.take (k + 1) = L.take k ++ [x]) := Lib.hid (by rw [List.take_succ_eq_append_getElem hlt, hx])
        obtain ⟨m, hm⟩ : ∃ m, P (k + 1) - (P k + 1) = m := ⟨_, rfl⟩
        rw [hm] at s3
        rw [hx] at s4
        have z1 : decide ((P k : Int) < (z : Int)) = true := decide_eq_true (by omega)
        have z1' : decide (P k < z) = true := decide_eq_true (by omega)
        have hzS := HZS.out
        have hSS := HSS.out
        have HNum : Hid (∀ wx, Lies wx C 91 (cursC S (P k) z) → Calls Tryz.prog 47 #[.pointer (some ⟨C, 0, none⟩), .int .i64 1] wx (CurO wx C S (P k + 1) z (.int .u32 (m : Int)))) := Lib.hid fun wx hl => by
          have h := refNumber_ok S (P k) z 1 wx C hl (by omega) hzS hSS (by decide)
          rw [s3] at h
          exact h
        have HTake : Hid (∀ wx, Lies wx C 91 (cursC S (P k + 1) z) → Calls Tryz.prog 45 #[.pointer (some ⟨C, 0, none⟩), .int .i64 (m : Int)] wx (CurO wx C S (P (k + 1)) z (.string x))) := Lib.hid fun wx hl => by
          have h := refTake_ok S (P k + 1) z m wx C hl (by omega) hzS hSS
          rw [show P k + 1 + m = P (k + 1) by omega, s4] at h
          exact h
        have hmb : (m : Int) ≤ 1099511627776 := by omega
        have hwm : IntKind.i64.wrap (m : Int) = (m : Int) := IntWalk.i64_in _ (by omega)
        have h63 : k + 1 ≤ maxLen := by unfold maxLen; omega
        have hby : (k + 1) * 16 ≤ 140737488355328 := by omega
        obtain ⟨i0, hi⟩ := Option.isSome_iff_exists.1 (show (Tryz.prog.info? 9).isSome = true by kernel_rfl)
        have hz0 : i0.zero = some (.string ⟨#[]⟩) ∧ i0.size = 1 ∧ i0.bytes = 16 := by
          have h := infoS1
          rw [hi] at h
          simpa using h
        obtain ⟨hz0, hz1, hz2⟩ := hz0
        have h1c : ∀ u ∈ [Value.string x], u.oneCell' = true := fun u hu => by simp at hu; subst hu; rfl
        clear s1 s2 s3 s4 hm hx
        have HKr := Lib.hid HT.out.rd
        have hkk := HKr.out
        have h0 := hkk.h.cell 0
        have h1 := hkk.h.cell 1
        have h2 := hkk.h.cell 2
        have h3 := hkk.h.cell 3
        have h4 := hkk.h.cell 4
        have h5 := hkk.h.cell 5
        have h6 := hkk.h.cell 6
        have x0 := hkk.d.cell 0
        have x1 := hkk.d.cell 1
        have x2 := hkk.d.cell 2
        have x3 := hkk.d.cell 3
        have x4 := hkk.d.cell 4
        have x5 := hkk.d.cell 5
        have x6 := hkk.d.cell 6
        have x7 := hkk.d.cell 7
        have x8 := hkk.d.cell 8
        have x9 := hkk.d.cell 9
        have x10 := hkk.d.cell 10
        have x11 := hkk.d.cell 11
        obtain ⟨c1, c3, df⟩ := hkk.facts
        simp at h0 h1 h2 h3 h4 h5 h6 x0 x1 x2 x3 x4 x5 x6 x7 x8 x9 x10 x11
        clear hkk
        have HKd : Hid (RdS w wr.drew R C H D S (P k) z #[.bool false, .bool false, .bool false, .bool true, .bool false, .int .i64 0, .int .i64 0] (dCs false 0 0 ⟨#[]⟩ ⟨#[]⟩ 0 0 0 0 0 (.slice A k cap) ⟨#[]⟩)) := Lib.hid (HT.out.rd.next (below_draws (Below.refl _ _) 1))
        have HOd : Hid (wr.drew.ownsRow w.heap.size 9 1 (.slice A k cap) k ((L.take k).map Value.string)) := Lib.hid HT.out.own
        go_upto_region 21 with (fail)
        go_region_law (first | (refine step_append_lies _ rfl (.tmp 113) (.tmp 119) 28 rfl w.heap.size 9 i0 (.string ⟨#[]⟩) 1 16 Tryz.underlying28 hi hz0 hz1 hz2 rfl (by decide) (.slice A k cap) k ((L.take k).map Value.string) (by simp [Act.eval, Act.put]) HO3.out ⟨wt.heap.size, 0, none⟩ 1 1 [.string x] (by simp [Act.eval, Act.put]) rfl (cell_one_new _ _ _) h1c (by decide) h63 hby HB3.out (wt.heap.size + 1) (by simp) ?_; intro g1 cap1 w4 hown4 hg4 hob4 hlt4; have HK4 := Lib.hid (HK3.out.row hg4 HO3.out); have z10 := HK4.out.d.cell 10; have y10 := HK4.out.d.free 10; simp at z10; have HO4 := Lib.hid hown4; clear hown4 hg4 hob4 hlt4) | (go_simp; go_at_call 47; (with_reducible refine (HNum.out _ HKd.out.c).mono ?_); rintro e wn ⟨rfl, hc, hg⟩; have HK1 := Lib.hid (HKd.out.call hc hg); have HO1 := Lib.hid (HOd.out.kept hg (.inr (own_ne HOd.out HKd.out.c (by decide)))); have n10 := HK1.out.d.cell 10; simp at n10; clear hc hg) | (go_simp; go_at_call 45; (with_reducible refine (HTake.out _ HK1.out.c).mono ?_); rintro e wt ⟨rfl, hc, hg⟩; have HK2 := Lib.hid (HK1.out.call hc hg); have HO2 := Lib.hid (HO1.out.kept hg (.inr (own_ne HO1.out HK1.out.c (by decide)))); have t10 := HK2.out.d.cell 10; simp at t10; have HK3 := Lib.hid (HK2.out.next ((Below.refl _ _).alloc (Nat.le_refl _) (.cells #[.string x] 9))); have HO3 := Lib.hid (HO2.out.alloc (.cells #[.string x] 9)); have HB3 := Lib.hid HK3.out.bel.size; have m10 := HK3.out.d.cell 10; simp at m10; clear hc hg))
        all_goals
          go_wp2
          have HK5 := Lib.hid (HK4.out.put (cs' := dCs false 0 0 ⟨#[]⟩ ⟨#[]⟩ 0 0 0 0 0 (.slice (some ⟨g1, 0, none⟩) (k + 1) cap1) ⟨#[]⟩) 10 (.slice (some ⟨g1, 0, none⟩) (k + 1) cap1) rfl)
          go_roundw
          case rel =>
            refine ⟨k + 1, .slice (some ⟨g1, 0, none⟩) (k + 1) cap1, by omega, HK5.out, ?_⟩
            rw [HX.out, List.map_append]
            exact ownsRow_setCell_other HO4.out (own_ne HO4.out HK4.out.d (by decide)) _
          case measure =>
            have e1 : wr.cell? ⟨D, 10, none⟩ = some (.slice A k cap) := HT.out.rd.d.cell 10
            have e2 := HK5.out.d.cell 10
            simp at e2
            rw [e1, e2]
            simp only [lenAt]
            omega
      · obtain rfl : k = L.length := by omega
        have hk9 := HT.out.rd
        rw [HPn.out] at hk9
        have HK9 := Lib.hid hk9
        have HOw : Hid (wr.ownsRow w.heap.size 9 1 (.slice A L.length cap) L.length (L.map Value.string)) := Lib.hid (by have := HT.out.own; rwa [List.take_length] at this)
        have HCkT := Lib.hid (HCk.out A cap wr (SRow.of_own HOw.out))
        have hz0L : ((L.length : Int) == 0) = false := by rw [beq_eq_false_iff_ne]; omega
        clear hk9
        have hkk := HK9.out
        have h0 := hkk.h.cell 0
        have h1 := hkk.h.cell 1
        have h2 := hkk.h.cell 2
        have h3 := hkk.h.cell 3
        have h4 := hkk.h.cell 4
        have h5 := hkk.h.cell 5
        have h6 := hkk.h.cell 6
        have x0 := hkk.d.cell 0
        have x1 := hkk.d.cell 1
        have x2 := hkk.d.cell 2
        have x3 := hkk.d.cell 3
        have x4 := hkk.d.cell 4
        have x5 := hkk.d.cell 5
        have x6 := hkk.d.cell 6
        have x7 := hkk.d.cell 7
        have x8 := hkk.d.cell 8
        have x9 := hkk.d.cell 9
        have x10 := hkk.d.cell 10
        have x11 := hkk.d.cell 11
        obtain ⟨c1, c3, df⟩ := hkk.facts
        simp at h0 h1 h2 h3 h4 h5 h6 x0 x1 x2 x3 x4 x5 x6 x7 x8 x9 x10 x11
        clear hkk
        go_upto_region 24 with (fail)
        have hld := load_dw HK9.out.d
        have HLd := Lib.hid hld
        clear hld
        go_wp2_with (first | (refine wpList_load1d (by rfl) 30 (.tmp 12) rfl (.pointer (some ⟨D, 0, none⟩)) (.agg (dCs false 0 0 ⟨#[]⟩ ⟨#[]⟩ 0 0 0 0 0 (.slice A L.length cap) ⟨#[]⟩)) rfl HLd.out ?_) | fail)
        refine HCkT.out.mono ?_
        rintro e wy ⟨rfl, hby⟩
        have HKy := Lib.hid (HK9.out.next hby)
        have HOy := Lib.hid (own_next HOw.out hby)
        clear hby HLd
        clear h0 h1 h2 h3 h4 h5 h6 x0 x1 x2 x3 x4 x5 x6 x7 x8 x9 x10 x11 c1 c3 df
        have hkk := HKy.out
        have h0 := hkk.h.cell 0
        have h1 := hkk.h.cell 1
        have h2 := hkk.h.cell 2
        have h3 := hkk.h.cell 3
        have h4 := hkk.h.cell 4
        have h5 := hkk.h.cell 5
        have h6 := hkk.h.cell 6
        have x0 := hkk.d.cell 0
        have x1 := hkk.d.cell 1
        have x2 := hkk.d.cell 2
        have x3 := hkk.d.cell 3
        have x4 := hkk.d.cell 4
        have x5 := hkk.d.cell 5
        have x6 := hkk.d.cell 6
        have x7 := hkk.d.cell 7
        have x8 := hkk.d.cell 8
        have x9 := hkk.d.cell 9
        have x10 := hkk.d.cell 10
        have x11 := hkk.d.cell 11
        obtain ⟨c1, c3, df⟩ := hkk.facts
        simp at h0 h1 h2 h3 h4 h5 h6 x0 x1 x2 x3 x4 x5 x6 x7 x8 x9 x10 x11
        clear hkk
        go_upto_region 28 with (fail)
        obtain ⟨wz, hst, hlz, hgz⟩ := store_dw HKy.out.r false 0 0 ⟨#[]⟩ ⟨#[]⟩ 0 0 0 0 0 A L.length cap ⟨#[]⟩
        have HLy := Lib.hid (load_dw HKy.out.d)
        have HSt := Lib.hid hst
        have HBz : Hid (Below w.heap.size w wz) := Lib.hid (HKy.out.bel.grown hgz HKy.out.bel.size (fun j e => by injection e with e; have := HKy.out.o; omega))
        have HOz := Lib.hid (HOy.out.kept hgz (.inr (own_ne HOy.out HKy.out.r (by decide))))
        have r0 := hlz.cell 0
        have r1 := hlz.cell 1
        have r2 := hlz.cell 2
        have r3 := hlz.cell 3
        have r4 := hlz.cell 4
        have r5 := hlz.cell 5
        have r6 := hlz.cell 6
        have r7 := hlz.cell 7
        have r8 := hlz.cell 8
        have r9 := hlz.cell 9
        have r10 := hlz.cell 10
        have r11 := hlz.cell 11
        simp at r0 r1 r2 r3 r4 r5 r6 r7 r8 r9 r10 r11
        clear hst hlz hgz h0 h1 h2 h3 h4 h5 h6 x0 x1 x2 x3 x4 x5 x6 x7 x8 x9 x10 x11 c1 c3 df
        go_wp2_with (first | (refine wpList_load1d (by rfl) 30 (.tmp 12) rfl (.pointer (some ⟨D, 0, none⟩)) (.agg (dCs false 0 0 ⟨#[]⟩ ⟨#[]⟩ 0 0 0 0 0 (.slice A L.length cap) ⟨#[]⟩)) rfl HLy.out ?_) | (refine wpList_store1d rfl 30 (.tmp 8) (.tmp 162) rfl (.pointer (some ⟨R, 0, none⟩)) (.agg (dCs false 0 0 ⟨#[]⟩ ⟨#[]⟩ 0 0 0 0 0 (.slice A L.length cap) ⟨#[]⟩)) rfl rfl HSt.out ?_) | fail)
        refine bodyPost_ret (v := .tuple #[.agg (dCs false 0 0 ⟨#[]⟩ ⟨#[]⟩ 0 0 0 0 0 (.slice A L.length cap) ⟨#[]⟩), .int .i64 0]) (by simp [results, Tryz.results12, go_sem, r0, r1, r2, r3, r4, r5, r6, r7, r8, r9, r10, r11]) rfl ?_
        exact ⟨A, cap, rfl, SRow.of_own HOz.out, HBz.out⟩
end Go.Proofs.YtodedbokeodmkaaGreat
namespace Go.Proofs.YtodedbokeodmkaaGreat
open Go.RowKit
set_option linter.unusedVariables false
set_option maxRecDepth 10000

/-- A name that is read without a pointer stands as it is, with a nought behind. -/
theorem run_plain (x : List UInt8) : ∀ (k : Nat) (s : US), s.f = 0 → InvU x.length s → muU x s ≤ k → (runU x k s).f = 0 → s.j = 0 → (runU x k s).j = 0 → ∃ y, (runU x k s).l = s.l ++ y ∧ x.take (runU x k s).e = x.take s.p ++ (y ++ [0])
  | 0, s, hf, hi, hm, hu, hj, hu2 => by
    rw [show muU x s = _ from if_neg (by omega)] at hm
    omega
  | k + 1, s, hf, hi, hm, hu, hj, hu2 => by
    by_cases he : (partU (x.drop s.p)).2 = 0
    · have hi2 := overU_inv hi he
      have m1 := mu_keep hi he hf hm
      have m2 := mu_follow hi he hf hm
      obtain ⟨_, hn, _⟩ := partU_ok he
      have htk : x.take (s.p + (partU (x.drop s.p)).1) = x.take s.p ++ (x.drop s.p).take (partU (x.drop s.p)).1 := List.take_add
      by_cases ht : (overU x s (partU (x.drop s.p)).1).t = [0]
      · rw [runU_end hf he ht]
        refine ⟨[], by rw [List.append_nil]; rfl, ?_⟩
        have e1 : (overU x s (partU (x.drop s.p)).1).e = s.p + (partU (x.drop s.p)).1 := if_pos hj
        rw [e1, htk]
        have ht' : (x.drop s.p).take (partU (x.drop s.p)).1 = [0] := ht
        rw [ht']
        rfl
      · cases hp : isPtr (overU x s (partU (x.drop s.p)).1).t
        · rw [runU_lab hf he ht hp] at hu hu2 ⊢
          by_cases hlong : 254 < (overU x s (partU (x.drop s.p)).1).l.length + (overU x s (partU (x.drop s.p)).1).t.length
          · rw [show keepU (overU x s (partU (x.drop s.p)).1) = failU _ 3 from if_pos hlong, runU_stop (by simp [failU])] at hu
            simp [failU] at hu
          · have ek : keepU (overU x s (partU (x.drop s.p)).1) = { overU x s (partU (x.drop s.p)).1 with l := (overU x s (partU (x.drop s.p)).1).l ++ (overU x s (partU (x.drop s.p)).1).t } := if_neg hlong
            have hi3 := keepU_inv hi2
            rw [ek] at hu hu2 hi3 m1 ⊢
            obtain ⟨y, h1, h2⟩ := run_plain x k { overU x s (partU (x.drop s.p)).1 with l := (overU x s (partU (x.drop s.p)).1).l ++ (overU x s (partU (x.drop s.p)).1).t } hf hi3 m1 hu hj hu2
            refine ⟨(x.drop s.p).take (partU (x.drop s.p)).1 ++ y, ?_, ?_⟩
            · rw [h1]
              show (s.l ++ (x.drop s.p).take (partU (x.drop s.p)).1) ++ y = _
              rw [List.append_assoc]
            · rw [h2]
              show x.take (s.p + (partU (x.drop s.p)).1) ++ _ = _
              rw [htk, List.append_assoc, List.append_assoc]
        · rw [runU_ptr hf he ht hp] at hu hu2
          by_cases hto : (overU x s (partU (x.drop s.p)).1).r ≤ toU (overU x s (partU (x.drop s.p)).1).t
          · rw [show followU (overU x s (partU (x.drop s.p)).1) = failU _ 4 from if_pos hto, runU_stop (by simp [failU])] at hu
            simp [failU] at hu
          · have ek : followU (overU x s (partU (x.drop s.p)).1) = { overU x s (partU (x.drop s.p)).1 with r := toU (overU x s (partU (x.drop s.p)).1).t, p := toU (overU x s (partU (x.drop s.p)).1).t, j := (overU x s (partU (x.drop s.p)).1).j + 1 } := if_neg hto
            have hi3 := followU_inv hi2
            rw [ek] at hu hu2 hi3 m2
            have h8 := (run_ok x k { overU x s (partU (x.drop s.p)).1 with r := toU (overU x s (partU (x.drop s.p)).1).t, p := toU (overU x s (partU (x.drop s.p)).1).t, j := (overU x s (partU (x.drop s.p)).1).j + 1 } hf hi3 m2 hu).j
            exact absurd (Nat.le_trans h8 (Nat.le_of_eq hu2)) (Nat.not_succ_le_zero _)
    · rw [runU_bad hf he] at hu
      exact absurd hu he
theorem readU_plain {x : List UInt8} (h : (readU x ((0 : Nat) : Int) ((0 : Nat) : Int)).f = 0) : x.take (readU x ((0 : Nat) : Int) ((0 : Nat) : Int)).e = (readU x ((0 : Nat) : Int) ((0 : Nat) : Int)).l ++ [0] := by
  obtain ⟨n, hn, ok⟩ := readU_yes h
  have hn0 : n = 0 := by omega
  subst hn0
  have ha : ¬ (((0 : Nat) : Int) < 0 ∨ (x.length : Int) < ((0 : Nat) : Int)) := by omega
  have e1 : readU x ((0 : Nat) : Int) ((0 : Nat) : Int) = runU x (muU x (begU 0 0)) (begU 0 0) := if_neg ha
  have hj := ok.j
  rw [e1] at h hj ⊢
  obtain ⟨y, h1, h2⟩ := run_plain x _ (begU 0 0) rfl (begU_inv (Nat.zero_le _) (Nat.zero_le _)) (Nat.le_refl _) h rfl (by omega)
  rw [h2, h1]
  simp [begU]
theorem numR_yes {T : List UInt8} {k n : Nat} (h : (numR T k (n : Nat)).e = 0) : (numR T k (n : Nat)).s = (T.drop k).take n ∧ (numR T k (n : Nat)).k = k + n ∧ (k ≤ T.length → k + n ≤ T.length) := by
  unfold numR at h ⊢
  by_cases hw : isW (n : Nat) = false
  · rw [if_pos hw] at h; cases h
  · rw [if_neg hw] at h ⊢
    unfold takR at h ⊢
    rw [if_neg (by omega)] at h ⊢
    by_cases h2 : (T.length : Int) - k < (n : Nat)
    · rw [if_pos h2] at h; cases h
    · rw [if_neg h2]
      simp only [Int.toNat_natCast]
      exact ⟨trivial, trivial, fun _ => by omega⟩
/-- A record's parts where its octets stand alone. -/
structure Stands (s : List UInt8) (r : MR) : Prop where
  le : (bs r.n).length + 11 ≤ s.length
  name : s.take ((bs r.n).length + 1) = bs r.n ++ [0]
  t : ((num ((s.drop ((bs r.n).length + 1)).take 2) : Nat) : Int) = r.t
  c : ((num ((s.drop ((bs r.n).length + 3)).take 2) : Nat) : Int) = r.c
  x : num ((s.drop ((bs r.n).length + 5)).take 4) = r.x
  z : num ((s.drop ((bs r.n).length + 9)).take 2) = s.length - ((bs r.n).length + 11)
  d : readD s ((bs r.n).length + 11 : Nat) (s.length : Nat) r.t = (0, r.d)
theorem stands_of {s : List UInt8} {r : MR} (h : rdR s ((0 : Nat) : Int) = ⟨0, s.length, r⟩) : Stands s r := by
  obtain ⟨rn, rt, rc, rx, rd⟩ := r
  unfold rdR at h
  by_cases h1 : (rdQ s ((0 : Nat) : Int)).e ≠ 0
  · rw [if_pos h1] at h
    have := congrArg RRec.e h
    exact absurd this h1
  · rw [if_neg h1] at h
    have hq0 := Decidable.not_not.1 h1
    have s0 : seekR s 0 ((0 : Nat) : Int) = (0, 0) := seekR_some (Nat.zero_le _)
    unfold rdQ at hq0 h
    rw [s0] at hq0 h
    simp only [ne_eq, not_true_eq_false, if_false] at hq0 h
    by_cases h2 : (rdNm s 0).e ≠ 0
    · rw [if_pos h2] at hq0; exact absurd hq0 h2
    · rw [if_neg h2] at hq0 h
      have hn0 := Decidable.not_not.1 h2
      have hnm : (readU s ((0 : Nat) : Int) ((0 : Nat) : Int)).f = 0 ∧ (rdNm s 0).s = (readU s ((0 : Nat) : Int) ((0 : Nat) : Int)).l ∧ (rdNm s 0).k = (readU s ((0 : Nat) : Int) ((0 : Nat) : Int)).e := by
        unfold rdNm at hn0 ⊢
        by_cases g1 : (readU s ((0 : Nat) : Int) ((0 : Nat) : Int)).f ≠ 0
        · rw [if_pos g1] at hn0; exact absurd hn0 g1
        · rw [if_neg g1] at hn0 ⊢
          by_cases g2 : (seekR s 0 (readU s ((0 : Nat) : Int) ((0 : Nat) : Int)).e).1 ≠ 0
          · rw [if_pos g2] at hn0; exact absurd hn0 g2
          · rw [if_neg g2]
            exact ⟨Decidable.not_not.1 g1, rfl, rfl⟩
      obtain ⟨f0, ns, nk⟩ := hnm
      have hpl := readU_plain f0
      rw [← ns, ← nk] at hpl
      obtain ⟨Y, hY⟩ : ∃ Y, rdNm s 0 = Y := ⟨_, rfl⟩
      rw [hY] at hq0 h hpl
      by_cases h3 : (numR s Y.k 2).e ≠ 0
      · rw [if_pos h3] at hq0; exact absurd hq0 h3
      · rw [if_neg h3] at hq0 h
        obtain ⟨a1, a2, a3⟩ := numR_yes (n := 2) (Decidable.not_not.1 h3)
        rw [show (numR s Y.k 2) = numR s Y.k ((2 : Nat) : Int) from rfl, a2] at hq0 h
        by_cases h4 : (numR s (Y.k + 2) 2).e ≠ 0
        · rw [if_pos h4] at hq0; exact absurd hq0 h4
        · rw [if_neg h4] at h
          obtain ⟨b1, b2, b3⟩ := numR_yes (n := 2) (Decidable.not_not.1 h4)
          simp only at h
          rw [show (numR s (Y.k + 2) 2) = numR s (Y.k + 2) ((2 : Nat) : Int) from rfl, a1, b1, b2] at h
          unfold rdTail at h
          by_cases h5 : (numR s (Y.k + 2 + 2) 4).e ≠ 0
          · rw [if_pos h5] at h; exact absurd (congrArg RRec.e h) h5
          · rw [if_neg h5] at h
            obtain ⟨c1, c2, c3⟩ := numR_yes (n := 4) (Decidable.not_not.1 h5)
            rw [show (numR s (Y.k + 2 + 2) 4) = numR s (Y.k + 2 + 2) ((4 : Nat) : Int) from rfl, c1, c2] at h
            by_cases h6 : (numR s (Y.k + 2 + 2 + 4) 2).e ≠ 0
            · rw [if_pos h6] at h; exact absurd (congrArg RRec.e h) h6
            · rw [if_neg h6] at h
              obtain ⟨d1, d2, d3⟩ := numR_yes (n := 2) (Decidable.not_not.1 h6)
              rw [show (numR s (Y.k + 2 + 2 + 4) 2) = numR s (Y.k + 2 + 2 + 4) ((2 : Nat) : Int) from rfl, d1, d2] at h
              obtain ⟨Z, hZ⟩ : ∃ Z, num ((s.drop (Y.k + 2 + 2 + 4)).take 2) = Z := ⟨_, rfl⟩
              rw [hZ] at h
              by_cases h7 : (takR s (Y.k + 2 + 2 + 4 + 2) (Z : Nat)).e ≠ 0
              · rw [if_pos h7] at h; exact absurd (congrArg RRec.e h) h7
              · rw [if_neg h7] at h
                have hk7 : (takR s (Y.k + 2 + 2 + 4 + 2) (Z : Nat)).k = Y.k + 2 + 2 + 4 + 2 + Z := by
                  have h7' := Decidable.not_not.1 h7
                  unfold takR at h7' ⊢
                  rw [if_neg (by omega)] at h7' ⊢
                  by_cases g : (s.length : Int) - (Y.k + 2 + 2 + 4 + 2 : Nat) < (Z : Nat)
                  · rw [if_pos g] at h7'; cases h7'
                  · rw [if_neg g]
                    rfl
                rw [hk7] at h
                by_cases h8 : (readD s (Y.k + 2 + 2 + 4 + 2 : Nat) (Y.k + 2 + 2 + 4 + 2 + Z : Nat) ((num ((s.drop Y.k).take 2) : Nat) : Int)).1 ≠ 0
                · rw [if_pos h8] at h; exact absurd (congrArg RRec.e h) h8
                · rw [if_neg h8] at h
                  have e1 := congrArg RRec.k h
                  have e2 := congrArg RRec.r h
                  simp only [MR.mk.injEq] at e1 e2
                  obtain ⟨en, et, ec, ex, ed⟩ := e2
                  have hns : Y.s = bs rn := by rw [← en, mkb]; exact (bs_mk _).symm
                  have hYk : Y.k = (bs rn).length + 1 := by
                    have := congrArg List.length hpl
                    rw [List.length_take, List.length_append, List.length_singleton, hns] at this
                    omega
                  have h10 : Y.k + 10 ≤ s.length := by omega
                  rw [hYk] at hpl hZ et ec ex ed e1 h8
                  refine ⟨by show (bs rn).length + 11 ≤ _; omega, ?_, ?_, ?_, ?_, ?_, ?_⟩
                  · show s.take ((bs rn).length + 1) = bs rn ++ [0]
                    rw [hpl, hns]
                  · exact et
                  · exact ec
                  · exact ex
                  · show num ((s.drop ((bs rn).length + 9)).take 2) = s.length - ((bs rn).length + 11)
                    rw [show (bs rn).length + 9 = (bs rn).length + 1 + 2 + 2 + 4 from rfl, hZ]
                    omega
                  · have h8' := Decidable.not_not.1 h8
                    rw [et] at ed h8'
                    show readD s ((bs rn).length + 11 : Nat) (s.length : Nat) rt = (0, rd)
                    rw [show (bs rn).length + 11 = (bs rn).length + 1 + 2 + 2 + 4 + 2 from rfl, ← e1]
                    exact Prod.ext h8' ed
/-- Numbers by another fold. -/
theorem numI_num (l : List UInt8) : numI l = num l := by
  have h : ∀ (l : List UInt8) (a : Nat), l.foldl (fun v c => 256 * v + c.toNat) a = l.foldl (fun v c => v * 256 + c.toNat) a := fun l => by
    induction l with
    | nil => exact fun a => rfl
    | cons c l ih => exact fun a => by rw [List.foldl_cons, List.foldl_cons, Nat.mul_comm 256 a]; exact ih _
  exact h l 0
theorem numL_num : ∀ (n : Nat) (l : List UInt8), l.length = n → n ≤ 4 → numL l = num l
  | 0, l, h, _ => by rw [List.length_eq_zero_iff.1 h]; rfl
  | n + 1, l, h, h4 => by
    have hne : l ≠ [] := fun e => by rw [e] at h; cases h
    obtain ⟨l', c, rfl⟩ : ∃ l' c, l = l' ++ [c] := ⟨l.dropLast, l.getLast hne, (List.dropLast_concat_getLast hne).symm⟩
    have hl' : l'.length = n := by rw [List.length_append, List.length_singleton] at h; omega
    rw [numL_snoc, num_snoc, numL_num n l' hl' (by omega)]
    have h1 := num_lt (l' ++ [c])
    rw [num_snoc, h] at h1
    have h2 : 256 ^ (n + 1) ≤ 256 ^ 4 := Nat.pow_le_pow_right (by decide) h4
    have h3 : 256 ^ 4 = 4294967296 := by decide
    exact Nat.mod_eq_of_lt (by omega)
end Go.Proofs.YtodedbokeodmkaaGreat
namespace Go.Proofs.YtodedbokeodmkaaGreat
open Go.RowKit
set_option linter.unusedVariables false
set_option maxRecDepth 100000

/-- What a read of data answers. -/
def Reads (d : MD) (w : World) (e : Ending) (w' : World) : Prop := ∃ tv, e = .returned (.tuple #[dataV d tv, .int .i64 0]) ∧ SRow w' tv d.L ∧ Below w.heap.size w w'
/-- The program's own read of all that is left, where it goes well. -/
structure RdAll (T : List UInt8) (a : Nat) (t : Int) (d : MD) : Prop where
  e : (rdK T T (kindK t) md0 a).e = 0
  kk : T.length ≤ (rdK T T (kindK t) md0 a).k
  dd : (rdK T T (kindK t) md0 a).d = d
  all : allK (kindK t) d = 0
theorem rdAll_of {T : List UInt8} {a : Nat} {t : Int} {d : MD} (ht : isT t = true) (ha : a ≤ T.length) (h : readD T (a : Nat) (T.length : Nat) t = (0, d)) : RdAll T a t d := by
  rw [readD_in ht ha (Nat.le_refl _), List.take_length] at h
  by_cases h1 : (rdK T T (kindK t) md0 a).e ≠ 0
  · rw [if_pos h1] at h
    exact absurd (congrArg Prod.fst h) h1
  · rw [if_neg h1] at h
    by_cases h2 : (rdK T T (kindK t) md0 a).k < T.length ∨ allK (kindK t) (rdK T T (kindK t) md0 a).d ≠ 0
    · rw [if_pos h2] at h
      cases congrArg Prod.fst h
    · rw [if_neg h2] at h
      have hd : (rdK T T (kindK t) md0 a).d = d := congrArg Prod.snd h
      refine ⟨Decidable.not_not.1 h1, by omega, hd, ?_⟩
      rw [← hd]
      exact Decidable.not_not.1 fun hx => h2 (.inr hx)
theorem takR_yes {T : List UInt8} {k n : Nat} (h : (takR T k (n : Nat)).e = 0) : (takR T k (n : Nat)).s = (T.drop k).take n ∧ (takR T k (n : Nat)).k = k + n ∧ (k ≤ T.length → k + n ≤ T.length) := by
  unfold takR at h ⊢
  rw [if_neg (by omega)] at h ⊢
  by_cases h2 : (T.length : Int) - k < (n : Nat)
  · rw [if_pos h2] at h; cases h
  · rw [if_neg h2]
    simp only [Int.toNat_natCast]
    exact ⟨trivial, trivial, fun _ => by omega⟩
/-- A name read. -/
theorem name_yes {T : List UInt8} {ptd : Bool} {k : Nat} (h : (rdName T T ptd k).e = 0) : (readU T k (if ptd then k else 0)).f = 0 ∧ (rdName T T ptd k).s = (readU T k (if ptd then k else 0)).l ∧ (rdName T T ptd k).k = (readU T k (if ptd then k else 0)).e ∧ (readU T k (if ptd then k else 0)).e ≤ T.length := by
  unfold rdName at h ⊢
  by_cases h1 : (readU T k (if ptd then k else 0)).f ≠ 0
  · rw [if_pos h1] at h; exact absurd h h1
  · rw [if_neg h1] at h ⊢
    by_cases h2 : (seekR T k (readU T k (if ptd then k else 0)).e).1 ≠ 0
    · rw [if_pos h2] at h; cases h
    · rw [if_neg h2]
      refine ⟨Decidable.not_not.1 h1, rfl, rfl, ?_⟩
      refine Decidable.byContradiction fun hx => h2 ?_
      unfold seekR
      rw [if_pos (.inr (by omega))]
      simp
theorem kind_one {T : List UInt8} {p : Pt} {x : MD} {k : Nat} (h : (rdK T T [p] x k).e = 0) : (rdP T T p x k).e = 0 ∧ rdK T T [p] x k = ⟨0, (rdP T T p x k).k, (rdP T T p x k).d⟩ := by
  unfold rdK at h ⊢
  by_cases h1 : (rdP T T p x k).e ≠ 0
  · rw [if_pos h1] at h; exact absurd h h1
  · rw [if_neg h1]
    exact ⟨Decidable.not_not.1 h1, rfl⟩
theorem kind_more {T : List UInt8} {p : Pt} {K : List Pt} {x : MD} {k : Nat} (h : (rdK T T (p :: K) x k).e = 0) : (rdP T T p x k).e = 0 ∧ rdK T T (p :: K) x k = rdK T T K (rdP T T p x k).d (rdP T T p x k).k := by
  have e : rdK T T (p :: K) x k = if (rdP T T p x k).e ≠ 0 then rdP T T p x k else rdK T T K (rdP T T p x k).d (rdP T T p x k).k := by conv => lhs; unfold rdK
  rw [e] at h
  by_cases h1 : (rdP T T p x k).e ≠ 0
  · rw [if_pos h1] at h; exact absurd h h1
  · rw [e, if_neg h1]
    exact ⟨Decidable.not_not.1 h1, rfl⟩
theorem all_chk {K : List Pt} {d : MD} (h : allK K d = 0) : chkK K d = 0 := by
  unfold allK at h
  by_cases h1 : partsK K d ≠ 0
  · rw [if_pos h1] at h; exact absurd h h1
  · have h2 := Decidable.not_not.1 h1
    unfold partsK at h2
    by_cases h3 : sameD (dropK K d) md0 = true
    · rw [if_pos h3] at h2; exact h2
    · rw [if_neg h3] at h2; cases h2
theorem first_cons {α : Type} {f : α → Nat} {x : α} {r : List α} (h : firstE f (x :: r) = 0) : f x = 0 ∧ firstE f r = 0 := by
  unfold firstE at h
  by_cases h1 : f x ≠ 0
  · rw [if_pos h1] at h; exact absurd h h1
  · rw [if_neg h1] at h; exact ⟨Decidable.not_not.1 h1, h⟩
theorem all_size {K : List Pt} {d : MD} (h : allK K d = 0) : sizeK K d ≤ 65535 := by
  unfold allK at h
  by_cases h1 : partsK K d ≠ 0
  · rw [if_pos h1] at h; exact absurd h h1
  · rw [if_neg h1] at h
    by_cases h2 : 65535 < sizeK K d
    · rw [if_pos h2] at h; cases h
    · omega
theorem nums_some {R : List UInt8} {n : Nat} {ns : List Nat} {k : Nat} (hn : n ≠ 0) (h : (rdNums R (n :: ns) k).e = 0) : k + n ≤ max k R.length + n ∧ (k ≤ R.length → k + n ≤ R.length) ∧ (rdNums R ns (k + n)).e = 0 ∧ rdNums R (n :: ns) k = ⟨num ((R.drop k).take n) :: (rdNums R ns (k + n)).v, (rdNums R ns (k + n)).e, (rdNums R ns (k + n)).k⟩ := by
  have e : rdNums R (n :: ns) k = if n = 0 then ⟨0 :: (rdNums R ns k).v, (rdNums R ns k).e, (rdNums R ns k).k⟩
    else if (numR R k n).e ≠ 0 then ⟨[], (numR R k n).e, (numR R k n).k⟩ else ⟨num (numR R k n).s :: (rdNums R ns (numR R k n).k).v, (rdNums R ns (numR R k n).k).e, (rdNums R ns (numR R k n).k).k⟩ := by conv => lhs; unfold rdNums
  rw [if_neg hn] at e
  rw [e] at h
  by_cases h1 : (numR R k n).e ≠ 0
  · rw [if_pos h1] at h; exact absurd h h1
  · obtain ⟨g1, g2, g3⟩ := numR_yes (Decidable.not_not.1 h1)
    rw [if_neg h1, g1, g2] at e
    rw [if_neg h1, g1, g2] at h
    exact ⟨by omega, g3, h, e⟩
theorem nums_nought {R : List UInt8} {ns : List Nat} {k : Nat} : rdNums R (0 :: ns) k = ⟨0 :: (rdNums R ns k).v, (rdNums R ns k).e, (rdNums R ns k).k⟩ := by
  conv => lhs; unfold rdNums
  rw [if_pos rfl]
theorem nums_end {R : List UInt8} {k : Nat} : rdNums R [] k = ⟨[], 0, k⟩ := rfl
/-- A name part. -/
theorem part_name {T : List UInt8} {mail ptd : Bool} {x : MD} {k : Nat} (h : (rdP T T (.nam mail ptd) x k).e = 0) : ∃ u, readU T k (if ptd then k else 0) = u ∧ u.f = 0 ∧ u.e ≤ T.length ∧ rdP T T (.nam mail ptd) x k = ⟨0, u.e, putName mail x (mkb u.l)⟩ := by
  have h1 : (rdName T T ptd k).e = 0 := h
  obtain ⟨f0, f1, f2, f3⟩ := name_yes h1
  refine ⟨_, rfl, f0, f3, ?_⟩
  rw [show rdP T T (.nam mail ptd) x k = ⟨(rdName T T ptd k).e, (rdName T T ptd k).k, putName mail x (mkb (rdName T T ptd k).s)⟩ from rfl, h1, f1, f2]
theorem four_num (X : ByteArray) (h : X.size = 4) : ((X[0].toNat * 256 + X[1].toNat) * 256 + X[2].toNat) * 256 + X[3].toNat = num (bs X) := by
  obtain ⟨⟨l⟩⟩ := X
  match l, h with
  | [a, b, c, d], _ => simp [num, bs, ByteArray.getElem_eq_getElem_data]
theorem take_all {l : List UInt8} {n : Nat} (h : l.length ≤ n) : l.take n = l := List.take_of_length_le h
theorem text_yes {R : List UInt8} {k : Nat} (h : (rdText R k).e = 0) (hk : k ≤ R.length) : (rdText R k).s = (R.drop (k + 1)).take (num ((R.drop k).take 1)) ∧ (rdText R k).k = k + 1 + num ((R.drop k).take 1) ∧ k + 1 + num ((R.drop k).take 1) ≤ R.length := by
  unfold rdText at h ⊢
  rw [show numR R k 1 = numR R k ((1 : Nat) : Int) from rfl] at h ⊢
  by_cases h1 : (numR R k ((1 : Nat) : Int)).e ≠ 0
  · rw [if_pos h1] at h; exact absurd h h1
  · obtain ⟨g1, g2, g3⟩ := numR_yes (n := 1) (Decidable.not_not.1 h1)
    rw [if_neg h1, g1, g2] at h ⊢
    obtain ⟨t1, t2, t3⟩ := takR_yes h
    exact ⟨t1, t2, t3 (g3 hk)⟩
/-- Where texts that are read stand. -/
def TxtAt (R : List UInt8) (k z : Nat) (L : List ByteArray) : Prop := ∃ P : Nat → Nat, P 0 = k ∧ P L.length = z ∧ k + L.length ≤ z ∧ ∀ j (h : j < L.length), P j + 1 ≤ P (j + 1) ∧ P (j + 1) ≤ z ∧ numL ((R.drop (P j)).take 1) = P (j + 1) - (P j + 1) ∧ (R.drop (P j + 1)).take (P (j + 1) - (P j + 1)) = bs L[j]
theorem texts_at (R : List UInt8) : ∀ (f : Nat) (L : List ByteArray) (k : Nat), (rdTexts R f L k).e = 0 → k ≤ R.length → ∃ M, (rdTexts R f L k).d.L = L ++ M ∧ (rdTexts R f L k).k ≤ R.length ∧ TxtAt R k (rdTexts R f L k).k M
  | 0, L, k, h, hk => ⟨[], (List.append_nil L).symm, hk, fun _ => k, rfl, rfl, Nat.le_refl _, fun j h => absurd h (Nat.not_lt_zero j)⟩
  | f + 1, L, k, h, hk => by
    by_cases hg : L = [] ∨ k < R.length
    · by_cases he : (rdText R k).e = 0
      · rw [rdTexts_ok hg he] at h ⊢
        obtain ⟨t1, t2, t3⟩ := text_yes he hk
        rw [t2] at h ⊢
        obtain ⟨x, hx⟩ : ∃ x, mkb (rdText R k).s = x := ⟨_, rfl⟩
        have hxs : bs x = (rdText R k).s := by rw [← hx]; exact bs_mk _
        rw [hx] at h ⊢
        obtain ⟨N, hN⟩ : ∃ N, num ((R.drop k).take 1) = N := ⟨_, rfl⟩
        rw [hN] at h t1 t3 ⊢
        obtain ⟨M, m1, m2, P, p0, pn, pl, pa⟩ := texts_at R f (L ++ [x]) (k + 1 + N) h t3
        obtain ⟨Z, hZ⟩ : ∃ Z, rdTexts R f (L ++ [x]) (k + 1 + N) = Z := ⟨_, rfl⟩
        rw [hZ] at m1 m2 pn pl pa ⊢
        refine ⟨x :: M, by rw [m1, List.append_assoc]; rfl, m2, fun j => if j = 0 then k else P (j - 1), rfl, ?_, ?_, ?_⟩
        · show (if M.length + 1 = 0 then k else P (M.length + 1 - 1)) = Z.k
          rw [if_neg (by omega)]
          exact pn
        · rw [List.length_cons]; omega
        · intro j hj
          match j, hj with
          | 0, _ =>
            show k + 1 ≤ P 0 ∧ P 0 ≤ Z.k ∧ numL ((R.drop k).take 1) = P 0 - (k + 1) ∧ (R.drop (k + 1)).take (P 0 - (k + 1)) = bs x
            rw [p0]
            have hl : ((R.drop k).take 1).length = 1 := by rw [List.length_take, List.length_drop]; omega
            refine ⟨by omega, by omega, ?_, ?_⟩
            · rw [numL_num 1 _ hl (by decide), hN]; omega
            · rw [hxs, t1, show k + 1 + N - (k + 1) = N by omega]
          | j + 1, hj' =>
            have := pa j (by rw [List.length_cons] at hj'; omega)
            exact this
      · rw [rdTexts_bad hg he] at h
        exact absurd h he
    · have hL : L ≠ [] := fun e => hg (.inl e)
      rw [rdTexts_end hL (fun e => hg (.inr e))]
      exact ⟨[], (List.append_nil L).symm, hk, fun _ => k, rfl, rfl, Nat.le_refl _, fun j h => absurd h (Nat.not_lt_zero j)⟩
theorem sz_sum : ∀ (L : List ByteArray) (a : Nat), L.foldl (fun n x => n + 1 + x.size) a = a + (L.map fun x => 1 + x.size).sum
  | [], a => rfl
  | x :: L, a => by rw [List.foldl_cons, sz_sum L, List.map_cons, List.sum_cons]; omega
section
variable {S : ByteArray} {a : Nat} {t : Int} {d : MD}
abbrev RdGoal (S : ByteArray) (a : Nat) (t : Int) (d : MD) (w : World) : Prop := Calls Tryz.prog 12 #[.string S, .int .i64 (a : Int), .int .i64 (S.size : Int), .int .i64 t] w (Reads d w)
theorem reads_nil {V : Value} {w : World} {e : Ending} {w' : World} (hV : V = dataV d nilS) (hL : d.L = []) (h : Red w V e w') : Reads d w e w' := by
  obtain ⟨h1, h2⟩ := h
  exact ⟨nilS, by rw [h1, hV], .inl ⟨none, rfl, hL⟩, h2⟩
theorem go_raw (ht : 0 ≤ t ∧ t ≤ 65535) (hraw : t ≠ 1 ∧ t ≠ 28 ∧ t ≠ 2 ∧ t ≠ 5 ∧ t ≠ 12 ∧ t ≠ 6 ∧ t ≠ 15 ∧ t ≠ 33 ∧ t ≠ 16) (hk : kindK t = [.raw]) (ha : a ≤ S.size) (hs : S.size ≤ 65535) (h : RdAll (bs S) a t d) (w : World) : RdGoal S a t d w := by
  obtain ⟨he, hkk, hd, hall⟩ := h
  rw [hk] at he hkk hd hall
  obtain ⟨_, h2⟩ := kind_one he
  rw [h2] at hd
  have hr : S.extract a S.size = mkb ((bs S).drop a) := by
    apply bs_inj
    rw [bs_extract, show bs (mkb ((bs S).drop a)) = (bs S).drop a from bs_mk _, ← bs_length, ← List.length_drop, List.take_length]
  have hd' : d = { md0 with r := S.extract a S.size } := by rw [← hd, hr]; rfl
  have hrs : (S.extract a S.size).size ≤ 65535 := by rw [← bs_length, bs_extract, List.length_take, List.length_drop, bs_length]; omega
  rw [hd']
  refine (refRead_raw S a S.size t w ht hraw.2.2.2.2.2.1 ha (Nat.le_refl _) (by omega) (fun wx => has_raw t wx hraw) (fun wx => refDCheck_raw t (S.extract a S.size) ht.1 ht.2 ⟨hraw.1, hraw.2.1⟩ hrs (fun wy => has_raw t wy hraw) wx)).mono ?_
  exact fun e w' h => reads_nil rfl rfl h
theorem go_name (ht3 : t = 2 ∨ t = 5 ∨ t = 12) (ha : a ≤ S.size) (hs : S.size ≤ 65535) (h : RdAll (bs S) a t d) (w : World) : RdGoal S a t d w := by
  have hk : kindK t = [.nam false true] := by rcases ht3 with rfl | rfl | rfl <;> rfl
  obtain ⟨he, hkk, hd, hall⟩ := h
  rw [hk] at he hkk hd hall
  obtain ⟨h1, h2⟩ := kind_one he
  rw [h2] at hd hkk
  have h1' : (rdName (bs S) (bs S) true a).e = 0 := h1
  obtain ⟨f0, f1, f2, f3⟩ := name_yes h1'
  simp only [if_true] at f0 f1 f2 f3
  have hkk' : (bs S).length ≤ (rdName (bs S) (bs S) true a).k := hkk
  obtain ⟨u, hu⟩ : ∃ u, readU (bs S) (a : Nat) (a : Nat) = u := ⟨_, rfl⟩
  obtain ⟨n, hn, ok⟩ := readU_yes f0
  have hchk := ok.chk
  rw [hu] at f0 f1 f2 f3 hchk
  have hz : u.e = S.size := by rw [bs_length] at f3 hkk'; omega
  have hd' : d = { md0 with n := ⟨u.l.toArray⟩ } := by
    rw [← hd]
    show putName false md0 (mkb (rdName (bs S) (bs S) true a).s) = _
    rw [f1]
    rfl
  have hcn : chkN (bs ⟨u.l.toArray⟩) = 0 := by rw [bs_mk]; exact hchk
  rw [hd']
  have hh : ∀ wx, Calls Tryz.prog 43 #[.int .i64 t] wx (Told wx (.agg (hasC false true false false false 0 0))) := fun wx => by
    rcases ht3 with rfl | rfl | rfl
    · exact has_2 wx
    · exact has_5 wx
    · exact has_12 wx
  refine (refRead_name S ⟨u.l.toArray⟩ a S.size t w (by omega) (by omega) (by omega) ha (Nat.le_refl _) (by omega) (fun wx c hl => ?_) hh (fun wx => refDCheck_name t ⟨u.l.toArray⟩ (by omega) (by omega) (by omega) hcn hh wx)).mono ?_
  · have := refCName_no S a S.size wx c hl (Nat.le_refl _) (by omega) u hu f0 (by omega)
    rw [hz] at this
    exact this
  · exact fun e w' h => reads_nil rfl rfl h
theorem go_adr (ht2 : t = 1 ∨ t = 28) (ha : a ≤ S.size) (hs : S.size ≤ 65535) (h : RdAll (bs S) a t d) (w : World) : RdGoal S a t d w := by
  obtain ⟨he, hkk, hd, hall⟩ := h
  rcases ht2 with rfl | rfl
  · rw [show kindK 1 = [.adr false] from rfl] at he hkk hd hall
    obtain ⟨h1, h2⟩ := kind_one he
    rw [h2] at hd hkk
    have e0 : rdP (bs S) (bs S) (.adr false) md0 a = if (takR (bs S) a ((4 : Nat) : Int)).e ≠ 0 then ⟨(takR (bs S) a ((4 : Nat) : Int)).e, a, md0⟩
      else ⟨(ofA (takR (bs S) a ((4 : Nat) : Int)).s).2, (takR (bs S) a ((4 : Nat) : Int)).k, { md0 with six := (ofA (takR (bs S) a ((4 : Nat) : Int)).s).1.1, hi := (ofA (takR (bs S) a ((4 : Nat) : Int)).s).1.2.1, lo := (ofA (takR (bs S) a ((4 : Nat) : Int)).s).1.2.2 }⟩ := rfl
    by_cases h3 : (takR (bs S) a ((4 : Nat) : Int)).e ≠ 0
    · rw [if_pos h3] at e0; rw [e0] at h1; exact absurd h1 h3
    · rw [if_neg h3] at e0
      obtain ⟨g1, g2, g3⟩ := takR_yes (Decidable.not_not.1 h3)
      rw [bs_length] at g3
      have g4 := g3 ha
      have hkz : S.size ≤ a + 4 := by
        have : (bs S).length ≤ (rdP (bs S) (bs S) (.adr false) md0 a).k := hkk
        rw [e0, bs_length] at this
        rw [← g2]
        exact this
      obtain ⟨X, hX⟩ : ∃ X, S.extract a S.size = X := ⟨_, rfl⟩
      have hX4 : X.size = 4 := by rw [← hX, ← bs_length, bs_extract, List.length_take, List.length_drop, bs_length]; omega
      have hXs : (takR (bs S) a ((4 : Nat) : Int)).s = bs X := by rw [g1, ← hX, bs_extract, show S.size - a = 4 by omega]
      have hof : ofA (bs X) = (elderA (nats (bs X)), 0) := by unfold ofA; rw [if_pos (by rw [bs_length]; exact hX4)]
      have hlo : num (bs X) < 4294967296 := num_lt32 (by rw [bs_length]; omega)
      have hd' : d = { md0 with six := false, hi := 0, lo := num (bs X) } := by
        rw [← hd]
        show (rdP (bs S) (bs S) (.adr false) md0 a).d = _
        rw [e0, hXs, hof]
        show { md0 with six := false, hi := 0, lo := jn 256 (nats (bs X)) } = _
        rw [jn_natsB]
      rw [hd']
      refine (refRead_adr S a S.size 1 4 false 0 (num (bs X)) w (.inl ⟨rfl, rfl⟩) (by omega) (Nat.le_refl _) (by omega) has_1 (fun wx => ?_) (refDCheck_a4 _ hlo has_1)).mono ?_
      · have := refOf_4 X wx (by omega) (by omega) (by omega) (by omega) (by rw [hX4]; rfl) (by rw [hX4]; rfl)
        rw [four_num X hX4] at this
        rw [hX]
        exact this
      · exact fun e w' h => reads_nil rfl rfl h
  · rw [show kindK 28 = [.adr true] from rfl] at he hkk hd hall
    obtain ⟨h1, h2⟩ := kind_one he
    rw [h2] at hd hkk
    have e0 : rdP (bs S) (bs S) (.adr true) md0 a = if (takR (bs S) a ((16 : Nat) : Int)).e ≠ 0 then ⟨(takR (bs S) a ((16 : Nat) : Int)).e, a, md0⟩
      else ⟨(ofA (takR (bs S) a ((16 : Nat) : Int)).s).2, (takR (bs S) a ((16 : Nat) : Int)).k, { md0 with six := (ofA (takR (bs S) a ((16 : Nat) : Int)).s).1.1, hi := (ofA (takR (bs S) a ((16 : Nat) : Int)).s).1.2.1, lo := (ofA (takR (bs S) a ((16 : Nat) : Int)).s).1.2.2 }⟩ := rfl
    by_cases h3 : (takR (bs S) a ((16 : Nat) : Int)).e ≠ 0
    · rw [if_pos h3] at e0; rw [e0] at h1; exact absurd h1 h3
    · rw [if_neg h3] at e0
      obtain ⟨g1, g2, g3⟩ := takR_yes (Decidable.not_not.1 h3)
      rw [bs_length] at g3
      have g4 := g3 ha
      have hkz : S.size ≤ a + 16 := by
        have : (bs S).length ≤ (rdP (bs S) (bs S) (.adr true) md0 a).k := hkk
        rw [e0, bs_length] at this
        rw [← g2]
        exact this
      obtain ⟨X, hX⟩ : ∃ X, S.extract a S.size = X := ⟨_, rfl⟩
      have hX4 : X.size = 16 := by rw [← hX, ← bs_length, bs_extract, List.length_take, List.length_drop, bs_length]; omega
      have hXs : (takR (bs S) a ((16 : Nat) : Int)).s = bs X := by rw [g1, ← hX, bs_extract, show S.size - a = 16 by omega]
      have hl : (bs X).length = 16 := by rw [bs_length]; exact hX4
      have hof : ofA (bs X) = (newerA 256 (nats (bs X)), 0) := by unfold ofA; rw [if_neg (by rw [hl]; decide), if_pos hl]
      have hnl : (nats (bs X)).length = 16 := by unfold nats; rw [List.length_map, hl]
      have eh : jn 256 ((nats (bs X)).take ((nats (bs X)).length / 2)) = numI ((bs X).take 8) := by
        rw [hnl, numI_num, ← jn_natsB]; unfold nats; rw [List.map_take]
      have el : jn 256 ((nats (bs X)).drop ((nats (bs X)).length / 2)) = numI (((bs X).drop 8).take 8) := by
        rw [hnl, numI_num, take_all (by rw [List.length_drop, hl]; decide), ← jn_natsB]; unfold nats; rw [List.map_drop]
      have hd' : d = { md0 with six := true, hi := numI ((bs X).take 8), lo := numI (((bs X).drop 8).take 8) } := by
        rw [← hd]
        show (rdP (bs S) (bs S) (.adr true) md0 a).d = _
        rw [e0, hXs, hof, ← eh, ← el]
        rfl
      have b1 : numI ((bs X).take 8) < 18446744073709551616 := by
        rw [numI_num]
        exact Nat.lt_of_lt_of_le (num_lt _) (by rw [List.length_take, hl]; decide)
      have b2 : numI (((bs X).drop 8).take 8) < 18446744073709551616 := by
        rw [numI_num]
        exact Nat.lt_of_lt_of_le (num_lt _) (by rw [List.length_take, List.length_drop, hl]; decide)
      rw [hd']
      refine (refRead_adr S a S.size 28 16 true _ _ w (.inr ⟨rfl, rfl⟩) (by omega) (Nat.le_refl _) (by omega) has_28 (fun wx => ?_) (refDCheck_a6 _ _ b1 b2 has_28)).mono ?_
      · have := refOf_16 X wx (by omega) (by rw [hX4]; rfl) (by rw [hX4]; rfl) (by rw [hX4]; rfl)
        rw [hX]
        exact this
      · exact fun e w' h => reads_nil rfl rfl h
theorem go_mx (ha : a ≤ S.size) (hs : S.size ≤ 65535) (h : RdAll (bs S) a 15 d) (w : World) : RdGoal S a 15 d w := by
  obtain ⟨he, hkk, hd, hall⟩ := h
  rw [show kindK 15 = [.num 2 0 0 0 0, .nam false true] from rfl] at he hkk hd hall
  obtain ⟨h1, h2⟩ := kind_more he
  rw [h2] at he hkk hd
  have hn1 : (rdNums (bs S) [2, 0, 0, 0, 0] a).e = 0 := h1
  obtain ⟨_, n1, n2, n3⟩ := nums_some (by decide) hn1
  have n4 : rdNums (bs S) [0, 0, 0, 0] (a + 2) = ⟨[0, 0, 0, 0], 0, a + 2⟩ := by rw [nums_nought, nums_nought, nums_nought, nums_nought, nums_end]
  rw [n4] at n3
  have e0 : rdP (bs S) (bs S) (.num 2 0 0 0 0) md0 a = ⟨0, a + 2, { md0 with v0 := num (((bs S).drop a).take 2) }⟩ := by
    show (⟨(rdNums (bs S) [2, 0, 0, 0, 0] a).e, (rdNums (bs S) [2, 0, 0, 0, 0] a).k, _⟩ : RR) = _
    rw [show ws5 2 0 0 0 0 = [2, 0, 0, 0, 0] from rfl, n3]
    rfl
  rw [e0] at he hkk hd
  obtain ⟨m1, m2⟩ := kind_one he
  obtain ⟨u, hu, f0, f3, m3⟩ := part_name m1
  rw [m2, m3] at hkk hd
  rw [if_pos rfl] at hu
  have hz : u.e = S.size := by
    have : (bs S).length ≤ u.e := hkk
    rw [bs_length] at this f3
    omega
  have hd' : d = { md0 with v0 := num (((bs S).drop a).take 2), n := ⟨u.l.toArray⟩ } := hd.symm
  have hc := all_chk hall
  have hcn : chkN (bs ⟨u.l.toArray⟩) = 0 := by
    have := (first_cons (first_cons hc).2).1
    rw [hd'] at this
    exact this
  have n1' : a + 2 ≤ S.size := by rw [bs_length] at n1; exact n1 ha
  have hlen : (((bs S).drop a).take 2).length = 2 := by rw [List.length_take, List.length_drop, bs_length]; omega
  have hv : num (((bs S).drop a).take 2) ≤ 65535 := by
    have := num_lt (((bs S).drop a).take 2)
    rw [hlen] at this
    omega
  rw [hd']
  refine (refRead_mx S ⟨u.l.toArray⟩ a S.size (fun k => num (((bs S).drop (a + k * 2)).take 2)) w n1' (Nat.le_refl _) (by omega) (fun k hk => ?_) (fun wx c hl => ?_) has_15 (refDCheck_mx _ _ hcn ?_ has_15)).mono ?_
  · exact numL_num 2 _ (by rw [List.length_take, List.length_drop, bs_length]; omega) (by decide)
  · have := refCName_no S (a + 2) S.size wx c hl (Nat.le_refl _) (by omega) u hu f0 (by omega)
    rw [hz] at this
    exact this
  · exact hv
  · exact fun e w' h => reads_nil rfl rfl h
theorem go_srv (ha : a ≤ S.size) (hs : S.size ≤ 65535) (h : RdAll (bs S) a 33 d) (w : World) : RdGoal S a 33 d w := by
  obtain ⟨he, hkk, hd, hall⟩ := h
  rw [show kindK 33 = [.num 2 2 2 0 0, .nam false false] from rfl] at he hkk hd hall
  obtain ⟨h1, h2⟩ := kind_more he
  rw [h2] at he hkk hd
  have hn1 : (rdNums (bs S) [2, 2, 2, 0, 0] a).e = 0 := h1
  obtain ⟨_, n1, n2, n3⟩ := nums_some (by decide) hn1
  obtain ⟨_, o1, o2, o3⟩ := nums_some (by decide) n2
  obtain ⟨_, p1, p2, p3⟩ := nums_some (by decide) o2
  have n4 : rdNums (bs S) [0, 0] (a + 2 + 2 + 2) = ⟨[0, 0], 0, a + 2 + 2 + 2⟩ := by rw [nums_nought, nums_nought, nums_end]
  rw [n4] at p3
  rw [p3] at o3
  rw [o3] at n3
  rw [bs_length] at n1 o1 p1
  have n1' := p1 (o1 (n1 ha))
  obtain ⟨v0, hv0⟩ : ∃ v, num (((bs S).drop a).take 2) = v := ⟨_, rfl⟩
  obtain ⟨v1, hv1⟩ : ∃ v, num (((bs S).drop (a + 2)).take 2) = v := ⟨_, rfl⟩
  obtain ⟨v2, hv2⟩ : ∃ v, num (((bs S).drop (a + 2 + 2)).take 2) = v := ⟨_, rfl⟩
  rw [hv0, hv1, hv2] at n3
  have e0 : rdP (bs S) (bs S) (.num 2 2 2 0 0) md0 a = ⟨0, a + 6, { md0 with v0 := v0, v1 := v1, v2 := v2 }⟩ := by
    show (⟨(rdNums (bs S) [2, 2, 2, 0, 0] a).e, (rdNums (bs S) [2, 2, 2, 0, 0] a).k, _⟩ : RR) = _
    rw [show ws5 2 2 2 0 0 = [2, 2, 2, 0, 0] from rfl, n3]
    rfl
  rw [e0] at he hkk hd
  obtain ⟨m1, m2⟩ := kind_one he
  obtain ⟨u, hu, f0, f3, m3⟩ := part_name m1
  rw [m2, m3] at hkk hd
  rw [if_neg (by decide)] at hu
  have hz : u.e = S.size := by
    have : (bs S).length ≤ u.e := hkk
    rw [bs_length] at this f3
    omega
  have hd' : d = { md0 with v0 := v0, v1 := v1, v2 := v2, n := ⟨u.l.toArray⟩ } := hd.symm
  have hc := all_chk hall
  have hcn : chkN (bs ⟨u.l.toArray⟩) = 0 := by
    have := (first_cons (first_cons hc).2).1
    rw [hd'] at this
    exact this
  have hlen : ∀ j, j + 2 ≤ S.size → num (((bs S).drop j).take 2) ≤ 65535 ∧ numL (((bs S).drop j).take 2) = num (((bs S).drop j).take 2) := fun j hj => by
    have hl : (((bs S).drop j).take 2).length = 2 := by rw [List.length_take, List.length_drop, bs_length]; omega
    have := num_lt (((bs S).drop j).take 2)
    rw [hl] at this
    exact ⟨by omega, numL_num 2 _ hl (by decide)⟩
  obtain ⟨vs, hvs⟩ : ∃ vs : Nat → Nat, vs 0 = v0 ∧ vs 1 = v1 ∧ vs 2 = v2 := ⟨fun k => if k = 0 then v0 else if k = 1 then v1 else v2, rfl, rfl, rfl⟩
  obtain ⟨q0, q1, q2⟩ := hvs
  rw [hd']
  refine (refRead_srv S ⟨u.l.toArray⟩ a S.size vs w (by omega) (Nat.le_refl _) (by omega) (fun k hk => ?_) (fun wx c hl => ?_) has_33 ?_).mono ?_
  · match k, hk with
    | 0, _ => rw [q0, ← hv0]; exact (hlen a (by omega)).2
    | 1, _ => rw [q1, ← hv1]; exact (hlen (a + 2) (by omega)).2
    | 2, _ => rw [q2, ← hv2]; exact (hlen (a + 2 + 2) (by omega)).2
  · have := refCName_yes S (a + 6) S.size wx c hl (by omega) (Nat.le_refl _) (by omega) u hu f0 (by omega)
    rw [hz] at this
    exact this
  · rw [q0, q1, q2]
    exact refDCheck_srv _ v0 v1 v2 hcn (by rw [← hv0]; exact (hlen a (by omega)).1) (by rw [← hv1]; exact (hlen (a + 2) (by omega)).1) (by rw [← hv2]; exact (hlen (a + 2 + 2) (by omega)).1) has_33
  · rw [q0, q1, q2]
    exact fun e w' h => reads_nil rfl rfl h
theorem go_soa (ha : a ≤ S.size) (hs : S.size ≤ 65535) (h : RdAll (bs S) a 6 d) (w : World) : RdGoal S a 6 d w := by
  obtain ⟨he, hkk, hd, hall⟩ := h
  rw [show kindK 6 = [.nam false true, .nam true true, .num 4 4 4 4 4] from rfl] at he hkk hd hall
  obtain ⟨h1, h2⟩ := kind_more he
  rw [h2] at he hkk hd
  obtain ⟨u, hu, f0, f3, m3⟩ := part_name h1
  rw [m3] at he hkk hd
  rw [if_pos rfl] at hu
  obtain ⟨h3, h4⟩ := kind_more he
  rw [h4] at he hkk hd
  obtain ⟨u2, hu2, f02, f32, m32⟩ := part_name h3
  rw [m32] at he hkk hd
  rw [if_pos rfl] at hu2
  obtain ⟨h5, h6⟩ := kind_one he
  rw [h6] at hkk hd
  have l1 : a < u.e := by
    obtain ⟨n, hn, ok⟩ := readU_yes (x := bs S) (a := (a : Int)) (by rw [hu]; exact f0)
    have := ok.lt
    rw [hu] at this
    omega
  have l2 : u.e < u2.e := by
    obtain ⟨n, hn, ok⟩ := readU_yes (x := bs S) (a := (u.e : Int)) (by rw [hu2]; exact f02)
    have := ok.lt
    rw [hu2] at this
    omega
  rw [bs_length] at f3 f32
  obtain ⟨D, hD⟩ : ∃ D, u2.e = D := ⟨_, rfl⟩
  rw [hD] at h5 hkk hd l2 f32
  have hn1 : (rdNums (bs S) [4, 4, 4, 4, 4] D).e = 0 := h5
  obtain ⟨_, n1, n2, n3⟩ := nums_some (by decide) hn1
  obtain ⟨_, o1, o2, o3⟩ := nums_some (by decide) n2
  obtain ⟨_, p1, p2, p3⟩ := nums_some (by decide) o2
  obtain ⟨_, r1, r2, r3⟩ := nums_some (by decide) p2
  obtain ⟨_, s1, s2, s3⟩ := nums_some (by decide) r2
  rw [nums_end] at s3
  rw [s3] at r3
  rw [r3] at p3
  rw [p3] at o3
  rw [o3] at n3
  rw [bs_length] at n1 o1 p1 r1 s1
  have n1' := s1 (r1 (p1 (o1 (n1 f32))))
  obtain ⟨v0, hv0⟩ : ∃ v, num (((bs S).drop D).take 4) = v := ⟨_, rfl⟩
  obtain ⟨v1, hv1⟩ : ∃ v, num (((bs S).drop (D + 4)).take 4) = v := ⟨_, rfl⟩
  obtain ⟨v2, hv2⟩ : ∃ v, num (((bs S).drop (D + 4 + 4)).take 4) = v := ⟨_, rfl⟩
  obtain ⟨v3, hv3⟩ : ∃ v, num (((bs S).drop (D + 4 + 4 + 4)).take 4) = v := ⟨_, rfl⟩
  obtain ⟨v4, hv4⟩ : ∃ v, num (((bs S).drop (D + 4 + 4 + 4 + 4)).take 4) = v := ⟨_, rfl⟩
  rw [hv0, hv1, hv2, hv3, hv4] at n3
  obtain ⟨x, hx⟩ : ∃ x, putName true (putName false md0 (mkb u.l)) (mkb u2.l) = x := ⟨_, rfl⟩
  rw [hx] at hkk hd
  have e0 : rdP (bs S) (bs S) (.num 4 4 4 4 4) x D = ⟨0, D + 20, { x with v0 := v0, v1 := v1, v2 := v2, v3 := v3, v4 := v4 }⟩ := by
    show (⟨(rdNums (bs S) [4, 4, 4, 4, 4] D).e, (rdNums (bs S) [4, 4, 4, 4, 4] D).k, _⟩ : RR) = _
    rw [show ws5 4 4 4 4 4 = [4, 4, 4, 4, 4] from rfl, n3]
    rfl
  rw [e0] at hkk hd
  have hz : D + 20 = S.size := by
    have : (bs S).length ≤ D + 20 := hkk
    rw [bs_length] at this
    omega
  have hd' : d = { md0 with v0 := v0, v1 := v1, v2 := v2, v3 := v3, v4 := v4, n := ⟨u.l.toArray⟩, m := ⟨u2.l.toArray⟩ } := by
    rw [← hd, ← hx]
    rfl
  have hc := all_chk hall
  have hcn : chkN (bs ⟨u.l.toArray⟩) = 0 := by
    have := (first_cons hc).1
    rw [hd'] at this
    exact this
  have hcm : chkN (bs ⟨u2.l.toArray⟩) = 0 := by
    have := (first_cons (first_cons hc).2).1
    rw [hd'] at this
    exact this
  have hlen : ∀ j, j + 4 ≤ S.size → numL (((bs S).drop j).take 4) = num (((bs S).drop j).take 4) := fun j hj => by
    have hl : (((bs S).drop j).take 4).length = 4 := by rw [List.length_take, List.length_drop, bs_length]; omega
    exact numL_num 4 _ hl (by decide)
  obtain ⟨vs, hvs⟩ : ∃ vs : Nat → Nat, vs 0 = v0 ∧ vs 1 = v1 ∧ vs 2 = v2 ∧ vs 3 = v3 ∧ vs 4 = v4 := ⟨fun k => if k = 0 then v0 else if k = 1 then v1 else if k = 2 then v2 else if k = 3 then v3 else v4, rfl, rfl, rfl, rfl, rfl⟩
  obtain ⟨q0, q1, q2, q3, q4⟩ := hvs
  rw [hd']
  refine (refRead_soa S ⟨u.l.toArray⟩ ⟨u2.l.toArray⟩ a u.e D S.size vs w (by omega) (Nat.le_refl _) (by omega) (fun k hk => ?_) (fun wx c hl => ?_) (fun wx c hl => ?_) has_6 ?_).mono ?_
  · match k, hk with
    | 0, _ => rw [q0, ← hv0]; exact hlen D (by omega)
    | 1, _ => rw [q1, ← hv1]; exact hlen (D + 4) (by omega)
    | 2, _ => rw [q2, ← hv2]; exact hlen (D + 4 + 4) (by omega)
    | 3, _ => rw [q3, ← hv3]; exact hlen (D + 4 + 4 + 4) (by omega)
    | 4, _ => rw [q4, ← hv4]; exact hlen (D + 4 + 4 + 4 + 4) (by omega)
  · exact refCName_no S a S.size wx c hl (Nat.le_refl _) (by omega) u hu f0 (by omega)
  · have := refCName_no S u.e S.size wx c hl (Nat.le_refl _) (by omega) u2 hu2 f02 (by omega)
    rw [hD] at this
    exact this
  · rw [q0, q1, q2, q3, q4]
    exact refDCheck_soa _ _ v0 v1 v2 v3 v4 hcn hcm has_6
  · rw [q0, q1, q2, q3, q4]
    exact fun e w' h => reads_nil rfl rfl h
theorem go_txt (ha : a ≤ S.size) (hs : S.size ≤ 65535) (h : RdAll (bs S) a 16 d) (w : World) : RdGoal S a 16 d w := by
  obtain ⟨he, hkk, hd, hall⟩ := h
  rw [show kindK 16 = [.txt] from rfl] at he hkk hd hall
  obtain ⟨h1, h2⟩ := kind_one he
  rw [h2] at hkk hd
  obtain ⟨f, hf⟩ : ∃ f, (bs S).length + 1 - a = f := ⟨_, rfl⟩
  have e0 : rdP (bs S) (bs S) .txt md0 a = ⟨(rdTexts (bs S) f [] a).e, (rdTexts (bs S) f [] a).k, { md0 with L := (rdTexts (bs S) f [] a).d.L }⟩ := by rw [← hf]; rfl
  rw [e0] at h1 hkk hd
  obtain ⟨M, m1, m2, P, p0, pn, pl, pa⟩ := texts_at (bs S) f [] a h1 (by rw [bs_length]; exact ha)
  rw [List.nil_append] at m1
  have hz : (rdTexts (bs S) f [] a).k = S.size := by
    have : (bs S).length ≤ (rdTexts (bs S) f [] a).k := hkk
    rw [bs_length] at this m2
    omega
  rw [hz] at pn pl pa
  have hd' : d = { md0 with L := M } := by rw [← hd, m1]
  have hc : chkP .txt d = 0 := (first_cons (all_chk hall)).1
  have hsz := all_size hall
  rw [hd'] at hc hsz
  have hc' : (if M = [] then 2 else chkT M) = 0 := hc
  by_cases hM : M = []
  · rw [if_pos hM] at hc'; cases hc'
  · rw [if_neg hM] at hc'
    have h0 : 0 < M.length := List.length_pos_iff.2 hM
    have h255 : ∀ x ∈ M, x.size ≤ 255 := fun x hx => by
      unfold chkT at hc'
      by_cases g : (M.any fun x => decide (255 < x.size)) = true
      · rw [if_pos g] at hc'; cases hc'
      · exact Decidable.byContradiction fun hn => g (List.any_eq_true.2 ⟨x, hx, by simp; omega⟩)
    have hsz2 : szL M ≤ 65535 := by
      have e1 : szL M = 0 + (M.map fun x => 1 + x.size).sum := sz_sum M 0
      have e2 : sizeK [.txt] { md0 with L := M } = (M.map fun x => 1 + x.size).sum + 0 := rfl
      omega
    rw [hd']
    refine (refRead_txt S M P a S.size w h0 (by omega) p0 pn (by omega) (Nat.le_refl _) (by omega) (fun k hk => ?_) has_16 (fun A c wx hr => refDCheck_txt A c M wx hr h0 h255 (by omega) has_16 hsz2)).mono ?_
    · obtain ⟨q1, q2, q3, q4⟩ := pa k hk
      exact ⟨q1, q2, q3, bs_inj (by rw [bs_extract]; exact q4)⟩
    · rintro e w' ⟨A, c, h1, h2, h3⟩
      exact ⟨.slice A M.length c, h1, h2, h3⟩
/-- The document's own Read of data to the end answers what the program's own read answers. -/
theorem refRead_data (ht : isT t = true) (ha : a ≤ S.size) (hs : S.size ≤ 65535) (h : readD (bs S) (a : Nat) (S.size : Nat) t = (0, d)) (w : World) : RdGoal S a t d w := by
  have h' := rdAll_of ht (by rw [bs_length]; exact ha) (by rw [bs_length]; exact h)
  have ht' : 0 ≤ t ∧ t ≤ 65535 := of_decide_eq_true ht
  by_cases c1 : t = 1 ∨ t = 28
  · exact go_adr c1 ha hs h' w
  by_cases c2 : t = 2 ∨ t = 5 ∨ t = 12
  · exact go_name c2 ha hs h' w
  by_cases c3 : t = 6
  · subst c3; exact go_soa ha hs h' w
  by_cases c4 : t = 15
  · subst c4; exact go_mx ha hs h' w
  by_cases c5 : t = 33
  · subst c5; exact go_srv ha hs h' w
  by_cases c6 : t = 16
  · subst c6; exact go_txt ha hs h' w
  have hraw : t ≠ 1 ∧ t ≠ 28 ∧ t ≠ 2 ∧ t ≠ 5 ∧ t ≠ 12 ∧ t ≠ 6 ∧ t ≠ 15 ∧ t ≠ 33 ∧ t ≠ 16 := by omega
  refine go_raw ht' hraw ?_ ha hs h' w
  unfold kindK table
  simp only [if_neg hraw.1, if_neg hraw.2.1, if_neg hraw.2.2.1, if_neg hraw.2.2.2.1, if_neg hraw.2.2.2.2.1, if_neg hraw.2.2.2.2.2.1, if_neg hraw.2.2.2.2.2.2.1, if_neg hraw.2.2.2.2.2.2.2.1, if_neg hraw.2.2.2.2.2.2.2.2]
  rfl
end
end Go.Proofs.YtodedbokeodmkaaGreat
