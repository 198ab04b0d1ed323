/-
  A list in memory: its object, its map, its ring of nodes; what a call may change of it; leave and enter of a node. Conditions: as each theorem names them.
-/
import Derived.Test.YtabhapohkohbmaaLrK
namespace Go.Proofs.Ytabhapohkohbmaa
open Go.RowKit Go.Maps
set_option linter.unusedVariables false
set_option linter.unusedSimpArgs false

abbrev Nd := LNd Int
def ndC (A B : Nat → Nat) (x : Nd) : Array Value := #[.string x.k, .int .i64 x.v, .pointer (some ⟨A x.g, 0, none⟩), .pointer (some ⟨B x.g, 0, none⟩)]
/-- All of them lie, each with its neighbours. -/
def Nds (w : World) (A B : Nat → Nat) (M : List Nd) : Prop := ∀ x ∈ M, Lies w x.g 86 (ndC A B x)
def entL (L : List Nd) : List (Value × Value) := L.map fun x => (.string x.k, .pointer (some ⟨x.g, 0, none⟩))
def bgn (b : Nat) : Nd := ⟨b, ⟨#[]⟩, (0 : Int)⟩
def lrC (mst : Nat) (p m b : Nat) : Array Value := #[.int .i64 (mst : Int), .map (some m), .pointer (some ⟨b, 0, none⟩), .pointer (some ⟨p, 0, none⟩)]
def ptr (g : Nat) : Value := .pointer (some ⟨g, 0, none⟩)
section
variable {w w' : World} {A B : Nat → Nat} {M : List Nd}
theorem Nds.next (h : Nds w A B M) (hb : Below w.heap.size w w') : Nds w' A B M := fun x hx => (h x hx).next hb
theorem Nds.drew (h : Nds w A B M) : Nds w.drew A B M := h
theorem Nds.setB (h : Nds w A B M) (a c : Nat) : Nds (w.setCell ⟨a, 3, none⟩ (.pointer (some ⟨c, 0, none⟩))) A (upd B a c) M := fun x hx => by
  by_cases e : x.g = a
  · subst e
    have := (h x hx).set 3 (.pointer (some ⟨c, 0, none⟩))
    simpa [ndC, upd_same] using this
  · have := (h x hx).setOther e (j := 3) (.pointer (some ⟨c, 0, none⟩))
    simpa [ndC, upd_other e] using this
theorem Nds.setA (h : Nds w A B M) (a c : Nat) : Nds (w.setCell ⟨a, 2, none⟩ (.pointer (some ⟨c, 0, none⟩))) (upd A a c) B M := fun x hx => by
  by_cases e : x.g = a
  · subst e
    have := (h x hx).set 2 (.pointer (some ⟨c, 0, none⟩))
    simpa [ndC, upd_same] using this
  · have := (h x hx).setOther e (j := 2) (.pointer (some ⟨c, 0, none⟩))
    simpa [ndC, upd_other e] using this
end
/-- The blocks of the nodes. -/
def Kx (M : List Nd) : Nat → Prop := fun k => ∃ x ∈ M, x.g = k

set_option maxRecDepth 100000 in
set_option maxHeartbeats 8000000 in
theorem leave_any {w : World} {A B : Nat → Nat} {M : List Nd} (h : Nds w A B M) {x y z : Nd} (hx : x ∈ M) (hy : y ∈ M) (hz : z ∈ M) (ha : A x.g = y.g) (hb : B x.g = z.g) (hyx : y.g ≠ x.g) (hzx : z.g ≠ x.g) :
    Calls Try.prog 57 #[.pointer (some ⟨x.g, 0, none⟩)] w fun e w' => e = .returned (.tuple #[]) ∧ Nds w' (upd A (B x.g) (A x.g)) (upd B (A x.g) (B x.g)) M ∧ Kl (Kx M) (Kx M) w w' := by
  have H := Lib.hid h
  have hxl := h x hx
  have hyl := h y hy
  have hzl := h z hz
  have x2 : w.cell? ⟨x.g, 2, none⟩ = some (.pointer (some ⟨y.g, 0, none⟩)) := by rw [hxl.cell 2]; simp [ndC, ha]
  have x3 : w.cell? ⟨x.g, 3, none⟩ = some (.pointer (some ⟨z.g, 0, none⟩)) := by rw [hxl.cell 3]; simp [ndC, hb]
  have y3 : w.cell? ⟨y.g, 3, none⟩ = some (.pointer (some ⟨B y.g, 0, none⟩)) := by rw [hyl.cell 3]; simp [ndC]
  have z2 : w.cell? ⟨z.g, 2, none⟩ = some (.pointer (some ⟨A z.g, 0, none⟩)) := by rw [hzl.cell 2]; simp [ndC]
  have y3f : w.frozen? ⟨y.g, 3, none⟩ = false := hyl.free 3
  have z2f : w.frozen? ⟨z.g, 2, none⟩ = false := hzl.free 2
  rw [ha, hb]
  have HM := Lib.hid (And.intro hy hz)
  clear h hxl hyl hzl hx hy hz ha hb
  go_enter Try.func57, Try.ntmps57
  go_region
  all_goals
    go_end0
    refine ⟨rfl, ?_, ?_⟩
    · exact ((H.out.setB y.g z.g).setA z.g y.g).drew
    · exact ((((Kl.refl (Kx M) w).setCell ⟨y, HM.out.1, rfl⟩ 3 _).setCell ⟨z, HM.out.2, rfl⟩ 2 _).trans (.of_below (Below.refl _ _).drew))
set_option maxRecDepth 100000 in
set_option maxHeartbeats 8000000 in
theorem enter_any {w : World} {A B : Nat → Nat} {M : List Nd} (h : Nds w A B M) {x y z : Nd} {a2 a3 : Value} (hx : Lies w x.g 86 #[.string x.k, .int .i64 x.v, a2, a3]) (hy : y ∈ M) (hz : z ∈ M) (hb : B y.g = z.g) (hyx : y.g ≠ x.g) (hzx : z.g ≠ x.g) :
    Calls Try.prog 56 #[.pointer (some ⟨x.g, 0, none⟩), .pointer (some ⟨y.g, 0, none⟩)] w fun e w' => e = .returned (.tuple #[]) ∧ Nds w' (upd (upd A x.g y.g) (B y.g) x.g) (upd (upd B x.g (B y.g)) y.g x.g) (x :: M) ∧ Kl (Kx (x :: M)) (Kx (x :: M)) w w' := by
  have hyl := h y hy
  obtain ⟨w1, hw1⟩ : ∃ w1, (w.setCell ⟨x.g, 2, none⟩ (.pointer (some ⟨y.g, 0, none⟩))).setCell ⟨x.g, 3, none⟩ (.pointer (some ⟨z.g, 0, none⟩)) = w1 := ⟨_, rfl⟩
  have h1 : Nds w1 (upd A x.g y.g) (upd B x.g z.g) (x :: M) := by
    rw [← hw1]
    intro u hu
    rcases List.mem_cons.1 hu with rfl | hu
    · have := (hx.set 2 (.pointer (some ⟨y.g, 0, none⟩))).set 3 (.pointer (some ⟨z.g, 0, none⟩))
      simpa [ndC, upd_same] using this
    · exact ((h.setA x.g y.g).setB x.g z.g) u hu
  have hk : Kl (Kx (x :: M)) (Kx (x :: M)) w w1 := by rw [← hw1]; exact ((Kl.refl (Kx (x :: M)) w).setCell ⟨x, List.mem_cons_self, rfl⟩ 2 _).setCell ⟨x, List.mem_cons_self, rfl⟩ 3 _
  have y3 : w.cell? ⟨y.g, 3, none⟩ = some (.pointer (some ⟨z.g, 0, none⟩)) := by rw [hyl.cell 3]; simp [ndC, hb]
  have x2 : w.cell? ⟨x.g, 2, none⟩ = some a2 := by rw [hx.cell 2]; simp
  have x3 : w.cell? ⟨x.g, 3, none⟩ = some a3 := by rw [hx.cell 3]; simp
  have x2f : w.frozen? ⟨x.g, 2, none⟩ = false := hx.free 2
  have x3f : w.frozen? ⟨x.g, 3, none⟩ = false := hx.free 3
  have X2 : w1.cell? ⟨x.g, 2, none⟩ = some (.pointer (some ⟨y.g, 0, none⟩)) := by rw [(h1 x List.mem_cons_self).cell 2]; simp [ndC, upd_same]
  have X3 : w1.cell? ⟨x.g, 3, none⟩ = some (.pointer (some ⟨z.g, 0, none⟩)) := by rw [(h1 x List.mem_cons_self).cell 3]; simp [ndC, upd_same]
  have Y3 : w1.cell? ⟨y.g, 3, none⟩ = some (.pointer (some ⟨B y.g, 0, none⟩)) := by rw [(h1 y (List.mem_cons_of_mem _ hy)).cell 3]; simp [ndC, upd_other hyx]
  have Z2 : w1.cell? ⟨z.g, 2, none⟩ = some (.pointer (some ⟨A z.g, 0, none⟩)) := by rw [(h1 z (List.mem_cons_of_mem _ hz)).cell 2]; simp [ndC, upd_other hzx]
  have Y3f : w1.frozen? ⟨y.g, 3, none⟩ = false := (h1 y (List.mem_cons_of_mem _ hy)).free 3
  have Z2f : w1.frozen? ⟨z.g, 2, none⟩ = false := (h1 z (List.mem_cons_of_mem _ hz)).free 2
  have H1 := Lib.hid h1
  have HK := Lib.hid hk
  have HW := Lib.hid hw1
  rw [hb]
  have HM := Lib.hid (And.intro hy hz)
  clear h hx hyl hy hz hb h1 hk hw1
  go_enter Try.func56, Try.ntmps56
  go_upto_region 1 with (fail)
  rw [HW.out]
  clear y3 x2 x3 x2f x3f
  go_region
  all_goals
    go_end0
    refine ⟨rfl, ?_, ?_⟩
    · exact ((H1.out.setB y.g x.g).setA z.g x.g).drew
    · exact HK.out.trans ((((Kl.refl (Kx (x :: M)) w1).setCell ⟨y, List.mem_cons_of_mem _ HM.out.1, rfl⟩ 3 _).setCell ⟨z, List.mem_cons_of_mem _ HM.out.2, rfl⟩ 2 _).trans (.of_below (Below.refl _ _).drew))
end Go.Proofs.Ytabhapohkohbmaa
