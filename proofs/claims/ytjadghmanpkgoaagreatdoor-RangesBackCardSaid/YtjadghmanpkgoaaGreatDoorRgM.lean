/-
  Whether two ranges meet: the walk of ranges.Meet. Conditions: the addresses' numbers are such as their types bear.
-/
import Derived.Test.YtjadghmanpkgoaaGreatDoorRgC
namespace Go.Proofs.YtjadghmanpkgoaaGreatDoor
open Go.RowKit
set_option linter.unusedVariables false

theorem bcellR {W w1 : World} (hb : Below W.heap.size W w1) : (∀ b o, b < W.heap.size → w1.cell? ⟨b, o, none⟩ = W.cell? ⟨b, o, none⟩) ∧ (∀ b o, b < W.heap.size → w1.frozen? ⟨b, o, none⟩ = W.frozen? ⟨b, o, none⟩) :=
  ⟨fun b o h => hb.cell (p := ⟨b, o, none⟩) h, fun b o h => hb.frozen (p := ⟨b, o, none⟩) h⟩
/-- Two ranges' boxes lie. -/
def RR2 (w wr : World) (six : Bool) (hi lo : Nat) (n : Int) (s : Bool) (ah al : Nat) (m : Int) : Prop :=
  Lies wr w.heap.size 49 #[.bool six, .int .u64 (hi : Int), .int .u64 (lo : Int), .int .i64 n] ∧ Lies wr (w.heap.size + 1) 49 #[.bool s, .int .u64 (ah : Int), .int .u64 (al : Int), .int .i64 m] ∧ Below w.heap.size w wr
theorem RR2.next {w wr w' : World} {six : Bool} {hi lo : Nat} {n : Int} {s : Bool} {ah al : Nat} {m : Int} (r : RR2 w wr six hi lo n s ah al m) (hb : Below wr.heap.size wr w') : RR2 w w' six hi lo n s ah al m :=
  ⟨r.1.next hb, r.2.1.next hb, r.2.2.trans (hb.mono r.2.2.size)⟩
theorem RR2.cells {w wr : World} {six : Bool} {hi lo : Nat} {n : Int} {s : Bool} {ah al : Nat} {m : Int} (r : RR2 w wr six hi lo n s ah al m) :
    (wr.cell? ⟨w.heap.size, 0, none⟩ = some (.bool six) ∧ wr.cell? ⟨w.heap.size, 1, none⟩ = some (.int .u64 (hi : Int)) ∧ wr.cell? ⟨w.heap.size, 2, none⟩ = some (.int .u64 (lo : Int)) ∧ wr.cell? ⟨w.heap.size, 3, none⟩ = some (.int .i64 n)) ∧
    wr.cell? ⟨w.heap.size + 1, 0, none⟩ = some (.bool s) ∧ wr.cell? ⟨w.heap.size + 1, 1, none⟩ = some (.int .u64 (ah : Int)) ∧ wr.cell? ⟨w.heap.size + 1, 2, none⟩ = some (.int .u64 (al : Int)) ∧ wr.cell? ⟨w.heap.size + 1, 3, none⟩ = some (.int .i64 m) :=
  ⟨⟨r.1.cell 0, r.1.cell 1, r.1.cell 2, r.1.cell 3⟩, r.2.1.cell 0, r.2.1.cell 1, r.2.1.cell 2, r.2.1.cell 3⟩
theorem RR2.start {w : World} {six : Bool} {hi lo : Nat} {n : Int} {s : Bool} {ah al : Nat} {m : Int} : RR2 w ((w.alloc (.cells #[.bool six, .int .u64 (hi : Int), .int .u64 (lo : Int), .int .i64 n] 49)).alloc (.cells #[.bool s, .int .u64 (ah : Int), .int .u64 (al : Int), .int .i64 m] 49)) six hi lo n s ah al m := by
  have := Lies.new (w.alloc (.cells #[.bool six, .int .u64 (hi : Int), .int .u64 (lo : Int), .int .i64 n] 49)) 49 #[.bool s, .int .u64 (ah : Int), .int .u64 (al : Int), .int .i64 m]
  rw [show (w.alloc (.cells #[.bool six, .int .u64 (hi : Int), .int .u64 (lo : Int), .int .i64 n] 49)).heap.size = w.heap.size + 1 by simp] at this
  exact ⟨(Lies.new w _ _).alloc _, this, ((Below.refl _ _).alloc (Nat.le_refl _) _).alloc (by simp) _⟩
set_option maxHeartbeats 2000000 in
theorem rMeet_any (six : Bool) (hi lo : Nat) (n : Int) (s : Bool) (ah al : Nat) (m : Int) (w : World) (h1 : hi < 18446744073709551616) (h2 : lo < 18446744073709551616) (h3 : ah < 18446744073709551616) (h4 : al < 18446744073709551616) :
    Calls Tryz.prog 39 #[.agg #[.bool six, .int .u64 (hi : Int), .int .u64 (lo : Int), .int .i64 n], .agg #[.bool s, .int .u64 (ah : Int), .int .u64 (al : Int), .int .i64 m]] w fun e w' => e = .returned (.bool (meetR (six, hi, lo) n (s, ah, al) m)) ∧ Below w.heap.size w w' := by
  have HM1 := Lib.hid (fun wx => mayBe_any six hi lo n wx h1 h2)
  have HM2 := Lib.hid (fun wx => mayBe_any s ah al m wx h3 h4)
  have HH1 := Lib.hid (fun wx => rHas_any six hi lo n s ah al wx h1 h2 h3 h4)
  have HH2 := Lib.hid (fun wx => rHas_any s ah al m six hi lo wx h3 h4 h1 h2)
  obtain ⟨p, hp⟩ : ∃ p, p = decide (chkR (six, hi, lo) n = 0) := ⟨_, rfl⟩
  obtain ⟨q, hq⟩ : ∃ q, q = decide (chkR (s, ah, al) m = 0) := ⟨_, rfl⟩
  obtain ⟨x, hx⟩ : ∃ x, x = hasR (six, hi, lo) n (s, ah, al) := ⟨_, rfl⟩
  obtain ⟨y, hy⟩ : ∃ y, y = hasR (s, ah, al) m (six, hi, lo) := ⟨_, rfl⟩
  have he : meetR (six, hi, lo) n (s, ah, al) m = (p && (q && (x || y))) := by
    unfold meetR
    rw [hp, hq, hx, hy]
    simp only [Bool.decide_and, Bool.decide_or, Bool.decide_eq_true]
  rw [← hp] at HM1
  rw [← hq] at HM2
  rw [← hx] at HH1
  rw [← hy] at HH2
  rw [he]
  have HS := Lib.hid (RR2.start (w := w) (six := six) (hi := hi) (lo := lo) (n := n) (s := s) (ah := ah) (al := al) (m := m))
  clear hp hq hx hy he h1 h2 h3 h4
  rcases p with _ | _ <;> rcases q with _ | _ <;> rcases x with _ | _ <;> rcases y with _ | _
  all_goals
    go_enter Tryz.func39, Tryz.ntmps39
    go_wp2_with (first | (go_at_call 94; (first | (with_reducible refine (HM1.out _).mono ?_) | (with_reducible refine (HM2.out _).mono ?_)); rintro e w1 ⟨rfl, hb⟩; replace HS := Lib.hid (HS.out.next hb); obtain ⟨⟨a0, a1, a2, a3⟩, b0, b1, b2, b3⟩ := HS.out.cells; clear hb) | (go_at_call 40; (first | (with_reducible refine (HH1.out _).mono ?_) | (with_reducible refine (HH2.out _).mono ?_)); rintro e w1 ⟨rfl, hb⟩; replace HS := Lib.hid (HS.out.next hb); obtain ⟨⟨a0, a1, a2, a3⟩, b0, b1, b2, b3⟩ := HS.out.cells; clear hb))
    go_ret
    exact ⟨rfl, HS.out.2.2⟩
end Go.Proofs.YtjadghmanpkgoaaGreatDoor
