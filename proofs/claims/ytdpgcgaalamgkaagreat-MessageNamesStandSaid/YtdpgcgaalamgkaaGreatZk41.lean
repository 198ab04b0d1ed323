/-
  message.Put: the walk. Condition: Go can have the message.
-/
import Derived.Test.YtdpgcgaalamgkaaGreatZk40
namespace Go.Proofs.YtdpgcgaalamgkaaGreat
open Go.RowKit Go.Maps
set_option linter.unusedVariables false
set_option maxRecDepth 100000

def putErr (M : Nat) (m : MM) : Nat := if checkM m = 0 then (putMs M m).2.f else checkM m
def putTx (M : Nat) (m : MM) : List UInt8 := if checkM m = 0 then putT M m else []
/-- What Put leaves. -/
def PutW (w : World) (m : MM) (M : Nat) (e : Ending) (w' : World) : Prop :=
  e = .returned (.tuple #[.string ⟨(putTx M m).toArray⟩, .int .i64 (putErr M m : Nat)]) ∧ (checkM m = 0 → (putMs M m).2.l.length ≤ M) ∧ Below w.heap.size w w'
set_option maxHeartbeats 1000000 in
theorem mPut_any (m : MM) (vq va vu vm : Value) (most : Int) (w : World) (hf : FitM w m vq va vu vm) (hmo : most ≤ 9223372036854775807) :
    Calls Tryz.prog 21 #[msgV m.h vq va vu vm, .int .i64 most] w (PutW w m (min most 65535).toNat) := by
  have HCk := Lib.hid fun wx (hb : Below w.heap.size w wx) => mCheck_any m vq va vu vm wx (hf.next hb)
  have HPt := Lib.hid fun wx (hb : Below w.heap.size w wx) ok => mput_any m vq va vu vm most wx (hf.next hb) ok hmo
  obtain ⟨Aq, cq, Aa, ca, Au, cu, Am, cm, rfl, rfl, rfl, rfl, ⟨l1, l2, l3, l4⟩, _⟩ := hf.shapes
  have hbx := box_m m.h Aq Aa Au Am m.q.length m.a.length m.u.length m.m.length cq ca cu cm w
  have hld := fun wx g (l : Lies wx g 54 (cellsM m.h (.slice Aq m.q.length cq) (.slice Aa m.a.length ca) (.slice Au m.u.length cu) (.slice Am m.m.length cm))) => load_ml l
  obtain ⟨M, hM⟩ : ∃ M, (min most 65535).toNat = M := ⟨_, rfl⟩
  rw [hM] at HPt ⊢
  obtain ⟨C, hC⟩ : ∃ C, cellsM m.h (.slice Aq m.q.length cq) (.slice Aa m.a.length ca) (.slice Au m.u.length cu) (.slice Am m.m.length cm) = C := ⟨_, rfl⟩
  obtain ⟨V, hV⟩ : ∃ V, msgV m.h (.slice Aq m.q.length cq) (.slice Aa m.a.length ca) (.slice Au m.u.length cu) (.slice Am m.m.length cm) = V := ⟨_, rfl⟩
  rw [hV] at HCk HPt ⊢
  rw [hV, hC] at hbx
  simp only [hV, hC] at hld
  have hB0 : Below w.heap.size w (w.alloc (.cells C 54)) := (Below.refl _ _).alloc (Nat.le_refl _) _
  have HBx := Lib.hid hbx
  have HLd := Lib.hid hld
  have HB0 := Lib.hid hB0
  clear hf l1 l2 l3 l4 hM hC hV hbx hld hB0
  obtain ⟨c, hc⟩ : ∃ c, checkM m = c := ⟨_, rfl⟩
  have HPW : Hid (∀ e w', e = .returned (.tuple #[.string ⟨(if c = 0 then putT M m else []).toArray⟩, .int .i64 (if c = 0 then (putMs M m).2.f else c : Nat)]) ∧ (c = 0 → (putMs M m).2.l.length ≤ M) ∧ Below w.heap.size w w' → PutW w m M e w') := Lib.hid fun e w' h => by unfold PutW putTx putErr; rw [hc]; exact h
  rw [hc] at HCk
  have HC := Lib.hid hc
  clear hc
  by_cases hz : c = 0
  · subst hz
    have HOk := Lib.hid (checkM_zero.1 HC.out)
    have hne : ((((0 : Nat) : Nat) : Int) != 0) = false := rfl
    go_enter Tryz.func21, Tryz.ntmps21
    go_wp2_with (first | (refine wpList_box1 rfl 54 (.tmp 0) rfl V _ rfl HBx.out ?_) | (refine wpList_load1 rfl 54 (.tmp 2) rfl _ V rfl (HLd.out _ _ (Lies.new _ _ _)) ?_) | (refine wpList_load1 rfl 54 (.tmp 2) rfl _ V rfl (HLd.out _ _ HL1.out) ?_) | (go_at_call 25; (with_reducible refine (HCk.out _ HB0.out).mono ?_); rintro e w1 ⟨rfl, hb1⟩; have HL1 := Lib.hid ((Lies.new w 54 C).next hb1); have HB1 := Lib.hid (HB0.out.trans (hb1.mono HB0.out.size)); clear hb1) | (go_at_call 66; (with_reducible refine (HPt.out _ HB1.out HOk.out).mono ?_); rintro e w2 ⟨rfl, hl, hb2⟩; have HLe := Lib.hid hl; have HB2 := Lib.hid (HB1.out.trans (hb2.mono HB1.out.size)); clear hb2 hl))
    go_ret2
    exact HPW.out _ _ ⟨rfl, fun _ => HLe.out, HB2.out⟩
  · have hne : (((c : Nat) : Int) != 0) = true := by simpa using hz
    go_enter Tryz.func21, Tryz.ntmps21
    go_wp2_with (first | (refine wpList_box1 rfl 54 (.tmp 0) rfl V _ rfl HBx.out ?_) | (refine wpList_load1 rfl 54 (.tmp 2) rfl _ V rfl (HLd.out _ _ (Lies.new _ _ _)) ?_) | (go_at_call 25; (with_reducible refine (HCk.out _ HB0.out).mono ?_); rintro e w1 ⟨rfl, hb1⟩; have HB1 := Lib.hid (HB0.out.trans (hb1.mono HB0.out.size)); clear hb1))
    go_ret2
    exact HPW.out _ _ ⟨(by rw [if_neg hz, if_neg hz]; first | done | rfl), fun h => absurd h hz, HB1.out⟩
end Go.Proofs.YtdpgcgaalamgkaaGreat
