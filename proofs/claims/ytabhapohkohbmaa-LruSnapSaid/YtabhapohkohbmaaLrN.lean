/-
  LruNil: the walk. No condition.
-/
import Derived.Test.YtabhapohkohbmaaLrJ
namespace Go.Proofs.Ytabhapohkohbmaa
open Go.RowKit Go.Maps
set_option linter.unusedVariables false
set_option linter.unusedSimpArgs false
attribute [local go_sem] Oper.semAt_some

theorem keys_nil (w : World) : Calls Try.prog 32 #[.pointer none] w fun e w' => ∃ v, e = .returned v ∧ SRow w' v [] ∧ Below w.heap.size w w' := by
  refine (keys_anyP none [] w (by decide) fun W hW => (snapshot_nil W).mono ?_).mono ?_
  · rintro e w' ⟨rfl, rfl⟩
    exact ⟨_, rfl, World.ownsRow_nil _ _ _ _, Below.refl _ _⟩
  · rintro e w' ⟨v, rfl, ho, hb⟩
    exact ⟨v, rfl, .of_own ho, hb⟩
theorem seq_some (g : Nat) : ∀ wx : World, (binOp .neq 53 (.func (.func 51) #[] #[.pointer (some ⟨g, 0, none⟩)]) .nilFunc).run Try.prog wx = .ok (.bool true) wx := fun _ => by kernel_rfl
theorem seq_none (g : Nat) : ∀ wx : World, (binOp .eql 53 (.func (.func 51) #[] #[.pointer (some ⟨g, 0, none⟩)]) .nilFunc).run Try.prog wx = .ok (.bool false) wx := fun _ => by kernel_rfl
/-- Between two rounds, of which there are none: the count is 0. -/
def NI (w : World) (G : Nat) (pre : List (ByteArray × Int)) (T : Nat → Prop) (W : World) : Prop := (∀ k, T k ↔ k = G) ∧ Boxed W G 3 (.int .i64 0) ∧ Below w.heap.size w W
theorem ni_own {w : World} {G : Nat} (hw : w.heap.size ≤ G) (T : Nat → Prop) {n : Nat} (hn : G < n) : OwnFrom n fun (pre : List (ByteArray × Int)) W => NI w G pre T W := by
  rintro s X Y row ⟨h1, h2, h3⟩ hg hr
  exact ⟨h1, h2.kept hg fun e => by have := (hr _ e.symm).1; omega, h3.grown hg h3.size fun j hj => by have := (hr j hj).1; omega⟩
set_option maxRecDepth 100000 in
set_option maxHeartbeats 8000000 in
theorem LruNil_walk (k : ByteArray) (v : Int) (hk : k.size ≤ maxLen) (hv : (Lit.int .i64 v).wf = true) (w : World) :
    Calls Try.prog 5 #[.string k, .int .i64 v] w fun e w' => e = .returned (.bool true) ∧ Below w.heap.size w w' := by
  have HL := Lib.hid (lives15 w)
  refine (callsIn_wide (n := 19)).1 ?_
  refine callsIn_of_wp_marks Try.func5 rfl trivial ?_ rfl
  simp only [Try.ntmps5, List.size_toArray, List.length_cons, List.length_nil, Nat.reduceAdd, Nat.reduceSub, Array.replicate_succ, Array.replicate_zero, List.push_toArray, List.append_toArray, List.nil_append, List.cons_append]
  refine wpIn_wide.2 ?_
  go_wp2_with fail
  refine HL.out.mono ?_
  rintro e w1 ⟨rfl, hb⟩
  have HB1 := Lib.hid hb
  clear hb
  go_wp2_with fail
  refine (get_nil _ _).mono ?_
  rintro e w2 ⟨rfl, hb⟩
  have HB2 := Lib.hid (HB1.out.trans (hb.mono HB1.out.size))
  clear hb
  go_wp2_with fail
  refine (look_nil _ _).mono ?_
  rintro e w3 ⟨rfl, hb⟩
  have HB3 := Lib.hid (HB2.out.trans (hb.mono HB2.out.size))
  clear hb
  go_wp2_with fail
  refine (put_nil _ _ _).mono ?_
  rintro e _ ⟨rfl, rfl⟩
  go_wp2_with fail
  refine (Clear_nil _).mono ?_
  rintro e _ ⟨rfl, rfl⟩
  go_wp2_with fail
  refine (All_any _ _).mono ?_
  rintro e _ ⟨rfl, rfl⟩
  obtain ⟨G, hG⟩ : ∃ G, w3.heap.size = G := ⟨_, rfl⟩
  have hs1 : (w3.alloc (.cells #[.int .i64 0] 3)).heap.size = G + 1 := by rw [← hG]; simp
  have hn := seq_some (G + 1)
  rw [hs1]
  go_wp2_with fail
  have hB4 : Below w.heap.size w (w3.alloc (.cells #[.int .i64 0] 3)) := HB3.out.alloc HB3.out.size _
  have hB5 : Below w.heap.size w ((w3.alloc (.cells #[.int .i64 0] 3)).alloc (.cells #[.pointer none] 36)) := hB4.alloc hB4.size _
  have bO : Boxed ((w3.alloc (.cells #[.int .i64 0] 3)).alloc (.cells #[.pointer none] 36)) G 3 (.int .i64 0) := by rw [← hG]; exact (Boxed.new w3 _ _).alloc _
  have hbx : ((w3.alloc (.cells #[.int .i64 0] 3)).alloc (.cells #[.pointer none] 36)).cell? ⟨G + 1, 0, none⟩ = some (.pointer none) := by
    have := (Lies.new (w3.alloc (.cells #[.int .i64 0] 3)) 36 #[.pointer none]).cell 0
    rw [hs1] at this
    exact this
  have hs2 : ((w3.alloc (.cells #[.int .i64 0] 3)).alloc (.cells #[.pointer none] 36)).heap.size = G + 2 := by rw [World.size_alloc, hs1]
  have hwG : w.heap.size ≤ G := by rw [← hG]; exact HB3.out.size
  obtain ⟨W0, hW0⟩ : ∃ W0, (w3.alloc (.cells #[.int .i64 0] 3)).alloc (.cells #[.pointer none] 36) = W0 := ⟨_, rfl⟩
  rw [hW0] at hB5 bO hbx hs2 ⊢
  have hI0 : NI w G [] (fun k => k = G) W0 := ⟨fun k => Iff.rfl, bO, hB5⟩
  clear hB4 hW0 hn hs1 hG
  refine (wpIn_wide (n := 18)).1 ?_
  refine range_own1 rfl (by decide) (gf := 51) (bd := #[]) (lb := #[.pointer (some ⟨G + 1, 0, none⟩)]) rfl trivial (enters_of Try.func51 (by kernel_rfl) rfl)
    (nil_seq W0 17 (by decide) (G + 1) hbx) (Below.refl _ _) (fun c h => h.elim) (fun _ => rfl)
    (NI w G) (fun _ _ _ => False) (fun T => ni_own hwG T (by omega)) (fun _ _ _ _ _ h _ _ => h) (fun _ e => by cases e) (fun pre T W h b hb hT => by have := (h.1 b).1 hT; have := h.2.1.lt; omega)
    (fun k => k = G) (fun c h => h.elim) hI0 ?a1 ?assign ?body ?done ?stop
  case assign =>
    intro l2 x W' K hK
    gi_wp2
    exact hK
  case stop => exact fun _ _ _ _ _ _ h _ => h.elim
  case body =>
    rintro l pre x T W _ _ hI hRs
    have := hRs.length_le
    simp at this
  case done =>
    rintro D xs T W hD hnD rfl hI hK
    obtain ⟨hT, hv, hB⟩ := hI
    have hGD : G ≠ D := by omega
    have hD' : w.heap.size ≤ D := by omega
    have HB := Lib.hid hB
    have HK := Lib.hid hK
    have HV := Lib.hid hv
    clear hT hB hv hK
    go_wp2_with fail
    refine (Drop_nil _ _).mono ?_
    rintro e _ ⟨rfl, rfl⟩
    go_wp2_with fail
    refine (len_nil _).mono ?_
    rintro e _ ⟨rfl, rfl⟩
    go_wp2_with fail
    refine (keys_nil _).mono ?_
    rintro e W2 ⟨v2, rfl, hr, hb⟩
    obtain ⟨A, cap, rfl, _, _⟩ := hr.shape
    have hc := (boxed_below HV.out hb).cell
    have hk2 : W2.heap[D]? = some (.deferred (some [])) := (hb.block D (Array.getElem?_eq_some_iff.1 HK.out).1).trans HK.out
    have HB2 := Lib.hid (HB.out.trans (hb.mono HB.out.size))
    clear hb hr
    go_wp2
    refine ⟨by simp, .inl ⟨_, _, rfl, run_takeDeferred hk2, ?_⟩⟩
    exact ⟨_, results_tmp rfl _ _ _, rfl, HB2.out.trans (belowK_b (w := w) (Nat.le_refl _) W2 D _ _ hD' hk2 rfl rfl)⟩
end Go.Proofs.Ytabhapohkohbmaa
