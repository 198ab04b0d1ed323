/-
  What of a pool's range is reserved: the walks of vips.runs, vips.reserved. Conditions: the laid tables' cells (Ground), the addresses' numbers such as their types bear, a range that may be.
-/
import Derived.Test.YthlabpbplikjbaaDoorZk26
namespace Go.Proofs.YthlabpbplikjbaaDoor
open Go.RowKit Go.Maps
set_option linter.unusedVariables false

/-- make([]int, m). -/
theorem make_intsV (w : World) (m : Nat) (hm : m ≤ 65536) :
    (Instr.makeSlice 97 (.int .i64 (m : Int)) (.int .i64 (m : Int))).run Tryd.prog w = .ok (.slice (some ⟨w.heap.size, 0, none⟩) m m) (w.alloc (.cells (Array.replicate m (.int .i64 0)) 3)) := by
  obtain ⟨i, hi⟩ := Option.isSome_iff_exists.1 (show (Tryd.prog.info? 3).isSome = true by kernel_rfl)
  have hz : i.zero = some (.int .i64 0) := by
    have h : (Tryd.prog.info? 3).bind (·.zero) = some (.int .i64 0) := by kernel_rfl
    rw [hi] at h
    exact h
  have hs : i.size = 1 := by
    have h : (Tryd.prog.info? 3).map (·.size) = some 1 := by kernel_rfl
    rw [hi] at h
    injection h
  have hby : i.bytes = 8 := by
    have h : (Tryd.prog.info? 3).map (·.bytes) = some 8 := by kernel_rfl
    rw [hi] at h
    injection h
  have h := run_makeSlice (P := Tryd.prog) w 97 3 i _ (by kernel_rfl) hi hz .i64 .i64 m m (by omega) (by omega) (by rw [hs]; simp; omega) (by rw [hby]; omega) (by omega)
  have e : madeCells (Value.int .i64 0).cells (m * i.size) = (Array.replicate m (.int .i64 0)) := by
    rw [hs, Nat.mul_one]
    apply Array.toList_inj.1
    rw [Array.toList_replicate]
    exact toList_madeCells_one _ _
  simp only [Int.toNat_natCast] at h
  rw [e] at h
  exact h
theorem make_boolsV (w : World) (m : Nat) (hm : m ≤ 65536) :
    (Instr.makeSlice 67 (.int .i64 (m : Int)) (.int .i64 (m : Int))).run Tryd.prog w = .ok (.slice (some ⟨w.heap.size, 0, none⟩) m m) (w.alloc (.cells (Array.replicate m (.bool false)) 4)) := by
  obtain ⟨i, hi⟩ := Option.isSome_iff_exists.1 (show (Tryd.prog.info? 4).isSome = true by kernel_rfl)
  have hz : i.zero = some (.bool false) := by
    have h : (Tryd.prog.info? 4).bind (·.zero) = some (.bool false) := by kernel_rfl
    rw [hi] at h
    exact h
  have hs : i.size = 1 := by
    have h : (Tryd.prog.info? 4).map (·.size) = some 1 := by kernel_rfl
    rw [hi] at h
    injection h
  have hby : i.bytes = 1 := by
    have h : (Tryd.prog.info? 4).map (·.bytes) = some 1 := by kernel_rfl
    rw [hi] at h
    injection h
  have h := run_makeSlice (P := Tryd.prog) w 67 4 i _ (by kernel_rfl) hi hz .i64 .i64 m m (by omega) (by omega) (by rw [hs]; simp; omega) (by rw [hby]; omega) (by omega)
  have e : madeCells (Value.bool false).cells (m * i.size) = (Array.replicate m (.bool false)) := by
    rw [hs, Nat.mul_one]
    apply Array.toList_inj.1
    rw [Array.toList_replicate]
    exact toList_madeCells_one _ _
  simp only [Int.toNat_natCast] at h
  rw [e] at h
  exact h

/-! ### What is taken, place by place -/
theorem Bx.store {w wr : World} {g : Nat} {t : TypeId} {cs : Array Value} {B : List (Nat × TypeId × Array Value)} (r : Bx w wr ((g, t, cs) :: B)) (hg : ∀ x ∈ B, x.1 ≠ g) (hw : w.heap.size ≤ g) (j : Nat) (v : Value) : Bx w (wr.setCell ⟨g, j, none⟩ v) ((g, t, cs.setIfInBounds j v) :: B) :=
  ⟨r.bel.setCell (p := ⟨g, j, none⟩) hw v, fun x hx => by
    rcases List.mem_cons.1 hx with rfl | hx
    · exact (r.at List.mem_cons_self).set j v
    · have h1 := r.all x (List.mem_cons_of_mem _ hx)
      unfold Lies at *
      rw [heap_setCell_other _ _ _ _ (hg x hx)]
      exact h1⟩
def stepT (r : Ad) (b : Int) (T : List Nat) (o : Ad × Int) : List Nat := if (runP r b o.1 o.2).2.2 = true then T.set (runP r b o.1 o.2).1 (max (T.getD (runP r b o.1 o.2).1 0) (runP r b o.1 o.2).2.1) else T
def takT (r : Ad) (b : Int) (L : List (Ad × Int)) : List Nat := L.foldl (stepT r b) (List.replicate (sizeR r b) 0)
theorem stepT_len (r : Ad) (b : Int) (T : List Nat) (o : Ad × Int) : (stepT r b T o).length = T.length := by
  unfold stepT
  split
  · rw [List.length_set]
  · rfl
theorem takT_len (r : Ad) (b : Int) (L : List (Ad × Int)) : (takT r b L).length = sizeR r b := by
  unfold takT
  have : ∀ (L : List (Ad × Int)) (T : List Nat), (L.foldl (stepT r b) T).length = T.length := by
    intro L
    induction L with
    | nil => intro T; rfl
    | cons o L ih => intro T; rw [List.foldl_cons, ih, stepT_len]
  rw [this, List.length_replicate]
theorem takT_snoc (r : Ad) (b : Int) (L : List (Ad × Int)) (k : Nat) (h : k < L.length) : takT r b (L.take (k + 1)) = stepT r b (takT r b (L.take k)) L[k] := by
  unfold takT
  rw [List.take_succ_eq_append_getElem h, List.foldl_append]
  rfl
theorem runP_first {r : Ad} {b : Int} {s : Ad} {m : Int} (h : (runP r b s m).2.2 = true) : (runP r b s m).1 < sizeR r b ∧ (runP r b s m).2.1 ≤ 65536 := by
  unfold runP at h ⊢
  split
  · rename_i h1; rw [if_pos h1] at h; cases h
  · rename_i h1
    rw [if_neg h1] at h
    have hm : meetR r b s m = true := by simpa using h1
    have hr : chkR r b = 0 := (of_decide_eq_true hm).1
    obtain ⟨_, b', rfl, _, _⟩ := chkR_yes hr
    split
    · exact ⟨(size_pos hr).1, (size_pos hr).2⟩
    · rename_i h2
      rw [if_neg h2] at h
      split
      · rename_i h3; rw [if_pos h3] at h; cases h
      · rename_i h3
        have h4 : (idxR r b' s).2 = true := by simpa using h3
        refine ⟨?_, sizeR_le _ _⟩
        unfold idxR at h4 ⊢
        split
        · rename_i h5; rw [if_pos h5] at h4; cases h4
        · rename_i h5
          dsimp only
          refine Nat.lt_of_not_le fun hle => h5 (.inr (.inr hle))
theorem stepT_le {r : Ad} {b : Int} {T : List Nat} {o : Ad × Int} (h : ∀ i, T.getD i 0 ≤ 65536) : ∀ i, (stepT r b T o).getD i 0 ≤ 65536 := by
  intro i
  unfold stepT
  split
  · rename_i hs
    have h1 := (runP_first hs).2
    have h2 := h (runP r b o.1 o.2).1
    have h3 := h i
    simp only [List.getD_eq_getElem?_getD, List.getElem?_set] at h2 h3 ⊢
    split
    · split
      · simp only [Option.getD_some]; omega
      · simp
    · exact h3
  · exact h i
theorem takT_le (r : Ad) (b : Int) (L : List (Ad × Int)) : ∀ i, (takT r b L).getD i 0 ≤ 65536 := by
  unfold takT
  have : ∀ (L : List (Ad × Int)) (T : List Nat), (∀ i, T.getD i 0 ≤ 65536) → ∀ i, (L.foldl (stepT r b) T).getD i 0 ≤ 65536 := by
    intro L
    induction L with
    | nil => intro T h; exact h
    | cons o L ih => intro T h; exact ih _ (stepT_le h)
  refine this L _ fun i => ?_
  rw [List.getD_eq_getElem?_getD, List.getElem?_replicate]
  split <;> simp
def intC (T : List Nat) : Array Value := (T.map fun n : Nat => Value.int .i64 (n : Int)).toArray
theorem intC_get {T : List Nat} {i : Nat} (h : i < T.length) : (intC T)[i]? = some (.int .i64 ((T.getD i 0 : Nat) : Int)) := by
  unfold intC
  simp [h]
theorem intC_set (T : List Nat) (i v : Nat) : (intC T).setIfInBounds i (.int .i64 (v : Int)) = intC (T.set i v) := by
  unfold intC
  rw [List.setIfInBounds_toArray, List.map_set]
/-- What runs hands back. -/
def TakOut (r : Ad) (b : Int) (L : List (Ad × Int)) (w : World) (e : Ending) (w' : World) : Prop := ∃ g, e = .returned (.slice (some ⟨g, 0, none⟩) (sizeR r b) (sizeR r b)) ∧ w.heap.size ≤ g ∧ Lies w' g 3 (intC (takT r b L)) ∧ Below w.heap.size w w'
def TakRel (r : Ad) (b : Int) (L : List (Ad × Int)) (w : World) (g : Nat) (cs : Array Value) (v : Value) (wr : World) : Prop :=
  ∃ k : Nat, v = .int .i64 (k : Nat) ∧ k ≤ L.length ∧ Bx w wr [(g, 3, intC (takT r b (L.take k))), (w.heap.size, 34, cs)]

set_option maxHeartbeats 8000000 in
set_option maxRecDepth 100000 in
theorem vruns_any {p : PoolD} {v : Value} {w : World} (hG : Ground w) (hf : fitA p.r) (hr : chkR p.r p.b = 0) (hrow : RgRow w v p.R) :
    Calls Tryd.prog 44 #[pv p v] w (TakOut p.r p.b p.R w) := by
  obtain ⟨⟨six, hi, lo⟩, b, L⟩ := p
  simp only at hf hrow hr
  obtain ⟨A, cap, rfl, hlc, hcm, hat⟩ := hrow.shape
  have HAt := Lib.hid hat
  have HFit := Lib.hid hrow.fits
  have HF := Lib.hid hf
  have HG := Lib.hid (fun wx (hb : Below w.heap.size w wx) => hG.next hb)
  unfold maxLen at hcm
  show Calls _ _ #[.agg #[.bool six, .int .u64 (hi : Int), .int .u64 (lo : Int), .int .i64 b, .slice A L.length cap]] w (TakOut (six, hi, lo) b L w)
  have HS := Lib.hid ((Bx.start w).more 34 #[.bool six, .int .u64 (hi : Int), .int .u64 (lo : Int), .int .i64 b, .slice A L.length cap])
  obtain ⟨z, hz⟩ : ∃ z, sizeR (six, hi, lo) b = z := ⟨_, rfl⟩
  have gs := Lib.hid (gSr (n := b) hf hz)
  have hz1 : 1 ≤ z ∧ z ≤ 65536 := by
    obtain ⟨_, b', rfl, _, _⟩ := chkR_yes hr
    rw [← hz]
    exact size_pos hr
  have hmk := fun wx => make_intsV wx z hz1.2
  have HT0 : Hid (intC (takT (six, hi, lo) b (L.take 0)) = (Array.replicate z (.int .i64 0))) := Lib.hid (by rw [← hz]; simp [intC, takT])
  have HTl : Hid (∀ k, (takT (six, hi, lo) b (L.take k)).length = z) := Lib.hid (fun k => by rw [takT_len, hz])
  have HZ := Lib.hid hz
  clear hat hrow hf hG hz hr
  go_enter Tryd.func44, Tryd.ntmps44
  go_wp2_with ((go_at_call 66; (with_reducible refine (gs.out.go _ (HG.out _ HS.out.bel)).mono ?_); rintro e w1 ⟨rfl, hb⟩; replace HS := Lib.hid (HS.out.next hb); clear hb; have hm1 := hmk w1; have r4 : (w1.alloc (.cells (Array.replicate z (.int .i64 0)) 3)).cell? ⟨w.heap.size, 4, none⟩ = some (.slice A L.length cap) := Lies.cell ((HS.out.alloc _).at List.mem_cons_self) 4; have HR0 : Hid (TakRel (six, hi, lo) b L w w1.heap.size #[.bool six, .int .u64 (hi : Int), .int .u64 (lo : Int), .int .i64 b, .slice A L.length cap] (.int .i64 0) (w1.alloc (.cells (Array.replicate z (.int .i64 0)) 3))) := Lib.hid ⟨0, rfl, Nat.zero_le _, by rw [HT0.out]; exact HS.out.more _ _⟩))
  clear hmk hm1
  have hgw : w.heap.size < w1.heap.size := (HS.out.at List.mem_cons_self).lt
  obtain ⟨gT, hgT⟩ : ∃ gT, gT = w1.heap.size := ⟨_, rfl⟩
  rw [← hgT] at HR0 hgw ⊢
  clear hgT HS gs r4
  go_loopw [16] (fun v16 wr => TakRel (six, hi, lo) b L w gT #[.bool six, .int .u64 (hi : Int), .int .u64 (lo : Int), .int .i64 b, .slice A L.length cap] v16 wr) (fun v16 _ => L.length - (intOf v16).toNat)
  case atStart => exact HR0.out
  case round =>
    clear HR0
    obtain ⟨k, rfl, hk, hS⟩ := hrel
    have HS := Lib.hid hS
    clear hS
    rcases Nat.lt_or_ge k L.length with hlt | hge
    · obtain ⟨g, off, rfl, hgw2, hcell⟩ := HAt.out k hlt
      obtain ⟨⟨⟨s, ah, al⟩, m⟩, hx⟩ : ∃ x, L[k] = x := ⟨_, rfl⟩
      have hfx : fitA (s, ah, al) := by have := HFit.out L[k] (List.getElem_mem hlt); rw [hx] at this; exact this
      rw [hx] at hcell
      obtain ⟨c0, c1, c2, c3⟩ := hcell.below HS.out.bel hgw2
      simp only at c0 c1 c2 c3
      have hkI : (k : Int) < (L.length : Int) := by omega
      have HKL : Hid (k + 1 ≤ L.length) := Lib.hid hlt
      have hsn := takT_snoc (six, hi, lo) b L k hlt
      rw [hx] at hsn
      obtain ⟨T, hT⟩ : ∃ T, takT (six, hi, lo) b (L.take k) = T := ⟨_, rfl⟩
      have hTl : T.length = z := by rw [← hT]; exact HTl.out k
      have hTm : ∀ i, T.getD i 0 ≤ 65536 := by rw [← hT]; exact takT_le _ _ _
      rw [hT] at hsn HS
      obtain ⟨⟨i, l, o⟩, hrp⟩ : ∃ x, runP (six, hi, lo) b (s, ah, al) m = x := ⟨_, rfl⟩
      have gr := Lib.hid (gVr HF.out hfx hrp)
      unfold rv at gr
      simp only at gr
      have HSm := Lib.hid (HS.out.more 31 #[.bool s, .int .u64 (ah : Int), .int .u64 (al : Int), .int .i64 m])
      obtain ⟨r0, r1, r2, r3⟩ := r7_cells HSm.out
      have q0 : (wr.alloc (.cells #[.bool s, .int .u64 (ah : Int), .int .u64 (al : Int), .int .i64 m] 31)).cell? ⟨w.heap.size, 0, none⟩ = some (.bool six) := Lies.cell (HSm.out.tail.tail.at List.mem_cons_self) 0
      have q1 : (wr.alloc (.cells #[.bool s, .int .u64 (ah : Int), .int .u64 (al : Int), .int .i64 m] 31)).cell? ⟨w.heap.size, 1, none⟩ = some (.int .u64 (hi : Int)) := Lies.cell (HSm.out.tail.tail.at List.mem_cons_self) 1
      have q2 : (wr.alloc (.cells #[.bool s, .int .u64 (ah : Int), .int .u64 (al : Int), .int .i64 m] 31)).cell? ⟨w.heap.size, 2, none⟩ = some (.int .u64 (lo : Int)) := Lies.cell (HSm.out.tail.tail.at List.mem_cons_self) 2
      have q3 : (wr.alloc (.cells #[.bool s, .int .u64 (ah : Int), .int .u64 (al : Int), .int .i64 m] 31)).cell? ⟨w.heap.size, 3, none⟩ = some (.int .i64 b) := Lies.cell (HSm.out.tail.tail.at List.mem_cons_self) 3
      cases o with
      | false =>
        have HN : Hid (takT (six, hi, lo) b (L.take (k + 1)) = T) := Lib.hid (by rw [hsn]; unfold stepT; rw [hrp, if_neg (by simp)])
        clear hx hfx hsn hT hTl hTm hrp hcell hgw2
        go_wp2_with ((go_at_call 67; (with_reducible refine (gr.out.go _ (HG.out _ HSm.out.bel)).mono ?_); rintro e w2 ⟨rfl, hb⟩; replace HSm := Lib.hid (HSm.out.next hb); clear hb r0 r1 r2 r3 q0 q1 q2 q3))
        go_roundw
        case rel => exact ⟨k + 1, by go_num, HKL.out, by rw [HN.out]; exact HSm.out.tail⟩
        case measure => simp [intOf]; omega
      | true =>
        have hfst := runP_first (r := (six, hi, lo)) (b := b) (s := (s, ah, al)) (m := m) (by rw [hrp])
        rw [hrp, HZ.out] at hfst
        obtain ⟨hi1, hl1⟩ := hfst
        simp only at hi1 hl1
        obtain ⟨c, hc⟩ : ∃ c, max (T.getD i 0) l = c := ⟨_, rfl⟩
        have HN : Hid (takT (six, hi, lo) b (L.take (k + 1)) = T.set i c) := Lib.hid (by rw [hsn]; unfold stepT; rw [hrp, if_pos rfl, ← hc])
        obtain ⟨e0, he0⟩ : ∃ e0, T.getD i 0 = e0 := ⟨_, rfl⟩
        have hcI : max ((e0 : Nat) : Int) (l : Int) = (c : Int) := by rw [he0] at hc; omega
        have HC : Hid ((intC T)[i]? = some (.int .i64 ((e0 : Nat) : Int))) := Lib.hid (by rw [intC_get (by omega), he0])
        have hiI : (i : Int) < (z : Int) := by omega
        have hi0 : (0 : Int) ≤ (i : Int) := by omega
        clear hx hfx hsn hT hTl hTm hrp hcell hgw2 hc he0
        go_wp2_with ((go_at_call 67; (with_reducible refine (gr.out.go _ (HG.out _ HSm.out.bel)).mono ?_); rintro e w2 ⟨rfl, hb⟩; replace HSm := Lib.hid (HSm.out.next hb); clear hb r0 r1 r2 r3 q0 q1 q2 q3; have e1 : w2.cell? ⟨gT, i, none⟩ = some (.int .i64 ((e0 : Nat) : Int)) := (Lies.cell (HSm.out.tail.at List.mem_cons_self) i).trans HC.out; have e2 : w2.frozen? ⟨gT, i, none⟩ = false := Lies.free (HSm.out.tail.at List.mem_cons_self) i))
        go_roundw
        case rel => exact ⟨k + 1, by go_num, HKL.out, by rw [HN.out, ← intC_set]; exact HSm.out.tail.store (by intro x hx; rw [List.mem_singleton] at hx; subst hx; simp only; omega) (by omega) i _⟩
        case measure => simp [intOf]; omega
    · obtain rfl : k = L.length := by omega
      have HN : Hid (takT (six, hi, lo) b (L.take L.length) = takT (six, hi, lo) b L) := Lib.hid (by rw [List.take_of_length_le (Nat.le_refl _)])
      go_wp2
      go_ret
      exact ⟨gT, by rw [HZ.out]; rfl, by omega, by rw [← HN.out]; exact HS.out.at List.mem_cons_self, HS.out.bel⟩
end Go.Proofs.YthlabpbplikjbaaDoor
