/-
  HashProbes: the walk. Condition: the name is no longer than Go's own limit, the numbers fit their kinds.
-/
import Derived.Test.YtmjhofgcfolelaaHsQ
import Derived.Test.YtmjhofgcfolelaaPick
import Derived.Test.YtmjhofgcfolelaaCls
import Derived.Test.YtmjhofgcfolelaaPh
import Derived.Laws.MakeOwn
namespace Go.Proofs.Ytmjhofgcfolelaa
open Go.RowKit Go.Shelf
set_option linter.unusedVariables false
attribute [local go_sem] Oper.semAt_some

/-- make([]bool, m). -/
theorem make_bools (w : World) (m : Nat) (hm : m ≤ 400) : ∃ C : Array Value, C.toList = List.replicate m (.bool false) ∧
    (Instr.makeSlice 36 (.int .i64 (m : Int)) (.int .i64 (m : Int))).run Try.prog w = .ok (.slice (some ⟨w.heap.size, 0, none⟩) m m) (w.alloc (.cells C 4)) := by
  obtain ⟨i, hi⟩ := Option.isSome_iff_exists.1 (show (Try.prog.info? 4).isSome = true by kernel_rfl)
  have hz : i.zero = some (.bool false) := by
    have h : (Try.prog.info? 4).bind (·.zero) = some (.bool false) := by kernel_rfl
    rw [hi] at h
    exact h
  have hs : i.size = 1 := by
    have h : (Try.prog.info? 4).map (·.size) = some 1 := by kernel_rfl
    rw [hi] at h
    injection h
  have hby : i.bytes = 1 := by
    have h : (Try.prog.info? 4).map (·.bytes) = some 1 := by kernel_rfl
    rw [hi] at h
    injection h
  have h := run_makeSlice (P := Try.prog) w 36 4 i _ (by kernel_rfl) hi hz .i64 .i64 m m (by omega) (by omega) (by rw [hs]; simp; omega) (by rw [hby]; omega) (by omega)
  refine ⟨_, ?_, by simpa using h⟩
  rw [hs]
  rw [Nat.mul_one]
  exact (by simpa using toList_madeCells_one (.bool false) m : (madeCells #[Value.bool false] m).toList = List.replicate m (.bool false))

set_option maxRecDepth 100000 in
set_option maxHeartbeats 4000000 in
theorem hprobes_in (n : ByteArray) (m : Nat) (early : Int) (w : World) (hn : n.size ≤ 400) (h1 : 1 ≤ m) (h2 : m ≤ 400) :
    Calls Try.prog 5 #[.string n, .int .i64 (m : Int), .int .i64 early] w fun e w' => e = .returned (.bool true) ∧ Below w.heap.size w w' := by
  have hnm : n.size ≤ maxLen := by unfold maxLen; omega
  have hL := Lib.hid lives13
  have hP := Lib.hid fun wx => Probe_any hnm (k := (m : Int)) (by omega) wx
  have gS := Lib.hid (gSlot hnm (k := (m : Int)) (by omega) rfl)
  obtain ⟨s0, s1⟩ := slotH_range (bs n) (k := (m : Int)) (by omega)
  obtain ⟨s, hs⟩ : ∃ s, slotH (bs n) (m : Int) = s := ⟨_, rfl⟩
  rw [hs] at hP gS s0 s1
  clear hs
  have b1 := ((Boxed.new w 3 (.int .i64 (m : Int))).alloc (.cells #[.int .i64 early] 3)).alloc (.cells #[.bool false] 4)
  have b2 := (Boxed.new (w.alloc (.cells #[.int .i64 (m : Int)] 3)) 3 (.int .i64 early)).alloc (.cells #[.bool false] 4)
  have b3 := Boxed.new ((w.alloc (.cells #[.int .i64 (m : Int)] 3)).alloc (.cells #[.int .i64 early] 3)) 4 (.bool false)
  simp only [World.size_alloc] at b2 b3
  have hB0 : Below w.heap.size w (((w.alloc (.cells #[.int .i64 (m : Int)] 3)).alloc (.cells #[.int .i64 early] 3)).alloc (.cells #[.bool false] 4)) := (((Below.refl _ w).alloc (Nat.le_refl _) _).alloc (by simp) _).alloc (by simp; omega) _
  have hd1 : ¬ (m : Int) < 1 := by omega
  have hd2 : ¬ (400 : Int) < m := by omega
  have hd3 : ¬ (400 : Int) < n.size := by omega
  refine (callsIn_wide (n := 19)).1 ?_
  refine callsIn_of_wp_marks Try.func5 rfl trivial ?_ rfl
  simp only [Try.ntmps5, List.size_toArray, List.length_cons, List.length_nil, Nat.reduceAdd, Nat.reduceSub, Array.replicate_succ, Array.replicate_zero, List.push_toArray, List.append_toArray, List.nil_append, List.cons_append]
  refine wpIn_wide.2 ?_
  go_wp2_with fail
  refine (hL.out.go _).mono ?_
  rintro e w1 ⟨rfl, hb1⟩
  have b1 := boxed_below b1 hb1
  have b2 := boxed_below b2 hb1
  have b3 := boxed_below b3 hb1
  have hB1 := Lib.hid (hB0.trans (hb1.mono hB0.size))
  have hz1 : w.heap.size + 3 ≤ w1.heap.size := by have := hb1.size; simp at this; omega
  clear hB0 hb1
  have c1 := b1.cell
  go_wp2_with fail
  refine (hP.out _).mono ?_
  rintro e w2 ⟨v, g, rfl, hv⟩
  obtain ⟨hval, hb2, hge, hlt, p1, p2⟩ := hv
  subst hval
  have hnn := not_nil g
  have b1 := boxed_below b1 hb2
  have b2 := boxed_below b2 hb2
  have b3 := boxed_below b3 hb2
  have hB2 := Lib.hid (hB1.out.trans (hb2.mono hB1.out.size))
  have hz2 : w.heap.size + 3 ≤ w2.heap.size := by have := hb2.size; omega
  clear hb2 c1
  have c1 := b1.cell
  obtain ⟨C, hC, hmk⟩ := make_bools w2 m h2
  have HC := Lib.hid hC
  clear hC
  go_wp2
  have hf0 := HC.out
  obtain ⟨G, hG⟩ : ∃ G, w2.heap.size = G := ⟨_, rfl⟩
  obtain ⟨W0, hW0⟩ : ∃ W0, ((((w2.alloc (.cells C 4)).alloc (.cells #[.slice (some ⟨w2.heap.size, 0, none⟩) m m] 36)).alloc (.cells #[.int .i64 (-1)] 3)).alloc (.cells #[.int .i64 0] 3)).alloc (.cells #[.int .i64 (-1)] 3) = W0 := ⟨_, rfl⟩
  have hzW : W0.heap.size = G + 5 := by rw [← hW0, ← hG]; simp
  have hI0 : PI w G g m s early [] (T1 G) W0 := by
    have r := Boxed.new (w2.alloc (.cells C 4)) 36 (.slice (some ⟨w2.heap.size, 0, none⟩) m m)
    have f1 := Boxed.new ((w2.alloc (.cells C 4)).alloc (.cells #[.slice (some ⟨w2.heap.size, 0, none⟩) m m] 36)) 3 (.int .i64 (-1))
    have f2 := Boxed.new (((w2.alloc (.cells C 4)).alloc (.cells #[.slice (some ⟨w2.heap.size, 0, none⟩) m m] 36)).alloc (.cells #[.int .i64 (-1)] 3)) 3 (.int .i64 0)
    have f3 := Boxed.new ((((w2.alloc (.cells C 4)).alloc (.cells #[.slice (some ⟨w2.heap.size, 0, none⟩) m m] 36)).alloc (.cells #[.int .i64 (-1)] 3)).alloc (.cells #[.int .i64 0] 3)) 3 (.int .i64 (-1))
    have up : ∀ k o, w2.heap[k]? = some o → W0.heap[k]? = some o := fun k o h => by
      have hk := (Array.getElem?_eq_some_iff.1 h).1
      have hb : Below w2.heap.size w2 W0 := by rw [← hW0]; exact ((((((Below.refl _ w2).alloc (Nat.le_refl _) _).alloc (by simp) _).alloc (by simp; omega) _).alloc (by simp; omega) _).alloc (by simp; omega) _)
      exact (hb.block k hk).trans h
    simp only [World.size_alloc, Nat.add_assoc, Nat.reduceAdd] at r f1 f2 f3
    have hlw := b1.lt
    refine ⟨rfl, List.nil_prefix, ⟨C, ?_, by rw [← marks_nil]; exact hf0⟩, ?_, ?_, ?_, ?_, ?_⟩
    · rw [← hW0, ← hG]
      exact (Below.heap_alloc _ _ _ (by simp; omega)).trans ((Below.heap_alloc _ _ _ (by simp; omega)).trans ((Below.heap_alloc _ _ _ (by simp; omega)).trans ((Below.heap_alloc _ _ _ (by simp)).trans (World.alloc_heap_new w2 _))))
    · rw [← hW0, ← hG]; exact (f1.alloc _).alloc _
    · rw [← hW0, ← hG]; exact f2.alloc _
    · rw [← hW0, ← hG]; exact f3
    · intro p hp
      simp only [E1, List.mem_cons, List.not_mem_nil, or_false] at hp
      rcases hp with rfl | rfl | rfl | rfl | rfl | rfl
      · exact ⟨up _ _ b1, by unfold T1; omega⟩
      · exact ⟨up _ _ b2, by unfold T1; omega⟩
      · exact ⟨up _ _ b3, by unfold T1; omega⟩
      · refine ⟨?_, by unfold T1; omega⟩
        rw [← hW0, ← hG]; exact ((r.alloc _).alloc _).alloc _
      · exact ⟨up _ _ p1, by unfold T1; omega⟩
      · exact ⟨up _ _ p2, by unfold T1; omega⟩
    · rw [← hW0]
      exact ((((hB2.out.alloc (by omega) _).alloc (by simp; omega) _).alloc (by simp; omega) _).alloc (by simp; omega) _).alloc (by simp; omega) _
  rw [hW0, hG]
  have hge2 : w.heap.size + 3 ≤ g := by omega
  have hgG : g + 1 < G := by omega
  have hwG : w.heap.size ≤ G := by omega
  have q1 : Boxed W0 g 3 (.int .i64 s) := (hI0.has (g, .cells #[.int .i64 s] 3) (by simp [E1])).1
  have q2 : Boxed W0 (g + 1) 3 (.int .i64 (m : Int)) := (hI0.has (g + 1, .cells #[.int .i64 (m : Int)] 3) (by simp [E1])).1
  clear hW0 hmk hf0 HC c1 b1 b2 b3 p1 p2 hnn hB1 hB2
  clear hG
  refine (wpIn_wide (n := 18)).1 ?_
  refine range_own1 rfl (by decide) (gf := 31) (bd := #[]) (lb := #[.pointer (some ⟨g, 0, none⟩), .pointer (some ⟨g + 1, 0, none⟩)]) rfl trivial (enters_of Try.func31 (by kernel_rfl) rfl)
    (round_seq _ g (by decide) s m W0 s0 (by omega) (by omega) (by omega) q1 q2) (Below.refl _ _) (fun b h => by rcases h with rfl | rfl <;> omega) (fun _ => rfl)
    (PI w G g m s early) (fun _ _ _ => False) (pi_own hwG hgG hge2 _ (by omega)) (fun _ _ _ _ _ h _ _ => h) (fun _ e => by cases e) (fun _ _ _ h => h.fresh)
    (T1 G) (fun b h => by unfold T1; rcases h with rfl | rfl <;> omega) hI0 ?a1 ?assign ?body ?done ?stop
  case assign =>
    intro l2 x W' K hK
    gi_wp2
    exact hK
  case stop => exact fun _ _ _ _ _ _ h _ => h.elim
  case body =>
    rintro l2 pre x T W _ _ hI hlt
    obtain ⟨hk, hx, hpre⟩ := rnd_next s0 s1 hlt
    obtain rfl := hI.eT
    obtain ⟨xn, rfl⟩ : ∃ xn : Nat, x = xn := ⟨x.toNat, by have := Int.emod_nonneg (s + (pre.length : Int)) (show (m : Int) ≠ 0 by omega); omega⟩
    have hxm : xn < m := by have := Int.emod_lt_of_pos (s + (pre.length : Int)) (show (0 : Int) < m by omega); omega
    have hnew := rnd_new s0 hlt
    have hkm : pre.length < m := by omega
    obtain ⟨C, hC, hCm⟩ := hI.row
    have hcx : W.cell? ⟨G, xn, none⟩ = some (.bool false) := by
      have h := cell_of_row W G xn C _ (0, 0) hC
      rw [h, ← Array.getElem?_toList, hCm, marks_at hxm, decide_eq_false hnew]
    have c1 := (show Boxed W w.heap.size 3 (.int .i64 (m : Int)) from (hI.has (w.heap.size, .cells #[.int .i64 (m : Int)] 3) (by simp [E1])).1).cell
    have c8 := (show Boxed W (G + 1) 36 (.slice (some ⟨G, 0, none⟩) m m) from (hI.has (G + 1, .cells #[.slice (some ⟨G, 0, none⟩) m m] 36) (by simp [E1])).1).cell
    have c10 := hI.cnt.cell
    have f10 := hI.cnt.frozen
    have c11 := hI.lst.cell
    have f11 := hI.lst.frozen
    have c9 := hI.fst.cell
    have f9 := hI.fst.frozen
    have fx : W.frozen? ⟨G, xn, none⟩ = false := frozen_of_row W G xn C _ hC
    have d2 : ¬ (m : Int) ≤ xn := by omega
    have d2' : (xn : Int) < m := by omega
    have HI := Lib.hid hI
    have HPS := Lib.hid (fun W1 => hI.step hwG hxm hlt hx W1)
    obtain ⟨kk, hkk⟩ : ∃ kk, kk = pre.length := ⟨_, rfl⟩
    rcases Nat.eq_zero_or_pos kk with h0 | h0
    · have hk0 : pre.length = 0 := by omega
      have hxs : (xn : Int) = s := by rw [hx, hk0, Int.natCast_zero, Int.add_zero, Int.emod_eq_of_lt s0 s1]
      have hps := HPS.out _ (.inl ⟨hk0, hxs, rfl⟩)
      rw [hk0, Int.natCast_zero, Int.zero_add] at hps
      have HPS2 := Lib.hid hps
      rw [hk0, Int.natCast_zero] at c10
      clear hI hlt hx hnew hC hCm hpre HPS hkk hk0 hxs h0 hps
      gi_wp2
      exact ⟨T1 G, HPS2.out.2, HPS2.out.1⟩
    · have hk0 : pre.length ≠ 0 := by omega
      have HPS2 := Lib.hid (HPS.out _ (.inr ⟨hk0, rfl⟩))
      have e : lstP s m pre.length = (s + ((pre.length - 1 : Nat) : Int)) % m := if_neg hk0
      obtain ⟨la, hla⟩ : ∃ la, lstP s m pre.length = la := ⟨_, rfl⟩
      have la0 : 0 ≤ la := by rw [← hla, e]; exact Int.emod_nonneg _ (by omega)
      have la1 : la < m := by rw [← hla, e]; exact Int.emod_lt_of_pos _ (by omega)
      have hmod : (la + 1) % (m : Int) = xn := by
        rw [← hla, e, Int.emod_add_emod, hx]
        congr 1
        omega
      rw [hla] at c11
      have hm1 : ((xn : Int) != (la + 1) % (m : Int)) = false := by rw [hmod]; simp
      have hm2 : ((xn : Int) != (la + 1).tmod (m : Int)) = false := by rw [Int.tmod_eq_emod_of_nonneg (by omega), hmod]; simp
      have hm0 : ¬ (m : Int) = 0 := by omega
      have hn0 : 0 < pre.length := by omega
      have hk400 : pre.length < 400 := by omega
      have hi0 : (0 : Int) < pre.length := by omega
      have hz0 : ((pre.length : Int) == 0) = false := by rw [beq_eq_false_iff_ne]; omega
      clear hI hlt hx hnew hC hCm hpre HPS hk0 e hla hmod h0
      obtain ⟨q, hq⟩ : ∃ q, pre.length = q := ⟨_, rfl⟩
      rw [hq] at c10 hn0 hk400 hi0 hz0 HPS2
      clear hq hkk hk hkm
      gi_wp2
      exact ⟨T1 G, HPS2.out.2, HPS2.out.1⟩
  case done =>
    rintro D xs T W hD hnD rfl hI hK
    obtain rfl := hI.eT
    have hlen : (rnd s (m : Int)).length = m := by rw [rnd_len s0 (by omega)]; omega
    have e1 : Boxed W w.heap.size 3 (.int .i64 (m : Int)) := (hI.has (w.heap.size, .cells #[.int .i64 (m : Int)] 3) (by simp [E1])).1
    have e2 : Boxed W (w.heap.size + 1) 3 (.int .i64 early) := (hI.has (w.heap.size + 1, .cells #[.int .i64 early] 3) (by simp [E1])).1
    have e3 : Boxed W (w.heap.size + 2) 4 (.bool false) := (hI.has (w.heap.size + 2, .cells #[.bool false] 4) (by simp [E1])).1
    have e4 : Boxed W g 3 (.int .i64 s) := (hI.has (g, .cells #[.int .i64 s] 3) (by simp [E1])).1
    have e5 : Boxed W (g + 1) 3 (.int .i64 (m : Int)) := (hI.has (g + 1, .cells #[.int .i64 (m : Int)] 3) (by simp [E1])).1
    have e6 := hI.fst
    have e7 := hI.cnt
    rw [hlen] at e6 e7
    have ef : fstP s m = s := if_neg (by omega)
    rw [ef] at e6
    have hbl := hI.bel
    obtain ⟨hp0, hp1⟩ := pick_range (i := early) (n := (m : Int)) (by omega)
    have hP := Lib.hid fun wx => Pick_any early (m : Int) wx (by omega) (by omega)
    obtain ⟨ea, hea⟩ : ∃ ea : Nat, pick early (m : Int) = (ea : Int) := ⟨_, (Int.toNat_of_nonneg hp0).symm⟩
    rw [hea] at hP hp1
    have hea1 : ea < m := by omega
    clear hea hp0 hp1 ef hlen hI
    have c4 := e1.cell
    have c5 := e2.cell
    have f5 := e2.frozen
    go_wp2_with fail
    refine (hP.out _).mono ?_
    rintro e wz ⟨rfl, rfl⟩
    go_wp2
    have hKl := (Array.getElem?_eq_some_iff.1 hK).1
    have hD5 : G + 5 ≤ D := by omega
    obtain ⟨KB, hKB⟩ : ∃ KB, W.heap.size = KB := ⟨_, rfl⟩
    obtain ⟨V0, hV0⟩ : ∃ V0, (W.setCell ⟨w.heap.size + 1, 0, none⟩ (.int .i64 (ea : Int))).alloc (.cells #[.int .i64 0] 3) = V0 := ⟨_, rfl⟩
    have hszc : (W.setCell ⟨w.heap.size + 1, 0, none⟩ (.int .i64 (ea : Int))).heap.size = KB := by rw [← hKB]; simp [World.setCell]
    have hzV : V0.heap.size = KB + 1 := by rw [← hV0, World.size_alloc, hszc]
    have hKB2 : V0.heap.size = KB + 1 ∧ D < KB ∧ G + 5 ≤ KB := ⟨hzV, by omega, by omega⟩
    have old : ∀ k o, k ≠ w.heap.size + 1 → W.heap[k]? = some o → V0.heap[k]? = some o := fun k o hk h => by
      rw [← hV0]
      exact (Below.heap_alloc _ _ _ (by rw [hszc, ← hKB]; exact (Array.getElem?_eq_some_iff.1 h).1)).trans ((Below.heap_setCell W ⟨w.heap.size + 1, 0, none⟩ _ k hk).trans h)
    have r1 : Boxed V0 (w.heap.size + 1) 3 (.int .i64 (ea : Int)) := by rw [← hV0]; exact (e2.set _).alloc _
    have r2 : Boxed V0 KB 3 (.int .i64 0) := by
      rw [← hV0, ← hszc]
      exact Boxed.new _ _ _
    have hbV : Below w.heap.size w V0 := by rw [← hV0]; exact (hbl.setCell (p := ⟨w.heap.size + 1, 0, none⟩) (by simp) _).alloc (by rw [hszc]; omega) _
    obtain ⟨E2, hE2⟩ : ∃ E2 : List (Nat × Obj), E2 = [(w.heap.size, .cells #[.int .i64 (m : Int)] 3), (w.heap.size + 1, .cells #[.int .i64 (ea : Int)] 3), (w.heap.size + 2, .cells #[.bool false] 4), (G + 2, .cells #[.int .i64 s] 3), (G + 3, .cells #[.int .i64 (m : Int)] 3), (g, .cells #[.int .i64 s] 3), (g + 1, .cells #[.int .i64 (m : Int)] 3), (D, .deferred (some []))] := ⟨_, rfl⟩
    have hlt2 : ∀ p ∈ E2, p.1 < KB := by
      intro p hp
      simp only [hE2, List.mem_cons, List.not_mem_nil, or_false] at hp
      rcases hp with rfl | rfl | rfl | rfl | rfl | rfl | rfl | rfl <;> dsimp only <;> omega
    have hH2 : Has E2 (fun b => b = KB) V0 := by
      intro p hp
      refine ⟨?_, fun h => by have := hlt2 p hp; omega⟩
      simp only [hE2, List.mem_cons, List.not_mem_nil, or_false] at hp
      rcases hp with rfl | rfl | rfl | rfl | rfl | rfl | rfl | rfl
      · exact old _ _ (by omega) e1
      · exact r1
      · exact old _ _ (by omega) e3
      · exact old _ _ (by omega) e6
      · exact old _ _ (by omega) e7
      · exact old _ _ (by omega) e4
      · exact old _ _ (by omega) e5
      · exact old _ _ (by omega) hK
    have q1 : Boxed V0 g 3 (.int .i64 s) := old _ _ (by omega) e4
    have q2 : Boxed V0 (g + 1) 3 (.int .i64 (m : Int)) := old _ _ (by omega) e5
    rw [hV0]
    simp only [hKB]
    clear old hV0 hszc hKB e1 e2 e3 e4 e5 e6 e7 c4 c5 f5 r1 hbl hK hKl
    refine (wpIn_wide (n := 18)).1 ?_
    refine range_own1 rfl (by decide) (gf := 31) (bd := #[]) (lb := #[.pointer (some ⟨g, 0, none⟩), .pointer (some ⟨g + 1, 0, none⟩)]) rfl trivial (enters_of Try.func31 (by kernel_rfl) rfl)
      (round_seq _ g (by decide) s m V0 s0 (by omega) (by omega) (by omega) q1 q2) (Below.refl _ _) (fun b h => by rcases h with rfl | rfl <;> omega) (fun _ => rfl)
      (fun pre T W' => T = (fun b => b = KB) ∧ pre.length ≤ ea ∧ Boxed W' KB 3 (.int .i64 (pre.length : Int)) ∧ Has E2 (fun b => b = KB) W' ∧ Below w.heap.size w W')
      (fun c pre W' => c = .exit 2 ∧ Boxed W' KB 3 (.int .i64 (ea : Int)) ∧ (∀ p ∈ E2, W'.heap[p.1]? = some p.2) ∧ Below w.heap.size w W') ?hI ?hIx (fun _ e => by cases e) ?hfresh
      (fun b => b = KB) (fun b h => by rcases h with rfl | rfl <;> omega) ⟨rfl, Nat.zero_le _, r2, hH2, hbV⟩ ?a2 ?assign ?body ?done ?stop
    case assign =>
      intro l2 x W' K hK
      gi_wp2
      exact hK
    case hI =>
      rintro T' pre X Y row ⟨h1, h2, h3, h4, h5⟩ hg hr
      exact ⟨h1, h2, h3.kept hg fun e => by have := (hr _ e.symm).1; omega, has_own (β := Unit) _ (fun p hp => by have := hlt2 p hp; omega) () X Y row h4 hg hr, ownFrom_below (β := Unit) (Nat.le_refl _) (show w.heap.size ≤ V0.heap.size by omega) () X Y row h5 hg hr⟩
    case hIx =>
      rintro c pre X Y row ⟨h1, h3, h4, h5⟩ hg hr
      refine ⟨h1, h3.kept hg fun e => by have := (hr _ e.symm).1; omega, fun p hp => ?_, ownFrom_below (β := Unit) (Nat.le_refl _) (show w.heap.size ≤ V0.heap.size by omega) () X Y row h5 hg hr⟩
      exact (hg.block p.1 (Array.getElem?_eq_some_iff.1 (h4 p hp)).1 fun e => by have := (hr p.1 e.symm).1; have := hlt2 p hp; omega).trans (h4 p hp)
    case hfresh =>
      rintro pre T' W' ⟨rfl, _, h3, _, _⟩ b hb h
      have := h3.lt
      omega
    case done =>
      rintro D2 xs T' W' _ _ rfl ⟨_, h2, _⟩ _
      rw [rnd_len s0 (by omega)] at h2
      omega
    case body =>
      rintro l2 pre x T' W' _ _ ⟨rfl, h2, h3, h4, h5⟩ hlt
      obtain ⟨hk, hx, hpre⟩ := rnd_next s0 s1 hlt
      have mem : ∀ p ∈ E2, W'.heap[p.1]? = some p.2 := fun p hp => (h4 p hp).1
      have c4 := (show Boxed W' w.heap.size 3 (.int .i64 (m : Int)) from mem (w.heap.size, .cells #[.int .i64 (m : Int)] 3) (by simp [hE2])).cell
      have c5 := (show Boxed W' (w.heap.size + 1) 3 (.int .i64 (ea : Int)) from mem (w.heap.size + 1, .cells #[.int .i64 (ea : Int)] 3) (by simp [hE2])).cell
      have c9 := (show Boxed W' (G + 2) 3 (.int .i64 s) from mem (G + 2, .cells #[.int .i64 s] 3) (by simp [hE2])).cell
      have c13 := h3.cell
      have f13 := h3.frozen
      have hm0 : ¬ (m : Int) = 0 := by omega
      have hm1 : (x != (s + (pre.length : Int)) % (m : Int)) = false := by rw [hx]; simp
      have hm2 : (x != (s + (pre.length : Int)).tmod (m : Int)) = false := by rw [Int.tmod_eq_emod_of_nonneg (by omega), hx]; simp
      have hsum : s + (pre.length : Int) ≤ 1000 := by omega
      have hsum0 : 0 ≤ s + (pre.length : Int) := by omega
      have hlen : (pre ++ [x]).length = pre.length + 1 := by simp
      have H3 := Lib.hid h3
      have H4 := Lib.hid h4
      have H5 := Lib.hid h5
      have HL := Lib.hid hlen
      obtain ⟨q, hq⟩ : ∃ q, pre.length = q := ⟨_, rfl⟩
      rw [hq] at c13 hm1 hm2 hsum hsum0 h2 H3 HL hk
      by_cases hqe : q = ea
      · subst hqe
        have hz : ((q : Int) == (q : Int)) = true := by simp
        clear hx hpre hlt hlen h3 h4 h5 mem hq
        gi_wp2
        exact ⟨fun b => b = KB, Kpt.refl _ _, rfl, H3.out, fun p hp => (H4.out p hp).1, H5.out⟩
      · have hz : ((q : Int) == (ea : Int)) = false := by rw [beq_eq_false_iff_ne]; omega
        clear hx hpre hlt hlen h3 h4 h5 mem hq
        gi_wp2
        refine ⟨fun b => b = KB, Kpt.setCell (T := fun b => b = KB) (p := ⟨KB, 0, none⟩) rfl _, rfl, by rw [HL.out]; omega, ?_, H4.out.kept (Kpt.setCell (T := fun b => b = KB) (p := ⟨KB, 0, none⟩) rfl _), H5.out.setCell (p := ⟨KB, 0, none⟩) (by simp; omega) _⟩
        rw [HL.out, Int.natCast_add, Int.natCast_one]
        exact H3.out.set _
    case stop =>
      rintro D2 c pre W' hD2 _ ⟨rfl, h3, h4, h5⟩ hK2
      have e1 : Boxed W' w.heap.size 3 (.int .i64 (m : Int)) := h4 (w.heap.size, .cells #[.int .i64 (m : Int)] 3) (by simp [hE2])
      have e2 : Boxed W' (w.heap.size + 1) 3 (.int .i64 (ea : Int)) := h4 (w.heap.size + 1, .cells #[.int .i64 (ea : Int)] 3) (by simp [hE2])
      have e3 : Boxed W' (w.heap.size + 2) 4 (.bool false) := h4 (w.heap.size + 2, .cells #[.bool false] 4) (by simp [hE2])
      have e6 : Boxed W' (G + 2) 3 (.int .i64 s) := h4 (G + 2, .cells #[.int .i64 s] 3) (by simp [hE2])
      have e7 : Boxed W' (G + 3) 3 (.int .i64 (m : Int)) := h4 (G + 3, .cells #[.int .i64 (m : Int)] 3) (by simp [hE2])
      have hK1 : W'.heap[D]? = some (.deferred (some [])) := h4 (D, .deferred (some [])) (by simp [hE2])
      clear h4 hE2 hH2 hlt2
      refine (wpIn_wide (n := 18)).2 ?_
      go_wp2_with fail
      have f3 := e3.frozen
      have hmm : ((m : Int) == (m : Int)) = true := by simp
      have hss : (s == s) = true := by simp
      have hee : ((ea : Int) == (ea : Int)) = true := by simp
      refine region_at (by kernel_rfl) ?_
      obtain ⟨Ix, f, i0, hf0, hCn', hstep'⟩ := cls_of W'
      have HCn := Lib.hid hCn'
      have Hstep := Lib.hid hstep'
      clear hCn' hstep'
      haveI : Nonempty Ix := ⟨i0⟩
      have k1 : ∀ i, (f i).cell? ⟨w.heap.size, 0, none⟩ = some (.int .i64 (m : Int)) := fun i => (boxed_below e1 (HCn.out i)).cell
      have k2 : ∀ i, (f i).cell? ⟨w.heap.size + 1, 0, none⟩ = some (.int .i64 (ea : Int)) := fun i => (boxed_below e2 (HCn.out i)).cell
      have k6 : ∀ i, (f i).cell? ⟨G + 2, 0, none⟩ = some (.int .i64 s) := fun i => (boxed_below e6 (HCn.out i)).cell
      have k7 : ∀ i, (f i).cell? ⟨G + 3, 0, none⟩ = some (.int .i64 (m : Int)) := fun i => (boxed_below e7 (HCn.out i)).cell
      have k8 : ∀ i, (f i).cell? ⟨KB, 0, none⟩ = some (.int .i64 (ea : Int)) := fun i => (boxed_below h3 (HCn.out i)).cell
      have Vs := Lib.hid (fun i => cls_go gS.out Hstep.out i)
      refine at_seg (fun w' => ∃ n, w' = f n) 0 15 _ rfl (by decide) (by decide) (by as_aux_lemma => kernel_rfl) (by as_aux_lemma => kernel_rfl) (fun _ => by as_aux_lemma => kernel_rfl) (by as_aux_lemma => kernel_rfl) ⟨i0, hf0⟩ ?_
      clear hf0
      change wpQuiet _ _ _ _ [_, _, _, _, _, _, _, _, _, _, _, _, _, _, _] _
      repeat (go_big_quiet_step (with_reducible exact Vs.out _))
      refine wpQuiet_nil ?_
      intro _ hw'
      obtain ⟨nE, hw''⟩ := hw'
      subst hw''
      have hbE := HCn.out nE
      have x3 := boxed_below e3 hbE
      have xK1 := below_defer hbE hK1
      have xK2 := below_defer hbE hK2
      have xB := Lib.hid (next h5 hbE)
      have c3 := x3.cell
      have f3' := x3.frozen
      clear k1 k2 k6 k7 k8 Vs HCn Hstep hbE
      obtain ⟨wE, hwE⟩ : ∃ wE, f nE = wE := ⟨_, rfl⟩
      rw [hwE] at x3 xK1 xK2 xB c3 f3' ⊢
      refine at_one 15 _ rfl (by as_aux_lemma => kernel_rfl) (by as_aux_lemma => kernel_rfl) ?_
      intro K hK'
      go_wp2_with fail
      refine at_end ?_
      go_wp2
      have hne1 : D ≠ w.heap.size + 2 := by omega
      have hne2 : D2 ≠ w.heap.size + 2 := by omega
      have hne3 : D ≠ D2 := by omega
      have y2 : (wE.setCell ⟨w.heap.size + 2, 0, none⟩ (.bool true)).heap[D2]? = some (.deferred (some [])) := (Below.heap_setCell wE ⟨w.heap.size + 2, 0, none⟩ _ D2 hne2).trans xK2
      have y1 : ((wE.setCell ⟨w.heap.size + 2, 0, none⟩ (.bool true)).putObj D2 (.deferred none)).heap[D]? = some (.deferred (some [])) := (World.putObj_heap_other hne3).trans ((Below.heap_setCell wE ⟨w.heap.size + 2, 0, none⟩ _ D hne1).trans xK1)
      have y3 : Boxed (((wE.setCell ⟨w.heap.size + 2, 0, none⟩ (.bool true)).putObj D2 (.deferred none)).putObj D (.deferred none)) (w.heap.size + 2) 4 (.bool true) := (World.putObj_heap_other (Ne.symm hne1)).trans ((World.putObj_heap_other (Ne.symm hne2)).trans (x3.set (.bool true)))
      have hbf : Below w.heap.size w (((wE.setCell ⟨w.heap.size + 2, 0, none⟩ (.bool true)).putObj D2 (.deferred none)).putObj D (.deferred none)) := by
        have z1 := xB.out.setCell (p := ⟨w.heap.size + 2, 0, none⟩) (by simp) (.bool true)
        have z2 := z1.trans (belowK_b (w := w) (Nat.le_refl _) _ D2 _ (.deferred none) (by omega) y2 rfl rfl)
        exact z2.trans (belowK_b (w := w) (Nat.le_refl _) _ D _ (.deferred none) (by omega) y1 rfl rfl)
      have cz := y3.cell
      refine ⟨by simp, .inl ⟨_, _, rfl, run_takeDeferred y2, ?_⟩⟩
      refine ⟨by simp, .inl ⟨_, _, rfl, run_takeDeferred y1, ?_⟩⟩
      refine ⟨.bool true, ?_, rfl, hbf⟩
      simp [results, Try.f5, go_sem, cz]

set_option maxHeartbeats 1000000 in
theorem hprobes_out (n : ByteArray) (k early : Int) (w : World) (hn : n.size ≤ maxLen) (h : 400 < n.size ∨ n.size ≤ 400 ∧ (k < 1 ∨ 1 ≤ k ∧ 400 < k)) :
    Calls Try.prog 5 #[.string n, .int .i64 k, .int .i64 early] w fun e w' => e = .returned (.bool true) ∧ Below w.heap.size w w' := by
  have hL := Lib.hid lives13
  have b1 := ((Boxed.new w 3 (.int .i64 k)).alloc (.cells #[.int .i64 early] 3)).alloc (.cells #[.bool false] 4)
  have b3 := Boxed.new ((w.alloc (.cells #[.int .i64 k] 3)).alloc (.cells #[.int .i64 early] 3)) 4 (.bool false)
  simp only [World.size_alloc] at b3
  have hB0 : Below w.heap.size w (((w.alloc (.cells #[.int .i64 k] 3)).alloc (.cells #[.int .i64 early] 3)).alloc (.cells #[.bool false] 4)) := (((Below.refl _ w).alloc (Nat.le_refl _) _).alloc (by simp) _).alloc (by simp; omega) _
  unfold maxLen at hn
  rcases h with h | ⟨h1, h | ⟨h2, h⟩⟩
  all_goals
    go_enter Try.func5, Try.ntmps5
    go_wp2_with fail
    refine (hL.out.go _).mono ?_
    rintro e w1 ⟨rfl, hb1⟩
    have b1 := boxed_below b1 hb1
    have b3 := boxed_below b3 hb1
    have hB1 := Lib.hid (hB0.trans (hb1.mono hB0.size))
    clear hb1
    have c1 := b1.cell
    have c3 := b3.cell
    have f3 := b3.frozen
    go_wp2
    have c4 := (b3.set (.bool true)).cell
    refine bodyPost_ret (v := .bool true) (by simp [results, Try.f5, go_sem, c4]) rfl ?_
    exact ⟨rfl, hB1.out.setCell (p := ⟨w.heap.size + 1 + 1, 0, none⟩) (by simp; omega) _⟩

theorem HashProbes_w0 (n : ByteArray) (k early : Int) (hn : n.size ≤ maxLen) (w : World) :
    Calls Try.prog 5 #[.string n, .int .i64 k, .int .i64 early] w fun e w' => e = .returned (.bool true) ∧ Below w.heap.size w w' := by
  by_cases h1 : n.size ≤ 400
  · by_cases h2 : k < 1
    · exact hprobes_out n k early w hn (.inr ⟨h1, .inl h2⟩)
    · by_cases h3 : 400 < k
      · exact hprobes_out n k early w hn (.inr ⟨h1, .inr ⟨by omega, h3⟩⟩)
      · obtain ⟨m, rfl⟩ : ∃ m : Nat, k = m := ⟨k.toNat, by omega⟩
        exact hprobes_in n m early w h1 (by omega) (by omega)
  · exact hprobes_out n k early w hn (.inl (by omega))
theorem HashProbes_walk (n : ByteArray) (k early : Int) (hn : n.size ≤ maxLen) (_hk : (Lit.int .i64 k).wf = true) (_he : (Lit.int .i64 early).wf = true) (w : World) :
    Calls Try.prog 5 #[.string n, .int .i64 k, .int .i64 early] w fun e w' => e = .returned (.bool true) ∧ Below w.heap.size w w' :=
  HashProbes_w0 n k early hn w
end Go.Proofs.Ytmjhofgcfolelaa
