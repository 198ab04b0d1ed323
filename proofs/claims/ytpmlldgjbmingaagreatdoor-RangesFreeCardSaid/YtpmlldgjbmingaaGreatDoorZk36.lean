/-
  How long the runs are that reserved ranges take of a range: the walk of ranges.runs. Conditions: the laid tables' cells (Ground), the addresses' numbers such as their types bear, at most 1,000,000 ranges.
-/
import Derived.Test.YtpmlldgjbmingaaGreatDoorZk35
namespace Go.Proofs.YtpmlldgjbmingaaGreatDoor
open Go.RowKit Go.Maps
set_option linter.unusedVariables false

theorem MapA.mono {w : World} {b n n' : Nat} {M : Ad → Nat} (h : MapA w b n M) (hn : n ≤ n') : MapA w b n' M := by
  obtain ⟨D, h1, h2⟩ := h
  exact ⟨D, h1.mono hn, h2⟩
theorem MapA.drew {w : World} {b n : Nat} {M : Ad → Nat} (h : MapA w b n M) : MapA w.drew b n M := h.same rfl
theorem MapA.alloc {w : World} {b n : Nat} {M : Ad → Nat} (h : MapA w b n M) (x : Obj) : MapA (w.alloc x) b n M := h.next ((Below.refl _ _).alloc (Nat.le_refl _) x)
theorem Bx.grown {w wr w' : World} {B : List (Nat × TypeId × Array Value)} {b : Nat} (r : Bx w wr B) (hg : wr.grownBy w' (some b)) (hb : w.heap.size ≤ b) (hB : ∀ x ∈ B, x.1 ≠ b) : Bx w w' B :=
  ⟨r.bel.grown hg r.bel.size (fun k hk => by injection hk with hk; omega), fun x hx => (r.all x hx).grown hg (fun e => hB x hx (Option.some.inj e))⟩
theorem Bx.tail {w wr : World} {x : Nat × TypeId × Array Value} {B : List (Nat × TypeId × Array Value)} (r : Bx w wr (x :: B)) : Bx w wr B := ⟨r.bel, fun y hy => r.all y (List.mem_cons_of_mem _ hy)⟩
/-- What runs hands back. -/
def RunsOut (r : Ad) (n : Int) (L : List (Ad × Int)) (w : World) (e : Ending) (w' : World) : Prop := ∃ b, e = .returned (.map (some b)) ∧ w.heap.size ≤ b ∧ MapA w' b L.length (runsR r n L) ∧ Below w.heap.size w w'
/-- The relation of its loop. -/
def RunsRel (six : Bool) (hi lo : Nat) (n : Int) (L : List (Ad × Int)) (w : World) (v12 : Value) (wr : World) : Prop :=
  ∃ k : Nat, v12 = .int .i64 (k : Nat) ∧ k ≤ L.length ∧ MapA wr (w.heap.size + 1) k (runsR (six, hi, lo) n (L.take k)) ∧ Bx w wr [(w.heap.size, 41, #[.bool six, .int .u64 (hi : Int), .int .u64 (lo : Int), .int .i64 n])]
theorem r7_held {w' w0 : World} {g b k : Nat} {M : Ad → Nat} {t : Bool} {nh nl : Nat} {nb : Int} {B : List (Nat × TypeId × Array Value)} (h : Bx w0 w' ((g, 41, #[.bool t, .int .u64 (nh : Int), .int .u64 (nl : Int), .int .i64 nb]) :: B)) (hM : MapA w' b k M) (hf : fitA (t, nh, nl)) :
    (w'.cell? ⟨g, 0, none⟩ = some (.bool t) ∧ w'.cell? ⟨g, 1, none⟩ = some (.int .u64 (nh : Int)) ∧ w'.cell? ⟨g, 2, none⟩ = some (.int .u64 (nl : Int)) ∧ w'.cell? ⟨g, 3, none⟩ = some (.int .i64 nb)) ∧
    (Instr.lookup 100 (.map (some b)) (.agg #[.bool t, .int .u64 (nh : Int), .int .u64 (nl : Int)]) false).run Tryz.prog w' = .ok (.int .i64 ((M (t, nh, nl) : Nat) : Int)) w' :=
  ⟨⟨Lies.cell (h.at List.mem_cons_self) 0, Lies.cell (h.at List.mem_cons_self) 1, Lies.cell (h.at List.mem_cons_self) 2, Lies.cell (h.at List.mem_cons_self) 3⟩, hM.look hf⟩
theorem r7_cells {w' w0 : World} {g : Nat} {t : Bool} {nh nl : Nat} {nb : Int} {B : List (Nat × TypeId × Array Value)} (h : Bx w0 w' ((g, 41, #[.bool t, .int .u64 (nh : Int), .int .u64 (nl : Int), .int .i64 nb]) :: B)) :
    w'.cell? ⟨g, 0, none⟩ = some (.bool t) ∧ w'.cell? ⟨g, 1, none⟩ = some (.int .u64 (nh : Int)) ∧ w'.cell? ⟨g, 2, none⟩ = some (.int .u64 (nl : Int)) ∧ w'.cell? ⟨g, 3, none⟩ = some (.int .i64 nb) :=
  ⟨Lies.cell (h.at List.mem_cons_self) 0, Lies.cell (h.at List.mem_cons_self) 1, Lies.cell (h.at List.mem_cons_self) 2, Lies.cell (h.at List.mem_cons_self) 3⟩
set_option maxHeartbeats 8000000 in
set_option maxRecDepth 100000 in
theorem runs_any (six : Bool) (hi lo : Nat) (n : Int) (v : Value) (L : List (Ad × Int)) (w : World) (hG : Ground w) (hf : fitA (six, hi, lo)) (hrow : RgRow w v L) (hl : L.length ≤ 1000000) :
    Calls Tryz.prog 89 #[.agg #[.bool six, .int .u64 (hi : Int), .int .u64 (lo : Int), .int .i64 n], v] w (RunsOut (six, hi, lo) n L w) := by
  obtain ⟨A, cap, rfl, hlc, hcm, hat⟩ := hrow.shape
  have HAt := Lib.hid hat
  have HFit := Lib.hid hrow.fits
  have HF := Lib.hid hf
  have HG := Lib.hid (fun wx (hb : Below w.heap.size w wx) => hG.next hb)
  unfold maxLen at hcm
  have HR0 : Hid (RunsRel six hi lo n L w (.int .i64 0) ((w.alloc (.cells #[.bool six, .int .u64 (hi : Int), .int .u64 (lo : Int), .int .i64 n] 41)).alloc (.map #[] 0))) := Lib.hid ⟨0, rfl, Nat.zero_le _, by
    have := MapA.new (w.alloc (.cells #[.bool six, .int .u64 (hi : Int), .int .u64 (lo : Int), .int .i64 n] 41))
    rw [show (w.alloc (.cells #[.bool six, .int .u64 (hi : Int), .int .u64 (lo : Int), .int .i64 n] 41)).heap.size = w.heap.size + 1 by simp] at this
    exact this, ((Bx.start w).more 41 #[.bool six, .int .u64 (hi : Int), .int .u64 (lo : Int), .int .i64 n]).alloc _⟩
  clear hat hrow hf hG
  go_enter Tryz.func89, Tryz.ntmps89
  have hmm := @run_makeMap Tryz.prog
  go_wp2
  clear hmm
  go_loopw [12] (fun v12 wr => RunsRel six hi lo n L w v12 wr) (fun v12 _ => L.length - (intOf v12).toNat)
  case atStart => exact HR0.out
  case round =>
    clear HR0
    obtain ⟨k, rfl, hk, hM, hS⟩ := hrel
    have HM := Lib.hid hM
    have HS := Lib.hid hS
    clear hM hS
    rcases Nat.lt_or_ge k L.length with hlt | hge
    · obtain ⟨g, off, rfl, hgw, hcell⟩ := HAt.out k hlt
      obtain ⟨⟨⟨s, ah, al⟩, m⟩, hx⟩ : ∃ x, L[k] = x := ⟨_, rfl⟩
      have hfx : fitA (s, ah, al) := by have := HFit.out L[k] (List.getElem_mem hlt); rw [hx] at this; exact this
      rw [hx] at hcell
      obtain ⟨c0, c1, c2, c3⟩ := hcell.below HS.out.bel hgw
      simp only at c0 c1 c2 c3
      have hsn := runs_snoc (six, hi, lo) n L k hlt
      rw [hx] at hsn
      obtain ⟨M, hMe⟩ : ∃ M, M = runsR (six, hi, lo) n (L.take k) := ⟨_, rfl⟩
      rw [← hMe] at HM hsn
      have hMle : ∀ a, M a ≤ 65536 := by rw [hMe]; exact runsR_le _ _ _ _ (fun _ => by decide)
      have hkI : (k : Int) < (L.length : Int) := by omega
      have hkl : k + 1 ≤ L.length := hlt
      have HMr := HM
      have HSm := Lib.hid (HS.out.more 41 #[.bool s, .int .u64 (ah : Int), .int .u64 (al : Int), .int .i64 m])
      have r0 : (wr.alloc (.cells #[.bool s, .int .u64 (ah : Int), .int .u64 (al : Int), .int .i64 m] 41)).cell? ⟨w.heap.size, 0, none⟩ = some (.bool six) := Lies.cell (HSm.out.at (List.mem_cons_of_mem _ List.mem_cons_self)) 0
      have r1 : (wr.alloc (.cells #[.bool s, .int .u64 (ah : Int), .int .u64 (al : Int), .int .i64 m] 41)).cell? ⟨w.heap.size, 1, none⟩ = some (.int .u64 (hi : Int)) := Lies.cell (HSm.out.at (List.mem_cons_of_mem _ List.mem_cons_self)) 1
      have r2 : (wr.alloc (.cells #[.bool s, .int .u64 (ah : Int), .int .u64 (al : Int), .int .i64 m] 41)).cell? ⟨w.heap.size, 2, none⟩ = some (.int .u64 (lo : Int)) := Lies.cell (HSm.out.at (List.mem_cons_of_mem _ List.mem_cons_self)) 2
      have r3 : (wr.alloc (.cells #[.bool s, .int .u64 (ah : Int), .int .u64 (al : Int), .int .i64 m] 41)).cell? ⟨w.heap.size, 3, none⟩ = some (.int .i64 n) := Lies.cell (HSm.out.at (List.mem_cons_of_mem _ List.mem_cons_self)) 3
      rcases hmt : meetR (six, hi, lo) n (s, ah, al) m with _ | _
      · have HN := Lib.hid (show runsR (six, hi, lo) n (L.take (k + 1)) = M by rw [hsn]; unfold stepR; simp only [hmt, Bool.false_eq_true, if_false])
        have GM := Lib.hid (gMr (n := n) (m := m) HF.out hfx hmt)
        have HKL := Lib.hid hkl
        clear hx hfx hsn hMe hMle hmt hkl hcell
        go_wp2_with fail
        (with_reducible refine (GM.out.go _ (HG.out _ HSm.out.bel)).mono ?_)
        rintro e w1 ⟨rfl, hb⟩
        replace HS := Lib.hid ((HS.out.alloc (.cells #[.bool s, .int .u64 (ah : Int), .int .u64 (al : Int), .int .i64 m] 41)).next hb)
        replace HM := Lib.hid ((HM.out.alloc (.cells #[.bool s, .int .u64 (ah : Int), .int .u64 (al : Int), .int .i64 m] 41)).next hb)
        clear hb
        go_wp2
        go_roundw
        case rel => exact ⟨k + 1, by go_num, HKL.out, by rw [HN.out]; exact HM.out.mono (Nat.le_succ k), HS.out⟩
        case measure => simp [intOf]; omega
      · obtain ⟨⟨⟨t, nh, nl⟩, nb⟩, hN⟩ : ∃ x, x = narR (six, hi, lo) n (s, ah, al) m := ⟨_, rfl⟩
        have hfN : fitA (t, nh, nl) := by have := narR_fit (n := n) (m := m) HF.out hfx; rw [← hN] at this; exact this
        obtain ⟨z, hz⟩ : ∃ z, z = sizeR (t, nh, nl) nb := ⟨_, rfl⟩
        have hzl : z ≤ 65536 := by rw [hz]; exact sizeR_le _ _
        obtain ⟨c, hc⟩ : ∃ c, c = max (M (t, nh, nl)) z := ⟨_, rfl⟩
        have hcl : c ≤ 65536 := by have := hMle (t, nh, nl); omega
        have hcI : max ((M (t, nh, nl) : Nat) : Int) (z : Int) = (c : Int) := by omega
        have HN := Lib.hid (show runsR (six, hi, lo) n (L.take (k + 1)) = updA M (t, nh, nl) c by
          rw [hsn]
          unfold stepR
          simp only [hmt, if_true]
          rw [← hN, hc, hz])
        have GM := Lib.hid (gMr (n := n) (m := m) HF.out hfx hmt)
        have GN : Hid (GG 131 #[.agg #[.bool six, .int .u64 (hi : Int), .int .u64 (lo : Int), .int .i64 n], .agg #[.bool s, .int .u64 (ah : Int), .int .u64 (al : Int), .int .i64 m]] (.agg #[.bool t, .int .u64 (nh : Int), .int .u64 (nl : Int), .int .i64 nb])) := Lib.hid fun wx _ => by
          have := narrower_any six hi lo n s ah al m wx
          rw [← hN] at this
          exact this
        have GS := Lib.hid (gSr (n := nb) (z := z) hfN hz.symm)
        have HKL := Lib.hid hkl
        have hkm : k < maxLen := by unfold maxLen; omega
        have HKM := Lib.hid hkm
        have HFN := Lib.hid hfN
        have HCL := Lib.hid hcl
        obtain ⟨e0, hE0⟩ : ∃ e0, e0 = M (t, nh, nl) := ⟨_, rfl⟩
        have HE0 := Lib.hid hE0
        rw [← hE0] at hcI
        clear hx hfx hsn hMe hMle hmt hkl hcell hN hfN hz hzl hc hcl hkm hE0
        go_wp2_with fail
        (with_reducible refine (GM.out.go _ (HG.out _ HSm.out.bel)).mono ?_)
        rintro e w1 ⟨rfl, hb⟩
        replace HS := Lib.hid (HSm.out.next hb)
        replace HM := Lib.hid ((HM.out.alloc (.cells #[.bool s, .int .u64 (ah : Int), .int .u64 (al : Int), .int .i64 m] 41)).next hb)
        clear hb c0 c1 c2 c3 r0 r1 r2 r3
        have r0 : w1.cell? ⟨w.heap.size, 0, none⟩ = some (.bool six) := Lies.cell (HS.out.at (List.mem_cons_of_mem _ List.mem_cons_self)) 0
        have r1 : w1.cell? ⟨w.heap.size, 1, none⟩ = some (.int .u64 (hi : Int)) := Lies.cell (HS.out.at (List.mem_cons_of_mem _ List.mem_cons_self)) 1
        have r2 : w1.cell? ⟨w.heap.size, 2, none⟩ = some (.int .u64 (lo : Int)) := Lies.cell (HS.out.at (List.mem_cons_of_mem _ List.mem_cons_self)) 2
        have r3 : w1.cell? ⟨w.heap.size, 3, none⟩ = some (.int .i64 n) := Lies.cell (HS.out.at (List.mem_cons_of_mem _ List.mem_cons_self)) 3
        have x0 : w1.cell? ⟨wr.heap.size, 0, none⟩ = some (.bool s) := Lies.cell (HS.out.at List.mem_cons_self) 0
        have x1 : w1.cell? ⟨wr.heap.size, 1, none⟩ = some (.int .u64 (ah : Int)) := Lies.cell (HS.out.at List.mem_cons_self) 1
        have x2 : w1.cell? ⟨wr.heap.size, 2, none⟩ = some (.int .u64 (al : Int)) := Lies.cell (HS.out.at List.mem_cons_self) 2
        have x3 : w1.cell? ⟨wr.heap.size, 3, none⟩ = some (.int .i64 m) := Lies.cell (HS.out.at List.mem_cons_self) 3
        have HMo := HM
        go_wp2_with fail
        (with_reducible refine (GN.out.go _ (HG.out _ HS.out.bel)).mono ?_)
        rintro e w3 ⟨rfl, hb⟩
        replace HS := Lib.hid ((HS.out.next hb).more 41 #[.bool t, .int .u64 (nh : Int), .int .u64 (nl : Int), .int .i64 nb])
        replace HM := Lib.hid ((HM.out.next hb).alloc (.cells #[.bool t, .int .u64 (nh : Int), .int .u64 (nl : Int), .int .i64 nb] 41))
        have hwb : w.heap.size + 1 < w3.heap.size := Nat.lt_of_lt_of_le (MapA.lt HMo.out) hb.size
        have hwx : w.heap.size + 1 < wr.heap.size := HMr.out.lt
        have HBn := Lib.hid (fun (x : Nat × TypeId × Array Value) (hx : x ∈ [(w3.heap.size, 41, #[.bool t, .int .u64 (nh : Int), .int .u64 (nl : Int), .int .i64 nb]), (wr.heap.size, 41, #[.bool s, .int .u64 (ah : Int), .int .u64 (al : Int), .int .i64 m]), (w.heap.size, 41, #[.bool six, .int .u64 (hi : Int), .int .u64 (lo : Int), .int .i64 n])]) => (show x.1 ≠ w.heap.size + 1 by
          simp only [List.mem_cons, List.not_mem_nil, or_false] at hx
          rcases hx with rfl | rfl | rfl
          all_goals (simp only; omega)))
        clear hwb hwx
        clear hb r0 r1 r2 r3 x0 x1 x2 x3
        go_upto_region 7 with (fail)
        obtain ⟨w4, hw4⟩ : ∃ w4, w4 = w3.alloc (.cells #[.bool t, .int .u64 (nh : Int), .int .u64 (nl : Int), .int .i64 nb] 41) := ⟨_, rfl⟩
        rw [← hw4] at HS HM ⊢
        clear hw4
        have look4 := (r7_held HS.out.drew HM.out.drew HFN.out).2
        rw [← HE0.out] at look4
        go_region_held3 (fun w' => (w'.cell? ⟨w3.heap.size, 0, none⟩ = some (.bool t) ∧ w'.cell? ⟨w3.heap.size, 1, none⟩ = some (.int .u64 (nh : Int)) ∧ w'.cell? ⟨w3.heap.size, 2, none⟩ = some (.int .u64 (nl : Int)) ∧ w'.cell? ⟨w3.heap.size, 3, none⟩ = some (.int .i64 nb))) (first | with_reducible exact (r7_held HS.out HM.out HFN.out).1 | with_reducible exact (r7_held HS.out.drew HM.out.drew HFN.out).1 | with_reducible exact (r7_cells (HS.out.grown HG6.out (Nat.le_succ _) HBn.out)) | go_keep) (first | (go_at_call 32; (with_reducible refine (GS.out.go _ (HG.out _ HS.out.drew.bel)).mono ?_); rintro e w5 ⟨rfl, hb⟩; replace HS := Lib.hid (HS.out.drew.next hb); replace HM := Lib.hid (HM.out.drew.next hb); clear hb; have look5 := (r7_held HS.out HM.out HFN.out).2; rw [← HE0.out] at look5; obtain ⟨w6, hr6, hM6, hg6⟩ := HM.out.put HKM.out HFN.out HCL.out; have HM6 := Lib.hid hM6; have HG6 := Lib.hid hg6; clear hM6 hg6) | fail)
        all_goals
          clear look4 look5 hr6
          go_wp2
          go_roundw
          case rel => exact ⟨k + 1, by go_num, HKL.out, by rw [HN.out]; exact HM6.out, (HS.out.grown HG6.out (Nat.le_succ _) HBn.out).tail.tail⟩
          case measure => simp [intOf]; omega
    · obtain rfl : k = L.length := by omega
      have HN := Lib.hid (show runsR (six, hi, lo) n (L.take L.length) = runsR (six, hi, lo) n L by rw [List.take_of_length_le (Nat.le_refl _)])
      go_wp2
      go_ret
      exact ⟨_, rfl, Nat.le_succ _, by rw [← HN.out]; exact HM.out, HS.out.bel⟩
end Go.Proofs.YtpmlldgjbmingaaGreatDoor
