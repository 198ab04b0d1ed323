/-
  Ranges' texts: the walks of ranges.Read, ranges.Text. Conditions: the laid tables' cells and errors (Ground), texts of at most 900,000 octets, the addresses' numbers such as their types bear. Ranges' texts: the walk of ranges.Text; the layer's own examples ('lives') come out true. Conditions: the laid tables' cells and errors (Ground), the addresses' numbers such as their types bear.
-/
import Derived.Test.YtpmlldgjbmingaaGreatDoorZk25
import Derived.Test.YtpmlldgjbmingaaGreatDoorZk29
import Derived.Test.YtpmlldgjbmingaaGreatDoorZk33
import Derived.Test.YtpmlldgjbmingaaGreatDoorZk21
namespace Go.Proofs.YtpmlldgjbmingaaGreatDoor
open Go.RowKit
set_option linter.unusedVariables false

theorem rdA_cases (s : List UInt8) : (rdA s = (noA, 7)) ∨ ∃ a, rdA s = (a, 0) ∧ fitA a ∧ chkA a = 0 := by
  unfold rdA
  cases h : readO s with
  | none => exact .inl rfl
  | some a =>
    refine .inr ⟨a, rfl, ?_⟩
    unfold readO at h
    split at h
    · unfold newO at h
      split at h
      · cases h
      · split at h
        · cases h
        · rename_i l1 hl1
          split at h
          · cases h
          · rename_i l2 hl2
            split at h
            · cases h
            · rename_i hc
              injection h with h
              subst h
              have h1 := eachO_lt (m := 65536) (fun x v hv => hexO_lt hv) hl1
              have h2 := eachO_lt (m := 65536) (fun x v hv => hexO_lt hv) hl2
              have hle : l1.length + l2.length ≤ 8 := by
                by_cases hh : 8 < l1.length + l2.length
                · exact absurd (.inl hh) hc
                · omega
              have hg := gap_len hle
              have hlt := gap_lt h1 h2
              refine ⟨?_, by simp [newerA, chkA]⟩
              unfold newerA
              rw [hg]
              have j1 := jn_lt (m := 65536) (l := (gapG l1 l2).take 4) fun c hc => hlt c (List.mem_of_mem_take hc)
              have j2 := jn_lt (m := 65536) (l := (gapG l1 l2).drop 4) fun c hc => hlt c (List.mem_of_mem_drop hc)
              rw [List.length_take, hg] at j1
              rw [List.length_drop, hg] at j2
              exact ⟨j1, j2⟩
    · obtain ⟨lo, rfl, hlo⟩ := eldO_fit h
      refine ⟨⟨by show (0 : Nat) < _; decide, by show lo < _; omega⟩, ?_⟩
      unfold chkA
      rw [if_neg]
      simp
      omega
theorem infoRg : (Tryz.prog.info? 41).map (·.size) = some 4 := by kernel_rfl
theorem ret_rg2 {fn : Func} {p u : Tmp} (h : fn.results = #[.cell p 41, .tmp u]) (tmps : Array Value) (w : World) (g : Nat) (a : Ad) (n : Int) (hp : tmps.getD p undef = .pointer (some ⟨g, 0, none⟩))
    (hg : Lies w g 41 #[.bool a.1, .int .u64 (a.2.1 : Int), .int .u64 (a.2.2 : Int), .int .i64 n]) : (results fn tmps).run Tryz.prog w = .ok (.tuple #[rv a n, tmps.getD u undef]) w := by
  rw [results_cell_tmp h, hp]
  simp only [asAddr, Sem.run_pure, Result.andThen_ok]
  rw [run_loadVar_row w g _ _ _ _ _ hg Tryz.underlying41 rfl infoRg]
  rfl
/-- A block that bears a range. -/
def RgB (w : World) (g : Nat) (six : Bool) (hi lo n : Int) : Prop := Lies w g 41 #[.bool six, .int .u64 hi, .int .u64 lo, .int .i64 n]
theorem RgB.facts {w : World} {g : Nat} {six : Bool} {hi lo n : Int} (h : RgB w g six hi lo n) : (w.cell? ⟨g, 0, none⟩ = some (.bool six) ∧ w.cell? ⟨g, 1, none⟩ = some (.int .u64 hi) ∧ w.cell? ⟨g, 2, none⟩ = some (.int .u64 lo) ∧ w.cell? ⟨g, 3, none⟩ = some (.int .i64 n)) ∧ w.frozen? ⟨g, 0, none⟩ = false ∧ w.frozen? ⟨g, 1, none⟩ = false ∧ w.frozen? ⟨g, 2, none⟩ = false ∧ w.frozen? ⟨g, 3, none⟩ = false :=
  ⟨⟨Lies.cell h 0, Lies.cell h 1, Lies.cell h 2, Lies.cell h 3⟩, Lies.free h 0, Lies.free h 1, Lies.free h 2, Lies.free h 3⟩
theorem RgB.put {w : World} {g : Nat} {six : Bool} {hi lo n : Int} (h : RgB w g six hi lo n) (six' : Bool) (hi' lo' n' : Int) : RgB ((((w.setCell ⟨g, 0, none⟩ (.bool six')).setCell ⟨g, 1, none⟩ (.int .u64 hi')).setCell ⟨g, 2, none⟩ (.int .u64 lo')).setCell ⟨g, 3, none⟩ (.int .i64 n')) g six' hi' lo' n' := by
  have := (((Lies.set h 0 (.bool six')).set 1 (.int .u64 hi')).set 2 (.int .u64 lo')).set 3 (.int .i64 n')
  simpa [RgB] using this
theorem put4 {n g : Nat} {w w' : World} (h : Below n w w') (hg : n ≤ g) (x y z u : Value) : Below n w ((((w'.setCell ⟨g, 0, none⟩ x).setCell ⟨g, 1, none⟩ y).setCell ⟨g, 2, none⟩ z).setCell ⟨g, 3, none⟩ u) := (put3 h hg x y z).setCell (p := ⟨g, 3, none⟩) hg u
/-- What Read hands back. -/
def rgV (x : Ad × Nat × Nat) : Value := .tuple #[rv x.1 x.2.1, .int .i64 x.2.2]
theorem rdR_eq {s : List UInt8} {a : Ad} {e : Nat} {y : List UInt8} (h1 : rdA (Lib.cut s [47]).1 = (a, e)) (h2 : (Lib.cut s [47]).2.1 = y) :
    rdR s = if e ≠ 0 then (noA, 0, e) else match numG y with
      | none => (noA, 0, 7)
      | some n => if chkR a n ≠ 0 then (noA, 0, chkR a n) else (a, n, 0) := by
  unfold rdR
  rw [h1, h2]
  rfl
set_option maxHeartbeats 4000000 in
theorem rRead_any (s : ByteArray) (w : World) (hs : s.size ≤ 900000) (hG : Ground w) :
    Calls Tryz.prog 27 #[.string s] w fun e w' => e = .returned (rgV (rdR (bs s))) ∧ Below w.heap.size w w' := by
  obtain ⟨w0, hw0⟩ : ∃ w0, w0 = w.alloc (.cells #[.bool false, .int .u64 0, .int .u64 0, .int .i64 0] 41) := ⟨_, rfl⟩
  have hb0 : Below w.heap.size w w0 := by rw [hw0]; exact (Below.refl _ _).alloc (Nat.le_refl _) _
  have HB0 := Lib.hid hb0
  have HG0 := Lib.hid (hG.next hb0)
  have HL0 : Hid (RgB w0 w.heap.size false 0 0 0) := Lib.hid (by rw [hw0]; exact Lies.new _ _ _)
  obtain ⟨X, hX⟩ : ∃ X : ByteArray, X = ⟨(Lib.cut (bs s) [47]).1.toArray⟩ := ⟨_, rfl⟩
  obtain ⟨Y, hY⟩ : ∃ Y : ByteArray, Y = ⟨(Lib.cut (bs s) [47]).2.1.toArray⟩ := ⟨_, rfl⟩
  obtain ⟨gp, hgp⟩ : ∃ gp, gp = (Lib.cut (bs s) [47]).2.2 := ⟨_, rfl⟩
  have hXb : (Lib.cut (bs s) [47]).1 = bs X := by rw [hX]; exact (bs_mk _).symm
  have hYb : (Lib.cut (bs s) [47]).2.1 = bs Y := by rw [hY]; exact (bs_mk _).symm
  have hcl := cut_len (bs s) [47]
  have hXs : X.size ≤ 900000 := by rw [← bs_length, ← hXb]; rw [bs_length] at hcl; omega
  have hYs : Y.size ≤ 900000 := by rw [← bs_length, ← hYb]; rw [bs_length] at hcl; omega
  have HC : Hid (Calls Tryz.prog 82 #[.string s, .string ⟨#[47]⟩] w0 fun e w' => e = .returned (.tuple #[.string X, .string Y, .bool gp]) ∧ Below w0.heap.size w0 w') := Lib.hid (by
    obtain ⟨m, hm⟩ := HG0.out.maxlen
    have := Tryz.strings_Cut s ⟨#[47]⟩ m w0 (by omega) hm
    rw [show s.data.toList = bs s from rfl, show (⟨#[47]⟩ : ByteArray).data.toList = [47] from rfl, ← hX, ← hY, ← hgp] at this
    refine this.mono ?_
    rintro e w' ⟨rfl, n, rfl⟩
    exact ⟨rfl, below_dN (Below.refl _ _) n⟩)
  obtain ⟨a, e, hx, hfit⟩ : ∃ a e, rdA (bs X) = (a, e) ∧ fitA a := by
    rcases rdA_cases (bs X) with h | ⟨a, h, hf, _⟩
    · exact ⟨noA, 7, h, by unfold noA fitA; decide⟩
    · exact ⟨a, 0, h, hf⟩
  obtain ⟨six, hi, lo⟩ := a
  obtain ⟨hf1, hf2⟩ := hfit
  have HV := Lib.hid (rdR_eq (hXb ▸ hx) hYb)
  have HR : Hid (∀ wx, Ground wx → Calls Tryz.prog 8 #[.string X] wx fun e' w' => e' = .returned (.tuple #[.agg #[.bool six, .int .u64 (hi : Int), .int .u64 (lo : Int)], .int .i64 (e : Int)]) ∧ Below wx.heap.size wx w') := Lib.hid fun wx hg => by
    have := aRead_any X wx hXs hg
    rw [hx] at this
    exact this
  have HN := Lib.hid fun wx hg => rNumber_any Y wx (by omega) hg
  have HCk := Lib.hid fun (n : Nat) wx => rCheck_any six hi lo (n : Int) wx hf1 hf2
  clear hb0 hG hX hY hgp hXb hYb hcl hx hf1 hf2 hXs hYs
  by_cases he : e = 0
  · subst he
    cases hn : numG (bs Y) with
    | none =>
      rw [hn] at HN HV
      simp only [optV] at HN
      go_enter Tryz.func27, Tryz.ntmps27
      go_wp2_with (first | (go_at_call 82; rw [← hw0]; (with_reducible refine HC.out.mono ?_); rintro e w1 ⟨rfl, hb1⟩; have HB1 := Lib.hid hb1; clear hb1) | (go_at_call 8; (with_reducible refine (HR.out _ (HG0.out.next HB1.out)).mono ?_); rintro e w2 ⟨rfl, hb2⟩; have HB2 := Lib.hid (next HB1.out hb2); clear hb2) | (go_at_call 83; (with_reducible refine (HN.out _ (HG0.out.next (HB2.out.alloc HB2.out.size _))).mono ?_); rintro e w3 ⟨rfl, hb3⟩; have HB3 := Lib.hid (next (HB2.out.alloc HB2.out.size _) hb3); clear hb3; have HL3 : Hid (RgB w3 w.heap.size false 0 0 0) := Lib.hid (Lies.next HL0.out HB3.out); obtain ⟨⟨hc0, hc1, hc2, hc3⟩, hg0, hg1, hg2, hg3⟩ := HL3.out.facts) | fail)
      rw [HV.out]
      refine bodyPost_ret (ret_rg2 rfl _ _ w.heap.size noA 0 rfl (RgB.put HL3.out _ _ _ _)) rfl ?_
      exact ⟨rfl, put4 (next HB0.out HB3.out) (Nat.le_refl _) _ _ _ _⟩
    | some n =>
      rw [hn] at HN HV
      simp only [optV] at HN
      replace HCk := Lib.hid (HCk.out n)
      obtain ⟨c, hc⟩ : ∃ c, c = chkR (six, hi, lo) (n : Int) := ⟨_, rfl⟩
      rw [← hc] at HCk
      have HV2 : Hid (rdR (bs s) = if c ≠ 0 then (noA, 0, c) else ((six, hi, lo), n, 0)) := Lib.hid (by rw [HV.out, if_neg (by omega), hc])
      clear HV hc hn
      by_cases hc0 : c = 0
      · subst hc0
        go_enter Tryz.func27, Tryz.ntmps27
        go_wp2_with (first | (go_at_call 82; rw [← hw0]; (with_reducible refine HC.out.mono ?_); rintro e w1 ⟨rfl, hb1⟩; have HB1 := Lib.hid hb1; clear hb1) | (go_at_call 8; (with_reducible refine (HR.out _ (HG0.out.next HB1.out)).mono ?_); rintro e w2 ⟨rfl, hb2⟩; have HB2 := Lib.hid (next HB1.out hb2); clear hb2) | (go_at_call 83; (with_reducible refine (HN.out _ (HG0.out.next (HB2.out.alloc HB2.out.size _))).mono ?_); rintro e w3 ⟨rfl, hb3⟩; have HB3 := Lib.hid (next (HB2.out.alloc HB2.out.size _) hb3); have HA3 : Hid (AdB w3 w2.heap.size six hi lo) := Lib.hid ((Lies.new w2 _ _).next hb3); clear hb3; obtain ⟨⟨ha0, ha1, ha2⟩, _⟩ := HA3.out.facts) | (go_at_call 41; (with_reducible refine (HCk.out _).mono ?_); rintro e w4 ⟨rfl, hb4⟩; have HB4 := Lib.hid (next (HB3.out.alloc HB3.out.size _) hb4); have HA4 : Hid (RgB w4 w3.heap.size six hi lo n) := Lib.hid ((Lies.new w3 _ _).next hb4); clear hb4; obtain ⟨⟨hr0, hr1, hr2, hr3⟩, _⟩ := HA4.out.facts; have HL4 : Hid (RgB w4 w.heap.size false 0 0 0) := Lib.hid (Lies.next HL0.out HB4.out); obtain ⟨⟨hc0, hc1, hc2, hc3⟩, hg0, hg1, hg2, hg3⟩ := HL4.out.facts) | fail)
        rw [HV2.out]
        refine bodyPost_ret (ret_rg2 rfl _ _ w.heap.size (six, hi, lo) n rfl (RgB.put HL4.out _ _ _ _)) rfl ?_
        exact ⟨rfl, put4 (next HB0.out HB4.out) (Nat.le_refl _) _ _ _ _⟩
      · have hcb : ((c : Int) != 0) = true := by rw [bne_iff_ne]; omega
        have HV3 : Hid (rdR (bs s) = (noA, 0, c)) := Lib.hid (by rw [HV2.out, if_pos hc0])
        clear HV2 hc0
        go_enter Tryz.func27, Tryz.ntmps27
        go_wp2_with (first | (go_at_call 82; rw [← hw0]; (with_reducible refine HC.out.mono ?_); rintro e w1 ⟨rfl, hb1⟩; have HB1 := Lib.hid hb1; clear hb1) | (go_at_call 8; (with_reducible refine (HR.out _ (HG0.out.next HB1.out)).mono ?_); rintro e w2 ⟨rfl, hb2⟩; have HB2 := Lib.hid (next HB1.out hb2); clear hb2) | (go_at_call 83; (with_reducible refine (HN.out _ (HG0.out.next (HB2.out.alloc HB2.out.size _))).mono ?_); rintro e w3 ⟨rfl, hb3⟩; have HB3 := Lib.hid (next (HB2.out.alloc HB2.out.size _) hb3); have HA3 : Hid (AdB w3 w2.heap.size six hi lo) := Lib.hid ((Lies.new w2 _ _).next hb3); clear hb3; obtain ⟨⟨ha0, ha1, ha2⟩, _⟩ := HA3.out.facts) | (go_at_call 41; (with_reducible refine (HCk.out _).mono ?_); rintro e w4 ⟨rfl, hb4⟩; have HB4 := Lib.hid (next (HB3.out.alloc HB3.out.size _) hb4); have HA4 : Hid (RgB w4 w3.heap.size six hi lo n) := Lib.hid ((Lies.new w3 _ _).next hb4); clear hb4; obtain ⟨⟨hr0, hr1, hr2, hr3⟩, _⟩ := HA4.out.facts; have HL4 : Hid (RgB w4 w.heap.size false 0 0 0) := Lib.hid (Lies.next HL0.out HB4.out); obtain ⟨⟨hc0, hc1, hc2, hc3⟩, hg0, hg1, hg2, hg3⟩ := HL4.out.facts) | fail)
        rw [HV3.out]
        refine bodyPost_ret (ret_rg2 rfl _ _ w.heap.size noA 0 rfl (RgB.put HL4.out _ _ _ _)) rfl ?_
        exact ⟨rfl, put4 (next HB0.out HB4.out) (Nat.le_refl _) _ _ _ _⟩
  · have heb : ((e : Int) != 0) = true := by rw [bne_iff_ne]; omega
    have HV3 : Hid (rdR (bs s) = (noA, 0, e)) := Lib.hid (by rw [HV.out, if_pos he])
    clear HV he
    go_enter Tryz.func27, Tryz.ntmps27
    go_wp2_with (first | (go_at_call 82; rw [← hw0]; (with_reducible refine HC.out.mono ?_); rintro e' w1 ⟨rfl, hb1⟩; have HB1 := Lib.hid hb1; clear hb1) | (go_at_call 8; (with_reducible refine (HR.out _ (HG0.out.next HB1.out)).mono ?_); rintro e' w2 ⟨rfl, hb2⟩; have HB2 := Lib.hid (next HB1.out hb2); clear hb2; have HL3 : Hid (RgB (w2.alloc (.cells #[.bool six, .int .u64 (hi : Int), .int .u64 (lo : Int)] 24)) w.heap.size false 0 0 0) := Lib.hid (Lies.next HL0.out (HB2.out.alloc HB2.out.size _)); obtain ⟨⟨hc0, hc1, hc2, hc3⟩, hg0, hg1, hg2, hg3⟩ := HL3.out.facts) | fail)
    rw [HV3.out]
    refine bodyPost_ret (ret_rg2 rfl _ _ w.heap.size noA 0 rfl (RgB.put HL3.out _ _ _ _)) rfl ?_
    exact ⟨rfl, put4 (next HB0.out (HB2.out.alloc HB2.out.size _)) (Nat.le_refl _) _ _ _ _⟩
end Go.Proofs.YtpmlldgjbmingaaGreatDoor
namespace Go.Proofs.YtpmlldgjbmingaaGreatDoor
open Go.RowKit
set_option linter.unusedVariables false

end Go.Proofs.YtpmlldgjbmingaaGreatDoor
