/-
  Ranges' texts: the walks of ranges.Read, ranges.Text. Conditions: the laid tables' cells and errors (Ground), texts of at most 900,000 octets, the addresses' numbers such as their types bear. Ranges' texts: the walk of ranges.Text; the layer's own examples ('lives') come out true. Conditions: the laid tables' cells and errors (Ground), the addresses' numbers such as their types bear. The contracts of layer 5 as the laws meet them; the layer's own examples ('lives') come out true. Conditions: as each theorem names them. How long the runs are that reserved ranges take of a range: the walks of ranges.narrower, ranges.runs. Conditions: the laid tables' cells (Ground), the addresses' numbers such as their types bear.
-/
import Derived.Test.YtpmlldgjbmingaaGreatDoorZk24
import Derived.Test.YtpmlldgjbmingaaGreatDoorZk28
import Derived.Test.YtpmlldgjbmingaaGreatDoorZk31
import Derived.Test.YtpmlldgjbmingaaGreatDoorZk23
import Derived.Test.YtpmlldgjbmingaaGreatDoorZk27
import Derived.Test.YtpmlldgjbmingaaGreatDoorZk3
import Derived.Test.YtpmlldgjbmingaaGreatDoorZk9
import Derived.Deep.RegionLaw
import Derived.Deep.RegionHeld3
namespace Go.Proofs.YtpmlldgjbmingaaGreatDoor
open Go.RowKit
set_option linter.unusedVariables false

theorem rdA_cases (s : List UInt8) : (rdA s = (noA, 7)) ∨ ∃ a, rdA s = (a, 0) ∧ fitA a ∧ chkA a = 0 := by
  unfold rdA
  cases h : readO s with
  | none => exact .inl rfl
  | some a =>
    refine .inr ⟨a, rfl, ?_⟩
    unfold readO at h
    split at h
    · unfold newO at h
      split at h
      · cases h
      · split at h
        · cases h
        · rename_i l1 hl1
          split at h
          · cases h
          · rename_i l2 hl2
            split at h
            · cases h
            · rename_i hc
              injection h with h
              subst h
              have h1 := eachO_lt (m := 65536) (fun x v hv => hexO_lt hv) hl1
              have h2 := eachO_lt (m := 65536) (fun x v hv => hexO_lt hv) hl2
              have hle : l1.length + l2.length ≤ 8 := by
                by_cases hh : 8 < l1.length + l2.length
                · exact absurd (.inl hh) hc
                · omega
              have hg := gap_len hle
              have hlt := gap_lt h1 h2
              refine ⟨?_, by simp [newerA, chkA]⟩
              unfold newerA
              rw [hg]
              have j1 := jn_lt (m := 65536) (l := (gapG l1 l2).take 4) fun c hc => hlt c (List.mem_of_mem_take hc)
              have j2 := jn_lt (m := 65536) (l := (gapG l1 l2).drop 4) fun c hc => hlt c (List.mem_of_mem_drop hc)
              rw [List.length_take, hg] at j1
              rw [List.length_drop, hg] at j2
              exact ⟨j1, j2⟩
    · obtain ⟨lo, rfl, hlo⟩ := eldO_fit h
      refine ⟨⟨by show (0 : Nat) < _; decide, by show lo < _; omega⟩, ?_⟩
      unfold chkA
      rw [if_neg]
      simp
      omega
theorem infoRg : (Tryz.prog.info? 41).map (·.size) = some 4 := by kernel_rfl
theorem ret_rg2 {fn : Func} {p u : Tmp} (h : fn.results = #[.cell p 41, .tmp u]) (tmps : Array Value) (w : World) (g : Nat) (a : Ad) (n : Int) (hp : tmps.getD p undef = .pointer (some ⟨g, 0, none⟩))
    (hg : Lies w g 41 #[.bool a.1, .int .u64 (a.2.1 : Int), .int .u64 (a.2.2 : Int), .int .i64 n]) : (results fn tmps).run Tryz.prog w = .ok (.tuple #[rv a n, tmps.getD u undef]) w := by
  rw [results_cell_tmp h, hp]
  simp only [asAddr, Sem.run_pure, Result.andThen_ok]
  rw [run_loadVar_row w g _ _ _ _ _ hg Tryz.underlying41 rfl infoRg]
  rfl
/-- A block that bears a range. -/
def RgB (w : World) (g : Nat) (six : Bool) (hi lo n : Int) : Prop := Lies w g 41 #[.bool six, .int .u64 hi, .int .u64 lo, .int .i64 n]
theorem RgB.facts {w : World} {g : Nat} {six : Bool} {hi lo n : Int} (h : RgB w g six hi lo n) : (w.cell? ⟨g, 0, none⟩ = some (.bool six) ∧ w.cell? ⟨g, 1, none⟩ = some (.int .u64 hi) ∧ w.cell? ⟨g, 2, none⟩ = some (.int .u64 lo) ∧ w.cell? ⟨g, 3, none⟩ = some (.int .i64 n)) ∧ w.frozen? ⟨g, 0, none⟩ = false ∧ w.frozen? ⟨g, 1, none⟩ = false ∧ w.frozen? ⟨g, 2, none⟩ = false ∧ w.frozen? ⟨g, 3, none⟩ = false :=
  ⟨⟨Lies.cell h 0, Lies.cell h 1, Lies.cell h 2, Lies.cell h 3⟩, Lies.free h 0, Lies.free h 1, Lies.free h 2, Lies.free h 3⟩
theorem RgB.put {w : World} {g : Nat} {six : Bool} {hi lo n : Int} (h : RgB w g six hi lo n) (six' : Bool) (hi' lo' n' : Int) : RgB ((((w.setCell ⟨g, 0, none⟩ (.bool six')).setCell ⟨g, 1, none⟩ (.int .u64 hi')).setCell ⟨g, 2, none⟩ (.int .u64 lo')).setCell ⟨g, 3, none⟩ (.int .i64 n')) g six' hi' lo' n' := by
  have := (((Lies.set h 0 (.bool six')).set 1 (.int .u64 hi')).set 2 (.int .u64 lo')).set 3 (.int .i64 n')
  simpa [RgB] using this
theorem put4 {n g : Nat} {w w' : World} (h : Below n w w') (hg : n ≤ g) (x y z u : Value) : Below n w ((((w'.setCell ⟨g, 0, none⟩ x).setCell ⟨g, 1, none⟩ y).setCell ⟨g, 2, none⟩ z).setCell ⟨g, 3, none⟩ u) := (put3 h hg x y z).setCell (p := ⟨g, 3, none⟩) hg u
/-- What Read hands back. -/
def rgV (x : Ad × Nat × Nat) : Value := .tuple #[rv x.1 x.2.1, .int .i64 x.2.2]
theorem rdR_eq {s : List UInt8} {a : Ad} {e : Nat} {y : List UInt8} (h1 : rdA (Lib.cut s [47]).1 = (a, e)) (h2 : (Lib.cut s [47]).2.1 = y) :
    rdR s = if e ≠ 0 then (noA, 0, e) else match numG y with
      | none => (noA, 0, 7)
      | some n => if chkR a n ≠ 0 then (noA, 0, chkR a n) else (a, n, 0) := by
  unfold rdR
  rw [h1, h2]
  rfl
set_option maxHeartbeats 4000000 in
theorem rRead_any (s : ByteArray) (w : World) (hs : s.size ≤ 900000) (hG : Ground w) :
    Calls Tryz.prog 27 #[.string s] w fun e w' => e = .returned (rgV (rdR (bs s))) ∧ Below w.heap.size w w' := by
  obtain ⟨w0, hw0⟩ : ∃ w0, w0 = w.alloc (.cells #[.bool false, .int .u64 0, .int .u64 0, .int .i64 0] 41) := ⟨_, rfl⟩
  have hb0 : Below w.heap.size w w0 := by rw [hw0]; exact (Below.refl _ _).alloc (Nat.le_refl _) _
  have HB0 := Lib.hid hb0
  have HG0 := Lib.hid (hG.next hb0)
  have HL0 : Hid (RgB w0 w.heap.size false 0 0 0) := Lib.hid (by rw [hw0]; exact Lies.new _ _ _)
  obtain ⟨X, hX⟩ : ∃ X : ByteArray, X = ⟨(Lib.cut (bs s) [47]).1.toArray⟩ := ⟨_, rfl⟩
  obtain ⟨Y, hY⟩ : ∃ Y : ByteArray, Y = ⟨(Lib.cut (bs s) [47]).2.1.toArray⟩ := ⟨_, rfl⟩
  obtain ⟨gp, hgp⟩ : ∃ gp, gp = (Lib.cut (bs s) [47]).2.2 := ⟨_, rfl⟩
  have hXb : (Lib.cut (bs s) [47]).1 = bs X := by rw [hX]; exact (bs_mk _).symm
  have hYb : (Lib.cut (bs s) [47]).2.1 = bs Y := by rw [hY]; exact (bs_mk _).symm
  have hcl := cut_len (bs s) [47]
  have hXs : X.size ≤ 900000 := by rw [← bs_length, ← hXb]; rw [bs_length] at hcl; omega
  have hYs : Y.size ≤ 900000 := by rw [← bs_length, ← hYb]; rw [bs_length] at hcl; omega
  have HC : Hid (Calls Tryz.prog 82 #[.string s, .string ⟨#[47]⟩] w0 fun e w' => e = .returned (.tuple #[.string X, .string Y, .bool gp]) ∧ Below w0.heap.size w0 w') := Lib.hid (by
    obtain ⟨m, hm⟩ := HG0.out.maxlen
    have := Tryz.strings_Cut s ⟨#[47]⟩ m w0 (by omega) hm
    rw [show s.data.toList = bs s from rfl, show (⟨#[47]⟩ : ByteArray).data.toList = [47] from rfl, ← hX, ← hY, ← hgp] at this
    refine this.mono ?_
    rintro e w' ⟨rfl, n, rfl⟩
    exact ⟨rfl, below_dN (Below.refl _ _) n⟩)
  obtain ⟨a, e, hx, hfit⟩ : ∃ a e, rdA (bs X) = (a, e) ∧ fitA a := by
    rcases rdA_cases (bs X) with h | ⟨a, h, hf, _⟩
    · exact ⟨noA, 7, h, by unfold noA fitA; decide⟩
    · exact ⟨a, 0, h, hf⟩
  obtain ⟨six, hi, lo⟩ := a
  obtain ⟨hf1, hf2⟩ := hfit
  have HV := Lib.hid (rdR_eq (hXb ▸ hx) hYb)
  have HR : Hid (∀ wx, Ground wx → Calls Tryz.prog 8 #[.string X] wx fun e' w' => e' = .returned (.tuple #[.agg #[.bool six, .int .u64 (hi : Int), .int .u64 (lo : Int)], .int .i64 (e : Int)]) ∧ Below wx.heap.size wx w') := Lib.hid fun wx hg => by
    have := aRead_any X wx hXs hg
    rw [hx] at this
    exact this
  have HN := Lib.hid fun wx hg => rNumber_any Y wx (by omega) hg
  have HCk := Lib.hid fun (n : Nat) wx => rCheck_any six hi lo (n : Int) wx hf1 hf2
  clear hb0 hG hX hY hgp hXb hYb hcl hx hf1 hf2 hXs hYs
  by_cases he : e = 0
  · subst he
    cases hn : numG (bs Y) with
    | none =>
      rw [hn] at HN HV
      simp only [optV] at HN
      go_enter Tryz.func27, Tryz.ntmps27
      go_wp2_with (first | (go_at_call 82; rw [← hw0]; (with_reducible refine HC.out.mono ?_); rintro e w1 ⟨rfl, hb1⟩; have HB1 := Lib.hid hb1; clear hb1) | (go_at_call 8; (with_reducible refine (HR.out _ (HG0.out.next HB1.out)).mono ?_); rintro e w2 ⟨rfl, hb2⟩; have HB2 := Lib.hid (next HB1.out hb2); clear hb2) | (go_at_call 83; (with_reducible refine (HN.out _ (HG0.out.next (HB2.out.alloc HB2.out.size _))).mono ?_); rintro e w3 ⟨rfl, hb3⟩; have HB3 := Lib.hid (next (HB2.out.alloc HB2.out.size _) hb3); clear hb3; have HL3 : Hid (RgB w3 w.heap.size false 0 0 0) := Lib.hid (Lies.next HL0.out HB3.out); obtain ⟨⟨hc0, hc1, hc2, hc3⟩, hg0, hg1, hg2, hg3⟩ := HL3.out.facts) | fail)
      rw [HV.out]
      refine bodyPost_ret (ret_rg2 rfl _ _ w.heap.size noA 0 rfl (RgB.put HL3.out _ _ _ _)) rfl ?_
      exact ⟨rfl, put4 (next HB0.out HB3.out) (Nat.le_refl _) _ _ _ _⟩
    | some n =>
      rw [hn] at HN HV
      simp only [optV] at HN
      replace HCk := Lib.hid (HCk.out n)
      obtain ⟨c, hc⟩ : ∃ c, c = chkR (six, hi, lo) (n : Int) := ⟨_, rfl⟩
      rw [← hc] at HCk
      have HV2 : Hid (rdR (bs s) = if c ≠ 0 then (noA, 0, c) else ((six, hi, lo), n, 0)) := Lib.hid (by rw [HV.out, if_neg (by omega), hc])
      clear HV hc hn
      by_cases hc0 : c = 0
      · subst hc0
        go_enter Tryz.func27, Tryz.ntmps27
        go_wp2_with (first | (go_at_call 82; rw [← hw0]; (with_reducible refine HC.out.mono ?_); rintro e w1 ⟨rfl, hb1⟩; have HB1 := Lib.hid hb1; clear hb1) | (go_at_call 8; (with_reducible refine (HR.out _ (HG0.out.next HB1.out)).mono ?_); rintro e w2 ⟨rfl, hb2⟩; have HB2 := Lib.hid (next HB1.out hb2); clear hb2) | (go_at_call 83; (with_reducible refine (HN.out _ (HG0.out.next (HB2.out.alloc HB2.out.size _))).mono ?_); rintro e w3 ⟨rfl, hb3⟩; have HB3 := Lib.hid (next (HB2.out.alloc HB2.out.size _) hb3); have HA3 : Hid (AdB w3 w2.heap.size six hi lo) := Lib.hid ((Lies.new w2 _ _).next hb3); clear hb3; obtain ⟨⟨ha0, ha1, ha2⟩, _⟩ := HA3.out.facts) | (go_at_call 41; (with_reducible refine (HCk.out _).mono ?_); rintro e w4 ⟨rfl, hb4⟩; have HB4 := Lib.hid (next (HB3.out.alloc HB3.out.size _) hb4); have HA4 : Hid (RgB w4 w3.heap.size six hi lo n) := Lib.hid ((Lies.new w3 _ _).next hb4); clear hb4; obtain ⟨⟨hr0, hr1, hr2, hr3⟩, _⟩ := HA4.out.facts; have HL4 : Hid (RgB w4 w.heap.size false 0 0 0) := Lib.hid (Lies.next HL0.out HB4.out); obtain ⟨⟨hc0, hc1, hc2, hc3⟩, hg0, hg1, hg2, hg3⟩ := HL4.out.facts) | fail)
        rw [HV2.out]
        refine bodyPost_ret (ret_rg2 rfl _ _ w.heap.size (six, hi, lo) n rfl (RgB.put HL4.out _ _ _ _)) rfl ?_
        exact ⟨rfl, put4 (next HB0.out HB4.out) (Nat.le_refl _) _ _ _ _⟩
      · have hcb : ((c : Int) != 0) = true := by rw [bne_iff_ne]; omega
        have HV3 : Hid (rdR (bs s) = (noA, 0, c)) := Lib.hid (by rw [HV2.out, if_pos hc0])
        clear HV2 hc0
        go_enter Tryz.func27, Tryz.ntmps27
        go_wp2_with (first | (go_at_call 82; rw [← hw0]; (with_reducible refine HC.out.mono ?_); rintro e w1 ⟨rfl, hb1⟩; have HB1 := Lib.hid hb1; clear hb1) | (go_at_call 8; (with_reducible refine (HR.out _ (HG0.out.next HB1.out)).mono ?_); rintro e w2 ⟨rfl, hb2⟩; have HB2 := Lib.hid (next HB1.out hb2); clear hb2) | (go_at_call 83; (with_reducible refine (HN.out _ (HG0.out.next (HB2.out.alloc HB2.out.size _))).mono ?_); rintro e w3 ⟨rfl, hb3⟩; have HB3 := Lib.hid (next (HB2.out.alloc HB2.out.size _) hb3); have HA3 : Hid (AdB w3 w2.heap.size six hi lo) := Lib.hid ((Lies.new w2 _ _).next hb3); clear hb3; obtain ⟨⟨ha0, ha1, ha2⟩, _⟩ := HA3.out.facts) | (go_at_call 41; (with_reducible refine (HCk.out _).mono ?_); rintro e w4 ⟨rfl, hb4⟩; have HB4 := Lib.hid (next (HB3.out.alloc HB3.out.size _) hb4); have HA4 : Hid (RgB w4 w3.heap.size six hi lo n) := Lib.hid ((Lies.new w3 _ _).next hb4); clear hb4; obtain ⟨⟨hr0, hr1, hr2, hr3⟩, _⟩ := HA4.out.facts; have HL4 : Hid (RgB w4 w.heap.size false 0 0 0) := Lib.hid (Lies.next HL0.out HB4.out); obtain ⟨⟨hc0, hc1, hc2, hc3⟩, hg0, hg1, hg2, hg3⟩ := HL4.out.facts) | fail)
        rw [HV3.out]
        refine bodyPost_ret (ret_rg2 rfl _ _ w.heap.size noA 0 rfl (RgB.put HL4.out _ _ _ _)) rfl ?_
        exact ⟨rfl, put4 (next HB0.out HB4.out) (Nat.le_refl _) _ _ _ _⟩
  · have heb : ((e : Int) != 0) = true := by rw [bne_iff_ne]; omega
    have HV3 : Hid (rdR (bs s) = (noA, 0, e)) := Lib.hid (by rw [HV.out, if_pos he])
    clear HV he
    go_enter Tryz.func27, Tryz.ntmps27
    go_wp2_with (first | (go_at_call 82; rw [← hw0]; (with_reducible refine HC.out.mono ?_); rintro e' w1 ⟨rfl, hb1⟩; have HB1 := Lib.hid hb1; clear hb1) | (go_at_call 8; (with_reducible refine (HR.out _ (HG0.out.next HB1.out)).mono ?_); rintro e' w2 ⟨rfl, hb2⟩; have HB2 := Lib.hid (next HB1.out hb2); clear hb2; have HL3 : Hid (RgB (w2.alloc (.cells #[.bool six, .int .u64 (hi : Int), .int .u64 (lo : Int)] 24)) w.heap.size false 0 0 0) := Lib.hid (Lies.next HL0.out (HB2.out.alloc HB2.out.size _)); obtain ⟨⟨hc0, hc1, hc2, hc3⟩, hg0, hg1, hg2, hg3⟩ := HL3.out.facts) | fail)
    rw [HV3.out]
    refine bodyPost_ret (ret_rg2 rfl _ _ w.heap.size noA 0 rfl (RgB.put HL3.out _ _ _ _)) rfl ?_
    exact ⟨rfl, put4 (next HB0.out (HB2.out.alloc HB2.out.size _)) (Nat.le_refl _) _ _ _ _⟩
end Go.Proofs.YtpmlldgjbmingaaGreatDoor
namespace Go.Proofs.YtpmlldgjbmingaaGreatDoor
open Go.RowKit
set_option linter.unusedVariables false

/-- What Text hands back. -/
def txV (x : List UInt8 × Nat) : Value := .tuple #[.string ⟨x.1.toArray⟩, .int .i64 x.2]
theorem txA_ok {a : Ad} (h : chkA a = 0) : (txA a).2 = 0 := by
  unfold txA
  rw [if_neg (by rw [h]; decide)]
  split <;> rfl
set_option maxHeartbeats 2000000 in
theorem rText_any (six : Bool) (hi lo : Nat) (n : Int) (w : World) (hG : Ground w) (h1 : hi < 18446744073709551616) (h2 : lo < 18446744073709551616) :
    Calls Tryz.prog 28 #[.agg #[.bool six, .int .u64 (hi : Int), .int .u64 (lo : Int), .int .i64 n]] w fun e w' => e = .returned (txV (txR (six, hi, lo) n)) ∧ Below w.heap.size w w' := by
  have HC := Lib.hid fun wx => rCheck_any six hi lo n wx h1 h2
  have HL0 : Hid (RgB (w.alloc (.cells #[.bool six, .int .u64 (hi : Int), .int .u64 (lo : Int), .int .i64 n] 41)) w.heap.size six hi lo n) := Lib.hid (Lies.new _ _ _)
  have HB0 : Hid (Below w.heap.size w (w.alloc (.cells #[.bool six, .int .u64 (hi : Int), .int .u64 (lo : Int), .int .i64 n] 41))) := Lib.hid ((Below.refl _ _).alloc (Nat.le_refl _) _)
  have HG := Lib.hid hG
  by_cases e1 : chkR (six, hi, lo) n = 0
  · obtain ⟨hca, b, rfl, hb, _⟩ := chkR_yes e1
    have hb128 : b ≤ 128 := by
      have : widA six ≤ 128 := by cases six <;> decide
      exact Nat.le_trans hb this
    have hT := fun wx hg => aText_any six hi lo wx h1 h2 hg
    obtain ⟨X, hX⟩ : ∃ X : ByteArray, X = ⟨(txA (six, hi, lo)).1.toArray⟩ := ⟨_, rfl⟩
    have hXb : (txA (six, hi, lo)).1 = bs X := by rw [hX]; exact (bs_mk _).symm
    rw [← hX, txA_ok hca] at hT
    have HT := Lib.hid hT
    have hI := fun wx hg => itoa_any b wx (by omega) hg
    obtain ⟨D, hD⟩ : ∃ D : ByteArray, D = ⟨(decT b).toArray⟩ := ⟨_, rfl⟩
    have hDb : decT b = bs D := by rw [hD]; exact (bs_mk _).symm
    rw [← hD] at hI
    have HI := Lib.hid hI
    have hXs : X.size ≤ 39 := by rw [← bs_length, ← hXb]; exact text_len _
    have hDs : D.size ≤ 3 := by rw [← bs_length, ← hDb]; exact (dec_len ⟨b, by omega⟩).1
    have HV : Hid (txV (txR (six, hi, lo) (b : Int)) = .tuple #[.string (X ++ ⟨#[47]⟩ ++ D), .int .i64 0]) := Lib.hid (by
      unfold txR txV
      rw [if_neg (by omega), Int.toNat_natCast, hXb, hDb]
      have : (⟨(bs X ++ 47 :: bs D).toArray⟩ : ByteArray) = X ++ ⟨#[47]⟩ ++ D := bs_inj (by rw [bs_mk, bs_append, bs_append, List.append_assoc]; rfl)
      rw [this]
      rfl)
    rw [e1] at HC
    have hq1 : ¬ 9223372036854775807 < X.size + (⟨#[47]⟩ : ByteArray).size := by show ¬ _ < X.size + 1; omega
    have hq2 : ¬ 9223372036854775807 < (X ++ ⟨#[47]⟩).size + D.size := by rw [ByteArray.size_append]; show ¬ _ < X.size + 1 + _; omega
    clear hT hI hX hXb hD hDb e1 hca hb h1 h2 hG
    rw [HV.out]
    clear HV
    go_enter Tryz.func28, Tryz.ntmps28
    go_wp2_with (first | (go_at_call 41; (with_reducible refine (HC.out _).mono ?_); rintro e w1 ⟨rfl, hb1⟩; have HB1 := Lib.hid (next HB0.out hb1); have HL1 : Hid (RgB w1 w.heap.size six hi lo b) := Lib.hid (Lies.next HL0.out hb1); clear hb1; obtain ⟨⟨hc0, hc1, hc2, hc3⟩, _⟩ := HL1.out.facts) | (go_at_call 10; (with_reducible refine (HT.out _ (HG.out.next HB1.out)).mono ?_); rintro e w2 ⟨rfl, hb2⟩; have HB2 := Lib.hid (next HB1.out hb2); have HL2 : Hid (RgB w2 w.heap.size six hi lo b) := Lib.hid (Lies.next HL1.out hb2); clear hb2; obtain ⟨⟨hd0, hd1, hd2, hd3⟩, _⟩ := HL2.out.facts) | (go_at_call 84; (with_reducible refine (HI.out _ (HG.out.next HB2.out)).mono ?_); rintro e w3 ⟨rfl, hb3⟩; have HB3 := Lib.hid (next HB2.out hb3); clear hb3) | fail)
    go_ret2
    exact ⟨rfl, HB3.out⟩
  · obtain ⟨c, hc⟩ : ∃ c, c = chkR (six, hi, lo) n := ⟨_, rfl⟩
    have HV : Hid (txV (txR (six, hi, lo) n) = .tuple #[.string ⟨#[]⟩, .int .i64 c]) := Lib.hid (by unfold txR txV; rw [if_pos e1, hc])
    rw [← hc] at HC e1
    have hcb : ((c : Int) != 0) = true := by rw [bne_iff_ne]; omega
    rw [HV.out]
    clear hc e1 h1 h2 hG HV
    go_enter Tryz.func28, Tryz.ntmps28
    go_wp2_with (first | (go_at_call 41; (with_reducible refine (HC.out _).mono ?_); rintro e w1 ⟨rfl, hb1⟩; have HB1 := Lib.hid (next HB0.out hb1); clear hb1) | fail)
    go_ret2
    exact ⟨rfl, HB1.out⟩
end Go.Proofs.YtpmlldgjbmingaaGreatDoor
namespace Go.Proofs.YtpmlldgjbmingaaGreatDoor
open Go.RowKit
set_option linter.unusedVariables false

/-- A world behind a draw, and all that may come of it without a change of what was there. -/
theorem class_of (W : World) : ∃ (Ix : Type) (f : Ix → World) (i0 : Ix), W.drew = f i0 ∧ (∀ n, Below W.heap.size W (f n)) ∧ (∀ n w'', Below (f n).heap.size (f n) w'' → ∃ m, w'' = f m) :=
  ⟨{w' // Below W.heap.size W w'}, Subtype.val, ⟨W.drew, ⟨rfl, rfl, rfl, Nat.le_refl _, fun _ _ => rfl⟩⟩, rfl, fun n => n.2, fun n w'' h => ⟨⟨w'', next n.2 h⟩, rfl⟩⟩
/-- A contract over the class. -/
theorem class_go {W : World} {Ix : Type} {f : Ix → World} {fi : FuncId} {args : Array Value} {v : Value} (h : GG fi args v) (hg : Ground W) (hC : ∀ n, Below W.heap.size W (f n)) (hS : ∀ n w'', Below (f n).heap.size (f n) w'' → ∃ m, w'' = f m) (n : Ix) :
    Calls Tryz.prog fi args (f n) fun e w' => e = .returned v ∧ ∃ m, w' = f m := (h.go (f n) (hg.next (hC n))).mono fun _ _ x => ⟨x.1, hS n _ x.2⟩
section
variable {six : Bool} {hi lo : Nat} {n : Int}
theorem gRr {s : ByteArray} {b e : Nat} (hs : s.size ≤ 900000) (h : rdR (bs s) = ((six, hi, lo), b, e)) : GG 27 #[.string s] (.tuple #[.agg #[.bool six, .int .u64 (hi : Int), .int .u64 (lo : Int), .int .i64 (b : Int)], .int .i64 (e : Int)]) := fun w hg => by
  have := rRead_any s w hs hg
  rw [h] at this
  exact this
theorem gTr {s : ByteArray} {e : Nat} (hf : fitA (six, hi, lo)) (h : txR (six, hi, lo) n = (bs s, e)) : GG 28 #[.agg #[.bool six, .int .u64 (hi : Int), .int .u64 (lo : Int), .int .i64 n]] (.tuple #[.string s, .int .i64 (e : Int)]) := fun w hg => by
  have := rText_any six hi lo n w hg hf.1 hf.2
  rw [h] at this
  exact this
theorem gAr {i : Int} {s : Bool} {ah al : Nat} {is : Bool} (hf : fitA (six, hi, lo)) (h : atR (six, hi, lo) n i = ((s, ah, al), is)) : GG 31 #[.agg #[.bool six, .int .u64 (hi : Int), .int .u64 (lo : Int), .int .i64 n], .int .i64 i] (.tuple #[.agg #[.bool s, .int .u64 (ah : Int), .int .u64 (al : Int)], .bool is]) := fun w hg => by
  have := rAt_any six hi lo n i w hg hf.1 hf.2
  rw [h] at this
  exact this
theorem gSr {z : Nat} (hf : fitA (six, hi, lo)) (h : sizeR (six, hi, lo) n = z) : GG 32 #[.agg #[.bool six, .int .u64 (hi : Int), .int .u64 (lo : Int), .int .i64 n]] (.int .i64 (z : Int)) := fun w hg => by
  have := rSize_any six hi lo n w hg hf.1 hf.2
  rw [h] at this
  exact this
theorem gHr {s : Bool} {ah al : Nat} {b : Bool} (hf : fitA (six, hi, lo)) (hg : fitA (s, ah, al)) (h : hasR (six, hi, lo) n (s, ah, al) = b) : GG 34 #[.agg #[.bool six, .int .u64 (hi : Int), .int .u64 (lo : Int), .int .i64 n], .agg #[.bool s, .int .u64 (ah : Int), .int .u64 (al : Int)]] (.bool b) := fun w _ => by
  have := rHas_any six hi lo n s ah al w hf.1 hf.2 hg.1 hg.2
  rw [h] at this
  exact this
theorem gIr {s : Bool} {ah al : Nat} {i : Nat} {is : Bool} (hf : fitA (six, hi, lo)) (hg : fitA (s, ah, al)) (h : idxR (six, hi, lo) n (s, ah, al) = (i, is)) : GG 29 #[.agg #[.bool six, .int .u64 (hi : Int), .int .u64 (lo : Int), .int .i64 n], .agg #[.bool s, .int .u64 (ah : Int), .int .u64 (al : Int)]] (.tuple #[.int .i64 (i : Int), .bool is]) := fun w hG => by
  have := rIndex_any six hi lo n s ah al w hG hf.1 hf.2 hg.1 hg.2
  rw [h] at this
  exact this
theorem gMr {s : Bool} {ah al : Nat} {m : Int} {b : Bool} (hf : fitA (six, hi, lo)) (hg : fitA (s, ah, al)) (h : meetR (six, hi, lo) n (s, ah, al) m = b) : GG 33 #[.agg #[.bool six, .int .u64 (hi : Int), .int .u64 (lo : Int), .int .i64 n], .agg #[.bool s, .int .u64 (ah : Int), .int .u64 (al : Int), .int .i64 m]] (.bool b) := fun w _ => by
  have := rMeet_any six hi lo n s ah al m w hf.1 hf.2 hg.1 hg.2
  rw [h] at this
  exact this
end
theorem fit0 : fitA (false, 0, 167772160) := by unfold fitA; decide
theorem l51 : GG 27 #[.string ⟨#[49, 48, 46, 48, 46, 48, 46, 48, 47, 51, 48]⟩] (.tuple #[.agg #[.bool false, .int .u64 0, .int .u64 167772160, .int .i64 30], .int .i64 0]) := gRr (six := false) (hi := 0) (lo := 167772160) (b := 30) (e := 0) (by decide) (by decide +kernel)
theorem l52 : GG 31 #[.agg #[.bool false, .int .u64 0, .int .u64 167772160, .int .i64 30], .int .i64 3] (.tuple #[.agg #[.bool false, .int .u64 0, .int .u64 167772163], .bool true]) := gAr (six := false) (hi := 0) (lo := 167772160) (n := 30) (s := false) (ah := 0) (al := 167772163) (is := true) fit0 (by decide +kernel)
theorem l53 : GG 27 #[.string ⟨#[49, 48, 46, 48, 46, 48, 46, 49, 47, 51, 48]⟩] (.tuple #[.agg #[.bool false, .int .u64 0, .int .u64 0, .int .i64 0], .int .i64 2]) := gRr (six := false) (hi := 0) (lo := 0) (b := 0) (e := 2) (by decide) (by decide +kernel)
theorem l54 : GG 32 #[.agg #[.bool false, .int .u64 0, .int .u64 167772160, .int .i64 30]] (.int .i64 4) := gSr (six := false) (hi := 0) (lo := 167772160) (n := 30) (z := 4) fit0 (by decide +kernel)
theorem l55 : GG 30 #[.int .u8 10, .int .u8 0, .int .u8 0, .int .u8 3] (.agg #[.bool false, .int .u64 0, .int .u64 167772163]) := gFr 10 0 0 3
theorem eq5 (wx : World) : (Op.equalIn 10000 24 (.agg #[.bool false, .int .u64 0, .int .u64 167772163]) (.agg #[.bool false, .int .u64 0, .int .u64 167772163])).run Tryz.prog wx = .ok true wx := (ad_equal false 0 167772163 false 0 167772163 wx).trans (by rw [decide_eq_true rfl])
set_option maxHeartbeats 2000000 in
theorem lives5 : GG 26 #[] (.bool true) := fun w hg => by
  have HG := Lib.hid hg
  clear hg
  go_enter Tryz.func26, Tryz.ntmps26
  go_wp2_with (first | (go_at_call 27; (first | ((with_reducible refine (l51.go _ HG.out).mono ?_); rintro e w1 ⟨rfl, hb1⟩; have HB1 := Lib.hid (hb1.alloc hb1.size (.cells #[.bool false, .int .u64 0, .int .u64 167772160, .int .i64 30] 41)); clear hb1; have HR1 : Hid (RgB (w1.alloc (.cells #[.bool false, .int .u64 0, .int .u64 167772160, .int .i64 30] 41)) w1.heap.size false 0 167772160 30) := Lib.hid (Lies.new _ _ _)) | ((with_reducible refine (l53.go _ (HG.out.next HB2.out)).mono ?_); rintro e w3 ⟨rfl, hb3⟩; have HB3 := Lib.hid (next HB2.out hb3); have HB4 := Lib.hid (HB3.out.alloc HB3.out.size (.cells #[.bool false, .int .u64 0, .int .u64 0, .int .i64 0] 41)); have HR4 : Hid (RgB (w3.alloc (.cells #[.bool false, .int .u64 0, .int .u64 0, .int .i64 0] 41)) w1.heap.size false 0 167772160 30) := Lib.hid ((Lies.next HR2.out hb3).alloc _); have HA4 : Hid (AdB (w3.alloc (.cells #[.bool false, .int .u64 0, .int .u64 0, .int .i64 0] 41)) w2.heap.size false 0 167772163) := Lib.hid ((Lies.next HA2.out hb3).alloc _); clear hb3))) | (go_at_call 31; (with_reducible refine (l52.go _ (HG.out.next HB1.out)).mono ?_); rintro e w2 ⟨rfl, hb2⟩; have HR2 : Hid (RgB (w2.alloc (.cells #[.bool false, .int .u64 0, .int .u64 167772163] 24)) w1.heap.size false 0 167772160 30) := Lib.hid ((Lies.next HR1.out hb2).alloc _); have HA2 : Hid (AdB (w2.alloc (.cells #[.bool false, .int .u64 0, .int .u64 167772163] 24)) w2.heap.size false 0 167772163) := Lib.hid (Lies.new _ _ _); have hb2' := next HB1.out hb2; have HB2 := Lib.hid (hb2'.alloc hb2'.size (.cells #[.bool false, .int .u64 0, .int .u64 167772163] 24)); clear hb2 hb2') | fail)
  obtain ⟨w4, hw4⟩ : ∃ w4, w4 = w3.alloc (.cells #[.bool false, .int .u64 0, .int .u64 0, .int .i64 0] 41) := ⟨_, rfl⟩
  rw [← hw4] at HB4 HR4 HA4 ⊢
  clear hw4
  obtain ⟨Ix, f, i0, hf0, hCn', hstep'⟩ := class_of w4
  have HCn := Lib.hid hCn'
  have Hstep := Lib.hid hstep'
  clear hCn' hstep'
  haveI : Nonempty Ix := ⟨i0⟩
  have k0 : ∀ m, (f m).cell? ⟨w1.heap.size, 0, none⟩ = some (.bool false) := fun m => (Lies.next HR4.out (HCn.out m)).cell 0
  have k1 : ∀ m, (f m).cell? ⟨w1.heap.size, 1, none⟩ = some (.int .u64 0) := fun m => (Lies.next HR4.out (HCn.out m)).cell 1
  have k2 : ∀ m, (f m).cell? ⟨w1.heap.size, 2, none⟩ = some (.int .u64 167772160) := fun m => (Lies.next HR4.out (HCn.out m)).cell 2
  have k3 : ∀ m, (f m).cell? ⟨w1.heap.size, 3, none⟩ = some (.int .i64 30) := fun m => (Lies.next HR4.out (HCn.out m)).cell 3
  have a0 : ∀ m, (f m).cell? ⟨w2.heap.size, 0, none⟩ = some (.bool false) := fun m => (Lies.next HA4.out (HCn.out m)).cell 0
  have a1 : ∀ m, (f m).cell? ⟨w2.heap.size, 1, none⟩ = some (.int .u64 0) := fun m => (Lies.next HA4.out (HCn.out m)).cell 1
  have a2 : ∀ m, (f m).cell? ⟨w2.heap.size, 2, none⟩ = some (.int .u64 167772163) := fun m => (Lies.next HA4.out (HCn.out m)).cell 2
  have V0 := Lib.hid (class_go l54 (HG.out.next HB4.out) HCn.out Hstep.out)
  have V1 := Lib.hid (class_go l55 (HG.out.next HB4.out) HCn.out Hstep.out)
  have EQ := eq5
  refine wp_region_class f (by kernel_rfl) (lexB_of (by kernel_rfl) (by as_aux_lemma => kernel_rfl)) i0 hf0 ?_
  clear hf0
  repeat (go_big_quiet_step (first | (with_reducible exact V0.out _) | (with_reducible exact V1.out _)))
  all_goals
    refine wpQuiet_nil ?_
    intro _ hw'
    obtain ⟨nE, hw''⟩ := hw'
    subst hw''
    have hbE := next HB4.out (HCn.out nE)
    go_wp2
    go_ret
    exact ⟨rfl, hbE⟩
end Go.Proofs.YtpmlldgjbmingaaGreatDoor
namespace Go.Proofs.YtpmlldgjbmingaaGreatDoor
open Go.RowKit Go.Maps
set_option linter.unusedVariables false

theorem ret_rg {fn : Func} {p : Tmp} (h : fn.results = #[.cell p 41]) (tmps : Array Value) (w : World) (g : Nat) (a : Ad) (n : Int) (hp : tmps.getD p undef = .pointer (some ⟨g, 0, none⟩))
    (hg : Lies w g 41 #[.bool a.1, .int .u64 (a.2.1 : Int), .int .u64 (a.2.2 : Int), .int .i64 n]) : (results fn tmps).run Tryz.prog w = .ok (rv a n) w :=
  results_cell_row h tmps w g _ _ _ _ hp hg Tryz.underlying41 rfl infoRg
theorem narrower_any (six : Bool) (hi lo : Nat) (n : Int) (s : Bool) (ah al : Nat) (m : Int) (w : World) :
    Calls Tryz.prog 131 #[.agg #[.bool six, .int .u64 (hi : Int), .int .u64 (lo : Int), .int .i64 n], .agg #[.bool s, .int .u64 (ah : Int), .int .u64 (al : Int), .int .i64 m]] w fun e w' => e = .returned (rv (narR (six, hi, lo) n (s, ah, al) m).1 (narR (six, hi, lo) n (s, ah, al) m).2) ∧ Below w.heap.size w w' := by
  have HB : Hid (∀ o p q : Obj, Below w.heap.size w (((w.alloc o).alloc p).alloc q)) := Lib.hid fun o p q => (((Below.refl _ _).alloc (Nat.le_refl _) o).alloc (by simp) p).alloc (by simp; omega) q
  have HL : Hid (∀ (o p : Obj) (t : TypeId) (cs : Array Value), Lies (((w.alloc o).alloc p).alloc (.cells cs t)) (w.heap.size + 1 + 1) t cs) := Lib.hid fun o p t cs => by
    have := Lies.new ((w.alloc o).alloc p) t cs
    simpa using this
  unfold narR
  by_cases h : m < n
  · rw [if_pos h]
    have hd : decide (m < n) = true := by simpa using h
    go_enter Tryz.func131, Tryz.ntmps131
    go_wp2
    refine bodyPost_ret (ret_rg rfl _ _ (w.heap.size + 1 + 1) (six, hi, lo) n rfl (HL.out _ _ _ _)) rfl ?_
    exact ⟨rfl, HB.out _ _ _⟩
  · rw [if_neg h]
    have hd : decide (m < n) = false := by simpa using h
    go_enter Tryz.func131, Tryz.ntmps131
    go_wp2
    refine bodyPost_ret (ret_rg rfl _ _ (w.heap.size + 1 + 1) (s, ah, al) m rfl (HL.out _ _ _ _)) rfl ?_
    exact ⟨rfl, HB.out _ _ _⟩
/-! ### A row of ranges -/
structure RgCells (w : World) (g o : Nat) (x : Ad × Int) : Prop where
  c0 : w.cell? ⟨g, o, none⟩ = some (.bool x.1.1)
  c1 : w.cell? ⟨g, o + 1, none⟩ = some (.int .u64 (x.1.2.1 : Int))
  c2 : w.cell? ⟨g, o + 2, none⟩ = some (.int .u64 (x.1.2.2 : Int))
  c3 : w.cell? ⟨g, o + 3, none⟩ = some (.int .i64 x.2)
theorem RgCells.below {w w' : World} {g o k : Nat} {x : Ad × Int} (h : RgCells w g o x) (hb : Below k w w') (hk : g < k) : RgCells w' g o x :=
  ⟨(hb.cell (p := ⟨g, o, none⟩) hk).trans h.c0, (hb.cell (p := ⟨g, o + 1, none⟩) hk).trans h.c1, (hb.cell (p := ⟨g, o + 2, none⟩) hk).trans h.c2, (hb.cell (p := ⟨g, o + 3, none⟩) hk).trans h.c3⟩
/-- A slice of ranges, as it can be read. -/
structure RgRow (w : World) (v : Value) (L : List (Ad × Int)) : Prop where
  shape : ∃ A cap, v = .slice A L.length cap ∧ L.length ≤ cap ∧ cap ≤ maxLen ∧ ∀ j (h : j < L.length), ∃ g o, A = some ⟨g, o, none⟩ ∧ g < w.heap.size ∧ RgCells w g (o + j * 4) L[j]
  fits : ∀ x ∈ L, fitA x.1
theorem stepR_le {r : Ad} {n : Int} {M : Ad → Nat} {o : Ad × Int} (h : ∀ a, M a ≤ 65536) : ∀ a, stepR r n M o a ≤ 65536 := by
  intro a
  unfold stepR
  split
  · unfold updA
    split
    · exact Nat.max_le.2 ⟨h _, sizeR_le _ _⟩
    · exact h a
  · exact h a
theorem runsR_le (r : Ad) (n : Int) : ∀ (L : List (Ad × Int)) (M : Ad → Nat), (∀ a, M a ≤ 65536) → ∀ a, L.foldl (stepR r n) M a ≤ 65536
  | [], M, h => h
  | o :: L, M, h => runsR_le r n L _ (stepR_le h)
theorem runs_snoc (r : Ad) (n : Int) (L : List (Ad × Int)) (k : Nat) (h : k < L.length) : runsR r n (L.take (k + 1)) = stepR r n (runsR r n (L.take k)) L[k] := by
  unfold runsR
  rw [List.take_succ_eq_append_getElem h, List.foldl_append]
  rfl
theorem narR_fit {r : Ad} {n : Int} {s : Ad} {m : Int} (h1 : fitA r) (h2 : fitA s) : fitA (narR r n s m).1 := by
  unfold narR
  split
  · exact h1
  · exact h2
end Go.Proofs.YtpmlldgjbmingaaGreatDoor
