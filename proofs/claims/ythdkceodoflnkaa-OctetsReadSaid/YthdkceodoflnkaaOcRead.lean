/-
  The walk of the law OctetsRead. No condition beyond that each argument fits its kind.
-/
import Derived.Test.YthdkceodoflnkaaOcAct
import Derived.Test.YthdkceodoflnkaaOcTwo
import Derived.Test.YthdkceodoflnkaaOcRefR
import Derived.Test.YthdkceodoflnkaaPick
import Derived.Deep.RegionHeld3
import Derived.Deep.DrawnRows
namespace Go.Proofs.Ythdkceodoflnkaa
open Go.RowKit
set_option linter.unusedVariables false
attribute [local go_sem ↓] Go.wp_at_zero Go.wp_at_succ

/-- A reader and the document's, side by side, at one place. -/
structure TwoR (w0 w : World) (gr gf : Nat) (S : ByteArray) (k k' : Nat) : Prop where
  rd : RD w gr S k
  rf : RF w gf S k'
  below : Below w0.heap.size w0 w
  r0 : w0.heap.size ≤ gr
  f0 : w0.heap.size ≤ gf
theorem TwoR.ne {w0 w : World} {gr gf k k' : Nat} {S : ByteArray} (h : TwoR w0 w gr gf S k k') : gr ≠ gf := Lies.ne h.rd h.rf (by decide)
theorem TwoR.read {w0 w w' : World} {gr gf k k' j : Nat} {S : ByteArray} (h : TwoR w0 w gr gf S k k') (hr : RD w' gr S j) (hg : w.grownBy w' (some gr)) : TwoR w0 w' gr gf S j k' :=
  ⟨hr, Lies.grown h.rf hg (fun e => h.ne (by injection e with e; exact e.symm)), below_obj h.below hg h.r0, h.r0, h.f0⟩
theorem TwoR.refr {w0 w w' : World} {gr gf k k' j : Nat} {S : ByteArray} (h : TwoR w0 w gr gf S k k') (hr : RF w' gf S j) (hg : w.grownBy w' (some gf)) : TwoR w0 w' gr gf S k j :=
  ⟨Lies.grown h.rd hg (fun e => h.ne (by injection e)), hr, below_obj h.below hg h.f0, h.r0, h.f0⟩
theorem TwoR.drewN {w0 w : World} {gr gf k k' : Nat} {S : ByteArray} (h : TwoR w0 w gr gf S k k') (n : Nat) : TwoR w0 (w.drewN n) gr gf S k k' := ⟨h.rd, h.rf, below_drewN h.below n, h.r0, h.f0⟩

/-- The relation of the law's loop. -/
def RdRel (w0 : World) (S : ByteArray) (L : List Ac) (gr gf : Nat) (i : Value) (wr : World) : Prop :=
  ∃ k j : Nat, i = .int .i64 k ∧ k ≤ L.length ∧ j ≤ S.size ∧ TwoR w0 wr gr gf S j j

section
variable (s : ByteArray) (j : Nat) (n : Int) (gr gf : Nat)
theorem both_number (hs : s.size ≤ maxLen) (hj : j ≤ s.size) : ∃ N E j' : Nat, j' ≤ s.size ∧
    (∀ wx, RD wx gr s j → Calls Try.prog 12 #[.pointer (some ⟨gr, 0, none⟩), .int .i64 n] wx (Rdr wx gr s j' (.tuple #[.int .u32 N, .int .i64 E]))) ∧
    (∀ wx, RF wx gf s j → Calls Try.prog 24 #[.pointer (some ⟨gf, 0, none⟩), .int .i64 n] wx (Rfr wx gf s j' (.tuple #[.int .u32 N, .int .i64 E]))) :=
  ⟨_, _, _, by have := numR_le (bs s) j n (by rw [bs_length]; exact hj); rw [bs_length] at this; exact this, fun wx h => rNumber_any n h hs hj, fun wx h => fNumber_any n h hs hj⟩
theorem both_take (hs : s.size ≤ maxLen) (hj : j ≤ s.size) : ∃ (T : ByteArray) (E j' : Nat), j' ≤ s.size ∧
    (∀ wx, RD wx gr s j → Calls Try.prog 13 #[.pointer (some ⟨gr, 0, none⟩), .int .i64 n] wx (Rdr wx gr s j' (.tuple #[.string T, .int .i64 E]))) ∧
    (∀ wx, RF wx gf s j → Calls Try.prog 25 #[.pointer (some ⟨gf, 0, none⟩), .int .i64 n] wx (Rfr wx gf s j' (.tuple #[.string T, .int .i64 E]))) :=
  ⟨_, _, _, by have := takR_le (bs s) j n (by rw [bs_length]; exact hj); rw [bs_length] at this; exact this, fun wx h => rTake_any n h hs hj, fun wx h => fTake_any n h hs hj⟩
theorem both_seek (hs : s.size ≤ maxLen) (hj : j ≤ s.size) : ∃ E j' : Nat, j' ≤ s.size ∧
    (∀ wx, RD wx gr s j → Calls Try.prog 14 #[.pointer (some ⟨gr, 0, none⟩), .int .i64 n] wx (Rdr wx gr s j' (.int .i64 E))) ∧
    (∀ wx, RF wx gf s j → Calls Try.prog 26 #[.pointer (some ⟨gf, 0, none⟩), .int .i64 n] wx (Rfr wx gf s j' (.int .i64 E))) :=
  ⟨_, _, by have := seekR_le (bs s) j n (by rw [bs_length]; exact hj); rw [bs_length] at this; exact this, fun wx h => rSeek_any n h hs hj, fun wx h => fSeek_any n h hs⟩
end

set_option maxHeartbeats 8000000 in
set_option maxRecDepth 100000 in
theorem OctetsRead_loop (s : ByteArray) (v : Value) (L : List Ac) (hs : s.size ≤ 200) (w : World) (hrow : ARow w v L) (hL : L.length ≤ 200) :
    Calls Try.prog 4 #[.string s, v] w fun e w' => e = .returned (.bool true) ∧ Below w.heap.size w w' := by
  obtain ⟨⟨A, cap, rfl, hcap, hcm, hcells⟩, hfits⟩ := hrow
  have HCE := Lib.hid hcells
  have HFI := Lib.hid hfits
  have hsm : s.size ≤ maxLen := by unfold maxLen; omega
  have HSM := Lib.hid hsm
  have h1 : ¬ 200 < s.size := by omega
  have h2 : ¬ 200 < L.length := by omega
  unfold maxLen at hcm
  clear hcells hfits hsm
  go_enter Try.func4, Try.ntmps4
  go_wp2_with (first | (go_at_call 9; refine (lives_any _).mono ?_; rintro e w1 ⟨rfl, hb1⟩; have HB1 := Lib.hid hb1; clear hb1) | (go_at_call 10; refine (NewReader_any s _).mono ?_; rintro e w2 ⟨rfl, hr2, hb2⟩; have HR2 := Lib.hid hr2; have HB2 := Lib.hid (kp_first HB1.out hb2); clear hr2 hb2))
  have HR0 : Hid (RdRel w s L w1.heap.size w2.heap.size (.int .i64 0) (w2.alloc (.cells #[.string s, .int .i64 0] 43))) := Lib.hid ⟨0, 0, rfl, Nat.zero_le _, Nat.zero_le _, ⟨Lies.alloc HR2.out _, Lies.new _ _ _, HB2.out.alloc HB2.out.size _, HB1.out.size, HB2.out.size⟩⟩
  obtain ⟨gr, hgr⟩ : ∃ gr, gr = w1.heap.size := ⟨_, rfl⟩
  obtain ⟨gf, hgf⟩ : ∃ gf, gf = w2.heap.size := ⟨_, rfl⟩
  rw [← hgr, ← hgf] at HR0
  rw [← hgr, ← hgf]
  clear HR2 HB2 HB1 hgr hgf
  go_loopw [7] (fun i wr => RdRel w s L gr gf i wr) (fun i _ => L.length - (intOf i).toNat)
  case atStart => exact HR0.out
  case round =>
    clear HR0
    obtain ⟨k, j, rfl, hk, hj, h2⟩ := hrel
    have H2 := Lib.hid h2
    clear h2
    rcases Nat.lt_or_ge k L.length with hlt | hge
    · obtain ⟨g, o, rfl, hgl, hat⟩ := HCE.out k hlt
      obtain ⟨x, hx⟩ : ∃ x, x = L[k] := ⟨_, rfl⟩
      rw [← hx] at hat
      have HAT := Lib.hid hat
      have HGL := Lib.hid hgl
      have hc2 := (HAT.out.below H2.out.below HGL.out).n
      have hk2 := (HAT.out.below H2.out.below HGL.out).kind
      have hp : pick x.kind 3 = 0 ∨ pick x.kind 3 = 1 ∨ pick x.kind 3 = 2 := by
        have := pick_range (i := x.kind) (n := 3) (by decide)
        omega
      have HPK := Lib.hid (fun wx => Pick_any x.kind 3 wx (by decide) (by decide))
      clear hat hx
      rcases hp with hp | hp | hp
      · rw [hp] at HPK
        obtain ⟨N, E, j', hj', hrn, hfn⟩ := both_number s j x.n gr gf HSM.out hj
        have HRN := Lib.hid hrn
        have HFN := Lib.hid hfn
        clear hp hrn hfn
        go_wp2_with (first | (go_at_call 23; refine (HPK.out _).mono ?_; rintro e w' ⟨rfl, rfl⟩) | (go_at_call 12; refine (HRN.out _ H2.out.rd).mono ?_; rintro e w3 ⟨rfl, hr, hg⟩; have H3 := Lib.hid (H2.out.read hr hg); clear hr hg; have hc3 := (HAT.out.below H3.out.below HGL.out).n) | (go_at_call 24; refine (HFN.out _ H3.out.rf).mono ?_; rintro e w4 ⟨rfl, hr, hg⟩; have H4 := Lib.hid (H3.out.refr hr hg); clear hr hg))
        have hF : w4.cell? ⟨gf, 1, none⟩ = some (.int .i64 j') := H4.out.rf.cell 1
        have hw : IntKind.i64.wrap ((s.size : Int) - j') = (s.size : Int) - j' := IntWalk.i64_in _ (by omega)
        go_quiet (first | (go_at_call 18; exact Calls.quiet_of_same ((rAt_any (H4.out.drewN _).rd).mono fun _ _ h => ⟨h.1, h.2.symm⟩)) | (go_at_call 19; exact Calls.quiet_of (rLeft_any (H4.out.drewN _).rd HSM.out hj')))
        clear hw
        go_wp2
        go_roundw
        case rel => exact ⟨k + 1, j', by go_num, by omega, hj', H4.out.drewN _⟩
        case measure => simp [intOf]; omega
      · rw [hp] at HPK
        obtain ⟨T, E, j', hj', hrn, hfn⟩ := both_take s j x.n gr gf HSM.out hj
        have HRN := Lib.hid hrn
        have HFN := Lib.hid hfn
        clear hp hrn hfn
        go_wp2_with (first | (go_at_call 23; refine (HPK.out _).mono ?_; rintro e w' ⟨rfl, rfl⟩) | (go_at_call 13; refine (HRN.out _ H2.out.rd).mono ?_; rintro e w3 ⟨rfl, hr, hg⟩; have H3 := Lib.hid (H2.out.read hr hg); clear hr hg; have hc3 := (HAT.out.below H3.out.below HGL.out).n) | (go_at_call 25; refine (HFN.out _ H3.out.rf).mono ?_; rintro e w4 ⟨rfl, hr, hg⟩; have H4 := Lib.hid (H3.out.refr hr hg); clear hr hg))
        have hF : w4.cell? ⟨gf, 1, none⟩ = some (.int .i64 j') := H4.out.rf.cell 1
        have hw : IntKind.i64.wrap ((s.size : Int) - j') = (s.size : Int) - j' := IntWalk.i64_in _ (by omega)
        go_quiet (first | (go_at_call 18; exact Calls.quiet_of_same ((rAt_any (H4.out.drewN _).rd).mono fun _ _ h => ⟨h.1, h.2.symm⟩)) | (go_at_call 19; exact Calls.quiet_of (rLeft_any (H4.out.drewN _).rd HSM.out hj')))
        clear hw
        go_wp2
        go_roundw
        case rel => exact ⟨k + 1, j', by go_num, by omega, hj', H4.out.drewN _⟩
        case measure => simp [intOf]; omega
      · rw [hp] at HPK
        obtain ⟨E, j', hj', hrn, hfn⟩ := both_seek s j x.n gr gf HSM.out hj
        have HRN := Lib.hid hrn
        have HFN := Lib.hid hfn
        have HC1 := Lib.hid (fun (wx : World) (hb : Below w.heap.size w wx) => (HAT.out.below hb HGL.out).n)
        clear hp hrn hfn
        have hi1 : (0 : Int) ≤ (k : Int) := by omega
        have hi2 : (k : Int) < (L.length : Int) := by omega
        go_wp2_with (go_at_call 23; refine (HPK.out _).mono ?_; rintro e w' ⟨rfl, rfl⟩)
        go_region_held3 (fun w' => w'.cell? ⟨g, o + k * 4 + 1, none⟩ = some (.int .i64 x.n)) (first | go_keep | exact HC1.out _ H4.out.below | exact HC1.out _ H3.out.below) (first | (go_at_call 14; refine (HRN.out _ H3.out.rd).mono ?_; rintro e w4 ⟨rfl, hr, hg⟩; have H4 := Lib.hid (H3.out.read hr hg); clear hr hg) | (go_at_call 26; refine (HFN.out _ H3.out.rf).mono ?_; rintro e w4 ⟨rfl, hr, hg⟩; have H4 := Lib.hid (H3.out.refr hr hg); clear hr hg) | (go_at_call 14; refine (HRN.out _ (H2.out.drewN 1).rd).mono ?_; rintro e w3 ⟨rfl, hr, hg⟩; have H3 := Lib.hid ((H2.out.drewN 1).read hr hg); clear hr hg) | (go_at_call 26; refine (HFN.out _ (H2.out.drewN 1).rf).mono ?_; rintro e w3 ⟨rfl, hr, hg⟩; have H3 := Lib.hid ((H2.out.drewN 1).refr hr hg); clear hr hg))
        all_goals
          go_wp2
          have hF : w4.cell? ⟨gf, 1, none⟩ = some (.int .i64 j') := H4.out.rf.cell 1
          have hw : IntKind.i64.wrap ((s.size : Int) - j') = (s.size : Int) - j' := IntWalk.i64_in _ (by omega)
          go_quiet (first | (go_at_call 18; exact Calls.quiet_of_same ((rAt_any (H4.out.drewN _).rd).mono fun _ _ h => ⟨h.1, h.2.symm⟩)) | (go_at_call 19; exact Calls.quiet_of (rLeft_any (H4.out.drewN _).rd HSM.out hj')))
          clear hw
          go_wp2
          go_roundw
          case rel => exact ⟨k + 1, j', by go_num, by omega, hj', H4.out.drewN _⟩
          case measure => simp [intOf]; omega
    · go_wp2
      go_ret
      exact ⟨rfl, H2.out.below⟩

set_option maxHeartbeats 1000000 in
set_option maxRecDepth 100000 in
theorem OctetsRead_long (s : ByteArray) (v : Value) (L : List Ac) (w : World) (hrow : ARow w v L) (h : 200 < s.size ∨ (s.size ≤ 200 ∧ 200 < L.length)) (hsm : s.size ≤ maxLen) :
    Calls Try.prog 4 #[.string s, v] w fun e w' => e = .returned (.bool true) ∧ Below w.heap.size w w' := by
  obtain ⟨⟨A, cap, rfl, hcap, hcm, _⟩, _⟩ := hrow
  unfold maxLen at hcm hsm
  rcases h with h | ⟨h1, h⟩
  · go_enter Try.func4, Try.ntmps4
    go_wp2_with (go_at_call 9; refine (lives_any _).mono ?_; rintro e w1 ⟨rfl, hb1⟩; have HB1 := Lib.hid hb1; clear hb1)
    go_ret
    exact ⟨rfl, HB1.out⟩
  · have h1' : ¬ 200 < s.size := by omega
    go_enter Try.func4, Try.ntmps4
    go_wp2_with (go_at_call 9; refine (lives_any _).mono ?_; rintro e w1 ⟨rfl, hb1⟩; have HB1 := Lib.hid hb1; clear hb1)
    go_ret
    exact ⟨rfl, HB1.out⟩
theorem OctetsRead_walk (s : ByteArray) (v : Value) (hs : s.size ≤ maxLen) (w : World) (L : List Ac) (hrow : ARow w v L) :
    Calls Try.prog 4 #[.string s, v] w fun e w' => e = .returned (.bool true) ∧ Below w.heap.size w w' := by
  by_cases h : 200 < s.size ∨ (s.size ≤ 200 ∧ 200 < L.length)
  · exact OctetsRead_long s v L w hrow h hs
  · exact OctetsRead_loop s v L (by omega) w hrow (by omega)
end Go.Proofs.Ythdkceodoflnkaa
