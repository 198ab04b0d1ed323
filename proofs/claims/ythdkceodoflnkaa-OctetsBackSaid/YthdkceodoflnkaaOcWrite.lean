/-
  The walk of the law OctetsWrite. No condition beyond that each argument fits its kind.
-/
import Derived.Test.YthdkceodoflnkaaOcAct
import Derived.Test.YthdkceodoflnkaaOcTwo
import Derived.Test.YthdkceodoflnkaaOcRefW
import Derived.Test.YthdkceodoflnkaaPick
import Derived.Deep.RegionHeld3
import Derived.Deep.DrawnRows
namespace Go.Proofs.Ythdkceodoflnkaa
open Go.RowKit
set_option linter.unusedVariables false
attribute [local go_sem ↓] Go.wp_at_zero Go.wp_at_succ

theorem wf_int' {k : IntKind} {n : Int} (h : (Lit.int k n).wf = true) : k.min ≤ n ∧ n ≤ k.max := by simpa [Lit.wf] using h

/-- A writer and the document's, side by side: the one has S, f, the other S', f'. -/
structure TwoW (w0 w : World) (gw gf M : Nat) (S : ByteArray) (f : Nat) (S' : ByteArray) (f' : Nat) : Prop where
  wr : WR w gw gw M (bs S) f
  wf : WF w gf M S' f'
  below : Below w0.heap.size w0 w
  b0 : w0.heap.size ≤ gw
  f0 : w0.heap.size ≤ gf
  ne : gf ≠ gw
section
variable {w0 w w' : World} {gw gf M f f' j : Nat} {S S' T : ByteArray}
theorem TwoW.write (h : TwoW w0 w gw gf M S f S' f') (hw : WR w' gw gw M (bs T) j) (hk : Kp gw gw w w') : TwoW w0 w' gw gf M T j S' f' :=
  ⟨hw, hk.lies h.wr h.wf h.ne (by decide), h.below.trans (hk.below.mono h.b0), h.b0, h.f0, h.ne⟩
theorem TwoW.refw (h : TwoW w0 w gw gf M S f S' f') (hw : WF w' gf M T j) (hg : w.grownBy w' (some gf)) : TwoW w0 w' gw gf M S f T j :=
  ⟨h.wr.grown hg h.wf h.ne (by decide), hw, below_obj h.below hg h.f0, h.b0, h.f0, h.ne⟩
theorem TwoW.drewN (h : TwoW w0 w gw gf M S f S' f') (n : Nat) : TwoW w0 (w.drewN n) gw gf M S f S' f' := ⟨h.wr, h.wf, below_drewN h.below n, h.b0, h.f0, h.ne⟩
end

section
variable {S : ByteArray} {M f : Nat} (gw gf : Nat)
theorem putW_len (M : Nat) (l : List UInt8) (f : Nat) (s : List UInt8) : (putW M l f s).l.length ≤ l.length + s.length := by
  unfold putW
  split
  · show l.length ≤ _; omega
  · split
    · show l.length ≤ _; omega
    · show (l ++ s).length ≤ _; rw [List.length_append]; exact Nat.le_refl _
theorem numW_len (M : Nat) (l : List UInt8) (f v : Nat) (n : Int) : (numW M l f v n).l.length ≤ l.length + 4 := by
  unfold numW
  split
  · show l.length ≤ _; omega
  · split
    · show l.length ≤ _; omega
    · rename_i h
      have h1 : room v n = true := by cases hr : room v n <;> simp_all
      obtain ⟨h2, h3, _⟩ := room_yes h1
      have := putW_len M l f (octs v n.toNat)
      rw [octs_length] at this
      omega
/-- What both writers do alike: the answer E; they have S', f' then. -/
structure Both (fw ff : FuncId) (args : List Value) (S : ByteArray) (M f : Nat) (E : Nat) (S' : ByteArray) (f' : Nat) : Prop where
  le : S'.size ≤ M
  wr : ∀ wx, WR wx gw gw M (bs S) f → Calls Try.prog fw (Value.pointer (some ⟨gw, 0, none⟩) :: args).toArray wx (Wtr wx gw gw M (bs S') f' (.int .i64 E))
  wf : ∀ wx, WF wx gf M S f → Calls Try.prog ff (Value.pointer (some ⟨gf, 0, none⟩) :: args).toArray wx fun e w' => e = .returned (.int .i64 E) ∧ WF w' gf M S' f' ∧ wx.grownBy w' (some gf)
theorem both_put (s : ByteArray) (hl : S.size ≤ M) (hM : M ≤ 9223372036854775807) (hll : S.size ≤ 1099511627776) (hs : s.size ≤ 1099511627776) :
    ∃ (E : Nat) (S' : ByteArray) (f' : Nat), S'.size ≤ S.size + s.size ∧ Both gw gf 16 29 [.string s] S M f E S' f' := by
  have h1 := putW_len M (bs S) f (bs s)
  have h2 := putW_le (M := M) (l := bs S) f (bs s) (by rw [bs_length]; exact hl)
  rw [bs_length, bs_length] at h1
  refine ⟨(putW M (bs S) f (bs s)).e, ⟨(putW M (bs S) f (bs s)).l.toArray⟩, (putW M (bs S) f (bs s)).f, by rw [tosize]; exact h1, by rw [tosize]; exact h2, fun wx h => ?_, fun wx h => ?_⟩
  · rw [bs_mk]
    exact wPut_any s h (Nat.le_refl _) (by rw [bs_length]; exact hl) hM (by rw [bs_length]; exact hll) hs
  · exact fPut_any s h hl hM hll hs
theorem both_num (v : Nat) (n : Int) (hv : v < 4294967296) (hl : S.size ≤ M) (hM : M ≤ 9223372036854775807) (hll : S.size ≤ 1099511627776) :
    ∃ (E : Nat) (S' : ByteArray) (f' : Nat), S'.size ≤ S.size + 4 ∧ Both gw gf 15 28 [.int .u32 v, .int .i64 n] S M f E S' f' := by
  have h1 := numW_len M (bs S) f v n
  have h2 := numW_le (M := M) (l := bs S) f v n (by rw [bs_length]; exact hl)
  rw [bs_length] at h1
  refine ⟨(numW M (bs S) f v n).e, ⟨(numW M (bs S) f v n).l.toArray⟩, (numW M (bs S) f v n).f, by rw [tosize]; exact h1, by rw [tosize]; exact h2, fun wx h => ?_, fun wx h => ?_⟩
  · rw [bs_mk]
    exact wNumber_any v n h hv (Nat.le_refl _) (by rw [bs_length]; exact hl) hM (by rw [bs_length]; exact hll)
  · exact fNumberW_any v n h hv hl hM hll
theorem both_pat (a : Int) (v : Nat) (n : Int) (hv : v < 4294967296) (hl : S.size ≤ M) (hll : S.size ≤ 1099511627776) :
    ∃ (E : Nat) (S' : ByteArray) (f' : Nat), S'.size ≤ S.size ∧ Both gw gf 17 30 [.int .i64 a, .int .u32 v, .int .i64 n] S M f E S' f' := by
  have h1 := patW_len (l := bs S) f a v n
  rw [bs_length] at h1
  refine ⟨(patW (bs S) f a v n).e, ⟨(patW (bs S) f a v n).l.toArray⟩, (patW (bs S) f a v n).f, by rw [tosize]; exact Nat.le_of_eq h1, by rw [tosize]; omega, fun wx h => ?_, fun wx h => ?_⟩
  · rw [bs_mk]
    exact wPatch_any a v n h hv (Nat.le_refl _) (by rw [bs_length]; exact hll)
  · exact fPatch_any a v n h hv hll
theorem textS {w : World} {gw : Nat} (h : WR w gw gw M (bs S) f) : Calls Try.prog 21 #[.pointer (some ⟨gw, 0, none⟩)] w fun e w' => e = .returned (.string S) ∧ w' = w := by
  have := wText_any h
  rw [same_str] at this
  exact this.mono fun _ _ h => ⟨h.1, h.2.symm⟩
theorem lenS {w : World} {gw : Nat} (h : WR w gw gw M (bs S) f) : Calls Try.prog 22 #[.pointer (some ⟨gw, 0, none⟩)] w fun e w' => e = .returned (.int .i64 S.size) ∧ w' = w := by
  have := wLen_any h
  rw [bs_length] at this
  exact this.mono fun _ _ h => ⟨h.1, h.2.symm⟩
end

/-- The relation of the law's loop. -/
def WrRel (w0 : World) (L : List Ac) (gw gf M : Nat) (i : Value) (wr : World) : Prop :=
  ∃ (k : Nat) (S : ByteArray) (f : Nat), i = .int .i64 k ∧ k ≤ L.length ∧ S.size ≤ M ∧ S.size ≤ 200 * k ∧ TwoW w0 wr gw gf M S f S f

set_option maxHeartbeats 8000000 in
set_option maxRecDepth 100000 in
theorem OctetsWrite_loop (room_ : Int) (v : Value) (hroom : room_ ≤ 9223372036854775807) (w : World) (L : List Ac) (hrow : ARow w v L) (hL : L.length ≤ 200) :
    Calls Try.prog 5 #[.int .i64 room_, v] w fun e w' => e = .returned (.bool true) ∧ Below w.heap.size w w' := by
  obtain ⟨⟨A, cap, rfl, hcap, hcm, hcells⟩, hfits⟩ := hrow
  have HCE := Lib.hid hcells
  have HFI := Lib.hid hfits
  have HN := Lib.hid (fun wx => NewWriter_any room_ wx hroom)
  have HF := Lib.hid (fun wx => fNewWriter_any room_ wx hroom)
  have hM : room_.toNat ≤ 9223372036854775807 := by omega
  obtain ⟨M, hMe⟩ : ∃ M, room_.toNat = M := ⟨_, rfl⟩
  rw [hMe] at HN HF hM
  have h2 : ¬ 200 < L.length := by omega
  unfold maxLen at hcm
  clear hcells hfits hroom hMe
  go_enter Try.func5, Try.ntmps5
  go_wp2_with (first | (go_at_call 9; refine (lives_any _).mono ?_; rintro e w1 ⟨rfl, hb1⟩; have HB1 := Lib.hid hb1; clear hb1) | (go_at_call 11; refine (HN.out _).mono ?_; rintro e w2 ⟨rfl, hw2, _, hb2⟩; have HW2 := Lib.hid hw2; have HB2 := Lib.hid (kp_first HB1.out hb2); clear hw2 hb2) | (go_at_call 27; refine (HF.out _).mono ?_; rintro e w3 ⟨rfl, hf3, hb3⟩; have HF3 := Lib.hid hf3; have HW3 := Lib.hid (HW2.out.next hb3); have HB3 := Lib.hid (kp_first HB2.out hb3); clear hf3 hb3))
  have HR0 : Hid (WrRel w L w1.heap.size w2.heap.size M (.int .i64 0) w3) := Lib.hid ⟨0, ⟨#[]⟩, 0, rfl, Nat.zero_le _, Nat.zero_le _, Nat.zero_le _, ⟨HW3.out, HF3.out, HB3.out, HB1.out.size, HB2.out.size, Nat.ne_of_gt HW2.out.lt⟩⟩
  obtain ⟨gw, hgw⟩ : ∃ gw, gw = w1.heap.size := ⟨_, rfl⟩
  obtain ⟨gf, hgf⟩ : ∃ gf, gf = w2.heap.size := ⟨_, rfl⟩
  rw [← hgw, ← hgf] at HR0
  rw [← hgw, ← hgf]
  clear HW2 HB2 HB1 HW3 HF3 HB3 hgw hgf
  go_loopw [7] (fun i wr => WrRel w L gw gf M i wr) (fun i _ => L.length - (intOf i).toNat)
  case atStart => exact HR0.out
  case round =>
    clear HR0
    obtain ⟨k, S, f, rfl, hk, hSM, hSk, h2⟩ := hrel
    have H3 := Lib.hid h2
    clear h2
    rcases Nat.lt_or_ge k L.length with hlt | hge
    · obtain ⟨g, o, rfl, hgl, hat⟩ := HCE.out k hlt
      obtain ⟨x, hx⟩ : ∃ x, x = L[k] := ⟨_, rfl⟩
      have HFX := Lib.hid (HFI.out L[k] (List.getElem_mem hlt))
      rw [← hx] at hat HFX
      have HAT := Lib.hid hat
      have HGL := Lib.hid hgl
      have hk2 := (HAT.out.below H3.out.below HGL.out).kind
      have hs2 := (HAT.out.below H3.out.below HGL.out).s
      have hp : pick x.kind 3 = 0 ∨ pick x.kind 3 = 1 ∨ pick x.kind 3 = 2 := by
        have := pick_range (i := x.kind) (n := 3) (by decide)
        omega
      have HPK := Lib.hid (fun wx => Pick_any x.kind 3 wx (by decide) (by decide))
      have HC1 := Lib.hid (fun (wx : World) (hb : Below w.heap.size w wx) => HAT.out.below hb HGL.out)
      have hi1 : (0 : Int) ≤ (k : Int) := by omega
      have hi2 : (k : Int) < (L.length : Int) := by omega
      clear hat hx
      rcases Nat.lt_or_ge 200 x.s.size with hlong | hlong
      · go_wp2
        go_ret
        exact ⟨rfl, H3.out.below⟩
      · have hlong' : ¬ 200 < x.s.size := by omega
        rcases hp with hp | hp | hp
        · rw [hp] at HPK
          obtain ⟨E, S', f', hS', hboth⟩ := both_num (S := S) (M := M) (f := f) gw gf x.v x.n HFX.out.v hSM hM (by omega)
          have HBO := Lib.hid hboth
          clear hp hboth
          go_wp2_with (go_at_call 23; refine (HPK.out _).mono ?_; rintro e w' ⟨rfl, rfl⟩)
          go_region_held3 (fun w' => w'.cell? ⟨g, o + k * 4 + 1, none⟩ = some (.int .i64 x.n) ∧ w'.cell? ⟨g, o + k * 4 + 2, none⟩ = some (.int .u32 x.v)) (first | exact ⟨(HC1.out _ H5.out.below).n, (HC1.out _ H5.out.below).v⟩ | exact ⟨(HC1.out _ H4.out.below).n, (HC1.out _ H4.out.below).v⟩ | exact ⟨(HC1.out _ (H3.out.drewN 1).below).n, (HC1.out _ (H3.out.drewN 1).below).v⟩) (first | (go_at_call 15; refine (HBO.out.wr _ H4.out.wr).mono ?_; rintro e w5 ⟨rfl, hw, hk⟩; have H5 := Lib.hid (H4.out.write hw hk); clear hw hk) | (go_at_call 28; refine (HBO.out.wf _ H4.out.wf).mono ?_; rintro e w5 ⟨rfl, hw, hg⟩; have H5 := Lib.hid (H4.out.refw hw hg); clear hw hg) | (go_at_call 15; refine (HBO.out.wr _ (H3.out.drewN 1).wr).mono ?_; rintro e w4 ⟨rfl, hw, hk⟩; have H4 := Lib.hid ((H3.out.drewN 1).write hw hk); clear hw hk) | (go_at_call 28; refine (HBO.out.wf _ (H3.out.drewN 1).wf).mono ?_; rintro e w4 ⟨rfl, hw, hg⟩; have H4 := Lib.hid ((H3.out.drewN 1).refw hw hg); clear hw hg))
          all_goals
            go_wp2
            have hF0 : w5.cell? ⟨gf, 0, none⟩ = some (.string S') := H5.out.wf.cell 0
            have hF2 : w5.cell? ⟨gf, 2, none⟩ = some (.int .i64 f') := H5.out.wf.cell 2
            go_quiet (first | (go_at_call 21; exact Calls.quiet_of_same (textS (H5.out.drewN _).wr)) | (go_at_call 22; exact Calls.quiet_of_same (lenS (H5.out.drewN _).wr)) | (go_at_call 20; exact Calls.quiet_of_same ((wErr_any (H5.out.drewN _).wr).mono fun _ _ h => ⟨h.1, h.2.symm⟩)))
            go_wp2
            go_roundw
            case rel => exact ⟨k + 1, S', f', by go_num, by omega, HBO.out.le, by omega, H5.out.drewN _⟩
            case measure => simp [intOf]; omega
        · rw [hp] at HPK
          obtain ⟨E, S', f', hS', hboth⟩ := both_put (S := S) (M := M) (f := f) gw gf x.s hSM hM (by omega) (by omega)
          have HBO := Lib.hid hboth
          clear hp hboth
          go_wp2_with (go_at_call 23; refine (HPK.out _).mono ?_; rintro e w' ⟨rfl, rfl⟩)
          go_region_held3 (fun w' => w'.cell? ⟨g, o + k * 4 + 3, none⟩ = some (.string x.s)) (first | exact (HC1.out _ H5.out.below).s | exact (HC1.out _ H4.out.below).s | exact (HC1.out _ (H3.out.drewN 1).below).s) (first | (go_at_call 16; refine (HBO.out.wr _ H4.out.wr).mono ?_; rintro e w5 ⟨rfl, hw, hk⟩; have H5 := Lib.hid (H4.out.write hw hk); clear hw hk) | (go_at_call 29; refine (HBO.out.wf _ H4.out.wf).mono ?_; rintro e w5 ⟨rfl, hw, hg⟩; have H5 := Lib.hid (H4.out.refw hw hg); clear hw hg) | (go_at_call 16; refine (HBO.out.wr _ (H3.out.drewN 1).wr).mono ?_; rintro e w4 ⟨rfl, hw, hk⟩; have H4 := Lib.hid ((H3.out.drewN 1).write hw hk); clear hw hk) | (go_at_call 29; refine (HBO.out.wf _ (H3.out.drewN 1).wf).mono ?_; rintro e w4 ⟨rfl, hw, hg⟩; have H4 := Lib.hid ((H3.out.drewN 1).refw hw hg); clear hw hg))
          all_goals
            go_wp2
            have hF0 : w5.cell? ⟨gf, 0, none⟩ = some (.string S') := H5.out.wf.cell 0
            have hF2 : w5.cell? ⟨gf, 2, none⟩ = some (.int .i64 f') := H5.out.wf.cell 2
            go_quiet (first | (go_at_call 21; exact Calls.quiet_of_same (textS (H5.out.drewN _).wr)) | (go_at_call 22; exact Calls.quiet_of_same (lenS (H5.out.drewN _).wr)) | (go_at_call 20; exact Calls.quiet_of_same ((wErr_any (H5.out.drewN _).wr).mono fun _ _ h => ⟨h.1, h.2.symm⟩)))
            go_wp2
            go_roundw
            case rel => exact ⟨k + 1, S', f', by go_num, by omega, HBO.out.le, by omega, H5.out.drewN _⟩
            case measure => simp [intOf]; omega
        · rw [hp] at HPK
          obtain ⟨E, S', f', hS', hboth⟩ := both_pat (S := S) (M := M) (f := f) gw gf x.n x.v (x.s.size : Int) HFX.out.v hSM (by omega)
          have HBO := Lib.hid hboth
          clear hp hboth
          go_wp2_with (go_at_call 23; refine (HPK.out _).mono ?_; rintro e w' ⟨rfl, rfl⟩)
          go_region_held3 (fun w' => w'.cell? ⟨g, o + k * 4 + 1, none⟩ = some (.int .i64 x.n) ∧ w'.cell? ⟨g, o + k * 4 + 2, none⟩ = some (.int .u32 x.v)) (first | exact ⟨(HC1.out _ H5.out.below).n, (HC1.out _ H5.out.below).v⟩ | exact ⟨(HC1.out _ H4.out.below).n, (HC1.out _ H4.out.below).v⟩ | exact ⟨(HC1.out _ (H3.out.drewN 1).below).n, (HC1.out _ (H3.out.drewN 1).below).v⟩) (first | (go_at_call 17; refine (HBO.out.wr _ H4.out.wr).mono ?_; rintro e w5 ⟨rfl, hw, hk⟩; have H5 := Lib.hid (H4.out.write hw hk); clear hw hk) | (go_at_call 30; refine (HBO.out.wf _ H4.out.wf).mono ?_; rintro e w5 ⟨rfl, hw, hg⟩; have H5 := Lib.hid (H4.out.refw hw hg); clear hw hg) | (go_at_call 17; refine (HBO.out.wr _ (H3.out.drewN 1).wr).mono ?_; rintro e w4 ⟨rfl, hw, hk⟩; have H4 := Lib.hid ((H3.out.drewN 1).write hw hk); clear hw hk) | (go_at_call 30; refine (HBO.out.wf _ (H3.out.drewN 1).wf).mono ?_; rintro e w4 ⟨rfl, hw, hg⟩; have H4 := Lib.hid ((H3.out.drewN 1).refw hw hg); clear hw hg))
          all_goals
            go_wp2
            have hF0 : w5.cell? ⟨gf, 0, none⟩ = some (.string S') := H5.out.wf.cell 0
            have hF2 : w5.cell? ⟨gf, 2, none⟩ = some (.int .i64 f') := H5.out.wf.cell 2
            go_quiet (first | (go_at_call 21; exact Calls.quiet_of_same (textS (H5.out.drewN _).wr)) | (go_at_call 22; exact Calls.quiet_of_same (lenS (H5.out.drewN _).wr)) | (go_at_call 20; exact Calls.quiet_of_same ((wErr_any (H5.out.drewN _).wr).mono fun _ _ h => ⟨h.1, h.2.symm⟩)))
            go_wp2
            go_roundw
            case rel => exact ⟨k + 1, S', f', by go_num, by omega, HBO.out.le, by omega, H5.out.drewN _⟩
            case measure => simp [intOf]; omega
    · go_wp2
      go_ret
      exact ⟨rfl, H3.out.below⟩

set_option maxHeartbeats 1000000 in
set_option maxRecDepth 100000 in
theorem OctetsWrite_walk (room_ : Int) (v : Value) (hr : (Lit.int .i64 room_).wf = true) (w : World) (L : List Ac) (hrow : ARow w v L) :
    Calls Try.prog 5 #[.int .i64 room_, v] w fun e w' => e = .returned (.bool true) ∧ Below w.heap.size w w' := by
  rcases Nat.lt_or_ge 200 L.length with h | h
  · obtain ⟨⟨A, cap, rfl, hcap, hcm, _⟩, _⟩ := hrow
    unfold maxLen at hcm
    clear hr
    go_enter Try.func5, Try.ntmps5
    go_wp2_with (go_at_call 9; refine (lives_any _).mono ?_; rintro e w1 ⟨rfl, hb1⟩; have HB1 := Lib.hid hb1; clear hb1)
    go_ret
    exact ⟨rfl, HB1.out⟩
  · exact OctetsWrite_loop room_ v (wf_int' hr).2 w L hrow h
end Go.Proofs.Ythdkceodoflnkaa
