/-
  NameFolds: folding turns letters alone: no length, no other octet; each label folds alone: the walk. Condition: the name is no longer than Go's own limit.
-/
import Derived.Test.YtjflmifolmpdgaaNmLives
namespace Go.Proofs.Ytjflmifolmpdgaa
open Go.RowKit
set_option linter.unusedVariables false

theorem fd_kind : ∀ n, n < 256 → (fd (UInt8.ofNat n) = UInt8.ofNat n ∨ (65 ≤ (UInt8.ofNat n).toNat ∧ (UInt8.ofNat n).toNat ≤ 90 ∧ (fd (UInt8.ofNat n)).toNat = (UInt8.ofNat n).toNat + 32)) ∧ ¬ (65 ≤ (fd (UInt8.ofNat n)).toNat ∧ (fd (UInt8.ofNat n)).toNat ≤ 90) := by decide +kernel
theorem fd_what (c : UInt8) : (fd c = c ∨ (65 ≤ c.toNat ∧ c.toNat ≤ 90 ∧ (fd c).toNat = c.toNat + 32)) ∧ ¬ (65 ≤ (fd c).toNat ∧ (fd c).toNat ≤ 90) :=
  forall_u8 (p := fun c => (fd c = c ∨ (65 ≤ c.toNat ∧ c.toNat ≤ 90 ∧ (fd c).toNat = c.toNat + 32)) ∧ ¬ (65 ≤ (fd c).toNat ∧ (fd c).toNat ≤ 90)) fd_kind c
theorem cell_block {W : World} {b o : Nat} {v : Value} (h : W.cell? ⟨b, o, none⟩ = some v) : b < W.heap.size := by
  obtain ⟨o', h', _⟩ := cells_of_cell h
  exact (Array.getElem?_eq_some_iff.1 h').1
theorem at_bs (s : ByteArray) (k : Nat) (h : k < s.size) : s[k] = (bs s)[k]'(by rw [bs_length]; exact h) := rfl

set_option maxRecDepth 100000 in
set_option maxHeartbeats 2000000 in
theorem nfolds_out (n : ByteArray) (E : Nat) (w : World) (hn : n.size ≤ maxLen) (h1 : Gives 17 #[.string n] (.int .i64 E)) (h2 : ((E : Int) != 0) = true → Gives 18 #[.string n] (.string ⟨#[]⟩)) (h : 400 < n.size ∨ (n.size ≤ 400 ∧ ((E : Int) != 0) = true)) :
    Calls Try.prog 10 #[.string n] w fun e w' => e = .returned (.bool true) ∧ Below w.heap.size w w' := by
  unfold maxLen at hn
  rcases h with h | ⟨k1, k2⟩
  · clear h2
    go_enter Try.func10, Try.ntmps10
    go_wp2_with (first | (go_at_call 11; ((with_reducible refine (lives2 _).mono ?_); rintro e w' ⟨rfl, hb'⟩; have hbb := hb')) | (go_at_call 17; ((with_reducible refine (h1 _).mono ?_); rintro e w' ⟨rfl, hb'⟩; replace hbb := next hbb hb')))
    go_ret
    exact ⟨rfl, hbb⟩
  · replace h2 := h2 k2
    go_enter Try.func10, Try.ntmps10
    go_wp2_with (first | (go_at_call 11; ((with_reducible refine (lives2 _).mono ?_); rintro e w' ⟨rfl, hb'⟩; have hbb := hb')) | (go_at_call 17; ((with_reducible refine (h1 _).mono ?_); rintro e w' ⟨rfl, hb'⟩; replace hbb := next hbb hb')) | (go_at_call 18; ((with_reducible refine (h2 _).mono ?_); rintro e w' ⟨rfl, hb'⟩; replace hbb := next hbb hb')))
    go_ret
    exact ⟨rfl, hbb⟩

/-- The relations of the law's loops. -/
def NfRel (n : Nat) (w : World) (i : Value) (wr : World) : Prop := ∃ k : Nat, i = .int .i64 k ∧ k ≤ n ∧ Below w.heap.size w wr

set_option maxRecDepth 100000 in
set_option maxHeartbeats 8000000 in
theorem nfolds_loop (n f : ByteArray) (w : World) (hn : n.size ≤ 254) (hf : f.size = n.size) (hat : ∀ k (h : k < n.size) (h' : k < f.size), f[k] = fd n[k])
    (c1 : Gives 17 #[.string n] (.int .i64 0)) (c2 : Gives 18 #[.string n] (.string f)) (c3 : Gives 17 #[.string f] (.int .i64 0))
    (l1 : ∀ wx, Calls Try.prog 31 #[.string n] wx (Lbs wx (nlabs (bs n)))) (l2 : ∀ wx, Calls Try.prog 31 #[.string f] wx (Lbs wx ((nlabs (bs n)).map fold))) :
    Calls Try.prog 10 #[.string n] w fun e w' => e = .returned (.bool true) ∧ Below w.heap.size w w' := by
  have hff : f.size ≤ 254 := by omega
  have hz : ((f.size : Int) != (n.size : Int)) = false := bne_eq_false_iff_eq.2 (by omega)
  have HF := Lib.hid hf
  have HAT := Lib.hid hat
  have hN := nlabs_len (bs n)
  clear hf hat
  go_enter Try.func10, Try.ntmps10
  go_wp2_with (first | (go_at_call 11; ((with_reducible refine (lives2 _).mono ?_); rintro e w' ⟨rfl, hb'⟩; have hbb := hb')) | (go_at_call 17; (first | ((with_reducible refine (c1 _).mono ?_); rintro e w' ⟨rfl, hb'⟩; replace hbb := next hbb hb') | ((with_reducible refine (c3 _).mono ?_); rintro e w' ⟨rfl, hb'⟩; replace hbb := next hbb hb'))) | (go_at_call 18; ((with_reducible refine (c2 _).mono ?_); rintro e w' ⟨rfl, hb'⟩; replace hbb := next hbb hb')))
  have HBB := Lib.hid hbb
  clear hbb hz
  go_loopw [4] (fun i wr => NfRel n.size w i wr) (fun i _ => n.size - (intOf i).toNat)
  case atStart => exact ⟨0, rfl, Nat.zero_le _, HBB.out⟩
  case round =>
    obtain ⟨k, rfl, hk, hb⟩ := hrel
    by_cases hlt : k < n.size
    · have hlf : k < f.size := by rw [HF.out]; exact hlt
      have ha := HAT.out k hlt hlf
      obtain ⟨hd, _⟩ := fd_what n[k]
      rw [← ha] at hd
      clear ha
      have b1 := n[k].toNat_lt
      have b2 := f[k].toNat_lt
      have i1 : (k : Int) < n.size := by omega
      have i2 : (k : Int) < f.size := by omega
      rcases hd with hd | ⟨h1, h2, h3⟩
      · have hb0 : ((f[k].toNat : Int) != n[k].toNat) = false := bne_eq_false_iff_eq.2 (by rw [hd])
        clear hd
        go_wp2_with fail
        go_quiet (fail)
        go_wp2
        go_roundw
        case rel => exact ⟨k + 1, by go_num, hlt, below_draws hb _⟩
        case measure => simp [intOf]; omega
      · have hb0 : ((f[k].toNat : Int) != n[k].toNat) = true := bne_iff_ne.2 (by omega)
        have hb1 : ((f[k].toNat : Int) != IntKind.u8.wrap ((n[k].toNat : Int) + 32)) = false := bne_eq_false_iff_eq.2 (by rw [IntWalk.u8_in _ (by omega)]; omega)
        have hb2 : ¬ (n[k].toNat : Int) < 65 := by omega
        have hb3 : ¬ (90 : Int) < n[k].toNat := by omega
        have hb4 : (n[k].toNat : Int) + 32 ≤ 255 := by omega
        clear h3
        go_wp2_with fail
        go_quiet (fail)
        go_wp2
        go_roundw
        case rel => exact ⟨k + 1, by go_num, hlt, below_draws hb _⟩
        case measure => simp [intOf]; omega
    · obtain rfl : k = n.size := by omega
      clear HAT hk hlt
      go_wp2_with fail
      refine (l1 _).mono ?_
      rintro e w1 ⟨v1, X, rfl, hX, hXL, hb1⟩
      have hXn : X.length ≤ 127 := by rw [labs_len hXL]; exact hN
      obtain ⟨A, ca, rfl, hca, hca2⟩ := hX.shape
      have HX := Lib.hid hX
      have HXL := Lib.hid hXL
      clear hX hXL
      go_wp2_with fail
      refine (l2 _).mono ?_
      rintro e w2 ⟨v2, Y, rfl, hY, hYL, hb2⟩
      obtain ⟨C, cc, rfl, hcc, hcc2⟩ := hY.shape
      have hXY : Y.length = X.length := by
        have h1 := congrArg List.length hYL
        have h2 := congrArg List.length HXL.out
        rw [List.length_map, List.length_map] at h1
        rw [List.length_map] at h2
        omega
      have HY := Lib.hid hY
      have HXY := Lib.hid hXY
      have HEL : Hid (∀ i (h : i < X.length) (h' : i < Y.length), bs Y[i] = fold (bs X[i])) := Lib.hid (fun i h h' => by
        have e1 : (Y.map bs)[i]'(by simpa using h') = ((X.map bs).map fold)[i]'(by simpa using h) := by simp only [hYL, HXL.out]
        simpa using e1)
      have HXS : Hid (∀ x ∈ X, x.size ≤ 63) := Lib.hid (fun x hx => by
        have := (nlabs_ok (bs n) (bs x) (by rw [← HXL.out]; exact List.mem_map_of_mem hx)).2
        rw [bs_length] at this
        exact this)
      have hYn : Y.length ≤ 127 := by omega
      have HB2 : Hid (Below w.heap.size w w2) := Lib.hid (next (next hb hb1) hb2)
      have HXW := Lib.hid (HX.out.next hb2)
      unfold maxLen at hca2 hcc2
      clear hY hYL hXY hb1 hb2 hb
      go_wp2
      go_loopw [7] (fun i wr => NfRel X.length w2 i wr) (fun i _ => X.length - (intOf i).toNat)
      case atStart => exact ⟨0, rfl, Nat.zero_le _, Below.refl _ _⟩
      case round =>
        obtain ⟨i, rfl, hi, hb⟩ := hrel
        by_cases hil : i < X.length
        · obtain ⟨g, off, hA, hcx⟩ := (HXW.out.below hb (Nat.le_refl _)).at hil
          have hiy : i < Y.length := by rw [HXY.out]; exact hil
          obtain ⟨g', off', hC, hcy⟩ := (HY.out.below hb (Nat.le_refl _)).at hiy
          subst hA
          subst hC
          have hel := HEL.out i hil hiy
          have hsz : Y[i].size = X[i].size := by rw [← bs_length, ← bs_length, hel, fold_length]
          have hxs : X[i].size ≤ 63 := HXS.out _ (List.getElem_mem hil)
          have HSZ := Lib.hid hsz
          have HE := Lib.hid hel
          have HB := Lib.hid hb
          have i1 : (i : Int) < X.length := by omega
          have i2 : (i : Int) < Y.length := by omega
          obtain ⟨xi, hxi⟩ : ∃ xi, xi = X[i] := ⟨_, rfl⟩
          obtain ⟨yi, hyi⟩ : ∃ yi, yi = Y[i] := ⟨_, rfl⟩
          rw [← hxi] at hcx hxs HSZ HE
          rw [← hyi] at hcy HSZ HE
          clear hel hsz hxi hyi
          obtain ⟨wo, rfl⟩ : ∃ wo : World, wo = wr := ⟨_, rfl⟩
          have HCX := Lib.hid hcx
          have HCY := Lib.hid hcy
          have hbo := HB.out
          go_wp2
          go_loopw [8] (fun k wk => NfRel xi.size wo k wk) (fun k _ => xi.size - (intOf k).toNat)
          case atStart => exact ⟨0, rfl, Nat.zero_le _, Below.refl _ _⟩
          case round =>
            obtain ⟨k, rfl, hk, hbk⟩ := hrel
            have hcx := (hbk.cell (p := ⟨g, off + i, none⟩) (cell_block HCX.out)).trans HCX.out
            have hcy := (hbk.cell (p := ⟨g', off' + i, none⟩) (cell_block HCY.out)).trans HCY.out
            by_cases hkl : k < xi.size
            · have hky : k < yi.size := by rw [HSZ.out]; exact hkl
              have hc := (fd_what xi[k]).2
              have hyk : yi[k] = fd xi[k] := by
                rw [at_bs yi k hky, at_bs xi k hkl]
                simp only [HE.out, fold, List.getElem_map]
              rw [← hyk] at hc
              have i3 : (k : Int) < xi.size := by omega
              have i4 : (k : Int) < yi.size := by omega
              have hcc : (yi[k].toNat : Int) < 65 ∨ (90 : Int) < yi[k].toNat := by omega
              clear hc hyk
              rcases hcc with hcc | hcc
              · go_wp2
                go_roundw
                case rel => exact ⟨k + 1, by go_num, hkl, hbk⟩
                case measure => simp [intOf]; omega
              · have hcc2 : (65 : Int) ≤ yi[k].toNat := by omega
                go_wp2
                go_roundw
                case rel => exact ⟨k + 1, by go_num, hkl, hbk⟩
                case measure => simp [intOf]; omega
            · have hkx : ¬ (k : Int) < xi.size := by omega
              go_wp2
              go_roundw
              case rel => exact ⟨i + 1, by go_num, hil, hbo.trans (hbk.mono hbo.size)⟩
              case measure => simp [intOf]; omega
        · have hix : ¬ (i : Int) < X.length := by omega
          have hlen : ((X.length : Int) == (Y.length : Int)) = true := beq_iff_eq.2 (by rw [HXY.out])
          go_wp2
          go_ret
          exact ⟨by simp, HB2.out.trans (hb.mono HB2.out.size)⟩

theorem NameFolds_walk (n : ByteArray) (hn : n.size ≤ maxLen) (w : World) :
    Calls Try.prog 10 #[.string n] w fun e w' => e = .returned (.bool true) ∧ Below w.heap.size w w' := by
  by_cases hc : chkN (bs n) = 0
  · have ln := (chkN_iff.1 hc).1
    rw [bs_length] at ln
    obtain ⟨g1, g2, g3⟩ := foldN_facts hc
    obtain ⟨f, hf⟩ : ∃ f : ByteArray, bs f = fold (bs n) := ⟨_, bs_mk _⟩
    have hfs : f.size = n.size := by rw [← bs_length, hf, fold_length, bs_length]
    have hfm : f.size ≤ maxLen := by rw [hfs]; exact hn
    refine nfolds_loop n f w ln hfs (fun k h h' => ?_) (gCheck (e := 0) hn hc) (gFold hn ?_) (gCheck (e := 0) hfm (by rw [hf]; exact g2)) (fun wx => Labels_any n wx hn) (fun wx => ?_)
    · rw [at_bs f k h', at_bs n k h]
      simp only [hf, fold, List.getElem_map]
    · rw [hf]
      exact if_pos hc
    · have := Labels_any f wx hfm
      rw [hf, nlabs_yes g2, g3, ← nlabs_yes hc] at this
      exact this
  · refine nfolds_out n (chkN (bs n)) w hn (gCheck hn rfl) (fun _ => gFold hn ?_) ?_
    · exact if_neg hc
    · rcases Nat.lt_or_ge 400 n.size with h | h
      · exact .inl h
      · exact .inr ⟨h, bne_iff_ne.2 (by omega)⟩
end Go.Proofs.Ytjflmifolmpdgaa
