/-
  The walk of the law UnpackBounds. No condition beyond that each argument can be read.
-/
import Derived.Test.YtlpgoeigcccmhaaUpLives
import Derived.Test.YtlpgoeigcccmhaaUpBm
import Derived.Test.YtlpgoeigcccmhaaNmRefK
namespace Go.Proofs.Ytlpgoeigcccmhaa
open Go.RowKit
set_option linter.unusedVariables false

theorem arrs {x : ByteArray} {l : List UInt8} (h : l = bs x) : (⟨l.toArray⟩ : ByteArray) = x := (bs_eq h.symm).symm
set_option maxHeartbeats 2000000 in
set_option maxRecDepth 100000 in
theorem UnpackBounds_walk (s : ByteArray) (a : Int) (hs : s.size ≤ maxLen) (ha : (Lit.int .i64 a).wf = true) (w : World) :
    Calls Try.prog 6 #[.string s, .int .i64 a] w fun e w' => e = .returned (.bool true) ∧ Below w.heap.size w w' := by
  by_cases hbig : 1500 < s.size
  · have hbb := Below.refl w.heap.size w
    go_enter Try.func6, Try.ntmps6
    go_wp2_with fail
    refine (ulives.go _).mono ?_
    rintro e w' ⟨rfl, hb'⟩
    replace hbb := next hbb hb'
    clear hb'
    go_wp2
    go_ret
    exact ⟨rfl, hbb⟩
  · obtain ⟨n, hn⟩ : ∃ n : ByteArray, (readU (bs s) a a).l = bs n := ⟨⟨(readU (bs s) a a).l.toArray⟩, (bs_mk _).symm⟩
    have hbig' : s.size ≤ 1500 := by omega
    by_cases hf : (readU (bs s) a a).f = 0
    · obtain ⟨at_, rfl, hle, hchk, hskip, hlt, hel, hj, hp⟩ := readU_yes hf
      rw [bs_length] at hle hel
      obtain ⟨u, hu⟩ : ∃ u, readU (bs s) at_ at_ = u := ⟨_, rfl⟩
      obtain ⟨p, hpp⟩ : ∃ p, readU (bs s) at_ 0 = p := ⟨_, rfl⟩
      have cN := uN s n at_ u.e 0 hs ⟨hn, by rw [hu], by rw [hf]; rfl⟩
      have cJ := uJ s at_ u.j hs (by rw [hu])
      have cS := uS s at_ u.e 0 hs (by rw [hskip, hu]; exact ⟨rfl, rfl⟩)
      rw [hu] at hn hf hchk hlt hel hj hp
      rw [hpp] at hp
      rw [hn] at hchk
      have hns : n.size ≤ maxLen := by
        have := (chkN_iff.1 hchk).1
        rw [bs_length] at this
        unfold maxLen; omega
      have cC : Gives 27 #[.string n] (.int .i64 0) := fun w => by
        refine (rnCheck_any n w hns).mono ?_
        rintro e w' ⟨rfl, rfl⟩
        rw [hchk]
        exact ⟨rfl, Below.refl _ _⟩
      have d1 : decide ((at_ : Int) < (u.e : Int)) = true := by simp; omega
      have d1' : decide (at_ < u.e) = true := by simp; omega
      have d2 : decide (u.e ≤ s.size) = true := by simp; omega
      have d3 : decide (u.j ≤ at_) = true := by simp; omega
      have hbb := Below.refl w.heap.size w
      rcases hp with ⟨j0, pf, pl, pe⟩ | ⟨j0, pf⟩
      · have cP := uP s n at_ u.e 0 hs (by rw [hpp, pl, pe, pf]; exact ⟨hn, rfl, rfl⟩)
        have hz : ((u.j : Int) != 0) = false := by rw [bne_eq_false_iff_eq]; omega
        have hz' : ((u.j : Int) == 0) = true := by rw [beq_iff_eq]; omega
        have hz2 : ((u.e : Int) != (u.e : Int)) = false := by rw [bne_eq_false_iff_eq]
        clear hbig hn hf hchk hlt hel hj hskip hu hpp j0 pf pl pe hns ha hle
        go_enter Try.func6, Try.ntmps6
        go_wp2_with fail
        refine (ulives.go _).mono ?_
        rintro e w' ⟨rfl, hb'⟩
        replace hbb := next hbb hb'
        clear hb'
        go_wp2_with fail
        refine (cN.go _).mono ?_
        rintro e w' ⟨rfl, hb'⟩
        replace hbb := next hbb hb'
        clear hb'
        go_wp2_with fail
        refine (cS.go _).mono ?_
        rintro e w' ⟨rfl, hb'⟩
        replace hbb := next hbb hb'
        clear hb'
        go_wp2_with fail
        refine (cJ.go _).mono ?_
        rintro e w' ⟨rfl, hb'⟩
        replace hbb := next hbb hb'
        clear hb'
        go_wp2_with fail
        refine (cP.go _).mono ?_
        rintro e w' ⟨rfl, hb'⟩
        replace hbb := next hbb hb'
        clear hb'
        go_wp2_with fail
        refine (cC.go _).mono ?_
        rintro e w' ⟨rfl, hb'⟩
        replace hbb := next hbb hb'
        clear hb'
        go_wp2
        go_ret
        exact ⟨rfl, hbb⟩
      · obtain ⟨f, hff⟩ : ∃ f : Int, (p.f : Int) = f := ⟨_, rfl⟩
        have hne : (f != 0) = true := by rw [bne_iff_ne]; omega
        have hne' : (f == 0) = false := by rw [beq_eq_false_iff_ne]; omega
        obtain ⟨m1, m2, m3⟩ := readU_no (x := bs s) (a := at_) (r := 0) (by rw [hpp]; exact pf)
        have cP := uP s ⟨#[]⟩ at_ 0 f hs ⟨m1, by rw [m2]; rfl, by rw [hpp]; exact hff⟩
        have hz : ((u.j : Int) != 0) = true := by rw [bne_iff_ne]; omega
        have hz' : ((u.j : Int) == 0) = false := by rw [beq_eq_false_iff_ne]; omega
        clear hbig hn hf hchk hlt hel hj hskip hu hpp j0 pf hns ha hle hff m1 m2 m3
        go_enter Try.func6, Try.ntmps6
        go_wp2_with fail
        refine (ulives.go _).mono ?_
        rintro e w' ⟨rfl, hb'⟩
        replace hbb := next hbb hb'
        clear hb'
        go_wp2_with fail
        refine (cN.go _).mono ?_
        rintro e w' ⟨rfl, hb'⟩
        replace hbb := next hbb hb'
        clear hb'
        go_wp2_with fail
        refine (cS.go _).mono ?_
        rintro e w' ⟨rfl, hb'⟩
        replace hbb := next hbb hb'
        clear hb'
        go_wp2_with fail
        refine (cJ.go _).mono ?_
        rintro e w' ⟨rfl, hb'⟩
        replace hbb := next hbb hb'
        clear hb'
        go_wp2_with fail
        refine (cP.go _).mono ?_
        rintro e w' ⟨rfl, hb'⟩
        replace hbb := next hbb hb'
        clear hb'
        go_wp2_with fail
        refine (cC.go _).mono ?_
        rintro e w' ⟨rfl, hb'⟩
        replace hbb := next hbb hb'
        clear hb'
        go_wp2
        go_ret
        exact ⟨rfl, hbb⟩
    · obtain ⟨h1, h2, h3⟩ := readU_no hf
      obtain ⟨f, hff⟩ : ∃ f : Int, ((readU (bs s) a a).f : Int) = f := ⟨_, rfl⟩
      have hne : (f != 0) = true := by rw [bne_iff_ne]; omega
      have cN := uN s ⟨#[]⟩ a 0 f hs ⟨h1, by rw [h2]; rfl, hff⟩
      have cJ := uJ s a 0 hs (by rw [h3]; rfl)
      obtain ⟨k1, hk1⟩ : ∃ k : Int, ((skipU (bs s) a).1 : Int) = k := ⟨_, rfl⟩
      obtain ⟨k2, hk2⟩ : ∃ k : Int, ((skipU (bs s) a).2 : Int) = k := ⟨_, rfl⟩
      have cS := uS s a k1 k2 hs ⟨hk1, hk2⟩
      have hsk := skipU_bare (bs s) a
      have hbb := Below.refl w.heap.size w
      by_cases hz : k2 = 0
      · have hz1 : (k2 == 0) = true := by rw [beq_iff_eq]; exact hz
        clear hbig hn hf h1 h2 h3 hff hk1 hk2 hsk hz ha
        go_enter Try.func6, Try.ntmps6
        go_wp2_with fail
        refine (ulives.go _).mono ?_
        rintro e w' ⟨rfl, hb'⟩
        replace hbb := next hbb hb'
        clear hb'
        go_wp2_with fail
        refine (cN.go _).mono ?_
        rintro e w' ⟨rfl, hb'⟩
        replace hbb := next hbb hb'
        clear hb'
        go_wp2_with fail
        refine (cS.go _).mono ?_
        rintro e w' ⟨rfl, hb'⟩
        replace hbb := next hbb hb'
        clear hb'
        go_wp2_with fail
        refine (cJ.go _).mono ?_
        rintro e w' ⟨rfl, hb'⟩
        replace hbb := next hbb hb'
        clear hb'
        go_wp2
        go_ret
        exact ⟨rfl, hbb⟩
      · have hz1 : (k2 == 0) = false := by rw [beq_eq_false_iff_ne]; exact hz
        obtain rfl : k1 = 0 := by omega
        clear hbig hn hf h1 h2 h3 hff hk1 hk2 hsk hz ha
        go_enter Try.func6, Try.ntmps6
        go_wp2_with fail
        refine (ulives.go _).mono ?_
        rintro e w' ⟨rfl, hb'⟩
        replace hbb := next hbb hb'
        clear hb'
        go_wp2_with fail
        refine (cN.go _).mono ?_
        rintro e w' ⟨rfl, hb'⟩
        replace hbb := next hbb hb'
        clear hb'
        go_wp2_with fail
        refine (cS.go _).mono ?_
        rintro e w' ⟨rfl, hb'⟩
        replace hbb := next hbb hb'
        clear hb'
        go_wp2_with fail
        refine (cJ.go _).mono ?_
        rintro e w' ⟨rfl, hb'⟩
        replace hbb := next hbb hb'
        clear hb'
        go_wp2
        go_ret
        exact ⟨rfl, hbb⟩
end Go.Proofs.Ytlpgoeigcccmhaa
