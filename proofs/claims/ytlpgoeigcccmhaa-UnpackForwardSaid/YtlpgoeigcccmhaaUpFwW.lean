/-
  The walk of the law UnpackForward. No condition beyond that each argument can be read.
-/
import Derived.Test.YtlpgoeigcccmhaaUpLives
import Derived.Test.YtlpgoeigcccmhaaUpRu
import Derived.Test.YtlpgoeigcccmhaaUpBm
import Derived.Test.YtlpgoeigcccmhaaNmRefK
import Derived.Test.YtlpgoeigcccmhaaPick
import Derived.Deep.DeepCutAuto
namespace Go.Proofs.Ytlpgoeigcccmhaa
open Go.RowKit
set_option linter.unusedVariables false

theorem arrs' {x : ByteArray} {l : List UInt8} (h : l = bs x) : (⟨l.toArray⟩ : ByteArray) = x := (bs_eq h.symm).symm
theorem conv_two (W : World) (b m n : Nat) (hm : m < 256) (hn : n < 256) (hc : W.cell? ⟨b, 0, none⟩ = some (.int .u8 m)) (hd : W.cell? ⟨b, 1, none⟩ = some (.int .u8 n)) :
    (convert 59 9 (.slice (some ⟨b, 0, none⟩) 2 2)).run Try.prog W = .ok (.string ⟨#[UInt8.ofNat m, UInt8.ofNat n]⟩) W := by
  refine run_convert_bytes_back W 59 9 5 ⟨b, 0, none⟩ 2 [UInt8.ofNat m, UInt8.ofNat n] bt.us bt.ub bt.ut fun j hj => ?_
  have e1 : (UInt8.ofNat m).toNat = m := UInt8.toNat_ofNat_of_lt' (by show _ < 256; omega)
  have e2 : (UInt8.ofNat n).toNat = n := UInt8.toNat_ofNat_of_lt' (by show _ < 256; omega)
  simp only [List.length_cons, List.length_nil] at hj
  obtain rfl | rfl : j = 0 ∨ j = 1 := by omega
  · show W.cell? ⟨b, 0, none⟩ = some (.int .u8 ((UInt8.ofNat m).toNat : Int))
    rw [hc, e1]
  · show W.cell? ⟨b, 1, none⟩ = some (.int .u8 ((UInt8.ofNat n).toNat : Int))
    rw [hd, e2]
theorem two_at {A B : List UInt8} {c d : UInt8} : (A ++ (c :: d :: B))[A.length]? = some c ∧ (A ++ (c :: d :: B))[A.length + 1]? = some d := by
  refine ⟨by simp, ?_⟩
  rw [List.getElem?_append_right (by omega)]
  simp
theorem b192 (k : Nat) (h : k < 16384) : (UInt8.ofNat (192 + k / 256)).toNat = 192 + k / 256 ∧ (UInt8.ofNat (k % 256)).toNat = k % 256 :=
  ⟨UInt8.toNat_ofNat_of_lt' (by show _ < 256; omega), UInt8.toNat_ofNat_of_lt' (by show _ < 256; omega)⟩
theorem fw_bad {A : List UInt8} {n : List UInt8} (hc : chkN n = 0) (far : Nat) (h1 : A.length ≤ far) (h2 : far < 16384) :
    (readU (A ++ (n ++ (UInt8.ofNat (192 + far / 256) :: UInt8.ofNat (far % 256) :: [0]))) (A.length : Int) (A.length : Int)).f = 4 := by
  obtain ⟨L, hL, rfl, _, hlen⟩ := chkN_out hc
  obtain ⟨x, hx⟩ : ∃ x, A ++ (enc L ++ (UInt8.ofNat (192 + far / 256) :: UInt8.ofNat (far % 256) :: [0])) = x := ⟨_, rfl⟩
  obtain ⟨e1, e2⟩ := b192 far h2
  have hb : Rb x A.length (A.length + (enc L).length) [] := by
    have ht := two_at (A := A ++ enc L) (B := [0]) (c := UInt8.ofNat (192 + far / 256)) (d := UInt8.ofNat (far % 256))
    rw [List.append_assoc, hx, List.length_append] at ht
    exact .ptr ht.1 (by omega) ht.2 (by omega)
  have hr := Rb.labs L A _ hL hx.symm hb
  rw [List.append_nil] at hr
  rw [hx]
  have hle : A.length ≤ x.length := by rw [← hx, List.length_append]; omega
  have e3 : readU x (A.length : Int) (A.length : Int) = runU x (muU x (begU A.length A.length)) (begU A.length A.length) := if_neg (by omega)
  rw [e3]
  exact hr.run _ (begU A.length A.length) rfl rfl rfl (by simpa [begU] using hlen) (begU_inv hle hle) (Nat.le_refl _)
theorem fw_good {A : List UInt8} {n : List UInt8} (hc : chkN n = 0) (hA : A.length < 16384) (x : List UInt8) (hx : x = (A ++ [0]) ++ (n ++ (UInt8.ofNat (192 + A.length / 256) :: UInt8.ofNat (A.length % 256) :: []))) :
    (readU x ((A.length + 1 : Nat) : Int) ((A.length + 1 : Nat) : Int)).f = 0 ∧ (readU x ((A.length + 1 : Nat) : Int) ((A.length + 1 : Nat) : Int)).l = n ∧ (readU x ((A.length + 1 : Nat) : Int) ((A.length + 1 : Nat) : Int)).e = x.length ∧ (readU x ((A.length + 1 : Nat) : Int) ((A.length + 1 : Nat) : Int)).j = 1 := by
  obtain ⟨L, hL, rfl, _, hlen⟩ := chkN_out hc
  obtain ⟨e1, e2⟩ := b192 A.length hA
  have hto : 256 * ((UInt8.ofNat (192 + A.length / 256)).toNat - 192) + (UInt8.ofNat (A.length % 256)).toNat = A.length := by omega
  have hl : (A ++ [0]).length = A.length + 1 := by simp
  have hxl : x.length = A.length + 1 + (enc L).length + 2 := by rw [hx]; simp; omega
  have h0 : x[A.length]? = some 0 := by rw [hx, List.append_assoc]; simp
  have hb : Ru x (A.length + 1) (A.length + 1 + (enc L).length) [] (A.length + 1 + (enc L).length + 2) 1 := by
    have ht := two_at (A := A ++ [0] ++ enc L) (B := []) (c := UInt8.ofNat (192 + A.length / 256)) (d := UInt8.ofNat (A.length % 256))
    rw [List.append_assoc, ← hx, List.length_append, hl] at ht
    refine .ptr (c := 0) (e := A.length + 1) ht.1 (by omega) ht.2 (by omega) ?_
    rw [hto]
    exact .nil h0
  have hr := Ru.labs (r := A.length + 1) L (A ++ [0]) _ hL hx (by rw [hl]; exact hb)
  rw [List.append_nil, hl] at hr
  obtain ⟨a1, a2, a3, a4⟩ := hr.read hlen (by omega)
  exact ⟨a1, a2, by rw [a3, hxl], a4⟩
set_option maxHeartbeats 2000000 in
set_option maxRecDepth 100000 in
theorem UnpackForward_walk (s n : ByteArray) (a : Int) (hs : s.size ≤ maxLen) (hn : n.size ≤ maxLen) (ha : (Lit.int .i64 a).wf = true) (w : World) :
    Calls Try.prog 8 #[.string s, .string n, .int .i64 a] w fun e w' => e = .returned (.bool true) ∧ Below w.heap.size w w' := by
  have cC : Gives 27 #[.string n] (.int .i64 (chkN (bs n))) := fun w => by
    refine (rnCheck_any n w hn).mono ?_
    rintro e w' ⟨rfl, rfl⟩
    exact ⟨rfl, Below.refl _ _⟩
  have hbb := Below.refl w.heap.size w
  by_cases hbig : 300 < s.size
  · clear hs hn ha
    go_enter Try.func8, Try.ntmps8
    go_wp2_with fail
    refine (ulives.go _).mono ?_
    rintro e w' ⟨rfl, hb'⟩
    replace hbb := next hbb hb'
    clear hb'
    go_wp2
    go_ret
    exact ⟨rfl, hbb⟩
  have hs3 : s.size ≤ 300 := by omega
  by_cases hbig2 : 400 < n.size
  · clear hs hn ha hbig
    go_enter Try.func8, Try.ntmps8
    go_wp2_with fail
    refine (ulives.go _).mono ?_
    rintro e w' ⟨rfl, hb'⟩
    replace hbb := next hbb hb'
    clear hb'
    go_wp2
    go_ret
    exact ⟨rfl, hbb⟩
  have hn4 : n.size ≤ 400 := by omega
  by_cases hc : chkN (bs n) = 0
  · rw [hc] at cC
    obtain ⟨P, hP⟩ := Int.eq_ofNat_of_zero_le (pick_range (i := a) (n := 8000) (by decide)).1
    have hP2 := (pick_range (i := a) (n := 8000) (by decide)).2
    rw [hP] at hP2
    have hP3 : P < 8000 := by omega
    have cP : Gives 30 #[.int .i64 a, .int .i64 8000] (.int .i64 P) := fun w => by
      refine (Pick_any a 8000 w (by decide) (by decide)).mono ?_
      rintro e w' ⟨rfl, rfl⟩
      rw [hP]
      exact ⟨rfl, Below.refl _ _⟩
    have hnl : n.size ≤ 254 := by have := (chkN_iff.1 hc).1; rw [bs_length] at this; exact this
    obtain ⟨T1, hT1⟩ : ∃ T1 : ByteArray, (⟨#[UInt8.ofNat (192 + (s.size + P) / 256), UInt8.ofNat ((s.size + P) % 256)]⟩ : ByteArray) = T1 := ⟨_, rfl⟩
    obtain ⟨T2, hT2⟩ : ∃ T2 : ByteArray, (⟨#[UInt8.ofNat (192 + s.size / 256), UInt8.ofNat (s.size % 256)]⟩ : ByteArray) = T2 := ⟨_, rfl⟩
    have hT1b : bs T1 = [UInt8.ofNat (192 + (s.size + P) / 256), UInt8.ofNat ((s.size + P) % 256)] := by rw [← hT1]; rfl
    have hT2b : bs T2 = [UInt8.ofNat (192 + s.size / 256), UInt8.ofNat (s.size % 256)] := by rw [← hT2]; rfl
    have hT1s : T1.size = 2 := by rw [← bs_length, hT1b]; rfl
    have hT2s : T2.size = 2 := by rw [← bs_length, hT2b]; rfl
    have hcv1 : ∀ W : World, (convert 59 9 (.slice (some ⟨W.heap.size, 0, none⟩) 2 2)).run Try.prog (W.alloc (.cells #[.int .u8 (192 + ((s.size : Int) + (P : Int)) / 256), .int .u8 (((s.size : Int) + (P : Int)) % 256)] 5)) = .ok (.string T1) (W.alloc (.cells #[.int .u8 (192 + ((s.size : Int) + (P : Int)) / 256), .int .u8 (((s.size : Int) + (P : Int)) % 256)] 5)) := fun W => by
      have h1 : (192 + ((s.size : Int) + (P : Int)) / 256) = ((192 + (s.size + P) / 256 : Nat) : Int) := by omega
      have h2 : (((s.size : Int) + (P : Int)) % 256) = (((s.size + P) % 256 : Nat) : Int) := by omega
      rw [h1, h2, ← hT1]
      have hL := Lies.new W 5 #[.int .u8 ((192 + (s.size + P) / 256 : Nat) : Int), .int .u8 (((s.size + P) % 256 : Nat) : Int)]
      exact conv_two _ _ _ _ (by omega) (by omega) (hL.cell 0) (hL.cell 1)
    have hcv2 : ∀ W : World, (convert 59 9 (.slice (some ⟨W.heap.size, 0, none⟩) 2 2)).run Try.prog (W.alloc (.cells #[.int .u8 (192 + (s.size : Int) / 256), .int .u8 ((s.size : Int) % 256)] 5)) = .ok (.string T2) (W.alloc (.cells #[.int .u8 (192 + (s.size : Int) / 256), .int .u8 ((s.size : Int) % 256)] 5)) := fun W => by
      have h1 : (192 + (s.size : Int) / 256) = ((192 + s.size / 256 : Nat) : Int) := by omega
      have h2 : ((s.size : Int) % 256) = ((s.size % 256 : Nat) : Int) := by omega
      rw [h1, h2, ← hT2]
      have hL := Lies.new W 5 #[.int .u8 ((192 + s.size / 256 : Nat) : Int), .int .u8 ((s.size % 256 : Nat) : Int)]
      exact conv_two _ _ _ _ (by omega) (by omega) (hL.cell 0) (hL.cell 1)
    obtain ⟨A1, hA1⟩ : ∃ A1, s ++ n = A1 := ⟨_, rfl⟩
    obtain ⟨A2, hA2⟩ : ∃ A2, A1 ++ T1 = A2 := ⟨_, rfl⟩
    obtain ⟨A3, hA3⟩ : ∃ A3, A2 ++ ⟨#[0]⟩ = A3 := ⟨_, rfl⟩
    obtain ⟨B1, hB1⟩ : ∃ B1, s ++ ⟨#[0]⟩ = B1 := ⟨_, rfl⟩
    obtain ⟨B2, hB2⟩ : ∃ B2, B1 ++ n = B2 := ⟨_, rfl⟩
    obtain ⟨B3, hB3⟩ : ∃ B3, B2 ++ T2 = B3 := ⟨_, rfl⟩
    have hA1s : A1.size = s.size + n.size := by rw [← hA1]; exact ByteArray.size_append
    have hA2s : A2.size = A1.size + 2 := by rw [← hA2, ByteArray.size_append, hT1s]
    have hA3s : A3.size = A2.size + 1 := by rw [← hA3]; exact ByteArray.size_append
    have hB1s : B1.size = s.size + 1 := by rw [← hB1]; exact ByteArray.size_append
    have hB2s : B2.size = B1.size + n.size := by rw [← hB2]; exact ByteArray.size_append
    have hB3s : B3.size = B2.size + 2 := by rw [← hB3, ByteArray.size_append, hT2s]
    have z1 : ¬ 9223372036854775807 < s.size + n.size := by omega
    have z2 : ¬ 9223372036854775807 < A1.size + T1.size := by omega
    have z3 : ¬ 9223372036854775807 < A2.size + 1 := by omega
    have y1 : ¬ 9223372036854775807 < s.size + 1 := by omega
    have y2 : ¬ 9223372036854775807 < B1.size + n.size := by omega
    have y3 : ¬ 9223372036854775807 < B2.size + T2.size := by omega
    have hA3b : bs A3 = bs s ++ (bs n ++ (UInt8.ofNat (192 + (s.size + P) / 256) :: UInt8.ofNat ((s.size + P) % 256) :: [0])) := by
      rw [← hA3, ← hA2, ← hA1, bs_append, bs_append, bs_append, hT1b, show bs (⟨#[0]⟩ : ByteArray) = [0] from rfl]
      simp
    have hB3b : bs B3 = (bs s ++ [0]) ++ (bs n ++ (UInt8.ofNat (192 + s.size / 256) :: UInt8.ofNat (s.size % 256) :: [])) := by
      rw [← hB3, ← hB2, ← hB1, bs_append, bs_append, bs_append, hT2b, show bs (⟨#[0]⟩ : ByteArray) = [0] from rfl]
      simp
    have cN1 : Gives 23 #[.string A3, .int .i64 s.size] (.tuple #[.string ⟨#[]⟩, .int .i64 0, .int .i64 4]) := by
      have h := fw_bad (A := bs s) hc (s.size + P) (by rw [bs_length]; omega) (by omega)
      rw [← hA3b, bs_length] at h
      obtain ⟨k1, k2, k3⟩ := readU_no (x := bs A3) (a := s.size) (r := s.size) (by rw [h]; decide)
      exact uN A3 ⟨#[]⟩ s.size 0 4 (by unfold maxLen; omega) ⟨k1, by rw [k2]; rfl, by rw [h]; rfl⟩
    have hgood := fw_good (A := bs s) (n := bs n) hc (by rw [bs_length]; omega) (bs B3) (by rw [bs_length]; exact hB3b)
    rw [bs_length, bs_length, Int.natCast_add, Int.natCast_one] at hgood
    obtain ⟨g1, g2, g3, g4⟩ := hgood
    have cN2 : Gives 23 #[.string B3, .int .i64 ((s.size : Int) + 1)] (.tuple #[.string n, .int .i64 B3.size, .int .i64 0]) := uN B3 n _ _ _ (by unfold maxLen; omega) ⟨g2, by rw [g3], by rw [g1]; rfl⟩
    have cJ2 : Gives 26 #[.string B3, .int .i64 ((s.size : Int) + 1)] (.int .i64 1) := uJ B3 _ _ (by unfold maxLen; omega) (by rw [g4]; rfl)
    clear hs hn ha hbig hbig2 hc hP hP2 hT1 hT2 hT1b hT2b hT1s hT2s hA1s hA2s hA3s hB1s hB2s hB3s hA3b hB3b g1 g2 g3 g4
    go_enter Try.func8, Try.ntmps8
    go_wp2_with fail
    refine (ulives.go _).mono ?_
    rintro e w' ⟨rfl, hb'⟩
    replace hbb := next hbb hb'
    clear hb'
    go_wp2_with fail
    refine (cC.go _).mono ?_
    rintro e w' ⟨rfl, hb'⟩
    replace hbb := next hbb hb'
    clear hb'
    go_wp2_with fail
    refine (cP.go _).mono ?_
    rintro e w' ⟨rfl, hb'⟩
    replace hbb := next hbb hb'
    clear hb'
    go_wp2_with fail
    refine (cN1.go _).mono ?_
    rintro e w' ⟨rfl, hb'⟩
    replace hbb := next (next hbb ((Below.refl _ _).alloc (Nat.le_refl _) _)) hb'
    clear hb'
    go_wp2_with fail
    refine (cN2.go _).mono ?_
    rintro e w' ⟨rfl, hb'⟩
    replace hbb := next (next hbb ((Below.refl _ _).alloc (Nat.le_refl _) _)) hb'
    clear hb'
    go_wp2_with fail
    refine (cJ2.go _).mono ?_
    rintro e w' ⟨rfl, hb'⟩
    replace hbb := next hbb hb'
    clear hb'
    go_wp2
    go_ret
    exact ⟨rfl, hbb⟩
  · have hne : ((chkN (bs n) : Int) != 0) = true := by rw [bne_iff_ne]; omega
    clear hs hn ha hbig hbig2 hc
    go_enter Try.func8, Try.ntmps8
    go_wp2_with fail
    refine (ulives.go _).mono ?_
    rintro e w' ⟨rfl, hb'⟩
    replace hbb := next hbb hb'
    clear hb'
    go_wp2_with fail
    refine (cC.go _).mono ?_
    rintro e w' ⟨rfl, hb'⟩
    replace hbb := next hbb hb'
    clear hb'
    go_wp2
    go_ret
    exact ⟨rfl, hbb⟩
end Go.Proofs.Ytlpgoeigcccmhaa
