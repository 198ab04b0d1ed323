/-
  What name.Compare, Same, Under, Parent, Join, Wild, Matches answer: the walks. Condition: the names are no longer than Go's own limit.
-/
import Derived.Test.YtjflmifolmpdgaaNmCmp
import Derived.Test.YtjflmifolmpdgaaNmPut
namespace Go.Proofs.Ytjflmifolmpdgaa
open Go.RowKit Go.Shelf
set_option linter.unusedVariables false

theorem small_of {L : List ByteArray} {l : List (List UInt8)} (h : L.map bs = l) (hl : okN l) : ∀ x ∈ L, x.size ≤ maxLen := fun x hx => by
  have := (hl (bs x) (by rw [← h]; exact List.mem_map_of_mem hx)).2
  rw [bs_length] at this
  unfold maxLen
  omega
theorem okN_rev {l : List (List UInt8)} (h : okN l) : okN l.reverse := fun x hx => h x (List.mem_reverse.1 hx)
theorem len_of {L : List ByteArray} {l : List UInt8} (h : L.map bs = (nlabs l).reverse) : L.length = (nlabs l).length := by
  have := congrArg List.length h
  simpa using this

set_option maxHeartbeats 1000000 in
theorem nCompare_any (a b : ByteArray) (w : World) (ha : a.size ≤ maxLen) (hb : b.size ≤ maxLen) :
    Calls Try.prog 20 #[.string a, .string b] w fun e w' => e = .returned (.int .i64 (cmpN (bs a) (bs b))) ∧ Below w.heap.size w w' := by
  have HA := Lib.hid (fun wx => backward_any a wx ha)
  have HB := Lib.hid (fun wx => backward_any b wx hb)
  clear ha hb
  go_enter Try.func20, Try.ntmps20
  go_wp2_with fail
  refine (HA.out _).mono ?_
  rintro e w1 ⟨v1, X, rfl, hX, hXL, hb1⟩
  obtain ⟨A, ca, rfl, _, _⟩ := hX.shape
  have HXL := Lib.hid hXL
  have hXn : X.length ≤ 127 := by rw [len_of hXL]; exact nlabs_len _
  clear hXL
  go_wp2_with fail
  refine (HB.out _).mono ?_
  rintro e w2 ⟨v2, Y, rfl, hY, hYL, hb2⟩
  obtain ⟨C, cc, rfl, _, _⟩ := hY.shape
  have HYL := Lib.hid hYL
  have hYn : Y.length ≤ 127 := by rw [len_of hYL]; exact nlabs_len _
  clear hYL
  have HC := Lib.hid (CompareFunc_any A C ca cc X Y w2 (hX.next hb2) hY hXn hYn (small_of HXL.out (okN_rev (nlabs_ok _))) (small_of HYL.out (okN_rev (nlabs_ok _))))
  go_wp2_with fail
  refine HC.out.mono ?_
  rintro e w3 ⟨rfl, hb3⟩
  go_wp2
  go_ret
  refine ⟨?_, next (next hb1 hb2) hb3⟩
  have e : cmpW (X.map bs) (Y.map bs) = cmpN (bs a) (bs b) := by
    rw [cmpW_R, HXL.out, HYL.out, List.map_reverse, List.map_reverse]
    rfl
  rw [← e]
  rfl

/-- Whether both may be. -/
def may2 (a b : List UInt8) : Bool := (chkN a == 0) && (chkN b == 0)
set_option maxHeartbeats 1000000 in
theorem mayBe_any (a b : ByteArray) (w : World) (ha : a.size ≤ maxLen) (hb : b.size ≤ maxLen) :
    Calls Try.prog 47 #[.string a, .string b] w fun e w' => e = .returned (.bool (may2 (bs a) (bs b))) ∧ Below w.heap.size w w' := by
  have HA := Lib.hid (fun wx => nCheck_any a wx ha)
  have HB := Lib.hid (fun wx => nCheck_any b wx hb)
  clear ha hb
  by_cases h : chkN (bs a) = 0
  · have hb0 : ((chkN (bs a) : Int) == 0) = true := beq_iff_eq.2 (by omega)
    by_cases k : chkN (bs b) = 0
    · have hb1 : ((chkN (bs b) : Int) == 0) = true := beq_iff_eq.2 (by omega)
      have HE : Hid (may2 (bs a) (bs b) = true) := Lib.hid (by unfold may2; rw [h, k]; rfl)
      clear h k
      go_enter Try.func47, Try.ntmps47
      go_wp2_with fail
      refine (HA.out _).mono ?_
      rintro e w1 ⟨rfl, hb2⟩
      go_wp2_with fail
      refine (HB.out _).mono ?_
      rintro e w2 ⟨rfl, hb3⟩
      go_wp2
      go_ret
      exact ⟨by rw [HE.out]; rfl, next hb2 hb3⟩
    · have hb1 : ((chkN (bs b) : Int) == 0) = false := beq_eq_false_iff_ne.2 (by omega)
      have HE : Hid (may2 (bs a) (bs b) = false) := Lib.hid (by unfold may2; rw [beq_eq_false_iff_ne.2 k, Bool.and_false])
      clear h k
      go_enter Try.func47, Try.ntmps47
      go_wp2_with fail
      refine (HA.out _).mono ?_
      rintro e w1 ⟨rfl, hb2⟩
      go_wp2_with fail
      refine (HB.out _).mono ?_
      rintro e w2 ⟨rfl, hb3⟩
      go_wp2
      go_ret
      exact ⟨by rw [HE.out]; rfl, next hb2 hb3⟩
  · have hb0 : ((chkN (bs a) : Int) == 0) = false := beq_eq_false_iff_ne.2 (by omega)
    have HE : Hid (may2 (bs a) (bs b) = false) := Lib.hid (by unfold may2; rw [beq_eq_false_iff_ne.2 h, Bool.false_and])
    clear h
    go_enter Try.func47, Try.ntmps47
    go_wp2_with fail
    refine (HA.out _).mono ?_
    rintro e w1 ⟨rfl, hb2⟩
    go_wp2
    go_ret
    exact ⟨by rw [HE.out]; rfl, hb2⟩

theorem may2_yes {a b : List UInt8} (h : may2 a b = true) : chkN a = 0 ∧ chkN b = 0 := by
  unfold may2 at h
  rw [Bool.and_eq_true, beq_iff_eq, beq_iff_eq] at h
  exact h
theorem samN_may (a b : List UInt8) : samN a b = (may2 a b && (cmpN a b == 0)) := rfl
theorem undN_may (a b : List UInt8) : undN a b = (may2 a b && (rows b).isPrefixOf (rows a)) := rfl

set_option maxHeartbeats 1000000 in
theorem nSame_any (a b : ByteArray) (w : World) (ha : a.size ≤ maxLen) (hb : b.size ≤ maxLen) :
    Calls Try.prog 19 #[.string a, .string b] w fun e w' => e = .returned (.bool (samN (bs a) (bs b))) ∧ Below w.heap.size w w' := by
  have HA := Lib.hid (fun wx => mayBe_any a b wx ha hb)
  have HB := Lib.hid (fun wx => nCompare_any a b wx ha hb)
  clear ha hb
  cases h : may2 (bs a) (bs b)
  · rw [h] at HA
    have HE : Hid (samN (bs a) (bs b) = false) := Lib.hid (by rw [samN_may, h, Bool.false_and])
    clear h
    go_enter Try.func19, Try.ntmps19
    go_wp2_with (go_at_call 47; refine (HA.out _).mono ?_; rintro e w1 ⟨rfl, hb1⟩)
    go_ret
    exact ⟨by rw [HE.out]; rfl, hb1⟩
  · rw [h] at HA
    have HE : Hid (samN (bs a) (bs b) = (cmpN (bs a) (bs b) == 0)) := Lib.hid (by rw [samN_may, h, Bool.true_and])
    clear h
    go_enter Try.func19, Try.ntmps19
    go_wp2_with fail
    refine (HA.out _).mono ?_
    rintro e w1 ⟨rfl, hb1⟩
    go_wp2_with fail
    refine (HB.out _).mono ?_
    rintro e w2 ⟨rfl, hb2⟩
    go_wp2
    go_ret
    exact ⟨by rw [HE.out]; rfl, next hb1 hb2⟩

/-- A row's head is a row. -/
theorem SRow.take {W : World} {A : Option Addr} {ca : Nat} {X : List ByteArray} (h : SRow W (.slice A X.length ca) X) {m : Nat} (hm : m ≤ X.length) : SRow W (.slice A (X.take m).length ca) (X.take m) := by
  rcases h with ⟨h1, h2⟩ | ⟨g, off, c, h1, h2, h3, h4, h5⟩
  · left
    subst h2
    simp at h1 ⊢
    exact h1
  · injection h1 with h1 _ h1'
    subst h1
    subst h1'
    have hl : (X.take m).length = m := by rw [List.length_take]; omega
    refine .inr ⟨g, off, ca, rfl, h2, by omega, h4, fun j hj => ?_⟩
    rw [hl] at hj
    rw [List.getElem_take]
    exact h5 j (by omega)

set_option maxHeartbeats 2000000 in
theorem Under_any (a b : ByteArray) (w : World) (ha : a.size ≤ maxLen) (hb : b.size ≤ maxLen) :
    Calls Try.prog 21 #[.string a, .string b] w fun e w' => e = .returned (.bool (undN (bs a) (bs b))) ∧ Below w.heap.size w w' := by
  have HM := Lib.hid (fun wx => mayBe_any a b wx ha hb)
  have HA := Lib.hid (fun wx => backward_any a wx ha)
  have HB := Lib.hid (fun wx => backward_any b wx hb)
  clear ha hb
  cases h : may2 (bs a) (bs b)
  · rw [h] at HM
    have HE : Hid (undN (bs a) (bs b) = false) := Lib.hid (by rw [undN_may, h, Bool.false_and])
    clear h
    go_enter Try.func21, Try.ntmps21
    go_wp2_with (go_at_call 47; refine (HM.out _).mono ?_; rintro e w1 ⟨rfl, hb1⟩)
    go_ret
    exact ⟨by rw [HE.out]; rfl, hb1⟩
  · rw [h] at HM
    obtain ⟨h1, h2⟩ := may2_yes h
    have HE := Lib.hid (undN_walk h1 h2)
    clear h h1 h2
    go_enter Try.func21, Try.ntmps21
    go_wp2_with fail
    refine (HM.out _).mono ?_
    rintro e w0 ⟨rfl, hb0⟩
    go_wp2_with fail
    refine (HA.out _).mono ?_
    rintro e w1 ⟨v1, X, rfl, hX, hXL, hb1⟩
    obtain ⟨A, ca, rfl, hca, hca2⟩ := hX.shape
    have HXL := Lib.hid hXL
    have HXl := Lib.hid (len_of hXL)
    have hXn : X.length ≤ 127 := by rw [len_of hXL]; exact nlabs_len _
    clear hXL
    go_wp2_with fail
    refine (HB.out _).mono ?_
    rintro e w2 ⟨v2, Y, rfl, hY, hYL, hb2⟩
    obtain ⟨C, cc, rfl, _, _⟩ := hY.shape
    have HYL := Lib.hid hYL
    have HYl := Lib.hid (len_of hYL)
    have hYn : Y.length ≤ 127 := by rw [len_of hYL]; exact nlabs_len _
    clear hYL
    unfold maxLen at hca2
    by_cases hle : Y.length ≤ X.length
    · have hl : (X.take Y.length).length = Y.length := by rw [List.length_take]; omega
      have hX2 := (hX.next hb2).take hle
      have HC := Lib.hid (EqualFunc_any A C ca cc (X.take Y.length) Y w2 hX2 hY (by omega) hYn (fun x hx => small_of HXL.out (okN_rev (nlabs_ok _)) x (List.mem_of_mem_take hx)) (small_of HYL.out (okN_rev (nlabs_ok _))))
      rw [hl] at HC
      have HR : Hid (undN (bs a) (bs b) = eqW ((X.take Y.length).map bs) (Y.map bs)) := Lib.hid (by
        rw [HE.out, decide_eq_true (by rw [← HXl.out, ← HYl.out]; exact hle), Bool.true_and, List.map_take, HXL.out, HYL.out, HYl.out])
      clear hl hX2
      go_wp2_with fail
      refine HC.out.mono ?_
      rintro e w3 ⟨rfl, hb3⟩
      go_wp2
      go_ret
      exact ⟨by rw [HR.out, List.map_take]; rfl, next (next (next hb0 hb1) hb2) hb3⟩
    · have HR : Hid (undN (bs a) (bs b) = false) := Lib.hid (by
        rw [HE.out, decide_eq_false (by rw [← HXl.out, ← HYl.out]; exact hle), Bool.false_and])
      have hb3 : ¬ ((Y.length : Int) ≤ X.length) := by omega
      go_wp2
      go_ret
      exact ⟨by rw [HR.out]; rfl, next (next hb0 hb1) hb2⟩

/-- A name and whether there is one. -/
def Nb (w : World) (x : List UInt8 × Bool) (e : Ending) (w' : World) : Prop := e = .returned (.tuple #[.string ⟨x.1.toArray⟩, .bool x.2]) ∧ Below w.heap.size w w'
theorem nb_ret {w w' : World} {x : List UInt8 × Bool} (s : ByteArray) (l : List UInt8) (b : Bool) (hx : x = (l, b)) (hs : bs s = l) (hb : Below w.heap.size w w') :
    Nb w x (.returned (.tuple #[.string s, .bool b])) w' := by
  subst hx; subst hs; exact ⟨rfl, hb⟩
theorem bs_nil : bs ⟨#[]⟩ = [] := rfl
set_option maxHeartbeats 1000000 in
theorem Parent_any (n : ByteArray) (w : World) (hs : n.size ≤ maxLen) : Calls Try.prog 15 #[.string n] w (Nb w (parN (bs n))) := by
  have HC := Lib.hid (fun wx => nCheck_any n wx hs)
  by_cases hc : chkN (bs n) = 0
  · have hb : ((chkN (bs n) : Int) != 0) = false := by rw [hc]; rfl
    rcases hk : cutL (bs n) with _ | ⟨x, r⟩
    · have HK := Lib.hid (fun wx => cut_none n wx hs hk)
      have HE : Hid (parN (bs n) = ([], false)) := Lib.hid (by unfold parN; rw [if_pos hc, hk])
      clear hc hk
      go_enter Try.func15, Try.ntmps15
      go_wp2_with (first | (go_at_call 17; refine (HC.out _).mono ?_; rintro e w1 ⟨rfl, hb1⟩) | (go_at_call 45; refine (HK.out _).mono ?_; rintro e w2 ⟨rfl, hb2⟩))
      go_ret2
      exact nb_ret _ [] _ HE.out rfl (next hb1 hb2)
    · obtain ⟨X, hX⟩ : ∃ X : ByteArray, bs X = x := ⟨_, bs_mk _⟩
      obtain ⟨R, hR⟩ : ∃ R : ByteArray, bs R = r := ⟨_, bs_mk _⟩
      have HE : Hid (parN (bs n) = (bs R, true)) := Lib.hid (by rw [hR]; exact parN_some hc hk)
      rw [← hX, ← hR] at hk
      have HK := Lib.hid (fun wx => cut_some n X R wx hs hk)
      clear hc hk hX hR
      go_enter Try.func15, Try.ntmps15
      go_wp2_with (first | (go_at_call 17; refine (HC.out _).mono ?_; rintro e w1 ⟨rfl, hb1⟩) | (go_at_call 45; refine (HK.out _).mono ?_; rintro e w2 ⟨rfl, hb2⟩))
      go_ret2
      exact nb_ret _ _ _ HE.out rfl (next hb1 hb2)
  · have hb : ((chkN (bs n) : Int) != 0) = true := bne_iff_ne.2 (by omega)
    have HE : Hid (parN (bs n) = ([], false)) := Lib.hid (if_neg hc)
    clear hc
    go_enter Try.func15, Try.ntmps15
    go_wp2_with (go_at_call 17; refine (HC.out _).mono ?_; rintro e w1 ⟨rfl, hb1⟩)
    go_ret2
    exact nb_ret _ [] _ HE.out rfl hb1

theorem named_row (g cap n : Nat) (l : List UInt8) (w : World) (hrow : Row w g l) (hn : n = l.length) (hl : l.length ≤ 70368744177664) :
    Calls Try.prog 42 #[.slice (some ⟨g, 0, none⟩) n cap] w fun e w' => e = .returned (.tuple #[.string ⟨(named l).1.toArray⟩, .int .i64 (named l).2]) ∧ w = w' := by
  have hcv := btN.conv_row hrow n cap hn
  subst hn
  by_cases h : 254 < l.length
  · have HE : Hid (named l = ([], 3)) := Lib.hid (if_pos h)
    go_enter Try.func42, Try.ntmps42
    go_wp2
    go_ret2
    rw [HE.out]
    exact ⟨rfl, rfl⟩
  · have HE : Hid (named l = (l, 0)) := Lib.hid (if_neg h)
    go_enter Try.func42, Try.ntmps42
    go_wp2
    go_ret2
    rw [HE.out]
    exact ⟨rfl, rfl⟩

set_option maxHeartbeats 1000000 in
theorem Join_any (a b : ByteArray) (w : World) (ha : a.size ≤ maxLen) (hb : b.size ≤ maxLen) : Calls Try.prog 16 #[.string a, .string b] w (Nm w (joinN (bs a) (bs b))) := by
  have HA := Lib.hid (fun wx => nCheck_any a wx ha)
  have HB := Lib.hid (fun wx => nCheck_any b wx hb)
  by_cases h : chkN (bs a) = 0
  · have hb0 : ((chkN (bs a) : Int) != 0) = false := by rw [h]; rfl
    by_cases k : chkN (bs b) = 0
    · have hb1 : ((chkN (bs b) : Int) != 0) = false := by rw [k]; rfl
      have ha2 := (chkN_iff.1 h).1
      have hb2 := (chkN_iff.1 k).1
      rw [bs_length] at ha2 hb2
      obtain ⟨AB, hAB⟩ : ∃ AB, AB = a ++ b := ⟨_, rfl⟩
      have HE : Hid (joinN (bs a) (bs b) = named (bs AB)) := Lib.hid (by unfold joinN; rw [if_neg (by omega), if_neg (by omega), hAB, bs_append])
      have hsz : AB.size = a.size + b.size := by rw [hAB, ← bs_length, bs_append, List.length_append, bs_length, bs_length]
      have HM : Hid (AB.size ≤ maxLen) := Lib.hid (by rw [hsz]; unfold maxLen; omega)
      have HLB : Hid ((bs AB).length ≤ 70368744177664) := Lib.hid (by rw [bs_length, hsz]; omega)
      have HAB := Lib.hid hAB
      clear h k ha hb hsz hAB
      go_enter Try.func16, Try.ntmps16
      go_wp2_with fail
      refine (HA.out _).mono ?_
      rintro e w1 ⟨rfl, hc1⟩
      go_wp2_with fail
      refine (HB.out _).mono ?_
      rintro e w2 ⟨rfl, hc2⟩
      go_wp2_with (first | (refine wpList_bytes (o := ⟨some 21, _, _, _, _, _⟩) btN _ rfl (.tmp 20) rfl AB (by rw [HAB.out]; rfl) HM.out ?_; intro cap w3 hrow hc3 _ _ _) | (go_at_call 42; refine (named_row _ cap _ (bs AB) w3 hrow (bs_length _).symm HLB.out).mono ?_; rintro e w4 ⟨rfl, rfl⟩))
      go_ret2
      refine ⟨?_, next (next hc1 hc2) hc3⟩
      rw [HE.out]
      rfl
    · have hb1 : ((chkN (bs b) : Int) != 0) = true := bne_iff_ne.2 (by omega)
      have HE : Hid (joinN (bs a) (bs b) = ([], chkN (bs b))) := Lib.hid (by unfold joinN; rw [if_neg (by omega), if_pos k])
      clear h k
      go_enter Try.func16, Try.ntmps16
      go_wp2_with fail
      refine (HA.out _).mono ?_
      rintro e w1 ⟨rfl, hc1⟩
      go_wp2_with fail
      refine (HB.out _).mono ?_
      rintro e w2 ⟨rfl, hc2⟩
      go_wp2
      go_ret2
      exact nm_ret _ [] _ _ HE.out rfl rfl (next hc1 hc2)
  · have hb0 : ((chkN (bs a) : Int) != 0) = true := bne_iff_ne.2 (by omega)
    have HE : Hid (joinN (bs a) (bs b) = ([], chkN (bs a))) := Lib.hid (by unfold joinN; rw [if_pos h])
    clear h
    go_enter Try.func16, Try.ntmps16
    go_wp2_with fail
    refine (HA.out _).mono ?_
    rintro e w1 ⟨rfl, hc1⟩
    go_wp2
    go_ret2
    exact nm_ret _ [] _ _ HE.out rfl rfl hc1

set_option maxHeartbeats 1000000 in
theorem Wild_any (n : ByteArray) (w : World) (hs : n.size ≤ maxLen) : Calls Try.prog 22 #[.string n] w fun e w' => e = .returned (.bool (wildN (bs n))) ∧ Below w.heap.size w w' := by
  have HC := Lib.hid (fun wx => nCheck_any n wx hs)
  by_cases hc : chkN (bs n) = 0
  · have hb : ((chkN (bs n) : Int) != 0) = false := by rw [hc]; rfl
    rcases hk : cutL (bs n) with _ | ⟨x, r⟩
    · have HK := Lib.hid (fun wx => cut_none n wx hs hk)
      have HE : Hid (wildN (bs n) = false) := Lib.hid (by rw [(cutL_nil hc).1 hk]; rfl)
      clear hc hk
      go_enter Try.func22, Try.ntmps22
      go_wp2_with (first | (go_at_call 17; refine (HC.out _).mono ?_; rintro e w1 ⟨rfl, hb1⟩) | (go_at_call 45; refine (HK.out _).mono ?_; rintro e w2 ⟨rfl, hb2⟩))
      go_ret
      exact ⟨by rw [HE.out]; rfl, next hb1 hb2⟩
    · obtain ⟨X, hX⟩ : ∃ X : ByteArray, bs X = x := ⟨_, bs_mk _⟩
      obtain ⟨R, hR⟩ : ∃ R : ByteArray, bs R = r := ⟨_, bs_mk _⟩
      have HE : Hid (wildN (bs n) = (X.toList == [42])) := Lib.hid (by
        unfold wildN
        rw [wild_cut hk, hc, bs_toList, hX]
        rfl)
      rw [← hX, ← hR] at hk
      have HK := Lib.hid (fun wx => cut_some n X R wx hs hk)
      clear hc hk hX hR
      go_enter Try.func22, Try.ntmps22
      go_wp2_with (first | (go_at_call 17; refine (HC.out _).mono ?_; rintro e w1 ⟨rfl, hb1⟩) | (go_at_call 45; refine (HK.out _).mono ?_; rintro e w2 ⟨rfl, hb2⟩))
      go_ret
      exact ⟨by rw [HE.out]; rfl, next hb1 hb2⟩
  · have hb : ((chkN (bs n) : Int) != 0) = true := bne_iff_ne.2 (by omega)
    have HE : Hid (wildN (bs n) = false) := Lib.hid (by unfold wildN; rw [beq_eq_false_iff_ne.2 hc, Bool.false_and])
    clear hc
    go_enter Try.func22, Try.ntmps22
    go_wp2_with (go_at_call 17; refine (HC.out _).mono ?_; rintro e w1 ⟨rfl, hb1⟩)
    go_ret
    exact ⟨by rw [HE.out]; rfl, hb1⟩

theorem labs_len {L : List ByteArray} {l : List UInt8} (h : L.map bs = nlabs l) : L.length = (nlabs l).length := by
  have := congrArg List.length h
  simpa using this
set_option maxHeartbeats 2000000 in
theorem Matches_any (v n : ByteArray) (w : World) (hv : v.size ≤ maxLen) (hn : n.size ≤ maxLen) : Calls Try.prog 38 #[.string v, .string n] w fun e w' => e = .returned (.bool (matN (bs v) (bs n))) ∧ Below w.heap.size w w' := by
  have HW := Lib.hid (fun wx => Wild_any v wx hv)
  cases h : wildN (bs v)
  · rw [h] at HW
    have HE : Hid (matN (bs v) (bs n) = false) := Lib.hid (by unfold matN; rw [h, Bool.false_and])
    clear h
    go_enter Try.func38, Try.ntmps38
    go_wp2_with (go_at_call 22; refine (HW.out _).mono ?_; rintro e w1 ⟨rfl, hb1⟩)
    go_ret
    exact ⟨by rw [HE.out]; rfl, hb1⟩
  · rw [h] at HW
    have HP := Lib.hid (fun wx => Parent_any v wx hv)
    obtain ⟨P, hP⟩ : ∃ P : ByteArray, P = ⟨(parN (bs v)).1.toArray⟩ := ⟨_, rfl⟩
    have hPb : bs P = (parN (bs v)).1 := by rw [hP, bs_mk]
    have hPs : P.size ≤ maxLen := by
      rw [← bs_length, hPb]
      unfold parN
      split
      · rename_i hc
        rcases hk : cutL (bs v) with _ | ⟨x, r⟩
        · simp
        · have := cutL_len hk
          have := (chkN_iff.1 hc).1
          simp only
          unfold maxLen
          omega
      · simp
    have HPN : Hid (∀ wx, Calls Try.prog 15 #[.string v] wx fun e w' => e = .returned (.tuple #[.string P, .bool (parN (bs v)).2]) ∧ Below wx.heap.size wx w') := Lib.hid (fun wx => by
      rw [hP]
      exact HP.out wx)
    have HU := Lib.hid (fun wx => Under_any n P wx hn hPs)
    have HL := Lib.hid (fun wx => Labels_any n wx hn)
    have HM := Lib.hid (fun wx => Labels_any P wx hPs)
    have hE : matN (bs v) (bs n) = (undN (bs n) (bs P) && decide ((nlabs (bs P)).length < (nlabs (bs n)).length)) := by
      unfold matN
      rw [h, Bool.true_and, hPb]
    have hN := nlabs_len (bs n)
    have hN2 := nlabs_len (bs P)
    clear h HP hP hPb hv hn hPs
    cases hu : undN (bs n) (bs P)
    · rw [hu] at HU
      rw [hu, Bool.false_and] at hE
      have HE := Lib.hid hE
      clear hE hu
      go_enter Try.func38, Try.ntmps38
      go_wp2_with (first | (go_at_call 22; refine (HW.out _).mono ?_; rintro e w1 ⟨rfl, hb1⟩) | (go_at_call 15; refine (HPN.out _).mono ?_; rintro e w2 ⟨rfl, hb2⟩) | (go_at_call 21; refine (HU.out _).mono ?_; rintro e w3 ⟨rfl, hb3⟩))
      go_ret
      exact ⟨by rw [HE.out]; rfl, next (next hb1 hb2) hb3⟩
    · rw [hu] at HU
      rw [hu, Bool.true_and] at hE
      have HE := Lib.hid hE
      clear hE hu
      go_enter Try.func38, Try.ntmps38
      go_wp2_with (first | (go_at_call 22; refine (HW.out _).mono ?_; rintro e w1 ⟨rfl, hb1⟩) | (go_at_call 15; refine (HPN.out _).mono ?_; rintro e w2 ⟨rfl, hb2⟩) | (go_at_call 21; refine (HU.out _).mono ?_; rintro e w3 ⟨rfl, hb3⟩))
      refine (HL.out _).mono ?_
      rintro e w4 ⟨v4, X, rfl, hX, hXL, hb4⟩
      obtain ⟨A, ca, rfl, _, _⟩ := hX.shape
      have hXl := labs_len hXL
      rw [hXl]
      clear hXL hX
      go_wp2_with fail
      refine (HM.out _).mono ?_
      rintro e w5 ⟨v5, Y, rfl, hY, hYL, hb5⟩
      obtain ⟨C, cc, rfl, _, _⟩ := hY.shape
      have hYl := labs_len hYL
      rw [hYl]
      clear hYL hY
      have HX := Lib.hid hXl
      have HY := Lib.hid hYl
      clear hXl hYl
      go_wp2
      go_ret
      refine ⟨?_, next (next (next (next hb1 hb2) hb3) hb4) hb5⟩
      rw [HE.out]
      simp
end Go.Proofs.Ytjflmifolmpdgaa
