/-
  What name.Compare, Same, Under, Parent, Join, Wild, Matches answer: the walks. Condition: the names are no longer than Go's own limit.
-/
import Derived.Test.YtmjhofgcfolelaaNmCmp
import Derived.Test.YtmjhofgcfolelaaNmPut
namespace Go.Proofs.Ytmjhofgcfolelaa
open Go.RowKit Go.Shelf
set_option linter.unusedVariables false

theorem small_of {L : List ByteArray} {l : List (List UInt8)} (h : L.map bs = l) (hl : okN l) : ∀ x ∈ L, x.size ≤ maxLen := fun x hx => by
  have := (hl (bs x) (by rw [← h]; exact List.mem_map_of_mem hx)).2
  rw [bs_length] at this
  unfold maxLen
  omega
theorem okN_rev {l : List (List UInt8)} (h : okN l) : okN l.reverse := fun x hx => h x (List.mem_reverse.1 hx)
theorem len_of {L : List ByteArray} {l : List UInt8} (h : L.map bs = (nlabs l).reverse) : L.length = (nlabs l).length := by
  have := congrArg List.length h
  simpa using this

set_option maxHeartbeats 1000000 in
theorem nCompare_any (a b : ByteArray) (w : World) (ha : a.size ≤ maxLen) (hb : b.size ≤ maxLen) :
    Calls Try.prog 30 #[.string a, .string b] w fun e w' => e = .returned (.int .i64 (cmpN (bs a) (bs b))) ∧ Below w.heap.size w w' := by
  have HA := Lib.hid (fun wx => backward_any a wx ha)
  have HB := Lib.hid (fun wx => backward_any b wx hb)
  clear ha hb
  go_enter Try.func30, Try.ntmps30
  go_wp2_with fail
  refine (HA.out _).mono ?_
  rintro e w1 ⟨v1, X, rfl, hX, hXL, hb1⟩
  obtain ⟨A, ca, rfl, _, _⟩ := hX.shape
  have HXL := Lib.hid hXL
  have hXn : X.length ≤ 127 := by rw [len_of hXL]; exact nlabs_len _
  clear hXL
  go_wp2_with fail
  refine (HB.out _).mono ?_
  rintro e w2 ⟨v2, Y, rfl, hY, hYL, hb2⟩
  obtain ⟨C, cc, rfl, _, _⟩ := hY.shape
  have HYL := Lib.hid hYL
  have hYn : Y.length ≤ 127 := by rw [len_of hYL]; exact nlabs_len _
  clear hYL
  have HC := Lib.hid (CompareFunc_any A C ca cc X Y w2 (hX.next hb2) hY hXn hYn (small_of HXL.out (okN_rev (nlabs_ok _))) (small_of HYL.out (okN_rev (nlabs_ok _))))
  go_wp2_with fail
  refine HC.out.mono ?_
  rintro e w3 ⟨rfl, hb3⟩
  go_wp2
  go_ret
  refine ⟨?_, next (next hb1 hb2) hb3⟩
  have e : cmpW (X.map bs) (Y.map bs) = cmpN (bs a) (bs b) := by
    rw [cmpW_R, HXL.out, HYL.out, List.map_reverse, List.map_reverse]
    rfl
  rw [← e]
  rfl

/-- Whether both may be. -/
def may2 (a b : List UInt8) : Bool := (chkN a == 0) && (chkN b == 0)
set_option maxHeartbeats 1000000 in
theorem mayBe_any (a b : ByteArray) (w : World) (ha : a.size ≤ maxLen) (hb : b.size ≤ maxLen) :
    Calls Try.prog 29 #[.string a, .string b] w fun e w' => e = .returned (.bool (may2 (bs a) (bs b))) ∧ Below w.heap.size w w' := by
  have HA := Lib.hid (fun wx => nCheck_any a wx ha)
  have HB := Lib.hid (fun wx => nCheck_any b wx hb)
  clear ha hb
  by_cases h : chkN (bs a) = 0
  · have hb0 : ((chkN (bs a) : Int) == 0) = true := beq_iff_eq.2 (by omega)
    by_cases k : chkN (bs b) = 0
    · have hb1 : ((chkN (bs b) : Int) == 0) = true := beq_iff_eq.2 (by omega)
      have HE : Hid (may2 (bs a) (bs b) = true) := Lib.hid (by unfold may2; rw [h, k]; rfl)
      clear h k
      go_enter Try.func29, Try.ntmps29
      go_wp2_with fail
      refine (HA.out _).mono ?_
      rintro e w1 ⟨rfl, hb2⟩
      go_wp2_with fail
      refine (HB.out _).mono ?_
      rintro e w2 ⟨rfl, hb3⟩
      go_wp2
      go_ret
      exact ⟨by rw [HE.out]; rfl, next hb2 hb3⟩
    · have hb1 : ((chkN (bs b) : Int) == 0) = false := beq_eq_false_iff_ne.2 (by omega)
      have HE : Hid (may2 (bs a) (bs b) = false) := Lib.hid (by unfold may2; rw [beq_eq_false_iff_ne.2 k, Bool.and_false])
      clear h k
      go_enter Try.func29, Try.ntmps29
      go_wp2_with fail
      refine (HA.out _).mono ?_
      rintro e w1 ⟨rfl, hb2⟩
      go_wp2_with fail
      refine (HB.out _).mono ?_
      rintro e w2 ⟨rfl, hb3⟩
      go_wp2
      go_ret
      exact ⟨by rw [HE.out]; rfl, next hb2 hb3⟩
  · have hb0 : ((chkN (bs a) : Int) == 0) = false := beq_eq_false_iff_ne.2 (by omega)
    have HE : Hid (may2 (bs a) (bs b) = false) := Lib.hid (by unfold may2; rw [beq_eq_false_iff_ne.2 h, Bool.false_and])
    clear h
    go_enter Try.func29, Try.ntmps29
    go_wp2_with fail
    refine (HA.out _).mono ?_
    rintro e w1 ⟨rfl, hb2⟩
    go_wp2
    go_ret
    exact ⟨by rw [HE.out]; rfl, hb2⟩

theorem may2_yes {a b : List UInt8} (h : may2 a b = true) : chkN a = 0 ∧ chkN b = 0 := by
  unfold may2 at h
  rw [Bool.and_eq_true, beq_iff_eq, beq_iff_eq] at h
  exact h
theorem samN_may (a b : List UInt8) : samN a b = (may2 a b && (cmpN a b == 0)) := rfl
theorem undN_may (a b : List UInt8) : undN a b = (may2 a b && (rows b).isPrefixOf (rows a)) := rfl

set_option maxHeartbeats 1000000 in
theorem nSame_any (a b : ByteArray) (w : World) (ha : a.size ≤ maxLen) (hb : b.size ≤ maxLen) :
    Calls Try.prog 23 #[.string a, .string b] w fun e w' => e = .returned (.bool (samN (bs a) (bs b))) ∧ Below w.heap.size w w' := by
  have HA := Lib.hid (fun wx => mayBe_any a b wx ha hb)
  have HB := Lib.hid (fun wx => nCompare_any a b wx ha hb)
  clear ha hb
  cases h : may2 (bs a) (bs b)
  · rw [h] at HA
    have HE : Hid (samN (bs a) (bs b) = false) := Lib.hid (by rw [samN_may, h, Bool.false_and])
    clear h
    go_enter Try.func23, Try.ntmps23
    go_wp2_with (go_at_call 29; refine (HA.out _).mono ?_; rintro e w1 ⟨rfl, hb1⟩)
    go_ret
    exact ⟨by rw [HE.out]; rfl, hb1⟩
  · rw [h] at HA
    have HE : Hid (samN (bs a) (bs b) = (cmpN (bs a) (bs b) == 0)) := Lib.hid (by rw [samN_may, h, Bool.true_and])
    clear h
    go_enter Try.func23, Try.ntmps23
    go_wp2_with fail
    refine (HA.out _).mono ?_
    rintro e w1 ⟨rfl, hb1⟩
    go_wp2_with fail
    refine (HB.out _).mono ?_
    rintro e w2 ⟨rfl, hb2⟩
    go_wp2
    go_ret
    exact ⟨by rw [HE.out]; rfl, next hb1 hb2⟩

/-- A row's head is a row. -/
theorem SRow.take {W : World} {A : Option Addr} {ca : Nat} {X : List ByteArray} (h : SRow W (.slice A X.length ca) X) {m : Nat} (hm : m ≤ X.length) : SRow W (.slice A (X.take m).length ca) (X.take m) := by
  rcases h with ⟨A', h1, h2⟩ | ⟨g, off, c, h1, h2, h3, h4, h5⟩
  · left
    subst h2
    injection h1 with _ _ h1
    subst h1
    exact ⟨A, by rw [List.take_nil]; rfl, List.take_nil⟩
  · injection h1 with h1 _ h1'
    subst h1
    subst h1'
    have hl : (X.take m).length = m := by rw [List.length_take]; omega
    refine .inr ⟨g, off, ca, rfl, h2, by omega, h4, fun j hj => ?_⟩
    rw [hl] at hj
    rw [List.getElem_take]
    exact h5 j (by omega)

/-- A name and whether there is one. -/
def Nb (w : World) (x : List UInt8 × Bool) (e : Ending) (w' : World) : Prop := e = .returned (.tuple #[.string ⟨x.1.toArray⟩, .bool x.2]) ∧ Below w.heap.size w w'
theorem nb_ret {w w' : World} {x : List UInt8 × Bool} (s : ByteArray) (l : List UInt8) (b : Bool) (hx : x = (l, b)) (hs : bs s = l) (hb : Below w.heap.size w w') :
    Nb w x (.returned (.tuple #[.string s, .bool b])) w' := by
  subst hx; subst hs; exact ⟨rfl, hb⟩
theorem bs_nil : bs ⟨#[]⟩ = [] := rfl
theorem labs_len {L : List ByteArray} {l : List UInt8} (h : L.map bs = nlabs l) : L.length = (nlabs l).length := by
  have := congrArg List.length h
  simpa using this
end Go.Proofs.Ytmjhofgcfolelaa
