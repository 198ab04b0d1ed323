/-
  What the document's own Check, Labels, Make answer for layer 2: the walks. Conditions: as each theorem names them.
-/
import Derived.Test.YtmjhofgcfolelaaLabRefC
import Derived.Test.YtmjhofgcfolelaaNmPut
import Derived.Test.YtmjhofgcfolelaaNmLabels
import Derived.Test.YtmjhofgcfolelaaNmKitT
import Derived.Test.YtmjhofgcfolelaaNmRefK
namespace Go.Proofs.Ytmjhofgcfolelaa
open Go.RowKit
set_option linter.unusedVariables false

theorem stS : ST Try.prog 9 57 := ⟨Try.underlying57, infoS⟩

/-- What the document's Labels answers: a new row of the labels, the call's own. -/
def RLbs (w : World) (l : List (List UInt8)) (e : Ending) (w' : World) : Prop := ∃ v L, e = .returned v ∧ TOwn 9 w' w.heap.size v L ∧ L.map bs = l ∧ Below w.heap.size w w'
def RlRel (n : ByteArray) (w : World) (v i : Value) (wr : World) : Prop :=
  ∃ (k : Nat) (L : List ByteArray), i = .int .i64 k ∧ k ≤ n.size ∧ L.length ≤ k ∧ Hid (Gone n k (L.map bs)) ∧ TOwn 9 wr w.heap.size v L ∧ Below w.heap.size w wr

set_option maxHeartbeats 2000000 in
theorem rLabels_any (n : ByteArray) (w : World) (hs : n.size ≤ maxLen) : Calls Try.prog 33 #[.string n] w (RLbs w (nlabs (bs n))) := by
  have HC := Lib.hid (fun wx => rnCheck_any n wx hs)
  by_cases hc : chkN (bs n) = 0
  · have hle := (chkN_iff.1 hc).1
    rw [bs_length] at hle
    have hb : ((chkN (bs n) : Int) != 0) = false := by rw [hc]; rfl
    have HZ := Lib.hid hc
    clear hc hs
    have HR0 : Hid (RlRel n w (.slice none 0 0) (.int .i64 0) w) := Lib.hid ⟨0, [], rfl, Nat.zero_le _, Nat.le_refl _, Lib.hid ⟨okN_nil, rfl⟩, TOwn.none_ _ _, Below.refl _ _⟩
    go_enter Try.func33, Try.ntmps33
    go_wp2_with (go_at_call 43; refine (HC.out _).mono ?_; rintro e w' ⟨rfl, rfl⟩)
    go_loopw [3, 4] (fun v i wr => RlRel n w v i wr) (fun _ i _ => n.size - (intOf i).toNat)
    case atStart => exact HR0.out
    case round =>
      clear HR0
      obtain ⟨k, L, rfl, hk, hLk, hg, hown, hbb⟩ := hrel
      by_cases hlt : k < n.size
      · have hcut := cut_at n k hlt
        have b := n[k].toNat_lt
        by_cases hok : 1 ≤ n[k].toNat ∧ n[k].toNat ≤ 63 ∧ n[k].toNat ≤ n.size - (k + 1)
        · rw [if_pos hok] at hcut
          obtain ⟨o1, o2, o3⟩ := hok
          obtain ⟨X, hX⟩ : ∃ X : ByteArray, X = n.extract (k + 1) (k + 1 + n[k].toNat) := ⟨_, rfl⟩
          have hXb : bs X = ((bs n).drop (k + 1)).take n[k].toNat := by rw [hX, bs_extract]; congr 1; omega
          have HN : Hid (Gone n (k + 1 + n[k].toNat) ((L ++ [X]).map bs)) := Lib.hid (by
            have := hg.out.step hcut _ rfl
            rw [← hXb] at this
            rw [List.map_append]
            exact this)
          have o4 : (k : Int) + 1 + n[k].toNat ≤ n.size := by omega
          have HX := Lib.hid hX
          obtain ⟨A, ca, rfl⟩ := hown.shape
          have hbz := hbb.size
          have hll : L.length ≤ 1099511627776 := by omega
          clear hcut hX hXb
          go_wp2_with (at_builtin; refine wpList_appendT stS _ rfl (.tmp 17) (.tmp 26) rfl w.heap.size _ L rfl (hown.alloc _) ⟨wr.heap.size, 0, none⟩ (n.extract (k + 1) (k + 1 + n[k].toNat)) rfl (cellT _ _ _) hll (le_alloc hbz _) ?_; intro v2 w2 hown2 hg2; have HG2 := Lib.hid hg2; clear hg2)
          rw [← HX.out] at hown2
          go_roundw
          case rel => exact ⟨k + 1 + n[k].toNat, L ++ [X], by go_num, by omega, by rw [List.length_append, List.length_singleton]; omega, HN, hown2, (hbb.alloc hbz _).trans (below_grownT HG2.out (hown.alloc _) (Nat.le_refl _) (le_alloc hbz _))⟩
          case measure => simp [intOf]; omega
        · exfalso
          rw [if_neg hok] at hcut
          have h1 := hg.out.labs
          rw [labs_none hcut, List.append_nil] at h1
          have h2 := (hg.out.len hk).1
          have h3 := (chkN_iff.1 HZ.out).2
          rw [h1] at h3
          have h4 := congrArg List.length h3
          rw [h2, bs_length] at h4
          omega
      · have HE : Hid (L.map bs = nlabs (bs n)) := Lib.hid (by
          have h1 := hg.out.labs
          rw [drop_end n k (by omega), labs_nil, List.append_nil] at h1
          rw [nlabs_yes HZ.out, h1])
        obtain ⟨A, ca, rfl⟩ := hown.shape
        go_wp2
        go_ret
        exact ⟨_, L, rfl, hown, HE.out, hbb⟩
  · have hb : ((chkN (bs n) : Int) != 0) = true := bne_iff_ne.2 (by omega)
    have HE := Lib.hid (nlabs_no hc)
    clear hc hs
    go_enter Try.func33, Try.ntmps33
    go_wp2_with (go_at_call 43; refine (HC.out _).mono ?_; rintro e w1 ⟨rfl, rfl⟩)
    go_ret
    exact ⟨_, [], rfl, TOwn.none_ _ _, HE.out.symm, Below.refl _ _⟩
end Go.Proofs.Ytmjhofgcfolelaa
