/-
  What the document's own Check, Labels, Make answer for layer 2: the walks. Conditions: as each theorem names them.
-/
import Derived.Test.YtjflmifolmpdgaaRefC
import Derived.Test.YtjflmifolmpdgaaNmPut
import Derived.Test.YtjflmifolmpdgaaNmLabels
import Derived.Test.YtjflmifolmpdgaaNmKitT
namespace Go.Proofs.Ytjflmifolmpdgaa
open Go.RowKit
set_option linter.unusedVariables false

theorem stS : ST Try.prog 9 38 := ⟨Try.underlying38, infoS⟩

theorem cut_at (n : ByteArray) (k : Nat) (hk : k < n.size) :
    cutL ((bs n).drop k) = if 1 ≤ n[k].toNat ∧ n[k].toNat ≤ 63 ∧ n[k].toNat ≤ n.size - (k + 1) then some (((bs n).drop (k + 1)).take n[k].toNat, (bs n).drop (k + 1 + n[k].toNat)) else none := by
  rw [drop_at n k hk, cutL_cons, List.length_drop, bs_length, List.drop_drop]
/-- What has been gone through. -/
def Gone (n : ByteArray) (k : Nat) (P : List (List UInt8)) : Prop := okN P ∧ bs n = enc P ++ (bs n).drop k
theorem Gone.step {n : ByteArray} {k : Nat} {P : List (List UInt8)} (h : Gone n k P) {x r : List UInt8} (hc : cutL ((bs n).drop k) = some (x, r)) (k' : Nat) (hr : r = (bs n).drop k') : Gone n k' (P ++ [x]) := by
  obtain ⟨h1, h2⟩ := h
  obtain ⟨e, hx⟩ := cutL_some hc
  refine ⟨okN_append.2 ⟨h1, okN_cons.2 ⟨hx, okN_nil⟩⟩, ?_⟩
  rw [enc_snoc, List.append_assoc, ← hr, ← e]
  exact h2
theorem Gone.labs {n : ByteArray} {k : Nat} {P : List (List UInt8)} (h : Gone n k P) : labs (bs n) = P ++ labs ((bs n).drop k) := by
  have := labs_enc P ((bs n).drop k) h.1
  rw [← h.2] at this
  exact this
theorem Gone.len {n : ByteArray} {k : Nat} {P : List (List UInt8)} (h : Gone n k P) (hk : k ≤ n.size) : (enc P).length = k ∧ 2 * P.length ≤ k := by
  have h1 := congrArg List.length h.2
  rw [List.length_append, List.length_drop, bs_length] at h1
  have h2 := enc_two h.1
  omega

/-- The relation of Check's loop. -/
def RcRel (n : ByteArray) (i : Value) : Prop := ∃ (k : Nat) (P : List (List UInt8)), i = .int .i64 k ∧ k ≤ n.size ∧ Hid (Gone n k P)

set_option maxHeartbeats 1000000 in
theorem rnCheck_any (n : ByteArray) (w : World) (hs : n.size ≤ maxLen) : Calls Try.prog 29 #[.string n] w fun e w' => e = .returned (.int .i64 (chkN (bs n))) ∧ w = w' := by
  by_cases hl : 254 < n.size
  · have HP := Lib.hid (chkN_long (l := bs n) (by rw [bs_length]; exact hl))
    unfold maxLen at hs
    go_enter Try.func29, Try.ntmps29
    go_wp2
    go_ret
    exact ⟨by rw [HP.out]; rfl, rfl⟩
  · have hle : n.size ≤ 254 := by omega
    have HP : Hid (chkN (bs n) = if (enc (labs (bs n))).length = n.size then 0 else 4) := Lib.hid (by
      unfold chkN
      rw [bs_length, if_neg hl])
    clear hs hl
    go_enter Try.func29, Try.ntmps29
    go_wp2
    go_loop [3] (fun i => RcRel n i) (fun i => n.size - (intOf i).toNat)
    case atStart => exact ⟨0, [], rfl, Nat.zero_le _, Lib.hid ⟨okN_nil, rfl⟩⟩
    case round =>
      obtain ⟨k, P, rfl, hk, hg⟩ := hrel
      by_cases hlt : k < n.size
      · have hc := cut_at n k hlt
        have b := n[k].toNat_lt
        by_cases hok : 1 ≤ n[k].toNat ∧ n[k].toNat ≤ 63 ∧ n[k].toNat ≤ n.size - (k + 1)
        · rw [if_pos hok] at hc
          have HN : Hid (Gone n (k + 1 + n[k].toNat) (P ++ [((bs n).drop (k + 1)).take n[k].toNat])) := Lib.hid (hg.out.step hc _ rfl)
          obtain ⟨o1, o2, o3⟩ := hok
          have o4 : ¬ (n.size : Int) < k + 1 + n[k].toNat := by omega
          clear hc
          go_wp2
          go_round
          case rel => exact ⟨k + 1 + n[k].toNat, _, by go_num, by omega, HN⟩
          case measure => simp [intOf]; omega
        · rw [if_neg hok] at hc
          have HE : Hid (chkN (bs n) = 4) := Lib.hid (by
            have h1 := hg.out.labs
            rw [labs_none hc, List.append_nil] at h1
            have h2 := (hg.out.len hk).1
            rw [HP.out, h1, h2, if_neg (by omega)])
          clear hc
          by_cases o1 : n[k].toNat < 1
          · clear hok
            go_wp2
            go_ret
            exact ⟨by rw [HE.out]; rfl, rfl⟩
          · by_cases o2 : 63 < n[k].toNat
            · clear hok
              go_wp2
              go_ret
              exact ⟨by rw [HE.out]; rfl, rfl⟩
            · have o3 : (n.size : Int) < k + 1 + n[k].toNat := by omega
              clear hok
              go_wp2
              go_ret
              exact ⟨by rw [HE.out]; rfl, rfl⟩
      · have HE : Hid (chkN (bs n) = 0) := Lib.hid (by
          have h1 := hg.out.labs
          rw [drop_end n k (by omega)] at h1
          have h2 := (hg.out.len hk).1
          rw [HP.out, h1, labs_nil, List.append_nil, h2, if_pos (by omega)])
        go_wp2
        go_ret
        exact ⟨by rw [HE.out]; rfl, rfl⟩

/-- What the document's Labels answers: a new row of the labels, the call's own. -/
def RLbs (w : World) (l : List (List UInt8)) (e : Ending) (w' : World) : Prop := ∃ v L, e = .returned v ∧ TOwn 9 w' w.heap.size v L ∧ L.map bs = l ∧ Below w.heap.size w w'
def RlRel (n : ByteArray) (w : World) (v i : Value) (wr : World) : Prop :=
  ∃ (k : Nat) (L : List ByteArray), i = .int .i64 k ∧ k ≤ n.size ∧ L.length ≤ k ∧ Hid (Gone n k (L.map bs)) ∧ TOwn 9 wr w.heap.size v L ∧ Below w.heap.size w wr

set_option maxHeartbeats 2000000 in
theorem rLabels_any (n : ByteArray) (w : World) (hs : n.size ≤ maxLen) : Calls Try.prog 32 #[.string n] w (RLbs w (nlabs (bs n))) := by
  have HC := Lib.hid (fun wx => rnCheck_any n wx hs)
  by_cases hc : chkN (bs n) = 0
  · have hle := (chkN_iff.1 hc).1
    rw [bs_length] at hle
    have hb : ((chkN (bs n) : Int) != 0) = false := by rw [hc]; rfl
    have HZ := Lib.hid hc
    clear hc hs
    have HR0 : Hid (RlRel n w (.slice none 0 0) (.int .i64 0) w) := Lib.hid ⟨0, [], rfl, Nat.zero_le _, Nat.le_refl _, Lib.hid ⟨okN_nil, rfl⟩, TOwn.none_ _ _, Below.refl _ _⟩
    go_enter Try.func32, Try.ntmps32
    go_wp2_with (go_at_call 29; refine (HC.out _).mono ?_; rintro e w' ⟨rfl, rfl⟩)
    go_loopw [3, 4] (fun v i wr => RlRel n w v i wr) (fun _ i _ => n.size - (intOf i).toNat)
    case atStart => exact HR0.out
    case round =>
      clear HR0
      obtain ⟨k, L, rfl, hk, hLk, hg, hown, hbb⟩ := hrel
      by_cases hlt : k < n.size
      · have hcut := cut_at n k hlt
        have b := n[k].toNat_lt
        by_cases hok : 1 ≤ n[k].toNat ∧ n[k].toNat ≤ 63 ∧ n[k].toNat ≤ n.size - (k + 1)
        · rw [if_pos hok] at hcut
          obtain ⟨o1, o2, o3⟩ := hok
          obtain ⟨X, hX⟩ : ∃ X : ByteArray, X = n.extract (k + 1) (k + 1 + n[k].toNat) := ⟨_, rfl⟩
          have hXb : bs X = ((bs n).drop (k + 1)).take n[k].toNat := by rw [hX, bs_extract]; congr 1; omega
          have HN : Hid (Gone n (k + 1 + n[k].toNat) ((L ++ [X]).map bs)) := Lib.hid (by
            have := hg.out.step hcut _ rfl
            rw [← hXb] at this
            rw [List.map_append]
            exact this)
          have o4 : (k : Int) + 1 + n[k].toNat ≤ n.size := by omega
          have HX := Lib.hid hX
          obtain ⟨A, ca, rfl⟩ := hown.shape
          have hbz := hbb.size
          have hll : L.length ≤ 1099511627776 := by omega
          clear hcut hX hXb
          go_wp2_with (at_builtin; refine wpList_appendT stS _ rfl (.tmp 17) (.tmp 26) rfl w.heap.size _ L rfl (hown.alloc _) ⟨wr.heap.size, 0, none⟩ (n.extract (k + 1) (k + 1 + n[k].toNat)) rfl (cellT _ _ _) hll (le_alloc hbz _) ?_; intro v2 w2 hown2 hg2; have HG2 := Lib.hid hg2; clear hg2)
          rw [← HX.out] at hown2
          go_roundw
          case rel => exact ⟨k + 1 + n[k].toNat, L ++ [X], by go_num, by omega, by rw [List.length_append, List.length_singleton]; omega, HN, hown2, (hbb.alloc hbz _).trans (below_grownT HG2.out (hown.alloc _) (Nat.le_refl _) (le_alloc hbz _))⟩
          case measure => simp [intOf]; omega
        · exfalso
          rw [if_neg hok] at hcut
          have h1 := hg.out.labs
          rw [labs_none hcut, List.append_nil] at h1
          have h2 := (hg.out.len hk).1
          have h3 := (chkN_iff.1 HZ.out).2
          rw [h1] at h3
          have h4 := congrArg List.length h3
          rw [h2, bs_length] at h4
          omega
      · have HE : Hid (L.map bs = nlabs (bs n)) := Lib.hid (by
          have h1 := hg.out.labs
          rw [drop_end n k (by omega), labs_nil, List.append_nil] at h1
          rw [nlabs_yes HZ.out, h1])
        obtain ⟨A, ca, rfl⟩ := hown.shape
        go_wp2
        go_ret
        exact ⟨_, L, rfl, hown, HE.out, hbb⟩
  · have hb : ((chkN (bs n) : Int) != 0) = true := bne_iff_ne.2 (by omega)
    have HE := Lib.hid (nlabs_no hc)
    clear hc hs
    go_enter Try.func32, Try.ntmps32
    go_wp2_with (go_at_call 29; refine (HC.out _).mono ?_; rintro e w1 ⟨rfl, rfl⟩)
    go_ret
    exact ⟨_, [], rfl, TOwn.none_ _ _, HE.out.symm, Below.refl _ _⟩
end Go.Proofs.Ytjflmifolmpdgaa
