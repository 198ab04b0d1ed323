/-
  What the law AddrBack asks of octets, labels, and of a row of strings that is stored into. Conditions: as each theorem names them.
-/
import Derived.Test.YtjadghmanpkgoaaGreatDoorAdUse
namespace Go.Proofs.YtjadghmanpkgoaaGreatDoor
open Go.RowKit
set_option linter.unusedVariables false

theorem elder_oct {a : Ad} (hc : chkA a = 0) (h : a.1 = false) : elderA (nats (octA a)) = a := by
  obtain ⟨six, hi, lo⟩ := a
  simp only at h
  subst h
  obtain ⟨h1, h2⟩ := chk_old hc rfl
  simp only at h1 h2
  subst h1
  exact elder_octs h2
theorem newer_oct {a : Ad} (hf : fitA a) (h : a.1 = true) : newerA 256 (nats (octA a)) = a := by
  obtain ⟨six, hi, lo⟩ := a
  simp only at h
  subst h
  unfold newerA
  have e : nats (octA (true, hi, lo)) = nats (octs hi 8) ++ nats (octs lo 8) := by simp [nats, octA, allO]
  have l1 : (nats (octs hi 8)).length = 8 := by rw [nats_length, octs_length]
  have l2 : (nats (octs lo 8)).length = 8 := by rw [nats_length, octs_length]
  rw [e, List.length_append, l1, l2, List.take_left' l1, List.drop_left' l1, jn_nats, jn_nats, num_octs 8 hi hf.1, num_octs 8 lo hf.2]
theorem octA_len' (a : Ad) : (octA a).length = if a.1 then 16 else 4 := by
  obtain ⟨six, hi, lo⟩ := a
  cases six
  · exact octs_length 4 lo
  · show (octs hi 8 ++ octs lo 8).length = 16
    rw [List.length_append, octs_length, octs_length]
theorem of_oct {a : Ad} (hf : fitA a) (hc : chkA a = 0) : ofA (octA a) = (a, 0) := by
  unfold ofA
  rw [octA_len']
  cases h : a.1
  · simp only [Bool.false_eq_true, if_false, if_true]
    rw [elder_oct hc h]
  · simp only [if_true]
    rw [if_neg (by decide), newer_oct hf h]
/-- A row of strings that the call made, as its block lies. -/
theorem own_lies {t : TypeId} {w : World} {base g N cap : Nat} {M : List ByteArray} (h : TOwn t w base (.slice (some ⟨g, 0, none⟩) N cap) M) (hN : M.length = N) :
    ∃ cs, Lies w g t cs ∧ base ≤ g ∧ N ≤ cap ∧ cap ≤ maxLen ∧ ∀ j (hj : j < M.length), cs[j]? = some (.string M[j]) := by
  subst hN
  rcases h.2 with ⟨h', _⟩ | ⟨g', cap', cur, h', hb, hg, hnc, hcm, hcs, htake⟩
  · simp at h'
  · simp only [Value.slice.injEq, Option.some.injEq, Addr.mk.injEq, and_true, true_and] at h'
    obtain ⟨rfl, rfl⟩ := h'
    refine ⟨cur, hg, hb, hnc, hcm, fun j hj => ?_⟩
    have := congrArg (·[j]?) htake
    simp only [List.getElem?_take, List.getElem?_map, List.getElem?_eq_getElem hj, Option.map_some] at this
    rw [if_pos (by rw [Nat.mul_one]; exact hj)] at this
    rw [← Array.getElem?_toList]
    exact this
/-- Its last one stored anew. -/
theorem row_last {t : TypeId} {w : World} {g K N cap : Nat} {cs : Array Value} {M : List ByteArray} {y : ByteArray} (hL : Lies w g t cs) (hc : ∀ j (hj : j < (M ++ [y]).length), cs[j]? = some (.string (M ++ [y])[j])) (hK : M.length = K) (hN : N = K + 1) (h1 : N ≤ cap) (h2 : cap ≤ maxLen) (z : ByteArray) :
    SRow (w.setCell ⟨g, K, none⟩ (.string z)) (.slice (some ⟨g, 0, none⟩) N cap) (M ++ [z]) := by
  have hl : (M ++ [z]).length = N := by rw [List.length_append, List.length_singleton]; omega
  have hl' : (M ++ [y]).length = N := by rw [List.length_append, List.length_singleton]; omega
  have hL' := hL.set K (.string z)
  refine .inr ⟨g, 0, cap, by rw [hl], hL'.lt, by rw [hl]; exact h1, h2, fun j hj => ?_⟩
  rw [Nat.zero_add, hL'.cell]
  have hj' : j < (M ++ [y]).length := by omega
  have hsz : j < cs.size := (Array.getElem?_eq_some_iff.1 (hc j hj')).1
  by_cases e : j = K
  · subst e
    rw [Array.getElem?_setIfInBounds_self_of_lt hsz]
    simp [← hK]
  · rw [Array.getElem?_setIfInBounds_ne (Ne.symm e), hc j hj']
    have hjm : j < M.length := by omega
    rw [List.getElem_append_left hjm, List.getElem_append_left hjm]
/-- The cell that is stored into. -/
theorem last_cell {t : TypeId} {w : World} {g K : Nat} {cs : Array Value} {M : List ByteArray} {y : ByteArray} (hL : Lies w g t cs) (hc : ∀ j (hj : j < (M ++ [y]).length), cs[j]? = some (.string (M ++ [y])[j])) (hK : M.length = K) : w.cell? ⟨g, K, none⟩ = some (.string y) ∧ w.frozen? ⟨g, K, none⟩ = false := by
  refine ⟨?_, hL.free K⟩
  rw [hL.cell, hc K (by rw [List.length_append, List.length_singleton]; omega)]
  simp [← hK]
/-- The labels of a reverse name but the last. -/
def frontA (a : Ad) : List (List UInt8) := (digA a).reverse ++ [endA a]
theorem frontA_len (a : Ad) : (frontA a).length = if a.1 then 33 else 5 := by
  unfold frontA
  rw [List.length_append, List.length_reverse, digA_len]
  split <;> rfl
theorem front_rev (a : Ad) (z : List UInt8) : frontA a ++ [z] = (digA a).reverse ++ [endA a, z] := by unfold frontA; simp
theorem front_size (a : Ad) (z : ByteArray) (hz : z.size ≤ maxLen) : ∀ x ∈ strB (frontA a) ++ [z], x.size ≤ maxLen := by
  intro x hx
  rcases List.mem_append.1 hx with hx | hx
  · refine strB_size (m := maxLen) (fun u hu => ?_) x hx
    unfold frontA at hu
    rcases List.mem_append.1 hu with hu | hu
    · have := (digA_ok a u (List.mem_reverse.1 hu)).2.1
      unfold maxLen
      split at this <;> omega
    · obtain rfl := List.mem_singleton.1 hu
      unfold endA maxLen
      split <;> decide
  · obtain rfl := List.mem_singleton.1 hx
    exact hz
/-- A reverse name's first octet, and what stands behind its first label. -/
theorem name_tail (a : Ad) (n : ByteArray) (hn : bs n = enc ((digA a).reverse ++ [endA a, arpa])) : ∃ (h0 : 0 < n.size) (k : Nat), n[0].toNat = k ∧ 1 + k ≤ n.size ∧ bs (n.extract (1 + k) n.size) = enc ((digA a).reverse ++ [endA a, arpa]).tail ∧ n.size ≤ 254 := by
  have hl := digA_len a
  have hd := digA_ok a
  obtain ⟨x, r, hr⟩ : ∃ x r, (digA a).reverse = x :: r := by
    cases h : (digA a).reverse with
    | nil =>
      have := congrArg List.length h
      rw [List.length_reverse, hl] at this
      exfalso
      cases h : a.1 <;> rw [h] at this <;> simp at this
    | cons x r => exact ⟨x, r, rfl⟩
  have hx := (hd x (List.mem_reverse.1 (by rw [hr]; exact List.mem_cons_self ..))).2.1
  have hx3 : x.length ≤ 3 := by split at hx <;> omega
  have h73 := (rev_name a arpa rfl).2
  rw [← hn, bs_length] at h73
  rw [hr, List.cons_append] at hn ⊢
  rw [List.tail_cons]
  rw [enc_cons] at hn
  have hsz := congrArg List.length hn
  rw [bs_length, List.length_append, enc1_length] at hsz
  have h0 : 0 < n.size := by omega
  have hv : n[0].toNat = x.length := by
    have h1 : (bs n).head? = some n[0] := by rw [head_at n h0]; rfl
    rw [hn] at h1
    have h2 : UInt8.ofNat x.length = n[0] := Option.some.inj h1
    rw [← h2, ofNat_val]
    omega
  refine ⟨h0, x.length, hv, by omega, ?_, by omega⟩
  rw [bs_tail, hn]
  exact List.drop_left' (by rw [enc1_length]; omega)
theorem aBack_no (a : Ad) (n : ByteArray) (hn : bs n = enc ((digA a).reverse ++ [endA a, arpa]).tail) (hs : n.size ≤ maxLen) : GG 25 #[.string n] (.tuple #[.agg #[.bool false, .int .u64 0, .int .u64 0], .bool false]) :=
  gBk (a := noA) hs (by rw [hn]; exact back_less a)
end Go.Proofs.YtjadghmanpkgoaaGreatDoor
