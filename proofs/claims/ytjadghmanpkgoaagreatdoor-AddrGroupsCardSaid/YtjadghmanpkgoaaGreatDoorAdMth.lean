/-
  Addresses' texts read back: the mathematics of Text and Read. Conditions: as each theorem names them. Nothing of any program is named here.
-/
import Derived.Test.YtjadghmanpkgoaaGreatDoorAdText
namespace Go.Proofs.YtjadghmanpkgoaaGreatDoor
open Go.RowKit
set_option linter.unusedVariables false

/-! ### Places of separators -/
theorem ib_none : ∀ {s : List UInt8} {c : UInt8}, c ∉ s → Lib.indexByte s c = -1
  | [], _, _ => rfl
  | b :: l, c, h => by
    have h1 : ¬ b = c := fun e => h (by simp [e])
    have h2 := ib_none (s := l) (c := c) (fun e => h (by simp [e]))
    unfold Lib.indexByte
    rw [h2]
    simp [h1]
theorem ib_at : ∀ {a b : List UInt8} {c : UInt8}, c ∉ a → Lib.indexByte (a ++ c :: b) c = a.length
  | [], b, c, _ => by simp [Lib.indexByte]
  | x :: a, b, c, h => by
    have h1 : ¬ x = c := fun e => h (by simp [e])
    have h2 := ib_at (a := a) (b := b) (c := c) (fun e => h (by simp [e]))
    rw [List.cons_append]
    unfold Lib.indexByte
    rw [h2]
    have h3 : (x == c) = false := beq_eq_false_iff_ne.2 h1
    have h4 : (((a.length : Nat) : Int) == -1) = false := beq_eq_false_iff_ne.2 (by omega)
    simp [h3, h4]
theorem idx_none {s : List UInt8} {c : UInt8} (h : c ∉ s) : Lib.index s [c] = -1 := by rw [Lib.index_one, ib_none h]
theorem idx_at {a b : List UInt8} {c : UInt8} (h : c ∉ a) : Lib.index (a ++ c :: b) [c] = a.length := by rw [Lib.index_one, ib_at h]
theorem has_not {s : List UInt8} {c : UInt8} (h : c ∉ s) : Lib.contains s [c] = false := by unfold Lib.contains; rw [idx_none h]; rfl
theorem has_in {s : List UInt8} {c : UInt8} (h : c ∈ s) : Lib.contains s [c] = true := by
  obtain ⟨a, b, rfl, ha⟩ := List.append_of_mem h |> fun ⟨a, b, e⟩ => List.eq_append_cons_of_mem h
  unfold Lib.contains
  rw [idx_at ha]
  simp
theorem join2 (x y : List UInt8) (r : List (List UInt8)) (c : UInt8) : Lib.join (x :: y :: r) [c] = x ++ c :: Lib.join (y :: r) [c] := by
  rw [Lib.join_cons, Lib.join_cons]
  simp [Lib.joinTail]
theorem splitK_join {c : UInt8} : ∀ (L : List (List UInt8)) (k : Nat), L ≠ [] → L.length ≤ k + 1 → (∀ x ∈ L, c ∉ x) → Lib.splitK [c] 0 k (Lib.join L [c]) = L
  | [], _, h, _, _ => absurd rfl h
  | [x], 0, _, _, _ => by rw [Lib.join_one]; rfl
  | [x], k + 1, _, _, h => by
    rw [Lib.join_one]
    unfold Lib.splitK
    rw [idx_none (h x (List.mem_cons_self ..))]
    rfl
  | x :: y :: r, 0, _, hl, _ => by simp at hl
  | x :: y :: r, k + 1, _, hl, h => by
    have hx := h x (List.mem_cons_self ..)
    rw [join2]
    unfold Lib.splitK
    rw [idx_at hx]
    have h4 : (((x.length : Nat) : Int) == -1) = false := beq_eq_false_iff_ne.2 (by omega)
    rw [h4]
    simp only [Bool.false_eq_true, if_false, Int.toNat_natCast, Nat.add_zero, List.length_singleton]
    rw [List.take_left, show x ++ c :: Lib.join (y :: r) [c] = (x ++ [c]) ++ Lib.join (y :: r) [c] by simp, List.drop_left' (by simp)]
    rw [splitK_join (y :: r) k (by simp) (by simpa using hl) (fun z hz => h z (List.mem_cons_of_mem _ hz))]
theorem join_long (L : List (List UInt8)) (c : UInt8) : L.length ≤ (Lib.join L [c]).length + 1 := by
  rcases L with _ | ⟨x, r⟩
  · simp
  · rw [Lib.join_length]
    simp
theorem splitA_join {c : UInt8} {L : List (List UInt8)} {n : Nat} (h0 : Lib.join L [c] ≠ []) (hn : L.length ≤ n + 1) (h : ∀ x ∈ L, c ∉ x) : splitA (Lib.join L [c]) c n = L := by
  have hL : L ≠ [] := fun e => h0 (by rw [e]; rfl)
  unfold splitA Lib.splitN
  rw [if_neg h0]
  have h1 := join_long L c
  exact splitK_join L _ hL (by omega) h

/-! ### Digits -/
theorem hxv_hexd : ∀ d : Fin 16, hxv (hexd d.val) = some d.val := by decide +kernel
theorem hexd_ok : ∀ d : Fin 16, hexd d.val ≠ 58 ∧ hexd d.val ≠ 46 := by decide +kernel
theorem hxF_snoc (c : UInt8) : ∀ (l : List UInt8) (acc : Nat), hxF acc (l ++ [c]) = match hxF acc l with
    | none => none
    | some v => match hxv c with
      | none => none
      | some d => some (v * 16 + d)
  | [], acc => by simp only [List.nil_append, hxF]; cases hxv c <;> rfl
  | b :: l, acc => by
    rw [List.cons_append]
    unfold hxF
    cases hxv b with
    | none => rfl
    | some d => exact hxF_snoc c l (acc * 16 + d)
theorem hexT_facts : ∀ (n v : Nat), n ≤ 3 → v < 16 ^ (n + 1) → hxF 0 (hexT v) = some v ∧ hexT v ≠ [] ∧ (hexT v).length ≤ n + 1 ∧ ∀ c ∈ hexT v, c ≠ 58 ∧ c ≠ 46
  | n, v, hn, hv => by
    by_cases h : v < 16
    · rw [hexT_one v h]
      have h1 := hxv_hexd ⟨v, h⟩
      have h2 := hexd_ok ⟨v, h⟩
      refine ⟨?_, by simp, by simp, fun c hc => ?_⟩
      · simp only [hxF]
        simp only at h1
        rw [h1]
        simp
      · obtain rfl := List.mem_singleton.1 hc
        exact h2
    · rcases n with _ | n
      · simp at hv; omega
      · have hp : v < 65536 := Nat.lt_of_lt_of_le hv (Nat.le_trans (Nat.pow_le_pow_right (by decide) (show n + 1 + 1 ≤ 4 by omega)) (by decide))
        have hd : v / 16 < 16 ^ (n + 1) := by rw [Nat.pow_succ] at hv; omega
        obtain ⟨h1, h2, h3, h4⟩ := hexT_facts n (v / 16) (by omega) hd
        rw [hexT_step v (by omega) hp]
        have h5 := hxv_hexd ⟨v % 16, Nat.mod_lt _ (by decide)⟩
        have h6 := hexd_ok ⟨v % 16, Nat.mod_lt _ (by decide)⟩
        simp only at h5 h6
        refine ⟨?_, by simp, by rw [List.length_append, List.length_singleton]; omega, fun c hc => ?_⟩
        · rw [hxF_snoc, h1]
          simp only
          rw [h5]
          simp only [Option.some.injEq]
          omega
        · rcases List.mem_append.1 hc with hc | hc
          · exact h4 c hc
          · obtain rfl := List.mem_singleton.1 hc
            exact h6
theorem hexT_16 {v : Nat} (h : v < 65536) : hxF 0 (hexT v) = some v ∧ hexT v ≠ [] ∧ (hexT v).length ≤ 4 ∧ ∀ c ∈ hexT v, c ≠ 58 ∧ c ≠ 46 := hexT_facts 3 v (Nat.le_refl _) h
theorem hexO_hexT {v : Nat} (h : v < 65536) : hexO 4 (hexT v) = some v := by
  obtain ⟨h1, h2, h3, _⟩ := hexT_16 h
  unfold hexO
  rw [if_neg (by rintro (h' | h'); omega; exact h2 h')]
  exact h1
theorem hexO1_hexT {v : Nat} (h : v < 16) : hexO 1 (hexT v) = some v := by
  obtain ⟨h1, h2, h3, _⟩ := hexT_facts 0 v (by decide) (by simpa using h)
  unfold hexO
  rw [if_neg (by rintro (h' | h'); omega; exact h2 h')]
  exact h1
theorem eachO_map {α : Type} {f : List UInt8 → Option Nat} {g : α → List UInt8} {e : α → Nat} : ∀ {l : List α}, (∀ v ∈ l, f (g v) = some (e v)) → eachO f (l.map g) = some (l.map e)
  | [], _ => rfl
  | x :: l, h => by
    have h1 := h x (List.mem_cons_self ..)
    have h2 := eachO_map (l := l) fun v hv => h v (List.mem_cons_of_mem _ hv)
    rw [List.map_cons, List.map_cons]
    unfold eachO
    rw [h1, h2]
theorem numO_decT : ∀ c : Fin 256, numO (decT c.val) = some c.val := by decide +kernel
theorem decT_ok : ∀ c : Fin 256, decT c.val ≠ [] ∧ (46 : UInt8) ∉ decT c.val ∧ (58 : UInt8) ∉ decT c.val := by decide +kernel

/-! ### Elder addresses -/
theorem jn_nats (l : List UInt8) : jn 256 (nats l) = num l := by
  unfold jn nats num
  rw [List.foldl_map]
theorem elder_octs {lo : Nat} (h : lo < 4294967296) : elderA (nats (octs lo 4)) = (false, 0, lo) := by
  unfold elderA
  rw [jn_nats, num_octs 4 lo h]
theorem numsT_ok (l : List UInt8) : ∀ x ∈ numsT l, x ≠ [] ∧ (46 : UInt8) ∉ x ∧ (58 : UInt8) ∉ x := by
  intro x hx
  obtain ⟨c, _, rfl⟩ := List.mem_map.1 hx
  exact decT_ok ⟨c.toNat, c.toNat_lt⟩
theorem numsT_read (l : List UInt8) : eachO numO (numsT l) = some (nats l) := by
  unfold numsT nats
  exact eachO_map fun c _ => numO_decT ⟨c.toNat, c.toNat_lt⟩
theorem join_ne {L : List (List UInt8)} {c : UInt8} (h : ∀ x ∈ L, x ≠ []) (hL : L ≠ []) : Lib.join L [c] ≠ [] := by
  rcases L with _ | ⟨x, r⟩
  · exact absurd rfl hL
  · rw [Lib.join_cons]
    have := h x (List.mem_cons_self ..)
    simp [this]
theorem join_mem {L : List (List UInt8)} {c d : UInt8} : d ∈ Lib.join L [c] → (d = c ∧ 2 ≤ L.length) ∨ ∃ x ∈ L, d ∈ x := by
  rcases L with _ | ⟨x, r⟩
  · intro h; cases h
  · rw [Lib.join_cons, List.mem_append]
    rintro (h | h)
    · exact .inr ⟨x, List.mem_cons_self .., h⟩
    · unfold Lib.joinTail at h
      obtain ⟨l, hl, hd⟩ := List.mem_flatten.1 h
      obtain ⟨y, hy, rfl⟩ := List.mem_map.1 hl
      rcases List.mem_append.1 hd with hd | hd
      · refine .inl ⟨List.mem_singleton.1 hd, ?_⟩
        rcases r with _ | ⟨z, r⟩
        · cases hy
        · simp
      · exact .inr ⟨y, List.mem_cons_of_mem _ hy, hd⟩
theorem eld_text (l : List UInt8) (hl : l.length = 4) : Lib.contains (Lib.join (numsT l) [46]) [58] = false ∧ eldO (Lib.join (numsT l) [46]) = some (elderA (nats l)) := by
  have h0 := numsT_ok l
  have hn : numsT l ≠ [] := fun e => by
    have := congrArg List.length e
    unfold numsT at this
    rw [List.length_map, hl] at this
    cases this
  refine ⟨has_not fun h => ?_, ?_⟩
  · rcases join_mem h with ⟨h, _⟩ | ⟨x, hx, h⟩
    · cases h
    · exact (h0 x hx).2.2 h
  · unfold eldO
    rw [splitA_join (join_ne (fun x hx => (h0 x hx).1) hn) (by unfold numsT; rw [List.length_map, hl]; decide) (fun x hx => (h0 x hx).2.1)]
    unfold ofNumO
    rw [numsT_read]
    simp only [nats, List.length_map, hl, if_true]

/-! ### Newer addresses: their groups -/
theorem foldl_pairs : ∀ (l : List UInt8) (v : Nat), l.length % 2 = 0 → (pairs l).foldl (fun v p => v * 65536 + p) v = l.foldl (fun v c => v * 256 + c.toNat) v
  | [], v, _ => rfl
  | [x], v, h => by cases h
  | x :: y :: r, v, h => by
    unfold pairs
    simp only [List.foldl_cons]
    rw [foldl_pairs r _ (by rw [List.length_cons, List.length_cons] at h; omega), show v * 65536 + (x.toNat * 256 + y.toNat) = (v * 256 + x.toNat) * 256 + y.toNat by omega]
theorem jn_pairs {l : List UInt8} (h : l.length % 2 = 0) : jn 65536 (pairs l) = num l := foldl_pairs l 0 h
theorem pairs_append : ∀ (a b : List UInt8), a.length % 2 = 0 → pairs (a ++ b) = pairs a ++ pairs b
  | [], b, _ => rfl
  | [x], b, h => by cases h
  | x :: y :: r, b, h => by
    have := pairs_append r b (by rw [List.length_cons, List.length_cons] at h; omega)
    simp only [List.cons_append, pairs]
    rw [this]
theorem newer_groups {hi lo : Nat} (h1 : hi < 18446744073709551616) (h2 : lo < 18446744073709551616) : newerA 65536 (grpA (true, hi, lo)) = (true, hi, lo) := by
  unfold newerA
  rw [grpA_len]
  have e : grpA (true, hi, lo) = pairs (octs hi 8) ++ pairs (octs lo 8) := pairs_append _ _ (by rw [octs_length])
  have l1 : (pairs (octs hi 8)).length = 4 := by rw [pairs_len, octs_length]
  rw [e, List.take_left' l1, List.drop_left' l1, jn_pairs (by rw [octs_length]), jn_pairs (by rw [octs_length]), num_octs 8 hi h1, num_octs 8 lo h2]

/-! ### No two colons -/
def nc : List UInt8 → Prop
  | [] => True
  | [c] => c ≠ 58
  | c :: d :: r => (c = 58 → d ≠ 58) ∧ nc (d :: r)
theorem pre2 (c d : UInt8) (r : List UInt8) : ([58, 58].isPrefixOf (c :: d :: r)) = (58 == c && 58 == d) := by simp [List.isPrefixOf]
theorem nc_gap : ∀ {P Q : List UInt8}, nc P → Lib.index (P ++ 58 :: 58 :: Q) [58, 58] = P.length
  | [], Q, _ => by simp [Lib.index, List.isPrefixOf]
  | [c], Q, h => by
    have h0 := nc_gap (P := []) (Q := Q) trivial
    rw [List.nil_append] at h0
    have h' : ¬ (58 = c) := fun e => h e.symm
    show Lib.index (c :: 58 :: 58 :: Q) [58, 58] = 1
    unfold Lib.index
    rw [h0, pre2]
    have e : ((58 : UInt8) == c) = false := beq_eq_false_iff_ne.2 h'
    rw [e]
    rfl
  | c :: d :: r, Q, h => by
    have h0 := nc_gap (P := d :: r) (Q := Q) h.2
    show Lib.index (c :: (d :: r ++ 58 :: 58 :: Q)) [58, 58] = _
    unfold Lib.index
    rw [h0, List.cons_append, pre2]
    have e : ((58 : UInt8) == c && (58 : UInt8) == d) = false := by
      rcases Decidable.em (c = 58) with e | e
      · have := h.1 e
        have e2 : ((58 : UInt8) == d) = false := beq_eq_false_iff_ne.2 (fun e => this e.symm)
        rw [e2, Bool.and_false]
      · have e2 : ((58 : UInt8) == c) = false := beq_eq_false_iff_ne.2 (fun e' => e e'.symm)
        rw [e2, Bool.false_and]
    rw [e]
    have h4 : ((((d :: r).length : Nat) : Int) == -1) = false := beq_eq_false_iff_ne.2 (by omega)
    rw [h4, List.length_cons (a := c)]
    rfl
theorem nc_none : ∀ {P : List UInt8}, nc P → Lib.index P [58, 58] = -1
  | [], _ => rfl
  | [c], h => by
    unfold Lib.index
    have e : ([58, 58].isPrefixOf [c]) = false := by simp [List.isPrefixOf]
    rw [e]
    rfl
  | c :: d :: r, h => by
    have h0 := nc_none (P := d :: r) h.2
    unfold Lib.index
    rw [h0, pre2]
    have e : ((58 : UInt8) == c && (58 : UInt8) == d) = false := by
      rcases Decidable.em (c = 58) with e | e
      · have := h.1 e
        have e2 : ((58 : UInt8) == d) = false := beq_eq_false_iff_ne.2 (fun e => this e.symm)
        rw [e2, Bool.and_false]
      · have e2 : ((58 : UInt8) == c) = false := beq_eq_false_iff_ne.2 (fun e' => e e'.symm)
        rw [e2, Bool.false_and]
    rw [e]
    rfl
theorem nc_free : ∀ {x : List UInt8}, (58 : UInt8) ∉ x → nc x
  | [], _ => trivial
  | [c], h => fun e => h (by simp [e])
  | c :: d :: r, h => ⟨fun e => absurd (by simp [e]) h, nc_free fun e => h (List.mem_cons_of_mem _ e)⟩
theorem nc_app : ∀ {x y : List UInt8}, x ≠ [] → (58 : UInt8) ∉ x → nc y → y ≠ [] → y.head? ≠ some 58 → nc (x ++ 58 :: y)
  | [], y, h, _, _, _, _ => absurd rfl h
  | [c], [], _, _, _, hy, _ => absurd rfl hy
  | [c], d :: y, _, h, hn, _, h4 => ⟨fun e => absurd (by simp [e]) h, ⟨fun _ e => h4 (by simp [e]), hn⟩⟩
  | c :: d :: r, y, _, h, hn, hy, h4 => ⟨fun e => absurd (by simp [e]) h, nc_app (x := d :: r) (by simp) (fun e => h (List.mem_cons_of_mem _ e)) hn hy h4⟩
theorem nc_join : ∀ {L : List (List UInt8)}, (∀ x ∈ L, x ≠ [] ∧ (58 : UInt8) ∉ x) → nc (Lib.join L [58])
  | [], _ => trivial
  | [x], h => by rw [Lib.join_one]; exact nc_free (h x (List.mem_cons_self ..)).2
  | x :: y :: r, h => by
    rw [join2]
    have hy := h y (List.mem_cons_of_mem _ (List.mem_cons_self ..))
    have hx := h x (List.mem_cons_self ..)
    refine nc_app hx.1 hx.2 (nc_join fun z hz => h z (List.mem_cons_of_mem _ hz)) (join_ne (fun z hz => (h z (List.mem_cons_of_mem _ hz)).1) (by simp)) ?_
    rw [Lib.join_cons]
    rcases y with _ | ⟨c, y⟩
    · exact absurd rfl hy.1
    · simp only [List.cons_append, List.head?_cons, ne_eq, Option.some.injEq]
      exact fun e => hy.2 (by simp [e])

/-! ### The longest run of noughts -/
theorem noF_spec (G : List Nat) : ∀ (r D : List Nat) (s f t : Nat), G = D ++ r → s ≤ D.length → (∀ j, s ≤ j → j < D.length → G[j]? = some 0) → (f = t ∨ (2 ≤ t - f ∧ t ≤ G.length ∧ ∀ j, f ≤ j → j < t → G[j]? = some 0)) →
    (noF r (D.length + 1) s f t).1 = (noF r (D.length + 1) s f t).2 ∨ (2 ≤ (noF r (D.length + 1) s f t).2 - (noF r (D.length + 1) s f t).1 ∧ (noF r (D.length + 1) s f t).2 ≤ G.length ∧ ∀ j, (noF r (D.length + 1) s f t).1 ≤ j → j < (noF r (D.length + 1) s f t).2 → G[j]? = some 0)
  | [], D, s, f, t, _, _, _, h => by unfold noF; exact h
  | c :: r, D, s, f, t, hG, hs, hz, h => by
    obtain ⟨s', hs'⟩ : ∃ s', s' = if c ≠ 0 then D.length + 1 else s := ⟨_, rfl⟩
    have hl : (D ++ [c]).length = D.length + 1 := by simp
    have hG' : G = (D ++ [c]) ++ r := by rw [hG]; simp
    have hsl : s' ≤ D.length + 1 := by rw [hs']; split <;> omega
    have hz' : ∀ j, s' ≤ j → j < D.length + 1 → G[j]? = some 0 := by
      intro j h1 h2
      rw [hs'] at h1
      split at h1
      · omega
      · rename_i hc
        have hc : c = 0 := by simpa using hc
        by_cases hj : j < D.length
        · exact hz j h1 hj
        · obtain rfl : j = D.length := by omega
          rw [hG, List.getElem?_append_right (Nat.le_refl _), Nat.sub_self, hc]
          rfl
    have hGl : D.length + 1 ≤ G.length := by rw [hG]; simp
    unfold noF
    rw [← hs']
    split
    · rename_i hm
      have := noF_spec G r (D ++ [c]) s' s' (D.length + 1) hG' (by rw [hl]; exact hsl) (by rw [hl]; exact hz') (.inr ⟨by omega, hGl, hz'⟩)
      rw [hl] at this
      exact this
    · have := noF_spec G r (D ++ [c]) s' f t hG' (by rw [hl]; exact hsl) (by rw [hl]; exact hz') h
      rw [hl] at this
      exact this
theorem noughts_spec (g : List Nat) : (noughts g).1 = (noughts g).2 ∨ (2 ≤ (noughts g).2 - (noughts g).1 ∧ (noughts g).2 ≤ g.length ∧ ∀ j, (noughts g).1 ≤ j → j < (noughts g).2 → g[j]? = some 0) :=
  noF_spec g g [] 0 0 0 rfl (Nat.le_refl _) (fun j _ h => absurd h (Nat.not_lt_zero _)) (.inl rfl)

/-! ### Groups as a text, read -/
theorem hexL_ok {g : List Nat} (h : ∀ c ∈ g, c < 65536) : ∀ x ∈ g.map hexT, x ≠ [] ∧ (58 : UInt8) ∉ x ∧ (46 : UInt8) ∉ x := by
  intro x hx
  obtain ⟨c, hc, rfl⟩ := List.mem_map.1 hx
  obtain ⟨_, h2, _, h4⟩ := hexT_16 (h c hc)
  exact ⟨h2, fun e => (h4 _ e).1 rfl, fun e => (h4 _ e).2 rfl⟩
theorem grpT_free {g : List Nat} (h : ∀ c ∈ g, c < 65536) : (46 : UInt8) ∉ grpT g := by
  intro hm
  rcases join_mem hm with ⟨e, _⟩ | ⟨x, hx, hd⟩
  · cases e
  · exact (hexL_ok h x hx).2.2 hd
theorem grpT_nc {g : List Nat} (h : ∀ c ∈ g, c < 65536) : nc (grpT g) := nc_join fun x hx => ⟨(hexL_ok h x hx).1, (hexL_ok h x hx).2.1⟩
theorem grpT_split {g : List Nat} (h : ∀ c ∈ g, c < 65536) (hl : g.length ≤ 9) : eachO (hexO 4) (splitA (grpT g) 58 8) = some g := by
  rcases g with _ | ⟨c, r⟩
  · rfl
  · unfold grpT
    rw [splitA_join (join_ne (fun x hx => (hexL_ok h x hx).1) (by simp)) (by rw [List.length_map]; exact hl) (fun x hx => (hexL_ok h x hx).2.1)]
    have := eachO_map (f := hexO 4) (g := hexT) (e := id) (l := c :: r) fun v hv => hexO_hexT (h v hv)
    rw [this, List.map_id]
theorem withO_free {s : List UInt8} (h : (46 : UInt8) ∉ s) : withO s = some s := by
  unfold withO
  rw [if_pos (has_not fun e => h (List.mem_of_mem_drop e))]
theorem cutG_gap {P Q : List UInt8} (h : nc P) : Lib.cut (P ++ [58, 58] ++ Q) [58, 58] = (P, Q, true) := by
  rw [List.append_assoc]
  show Lib.cut (P ++ 58 :: 58 :: Q) [58, 58] = _
  unfold Lib.cut
  rw [nc_gap h]
  rw [if_pos (by omega)]
  simp only [Int.toNat_natCast, List.take_left, List.length_cons, List.length_nil]
  rw [show P ++ 58 :: 58 :: Q = (P ++ [58, 58]) ++ Q by simp, List.drop_left' (by simp)]
theorem cutG_none {P : List UInt8} (h : nc P) : Lib.cut P [58, 58] = (P, [], false) := by
  unfold Lib.cut
  rw [nc_none h, if_neg (by decide)]
theorem gapG_mid {g : List Nat} {f t : Nat} (hg : g.length = 8) (h1 : f ≤ t) (h2 : t ≤ 8) (hz : ∀ j, f ≤ j → j < t → g[j]? = some 0) : gapG (g.take f) (g.drop t) = g := by
  unfold gapG
  apply List.ext_getElem?
  intro j
  have l1 : (g.take f).length = f := by rw [List.length_take]; omega
  have l2 : (g.drop t).length = 8 - t := by rw [List.length_drop, hg]
  rw [l1, l2]
  have l3 : (g.take f ++ List.replicate (8 - f - (8 - t)) 0).length = t := by rw [List.length_append, l1, List.length_replicate]; omega
  by_cases c1 : j < f
  · rw [List.getElem?_append_left (by rw [l3]; omega), List.getElem?_append_left (by rw [l1]; exact c1), List.getElem?_take, if_pos c1]
  · by_cases c2 : j < t
    · rw [List.getElem?_append_left (by rw [l3]; omega), List.getElem?_append_right (by rw [l1]; omega), List.getElem?_replicate, l1, if_pos (by omega), hz j (by omega) c2]
    · rw [List.getElem?_append_right (by rw [l3]; omega), l3, List.getElem?_drop]
      congr 1
      omega
theorem text6_read {g : List Nat} (hg : g.length = 8) (h : ∀ c ∈ g, c < 65536) : Lib.contains (text6 g) [58] = true ∧ newO (text6 g) = some (newerA 65536 g) := by
  have hn := noughts_spec g
  unfold text6
  by_cases he : (noughts g).1 = (noughts g).2
  · rw [if_pos he]
    constructor
    · apply has_in
      rcases g with _ | ⟨x, _ | ⟨y, r⟩⟩
      · cases hg
      · cases hg
      · unfold grpT
        rw [List.map_cons, List.map_cons, join2]
        simp
    · unfold newO
      rw [withO_free (grpT_free h)]
      simp only
      rw [cutG_none (grpT_nc h)]
      simp only
      rw [grpT_split h (by omega)]
      simp only
      rw [show splitA [] 58 8 = [] by rfl]
      simp only [eachO, hg, List.length_nil]
      rw [if_neg (by simp)]
      simp [gapG, hg]
  · obtain ⟨h1, h2, h3⟩ := hn.resolve_left he
    rw [if_neg he]
    obtain ⟨f, hf⟩ : ∃ f, f = (noughts g).1 := ⟨_, rfl⟩
    obtain ⟨t, ht⟩ : ∃ t, t = (noughts g).2 := ⟨_, rfl⟩
    rw [← hf, ← ht] at h1 h3 ⊢
    rw [← ht, hg] at h2
    have hA : ∀ c ∈ g.take f, c < 65536 := fun c hc => h c (List.mem_of_mem_take hc)
    have hB : ∀ c ∈ g.drop t, c < 65536 := fun c hc => h c (List.mem_of_mem_drop hc)
    have lA : (g.take f).length = f := by rw [List.length_take]; omega
    have lB : (g.drop t).length = 8 - t := by rw [List.length_drop, hg]
    constructor
    · apply has_in
      simp
    · unfold newO
      rw [withO_free (by
        intro e
        rcases List.mem_append.1 e with e | e
        · rcases List.mem_append.1 e with e | e
          · exact grpT_free hA e
          · simp at e
        · exact grpT_free hB e)]
      simp only
      rw [cutG_gap (grpT_nc hA)]
      simp only
      rw [grpT_split hA (by omega), grpT_split hB (by omega)]
      simp only [lA, lB]
      rw [if_neg (by
        rintro (e | e)
        · omega
        · apply e
          symm
          apply decide_eq_true
          omega), gapG_mid hg (by omega) h2 h3]

/-- What is told is read. -/
theorem read_text {a : Ad} (ha : fitA a) (hc : chkA a = 0) : rdA (txA a).1 = (a, 0) := by
  obtain ⟨six, hi, lo⟩ := a
  unfold txA
  rw [if_neg (by rw [hc]; decide)]
  cases six
  · have hb : hi = 0 ∧ lo < 4294967296 := by
      unfold chkA at hc
      simp only [true_and] at hc
      split at hc
      · cases hc
      · omega
    obtain ⟨rfl, hlo⟩ := hb
    rw [if_neg (by simp)]
    obtain ⟨h1, h2⟩ := eld_text (octA (false, 0, lo)) (octs_length 4 lo)
    unfold rdA readO
    simp only
    rw [h1, if_neg (by simp), h2]
    show ((elderA (nats (octs lo 4))), 0) = _
    rw [elder_octs hlo]
  · rw [if_pos rfl]
    obtain ⟨h1, h2⟩ := text6_read (grpA_len (true, hi, lo)) (fun c hc => grpA_lt _ c hc)
    unfold rdA readO
    simp only
    rw [h1, if_pos rfl, h2, newer_groups ha.1 ha.2]

/-! ### How long a text is -/
theorem join_len1 {m : Nat} {L : List (List UInt8)} (h : ∀ x ∈ L, x.length ≤ m) (hL : L ≠ []) (c : UInt8) : (Lib.join L [c]).length + 1 ≤ L.length * (m + 1) := by
  rcases L with _ | ⟨x, r⟩
  · exact absurd rfl hL
  · have h1 := joinTail_len [c] m r fun y hy => h y (List.mem_cons_of_mem _ hy)
    have h2 := h x (List.mem_cons_self ..)
    rw [List.length_singleton] at h1
    rw [Lib.join_cons, List.length_append, List.length_cons, Nat.succ_mul]
    omega
theorem grpT_len {g : List Nat} (h : ∀ c ∈ g, c < 65536) : (grpT g).length ≤ g.length * 5 - 1 := by
  rcases g with _ | ⟨c, r⟩
  · decide
  · have := join_len1 (m := 4) (L := (c :: r).map hexT) (fun x hx => by
      obtain ⟨d, hd, rfl⟩ := List.mem_map.1 hx
      exact (hexT_16 (h d hd)).2.2.1) (by simp) 58
    rw [List.length_map] at this
    unfold grpT
    omega
theorem text6_len {g : List Nat} (hg : g.length = 8) (h : ∀ c ∈ g, c < 65536) : (text6 g).length ≤ 39 := by
  unfold text6
  by_cases he : (noughts g).1 = (noughts g).2
  · rw [if_pos he]
    have := grpT_len h
    omega
  · obtain ⟨h1, h2, h3⟩ := (noughts_spec g).resolve_left he
    rw [if_neg he]
    have hA := grpT_len (g := g.take (noughts g).1) fun c hc => h c (List.mem_of_mem_take hc)
    have hB := grpT_len (g := g.drop (noughts g).2) fun c hc => h c (List.mem_of_mem_drop hc)
    rw [List.length_take] at hA
    rw [List.length_drop] at hB
    simp only [List.length_append, List.length_cons, List.length_nil]
    omega
theorem text_len (a : Ad) : (txA a).1.length ≤ 39 := by
  unfold txA
  split
  · simp
  · split
    · exact text6_len (grpA_len a) (fun c hc => grpA_lt _ c hc)
    · rename_i h1 h2
      obtain ⟨six, hi, lo⟩ := a
      obtain rfl : six = false := by simpa using h2
      have := join_len1 (m := 3) (L := numsT (octs lo 4)) (fun x hx => by
        obtain ⟨c, _, rfl⟩ := List.mem_map.1 hx
        exact decT_len ⟨c.toNat, c.toNat_lt⟩) (by
          intro e
          have := congrArg List.length e
          unfold numsT at this
          rw [List.length_map, octs_length] at this
          cases this) 46
      rw [show (numsT (octs lo 4)).length = 4 by unfold numsT; rw [List.length_map, octs_length]] at this
      show (Lib.join (numsT (octs lo 4)) [46]).length ≤ 39
      omega
end Go.Proofs.YtjadghmanpkgoaaGreatDoor
