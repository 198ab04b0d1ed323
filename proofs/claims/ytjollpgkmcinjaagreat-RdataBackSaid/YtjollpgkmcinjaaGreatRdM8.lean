/-
  What texts come to when they are put, and raw octets: plain mathematics. Conditions as stated. Unlike data have unlike octets where nothing stands ahead: plain mathematics. Conditions as stated. Unlike data have unlike octets where nothing stands ahead: the parts, the kinds: plain mathematics. Conditions as stated. Unlike data have unlike octets where nothing stands ahead: the kinds, the types: plain mathematics. Conditions as stated.
-/
import Derived.Test.YtjollpgkmcinjaaGreatRdM7
import Derived.Test.YtjollpgkmcinjaaGreatPkGrow
namespace Go.Proofs.YtjollpgkmcinjaaGreat
open Go.RowKit
set_option linter.unusedVariables false

/-- Texts as they are put: each its length and its octets. -/
def txB (L : List ByteArray) : List UInt8 := L.flatMap fun x => UInt8.ofNat x.size :: bs x
theorem txB_snoc (L : List ByteArray) (x : ByteArray) : txB (L ++ [x]) = txB L ++ (UInt8.ofNat x.size :: bs x) := by simp [txB]
theorem txB_cons (x : ByteArray) (L : List ByteArray) : txB (x :: L) = (UInt8.ofNat x.size :: bs x) ++ txB L := by simp [txB]
theorem txB_length : ∀ L : List ByteArray, (txB L).length = sizeT L
  | [] => rfl
  | x :: r => by
    rw [txB_cons, List.length_append, txB_length r]
    show (bs x).length + 1 + _ = _
    rw [bs_length]
    simp [sizeT]
    omega
theorem sizeT_most : ∀ L : List ByteArray, (∀ x ∈ L, x.size ≤ 255) → sizeT L ≤ 256 * L.length
  | [], _ => by simp [sizeT]
  | x :: r, h => by
    have h1 := sizeT_most r fun y hy => h y (List.mem_cons_of_mem _ hy)
    have h2 := h x List.mem_cons_self
    simp [sizeT] at h1 ⊢
    omega
theorem room1 {v : Nat} (h : v ≤ 255) : room v 1 = true := by
  simp [room, isW]
  omega
theorem num1 {M : Nat} {s : PS} {v : Nat} (hf : s.f = 0) (hv : v ≤ 255) (hl : s.l.length + 1 ≤ M) : numS M s v 1 = (0, { s with l := s.l ++ [UInt8.ofNat v] }) := by
  unfold numS numW
  rw [room1 hv, hf]
  unfold putW
  rw [if_neg (by simp), if_neg (by simp), if_neg (by simp), if_neg (by simp [octs]; omega)]
  simp [octs]
theorem put0 {M : Nat} {s : PS} {x : List UInt8} (hf : s.f = 0) (hl : s.l.length + x.length ≤ M) : putS M s x = (0, { s with l := s.l ++ x }) := by
  unfold putS putW
  rw [hf, if_neg (by simp), if_neg (by omega)]
theorem text1 {M : Nat} {s : PS} {x : ByteArray} (hf : s.f = 0) (hx : x.size ≤ 255) (hl : s.l.length + (1 + x.size) ≤ M) : textS1 M s x = (0, { s with l := s.l ++ (UInt8.ofNat x.size :: bs x) }) := by
  unfold textS1
  rw [num1 hf hx (by omega), if_pos rfl]
  dsimp only
  rw [put0 (s := { s with l := s.l ++ [UInt8.ofNat x.size] }) hf (by simp [bs_length]; omega)]
  simp
theorem texts_put {M : Nat} : ∀ (L : List ByteArray) (s : PS), s.f = 0 → (∀ x ∈ L, x.size ≤ 255) → s.l.length + sizeT L ≤ M → textsS M L s = (0, { s with l := s.l ++ txB L })
  | [], s, _, _, _ => by simp [textsS, txB]
  | x :: r, s, hf, hx, hl => by
    have h2 := hx x List.mem_cons_self
    have hsz : sizeT (x :: r) = 1 + x.size + sizeT r := by simp [sizeT]
    unfold textsS
    rw [text1 hf h2 (by omega), if_pos rfl]
    dsimp only
    rw [texts_put r { s with l := s.l ++ (UInt8.ofNat x.size :: bs x) } hf (fun y hy => hx y (List.mem_cons_of_mem _ hy)) (by simp [bs_length]; omega), txB_cons]
    simp
/-- Data of texts alone; of raw octets alone. -/
def txD (L : List ByteArray) : MD := { md0 with L := L }
def rwD (r : ByteArray) : MD := { md0 with r := r }
theorem same0 : sameD md0 md0 = true := by kernel_rfl
theorem tx_drop (L : List ByteArray) : sameD (dropK [.txt] (txD L)) md0 = true := same0
theorem rw_drop (r : ByteArray) : sameD (dropK [.raw] (rwD r)) md0 = true := same0
theorem chkT_short {L : List ByteArray} (h : ∀ x ∈ L, x.size ≤ 255) : chkT L = 0 := by
  unfold chkT
  rw [if_neg]
  simp
  exact h
theorem chkT_long {L : List ByteArray} {x : ByteArray} (hx : x ∈ L) (h : 255 < x.size) : chkT L = 3 := by
  unfold chkT
  rw [if_pos]
  simp
  exact ⟨x, hx, h⟩
theorem tx_parts {L : List ByteArray} (hn : L ≠ []) : partsK [.txt] (txD L) = chkT L := by
  unfold partsK
  rw [tx_drop]
  simp [chkK, firstE, chkP, txD, hn]
  intro h
  exact h.symm
theorem tx_check {L : List ByteArray} (hn : L ≠ []) (h : ∀ x ∈ L, x.size ≤ 255) (hl : sizeT L ≤ 65535) : allK [.txt] (txD L) = 0 := by
  unfold allK
  rw [tx_parts hn, chkT_short h]
  have : sizeK [.txt] (txD L) = sizeT L := by simp [sizeK, sizeP, txD]
  rw [this, if_neg (by simp), if_neg (by omega)]
theorem tx_long {L : List ByteArray} (hn : L ≠ []) {x : ByteArray} (hx : x ∈ L) (h : 255 < x.size) : checkD 16 (txD L) = 3 := by
  show allK [.txt] (txD L) = 3
  unfold allK
  rw [tx_parts hn, chkT_long hx h]
  rfl
theorem tx_size {L : List ByteArray} (hn : L ≠ []) (h : ∀ x ∈ L, x.size ≤ 255) : sizeD 16 (txD L) = sizeT L := by
  show (if partsK [.txt] (txD L) ≠ 0 then 0 else sizeK [.txt] (txD L)) = _
  rw [tx_parts hn, chkT_short h]
  simp [sizeK, sizeP, txD]
theorem tx_put {L : List ByteArray} (hn : L ≠ []) (h : ∀ x ∈ L, x.size ≤ 255) (hl : sizeT L ≤ 65535) : putD 65535 16 (txD L) ps0 = (0, { ps0 with l := txB L }) := by
  show (if allK [.txt] (txD L) ≠ 0 then (allK [.txt] (txD L), ps0) else putK 65535 [.txt] (txD L) ps0) = _
  rw [tx_check hn h hl, if_neg (by simp)]
  unfold putK
  have hp : putP 65535 .txt (txD L) ps0 = (0, { ps0 with l := txB L }) := by
    show textsS 65535 L ps0 = _
    rw [texts_put L ps0 rfl h (by show 0 + _ ≤ _; omega)]
    rfl
  rw [hp]
  rfl
theorem rw_put {r : ByteArray} (hl : r.size ≤ 65535) : putD 65535 9999 (rwD r) ps0 = (0, { ps0 with l := bs r }) := by
  have h0 : partsK [.raw] (rwD r) = 0 := by
    unfold partsK
    rw [rw_drop]
    rfl
  have h1 : allK [.raw] (rwD r) = 0 := by
    unfold allK
    have : sizeK [.raw] (rwD r) = r.size := by simp [sizeK, sizeP, rwD]
    rw [h0, this, if_neg (by simp), if_neg (by omega)]
  show (if allK [.raw] (rwD r) ≠ 0 then (allK [.raw] (rwD r), ps0) else putK 65535 [.raw] (rwD r) ps0) = _
  rw [h1, if_neg (by simp)]
  unfold putK
  have hp : putP 65535 .raw (rwD r) ps0 = (0, { ps0 with l := bs r }) := by
    show putS 65535 ps0 (bs r) = _
    rw [put0 rfl (by show 0 + _ ≤ _; rw [bs_length]; omega)]
    rfl
  rw [hp]
  rfl
theorem mkb_bs (r : ByteArray) : mkb (bs r) = r := by
  unfold mkb bs
  simp
theorem rw_read {r : ByteArray} (hl : r.size ≤ 65535) : readD (bs r) 0 (r.size : Nat) 9999 = (0, rwD r) := by
  have hb := bs_length r
  have hk : rdK (bs r) ((bs r).take ((r.size : Int)).toNat) [.raw] md0 (0 : Int).toNat = ⟨0, r.size, rwD r⟩ := by
    have : (bs r).take ((r.size : Int)).toNat = bs r := List.take_of_length_le (by rw [hb]; simp)
    rw [this]
    simp [rdK, rdP, hb, mkb_bs, rwD]
  have h0 : partsK [.raw] (rwD r) = 0 := by
    unfold partsK
    rw [rw_drop]
    rfl
  have h1 : allK [.raw] (rwD r) = 0 := by
    unfold allK
    have : sizeK [.raw] (rwD r) = r.size := by simp [sizeK, sizeP, rwD]
    rw [h0, this, if_neg (by simp), if_neg (by omega)]
  unfold readD
  rw [if_pos (by decide)]
  have hkd : kindK 9999 = [.raw] := rfl
  rw [hkd, hk, if_neg (by omega), if_neg (by omega), if_neg (by simp), h1, if_neg (by simp)]
end Go.Proofs.YtjollpgkmcinjaaGreat
namespace Go.Proofs.YtjollpgkmcinjaaGreat
open Go.RowKit
set_option linter.unusedVariables false

/-- A name that is read by steps is one name. -/
theorem Rds.one {l : List UInt8} {a e n : Nat} {r : List UInt8} (h : Rds l a r e n) : ∀ {r' : List UInt8} {e' n' : Nat}, Rds l a r' e' n' → r = r' := by
  induction h with
  | nil h =>
    intro r' e' n' h'
    cases h' with
    | nil _ => rfl
    | lab g g1 g2 => rw [h] at g; injection g with g; rw [← g] at g1; simp at g1
    | ptr g g1 => rw [h] at g; injection g with g; rw [← g] at g1; simp at g1
  | @lab a c x r e n h h1 h2 hx hl hr ih =>
    intro r' e' n' h'
    cases h' with
    | nil g => rw [h] at g; injection g with g; rw [g] at h1; simp at h1
    | lab g g1 g2 gx gl gr =>
      rw [h] at g
      injection g with g
      subst g
      rw [← hx, ← gx, ih gr]
    | ptr g g1 => rw [h] at g; injection g with g; rw [← g] at g1; omega
  | @ptr a c d r e n h h1 hd ht hr ih =>
    intro r' e' n' h'
    cases h' with
    | nil g => rw [h] at g; injection g with g; rw [g] at h1; simp at h1
    | lab g g1 g2 gx gl gr => rw [h] at g; injection g with g; rw [← g] at g2; omega
    | ptr g g1 gd gt gr =>
      rw [h] at g
      injection g with g
      subst g
      rw [hd] at gd
      injection gd with gd
      subst gd
      exact ih gr

/-! ### Numbers -/
def numsB : List Nat → List Nat → List UInt8
  | v :: vs, n :: ns => octs v n ++ numsB vs ns
  | _, _ => []
theorem wide_lt {v n : Nat} (h : wideN v n = false) : v < 256 ^ n := by
  simp only [wideN, ne_eq, decide_not, Bool.not_eq_false', decide_eq_true_eq] at h
  have h2 : 2 ^ (8 * n) = 256 ^ n := by rw [Nat.pow_mul]
  rw [h2] at h
  exact (Nat.div_eq_zero_iff_lt (Nat.pow_pos (by decide))).1 h
theorem chkW_two {v n : Nat} {vs ns : List Nat} (h : chkW (v :: vs) (n :: ns) = 0) : v < 256 ^ n ∧ chkW vs ns = 0 := by
  unfold chkW at h
  cases hw : wideN v n
  · rw [hw] at h
    exact ⟨wide_lt hw, by simpa using h⟩
  · rw [hw] at h
    simp at h
theorem numS_ok {M : Nat} {s : PS} {v n : Nat} (hf : s.f = 0) (h0 : n ≠ 0) (h4 : n ≤ 4) (hv : v < 256 ^ n) (hl : s.l.length + n ≤ M) : numS M s v n = (0, { s with l := s.l ++ octs v n }) := by
  have hr : room v n = true := by
    unfold room isW
    simp
    exact ⟨by omega, hv⟩
  unfold numS numW
  rw [hr, hf]
  unfold putW
  rw [if_neg (by simp), if_neg (by simp), if_neg (by simp), if_neg (by simp [octs_length]; omega)]
  simp
theorem nums_put {M : Nat} : ∀ (vs ns : List Nat) (s : PS), vs.length = ns.length → (∀ n ∈ ns, n ≤ 4) → chkW vs ns = 0 → s.f = 0 → s.l.length + 4 * ns.length ≤ M → numsS M vs ns s = (0, { s with l := s.l ++ numsB vs ns }) ∧ (numsB vs ns).length ≤ 4 * ns.length
  | [], [], s, _, _, _, _, _ => by simp [numsS, numsB]
  | [], _ :: _, _, h, _, _, _, _ => by simp at h
  | _ :: _, [], _, h, _, _, _, _ => by simp at h
  | v :: vs, n :: ns, s, hl, h4, hc, hf, hM => by
    obtain ⟨hv, hc'⟩ := chkW_two hc
    have hn4 := h4 n List.mem_cons_self
    simp only [List.length_cons] at hl hM
    have h4' : ∀ n ∈ ns, n ≤ 4 := fun m hm => h4 m (List.mem_cons_of_mem _ hm)
    have hB : (octs v n ++ numsB vs ns) = numsB (v :: vs) (n :: ns) := rfl
    unfold numsS
    by_cases h0 : n = 0
    · subst h0
      obtain ⟨h1, h2⟩ := nums_put (M := M) vs ns s (by omega) h4' hc' hf (by omega)
      rw [if_pos rfl, h1]
      have : numsB (v :: vs) (0 :: ns) = numsB vs ns := rfl
      rw [this]
      exact ⟨rfl, by simp only [List.length_cons]; omega⟩
    · obtain ⟨h1, h2⟩ := nums_put (M := M) vs ns { s with l := s.l ++ octs v n } (by omega) h4' hc' hf (by simp [octs_length]; omega)
      rw [if_neg h0, numS_ok hf h0 hn4 hv (by omega), if_pos rfl]
      dsimp only
      rw [h1, ← hB]
      exact ⟨by simp, by simp only [List.length_append, octs_length, List.length_cons]; omega⟩
theorem nums_one : ∀ (va vb ns : List Nat) (ya yb : List UInt8), va.length = ns.length → vb.length = ns.length → chkW va ns = 0 → chkW vb ns = 0 → numsB va ns ++ ya = numsB vb ns ++ yb → va = vb
  | [], [], _, _, _, _, _, _, _, _ => rfl
  | [], _ :: _, [], _, _, _, h, _, _, _ => by simp at h
  | [], _ :: _, _ :: _, _, _, h, _, _, _, _ => by simp at h
  | _ :: _, [], [], _, _, h, _, _, _, _ => by simp at h
  | _ :: _, [], _ :: _, _, _, _, h, _, _, _ => by simp at h
  | _ :: _, _ :: _, [], _, _, h, _, _, _, _ => by simp at h
  | v :: va, u :: vb, n :: ns, ya, yb, ha, hb, ca, cb, h => by
    obtain ⟨hv, ca'⟩ := chkW_two ca
    obtain ⟨hu, cb'⟩ := chkW_two cb
    have h' : octs v n ++ (numsB va ns ++ ya) = octs u n ++ (numsB vb ns ++ yb) := by
      have := h
      simp only [numsB, List.append_assoc] at this
      exact this
    obtain ⟨h1, h2⟩ := List.append_inj h' (by rw [octs_length, octs_length])
    have h3 : v = u := by rw [← num_octs n v hv, ← num_octs n u hu, h1]
    rw [h3, nums_one va vb ns ya yb (by simpa using ha) (by simpa using hb) ca' cb' h2]

/-! ### Addresses -/
theorem chkA_lo {a : Ad} (hc : chkA a = 0) (h : a.1 = false) : a.2.1 = 0 ∧ a.2.2 < 4294967296 := by
  unfold chkA at hc
  split at hc
  · cases hc
  · rename_i hn
    constructor
    · exact Decidable.byContradiction fun hx => hn ⟨h, .inl hx⟩
    · exact Decidable.byContradiction fun hx => hn ⟨h, .inr (by omega)⟩
theorem octA_size (a : Ad) : (octA a).length = if a.1 then 16 else 4 := by
  obtain ⟨six, hi, lo⟩ := a
  cases six
  · exact octs_length 4 lo
  · show (allO (true, hi, lo)).length = 16
    simp [allO, octs_length]
theorem octA_one {a b : Ad} (h : a.1 = b.1) (ca : chkA a = 0) (cb : chkA b = 0) (fa : a.2.1 < 2 ^ 64 ∧ a.2.2 < 2 ^ 64) (fb : b.2.1 < 2 ^ 64 ∧ b.2.2 < 2 ^ 64) (he : octA a = octA b) : a = b := by
  obtain ⟨six, hi, lo⟩ := a
  obtain ⟨six', hi', lo'⟩ := b
  simp only at h fa fb
  subst h
  cases six
  · obtain ⟨h1, h2⟩ := chkA_lo ca rfl
    obtain ⟨h3, h4⟩ := chkA_lo cb rfl
    simp only at h1 h2 h3 h4
    have he' : octs lo 4 = octs lo' 4 := he
    have : lo = lo' := by rw [← num_octs 4 lo h2, ← num_octs 4 lo' h4, he']
    rw [h1, h3, this]
  · have he' : octs hi 8 ++ octs lo 8 = octs hi' 8 ++ octs lo' 8 := he
    obtain ⟨h1, h2⟩ := List.append_inj he' (by rw [octs_length, octs_length])
    have e1 : hi = hi' := by rw [← num_octs 8 hi (by omega), ← num_octs 8 hi' (by omega), h1]
    have e2 : lo = lo' := by rw [← num_octs 8 lo (by omega), ← num_octs 8 lo' (by omega), h2]
    rw [e1, e2]
end Go.Proofs.YtjollpgkmcinjaaGreat
namespace Go.Proofs.YtjollpgkmcinjaaGreat
open Go.RowKit
set_option linter.unusedVariables false

theorem nameF_invU {M : Nat} : ∀ (k : Nat) (r : List UInt8) (s : PS), Inv M s → Inv M (nameF M k r s).2
  | 0, _, _, h => h
  | k + 1, r, s, h => by
    unfold nameF
    split
    · exact h.put _
    · split
      · exact h.num _ _
      · split
        · exact nameF_invU k _ _ ((h.put _).keep _ _)
        · exact h.put _
theorem nameS_invU {M : Nat} {s : PS} (h : Inv M s) (x : List UInt8) : Inv M (nameS M s x).2 := by
  unfold nameS
  split
  · exact h
  · split
    · exact h
    · exact nameF_invU _ _ _ h
/-- What one part that is put comes to: more octets at the end, few; it was put; the packer stays good. -/
structure PartOk (s : PS) (q : Nat × PS) : Prop where
  ok : q.1 = 0
  good : GoodP q.2
  inv : Inv 65535 q.2
  l : ∃ y, q.2.l = s.l ++ y ∧ y.length ≤ 255
def wired : Pt → Bool
  | .adr _ => true
  | .nam _ _ => true
  | .num a b c d e => decide (a ≤ 4 ∧ b ≤ 4 ∧ c ≤ 4 ∧ d ≤ 4 ∧ e ≤ 4)
  | _ => false
structure Fit64 (d : MD) : Prop where
  hi : d.hi < 2 ^ 64
  lo : d.lo < 2 ^ 64
theorem chkN_len {x : List UInt8} (h : chkN x = 0) : x.length ≤ 254 := (chkN_iff.1 h).1
theorem uqNam {s : PS} {x : List UInt8} (h : GoodP s) (hi : Inv 65535 s) (hc : chkN x = 0) (hM : s.l.length + 255 ≤ 65535) : PartOk s (nameS 65535 s x) := by
  have hx := chkN_len hc
  obtain ⟨h1, h2, _⟩ := nameS_good h hi hc (by omega)
  obtain ⟨y, e, _, hy⟩ := h1.l
  exact ⟨h1.ok, h2, nameS_invU hi x, y, e, by omega⟩
theorem uqPlain {s : PS} {x : List UInt8} (h : GoodP s) (hi : Inv 65535 s) (hc : chkN x = 0) (hM : s.l.length + 255 ≤ 65535) : PartOk s (plainS 65535 s x) := by
  have hx := chkN_len hc
  obtain ⟨h1, h2⟩ := plainS_good (M := 65535) h hc (by omega)
  obtain ⟨h3, _⟩ := plainF_put 65535 (x.length + 1) x s (by omega) (labs_of_chk hc) h.f (by omega)
  obtain ⟨y, e, _, hy⟩ := h1.l
  refine ⟨h1.ok, h2, ?_, y, e, by omega⟩
  rw [(nameS_run' h.f hc).2, h3]
  have hg := hi.grow (l' := s.l ++ (x ++ [0])) 0 (by simp) (by simp; omega)
  rw [← h.f] at hg
  exact hg
theorem uqPut {s : PS} {x : List UInt8} (h : GoodP s) (hi : Inv 65535 s) (hx : x.length ≤ 255) (hM : s.l.length + 255 ≤ 65535) : PartOk s (putS 65535 s x) := by
  rw [put0 h.f (by omega)]
  have hg := hi.grow (l' := s.l ++ x) s.f (by simp) (by simp; omega)
  exact ⟨rfl, h.app x, hg, x, rfl, hx⟩
theorem uqNums {s : PS} {vs ns : List Nat} (h : GoodP s) (hi : Inv 65535 s) (hl : vs.length = ns.length) (h5 : ns.length ≤ 5) (h4 : ∀ n ∈ ns, n ≤ 4) (hc : chkW vs ns = 0) (hM : s.l.length + 255 ≤ 65535) : PartOk s (numsS 65535 vs ns s) := by
  obtain ⟨h1, h2⟩ := nums_put (M := 65535) vs ns s hl h4 hc h.f (by omega)
  rw [h1]
  have hg := hi.grow (l' := s.l ++ numsB vs ns) s.f (by simp) (by simp; omega)
  exact ⟨rfl, h.app _, hg, _, rfl, by omega⟩
theorem ws_four {a b c d e : Nat} (h : wired (.num a b c d e) = true) : ∀ n ∈ ws5 a b c d e, n ≤ 4 := by
  simp [wired] at h
  intro n hn
  simp [ws5] at hn
  omega
theorem uqPart {p : Pt} {d : MD} {s : PS} (hw : wired p = true) (h : GoodP s) (hi : Inv 65535 s) (hc : chkP p d = 0) (hM : s.l.length + 255 ≤ 65535) : PartOk s (putP 65535 p d s) := by
  cases p with
  | adr six => exact uqPut h hi (by rw [octA_size]; split <;> omega) hM
  | nam mail ptd =>
    cases ptd
    · exact uqPlain h hi hc hM
    · exact uqNam h hi hc hM
  | num a b c e f => exact uqNums h hi rfl (by simp [ws5]) (ws_four hw) hc hM
  | txt => cases hw
  | raw => cases hw
/-- Two data have the same of a part. -/
def eqP : Pt → MD → MD → Prop
  | .adr _, a, b => a.six = b.six ∧ a.hi = b.hi ∧ a.lo = b.lo
  | .nam mail _, a, b => bs (nameOf mail a) = bs (nameOf mail b)
  | .num .., a, b => a.vs = b.vs
  | .txt, a, b => a.L.map bs = b.L.map bs
  | .raw, a, b => bs a.r = bs b.r
theorem uqOne {p : Pt} {a b : MD} {s : PS} (hw : wired p = true) (h : GoodP s) (hi : Inv 65535 s) (ca : chkP p a = 0) (cb : chkP p b = 0) (fa : Fit64 a) (fb : Fit64 b) (hM : s.l.length + 255 ≤ 65535)
    {ya yb : List UInt8} (he : (putP 65535 p a s).2.l ++ ya = (putP 65535 p b s).2.l ++ yb) : eqP p a b ∧ putP 65535 p a s = putP 65535 p b s := by
  cases p with
  | adr six =>
    have sa : a.six = six := by
      by_cases hx : a.six = six
      · exact hx
      · simp [chkP, hx] at ca
    have sb : b.six = six := by
      by_cases hx : b.six = six
      · exact hx
      · simp [chkP, hx] at cb
    have ca' : chkA a.ad = 0 := by simpa [chkP, sa] using ca
    have cb' : chkA b.ad = 0 := by simpa [chkP, sb] using cb
    have ra : putP 65535 (.adr six) a s = (0, { s with l := s.l ++ octA a.ad }) := put0 h.f (by rw [octA_size]; split <;> omega)
    have rb : putP 65535 (.adr six) b s = (0, { s with l := s.l ++ octA b.ad }) := put0 h.f (by rw [octA_size]; split <;> omega)
    rw [ra, rb] at he
    have he' : s.l ++ (octA a.ad ++ ya) = s.l ++ (octA b.ad ++ yb) := by simpa using he
    have h1 := List.append_cancel_left he'
    have h6 : a.ad.1 = b.ad.1 := sa.trans sb.symm
    obtain ⟨h2, _⟩ := List.append_inj h1 (by rw [octA_size, octA_size, h6])
    have h3 := octA_one h6 ca' cb' ⟨fa.hi, fa.lo⟩ ⟨fb.hi, fb.lo⟩ h2
    refine ⟨⟨sa.trans sb.symm, congrArg (fun x : Ad => x.2.1) h3, congrArg (fun x : Ad => x.2.2) h3⟩, ?_⟩
    rw [ra, rb, h3]
  | nam mail ptd =>
    have la := chkN_len (show chkN (bs (nameOf mail a)) = 0 from ca)
    have lb := chkN_len (show chkN (bs (nameOf mail b)) = 0 from cb)
    have hx : bs (nameOf mail a) = bs (nameOf mail b) := by
      cases ptd
      · obtain ⟨n, hn, _⟩ := (plainS_good (M := 65535) (x := bs (nameOf mail a)) h ca (by omega)).1.read
        obtain ⟨m, hm, _⟩ := (plainS_good (M := 65535) (x := bs (nameOf mail b)) h cb (by omega)).1.read
        have h1 := hn.app ya
        have h2 := hm.app yb
        have he' : (plainS 65535 s (bs (nameOf mail a))).2.l ++ ya = (plainS 65535 s (bs (nameOf mail b))).2.l ++ yb := he
        rw [he'] at h1
        exact h1.one h2
      · obtain ⟨n, hn, _⟩ := (nameS_good (M := 65535) (x := bs (nameOf mail a)) h hi ca (by omega)).1.read
        obtain ⟨m, hm, _⟩ := (nameS_good (M := 65535) (x := bs (nameOf mail b)) h hi cb (by omega)).1.read
        have h1 := hn.app ya
        have h2 := hm.app yb
        have he' : (nameS 65535 s (bs (nameOf mail a))).2.l ++ ya = (nameS 65535 s (bs (nameOf mail b))).2.l ++ yb := he
        rw [he'] at h1
        exact h1.one h2
    refine ⟨hx, ?_⟩
    cases ptd
    · show plainS _ _ _ = plainS _ _ _
      rw [hx]
    · show nameS _ _ _ = nameS _ _ _
      rw [hx]
  | num k0 k1 k2 k3 k4 =>
    have h4 := ws_four hw
    obtain ⟨ra, _⟩ := nums_put (M := 65535) a.vs (ws5 k0 k1 k2 k3 k4) s rfl h4 ca h.f (by simp [ws5]; omega)
    obtain ⟨rb, _⟩ := nums_put (M := 65535) b.vs (ws5 k0 k1 k2 k3 k4) s rfl h4 cb h.f (by simp [ws5]; omega)
    have he' : (numsS 65535 a.vs (ws5 k0 k1 k2 k3 k4) s).2.l ++ ya = (numsS 65535 b.vs (ws5 k0 k1 k2 k3 k4) s).2.l ++ yb := he
    rw [ra, rb] at he'
    have h1 : s.l ++ (numsB a.vs (ws5 k0 k1 k2 k3 k4) ++ ya) = s.l ++ (numsB b.vs (ws5 k0 k1 k2 k3 k4) ++ yb) := by simpa using he'
    have hx := nums_one a.vs b.vs (ws5 k0 k1 k2 k3 k4) ya yb rfl rfl ca cb (List.append_cancel_left h1)
    refine ⟨hx, ?_⟩
    show numsS _ _ _ _ = numsS _ _ _ _
    rw [hx]
  | txt => cases hw
  | raw => cases hw
end Go.Proofs.YtjollpgkmcinjaaGreat
namespace Go.Proofs.YtjollpgkmcinjaaGreat
open Go.RowKit
set_option linter.unusedVariables false

theorem putK_two {M : Nat} {p : Pt} {K : List Pt} {d : MD} {s : PS} (h : (putP M p d s).1 = 0) : putK M (p :: K) d s = putK M K d (putP M p d s).2 := by
  rw [putK, if_pos h]
theorem kinds_ok : ∀ (K : List Pt) (d : MD) (s : PS), (∀ p ∈ K, wired p = true) → (∀ p ∈ K, chkP p d = 0) → GoodP s → Inv 65535 s → s.l.length + 255 * K.length ≤ 65535 →
    (putK 65535 K d s).1 = 0 ∧ ∃ y, (putK 65535 K d s).2.l = s.l ++ y
  | [], d, s, _, _, _, _, _ => ⟨rfl, [], by simp [putK]⟩
  | p :: K, d, s, hw, hc, hg, hi, hM => by
    rw [List.length_cons, Nat.mul_add, Nat.mul_one] at hM
    have hM1 : s.l.length + 255 ≤ 65535 := Nat.le_trans (Nat.add_le_add_left (Nat.le_add_left _ _) _) hM
    have hp := uqPart (hw p List.mem_cons_self) hg hi (hc p List.mem_cons_self) hM1
    obtain ⟨y, hy, hyl⟩ := hp.l
    rw [putK_two hp.ok]
    obtain ⟨h1, z, h2⟩ := kinds_ok K d (putP 65535 p d s).2 (fun q hq => hw q (List.mem_cons_of_mem _ hq)) (fun q hq => hc q (List.mem_cons_of_mem _ hq)) hp.good hp.inv (by rw [hy, List.length_append]; omega)
    exact ⟨h1, y ++ z, by rw [h2, hy, List.append_assoc]⟩
theorem kinds_one : ∀ (K : List Pt) (a b : MD) (s : PS), (∀ p ∈ K, wired p = true) → (∀ p ∈ K, chkP p a = 0) → (∀ p ∈ K, chkP p b = 0) → Fit64 a → Fit64 b → GoodP s → Inv 65535 s → s.l.length + 255 * K.length ≤ 65535 →
    (putK 65535 K a s).2.l = (putK 65535 K b s).2.l → ∀ p ∈ K, eqP p a b
  | [], _, _, _, _, _, _, _, _, _, _, _, _ => fun p hp => absurd hp List.not_mem_nil
  | p :: K, a, b, s, hw, ca, cb, fa, fb, hg, hi, hM, he => by
    rw [List.length_cons, Nat.mul_add, Nat.mul_one] at hM
    have hM1 : s.l.length + 255 ≤ 65535 := Nat.le_trans (Nat.add_le_add_left (Nat.le_add_left _ _) _) hM
    have pa := uqPart (hw p List.mem_cons_self) hg hi (ca p List.mem_cons_self) hM1
    have pb := uqPart (hw p List.mem_cons_self) hg hi (cb p List.mem_cons_self) hM1
    obtain ⟨y, hy, hyl⟩ := pa.l
    obtain ⟨z, hz, hzl⟩ := pb.l
    rw [putK_two pa.ok, putK_two pb.ok] at he
    have hw' : ∀ q ∈ K, wired q = true := fun q hq => hw q (List.mem_cons_of_mem _ hq)
    have ca' : ∀ q ∈ K, chkP q a = 0 := fun q hq => ca q (List.mem_cons_of_mem _ hq)
    have cb' : ∀ q ∈ K, chkP q b = 0 := fun q hq => cb q (List.mem_cons_of_mem _ hq)
    obtain ⟨_, u, hu⟩ := kinds_ok K a (putP 65535 p a s).2 hw' ca' pa.good pa.inv (by rw [hy, List.length_append]; omega)
    obtain ⟨_, v, hv⟩ := kinds_ok K b (putP 65535 p b s).2 hw' cb' pb.good pb.inv (by rw [hz, List.length_append]; omega)
    have he' := he
    rw [hu, hv] at he'
    obtain ⟨h1, h2⟩ := uqOne (hw p List.mem_cons_self) hg hi (ca p List.mem_cons_self) (cb p List.mem_cons_self) fa fb hM1 he'
    rw [← h2] at he
    intro q hq
    rcases List.mem_cons.1 hq with rfl | hq
    · exact h1
    · exact kinds_one K a b (putP 65535 p a s).2 hw' ca' cb' fa fb pa.good pa.inv (by rw [hy, List.length_append]; omega) he q hq

/-! ### What is the same -/
theorem sameD_iff (a b : MD) : sameD a b = true ↔ a = b := by
  unfold sameD
  rw [decide_eq_true_iff]
  constructor
  · rintro ⟨h1, h2, h3, h4, h5, h6, h7, h8⟩
    obtain ⟨six, hi, lo, n, m, v0, v1, v2, v3, v4, L, r⟩ := a
    obtain ⟨six', hi', lo', n', m', u0, u1, u2, u3, u4, L', r'⟩ := b
    simp only [MD.vs, List.cons.injEq, and_true] at h1 h2 h3 h4 h5 h6 h7 h8
    obtain ⟨e0, e1, e2, e3, e4⟩ := h6
    have hL : L = L' := (List.map_inj_right fun x y hxy => bs_inj hxy).1 h7
    subst h1 h2 h3 e0 e1 e2 e3 e4 hL
    rw [bs_inj h4, bs_inj h5, bs_inj h8]
  · rintro rfl
    exact ⟨rfl, rfl, rfl, rfl, rfl, rfl, rfl, rfl⟩
theorem eqP_drop {p q : Pt} {a b : MD} (h : eqP q a b) : eqP q (dropP p a) (dropP p b) := by
  cases p with
  | adr six => cases q <;> first | exact h | exact ⟨rfl, rfl, rfl⟩ | (rename_i mail ptd; cases mail <;> exact h)
  | nam mail ptd => cases mail <;> cases q <;> first | exact h | (rename_i mail ptd; cases mail <;> first | exact h | rfl)
  | num => cases q <;> first | exact h | rfl | (rename_i mail ptd; cases mail <;> exact h)
  | txt => cases q <;> first | exact h | rfl | (rename_i mail ptd; cases mail <;> exact h)
  | raw => cases q <;> first | exact h | rfl | (rename_i mail ptd; cases mail <;> exact h)
theorem drop_eq {p : Pt} {a b : MD} (h : dropP p a = dropP p b) (he : eqP p a b) : a = b := by
  obtain ⟨six, hi, lo, n, m, v0, v1, v2, v3, v4, L, r⟩ := a
  obtain ⟨six', hi', lo', n', m', u0, u1, u2, u3, u4, L', r'⟩ := b
  cases p with
  | adr six => simp_all [dropP, eqP]
  | nam mail ptd =>
    cases mail
    · have := bs_inj he
      simp_all [dropP, putName, nameOf]
    · have := bs_inj he
      simp_all [dropP, putName, nameOf]
  | num =>
    simp only [eqP, MD.vs, List.cons.injEq, and_true] at he
    simp_all [dropP]
  | txt =>
    have hL : L = L' := (List.map_inj_right fun x y hxy => bs_inj hxy).1 he
    simp_all [dropP]
  | raw =>
    have := bs_inj he
    simp_all [dropP]
theorem same_parts : ∀ (K : List Pt) (a b : MD), dropK K a = dropK K b → (∀ p ∈ K, eqP p a b) → a = b
  | [], a, b, h, _ => h
  | p :: K, a, b, h, he => drop_eq (same_parts K (dropP p a) (dropP p b) h fun q hq => eqP_drop (he q (List.mem_cons_of_mem _ hq))) (he p List.mem_cons_self)

/-! ### By type -/
theorem firstE_all {α : Type} {f : α → Nat} : ∀ {K : List α}, firstE f K = 0 → ∀ p ∈ K, f p = 0
  | [], _ => fun p hp => absurd hp List.not_mem_nil
  | x :: r, h => by
    unfold firstE at h
    by_cases hx : f x = 0
    · rw [if_neg (by simp [hx])] at h
      intro p hp
      rcases List.mem_cons.1 hp with rfl | hp
      · exact hx
      · exact firstE_all h p hp
    · rw [if_pos hx] at h
      exact absurd h hx
theorem all_facts {K : List Pt} {d : MD} (h : allK K d = 0) : dropK K d = md0 ∧ (∀ p ∈ K, chkP p d = 0) ∧ sizeK K d ≤ 65535 := by
  unfold allK at h
  by_cases h1 : partsK K d = 0
  · rw [if_neg (by simp [h1])] at h
    have h2 : sizeK K d ≤ 65535 := Decidable.byContradiction fun hx => by rw [if_pos (by omega)] at h; cases h
    unfold partsK at h1
    cases hs : sameD (dropK K d) md0
    · rw [hs] at h1
      cases h1
    · rw [hs, if_pos rfl] at h1
      exact ⟨(sameD_iff _ _).1 hs, firstE_all h1, h2⟩
  · rw [if_pos h1] at h
    exact absurd h h1
theorem kind_cases (t : Int) : (∀ p ∈ kindK t, wired p = true) ∧ (kindK t).length ≤ 3 ∨ kindK t = [.txt] ∨ kindK t = [.raw] := by
  unfold kindK table
  repeat' split
  all_goals first | exact .inl ⟨by decide, by decide⟩ | exact .inr (.inl rfl) | exact .inr (.inr rfl)
/-- Texts read off their octets. -/
theorem txB_one : ∀ (K L : List ByteArray), (∀ x ∈ K, x.size ≤ 255) → (∀ x ∈ L, x.size ≤ 255) → txB K = txB L → K = L
  | [], [], _, _, _ => rfl
  | [], y :: L, _, _, h => by rw [txB_cons] at h; cases h
  | x :: K, [], _, _, h => by rw [txB_cons] at h; cases h
  | x :: K, y :: L, hk, hl, h => by
    rw [txB_cons, txB_cons, List.cons_append, List.cons_append] at h
    injection h with h1 h2
    have hx := hk x List.mem_cons_self
    have hy := hl y List.mem_cons_self
    have hz : x.size = y.size := by
      have := congrArg UInt8.toNat h1
      rw [UInt8.toNat_ofNat', UInt8.toNat_ofNat'] at this
      omega
    obtain ⟨h3, h4⟩ := List.append_inj h2 (by rw [bs_length, bs_length, hz])
    rw [bs_inj h3, txB_one K L (fun z hz => hk z (List.mem_cons_of_mem _ hz)) (fun z hz => hl z (List.mem_cons_of_mem _ hz)) h4]
theorem put_facts {t : Int} {d : MD} {s : PS} (h : (putD 65535 t d s).1 = 0) : isT t = true ∧ allK (kindK t) d = 0 ∧ putD 65535 t d s = putK 65535 (kindK t) d s := by
  unfold putD at h ⊢
  cases ht : isT t
  · rw [ht] at h
    cases h
  · rw [ht, if_pos rfl] at h
    by_cases h0 : allK (kindK t) d = 0
    · exact ⟨rfl, h0, by rw [if_pos rfl, if_neg (by simp [h0])]⟩
    · rw [if_pos h0] at h
      exact absurd h h0
theorem txt_all {d : MD} (h : chkP .txt d = 0) : ∀ x ∈ d.L, x.size ≤ 255 := by
  intro x hx
  refine Decidable.byContradiction fun hn => ?_
  have hne : d.L ≠ [] := fun h => by rw [h] at hx; cases hx
  have : chkP .txt d = 3 := by
    show (if d.L = [] then 2 else chkT d.L) = 3
    rw [if_neg hne, chkT_long hx (by omega)]
  omega
/-- Unlike data of a type have unlike octets, where nothing stands ahead; the same have the same. -/
theorem unlike_any {t : Int} {a b : MD} (fa : Fit64 a) (fb : Fit64 b) (ha : (putD 65535 t a ps0).1 = 0) (hb : (putD 65535 t b ps0).1 = 0) : (putD 65535 t a ps0).2.l = (putD 65535 t b ps0).2.l ↔ sameD a b = true := by
  rw [sameD_iff]
  constructor
  · intro he
    obtain ⟨ht, a0, ea⟩ := put_facts ha
    obtain ⟨_, b0, eb⟩ := put_facts hb
    rw [ea, eb] at he
    obtain ⟨a1, a2, a3⟩ := all_facts a0
    obtain ⟨b1, b2, b3⟩ := all_facts b0
    refine same_parts (kindK t) a b (a1.trans b1.symm) ?_
    rcases kind_cases t with ⟨hw, hl⟩ | hk | hk
    · exact kinds_one (kindK t) a b ps0 hw a2 b2 fa fb good0 (inv0 (by decide)) (by show 0 + _ ≤ _; omega) he
    · rw [hk] at a2 b2 a3 b3 he ⊢
      have ta := txt_all (a2 _ List.mem_cons_self)
      have tb := txt_all (b2 _ List.mem_cons_self)
      have sa : sizeT a.L ≤ 65535 := by have := a3; simp [sizeK, sizeP] at this; exact this
      have sb : sizeT b.L ≤ 65535 := by have := b3; simp [sizeK, sizeP] at this; exact this
      have pa := texts_put (M := 65535) a.L ps0 rfl ta (by show 0 + _ ≤ _; omega)
      have pb := texts_put (M := 65535) b.L ps0 rfl tb (by show 0 + _ ≤ _; omega)
      rw [putK_two (show (putP 65535 .txt a ps0).1 = 0 from by show (textsS 65535 a.L ps0).1 = 0; rw [pa]), putK_two (show (putP 65535 .txt b ps0).1 = 0 from by show (textsS 65535 b.L ps0).1 = 0; rw [pb])] at he
      have he' : (textsS 65535 a.L ps0).2.l = (textsS 65535 b.L ps0).2.l := he
      rw [pa, pb] at he'
      have hL := txB_one a.L b.L ta tb (List.append_cancel_left he')
      intro p hp
      rw [List.mem_singleton.1 hp]
      show a.L.map bs = b.L.map bs
      rw [hL]
    · rw [hk] at a2 b2 a3 b3 he ⊢
      have sa : a.r.size ≤ 65535 := by have := a3; simp [sizeK, sizeP] at this; exact this
      have sb : b.r.size ≤ 65535 := by have := b3; simp [sizeK, sizeP] at this; exact this
      have pa := put0 (M := 65535) (s := ps0) (x := bs a.r) rfl (by show 0 + _ ≤ _; rw [bs_length]; omega)
      have pb := put0 (M := 65535) (s := ps0) (x := bs b.r) rfl (by show 0 + _ ≤ _; rw [bs_length]; omega)
      rw [putK_two (show (putP 65535 .raw a ps0).1 = 0 from by show (putS 65535 ps0 (bs a.r)).1 = 0; rw [pa]), putK_two (show (putP 65535 .raw b ps0).1 = 0 from by show (putS 65535 ps0 (bs b.r)).1 = 0; rw [pb])] at he
      have he' : (putS 65535 ps0 (bs a.r)).2.l = (putS 65535 ps0 (bs b.r)).2.l := he
      rw [pa, pb] at he'
      intro p hp
      rw [List.mem_singleton.1 hp]
      exact List.append_cancel_left he'
  · intro h
    rw [h]
end Go.Proofs.YtjollpgkmcinjaaGreat
