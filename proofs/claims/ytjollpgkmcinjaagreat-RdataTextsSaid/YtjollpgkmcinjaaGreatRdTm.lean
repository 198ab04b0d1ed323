/-
  What texts come to when they are put, and raw octets: plain mathematics. Conditions as stated.
-/
import Derived.Test.YtjollpgkmcinjaaGreatRdM7
namespace Go.Proofs.YtjollpgkmcinjaaGreat
open Go.RowKit
set_option linter.unusedVariables false

/-- Texts as they are put: each its length and its octets. -/
def txB (L : List ByteArray) : List UInt8 := L.flatMap fun x => UInt8.ofNat x.size :: bs x
theorem txB_snoc (L : List ByteArray) (x : ByteArray) : txB (L ++ [x]) = txB L ++ (UInt8.ofNat x.size :: bs x) := by simp [txB]
theorem txB_cons (x : ByteArray) (L : List ByteArray) : txB (x :: L) = (UInt8.ofNat x.size :: bs x) ++ txB L := by simp [txB]
theorem txB_length : ∀ L : List ByteArray, (txB L).length = sizeT L
  | [] => rfl
  | x :: r => by
    rw [txB_cons, List.length_append, txB_length r]
    show (bs x).length + 1 + _ = _
    rw [bs_length]
    simp [sizeT]
    omega
theorem sizeT_most : ∀ L : List ByteArray, (∀ x ∈ L, x.size ≤ 255) → sizeT L ≤ 256 * L.length
  | [], _ => by simp [sizeT]
  | x :: r, h => by
    have h1 := sizeT_most r fun y hy => h y (List.mem_cons_of_mem _ hy)
    have h2 := h x List.mem_cons_self
    simp [sizeT] at h1 ⊢
    omega
theorem room1 {v : Nat} (h : v ≤ 255) : room v 1 = true := by
  simp [room, isW]
  omega
theorem num1 {M : Nat} {s : PS} {v : Nat} (hf : s.f = 0) (hv : v ≤ 255) (hl : s.l.length + 1 ≤ M) : numS M s v 1 = (0, { s with l := s.l ++ [UInt8.ofNat v] }) := by
  unfold numS numW
  rw [room1 hv, hf]
  unfold putW
  rw [if_neg (by simp), if_neg (by simp), if_neg (by simp), if_neg (by simp [octs]; omega)]
  simp [octs]
theorem put0 {M : Nat} {s : PS} {x : List UInt8} (hf : s.f = 0) (hl : s.l.length + x.length ≤ M) : putS M s x = (0, { s with l := s.l ++ x }) := by
  unfold putS putW
  rw [hf, if_neg (by simp), if_neg (by omega)]
theorem text1 {M : Nat} {s : PS} {x : ByteArray} (hf : s.f = 0) (hx : x.size ≤ 255) (hl : s.l.length + (1 + x.size) ≤ M) : textS1 M s x = (0, { s with l := s.l ++ (UInt8.ofNat x.size :: bs x) }) := by
  unfold textS1
  rw [num1 hf hx (by omega), if_pos rfl]
  dsimp only
  rw [put0 (s := { s with l := s.l ++ [UInt8.ofNat x.size] }) hf (by simp [bs_length]; omega)]
  simp
theorem texts_put {M : Nat} : ∀ (L : List ByteArray) (s : PS), s.f = 0 → (∀ x ∈ L, x.size ≤ 255) → s.l.length + sizeT L ≤ M → textsS M L s = (0, { s with l := s.l ++ txB L })
  | [], s, _, _, _ => by simp [textsS, txB]
  | x :: r, s, hf, hx, hl => by
    have h2 := hx x List.mem_cons_self
    have hsz : sizeT (x :: r) = 1 + x.size + sizeT r := by simp [sizeT]
    unfold textsS
    rw [text1 hf h2 (by omega), if_pos rfl]
    dsimp only
    rw [texts_put r { s with l := s.l ++ (UInt8.ofNat x.size :: bs x) } hf (fun y hy => hx y (List.mem_cons_of_mem _ hy)) (by simp [bs_length]; omega), txB_cons]
    simp
/-- Data of texts alone; of raw octets alone. -/
def txD (L : List ByteArray) : MD := { md0 with L := L }
def rwD (r : ByteArray) : MD := { md0 with r := r }
theorem same0 : sameD md0 md0 = true := by kernel_rfl
theorem tx_drop (L : List ByteArray) : sameD (dropK [.txt] (txD L)) md0 = true := same0
theorem rw_drop (r : ByteArray) : sameD (dropK [.raw] (rwD r)) md0 = true := same0
theorem chkT_short {L : List ByteArray} (h : ∀ x ∈ L, x.size ≤ 255) : chkT L = 0 := by
  unfold chkT
  rw [if_neg]
  simp
  exact h
theorem chkT_long {L : List ByteArray} {x : ByteArray} (hx : x ∈ L) (h : 255 < x.size) : chkT L = 3 := by
  unfold chkT
  rw [if_pos]
  simp
  exact ⟨x, hx, h⟩
theorem tx_parts {L : List ByteArray} (hn : L ≠ []) : partsK [.txt] (txD L) = chkT L := by
  unfold partsK
  rw [tx_drop]
  simp [chkK, firstE, chkP, txD, hn]
  intro h
  exact h.symm
theorem tx_check {L : List ByteArray} (hn : L ≠ []) (h : ∀ x ∈ L, x.size ≤ 255) (hl : sizeT L ≤ 65535) : allK [.txt] (txD L) = 0 := by
  unfold allK
  rw [tx_parts hn, chkT_short h]
  have : sizeK [.txt] (txD L) = sizeT L := by simp [sizeK, sizeP, txD]
  rw [this, if_neg (by simp), if_neg (by omega)]
theorem tx_long {L : List ByteArray} (hn : L ≠ []) {x : ByteArray} (hx : x ∈ L) (h : 255 < x.size) : checkD 16 (txD L) = 3 := by
  show allK [.txt] (txD L) = 3
  unfold allK
  rw [tx_parts hn, chkT_long hx h]
  rfl
theorem tx_size {L : List ByteArray} (hn : L ≠ []) (h : ∀ x ∈ L, x.size ≤ 255) : sizeD 16 (txD L) = sizeT L := by
  show (if partsK [.txt] (txD L) ≠ 0 then 0 else sizeK [.txt] (txD L)) = _
  rw [tx_parts hn, chkT_short h]
  simp [sizeK, sizeP, txD]
theorem tx_put {L : List ByteArray} (hn : L ≠ []) (h : ∀ x ∈ L, x.size ≤ 255) (hl : sizeT L ≤ 65535) : putD 65535 16 (txD L) ps0 = (0, { ps0 with l := txB L }) := by
  show (if allK [.txt] (txD L) ≠ 0 then (allK [.txt] (txD L), ps0) else putK 65535 [.txt] (txD L) ps0) = _
  rw [tx_check hn h hl, if_neg (by simp)]
  unfold putK
  have hp : putP 65535 .txt (txD L) ps0 = (0, { ps0 with l := txB L }) := by
    show textsS 65535 L ps0 = _
    rw [texts_put L ps0 rfl h (by show 0 + _ ≤ _; omega)]
    rfl
  rw [hp]
  rfl
theorem rw_put {r : ByteArray} (hl : r.size ≤ 65535) : putD 65535 9999 (rwD r) ps0 = (0, { ps0 with l := bs r }) := by
  have h0 : partsK [.raw] (rwD r) = 0 := by
    unfold partsK
    rw [rw_drop]
    rfl
  have h1 : allK [.raw] (rwD r) = 0 := by
    unfold allK
    have : sizeK [.raw] (rwD r) = r.size := by simp [sizeK, sizeP, rwD]
    rw [h0, this, if_neg (by simp), if_neg (by omega)]
  show (if allK [.raw] (rwD r) ≠ 0 then (allK [.raw] (rwD r), ps0) else putK 65535 [.raw] (rwD r) ps0) = _
  rw [h1, if_neg (by simp)]
  unfold putK
  have hp : putP 65535 .raw (rwD r) ps0 = (0, { ps0 with l := bs r }) := by
    show putS 65535 ps0 (bs r) = _
    rw [put0 rfl (by show 0 + _ ≤ _; rw [bs_length]; omega)]
    rfl
  rw [hp]
  rfl
theorem mkb_bs (r : ByteArray) : mkb (bs r) = r := by
  unfold mkb bs
  simp
theorem rw_read {r : ByteArray} (hl : r.size ≤ 65535) : readD (bs r) 0 (r.size : Nat) 9999 = (0, rwD r) := by
  have hb := bs_length r
  have hk : rdK (bs r) ((bs r).take ((r.size : Int)).toNat) [.raw] md0 (0 : Int).toNat = ⟨0, r.size, rwD r⟩ := by
    have : (bs r).take ((r.size : Int)).toNat = bs r := List.take_of_length_le (by rw [hb]; simp)
    rw [this]
    simp [rdK, rdP, hb, mkb_bs, rwD]
  have h0 : partsK [.raw] (rwD r) = 0 := by
    unfold partsK
    rw [rw_drop]
    rfl
  have h1 : allK [.raw] (rwD r) = 0 := by
    unfold allK
    have : sizeK [.raw] (rwD r) = r.size := by simp [sizeK, sizeP, rwD]
    rw [h0, this, if_neg (by simp), if_neg (by omega)]
  unfold readD
  rw [if_pos (by decide)]
  have hkd : kindK 9999 = [.raw] := rfl
  rw [hkd, hk, if_neg (by omega), if_neg (by omega), if_neg (by simp), h1, if_neg (by simp)]
end Go.Proofs.YtjollpgkmcinjaaGreat
