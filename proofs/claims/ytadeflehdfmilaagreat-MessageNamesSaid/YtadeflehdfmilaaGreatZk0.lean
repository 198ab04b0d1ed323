/-
  Laws for walks over byte slices that a call makes for itself: '[]byte(s)', 'string(b)', append of bytes. Conditions: those that each theorem names (the types' rows in the program's table; sizes below 2^46). Nothing of any program is named here. Numbers as octets, the highest first; what a reader and a writer of octets do: plain mathematics. No condition beyond those that each theorem names. Laws for walks: append of a string onto bytes that the call owns; worlds that have grown. Conditions: those that each theorem names. Nothing of any program is named here. A message's header as numbers and octets: plain mathematics. No condition beyond those that each theorem names.
-/
import Derived.WalkKit
import Derived.WalkSpells
import Derived.WalkLawsBesides
import Derived.Lib.Hide
import Derived.Lib.Strings
import Derived.Lib.SmallJoins
import Derived.Laws.IdiomStrings
import Derived.Laws.BytesArg
import Derived.Maps.AppendAt
import Derived.Lib.AppendStr
namespace Go.Proofs.YtadeflehdfmilaaGreat
open Go.RowKit

/-- A byte as a cell holds it. -/
def B (b : UInt8) : Value := .int .u8 (b.toNat : Int)
/-- A string's bytes. -/
def bs (s : ByteArray) : List UInt8 := s.data.toList
theorem bs_length (s : ByteArray) : (bs s).length = s.size := by simp [bs]
theorem bs_mk (l : List UInt8) : bs ⟨l.toArray⟩ = l := by simp [bs]
theorem bs_toList (s : ByteArray) : s.toList = bs s := Lib.toList_data s
theorem bs_append (a b : ByteArray) : bs (a ++ b) = bs a ++ bs b := Joins.data_append a b
theorem bs_inj {a b : ByteArray} (h : bs a = bs b) : a = b := by
  cases a; cases b
  simp only [bs] at h
  rw [Array.toList_inj.1 h]
theorem bs_eq {a : ByteArray} {l : List UInt8} (h : bs a = l) : a = ⟨l.toArray⟩ := bs_inj (h.trans (bs_mk l).symm)
theorem bs_extract (s : ByteArray) (a b : Nat) : bs (s.extract a b) = ((bs s).drop a).take (b - a) := Lib.extract_data s a b
theorem drop_at (s : ByteArray) (k : Nat) (h : k < s.size) : (bs s).drop k = s[k] :: (bs s).drop (k + 1) := by
  have h' : k < (bs s).length := by rw [bs_length]; exact h
  rw [List.drop_eq_getElem_cons h']
  rfl
/-- The rows of the program's table for bytes, byte slices, strings. -/
structure BT (P : Program) (tb ts tt : TypeId) : Prop where
  ub : P.underlying tb = some (.int .u8)
  us : P.underlying ts = some (.slice tb)
  ut : P.underlying tt = some .string
  info : (P.info? tb).map (fun i => (i.zero, i.size, i.bytes)) = some (some (.int .u8 0), 1, 1)

/-- Block g holds the bytes l at its head. -/
structure Row (w : World) (g : Nat) (l : List UInt8) : Prop where
  lt : g < w.heap.size
  cell : ∀ j (h : j < l.length), w.cell? ⟨g, j, none⟩ = some (B l[j])
  free : ∀ j, j < l.length → w.frozen? ⟨g, j, none⟩ = false
  mark : ∀ c e, w.heap[g]? ≠ some (.cells c e (0, 0))

/-- The call owns the bytes l. -/
def Own (tb : TypeId) (w : World) (base : Nat) (v : Value) (l : List UInt8) : Prop := w.ownsRow base tb 1 v l.length (l.map B)

section
variable {w w' : World} {g base : Nat} {l ds : List UInt8} {tb : TypeId} {v : Value}
theorem Row.grown {row : Option Nat} (h : Row w g l) (hg : w.grownBy w' row) (hne : some g ≠ row) : Row w' g l :=
  ⟨Nat.lt_of_lt_of_le h.lt hg.size, fun j hj => (World.cell?_of_block (w := w) (hg.block g h.lt hne)).trans (h.cell j hj), fun j hj => (World.frozen?_of_block (w := w) (hg.block g h.lt hne)).trans (h.free j hj), fun c e => by rw [hg.block g h.lt hne]; exact h.mark c e⟩
theorem Row.below {k : Nat} (h : Row w g l) (hb : Below k w w') (hk : g < k) : Row w' g l :=
  ⟨Nat.lt_of_lt_of_le h.lt hb.size, fun j hj => (World.cell?_of_block (w := w) (hb.block g hk)).trans (h.cell j hj), fun j hj => (World.frozen?_of_block (w := w) (hb.block g hk)).trans (h.free j hj), fun c e => by rw [hb.block g hk]; exact h.mark c e⟩
theorem Row.drew (h : Row w g l) : Row w.drew g l := ⟨h.lt, h.cell, h.free, h.mark⟩
theorem Row.alloc (h : Row w g l) (o : Obj) : Row (w.alloc o) g l := h.below (k := w.heap.size) ((Below.refl _ _).alloc (Nat.le_refl _) o) h.lt
/-- A store into a row that was made of a string. -/
theorem Row.set (h : Row w g l) {k : Nat} (hk : k < l.length) (c : UInt8) : Row (w.setCell ⟨g, k, none⟩ (B c)) g (l.set k c) := by
  refine ⟨by have := h.lt; simpa [World.setCell] using this, fun j hj => ?_, fun j hj => ?_, fun cs e => ?_⟩
  · have hj' : j < l.length := by rw [List.length_set] at hj; exact hj
    by_cases hjk : j = k
    · subst hjk
      rw [World.cell?_setCell_same _ _ _ (h.cell j hj')]
      simp
    · rw [World.cell?_setCell_other w ⟨g, k, none⟩ ⟨g, j, none⟩ _ (fun e => hjk (by injection e with _ e _; exact e.symm)), h.cell j hj']
      rw [List.getElem_set_ne (Ne.symm hjk)]
  · rw [List.length_set] at hj
    rw [World.frozen?_setCell]
    exact h.free j hj
  · have hm := h.mark
    simp only [World.setCell, Array.getElem?_modify, if_true]
    intro he
    rcases ho : w.heap[g]? with _ | o
    · rw [ho] at he; cases he
    · rw [ho] at he
      simp only [Option.map_some, Option.some.injEq] at he
      cases o with
      | cells c0 e0 m0 =>
        simp only [Obj.cells.injEq] at he
        obtain ⟨_, rfl, rfl⟩ := he
        exact hm _ _ ho
      | _ => cases he
theorem Own.none_ (w : World) (base : Nat) : Own tb w base (.slice none 0 0) [] := World.ownsRow_nil w base tb 1
theorem Own.alloc (h : Own tb w base v l) (o : Obj) : Own tb (w.alloc o) base v l := World.ownsRow.alloc h o
theorem Own.drew (h : Own tb w base v l) : Own tb w.drew base v l := h
theorem Own.below {k : Nat} (h : Own tb w base v l) (hb : Below k w w') (hk : w.heap.size ≤ k) : Own tb w' base v l :=
  World.ownsRow.kept (row := none) h ⟨hb.os, hb.tape, hb.output, hb.size, fun j hj _ => hb.block j (by omega)⟩ (by cases hv : v.ownBlock <;> simp)
/-- The shape of what is owned. -/
theorem Own.form (h : Own tb w base v l) : (v = .slice none 0 0 ∧ l = []) ∨ ∃ g cap, v = .slice (some ⟨g, 0, none⟩) l.length cap ∧ base ≤ g ∧ g < w.heap.size ∧ l.length ≤ cap ∧ cap ≤ maxLen := by
  rcases h.2 with ⟨rfl, hn⟩ | ⟨g, cap, cur, rfl, hb, hg, hnc, hcm, _⟩
  · exact .inl ⟨rfl, List.eq_nil_of_length_eq_zero hn⟩
  · refine .inr ⟨g, cap, rfl, hb, ?_, hnc, hcm⟩
    rcases Nat.lt_or_ge g w.heap.size with hlt | hge
    · exact hlt
    · rw [Array.getElem?_eq_none hge] at hg; cases hg
theorem Own.shape (h : Own tb w base v l) : ∃ A cap, v = .slice A l.length cap := by
  rcases h.form with ⟨rfl, rfl⟩ | ⟨g, cap, rfl, _⟩
  · exact ⟨none, 0, rfl⟩
  · exact ⟨_, cap, rfl⟩
theorem le_alloc {n : Nat} {w : World} (h : n ≤ w.heap.size) (o : Obj) : n ≤ (w.alloc o).heap.size := by simp; omega
theorem below_grown {B0 : Nat} {v : Value} {l : List UInt8} (hg : w.grownBy w' v.ownBlock) (h : Own tb w base v l) (hB : B0 ≤ base) (hs : base ≤ w.heap.size) : Below B0 w w' :=
  (Below.refl B0 w).grown hg (by omega) fun k hk => by have := (World.ownsRow.lt h k hk).1; omega
end

section
variable {P : Program} {tb ts tt : TypeId}

/-- 'string(b)' of bytes that the call owns. -/
theorem BT.conv_own (T : BT P tb ts tt) {w : World} {base : Nat} {v : Value} {l : List UInt8} (h : Own tb w base v l) :
    (convert ts tt v).run P w = .ok (.string ⟨l.toArray⟩) w := by
  rcases h.form with ⟨rfl, rfl⟩ | ⟨g, cap, rfl, _, _, _, _⟩
  · have := run_convert_bytes_nil (P := P) w ts tb T.us T.ub 0 0 tt T.ut
    rw [this]
    rfl
  · refine run_convert_bytes_back w ts tt tb ⟨g, 0, none⟩ cap l T.us T.ub T.ut fun j hj => ?_
    exact World.ownsRow.cells h (g := g) rfl j _ (by rw [List.getElem?_map, List.getElem?_eq_getElem hj]; rfl)

/-- '[]byte(s)': a new row of the string's bytes. -/
theorem BT.bytes (T : BT P tb ts tt) (w : World) (s : ByteArray) (hs : s.size ≤ maxLen) :
    ∃ cap w', (convert tt ts (.string s)).run P w = .ok (.slice (some ⟨w.heap.size, 0, none⟩) s.size cap) w' ∧ Row w' w.heap.size (bs s) ∧ Below w.heap.size w w' ∧ w'.heap.size = w.heap.size + 1 ∧ s.size ≤ cap ∧ cap ≤ maxLen := by
  refine ⟨_, _, run_bytes_of_string w tt ts tb s T.ut T.us T.ub, ?_, ?_, ?_, grownCap_ge w _ _ _, grownCap_le_maxLen w _ _ _ hs⟩
  · unfold bs
    have hlen : s.data.toList.length = s.data.size := by simp
    refine ⟨by simp, fun j hj => ?_, fun j hj => ?_, fun c e => ?_⟩
    · have hj' : j < s.data.size := by rw [← hlen]; exact hj
      have := World.cell?_alloc_mark w.drew (bytesRow s (grownCap w s.size 0 tb)) tb ((bytesRow s (grownCap w s.size 0 tb)).size, (bytesRow s (grownCap w s.size 0 tb)).size + 1) j
      have e1 := this.trans (bytesRow_at s (grownCap w s.size 0 tb) j hj')
      exact e1
    · have hj' : j < s.data.size := by rw [← hlen]; exact hj
      have := World.frozen?_alloc_mark w.drew (bytesRow s (grownCap w s.size 0 tb)) tb (bytesRow s (grownCap w s.size 0 tb)).size ((bytesRow s (grownCap w s.size 0 tb)).size + 1) j
      refine this.trans ?_
      have hsz : s.data.size ≤ (bytesRow s (grownCap w s.size 0 tb)).size := by unfold bytesRow; simp
      simp; omega
    · have hh : (w.drew.alloc (.cells (bytesRow s (grownCap w s.size 0 tb)) tb ((bytesRow s (grownCap w s.size 0 tb)).size, (bytesRow s (grownCap w s.size 0 tb)).size + 1))).heap[w.heap.size]? = some (.cells (bytesRow s (grownCap w s.size 0 tb)) tb ((bytesRow s (grownCap w s.size 0 tb)).size, (bytesRow s (grownCap w s.size 0 tb)).size + 1)) := by
        show (w.heap.push _)[w.heap.size]? = _
        simp
      rw [hh]
      intro e
      injection e with e
      injection e with _ _ e
      simp at e
  · exact (Below.refl _ _).drew.alloc (by simp) _
  · simp

theorem wpList_bytes (T : BT P tb ts tt) (w : World) {ops : Array Oper} {rest : List Oper} {o : Oper} {a : Act} {Q : Exit → Act → World → Prop} (hgd : o.guard = none) (x : Operand)
    (ho : o.op = .convert tt ts x) (s : ByteArray) (hx : a.eval x = .string s) (hs : s.size ≤ maxLen)
    (h : ∀ cap w', Row w' w.heap.size (bs s) → Below w.heap.size w w' → w.heap.size + 1 ≤ w'.heap.size → s.size ≤ cap → cap ≤ maxLen → wpList P ops Q rest (a.put o.dst (.slice (some ⟨w.heap.size, 0, none⟩) s.size cap)) w') :
    wpList P ops Q (o :: rest) a w := by
  refine wpList_plain hgd fun K hK => ?_
  obtain ⟨cap, w', hr, h1, h2, h3, h4, h5⟩ := T.bytes w s hs
  unfold Oper.wp execOp
  simp only [ho, Sem.run_bind, Sem.run_pure, Result.andThen_ok, hx, hr]
  exact hK _ _ (h cap w' h1 h2 (by omega) h4 h5)

end
end Go.Proofs.YtadeflehdfmilaaGreat
namespace Go.Proofs.YtadeflehdfmilaaGreat
open Go.RowKit
set_option linter.unusedVariables false

/-- The number that octets are. -/
def num (l : List UInt8) : Nat := l.foldl (fun v c => v * 256 + c.toNat) 0
theorem num_snoc (l : List UInt8) (c : UInt8) : num (l ++ [c]) = num l * 256 + c.toNat := by simp [num]
/-- A number as n octets. -/
def octs (v : Nat) : Nat → List UInt8
  | 0 => []
  | n + 1 => octs (v / 256) n ++ [UInt8.ofNat v]
theorem octs_succ (v n : Nat) : octs v (n + 1) = octs (v / 256) n ++ [UInt8.ofNat v] := rfl
theorem octs_length : ∀ (n v : Nat), (octs v n).length = n
  | 0, v => rfl
  | n + 1, v => by rw [octs_succ, List.length_append, octs_length n]; rfl
theorem ofNat_val (v : Nat) : (UInt8.ofNat v).toNat = v % 256 := rfl
theorem num_lt_aux : ∀ (n : Nat) (l : List UInt8), l.length = n → num l < 256 ^ n
  | 0, l, h => by rw [List.eq_nil_of_length_eq_zero h]; decide
  | n + 1, l, h => by
    have hne : l ≠ [] := fun e => by rw [e] at h; cases h
    rw [← List.dropLast_concat_getLast hne, num_snoc, Nat.pow_succ]
    have := num_lt_aux n l.dropLast (by rw [List.length_dropLast]; omega)
    have := (l.getLast hne).toNat_lt
    omega
theorem num_lt (l : List UInt8) : num l < 256 ^ l.length := num_lt_aux _ l rfl
theorem pow_le4 {n : Nat} (h : n ≤ 4) : 256 ^ n ≤ 4294967296 := by
  have := Nat.pow_le_pow_right (n := 256) (by omega) h
  simpa using this
theorem num_lt32 {l : List UInt8} (h : l.length ≤ 4) : num l < 4294967296 := Nat.lt_of_lt_of_le (num_lt l) (pow_le4 h)
theorem octs_get : ∀ (n v i : Nat), i < n → (octs v n)[i]? = some (UInt8.ofNat (v / 256 ^ (n - 1 - i)))
  | 0, v, i, h => by omega
  | n + 1, v, i, h => by
    rw [octs_succ]
    by_cases hi : i < n
    · rw [List.getElem?_append_left (by rw [octs_length]; exact hi), octs_get n (v / 256) i hi]
      have : n + 1 - 1 - i = (n - 1 - i) + 1 := by omega
      rw [this, Nat.pow_succ, Nat.mul_comm, Nat.div_div_eq_div_mul]
    · have : i = n := by omega
      subst this
      rw [List.getElem?_append_right (by rw [octs_length]; omega), octs_length]
      simp

/-! ### A row that is filled from the front, and one from the end -/
def front (v n k : Nat) : List UInt8 := (octs v n).take k ++ List.replicate (n - k) 0
theorem front_length {v n k : Nat} (h : k ≤ n) : (front v n k).length = n := by simp [front, octs_length]; omega
theorem front_zero (v n : Nat) : front v n 0 = List.replicate n 0 := by simp [front]
theorem front_end (v n : Nat) : front v n n = octs v n := by simp [front, List.take_of_length_le, octs_length]
theorem front_step {v n k : Nat} (h : k < n) : (front v n k).set k (UInt8.ofNat (v / 256 ^ (n - 1 - k))) = front v n (k + 1) := by
  apply List.ext_getElem?
  intro j
  have hl : k < (front v n k).length := by rw [front_length (by omega)]; exact h
  rw [List.getElem?_set]
  have ht : ((octs v n).take k).length = k := by rw [List.length_take, octs_length]; omega
  have ht' : ((octs v n).take (k + 1)).length = k + 1 := by rw [List.length_take, octs_length]; omega
  by_cases hj : k = j
  · subst hj
    rw [if_pos rfl, if_pos hl]
    unfold front
    rw [List.getElem?_append_left (by omega), List.getElem?_take, if_pos (by omega), octs_get n v k h]
  · rw [if_neg hj]
    unfold front
    by_cases hjk : j < k
    · rw [List.getElem?_append_left (by omega), List.getElem?_append_left (by omega), List.getElem?_take, List.getElem?_take, if_pos hjk, if_pos (by omega)]
    · rw [List.getElem?_append_right (by omega), List.getElem?_append_right (by omega), ht, ht', List.getElem?_replicate, List.getElem?_replicate]
      by_cases hjn : j < n
      · rw [if_pos (by omega), if_pos (by omega)]
      · rw [if_neg (by omega), if_neg (by omega)]
/-! ### What a reader answers: the octets, the error, the place behind -/
def isW (n : Int) : Bool := decide (1 ≤ n ∧ n ≤ 4)
structure Rd where
  s : List UInt8
  e : Nat
  k : Nat
def takR (l : List UInt8) (k : Nat) (n : Int) : Rd :=
  if n < 0 then ⟨[], 2, k⟩ else if (l.length : Int) - k < n then ⟨[], 8, k⟩ else ⟨(l.drop k).take n.toNat, 0, k + n.toNat⟩
def numR (l : List UInt8) (k : Nat) (n : Int) : Rd :=
  if isW n = false then ⟨[], 2, k⟩ else takR l k n
def seekR (l : List UInt8) (k : Nat) (at_ : Int) : Nat × Nat := if at_ < 0 ∨ (l.length : Int) < at_ then (2, k) else (0, at_.toNat)
theorem takR_le (l : List UInt8) (k : Nat) (n : Int) (h : k ≤ l.length) : (takR l k n).k ≤ l.length := by
  unfold takR
  split
  · exact h
  · split
    · exact h
    · show k + n.toNat ≤ l.length
      omega
theorem numR_le (l : List UInt8) (k : Nat) (n : Int) (h : k ≤ l.length) : (numR l k n).k ≤ l.length := by
  unfold numR
  split
  · exact h
  · exact takR_le l k n h
theorem seekR_le (l : List UInt8) (k : Nat) (n : Int) (h : k ≤ l.length) : (seekR l k n).2 ≤ l.length := by
  unfold seekR
  split
  · exact h
  · show n.toNat ≤ l.length
    omega
theorem takR_len (l : List UInt8) (k : Nat) (n : Int) : (takR l k n).s.length ≤ n.toNat := by
  unfold takR
  split
  · simp
  · split
    · simp
    · simp; omega
theorem numR_len (l : List UInt8) (k : Nat) (n : Int) : (numR l k n).s.length ≤ 4 := by
  unfold numR
  by_cases h : isW n = false
  · rw [if_pos h]; simp
  · rw [if_neg h]
    have := takR_len l k n
    have h' : isW n = true := by simpa using h
    simp [isW] at h'
    omega
theorem numR_lt (l : List UInt8) (k : Nat) (n : Int) : num (numR l k n).s < 4294967296 := num_lt32 (numR_len l k n)

/-! ### What a writer answers: the error, its octets, its error from then on -/
def room (v : Nat) (n : Int) : Bool := isW n && decide (v < 256 ^ n.toNat)
structure Wr where
  e : Nat
  l : List UInt8
  f : Nat
def putW (M : Nat) (l : List UInt8) (f : Nat) (s : List UInt8) : Wr :=
  if f ≠ 0 then ⟨f, l, f⟩ else if M < l.length + s.length then ⟨3, l, 3⟩ else ⟨0, l ++ s, 0⟩
def numW (M : Nat) (l : List UInt8) (f v : Nat) (n : Int) : Wr :=
  if f ≠ 0 then ⟨f, l, f⟩ else if room v n = false then ⟨2, l, f⟩ else putW M l f (octs v n.toNat)
/-- Octets laid over others, from a place on. -/
def over (l : List UInt8) (k : Nat) (x : List UInt8) : List UInt8 := l.take k ++ (x ++ l.drop (k + x.length))
def patW (l : List UInt8) (f : Nat) (at_ : Int) (v : Nat) (n : Int) : Wr :=
  if f ≠ 0 then ⟨f, l, f⟩ else if room v n = false ∨ at_ < 0 ∨ (l.length : Int) - n < at_ then ⟨2, l, f⟩ else ⟨0, over l at_.toNat (octs v n.toNat), 0⟩
theorem over_length (l : List UInt8) (k : Nat) (x : List UInt8) (h : k + x.length ≤ l.length) : (over l k x).length = l.length := by simp [over]; omega
theorem putW_le {M : Nat} {l : List UInt8} (f : Nat) (s : List UInt8) (h : l.length ≤ M) : (putW M l f s).l.length ≤ M := by
  unfold putW
  split
  · exact h
  · split
    · exact h
    · show (l ++ s).length ≤ M
      rw [List.length_append]; omega
theorem room_yes {v : Nat} {n : Int} (h : room v n = true) : 1 ≤ n ∧ n ≤ 4 ∧ v < 256 ^ n.toNat := by
  simp [room, isW] at h
  exact ⟨h.1.1, h.1.2, h.2⟩
end Go.Proofs.YtadeflehdfmilaaGreat
namespace Go.Proofs.YtadeflehdfmilaaGreat
open Go.RowKit
set_option linter.unusedVariables false

theorem grown_trans {w w1 w2 : World} {r r1 : Option Nat} (h : w.grownBy w1 r) (h1 : w1.grownBy w2 r1) (hr : r1 = r ∨ ∀ k, r1 = some k → w.heap.size ≤ k) : w.grownBy w2 r :=
  ⟨h1.os.trans h.os, h1.tape.trans h.tape, h1.output.trans h.output, Nat.le_trans h.size h1.size, fun k hk hne => by
    have h2 := h.block k hk hne
    refine (h1.block k (Nat.lt_of_lt_of_le hk h.size) ?_).trans h2
    intro e
    rcases hr with rfl | hr
    · exact hne e
    · have := hr k e.symm
      omega⟩
theorem grown_alloc {w w' : World} {r : Option Nat} {o : Obj} (h : (w.alloc o).grownBy w' r) : w.grownBy w' r :=
  grown_trans (World.grownBy_alloc w o r) h (.inl rfl)
theorem grown_below {w w1 w2 : World} {r : Option Nat} (h : w.grownBy w1 r) (hb : Below w1.heap.size w1 w2) : w.grownBy w2 r :=
  ⟨hb.os.trans h.os, hb.tape.trans h.tape, hb.output.trans h.output, Nat.le_trans h.size hb.size, fun k hk hne => (hb.block k (Nat.lt_of_lt_of_le hk h.size)).trans (h.block k hk hne)⟩
theorem below_to_grown {w w' : World} {r : Option Nat} (hb : Below w.heap.size w w') : w.grownBy w' r :=
  ⟨hb.os, hb.tape, hb.output, hb.size, fun k hk _ => hb.block k hk⟩

end Go.Proofs.YtadeflehdfmilaaGreat
namespace Go.Proofs.YtadeflehdfmilaaGreat
open Go.RowKit
set_option linter.unusedVariables false

/-- A header: its ID, flags, Opcode, Rcode, counts. -/
structure Hd where
  id : Nat
  re : Bool
  op : Int
  aa : Bool
  tc : Bool
  rd : Bool
  ra : Bool
  ad : Bool
  cd : Bool
  rc : Int
  n0 : Int
  n1 : Int
  n2 : Int
  n3 : Int
deriving DecidableEq
/-- The header's value. -/
def hv (h : Hd) : Value := .agg #[.int .u16 h.id, .bool h.re, .int .i64 h.op, .bool h.aa, .bool h.tc, .bool h.rd, .bool h.ra, .bool h.ad, .bool h.cd, .int .i64 h.rc, .int .i64 h.n0, .int .i64 h.n1, .int .i64 h.n2, .int .i64 h.n3]
/-- The numbers are such as the types bear. -/
structure Hd.fits (h : Hd) : Prop where
  id : h.id < 65536
  op : -9223372036854775808 ≤ h.op ∧ h.op ≤ 9223372036854775807
  rc : -9223372036854775808 ≤ h.rc ∧ h.rc ≤ 9223372036854775807
  n0 : -9223372036854775808 ≤ h.n0 ∧ h.n0 ≤ 9223372036854775807
  n1 : -9223372036854775808 ≤ h.n1 ∧ h.n1 ≤ 9223372036854775807
  n2 : -9223372036854775808 ≤ h.n2 ∧ h.n2 ≤ 9223372036854775807
  n3 : -9223372036854775808 ≤ h.n3 ∧ h.n3 ≤ 9223372036854775807
/-- The header may be. -/
structure Hd.may (h : Hd) : Prop where
  op : 0 ≤ h.op ∧ h.op ≤ 15
  rc : 0 ≤ h.rc ∧ h.rc ≤ 15
  n0 : 0 ≤ h.n0 ∧ h.n0 ≤ 65535
  n1 : 0 ≤ h.n1 ∧ h.n1 ≤ 65535
  n2 : 0 ≤ h.n2 ∧ h.n2 ≤ 65535
  n3 : 0 ≤ h.n3 ∧ h.n3 ≤ 65535
def upTo (n m : Int) : Bool := decide (0 ≤ n) && decide (n ≤ m)
def mayB (h : Hd) : Bool := upTo h.op 15 && upTo h.rc 15 && upTo h.n0 65535 && upTo h.n1 65535 && upTo h.n2 65535 && upTo h.n3 65535
/-- Check's error. -/
def chkH (h : Hd) : Nat := if mayB h then 0 else 2
theorem upTo_yes {n m : Int} : upTo n m = true ↔ 0 ≤ n ∧ n ≤ m := by simp [upTo]
theorem mayB_yes {h : Hd} : mayB h = true ↔ h.may := by
  simp only [mayB, Bool.and_eq_true, upTo_yes]
  exact ⟨fun ⟨⟨⟨⟨⟨a, b⟩, c⟩, d⟩, e⟩, f⟩ => ⟨a, b, c, d, e, f⟩, fun ⟨a, b, c, d, e, f⟩ => ⟨⟨⟨⟨⟨a, b⟩, c⟩, d⟩, e⟩, f⟩⟩
theorem chkH_ok {h : Hd} (m : h.may) : chkH h = 0 := by unfold chkH; rw [if_pos (mayB_yes.2 m)]
theorem chkH_bad {h : Hd} (m : mayB h = false) : chkH h = 2 := by unfold chkH; rw [m]; rfl
theorem chkH_zero {h : Hd} : chkH h = 0 ↔ h.may := by
  unfold chkH
  rcases hb : mayB h with _ | _
  · exact ⟨fun e => by simp at e, fun m => by rw [mayB_yes.2 m] at hb; cases hb⟩
  · exact ⟨fun _ => mayB_yes.1 hb, fun _ => rfl⟩

/-! ### The flags' word -/
def fl (b : Bool) (m : Nat) : Nat := if b then m else 0
/-- The word behind k flags. -/
def fW (h : Hd) : Nat → Nat
  | 0 => 2048 * h.op.toNat + h.rc.toNat
  | 1 => fl h.re 32768 + 2048 * h.op.toNat + h.rc.toNat
  | 2 => fl h.re 32768 + 2048 * h.op.toNat + fl h.aa 1024 + h.rc.toNat
  | 3 => fl h.re 32768 + 2048 * h.op.toNat + fl h.aa 1024 + fl h.tc 512 + h.rc.toNat
  | 4 => fl h.re 32768 + 2048 * h.op.toNat + fl h.aa 1024 + fl h.tc 512 + fl h.rd 256 + h.rc.toNat
  | 5 => fl h.re 32768 + 2048 * h.op.toNat + fl h.aa 1024 + fl h.tc 512 + fl h.rd 256 + fl h.ra 128 + h.rc.toNat
  | 6 => fl h.re 32768 + 2048 * h.op.toNat + fl h.aa 1024 + fl h.tc 512 + fl h.rd 256 + fl h.ra 128 + fl h.ad 32 + h.rc.toNat
  | _ => fl h.re 32768 + 2048 * h.op.toNat + fl h.aa 1024 + fl h.tc 512 + fl h.rd 256 + fl h.ra 128 + fl h.ad 32 + fl h.cd 16 + h.rc.toNat
abbrev fwd (h : Hd) : Nat := fW h 7
def mk : Nat → Nat
  | 0 => 32768
  | 1 => 1024
  | 2 => 512
  | 3 => 256
  | 4 => 128
  | 5 => 32
  | _ => 16
def bt_ (h : Hd) : Nat → Bool
  | 0 => h.re
  | 1 => h.aa
  | 2 => h.tc
  | 3 => h.rd
  | 4 => h.ra
  | 5 => h.ad
  | _ => h.cd
theorem or_bit (a b i : Nat) (hb : b < 2 ^ i) : (a * 2 ^ (i + 1) + b) ||| 2 ^ i = a * 2 ^ (i + 1) + (2 ^ i + b) := by
  have h2 : 2 ^ (i + 1) = 2 * 2 ^ i := by rw [Nat.pow_succ]; omega
  have h1 := Nat.shiftLeft_add_eq_or_of_lt (show b < 2 ^ (i + 1) by omega) a
  have h3 := Nat.shiftLeft_add_eq_or_of_lt (show 2 ^ i + b < 2 ^ (i + 1) by omega) a
  have h4 := Nat.shiftLeft_add_eq_or_of_lt hb 1
  rw [Nat.shiftLeft_eq] at h1 h3 h4
  rw [Nat.one_mul] at h4
  rw [h1, h3, h4, Nat.or_assoc, Nat.or_comm b]
theorem fl_le (b : Bool) (m : Nat) : fl b m ≤ m := by unfold fl; split <;> omega
theorem fW_lt {h : Hd} (m : h.may) (k : Nat) : fW h k < 65536 := by
  obtain ⟨⟨_, _⟩, ⟨_, _⟩, _⟩ := m
  have := fl_le h.re 32768; have := fl_le h.aa 1024; have := fl_le h.tc 512; have := fl_le h.rd 256; have := fl_le h.ra 128; have := fl_le h.ad 32; have := fl_le h.cd 16
  unfold fW
  split <;> omega
theorem or_at {x a b i : Nat} (hx : x = a * 2 ^ (i + 1) + b) (hb : b < 2 ^ i) : x ||| 2 ^ i = x + 2 ^ i := by rw [hx, or_bit a b i hb]; omega
theorem fW_or {h : Hd} (m : h.may) : ∀ k, k < 7 → bt_ h k = true → fW h k ||| mk k = fW h (k + 1) := by
  obtain ⟨⟨o1, o2⟩, ⟨r1, r2⟩, _⟩ := m
  obtain ⟨o, ho⟩ := Int.eq_ofNat_of_zero_le o1
  obtain ⟨r, hr⟩ := Int.eq_ofNat_of_zero_le r1
  have e1 : h.op.toNat = o := by omega
  have e2 : h.rc.toNat = r := by omega
  have l1 := fl_le h.re 32768; have l2 := fl_le h.aa 1024; have l3 := fl_le h.tc 512; have l4 := fl_le h.rd 256; have l5 := fl_le h.ra 128; have l6 := fl_le h.ad 32; have l7 := fl_le h.cd 16
  intro k hk hb
  obtain rfl | rfl | rfl | rfl | rfl | rfl | rfl : k = 0 ∨ k = 1 ∨ k = 2 ∨ k = 3 ∨ k = 4 ∨ k = 5 ∨ k = 6 := by omega
  · have hb' : fl h.re 32768 = 32768 := by unfold fl; rw [show h.re = true from hb]; rfl
    simp only [fW, mk, e1, e2, hb']
    rw [show 2048 * o + r ||| 32768 = 2048 * o + r ||| 2 ^ 15 from rfl, or_at (a := 0) (b := 2048 * o + r) (i := 15) (by omega) (by omega)]; omega
  · have hb' : fl h.aa 1024 = 1024 := by unfold fl; rw [show h.aa = true from hb]; rfl
    simp only [fW, mk, e1, e2, hb']
    rw [show (1024 : Nat) = 2 ^ 10 from rfl, or_at (a := (fl h.re 32768 + 2048 * o) / 2048) (b := r) (i := 10) (by unfold fl; split <;> omega) (by omega)]; omega
  · have hb' : fl h.tc 512 = 512 := by unfold fl; rw [show h.tc = true from hb]; rfl
    simp only [fW, mk, e1, e2, hb']
    rw [show (512 : Nat) = 2 ^ 9 from rfl, or_at (a := (fl h.re 32768 + 2048 * o + fl h.aa 1024) / 1024) (b := r) (i := 9) (by unfold fl; split <;> split <;> omega) (by omega)]; omega
  · have hb' : fl h.rd 256 = 256 := by unfold fl; rw [show h.rd = true from hb]; rfl
    simp only [fW, mk, e1, e2, hb']
    rw [show (256 : Nat) = 2 ^ 8 from rfl, or_at (a := (fl h.re 32768 + 2048 * o + fl h.aa 1024 + fl h.tc 512) / 512) (b := r) (i := 8) (by unfold fl; split <;> split <;> split <;> omega) (by omega)]; omega
  · have hb' : fl h.ra 128 = 128 := by unfold fl; rw [show h.ra = true from hb]; rfl
    simp only [fW, mk, e1, e2, hb']
    rw [show (128 : Nat) = 2 ^ 7 from rfl, or_at (a := (fl h.re 32768 + 2048 * o + fl h.aa 1024 + fl h.tc 512 + fl h.rd 256) / 256) (b := r) (i := 7) (by unfold fl; split <;> split <;> split <;> split <;> omega) (by omega)]; omega
  · have hb' : fl h.ad 32 = 32 := by unfold fl; rw [show h.ad = true from hb]; rfl
    simp only [fW, mk, e1, e2, hb']
    rw [show (32 : Nat) = 2 ^ 5 from rfl, or_at (a := (fl h.re 32768 + 2048 * o + fl h.aa 1024 + fl h.tc 512 + fl h.rd 256 + fl h.ra 128) / 64) (b := r) (i := 5) (by unfold fl; split <;> split <;> split <;> split <;> split <;> omega) (by omega)]; omega
  · have hb' : fl h.cd 16 = 16 := by unfold fl; rw [show h.cd = true from hb]; rfl
    simp only [fW, mk, e1, e2, hb']
    rw [show (16 : Nat) = 2 ^ 4 from rfl, or_at (a := (fl h.re 32768 + 2048 * o + fl h.aa 1024 + fl h.tc 512 + fl h.rd 256 + fl h.ra 128 + fl h.ad 32) / 32) (b := r) (i := 4) (by unfold fl; split <;> split <;> split <;> split <;> split <;> split <;> omega) (by omega)]; omega
theorem fW_no {h : Hd} : ∀ k, k < 7 → bt_ h k = false → fW h k = fW h (k + 1) := by
  intro k hk hb
  obtain rfl | rfl | rfl | rfl | rfl | rfl | rfl : k = 0 ∨ k = 1 ∨ k = 2 ∨ k = 3 ∨ k = 4 ∨ k = 5 ∨ k = 6 := by omega
  all_goals
    simp only [bt_] at hb
    simp only [fW, hb, fl]
    simp
/-- The header that words tell. -/
def bit (f m : Nat) : Bool := decide (f / m % 2 = 1)
def ofW (i f a b c d : Nat) : Hd := ⟨i, bit f 32768, ((f / 2048 % 16 : Nat) : Int), bit f 1024, bit f 512, bit f 256, bit f 128, bit f 32, bit f 16, ((f % 16 : Nat) : Int), a, b, c, d⟩
theorem fl_bit (f m : Nat) : fl (bit f m) m = m * (f / m % 2) := by
  unfold fl bit
  rcases Nat.mod_two_eq_zero_or_one (f / m) with h | h
  · rw [h]; simp
  · rw [h]; simp
/-- What was told is put again. -/
theorem fwd_ofW (i f a b c d : Nat) (hf : f < 65536) (h6 : f / 64 % 2 = 0) : fwd (ofW i f a b c d) = f := by
  simp only [fwd, fW, ofW, fl_bit, Int.toNat_natCast]
  have h1 : f = 16 * (f / 16) + f % 16 := by omega
  have h2 : f / 16 = 2 * (f / 32) + f / 16 % 2 := by omega
  have h3 : f / 32 = 2 * (f / 64) + f / 32 % 2 := by omega
  have h4 : f / 64 = 2 * (f / 128) := by omega
  have h5 : f / 128 = 2 * (f / 256) + f / 128 % 2 := by omega
  have h7 : f / 256 = 2 * (f / 512) + f / 256 % 2 := by omega
  have h8 : f / 512 = 2 * (f / 1024) + f / 512 % 2 := by omega
  have h9 : f / 1024 = 2 * (f / 2048) + f / 1024 % 2 := by omega
  have h10 : f / 2048 = 16 * (f / 32768) + f / 2048 % 16 := by omega
  have h11 : f / 32768 % 2 = f / 32768 := by omega
  generalize f / 16 % 2 = a1 at *
  generalize f / 32 % 2 = a2 at *
  generalize f / 128 % 2 = a3 at *
  generalize f / 256 % 2 = a4 at *
  generalize f / 512 % 2 = a5 at *
  generalize f / 1024 % 2 = a6 at *
  generalize f / 2048 % 16 = a7 at *
  generalize f / 32768 % 2 = a8 at *
  generalize f / 32768 = c8 at *
  generalize f / 2048 = c7 at *
  generalize f / 1024 = c6 at *
  generalize f / 512 = c5 at *
  generalize f / 256 = c4 at *
  generalize f / 128 = c3 at *
  generalize f / 64 = c2 at *
  generalize f / 32 = c1 at *
  generalize f / 16 = c0 at *
  generalize f % 16 = r at *
  omega
theorem ofW_may {i f a b c d : Nat} (ha : a < 65536) (hb : b < 65536) (hc : c < 65536) (hd : d < 65536) : (ofW i f a b c d).may := by
  refine ⟨?_, ?_, ?_, ?_, ?_, ?_⟩ <;> simp only [ofW] <;> omega
/-- The words of a header, in their order. -/
def wds (h : Hd) : List Nat := [h.id, fwd h, h.n0.toNat, h.n1.toNat, h.n2.toNat, h.n3.toNat]
/-- Its octets. -/
def ocH (h : Hd) : List UInt8 := octs h.id 2 ++ octs (fwd h) 2 ++ octs h.n0.toNat 2 ++ octs h.n1.toNat 2 ++ octs h.n2.toNat 2 ++ octs h.n3.toNat 2
theorem ocH_length (h : Hd) : (ocH h).length = 12 := by simp [ocH, octs_length]
def noH : Hd := ⟨0, false, 0, false, false, false, false, false, false, 0, 0, 0, 0, 0⟩
/-- The word at place k of octets. -/
def wdAt (l : List UInt8) (k : Nat) : Nat := num ((l.drop (2 * k)).take 2)
/-- What Read answers. -/
def rdE (l : List UInt8) : Nat := if l.length < 12 then 8 else if wdAt l 1 / 64 % 2 = 1 then 4 else 0
def rdV (l : List UInt8) : Hd := if rdE l = 0 then ofW (wdAt l 0) (wdAt l 1) (wdAt l 2) (wdAt l 3) (wdAt l 4) (wdAt l 5) else noH
/-- What Put answers. -/
def ptV (h : Hd) : List UInt8 := if mayB h then ocH h else []
theorem wdAt_lt (l : List UInt8) (k : Nat) : wdAt l k < 65536 := by
  have h := num_lt ((l.drop (2 * k)).take 2)
  have h2 : ((l.drop (2 * k)).take 2).length ≤ 2 := List.length_take_le _ _
  have := Nat.pow_le_pow_right (n := 256) (by omega) h2
  unfold wdAt
  omega
end Go.Proofs.YtadeflehdfmilaaGreat
