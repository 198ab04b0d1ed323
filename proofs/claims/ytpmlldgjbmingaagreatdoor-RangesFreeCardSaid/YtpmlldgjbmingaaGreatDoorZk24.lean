/-
  An address' groups, and their longest run of noughts: the walks of addr.groupsOf, noughts; addresses of octets: addr.Of. Conditions: as each theorem names them.
-/
import Derived.Test.YtpmlldgjbmingaaGreatDoorZk9
import Derived.Test.YtpmlldgjbmingaaGreatDoorZk6
namespace Go.Proofs.YtpmlldgjbmingaaGreatDoor
open Go.RowKit
set_option linter.unusedVariables false

theorem pairs_len : ∀ (l : List UInt8), (pairs l).length = l.length / 2
  | [] => by simp [pairs]
  | [x] => by simp [pairs]
  | x :: y :: r => by rw [pairs, List.length_cons, pairs_len r, List.length_cons, List.length_cons]; omega
theorem pairs_get : ∀ (l : List UInt8) (k : Nat) (h : 2 * k + 1 < l.length), (pairs l)[k]? = some (l[2 * k].toNat * 256 + l[2 * k + 1].toNat)
  | [], k, h => by simp at h
  | [x], k, h => by simp at h
  | x :: y :: r, 0, h => by simp [pairs]
  | x :: y :: r, k + 1, h => by
    rw [pairs, List.getElem?_cons_succ, pairs_get r k (by simp at h; omega)]
    rfl
theorem allO_len (a : Ad) : (allO a).length = 16 := by simp [allO, octs_length]
theorem grpA_len (a : Ad) : (grpA a).length = 8 := by unfold grpA; rw [pairs_len, allO_len]
theorem pairs_lt : ∀ (l : List UInt8) (c : Nat), c ∈ pairs l → c < 65536
  | [], c, h => by simp [pairs] at h
  | [x], c, h => by simp [pairs] at h
  | x :: y :: r, c, h => by
    rw [pairs] at h
    rcases List.mem_cons.1 h with rfl | h
    · have := x.toNat_lt; have := y.toNat_lt; omega
    · exact pairs_lt r c h
theorem grpA_lt (a : Ad) : ∀ c ∈ grpA a, c < 2 ^ 16 := fun c h => pairs_lt _ c h
/-- Groups as an array holds them. -/
def gv (g : List Nat) : Value := .agg (g.map U16).toArray
/-- The groups that are filled so far. -/
def fillG (g : List Nat) (k : Nat) : List Nat := g.take k ++ List.replicate (8 - k) 0
theorem fillG_len {g : List Nat} {k : Nat} (hg : g.length = 8) (hk : k ≤ 8) : (fillG g k).length = 8 := by simp [fillG]; omega
theorem fillG_set {g : List Nat} {k : Nat} (hg : g.length = 8) (hk : k < 8) : (fillG g k).set k (g[k]'(by omega)) = fillG g (k + 1) := by
  obtain ⟨a, b, c, d, e, f, h, i, rfl⟩ : ∃ a b c d e f h i, g = [a, b, c, d, e, f, h, i] := by
    match g, hg with
    | [a, b, c, d, e, f, h, i], _ => exact ⟨a, b, c, d, e, f, h, i, rfl⟩
  obtain rfl | rfl | rfl | rfl | rfl | rfl | rfl | rfl : k = 0 ∨ k = 1 ∨ k = 2 ∨ k = 3 ∨ k = 4 ∨ k = 5 ∨ k = 6 ∨ k = 7 := by omega
  all_goals rfl
theorem infoG : (Tryz.prog.info? 68).map (·.size) = some 8 := by kernel_rfl
/-- The relation of groupsOf's loop: the array lies in block g, the octets are a row of the call's own. -/
structure GoRel (a : Ad) (w : World) (g r off cap : Nat) (i : Value) (wr : World) : Prop where
  ex : ∃ k : Nat, i = .int .i64 k ∧ k ≤ 8 ∧ Lies wr g 68 ((fillG (grpA a) k).map U16).toArray
  ar : Lies wr (w.heap.size + 1) 68 #[.int .u16 0, .int .u16 0, .int .u16 0, .int .u16 0, .int .u16 0, .int .u16 0, .int .u16 0, .int .u16 0]
  row : At B wr r off cap (allO a)
  ne : r ≠ g ∧ w.heap.size + 1 < g
  below : Below w.heap.size w wr
theorem jn2 (x y : UInt8) : jn (2 ^ 8) (nats [x, y]) = x.toNat * 256 + y.toNat := by simp [jn, nats]
theorem mid2 (l : List UInt8) (k : Nat) (h : 2 * k + 1 < l.length) : (l.drop (2 * k)).take (2 * k + 2 - 2 * k) = [l[2 * k], l[2 * k + 1]] := by
  rw [List.drop_eq_getElem_cons (by omega), List.drop_eq_getElem_cons (by omega), show 2 * k + 2 - 2 * k = 2 by omega]
  rfl
theorem grp_get (a : Ad) (k : Nat) (h : k < 8) : (grpA a)[k]'(by rw [grpA_len]; exact h) = ((allO a)[2 * k]'(by rw [allO_len]; omega)).toNat * 256 + ((allO a)[2 * k + 1]'(by rw [allO_len]; omega)).toNat := by
  have := pairs_get (allO a) k (by rw [allO_len]; omega)
  rw [List.getElem?_eq_getElem (by rw [show pairs (allO a) = grpA a from rfl, grpA_len]; exact h)] at this
  exact Option.some.inj this
theorem at_set {w : World} {r off cap g k : Nat} {l : List UInt8} {v : Value} (h : At B w r off cap l) (hne : r ≠ g) : At B (w.setCell ⟨g, k, none⟩ v) r off cap l :=
  ⟨by have := h.lt; simpa [World.setCell] using this, h.le, h.fit, fun j hj => (World.cell?_setCell_other w ⟨g, k, none⟩ ⟨r, off + j, none⟩ v (fun e => hne (by injection e with e _ _; exact e.symm))).trans (h.cell j hj)⟩
theorem eight {g : List Nat} (hg : g.length = 8) : ∃ a b c d e f h i, g = [a, b, c, d, e, f, h, i] := by
  match g, hg with
  | [a, b, c, d, e, f, h, i], _ => exact ⟨a, b, c, d, e, f, h, i, rfl⟩
theorem cells8 {w : World} {g : Nat} {t : TypeId} {a b c d e f h i : Nat} (hL : Lies w g t ([a, b, c, d, e, f, h, i].map U16).toArray) :
    w.cell? ⟨g, 0, none⟩ = some (.int .u16 a) ∧ w.cell? ⟨g, 1, none⟩ = some (.int .u16 b) ∧ w.cell? ⟨g, 2, none⟩ = some (.int .u16 c) ∧ w.cell? ⟨g, 3, none⟩ = some (.int .u16 d) ∧ w.cell? ⟨g, 4, none⟩ = some (.int .u16 e) ∧ w.cell? ⟨g, 5, none⟩ = some (.int .u16 f) ∧ w.cell? ⟨g, 6, none⟩ = some (.int .u16 h) ∧ w.cell? ⟨g, 7, none⟩ = some (.int .u16 i) :=
  ⟨hL.cell 0, hL.cell 1, hL.cell 2, hL.cell 3, hL.cell 4, hL.cell 5, hL.cell 6, hL.cell 7⟩
theorem zeros8 {w : World} {g : Nat} {t : TypeId} (hL : Lies w g t #[.int .u16 0, .int .u16 0, .int .u16 0, .int .u16 0, .int .u16 0, .int .u16 0, .int .u16 0, .int .u16 0]) :
    (w.cell? ⟨g, 0, none⟩ = some (.int .u16 0) ∧ w.cell? ⟨g, 1, none⟩ = some (.int .u16 0) ∧ w.cell? ⟨g, 2, none⟩ = some (.int .u16 0) ∧ w.cell? ⟨g, 3, none⟩ = some (.int .u16 0) ∧ w.cell? ⟨g, 4, none⟩ = some (.int .u16 0) ∧ w.cell? ⟨g, 5, none⟩ = some (.int .u16 0) ∧ w.cell? ⟨g, 6, none⟩ = some (.int .u16 0) ∧ w.cell? ⟨g, 7, none⟩ = some (.int .u16 0)) ∧
    w.frozen? ⟨g, 0, none⟩ = false ∧ w.frozen? ⟨g, 1, none⟩ = false ∧ w.frozen? ⟨g, 2, none⟩ = false ∧ w.frozen? ⟨g, 3, none⟩ = false ∧ w.frozen? ⟨g, 4, none⟩ = false ∧ w.frozen? ⟨g, 5, none⟩ = false ∧ w.frozen? ⟨g, 6, none⟩ = false ∧ w.frozen? ⟨g, 7, none⟩ = false :=
  ⟨⟨hL.cell 0, hL.cell 1, hL.cell 2, hL.cell 3, hL.cell 4, hL.cell 5, hL.cell 6, hL.cell 7⟩, hL.free 0, hL.free 1, hL.free 2, hL.free 3, hL.free 4, hL.free 5, hL.free 6, hL.free 7⟩
/-- The world behind eight stores. -/
def put8 (w : World) (g : Nat) (a b c d e f h i : Value) : World := (((((((w.setCell ⟨g, 0, none⟩ a).setCell ⟨g, 1, none⟩ b).setCell ⟨g, 2, none⟩ c).setCell ⟨g, 3, none⟩ d).setCell ⟨g, 4, none⟩ e).setCell ⟨g, 5, none⟩ f).setCell ⟨g, 6, none⟩ h).setCell ⟨g, 7, none⟩ i
theorem set8 {w : World} {g : Nat} {t : TypeId} (hL : Lies w g t #[.int .u16 0, .int .u16 0, .int .u16 0, .int .u16 0, .int .u16 0, .int .u16 0, .int .u16 0, .int .u16 0]) (a b c d e f h i : Nat) :
    Lies (put8 w g (.int .u16 a) (.int .u16 b) (.int .u16 c) (.int .u16 d) (.int .u16 e) (.int .u16 f) (.int .u16 h) (.int .u16 i)) g t ([a, b, c, d, e, f, h, i].map U16).toArray := by
  have := (((((((hL.set 0 (.int .u16 a)).set 1 (.int .u16 b)).set 2 (.int .u16 c)).set 3 (.int .u16 d)).set 4 (.int .u16 e)).set 5 (.int .u16 f)).set 6 (.int .u16 h)).set 7 (.int .u16 i)
  simpa [put8, U16] using this
theorem below8 {n g : Nat} {w w' : World} (h : Below n w w') (hg : n ≤ g) (a b c d e f k i : Value) : Below n w (put8 w' g a b c d e f k i) :=
  (((((((h.setCell (p := ⟨g, 0, none⟩) hg a).setCell (p := ⟨g, 1, none⟩) hg b).setCell (p := ⟨g, 2, none⟩) hg c).setCell (p := ⟨g, 3, none⟩) hg d).setCell (p := ⟨g, 4, none⟩) hg e).setCell (p := ⟨g, 5, none⟩) hg f).setCell (p := ⟨g, 6, none⟩) hg k).setCell (p := ⟨g, 7, none⟩) hg i
set_option maxHeartbeats 1000000 in
theorem groupsOf_any (six : Bool) (hi lo : Nat) (w : World) (h1 : hi < 18446744073709551616) (h2 : lo < 18446744073709551616) :
    Calls Tryz.prog 55 #[.agg #[.bool six, .int .u64 (hi : Int), .int .u64 (lo : Int)]] w fun e w' => e = .returned (gv (grpA (six, hi, lo))) ∧ Below w.heap.size w w' := by
  have HO := Lib.hid (fun wx => allOctets_any six hi lo wx h1 h2)
  have HJ := Lib.hid (fun (l : List UInt8) (v : Value) (wx : World) (hx : RowE B wx v l) (hl : l.length ≤ 8) => joinedB_at 8 8 rfl (.inr rfl) l v wx hx (nats_lt l) (pow256 hl))
  go_enter Tryz.func55, Tryz.ntmps55
  go_wp2_with (go_at_call 100; (with_reducible refine (HO.out _).mono ?_); rintro e w1 ⟨v1, rfl, hm1⟩; obtain ⟨r, off, cap, rfl, hat⟩ := (RowE.of_own (enc := B) hm1.1).at' (fun e => by have := congrArg List.length e; simp [octs_length] at this); have HA := Lib.hid hat; have HM1 := Lib.hid hm1; clear hm1 hat)
  have HR0 : Hid (GoRel (six, hi, lo) w w1.heap.size r off cap (.int .i64 0) (w1.alloc (.cells #[.int .u16 0, .int .u16 0, .int .u16 0, .int .u16 0, .int .u16 0, .int .u16 0, .int .u16 0, .int .u16 0] 68))) := by
    have hb0 : Below w.heap.size w ((w.alloc (.cells #[.bool six, .int .u64 (hi : Int), .int .u64 (lo : Int)] 24)).alloc (.cells #[.int .u16 0, .int .u16 0, .int .u16 0, .int .u16 0, .int .u16 0, .int .u16 0, .int .u16 0, .int .u16 0] 68)) := ((Below.refl _ _).alloc (Nat.le_refl _) _).alloc (le_alloc (Nat.le_refl _) _) _
    have hl0 := Lies.new (w.alloc (.cells #[.bool six, .int .u64 (hi : Int), .int .u64 (lo : Int)] 24)) 68 #[.int .u16 0, .int .u16 0, .int .u16 0, .int .u16 0, .int .u16 0, .int .u16 0, .int .u16 0, .int .u16 0]
    rw [size1] at hl0
    have hl1 := hl0.next HM1.out.2
    have hs := hl1.lt
    exact Lib.hid ⟨⟨0, rfl, by decide, Lies.new _ _ _⟩, hl1.alloc _, HA.out.alloc _, ⟨by have := HA.out.lt; omega, hs⟩, (hb0.trans (HM1.out.2.mono hb0.size)).alloc ((hb0.trans (HM1.out.2.mono hb0.size)).size) _⟩
  have hcap : 16 ≤ cap := by have := HA.out.le; simpa [octs_length] using this
  have hfit : cap ≤ 9223372036854775807 := by have := HA.out.fit; unfold maxLen at this; exact this
  clear HA HM1 h1 h2
  simp only [octs_length, Nat.reduceAdd]
  go_loopw [8] (fun i wr => GoRel (six, hi, lo) w w1.heap.size r off cap i wr) (fun i _ => 8 - (intOf i).toNat)
  case atStart => exact HR0.out
  case round =>
    clear HR0
    obtain ⟨⟨k, rfl, hk, hL⟩, har, hrow, hne, hb⟩ := hrel
    rcases Nat.lt_or_ge k 8 with hlt | hge
    · have HX := Lib.hid (hrow.mid (n := 2 * k) (m := 2 * k + 2) (by omega) (by rw [allO_len]; omega))
      rw [mid2 _ _ (by rw [allO_len]; omega), show 2 * k + 2 - 2 * k = 2 by omega] at HX
      have HJk := Lib.hid (HJ.out _ _ wr HX.out (by simp))
      rw [jn2, ← grp_get (six, hi, lo) k hlt] at HJk
      have hgl := grpA_lt (six, hi, lo) _ (List.getElem_mem (show k < (grpA (six, hi, lo)).length by rw [grpA_len]; exact hlt))
      have HF := Lib.hid (fillG_set (grpA_len (six, hi, lo)) hlt)
      obtain ⟨gk, hgk⟩ : ∃ gk, gk = (grpA (six, hi, lo))[k]'(by rw [grpA_len]; exact hlt) := ⟨_, rfl⟩
      rw [← hgk] at HJk HF hgl
      clear hgk
      have hgl' : gk < 65536 := hgl
      clear hgl
      have HL := Lib.hid hL
      have HN := Lib.hid hne
      have HAr := Lib.hid har
      have HRow := Lib.hid hrow
      have HB := Lib.hid hb
      have hfl := fillG_len (g := grpA (six, hi, lo)) (grpA_len _) hk
      obtain ⟨u, hcell⟩ : ∃ u, wr.cell? ⟨w1.heap.size, k, none⟩ = some u := ⟨_, by rw [hL.cell k, List.getElem?_toArray, List.getElem?_map, List.getElem?_eq_getElem (by omega)]; rfl⟩
      have hfr := hL.free k
      clear hfl hL hne har hrow hb
      go_wp2_with (go_at_call 101; (with_reducible refine HJk.out.mono ?_); rintro e w' ⟨rfl, rfl⟩)
      go_roundw
      case rel =>
        have hs := HL.out.set k (.int .u16 gk)
        have e : ((fillG (grpA (six, hi, lo)) k).map U16).toArray.setIfInBounds k (.int .u16 gk) = ((fillG (grpA (six, hi, lo)) (k + 1)).map U16).toArray := by
          rw [← HF.out, List.map_set]
          simp [U16]
        rw [e] at hs
        exact ⟨⟨k + 1, by go_num, by omega, hs⟩, (heap_setCell_other wr ⟨w1.heap.size, k, none⟩ _ _ (by have := HN.out.2; show w.heap.size + 1 ≠ w1.heap.size; omega)).trans HAr.out, at_set HRow.out HN.out.1, HN.out, HB.out.setCell (p := ⟨w1.heap.size, k, none⟩) (by have := HN.out.2; show w.heap.size ≤ w1.heap.size; omega) _⟩
      case measure => simp [intOf]; omega
    · obtain rfl : k = 8 := by omega
      have e8 : fillG (grpA (six, hi, lo)) 8 = grpA (six, hi, lo) := by simp [fillG, List.take_of_length_le, grpA_len]
      rw [e8] at hL
      obtain ⟨a, b, c, d, e, f, h, i, hg⟩ := eight (grpA_len (six, hi, lo))
      rw [hg] at hL
      have HG := Lib.hid hg
      have HAr := Lib.hid har
      have HB := Lib.hid hb
      obtain ⟨c0, c1, c2, c3, c4, c5, c6, c7⟩ := cells8 hL
      obtain ⟨⟨d0, d1, d2, d3, d4, d5, d6, d7⟩, f0, f1, f2, f3, f4, f5, f6, f7⟩ := zeros8 har
      clear e8 hg hL har hb hne hrow
      go_wp2
      have hS := set8 HAr.out a b c d e f h i
      rw [← HG.out] at hS
      unfold put8 at hS
      refine bodyPost_ret (v := gv (grpA (six, hi, lo))) (results_cell_row rfl _ _ (w.heap.size + 1) 68 _ (0, 0) _ rfl hS Tryz.underlying68 rfl infoG) rfl ?_
      exact ⟨rfl, below8 HB.out (Nat.le_succ _) _ _ _ _ _ _ _ _⟩
end Go.Proofs.YtpmlldgjbmingaaGreatDoor
