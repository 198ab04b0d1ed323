/-
  Addresses of octets, and their octets: the walks of addr.elder, newer, Four, Check, allOctets, octetsOf, Octets, Of. Conditions: as each theorem names them.
-/
import Derived.Test.YtbbglpjhblhkdaaGreatAdKit
import Derived.Laws.ResultCell
import Derived.Laws.Rows
namespace Go.Proofs.YtbbglpjhblhkdaaGreat
open Go.RowKit
set_option linter.unusedVariables false

theorem nats_length (l : List UInt8) : (nats l).length = l.length := by simp [nats]
theorem nats_take (l : List UInt8) (n : Nat) : (nats l).take n = nats (l.take n) := by simp [nats, List.map_take]
theorem nats_drop (l : List UInt8) (n : Nat) : (nats l).drop n = nats (l.drop n) := by simp [nats, List.map_drop]
theorem nats_lt (l : List UInt8) : ∀ c ∈ nats l, c < 2 ^ 8 := by
  intro c hc
  obtain ⟨b, _, rfl⟩ := List.mem_map.1 hc
  exact b.toNat_lt
theorem pow256 {n : Nat} (h : n ≤ 8) : (2 ^ 8) ^ n ≤ 18446744073709551616 := Nat.le_trans (Nat.pow_le_pow_right (by decide) h) (by decide)
theorem pow16 {n : Nat} (h : n ≤ 16) : (2 ^ 4) ^ n ≤ 18446744073709551616 := Nat.le_trans (Nat.pow_le_pow_right (by decide) h) (by decide)
theorem pow65536 {n : Nat} (h : n ≤ 4) : (2 ^ 16) ^ n ≤ 18446744073709551616 := Nat.le_trans (Nat.pow_le_pow_right (by decide) h) (by decide)

theorem infoA : (Tryz.prog.info? 27).map (·.size) = some 3 := by kernel_rfl
/-- What a function hands back that holds its address in a block. -/
theorem ret_ad {fn : Func} {p : Tmp} (h : fn.results = #[.cell p 27]) (tmps : Array Value) (w : World) (g : Nat) (a : Ad) (hp : tmps.getD p undef = .pointer (some ⟨g, 0, none⟩))
    (hg : Lies w g 27 #[.bool a.1, .int .u64 (a.2.1 : Int), .int .u64 (a.2.2 : Int)]) : (results fn tmps).run Tryz.prog w = .ok (av a) w :=
  results_cell_row h tmps w g _ _ _ _ hp hg Tryz.underlying27 rfl infoA
theorem ret_ad2 {fn : Func} {p u : Tmp} (h : fn.results = #[.cell p 27, .tmp u]) (tmps : Array Value) (w : World) (g : Nat) (a : Ad) (hp : tmps.getD p undef = .pointer (some ⟨g, 0, none⟩))
    (hg : Lies w g 27 #[.bool a.1, .int .u64 (a.2.1 : Int), .int .u64 (a.2.2 : Int)]) : (results fn tmps).run Tryz.prog w = .ok (.tuple #[av a, tmps.getD u undef]) w := by
  rw [results_cell_tmp h, hp]
  simp only [asAddr, Sem.run_pure, Result.andThen_ok]
  rw [run_loadVar_row w g _ _ _ _ _ hg Tryz.underlying27 rfl infoA]
  rfl

theorem elder_any (l : List UInt8) (v : Value) (w : World) (h : RowE B w v l) (hl : l.length ≤ 8) :
    Calls Tryz.prog 174 #[v] w fun e w' => e = .returned (av (elderA (nats l))) ∧ Below w.heap.size w w' := by
  have HJ := Lib.hid (fun wx hx => joinedB_any 8 (.inr rfl) l v wx hx (nats_lt l) (pow256 hl))
  have HR := Lib.hid (fun o => h.next (w' := w.alloc o) ((Below.refl _ _).alloc (Nat.le_refl _) o))
  obtain ⟨A, cap, rfl, _⟩ := h.shape
  clear h
  go_enter Tryz.func174, Tryz.ntmps174
  go_wp2_with (go_at_call 182; refine (HJ.out _ (HR.out _)).mono ?_; rintro e w' ⟨rfl, rfl⟩)
  refine bodyPost_ret (ret_ad rfl _ _ w.heap.size (elderA (nats l)) rfl (Lies.new _ _ _)) rfl ?_
  exact ⟨rfl, (Below.refl _ _).alloc (Nat.le_refl _) _⟩

theorem size1 (w : World) (o : Obj) : (w.alloc o).heap.size = w.heap.size + 1 := by simp
/-- A literal row behind a block of another kind. -/
theorem lit_row {α : Type} {enc : α → Value} (w : World) (o : Obj) (t : TypeId) (cs : Array Value) (L : List α) (hl : cs.toList = L.map enc) (hm : L.length ≤ maxLen) :
    RowE enc ((w.alloc o).alloc (.cells cs t)) (.slice (some ⟨w.heap.size + 1, 0, none⟩) L.length L.length) L := by
  have h := (At.of_lies (enc := enc) (Lies.new (w.alloc o) t cs) hl hm).row
  rw [size1] at h
  exact h
/-- A block that bears an address. -/
def AdB (w : World) (g : Nat) (six : Bool) (hi lo : Int) : Prop := Lies w g 27 #[.bool six, .int .u64 hi, .int .u64 lo]
theorem AdB.facts {w : World} {g : Nat} {six : Bool} {hi lo : Int} (h : AdB w g six hi lo) : (w.cell? ⟨g, 0, none⟩ = some (.bool six) ∧ w.cell? ⟨g, 1, none⟩ = some (.int .u64 hi) ∧ w.cell? ⟨g, 2, none⟩ = some (.int .u64 lo)) ∧ w.frozen? ⟨g, 0, none⟩ = false ∧ w.frozen? ⟨g, 1, none⟩ = false ∧ w.frozen? ⟨g, 2, none⟩ = false :=
  ⟨⟨Lies.cell h 0, Lies.cell h 1, Lies.cell h 2⟩, Lies.free h 0, Lies.free h 1, Lies.free h 2⟩
theorem AdB.put {w : World} {g : Nat} {six : Bool} {hi lo : Int} (h : AdB w g six hi lo) (six' : Bool) (hi' lo' : Int) : AdB (((w.setCell ⟨g, 0, none⟩ (.bool six')).setCell ⟨g, 1, none⟩ (.int .u64 hi')).setCell ⟨g, 2, none⟩ (.int .u64 lo')) g six' hi' lo' := by
  have := ((Lies.set h 0 (.bool six')).set 1 (.int .u64 hi')).set 2 (.int .u64 lo')
  simpa [AdB] using this
theorem AdB.of {w w' : World} (o : Obj) (hb : Below ((w.alloc (.cells #[.bool false, .int .u64 0, .int .u64 0] 27)).alloc o).heap.size ((w.alloc (.cells #[.bool false, .int .u64 0, .int .u64 0] 27)).alloc o) w') : AdB w' w.heap.size false 0 0 := ((Lies.new w _ _).alloc _).next hb
theorem below_dN {n : Nat} {w w' : World} (h : Below n w w') (k : Nat) : Below n w (w'.drewN k) := ⟨h.os, h.tape, h.output, h.size, h.block⟩
theorem below_fN {n k : Nat} {w w' : World} (h : Below n (w.drewN k) w') : Below n w w' := ⟨h.os, h.tape, h.output, h.size, h.block⟩
theorem put3 {n g : Nat} {w w' : World} (h : Below n w w') (hg : n ≤ g) (x y z : Value) : Below n w (((w'.setCell ⟨g, 0, none⟩ x).setCell ⟨g, 1, none⟩ y).setCell ⟨g, 2, none⟩ z) := ((h.setCell (p := ⟨g, 0, none⟩) hg x).setCell (p := ⟨g, 1, none⟩) hg y).setCell (p := ⟨g, 2, none⟩) hg z
theorem aCheck_any (six : Bool) (hi lo : Nat) (w : World) (h1 : hi < 18446744073709551616) (h2 : lo < 18446744073709551616) :
    Calls Tryz.prog 142 #[.agg #[.bool six, .int .u64 (hi : Int), .int .u64 (lo : Int)]] w fun e w' => e = .returned (.int .i64 (chkA (six, hi, lo))) ∧ Below w.heap.size w w' := by
  have hc : chkA (six, hi, lo) = if six = false ∧ (hi ≠ 0 ∨ 4294967295 < lo) then 2 else 0 := rfl
  rw [hc]
  clear hc
  cases six
  · by_cases h3 : hi = 0
    · subst h3
      by_cases h4 : 4294967295 < lo
      · rw [if_pos ⟨rfl, .inr h4⟩]
        go_enter Tryz.func142, Tryz.ntmps142
        go_wp2
        go_ret
        exact ⟨rfl, (Below.refl _ _).alloc (Nat.le_refl _) _⟩
      · rw [if_neg (by simp; omega)]
        go_enter Tryz.func142, Tryz.ntmps142
        go_wp2
        go_ret
        exact ⟨rfl, (Below.refl _ _).alloc (Nat.le_refl _) _⟩
    · rw [if_pos ⟨rfl, .inl h3⟩]
      go_enter Tryz.func142, Tryz.ntmps142
      go_wp2
      go_ret
      exact ⟨rfl, (Below.refl _ _).alloc (Nat.le_refl _) _⟩
  · rw [if_neg (by simp)]
    go_enter Tryz.func142, Tryz.ntmps142
    go_wp2
    go_ret
    exact ⟨rfl, (Below.refl _ _).alloc (Nat.le_refl _) _⟩

end Go.Proofs.YtbbglpjhblhkdaaGreat
