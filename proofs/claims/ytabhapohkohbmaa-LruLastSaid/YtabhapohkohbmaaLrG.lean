/-
  What a list has, as a row of keys with their values: snapshot. Condition: at most 2^40 keys.
-/
import Derived.Test.YtabhapohkohbmaaLrF
import Derived.Deep.MidRow
import Derived.Deep.AppendLies
import Derived.Deep.RegionLaw
namespace Go.Proofs.Ytabhapohkohbmaa
open Go.RowKit Go.Maps
set_option linter.unusedVariables false
set_option linter.unusedSimpArgs false

def csP (x : ByteArray × Int) : List Value := [.string x.1, .int .i64 x.2]
def allP (R : Rw) : List Value := R.flatMap csP
theorem allP_snoc (R : Rw) (x : ByteArray × Int) : allP (R ++ [x]) = allP R ++ csP x := by simp [allP]
/-- The call owns the row. -/
def OwnP (w : World) (base : Nat) (v : Value) (R : Rw) : Prop := w.ownsRow base 96 2 v R.length (allP R)
def lenV : Value → Nat
  | .slice _ n _ => n
  | _ => 0
theorem OwnP.lenV {w : World} {base : Nat} {v : Value} {R : Rw} (h : OwnP w base v R) : lenV v = R.length := by
  rcases h.2 with ⟨rfl, e⟩ | ⟨g, cap, cur, rfl, _⟩
  · exact e.symm
  · rfl
theorem OwnP.next {w w' : World} {base : Nat} {v : Value} {R : Rw} (h : OwnP w base v R) (hb : Below w.heap.size w w') : OwnP w' base v R := by
  obtain ⟨h1, h2⟩ := h
  refine ⟨h1, ?_⟩
  rcases h2 with h2 | ⟨g, cap, cur, e, hg, hc, r⟩
  · exact Or.inl h2
  · exact Or.inr ⟨g, cap, cur, e, hg, (hb.block g (Array.getElem?_eq_some_iff.1 hc).1).trans hc, r⟩
theorem OwnP.base {w : World} {base : Nat} {v : Value} {R : Rw} (h : OwnP w base v R) : ∀ j, v.ownBlock = some j → base ≤ j := by
  intro j hj
  rcases h.2 with ⟨rfl, _⟩ | ⟨g, cap, cur, rfl, hg, _⟩
  · cases hj
  · obtain rfl : g = j := by simpa [Value.ownBlock] using hj
    exact hg
theorem csP_one (x : ByteArray × Int) : ∀ u ∈ csP x, u.oneCell' = true := by
  intro u hu
  simp only [csP, List.mem_cons, List.not_mem_nil, or_false] at hu
  rcases hu with rfl | rfl <;> rfl
theorem csP_at {w : World} {g : Nat} {t : TypeId} {x : ByteArray × Int} (h : Lies w g t #[.string x.1, .int .i64 x.2]) : ∀ j u, (csP x)[j]? = some u → w.cell? ((⟨g, 0, none⟩ : Addr).add j) = some u := by
  intro j u hu
  rw [Addr.add_mid, Nat.zero_add, h.cell j, ← hu]
  simp [csP]
theorem infoP : (Try.prog.info? 96).map (fun i => (i.zero, i.size, decide (i.bytes ≤ 32))) = some (some (.agg #[.string ⟨#[]⟩, .int .i64 (0 : Int)]), 2, true) := by kernel_rfl
theorem infoN2 : (Try.prog.info? 86).map (fun i => i.size) = some 4 := by kernel_rfl
def nxt (b : Nat) : List Nd → Nat
  | [] => b
  | x :: _ => x.g
theorem nxt_nil (b : Nat) : nxt b [] = b := rfl
theorem nxt_cons (b : Nat) (x : Nd) (r : List Nd) : nxt b (x :: r) = x.g := rfl
section
variable {w w' : World} {p mst m b : Nat} {A B : Nat → Nat} {E : List (Value × Value)} {M L P Q : List Nd} {x : Nd} {T : Nat → Prop} {R : Rw}
theorem neqN {a c : Nat} {ca cc : Array Value} (ha : Lies w a 86 ca) (hc : Lies w c 86 cc) (hne : a ≠ c) : (binOp .neq 80 (.pointer (some ⟨a, 0, none⟩)) (.pointer (some ⟨c, 0, none⟩))).run Try.prog w = .ok (.bool true) w := by
  obtain ⟨j, hj, hs⟩ := Option.map_eq_some_iff.1 infoN2
  exact run_neq_other w Try.underlying80 hj (by rw [hs]; decide) (fun e => hne (by injection e)) ha hc
theorem neqS (w : World) (a : Nat) : (binOp .neq 80 (.pointer (some ⟨a, 0, none⟩)) (.pointer (some ⟨a, 0, none⟩))).run Try.prog w = .ok (.bool false) w := by
  obtain ⟨j, hj, hs⟩ := Option.map_eq_some_iff.1 infoN2
  exact run_neq_same w _ Try.underlying80 hj
theorem snapshot_nil (w : World) : Calls Try.prog 52 #[.pointer none] w fun e w' => e = .returned (.slice none 0 0) ∧ w = w' := by
  go_enter Try.func52, Try.ntmps52
  go_wp2_with (go_at_call 44; refine (made_no _).mono ?_; rintro e w1 ⟨rfl, rfl⟩)
  go_ret
  exact ⟨rfl, rfl⟩
/-- Between two rounds: the first ones are in the row, the next one is at hand. -/
def SnRel (w : World) (b : Nat) (L : List Nd) (v3 v4 : Value) (wr : World) : Prop := ∃ P Q, L = P ++ Q ∧ v4 = .pointer (some ⟨nxt b Q, 0, none⟩) ∧ OwnP wr w.heap.size v3 (kv P) ∧ Below w.heap.size w wr
set_option maxRecDepth 100000 in
set_option maxHeartbeats 8000000 in
theorem LrX.snapshot (h : LrX w p mst m b A B (entL L) L L T) (hlen : L.length ≤ 1099511627776) : Calls Try.prog 52 #[.pointer (some ⟨p, 0, none⟩)] w fun e w' => ∃ v, e = .returned v ∧ OwnP w' w.heap.size v (kv L) ∧ Below w.heap.size w w' := by
  obtain ⟨i0, hi, hi2⟩ := Option.map_eq_some_iff.1 infoP
  simp only [Prod.mk.injEq, decide_eq_true_eq] at hi2
  obtain ⟨hz0, hz1, hz2⟩ := hi2
  have hM := Lib.hid h.made
  have H := Lib.hid h
  obtain ⟨c0, c1, c2, c3⟩ := h.cells
  have hln := h.mp.len Try.underlying79 3
  rw [show (entL L).length = L.length by simp [entL]] at hln
  have hb : ∃ y : Nat, w.cell? ⟨b, 3, none⟩ = some (.pointer (some ⟨nxt b L, 0, none⟩)) := by
    have := (h.nds (bgn b) List.mem_cons_self).cell 3
    have h2 : B b = nxt b L := by
      have h1 := h.ring.ch
      cases L with
      | nil => exact h1.1
      | cons x r => exact h1.1
    exact ⟨0, by simpa [ndC, bgn, h2] using this⟩
  obtain ⟨_, b3⟩ := hb
  obtain ⟨w1, hmk, hown, hg1⟩ := run_make_own (P := Try.prog) w w.heap.size 93 96 i0 _ 2 Try.underlying93 hi hz0 hz1 .i64 .i64 L.length (Nat.le_trans (Nat.mul_le_mul hz2 hlen) (by decide)) (Nat.le_trans hlen (by decide)) (Nat.le_refl _)
  have hb1 : Below w.heap.size w w1 := (Below.refl _ w).grown hg1 (Nat.le_refl _) (fun j hj => by cases hj)
  have HR0 : Hid (SnRel w b L (.slice (some ⟨w.heap.size, 0, none⟩) 0 L.length) (.pointer (some ⟨nxt b L, 0, none⟩)) w1) := Lib.hid ⟨[], L, rfl, rfl, hown, hb1⟩
  have d2 : w1.cell? ⟨p, 2, none⟩ = some (.pointer (some ⟨b, 0, none⟩)) := (h.next hb1).cells.2.2.1
  have b3' : w1.cell? ⟨b, 3, none⟩ = some (.pointer (some ⟨nxt b L, 0, none⟩)) := by
    rw [← b3]
    exact hb1.cell (p := ⟨b, 3, none⟩) (h.nds (bgn b) List.mem_cons_self).lt
  have HLn := Lib.hid hlen
  clear h hown hg1 hb1 hlen
  go_enter Try.func52, Try.ntmps52
  go_wp2_with (go_at_call 44; refine hM.out.mono ?_; rintro e w1 ⟨rfl, rfl⟩)
  clear c0 c1 c2 c3 hln b3 hmk d2 b3'
  go_loopw [3, 4] (fun v3 v4 wr => SnRel w b L v3 v4 wr) (fun v3 v4 _ => L.length - lenV v3)
  case atStart => exact HR0.out
  case round =>
    clear HR0
    obtain ⟨P, Q, hL, rfl, ho, hb⟩ := hrel
    have HO := Lib.hid ho
    have HB := Lib.hid hb
    have hn := H.out.next hb
    obtain ⟨c0, c1, c2, c3⟩ := hn.cells
    cases Q with
    | nil =>
      rw [nxt_nil]
      have hne := neqS wr b
      have hPL : P = L := by rw [hL, List.append_nil]
      rw [hPL] at HO
      clear hn ho hb hL
      go_wp2
      go_ret
      exact ⟨_, rfl, HO.out, HB.out⟩
    | cons x Q =>
      rw [nxt_cons]
      have hxL : x ∈ L := by rw [hL]; simp
      have hl := hn.nds x (List.mem_cons_of_mem _ hxL)
      have hxb : x.g ≠ b := by
        have h1 := hn.ring.nd
        rw [List.nodup_cons] at h1
        intro e
        exact h1.1 (e ▸ List.mem_map.2 ⟨x, hxL, rfl⟩)
      have hne : (binOp .neq 80 (.pointer (some ⟨x.g, 0, none⟩)) (.pointer (some ⟨b, 0, none⟩))).run Try.prog wr = .ok (.bool true) wr := neqN hl (hn.nds (bgn b) List.mem_cons_self) hxb
      have hbx : B x.g = nxt b Q := by
        have h1 := hn.ring.ch
        rw [hL, List.map_append, List.map_cons] at h1
        have h2 := (ch_split.1 h1).2
        cases Q with
        | nil => exact h2.1
        | cons z r => exact h2.1
      have hPl : P.length + 1 ≤ L.length := by rw [hL]; simp
      have HL := Lib.hid hl
      have HLL := Lib.hid hL
      have HPl := Lib.hid hPl
      have HBX := Lib.hid hbx
      have HXL := Lib.hid hxL
      clear hn ho hb hl hxb hbx hL hPl hxL
      have x0 : wr.cell? ⟨x.g, 0, none⟩ = some (.string x.k) := HL.out.cell 0
      have x1 : wr.cell? ⟨x.g, 1, none⟩ = some (.int .i64 x.v) := HL.out.cell 1
      have h63 : (kv P).length + 1 ≤ maxLen := by
        have := HPl.out
        have := HLn.out
        have e : (kv P).length = P.length := by simp [kv]
        unfold maxLen
        omega
      have hby : ((kv P).length + 1) * i0.bytes ≤ 140737488355328 := by
        have := HPl.out
        have := HLn.out
        have e : (kv P).length = P.length := by simp [kv]
        exact Nat.le_trans (Nat.mul_le_mul (by omega : (kv P).length + 1 ≤ 1099511627776) hz2) (by decide)
      have h1c := csP_one (x.k, x.v)
      have HO3 : Hid (OwnP (wr.drew.alloc (.cells #[.string x.k, .int .i64 x.v] 96)) w.heap.size u3 (kv P)) := Lib.hid (HO.out.next ((Below.refl _ wr).drew.alloc (Nat.le_refl _) _))
      have HB3 : Hid (w.heap.size ≤ (wr.drew.alloc (.cells #[.string x.k, .int .i64 x.v] 96)).heap.size) := Lib.hid (by have := HB.out.size; simp; omega)
      have HN := Lib.hid (csP_at (Lies.new wr.drew 96 #[.string x.k, .int .i64 x.v]) (x := (x.k, x.v)))
      go_upto_region 7 with (fail)
      clear c0 c1 c2 c3 hne
      go_region_law (refine step_append_lies _ rfl (.tmp 31) (.tmp 41) 93 rfl w.heap.size 96 i0 (.agg #[.string ⟨#[]⟩, .int .i64 (0 : Int)]) 2 i0.bytes Try.underlying93 hi hz0 hz1 rfl rfl (by decide) u3 (kv P).length (allP (kv P)) (by simp [Act.eval, Act.put]) HO3.out ⟨wr.drew.heap.size, 0, none⟩ 1 1 (csP (x.k, x.v)) (by simp [Act.eval, Act.put]) rfl HN.out h1c (by decide) h63 hby HB3.out (wr.drew.heap.size + 1) (by simp) ?_; intro g9 cap9 w9 hown9 hg9 hob9 hlt9)
      all_goals
        have hb9 : Below w.heap.size w w9 := ((HB.out.trans ((Below.refl _ wr).drew.mono HB.out.size)).alloc (by show w.heap.size ≤ wr.heap.size; exact HB.out.size) (.cells #[.string x.k, .int .i64 x.v] 96)).grown hg9 HB3.out (fun j hj => HO.out.base j hj)
        have x3 : w9.cell? ⟨x.g, 3, none⟩ = some (.pointer (some ⟨nxt b Q, 0, none⟩)) := by
          have := ((H.out.next hb9).nds x (List.mem_cons_of_mem _ HXL.out)).cell 3
          simpa [ndC, HBX.out] using this
        have ho9 : OwnP w9 w.heap.size (.slice (some ⟨g9, 0, none⟩) ((kv P).length + 1) cap9) (kv (P ++ [x])) := by
          have e : kv (P ++ [x]) = kv P ++ [(x.k, x.v)] := by simp [kv]
          rw [e]
          unfold OwnP
          rw [allP_snoc, List.length_append]
          exact hown9
        have HB9 := Lib.hid hb9
        have HO9 := Lib.hid ho9
        clear hb9 ho9 hown9 hg9 hob9 hlt9
        go_wp2
        go_roundw
        case rel => exact ⟨P ++ [x], Q, by rw [HLL.out]; simp, rfl, HO9.out, HB9.out⟩
        case measure =>
          have h1 := HO.out.lenV
          have h2 := HPl.out
          rw [h1]
          simp [lenV, kv] at h2 ⊢
          omega
end
end Go.Proofs.Ytabhapohkohbmaa
