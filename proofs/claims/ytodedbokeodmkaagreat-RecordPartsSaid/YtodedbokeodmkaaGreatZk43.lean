/-
  Records and questions: plain mathematics: what is looked at, counted, put, read; the same. No condition beyond those that each theorem names. Records and questions: what is looked at: the walks of record.isShort, head, CheckQuestion, Check, refusal. Conditions: Go can have them. Records and questions: what is put, counted, held against one another: the walks of record.PutQuestion, Put, Size, SameQuestion, Same. Conditions: Go can have them; the packer is one. A record's cursor: the walks of its step, of begin. Condition: the octets are no longer than 2^40. A record's cursor: the walks of its short, long, end. Condition: the octets are no longer than 2^40. A question is read: the walk of record.ReadQuestion. Condition: the octets are no longer than 2^40. A record's cursor reads the data: the walks. Condition: the octets are no longer than 2^40. A record is read: the walk of record.Read. Condition: the octets are no longer than 2^40.
-/
import Derived.Test.YtodedbokeodmkaaGreatZk34
import Derived.Test.YtodedbokeodmkaaGreatZk41
import Derived.Test.YtodedbokeodmkaaGreatQui
import Derived.Laws.ResultCell
namespace Go.Proofs.YtodedbokeodmkaaGreat
open Go.RowKit
set_option linter.unusedVariables false

/-- A question. -/
structure MQ where
  n : ByteArray
  t : Int
  c : Int
/-- A record. -/
structure MR where
  n : ByteArray
  t : Int
  c : Int
  x : Nat
  d : MD
def MR.q (r : MR) : MQ := ⟨r.n, r.t, r.c⟩
def mr0 : MR := ⟨nob, 0, 0, 0, md0⟩
def mq0 : MQ := ⟨nob, 0, 0⟩
def checkQ (q : MQ) : Nat := if chkN (bs q.n) ≠ 0 then chkN (bs q.n) else if isT q.t && isT q.c then 0 else 2
def checkR (r : MR) : Nat := if checkQ r.q ≠ 0 then checkQ r.q else checkD r.t r.d
def sizeR (r : MR) : Nat := if checkR r ≠ 0 then 0 else sizeN (bs r.n) + 10 + sizeD r.t r.d
/-! ### What is put -/
/-- A call's answer, where a packer has an error, and what is to be put another. -/
def refC (f e : Nat) : Nat := if f = 1 then 1 else if e ≠ 0 then e else f
def putQ1 (M : Nat) (q : MQ) (s : PS) : PS := (nameS M s (bs q.n)).2
def putQ2 (M : Nat) (q : MQ) (s : PS) : PS := (numS M (putQ1 M q s) q.t.toNat 2).2
def putQ3 (M : Nat) (q : MQ) (s : PS) : PS := (numS M (putQ2 M q s) q.c.toNat 2).2
def putQ (M : Nat) (q : MQ) (s : PS) : Nat × PS := if refC s.f (checkQ q) ≠ 0 then (refC s.f (checkQ q), s) else ((putQ3 M q s).f, putQ3 M q s)
def putR1 (M : Nat) (r : MR) (s : PS) : PS := (putQ M r.q s).2
def putR2 (M : Nat) (r : MR) (s : PS) : PS := (numS M (putR1 M r s) r.x 4).2
def putR3 (M : Nat) (r : MR) (s : PS) : Nat × Nat × PS := beginS M (putR2 M r s)
def putR4 (M : Nat) (r : MR) (s : PS) : PS := (putD M r.t r.d (putR3 M r s).2.2).2
def putR5 (M : Nat) (r : MR) (s : PS) : PS := (endS (putR4 M r s) ((putR3 M r s).1 : Nat)).2
def putR (M : Nat) (r : MR) (s : PS) : Nat × PS := if refC s.f (checkR r) ≠ 0 then (refC s.f (checkR r), s) else ((putR5 M r s).f, putR5 M r s)

/-! ### What is read: the error, the place behind, the parts -/
structure RQ where
  e : Nat
  k : Nat
  q : MQ
structure RRec where
  e : Nat
  k : Nat
  r : MR
/-- A name, and the place behind it. -/
def rdNm (T : List UInt8) (k : Nat) : Rd :=
  if (readU T k k).f ≠ 0 then ⟨[], (readU T k k).f, k⟩ else if (seekR T k (readU T k k).e).1 ≠ 0 then ⟨(readU T k k).l, (seekR T k (readU T k k).e).1, k⟩ else ⟨(readU T k k).l, 0, (readU T k k).e⟩
def rdQ (T : List UInt8) (a : Int) : RQ :=
  if (seekR T 0 a).1 ≠ 0 then ⟨(seekR T 0 a).1, 0, mq0⟩
  else if (rdNm T (seekR T 0 a).2).e ≠ 0 then ⟨(rdNm T (seekR T 0 a).2).e, 0, mq0⟩
  else if (numR T (rdNm T (seekR T 0 a).2).k 2).e ≠ 0 then ⟨(numR T (rdNm T (seekR T 0 a).2).k 2).e, 0, mq0⟩
  else if (numR T (numR T (rdNm T (seekR T 0 a).2).k 2).k 2).e ≠ 0 then ⟨(numR T (numR T (rdNm T (seekR T 0 a).2).k 2).k 2).e, 0, mq0⟩
  else ⟨0, (numR T (numR T (rdNm T (seekR T 0 a).2).k 2).k 2).k, ⟨mkb (rdNm T (seekR T 0 a).2).s, (num (numR T (rdNm T (seekR T 0 a).2).k 2).s : Nat), (num (numR T (numR T (rdNm T (seekR T 0 a).2).k 2).k 2).s : Nat)⟩⟩
/-- What stands behind a record's class: its TTL, how many octets of data, the data. -/
def rdTail (T : List UInt8) (q : MQ) (k : Nat) : RRec :=
  if (numR T k 4).e ≠ 0 then ⟨(numR T k 4).e, 0, mr0⟩
  else if (numR T (numR T k 4).k 2).e ≠ 0 then ⟨(numR T (numR T k 4).k 2).e, 0, mr0⟩
  else if (takR T (numR T (numR T k 4).k 2).k (num (numR T (numR T k 4).k 2).s : Nat)).e ≠ 0 then ⟨(takR T (numR T (numR T k 4).k 2).k (num (numR T (numR T k 4).k 2).s : Nat)).e, 0, mr0⟩
  else if (readD T (numR T (numR T k 4).k 2).k (takR T (numR T (numR T k 4).k 2).k (num (numR T (numR T k 4).k 2).s : Nat)).k q.t).1 ≠ 0 then ⟨(readD T (numR T (numR T k 4).k 2).k (takR T (numR T (numR T k 4).k 2).k (num (numR T (numR T k 4).k 2).s : Nat)).k q.t).1, 0, mr0⟩
  else ⟨0, (takR T (numR T (numR T k 4).k 2).k (num (numR T (numR T k 4).k 2).s : Nat)).k, ⟨q.n, q.t, q.c, num (numR T k 4).s, (readD T (numR T (numR T k 4).k 2).k (takR T (numR T (numR T k 4).k 2).k (num (numR T (numR T k 4).k 2).s : Nat)).k q.t).2⟩⟩
def rdR (T : List UInt8) (a : Int) : RRec := if (rdQ T a).e ≠ 0 then ⟨(rdQ T a).e, 0, mr0⟩ else rdTail T (rdQ T a).q (rdQ T a).k

/-! ### An error that is not 1 -/
theorem numS_ne {M : Nat} {s : PS} (v : Nat) (n : Int) (h : s.f ≠ 1) : (numS M s v n).2.f ≠ 1 := by
  unfold numS numW
  simp only
  split
  · exact h
  · split
    · exact h
    · unfold putW
      split
      · exact h
      · split <;> simp
theorem putS_ne {M : Nat} {s : PS} (x : List UInt8) (h : s.f ≠ 1) : (putS M s x).2.f ≠ 1 := by
  unfold putS putW
  simp only
  split
  · exact h
  · split <;> simp
theorem keepS_f (s : PS) (r : List UInt8) (a : Nat) : (keepS s r a).f = s.f := by
  unfold keepS
  split <;> rfl
theorem nameF_ne {M : Nat} : ∀ (k : Nat) (r : List UInt8) (s : PS), s.f ≠ 1 → (nameF M k r s).2.f ≠ 1
  | 0, _, s, h => h
  | k + 1, r, s, h => by
    by_cases hr : r = []
    · subst hr
      rw [nameF_nil]
      exact putS_ne _ h
    · cases hm : s.m r with
      | some a => rw [nameF_some hr hm]; exact numS_ne _ _ h
      | none =>
        by_cases hp : (putS M s (headN r)).1 = 0
        · rw [nameF_next hr hm hp]
          refine nameF_ne k _ _ ?_
          rw [keepS_f]
          exact putS_ne _ h
        · rw [nameF_long hr hm hp]
          exact putS_ne _ h
theorem nameS_ne {M : Nat} {s : PS} (x : List UInt8) (h : s.f ≠ 1) : (nameS M s x).2.f ≠ 1 := by
  unfold nameS
  split
  · exact h
  · split
    · exact h
    · exact nameF_ne _ _ _ h
theorem putQ3_ne {M : Nat} {q : MQ} {s : PS} (h : s.f ≠ 1) : (putQ3 M q s).f ≠ 1 := numS_ne _ _ (numS_ne _ _ (nameS_ne _ h))
theorem putQ_ne {M : Nat} {q : MQ} {s : PS} (h : s.f ≠ 1) : (putQ M q s).2.f ≠ 1 := by
  unfold putQ
  split
  · exact h
  · exact putQ3_ne h
theorem beginS_ne {M : Nat} {s : PS} (h : s.f ≠ 1) : (beginS M s).2.2.f ≠ 1 := by
  unfold beginS
  split
  · exact numS_ne _ _ h
  · exact numS_ne _ _ h
theorem endS_f (s : PS) (a : Int) : (endS s a).2.f = s.f := by
  unfold endS
  split
  · rfl
  · split
    · rfl
    · split <;> rfl
theorem refC_zero {f e : Nat} (h : refC f e = 0) : f = 0 ∧ e = 0 := by
  unfold refC at h
  split at h
  · cases h
  · split at h
    · rename_i h1; exact absurd h h1
    · rename_i h1; exact ⟨h, by omega⟩
theorem checkQ_zero {q : MQ} (h : checkQ q = 0) : chkN (bs q.n) = 0 ∧ isT q.t = true ∧ isT q.c = true := by
  unfold checkQ at h
  split at h
  · rename_i h1; exact absurd h h1
  · rename_i h1
    split at h
    · rename_i h2
      rw [Bool.and_eq_true] at h2
      exact ⟨Decidable.not_not.1 h1, h2⟩
    · cases h
theorem isT_yes {t : Int} (h : isT t = true) : 0 ≤ t ∧ t ≤ 65535 := of_decide_eq_true h
theorem checkR_zero {r : MR} (h : checkR r = 0) : checkQ r.q = 0 ∧ checkD r.t r.d = 0 := by
  unfold checkR at h
  split at h
  · rename_i h1; exact absurd h h1
  · rename_i h1; exact ⟨Decidable.not_not.1 h1, h⟩
end Go.Proofs.YtodedbokeodmkaaGreat
namespace Go.Proofs.YtodedbokeodmkaaGreat
open Go.RowKit Go.Maps
set_option linter.unusedVariables false
set_option maxRecDepth 100000

abbrev cellsQ (q : MQ) : Array Value := #[.string q.n, .int .i64 q.t, .int .i64 q.c]
abbrev questV (q : MQ) : Value := .agg (cellsQ q)
abbrev cellsR (r : MR) (tv : Value) : Array Value :=
  #[.string r.n, .int .i64 r.t, .int .i64 r.c, .int .u32 (r.x : Int), .bool r.d.six, .int .u64 (r.d.hi : Int), .int .u64 (r.d.lo : Int), .string r.d.n, .string r.d.m, .int .u32 (r.d.v0 : Int), .int .u32 (r.d.v1 : Int), .int .u32 (r.d.v2 : Int), .int .u32 (r.d.v3 : Int), .int .u32 (r.d.v4 : Int), tv, .string r.d.r]
abbrev recV (r : MR) (tv : Value) : Value := .agg (cellsR r tv)
/-- A record that Go can have. -/
structure FitR (w : World) (r : MR) (tv : Value) : Prop where
  n : r.n.size ≤ maxLen
  x : r.x < 4294967296
  d : Fit w r.d tv
theorem FitR.next {w w' : World} {r : MR} {tv : Value} (h : FitR w r tv) (hb : Below w.heap.size w w') : FitR w' r tv := ⟨h.n, h.x, h.d.next hb⟩
theorem boxR (w : World) (r : MR) (tv : Value) : Below w.heap.size w (w.alloc (.cells (cellsR r tv) 32)) := (Below.refl _ _).alloc (Nat.le_refl _) _
theorem lies16 {w : World} {b : Nat} {t : TypeId} {r : MR} {tv : Value} (h : Lies w b t (cellsR r tv)) : w.cell? ⟨b, 0, none⟩ = some (.string r.n) ∧ w.cell? ⟨b, 1, none⟩ = some (.int .i64 r.t) ∧ w.cell? ⟨b, 2, none⟩ = some (.int .i64 r.c) ∧ w.cell? ⟨b, 3, none⟩ = some (.int .u32 (r.x : Int)) ∧ w.cell? ⟨b, 4, none⟩ = some (.bool r.d.six) ∧ w.cell? ⟨b, 5, none⟩ = some (.int .u64 (r.d.hi : Int)) ∧ w.cell? ⟨b, 6, none⟩ = some (.int .u64 (r.d.lo : Int)) ∧
    w.cell? ⟨b, 7, none⟩ = some (.string r.d.n) ∧ w.cell? ⟨b, 8, none⟩ = some (.string r.d.m) ∧ w.cell? ⟨b, 9, none⟩ = some (.int .u32 (r.d.v0 : Int)) ∧ w.cell? ⟨b, 10, none⟩ = some (.int .u32 (r.d.v1 : Int)) ∧ w.cell? ⟨b, 11, none⟩ = some (.int .u32 (r.d.v2 : Int)) ∧ w.cell? ⟨b, 12, none⟩ = some (.int .u32 (r.d.v3 : Int)) ∧ w.cell? ⟨b, 13, none⟩ = some (.int .u32 (r.d.v4 : Int)) ∧ w.cell? ⟨b, 14, none⟩ = some tv ∧ w.cell? ⟨b, 15, none⟩ = some (.string r.d.r) :=
  ⟨h.cell 0, h.cell 1, h.cell 2, h.cell 3, h.cell 4, h.cell 5, h.cell 6, h.cell 7, h.cell 8, h.cell 9, h.cell 10, h.cell 11, h.cell 12, h.cell 13, h.cell 14, h.cell 15⟩

theorem class_ofC (W : World) : ∃ (Ix : Type) (f : Ix → World) (i0 : Ix), W.drew = f i0 ∧ (∀ n, Below W.heap.size W (f n)) ∧ (∀ n w'', Below (f n).heap.size (f n) w'' → ∃ m, w'' = f m) :=
  ⟨{w' // Below W.heap.size W w'}, Subtype.val, ⟨W.drew, ⟨rfl, rfl, rfl, Nat.le_refl _, fun _ _ => rfl⟩⟩, rfl, fun n => n.2, fun n w'' h => ⟨⟨w'', n.2.trans (h.mono n.2.size)⟩, rfl⟩⟩
theorem isShort_any (v : Int) (w : World) : Calls Tryz.prog 82 #[.int .i64 v] w fun e w' => e = .returned (.bool (isT v)) ∧ w = w' := by
  have hc : isT v = (decide (0 ≤ v) && decide (v ≤ 65535)) := by simp [isT]
  rw [hc]
  clear hc
  by_cases h1 : 0 ≤ v
  all_goals
    go_enter Tryz.func82, Tryz.ntmps82
    go_wp2
    go_ret
    simp [h1] <;> omega
theorem infoQ : (Tryz.prog.info? 79).map (·.size) = some 3 := by kernel_rfl
theorem ret_q {fn : Func} {p : Tmp} (h : fn.results = #[.cell p 79]) (tmps : Array Value) (w : World) (g : Nat) (q : MQ) (hp : tmps.getD p undef = .pointer (some ⟨g, 0, none⟩))
    (hg : Lies w g 79 (cellsQ q)) : (results fn tmps).run Tryz.prog w = .ok (questV q) w :=
  results_cell_row h tmps w g _ _ _ _ hp hg Tryz.underlying79 rfl infoQ
theorem head_any (r : MR) (tv : Value) (w : World) (htv : ∃ A n cap, tv = Value.slice A n cap) : Calls Tryz.prog 33 #[recV r tv] w (Told w (questV r.q)) := by
  obtain ⟨A, n, cap, rfl⟩ := htv
  have HL : Hid (∀ o : Obj, Lies ((w.alloc o).alloc (.cells (cellsQ r.q) 79)) (w.heap.size + 1) 79 (cellsQ r.q)) := Lib.hid fun o => by
    have := Lies.new (w.alloc o) 79 (cellsQ r.q)
    simpa using this
  have HB : Hid (∀ o p : Obj, Below w.heap.size w ((w.alloc o).alloc p)) := Lib.hid fun o p => ((Below.refl _ _).alloc (Nat.le_refl _) o).alloc (by simp) p
  unfold recV cellsR
  go_enter Tryz.func33, Tryz.ntmps33
  go_wp2
  refine bodyPost_ret (ret_q rfl _ _ (w.heap.size + 1) r.q rfl (HL.out _)) rfl ?_
  exact ⟨rfl, HB.out _ _⟩
theorem liesQ {w : World} {b : Nat} {t : TypeId} {q : MQ} (h : Lies w b t (cellsQ q)) : w.cell? ⟨b, 0, none⟩ = some (.string q.n) ∧ w.cell? ⟨b, 1, none⟩ = some (.int .i64 q.t) ∧ w.cell? ⟨b, 2, none⟩ = some (.int .i64 q.c) := ⟨h.cell 0, h.cell 1, h.cell 2⟩
theorem boxQ (w : World) (q : MQ) : Below w.heap.size w (w.alloc (.cells (cellsQ q) 79)) := (Below.refl _ _).alloc (Nat.le_refl _) _
theorem CheckQuestion_any (q : MQ) (w : World) (hn : q.n.size ≤ maxLen) : Calls Tryz.prog 39 #[questV q] w (Told w (.int .i64 (checkQ q : Nat))) := by
  have HC := Lib.hid fun wx => nCheck_any q.n wx hn
  have HV : Hid (checkQ q = if chkN (bs q.n) ≠ 0 then chkN (bs q.n) else if isT q.t && isT q.c then 0 else 2) := Lib.hid rfl
  have HI := Lib.hid fun v wx => isShort_any v wx
  have hL : Lies (w.alloc (.cells (cellsQ q) 79)) w.heap.size 79 (cellsQ q) := Lies.new w _ _
  have HA := Lib.hid fun w' (hb : Below (w.alloc (.cells (cellsQ q) 79)).heap.size (w.alloc (.cells (cellsQ q) 79)) w') => liesQ (hL.next hb)
  have HW := Lib.hid fun w' (hb : Below (w.alloc (.cells (cellsQ q) 79)).heap.size (w.alloc (.cells (cellsQ q) 79)) w') => (boxQ w q).trans (hb.mono (boxQ w q).size)
  obtain ⟨a, ha⟩ : ∃ a, chkN (bs q.n) = a := ⟨_, rfl⟩
  obtain ⟨b, hb⟩ : ∃ a, isT q.t = a := ⟨_, rfl⟩
  obtain ⟨c, hc⟩ : ∃ a, isT q.c = a := ⟨_, rfl⟩
  have HIb := Lib.hid fun wx => hb ▸ HI.out q.t wx
  have HIc := Lib.hid fun wx => hc ▸ HI.out q.c wx
  rw [ha] at HC
  rw [ha, hb, hc] at HV
  clear ha hb hc HI hL
  unfold questV cellsQ at *
  by_cases h0 : a = 0
  · subst h0
    have hne : ((((0 : Nat) : Nat) : Int) != 0) = false := rfl
    cases b <;> cases c
    all_goals
      go_enter Tryz.func39, Tryz.ntmps39
      go_wp2_with (first | (go_at_call 81; (with_reducible refine (HC.out _).mono ?_); rintro e w1 ⟨rfl, hb1⟩; obtain ⟨x0, x1, x2⟩ := HA.out w1 hb1; have HB1 := Lib.hid hb1; clear hb1) | ((with_reducible refine (HIb.out _).mono ?_); rintro e w2 ⟨rfl, rfl⟩) | ((with_reducible refine (HIc.out _).mono ?_); rintro e w2 ⟨rfl, rfl⟩))
      go_ret
      rw [HV.out]
      exact ⟨rfl, HW.out _ HB1.out⟩
  · have hne : (((a : Nat) : Int) != 0) = true := by rw [bne_iff_ne]; omega
    go_enter Tryz.func39, Tryz.ntmps39
    go_wp2_with ((go_at_call 81; (with_reducible refine (HC.out _).mono ?_); rintro e w1 ⟨rfl, hb1⟩; have HB1 := Lib.hid hb1; clear hb1))
    go_ret
    rw [HV.out, if_pos h0]
    exact ⟨rfl, HW.out _ HB1.out⟩
set_option maxHeartbeats 1000000 in
theorem rcCheck_any (r : MR) (tv : Value) (w : World) (hf : FitR w r tv) : Calls Tryz.prog 10 #[recV r tv] w (Told w (.int .i64 (checkR r : Nat))) := by
  obtain ⟨A, cap, htv, _, _⟩ := hf.d.row.shape
  have htv' : ∃ n, tv = Value.slice A n cap := ⟨_, htv⟩
  clear htv
  obtain ⟨n, htv⟩ := htv'
  have HC := Lib.hid fun wx => CheckQuestion_any r.q wx hf.n
  have HH := Lib.hid fun wx => head_any r tv wx ⟨A, n, cap, htv⟩
  have HV : Hid (checkR r = if checkQ r.q ≠ 0 then checkQ r.q else checkD r.t r.d) := Lib.hid rfl
  obtain ⟨W, hW⟩ : ∃ W, W = w.alloc (.cells (cellsR r tv) 32) := ⟨_, rfl⟩
  have hB := boxR w r tv
  rw [← hW] at hB
  have hL : Lies W w.heap.size 32 (cellsR r tv) := by rw [hW]; exact Lies.new w _ _
  have HA := Lib.hid fun w' (hb : Below W.heap.size W w') => lies16 (hL.next hb)
  have HW := Lib.hid fun w' (hb : Below W.heap.size W w') => hB.trans (hb.mono hB.size)
  have HD := Lib.hid fun w' (hb : Below W.heap.size W w') => Check_anyD r.t r.d tv w' ((hf.d.next hB).next hb)
  obtain ⟨a, ha⟩ : ∃ a, checkQ r.q = a := ⟨_, rfl⟩
  obtain ⟨b, hb⟩ : ∃ a, checkD r.t r.d = a := ⟨_, rfl⟩
  rw [ha] at HC
  rw [hb] at HD
  rw [ha, hb] at HV
  clear ha hb hL hf hB
  subst htv
  unfold dataV cellsD recV cellsR at *
  by_cases h0 : a = 0
  · subst h0
    have hne : ((((0 : Nat) : Nat) : Int) != 0) = false := rfl
    go_enter Tryz.func10, Tryz.ntmps10
    go_wp2_with fail
    rw [← hW]
    refine (HH.out _).mono ?_
    rintro e w1 ⟨rfl, hb1⟩
    have HB1 := Lib.hid hb1
    clear hb1
    go_wp2_with ((go_at_call 39; (with_reducible refine (HC.out _).mono ?_); rintro e w2 ⟨rfl, hb⟩; have hb2 := HB1.out.trans (hb.mono HB1.out.size); obtain ⟨x0, x1, x2, x3, x4, x5, x6, x7, x8, x9, x10, x11, x12, x13, x14, x15⟩ := HA.out w2 hb2; have HB2 := Lib.hid hb2; have HD2 := Lib.hid (HD.out w2 hb2); clear hb hb2))
    refine HD2.out.mono ?_
    rintro e w3 ⟨rfl, hb⟩
    have HB3 := Lib.hid (HB2.out.trans (hb.mono HB2.out.size))
    clear hb
    go_wp2
    go_ret
    rw [HV.out]
    exact ⟨rfl, HW.out _ HB3.out⟩
  · have hne : (((a : Nat) : Int) != 0) = true := by rw [bne_iff_ne]; omega
    go_enter Tryz.func10, Tryz.ntmps10
    go_wp2_with fail
    rw [← hW]
    refine (HH.out _).mono ?_
    rintro e w1 ⟨rfl, hb1⟩
    have HB1 := Lib.hid hb1
    clear hb1
    go_wp2_with ((go_at_call 39; (with_reducible refine (HC.out _).mono ?_); rintro e w2 ⟨rfl, hb⟩; have hb2 := HB1.out.trans (hb.mono HB1.out.size); have HB2 := Lib.hid hb2; clear hb hb2))
    go_ret
    rw [HV.out, if_pos h0]
    exact ⟨rfl, HW.out _ HB2.out⟩
theorem refusal_any {base g M : Nat} {F : Nat → Prop} {s : PS} (c : Nat) (w : World) (hp : PK w base F g M s) : Calls Tryz.prog 31 #[pp g, .int .i64 (c : Int)] w fun e w' => e = .returned (.int .i64 (refC s.f c : Nat)) ∧ w = w' := by
  have HE := Lib.hid (pErr_any hp)
  have HV : Hid (refC s.f c = if s.f = 1 then 1 else if c ≠ 0 then c else s.f) := Lib.hid rfl
  obtain ⟨a, ha⟩ : ∃ a, s.f = a := ⟨_, rfl⟩
  rw [ha] at HE HV ⊢
  clear ha hp
  by_cases h1 : a = 1
  · subst h1
    go_enter Tryz.func31, Tryz.ntmps31
    go_wp2_with ((go_at_call 38; (with_reducible refine HE.out.mono ?_); rintro e w1 ⟨rfl, rfl⟩))
    go_ret
    rw [HV.out]
    exact ⟨rfl, rfl⟩
  · have hn1 : (((a : Nat) : Int) == 1) = false := by rw [beq_eq_false_iff_ne]; omega
    by_cases h0 : c = 0
    · subst h0
      go_enter Tryz.func31, Tryz.ntmps31
      go_wp2_with ((go_at_call 38; (with_reducible refine HE.out.mono ?_); rintro e w1 ⟨rfl, rfl⟩))
      go_ret
      rw [HV.out, if_neg h1]
      exact ⟨rfl, rfl⟩
    · have hne : (((c : Nat) : Int) != 0) = true := by rw [bne_iff_ne]; omega
      go_enter Tryz.func31, Tryz.ntmps31
      go_wp2_with ((go_at_call 38; (with_reducible refine HE.out.mono ?_); rintro e w1 ⟨rfl, rfl⟩))
      go_ret
      rw [HV.out, if_neg h1, if_pos h0]
      exact ⟨rfl, rfl⟩
end Go.Proofs.YtodedbokeodmkaaGreat
namespace Go.Proofs.YtodedbokeodmkaaGreat
open Go.RowKit Go.Maps
set_option linter.unusedVariables false
set_option maxRecDepth 100000

theorem u32_in {n : Nat} (h : n < 4294967296) : ((n : Nat) : Int) % 4294967296 = (n : Int) := by omega
set_option maxHeartbeats 1000000 in
theorem rcPutQ_any {base g M : Nat} {F : Nat → Prop} {s : PS} (q : MQ) (w : World) (hp : PK w base F g M s) (hn : q.n.size ≤ maxLen) :
    Calls Tryz.prog 32 #[pp g, questV q] w (Pkr w base F g M (putQ M q s).2 (.int .i64 ((putQ M q s).1 : Nat))) := by
  obtain ⟨W, hW⟩ : ∃ W, W = w.alloc (.cells (cellsQ q) 79) := ⟨_, rfl⟩
  have hB := boxQ w q
  rw [← hW] at hB
  have hL : Lies W w.heap.size 79 (cellsQ q) := by rw [hW]; exact Lies.new w _ _
  have hd : ¬ F w.heap.size := fun hx => by have := (hp.lt hx).2; omega
  have hpW := hp.next hB
  have HKW := Lib.hid (Kf.of_below (base := base) (F := F) hB hp.base_le)
  have HA := Lib.hid fun wx F' (hk : Kf base F F' W wx) => (⟨cell_kf hk hL.lt hd (hL.cell 0), cell_kf hk hL.lt hd (hL.cell 1), cell_kf hk hL.lt hd (hL.cell 2)⟩ : wx.cell? ⟨w.heap.size, 0, none⟩ = some (.string q.n) ∧ wx.cell? ⟨w.heap.size, 1, none⟩ = some (.int .i64 q.t) ∧ wx.cell? ⟨w.heap.size, 2, none⟩ = some (.int .i64 q.c))
  have HC := Lib.hid fun wx => CheckQuestion_any q wx hn
  have HP := Lib.hid fun wx (hb : Below W.heap.size W wx) => hpW.next hb
  have HKB := Lib.hid fun wx (hb : Below W.heap.size W wx) => Kf.of_below (base := base) (F := F) hb hpW.base_le
  by_cases hz : refC s.f (checkQ q) = 0
  · have HV : Hid (putQ M q s = ((putQ3 M q s).f, putQ3 M q s)) := Lib.hid (by unfold putQ; rw [if_neg (fun h => h hz)])
    obtain ⟨hf, hc⟩ := refC_zero hz
    obtain ⟨_, ht, hcl⟩ := checkQ_zero hc
    obtain ⟨t1, t2⟩ := isT_yes ht
    obtain ⟨c1, c2⟩ := isT_yes hcl
    obtain ⟨qn, qt, qc⟩ := q
    simp only at t1 t2 c1 c2
    obtain ⟨tn, rfl⟩ := Int.eq_ofNat_of_zero_le t1
    obtain ⟨cn, rfl⟩ := Int.eq_ofNat_of_zero_le c1
    have ut := u32_in (n := tn) (by omega)
    have uc := u32_in (n := cn) (by omega)
    have HRf := Lib.hid fun wx (hx : PK wx base F g M s) => hz ▸ refusal_any (checkQ ⟨qn, tn, cn⟩) wx hx
    have H1 := Lib.hid fun wx F' (hx : PK wx base F' g M s) => pName_any hx qn hn
    have H2 := Lib.hid fun wx F' (hx : PK wx base F' g M (putQ1 M ⟨qn, tn, cn⟩ s)) => pNumber_any hx tn 2 (by omega)
    have H3 := Lib.hid fun wx F' (hx : PK wx base F' g M (putQ2 M ⟨qn, tn, cn⟩ s)) => pNumber_any hx cn 2 (by omega)
    rw [show (numS M (putQ1 M ⟨qn, tn, cn⟩ s) tn 2).2 = putQ2 M ⟨qn, tn, cn⟩ s from rfl] at H2
    rw [show (numS M (putQ2 M ⟨qn, tn, cn⟩ s) cn 2).2 = putQ3 M ⟨qn, tn, cn⟩ s from rfl] at H3
    rw [show (nameS M s (bs qn)).2 = putQ1 M ⟨qn, tn, cn⟩ s from rfl] at H1
    have H4 := Lib.hid fun wx F' (hx : PK wx base F' g M (putQ3 M ⟨qn, tn, cn⟩ s)) => pErr_any hx
    obtain ⟨s1, hs1⟩ : ∃ x, putQ1 M ⟨qn, tn, cn⟩ s = x := ⟨_, rfl⟩
    obtain ⟨s2, hs2⟩ : ∃ x, putQ2 M ⟨qn, tn, cn⟩ s = x := ⟨_, rfl⟩
    obtain ⟨s3, hs3⟩ : ∃ x, putQ3 M ⟨qn, tn, cn⟩ s = x := ⟨_, rfl⟩
    obtain ⟨e1, he1⟩ : ∃ x, (nameS M s (bs qn)).1 = x := ⟨_, rfl⟩
    obtain ⟨e2, he2⟩ : ∃ x, (numS M s1 tn 2).1 = x := ⟨_, rfl⟩
    obtain ⟨e3, he3⟩ : ∃ x, (numS M s2 cn 2).1 = x := ⟨_, rfl⟩
    obtain ⟨ck, hck⟩ : ∃ x, checkQ ⟨qn, tn, cn⟩ = x := ⟨_, rfl⟩
    rw [hs1, he1] at H1
    rw [hs1, hs2, he2] at H2
    rw [hs2, hs3, he3] at H3
    rw [hs3] at H4 HV
    rw [hck] at HC HRf
    clear hs1 hs2 hs3 he1 he2 he3 hck hz hc hf ht hcl t1 t2 c1 c2 hp hpW hB hL hd hn
    unfold questV cellsQ at *
    go_enter Tryz.func32, Tryz.ntmps32
    go_wp2_with fail
    rw [← hW]
    refine (HC.out _).mono ?_
    rintro e w1 ⟨rfl, hb1⟩
    have HP1 := Lib.hid (HP.out _ hb1)
    have HK1 := Lib.hid (HKB.out _ hb1)
    clear hb1
    go_wp2_with ((go_at_call 31; (with_reducible refine (HRf.out _ HP1.out).mono ?_); rintro e w2 ⟨rfl, rfl⟩; obtain ⟨x0, x1, x2⟩ := HA.out _ _ HK1.out))
    refine (H1.out _ _ HP1.out).mono ?_
    rintro e w2 ⟨rfl, F2, hp2, hk2⟩
    have HP2 := Lib.hid hp2
    have HK2 := Lib.hid (HK1.out.trans hk2)
    obtain ⟨x0, x1, x2⟩ := HA.out _ _ HK2.out
    clear hp2 hk2
    go_wp2_with fail
    refine (H2.out _ _ HP2.out).mono ?_
    rintro e w3 ⟨rfl, F3, hp2, hk2⟩
    have HP3 := Lib.hid hp2
    have HK3 := Lib.hid (HK2.out.trans hk2)
    obtain ⟨x0, x1, x2⟩ := HA.out _ _ HK3.out
    clear hp2 hk2
    go_wp2_with fail
    refine (H3.out _ _ HP3.out).mono ?_
    rintro e w4 ⟨rfl, F4, hp2, hk2⟩
    have HP4 := Lib.hid hp2
    have HK4 := Lib.hid (HK3.out.trans hk2)
    clear hp2 hk2
    go_wp2_with ((go_at_call 38; (with_reducible refine (H4.out _ _ HP4.out).mono ?_); rintro e w5 ⟨rfl, rfl⟩))
    go_ret
    rw [HV.out]
    exact ⟨rfl, F4, HP4.out, HKW.out.trans HK4.out⟩
  · have HV : Hid (putQ M q s = (refC s.f (checkQ q), s)) := Lib.hid (by unfold putQ; rw [if_pos hz])
    have HRf := Lib.hid fun wx (hx : PK wx base F g M s) => refusal_any (checkQ q) wx hx
    obtain ⟨a, ha⟩ : ∃ x, refC s.f (checkQ q) = x := ⟨_, rfl⟩
    obtain ⟨ck, hck⟩ : ∃ x, checkQ q = x := ⟨_, rfl⟩
    rw [ha] at HRf HV hz
    rw [hck] at HRf HC
    have hne : (((a : Nat) : Int) != 0) = true := by rw [bne_iff_ne]; omega
    clear hp hpW hB hL hd hn ha hck hz
    unfold questV cellsQ at *
    go_enter Tryz.func32, Tryz.ntmps32
    go_wp2_with fail
    rw [← hW]
    refine (HC.out _).mono ?_
    rintro e w1 ⟨rfl, hb1⟩
    have HP1 := Lib.hid (HP.out _ hb1)
    have HK1 := Lib.hid (HKB.out _ hb1)
    clear hb1
    go_wp2_with ((go_at_call 31; (with_reducible refine (HRf.out _ HP1.out).mono ?_); rintro e w2 ⟨rfl, rfl⟩))
    go_ret
    rw [HV.out]
    exact ⟨rfl, F, HP1.out, HKW.out.trans HK1.out⟩
set_option maxHeartbeats 2000000 in
theorem rcPut_any {base g M : Nat} {F : Nat → Prop} {s : PS} (r : MR) (tv : Value) (w : World) (hp : PK w base F g M s) (hr : FitR w r tv) (hbk : ∀ j, blk tv = some j → j < base) :
    Calls Tryz.prog 9 #[pp g, recV r tv] w (Pkr w base F g M (putR M r s).2 (.int .i64 ((putR M r s).1 : Nat))) := by
  obtain ⟨A, cap, htv, _, _⟩ := hr.d.row.shape
  have htv' : ∃ n, tv = Value.slice A n cap := ⟨_, htv⟩
  clear htv
  obtain ⟨n, htv⟩ := htv'
  obtain ⟨W, hW⟩ : ∃ W, W = w.alloc (.cells (cellsR r tv) 32) := ⟨_, rfl⟩
  have hB := boxR w r tv
  rw [← hW] at hB
  have hL : Lies W w.heap.size 32 (cellsR r tv) := by rw [hW]; exact Lies.new w _ _
  have hd : ¬ F w.heap.size := fun hx => by have := (hp.lt hx).2; omega
  have hpW := hp.next hB
  have hbW := hpW.base_le
  have HKW := Lib.hid (Kf.of_below (base := base) (F := F) hB hp.base_le)
  have HL := Lib.hid fun wx F' (hk : Kf base F F' W wx) => (show Lies wx w.heap.size 32 (cellsR r tv) from (hk.rest _ hL.lt hd).trans hL)
  have hfar : ∀ wx F', Kf base F F' W wx → FitR wx r tv := fun wx F' hk => ⟨hr.n, hr.x, { hr.d with row := (hr.d.next hB).row.far hk.below.size (fun j hj => hk.below.block j (hbk j hj)) }⟩
  have HC := Lib.hid (rcCheck_any r tv W (hr.next hB))
  have HP := Lib.hid fun wx (hb : Below W.heap.size W wx) => hpW.next hb
  have HKB := Lib.hid fun wx (hb : Below W.heap.size W wx) => Kf.of_below (base := base) (F := F) hb hpW.base_le
  by_cases hz : refC s.f (checkR r) = 0
  · have HV : Hid (putR M r s = ((putR5 M r s).f, putR5 M r s)) := Lib.hid (by unfold putR; rw [if_neg (fun h => h hz)])
    obtain ⟨hf, hc⟩ := refC_zero hz
    have hs1 : s.f ≠ 1 := by omega
    have HRf := Lib.hid fun wx (hx : PK wx base F g M s) => hz ▸ refusal_any (checkR r) wx hx
    have HH := Lib.hid fun wx => head_any r tv wx ⟨A, n, cap, htv⟩
    have H1 := Lib.hid fun wx F' (hx : PK wx base F' g M s) => rcPutQ_any r.q wx hx hr.n
    have H2 := Lib.hid fun wx F' (hx : PK wx base F' g M (putR1 M r s)) => pNumber_any hx r.x 4 hr.x
    have H3 := Lib.hid fun wx F' (hx : PK wx base F' g M (putR2 M r s)) => pBegin_any hx
    have hne : (putR3 M r s).2.2.f ≠ 1 := beginS_ne (numS_ne _ _ (putQ_ne hs1))
    have H4 := Lib.hid fun wx F' F0 (hx : PK wx base F' g M (putR3 M r s).2.2) (hk : Kf base F F0 W wx) => Put_anyD r.t r.d tv wx hx hne (hfar wx F0 hk).d hbk
    have H5 := Lib.hid fun wx F' (hx : PK wx base F' g M (putR4 M r s)) => pEnd_any hx ((putR3 M r s).1 : Nat)
    have H6 := Lib.hid fun wx F' (hx : PK wx base F' g M (putR5 M r s)) => pErr_any hx
    rw [show (putQ M r.q s).2 = putR1 M r s from rfl] at H1
    rw [show (numS M (putR1 M r s) r.x 4).2 = putR2 M r s from rfl] at H2
    rw [show beginS M (putR2 M r s) = putR3 M r s from rfl] at H3
    rw [show (putD M r.t r.d (putR3 M r s).2.2).2 = putR4 M r s from rfl] at H4
    rw [show (endS (putR4 M r s) ((putR3 M r s).1 : Nat)).2 = putR5 M r s from rfl] at H5
    obtain ⟨s1, hs1⟩ : ∃ x, putR1 M r s = x := ⟨_, rfl⟩
    obtain ⟨s2, hs2⟩ : ∃ x, putR2 M r s = x := ⟨_, rfl⟩
    obtain ⟨b3, hs3⟩ : ∃ x, putR3 M r s = x := ⟨_, rfl⟩
    obtain ⟨s4, hs4⟩ : ∃ x, putR4 M r s = x := ⟨_, rfl⟩
    obtain ⟨s5, hs5⟩ : ∃ x, putR5 M r s = x := ⟨_, rfl⟩
    rw [hs1] at H1 H2
    rw [hs2] at H2 H3
    rw [hs3] at H3 H4 H5
    rw [hs4] at H4 H5
    rw [hs5] at H5 H6 HV
    obtain ⟨z3, ez3, s3⟩ := b3
    simp only at H3 H4 H5
    obtain ⟨e1, he1⟩ : ∃ x, (putQ M r.q s).1 = x := ⟨_, rfl⟩
    obtain ⟨e2, he2⟩ : ∃ x, (numS M s1 r.x 4).1 = x := ⟨_, rfl⟩
    obtain ⟨e4, he4⟩ : ∃ x, (putD M r.t r.d s3).1 = x := ⟨_, rfl⟩
    obtain ⟨e5, he5⟩ : ∃ x, (endS s4 (z3 : Nat)).1 = x := ⟨_, rfl⟩
    rw [he1] at H1
    rw [he2] at H2
    rw [he4] at H4
    rw [he5] at H5
    obtain ⟨ck, hck⟩ : ∃ x, checkR r = x := ⟨_, rfl⟩
    rw [hck] at HC HRf
    clear hs1 hs2 hs3 hs4 hs5 he1 he2 he4 he5 hck hz hc hf hp hpW hB hL hd hr hbk hne hfar
    subst htv
    unfold dataV cellsD recV cellsR at *
    go_enter Tryz.func9, Tryz.ntmps9
    go_wp2_with fail
    rw [← hW]
    refine HC.out.mono ?_
    rintro e w1 ⟨rfl, hb1⟩
    have HP1 := Lib.hid (HP.out _ hb1)
    have HK1 := Lib.hid (HKB.out _ hb1)
    clear hb1
    go_wp2_with ((go_at_call 31; (with_reducible refine (HRf.out _ HP1.out).mono ?_); rintro e w2 ⟨rfl, rfl⟩; obtain ⟨x0, x1, x2, x3, x4, x5, x6, x7, x8, x9, x10, x11, x12, x13, x14, x15⟩ := lies16 (HL.out _ _ HK1.out)))
    refine (HH.out _).mono ?_
    rintro e w1' ⟨rfl, hb1⟩
    have HP1' := Lib.hid (HP1.out.next hb1)
    have HK1' := Lib.hid (HK1.out.trans (Kf.of_below hb1 HP1.out.base_le))
    clear hb1 x0 x1 x2 x3 x4 x5 x6 x7 x8 x9 x10 x11 x12 x13 x14 x15
    go_wp2_with fail
    refine (H1.out _ _ HP1'.out).mono ?_
    rintro e w2 ⟨rfl, F2, hp2, hk2⟩
    have HP2 := Lib.hid hp2
    have HK2 := Lib.hid (HK1'.out.trans hk2)
    clear hp2 hk2
    obtain ⟨x0, x1, x2, x3, x4, x5, x6, x7, x8, x9, x10, x11, x12, x13, x14, x15⟩ := lies16 (HL.out _ _ HK2.out)
    go_wp2_with fail
    refine (H2.out _ _ HP2.out).mono ?_
    rintro e w3 ⟨rfl, F3, hp2, hk2⟩
    have HP3 := Lib.hid hp2
    have HK3 := Lib.hid (HK2.out.trans hk2)
    clear hp2 hk2 x0 x1 x2 x3 x4 x5 x6 x7 x8 x9 x10 x11 x12 x13 x14 x15
    go_wp2_with fail
    refine (H3.out _ _ HP3.out).mono ?_
    rintro e w4 ⟨rfl, F4, hp2, hk2⟩
    have HP4 := Lib.hid hp2
    have HK4 := Lib.hid (HK3.out.trans hk2)
    clear hp2 hk2
    obtain ⟨x0, x1, x2, x3, x4, x5, x6, x7, x8, x9, x10, x11, x12, x13, x14, x15⟩ := lies16 (HL.out _ _ HK4.out)
    go_wp2_with fail
    refine (H4.out _ _ _ HP4.out HK4.out).mono ?_
    rintro e w5 ⟨rfl, F5, hp2, hk2⟩
    have HP5 := Lib.hid hp2
    have HK5 := Lib.hid (HK4.out.trans hk2)
    clear hp2 hk2 x0 x1 x2 x3 x4 x5 x6 x7 x8 x9 x10 x11 x12 x13 x14 x15
    go_wp2_with fail
    refine (H5.out _ _ HP5.out).mono ?_
    rintro e w6 ⟨rfl, F6, hp2, hk2⟩
    have HP6 := Lib.hid hp2
    have HK6 := Lib.hid (HK5.out.trans hk2)
    clear hp2 hk2
    go_wp2_with ((go_at_call 38; (with_reducible refine (H6.out _ _ HP6.out).mono ?_); rintro e w7 ⟨rfl, rfl⟩))
    go_ret
    rw [HV.out]
    exact ⟨rfl, F6, HP6.out, HKW.out.trans HK6.out⟩
  · have HV : Hid (putR M r s = (refC s.f (checkR r), s)) := Lib.hid (by unfold putR; rw [if_pos hz])
    have HRf := Lib.hid fun wx (hx : PK wx base F g M s) => refusal_any (checkR r) wx hx
    obtain ⟨a, ha⟩ : ∃ x, refC s.f (checkR r) = x := ⟨_, rfl⟩
    obtain ⟨ck, hck⟩ : ∃ x, checkR r = x := ⟨_, rfl⟩
    rw [ha] at HRf HV hz
    rw [hck] at HRf HC
    have hne : (((a : Nat) : Int) != 0) = true := by rw [bne_iff_ne]; omega
    clear hp hpW hB hL hd hr ha hck hz hfar HL
    subst htv
    unfold recV cellsR at *
    go_enter Tryz.func9, Tryz.ntmps9
    go_wp2_with fail
    rw [← hW]
    refine HC.out.mono ?_
    rintro e w1 ⟨rfl, hb1⟩
    have HP1 := Lib.hid (HP.out _ hb1)
    have HK1 := Lib.hid (HKB.out _ hb1)
    clear hb1
    go_wp2_with ((go_at_call 31; (with_reducible refine (HRf.out _ HP1.out).mono ?_); rintro e w2 ⟨rfl, rfl⟩))
    go_ret
    rw [HV.out]
    exact ⟨rfl, F, HP1.out, HKW.out.trans HK1.out⟩
end Go.Proofs.YtodedbokeodmkaaGreat
namespace Go.Proofs.YtodedbokeodmkaaGreat
open Go.RowKit Go.Maps
set_option linter.unusedVariables false
set_option maxRecDepth 100000

/-- A cursor over S at k, with the error f; its blocks are from base on. -/
structure Cur (w : World) (base c g : Nat) (S : ByteArray) (f k : Nat) : Prop where
  cur : Lies w c 226 #[pp g, .string S, .int .i64 (f : Int)]
  rd : RD w g S k
  hk : k ≤ S.size
  bc : base ≤ c
  bg : base ≤ g
/-- Nothing but blocks c, g, t has turned, of what was there. -/
structure Fr3 (base c g t : Nat) (w w' : World) : Prop where
  below : Below base w w'
  rest : ∀ j, j < w.heap.size → j ≠ c → j ≠ g → j ≠ t → w'.heap[j]? = w.heap[j]?
theorem Fr3.refl (base c g t : Nat) (w : World) : Fr3 base c g t w w := ⟨Below.refl _ _, fun _ _ _ _ _ => rfl⟩
theorem Fr3.trans {base c g t : Nat} {w w' w'' : World} (h : Fr3 base c g t w w') (k : Fr3 base c g t w' w'') : Fr3 base c g t w w'' :=
  ⟨h.below.trans k.below, fun j hj h1 h2 h3 => (k.rest j (Nat.lt_of_lt_of_le hj h.below.size) h1 h2 h3).trans (h.rest j hj h1 h2 h3)⟩
theorem Fr3.of_below {base c g t : Nat} {w w' : World} (h : Below w.heap.size w w') (hb : base ≤ w.heap.size) : Fr3 base c g t w w' := ⟨h.mono hb, fun j hj _ _ _ => h.block j hj⟩
theorem Cur.next {w w' : World} {base c g : Nat} {S : ByteArray} {f k : Nat} (h : Cur w base c g S f k) (hb : Below w.heap.size w w') : Cur w' base c g S f k := ⟨h.cur.next hb, h.rd.next hb, h.hk, h.bc, h.bg⟩
theorem Cur.base_le {w : World} {base c g : Nat} {S : ByteArray} {f k : Nat} (h : Cur w base c g S f k) : base ≤ w.heap.size := Nat.le_trans h.bc (Nat.le_of_lt h.cur.lt)
theorem Cur.ne {w : World} {base c g : Nat} {S : ByteArray} {f k : Nat} (h : Cur w base c g S f k) : c ≠ g := h.cur.ne h.rd (by decide)

theorem Fr3.reader {w w' : World} {base c g t : Nat} (hg : w.grownBy w' (some g)) (hb : base ≤ w.heap.size) (bg : base ≤ g) : Fr3 base c g t w w' :=
  ⟨(Below.refl base w).grown hg hb fun k hk => by injection hk with hk; omega, fun j hj _ h2 _ => hg.block j hj fun e => h2 (by injection e)⟩
theorem Fr3.drew {w w' : World} {base c g t : Nat} (h : Fr3 base c g t w.drew w') : Fr3 base c g t w w' := ⟨⟨h.below.os, h.below.tape, h.below.output, h.below.size, h.below.block⟩, h.rest⟩

/-! ### begin -/
/-! ### The cursor's name -/
end Go.Proofs.YtodedbokeodmkaaGreat
namespace Go.Proofs.YtodedbokeodmkaaGreat
open Go.RowKit Go.Maps
set_option linter.unusedVariables false
set_option maxRecDepth 100000

end Go.Proofs.YtodedbokeodmkaaGreat
namespace Go.Proofs.YtodedbokeodmkaaGreat
open Go.RowKit Go.Maps
set_option linter.unusedVariables false
set_option maxRecDepth 100000

theorem Cur.lower {w : World} {base b c g : Nat} {S : ByteArray} {f k : Nat} (h : Cur w base c g S f k) (hb : b ≤ base) : Cur w b c g S f k := ⟨h.cur, h.rd, h.hk, Nat.le_trans hb h.bc, Nat.le_trans hb h.bg⟩
end Go.Proofs.YtodedbokeodmkaaGreat
namespace Go.Proofs.YtodedbokeodmkaaGreat
open Go.RowKit Go.Maps
set_option linter.unusedVariables false
set_option maxRecDepth 100000

theorem blk_ltC {w : World} {v : Value} {L : List ByteArray} (h : SRow w v L) : ∀ j, blk v = some j → j < w.heap.size := by
  rcases h with ⟨A, rfl, _⟩ | ⟨g, off, cap, rfl, h2, _⟩
  · exact fun j hj => by rw [blk_none] at hj; cases hj
  · intro j hj
    exact (blk_eq hj).2 ▸ h2
/-- The record behind its data's reading. -/
def DtP (lo gr : Nat) (r : MR) (ok : Nat) (d : MD) (w' : World) : Prop := ∃ d' tv', Lies w' gr 32 (cellsR { r with d := d' } tv') ∧ (∃ A n cap, tv' = Value.slice A n cap) ∧ (ok = 0 → d' = d ∧ SRow w' tv' d.L ∧ ∀ j, blk tv' = some j → lo ≤ j)
/-! ### The cursor's data -/
theorem DtP.keep {lo gr c : Nat} {r : MR} {ok : Nat} {d : MD} {w : World} (h : DtP lo gr r ok d w) (hc : c < lo) (hn : gr ≠ c) (o : Nat) (u : Value) : DtP lo gr r ok d (w.setCell ⟨c, o, none⟩ u) := by
  obtain ⟨d', tv', h1, h2, h3⟩ := h
  refine ⟨d', tv', (heap_setCell_other w ⟨c, o, none⟩ gr u hn).trans h1, h2, fun h0 => ?_⟩
  obtain ⟨e, hr, hl⟩ := h3 h0
  exact ⟨e, hr.far (by simp [World.setCell]) (fun j hj => heap_setCell_other w ⟨c, o, none⟩ j u (by have := hl j hj; show j ≠ c; omega)), hl⟩
end Go.Proofs.YtodedbokeodmkaaGreat
namespace Go.Proofs.YtodedbokeodmkaaGreat
open Go.RowKit Go.Maps
set_option linter.unusedVariables false
set_option maxRecDepth 100000

end Go.Proofs.YtodedbokeodmkaaGreat
