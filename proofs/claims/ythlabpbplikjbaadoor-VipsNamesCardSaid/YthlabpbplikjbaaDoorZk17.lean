/-
  hash.Probe: its iterators: a span's places; all places, round once: what a range over them meets. Condition: the places are numbers that Go can have. hash.Probe as the laws meet it; HashNames: the walk. Condition: the places are numbers that Go can have.
-/
import Derived.Test.YthlabpbplikjbaaDoorZk15
import Derived.Test.YthlabpbplikjbaaDoorSeq
import Derived.Test.YthlabpbplikjbaaDoorZk12
import Derived.Shelf.Abstract
import Derived.TacticsInMore
import Derived.LoopNIn
import Derived.LoopIn
namespace Go.Proofs.YthlabpbplikjbaaDoor
open Go.RowKit Go.Shelf
set_option linter.unusedVariables false
attribute [local go_sem] Oper.semAt_some

/-- The numbers from a on, n of them. -/
def upto (a : Int) (n : Nat) : List Int := (List.range n).map fun (i : Nat) => a + (i : Int)
theorem upto_succ (a : Int) (n : Nat) : upto a (n + 1) = upto a n ++ [a + (n : Int)] := by simp [upto, List.range_succ]
theorem upto_pre (a : Int) {k n : Nat} (h : k ≤ n) : upto a k <+: upto a n := by
  obtain ⟨d, rfl⟩ := Nat.exists_eq_add_of_le h
  induction d with
  | zero => exact List.prefix_refl _
  | succ d ih => exact (ih (Nat.le_add_right _ _)).trans (by rw [← Nat.add_assoc, upto_succ]; exact List.prefix_append _ _)

theorem round_any (a b : Int) (w : World) :
    Calls Tryd.prog 87 #[.int .i64 a, .int .i64 b] w fun e w' => e = .returned (.func (.func 105) #[] #[.pointer (some ⟨w.heap.size, 0, none⟩), .pointer (some ⟨w.heap.size + 1, 0, none⟩)]) ∧ w' = (w.alloc (.cells #[.int .i64 a] 3)).alloc (.cells #[.int .i64 b] 3) := by
  go_enter Tryd.func87, Tryd.ntmps87
  go_wp2
  go_ret
  exact ⟨rfl, rfl⟩

set_option maxRecDepth 100000 in
set_option maxHeartbeats 2000000 in
/-- A span's places, as a range over them meets them: from a to below b. -/
theorem places_seq (m : Nat) (hm : 1 ≤ m) (a b : Int) (w : World) (ha : -9223372036854775808 ≤ a) (hb : b ≤ 9223372036854775807) (Cap : Nat → Prop) :
    SeqO Fence.wide m Tryd.prog 106 #[.agg #[.int .i64 a, .int .i64 b]] #[] (fun x : Int => #[.int .i64 x]) (fun xs => xs = upto a (b - a).toNat) (fun pre => ∃ k, 0 < k ∧ k ≤ (b - a).toNat ∧ pre = upto a k) (fun pre x => pre ++ [x] <+: upto a (b - a).toNat) Cap none w := by
  intro l J Jx T W hW hJ hJx hT hC _ hY h0
  have HY := Lib.hid hY
  have HJ := Lib.hid hJ
  have HT := Lib.hid hT
  clear hY hJ hJx hT hC
  refine callsIn_of_wp Tryd.func106 rfl trivial ?_ rfl
  simp only [Tryd.ntmps106, List.size_toArray, List.length_cons, List.length_nil, Nat.reduceAdd, Nat.reduceSub, Array.replicate_succ, Array.replicate_zero, List.push_toArray, List.append_toArray, List.nil_append, List.cons_append]
  gi_wp2
  have hz := HT.out [] T W h0 W.heap.size (Nat.le_refl _)
  have hJ0 := (HJ.out T).alloc (.cells #[.int .i64 a, .int .i64 b] 152) h0
  gi_loopw [4] (fun p wr => ∃ (k : Nat) (Tk : Nat → Prop), p = .int .i64 (a + k) ∧ k ≤ (b - a).toNat ∧ J (upto a k) Tk wr ∧ ¬ Tk W.heap.size ∧ wr.heap[W.heap.size]? = some (.cells #[.int .i64 a, .int .i64 b] 152))
    (fun p _ => (b - intOf p).toNat)
  case atStart => exact ⟨0, T, by simp, Nat.zero_le _, hJ0, hz, World.alloc_heap_new _ _⟩
  case round =>
    clear hJ0 h0 hz
    obtain ⟨k, Tk, rfl, hk, hJk, hTk, hbk⟩ := hrel
    have hc : wr.cell? ⟨W.heap.size, 1, none⟩ = some (.int .i64 b) := by simp [World.cell?, hbk]
    by_cases hlt : a + (k : Int) < b
    · obtain ⟨fn, tmps, assign, body, hy, hRd⟩ := HY.out (upto a k) (a + (k : Int)) Tk wr hJk (by rw [← upto_succ]; exact upto_pre a (by omega))
      have HK := Lib.hid hbk
      gi_wp2
      refine hRd.mono ?_
      rintro e W3 (⟨rfl, T3, hJ3, hk3⟩ | ⟨rfl, hJx3, T3, hk3⟩)
      · obtain ⟨hb3, hn3⟩ := hk3.at HK.out hTk
        have hc3 : W3.cell? ⟨W.heap.size, 1, none⟩ = some (.int .i64 b) := by simp [World.cell?, hb3]
        gi_wp2
        go_roundw
        case rel => exact ⟨k + 1, T3, by go_num, by omega, by rw [upto_succ]; exact hJ3, hn3, hb3⟩
        case measure => simp [intOf]; omega
      · gi_wp2
        go_end0
        exact ⟨⟨_, rfl⟩, .inr ⟨_, ⟨k + 1, Nat.succ_pos _, by omega, (upto_succ a k).symm⟩, hJx3⟩⟩
    · obtain rfl : k = (b - a).toNat := by omega
      gi_wp2
      refine ⟨fun _ h => (by cases h), ?_⟩
      gi_wp2
      go_end0
      exact ⟨⟨_, rfl⟩, .inl ⟨_, Tk, rfl, hJk⟩⟩

/-- All places, round once. -/
def rnd (a b : Int) : List Int := upto a (b - a).toNat ++ upto 0 a.toNat


set_option maxRecDepth 100000 in
set_option maxHeartbeats 4000000 in
/-- One span of round's loop: the range over its places, each handed on. -/
theorem span_in (m l b : Nat) (hm : 3 ≤ m) (lo hi : Int) (h1 : -9223372036854775808 ≤ lo) (h2 : hi ≤ 9223372036854775807) (J : List Int → (Nat → Prop) → World → Prop) (Jx : List Int → World → Prop) (w0 W : World) (hw : w0.heap.size ≤ W.heap.size)
    (hJ : ∀ T, OwnFrom w0.heap.size fun pre W => J pre T W) (hJx : OwnFrom w0.heap.size Jx) (hJT : ∀ pre T W1, J pre T W1 → ∀ b, W1.heap.size ≤ b → ¬ T b) (Rd : List Int → Int → Prop)
    (hY : ∀ pre x T W1, J pre T W1 → Rd pre x → YieldAt Fence.wide (m - 1) Tryd.prog l #[.int .i64 x] W1 fun e W' => (e = .returned (.bool true) ∧ ∃ T', J (pre ++ [x]) T' W' ∧ Kpt T T' W1 W') ∨ (e = .returned (.bool false) ∧ Jx (pre ++ [x]) W' ∧ ∃ T', Kpt T T' W1 W'))
    (pre0 : List Int) (hN : ∀ pre x, pre ++ [x] <+: upto lo (hi - lo).toNat → Rd (pre0 ++ pre) x) (T : Nat → Prop) (E : List (Nat × Obj)) (hE : Has E T W) (hb : (b, Obj.cells #[.func (.yield l) #[] #[]] 150) ∈ E) (h0 : J pre0 T W)
    (u0 u1 u2 u4 u5 u6 u7 u8 u9 u10 u11 u12 u13 u14 u15 u16 u18 u19 u20 u21 u22 u23 : Value) (ds : List Deferred) (Q : Exit → Act → World → Prop)
    (hdone : ∀ D T' W' v6 v18 v19 v20 v21 v22, W.heap.size ≤ D → ¬ T' D → W'.heap[D]? = some (.deferred (some [])) → Has E T' W' → J (pre0 ++ upto lo (hi - lo).toNat) T' W' →
      Q .normal { tmps := #[u0, u1, u2, .pointer (some ⟨b, 0, none⟩), u4, u5, v6, u7, u8, u9, u10, u11, u12, u13, u14, u15, u16, .func (.func 106) #[.agg #[.int .i64 lo, .int .i64 hi]] #[], v18, v19, v20, v21, v22, u23], defers := { target := .collected D, args := #[] } :: ds } W')
    (hstop : ∀ D W' k v6 v18 v19 v20 v21 v22, W.heap.size ≤ D → W'.heap[D]? = some (.deferred (some [])) → (∀ p ∈ E, W'.heap[p.1]? = some p.2) → 0 < k → k ≤ (hi - lo).toNat → Jx (pre0 ++ upto lo k) W' →
      Code.ret.wpIn Fence.wide m Tryd.prog Q { tmps := #[u0, u1, u2, .pointer (some ⟨b, 0, none⟩), u4, u5, v6, u7, u8, u9, u10, u11, u12, u13, u14, u15, u16, .func (.func 106) #[.agg #[.int .i64 lo, .int .i64 hi]] #[], v18, v19, v20, v21, v22, u23], defers := { target := .collected D, args := #[] } :: ds } W') :
    (Code.rangeFunc (Operand.tmp 17) #[18]
      (Code.region 5 #[{ dst := some 6, op := Op.assign (Operand.tmp 18), type := 3, pos := "hash.go:53", after := #[], guard := none }] false)
      (Code.block 3 ((Code.region 6 #[{ dst := some 19, op := Op.load 150 (Operand.tmp 3), type := 150, pos := "hash.go:54", after := #[], guard := none },
                { dst := some 20, op := Op.move (Operand.tmp 6), type := 3, pos := "hash.go:54", after := #[], guard := none },
                { dst := some 21, op := Op.call { callee := Callee.value (Operand.tmp 19), args := #[Operand.tmp 20], argTypes := #[3] }, type := 4, pos := "hash.go:54", after := #[{ on := 0, ground := Ground.data }, { on := 1, ground := Ground.data }], guard := none },
                { dst := some 22, op := Op.unOp UnOp.not 4 (Operand.tmp 21), type := 4, pos := "hash.go:54", after := #[{ on := 2, ground := Ground.data }], guard := none }] false).seq
          (Code.cond (Operand.tmp 22) Code.ret Code.skip)))).wpIn Fence.wide m Tryd.prog Q
      { tmps := #[u0, u1, u2, .pointer (some ⟨b, 0, none⟩), u4, u5, u6, u7, u8, u9, u10, u11, u12, u13, u14, u15, u16, .func (.func 106) #[.agg #[.int .i64 lo, .int .i64 hi]] #[], u18, u19, u20, u21, u22, u23], defers := ds } W := by
  have HY := Lib.hid hY
  have HE := Lib.hid hE
  refine range_own rfl (by omega) (gf := 106) (bd := #[.agg #[.int .i64 lo, .int .i64 hi]]) (lb := #[]) rfl trivial (enters_of Tryd.func106 (by kernel_rfl) rfl)
    (places_seq (m - 1) (by omega) lo hi W h1 h2 (fun _ => False)) (Below.refl _ _) (fun _ h => h.elim) (fun _ => rfl)
    (fun pre T' W' => Has E T' W' ∧ J (pre0 ++ pre) T' W') (fun c pre W' => (∀ p ∈ E, W'.heap[p.1]? = some p.2) ∧ c = .ret ∧ Jx (pre0 ++ pre) W')
    (fun T' => (has_own T' hE.lt).and fun s A C row hs hg hr => hJ T' (pre0 ++ s) A C row hs hg fun r e => ⟨Nat.le_trans hw (hr r e).1, (hr r e).2⟩) ?hIx (fun _ e => by cases e) (fun _ _ _ h => hJT _ _ _ h.2) T (fun _ h => h.elim) ⟨hE, by rw [List.append_nil]; exact h0⟩ ?Ax ?hAx ?assign ?body ?done ?stop
  case Ax => exact fun x a' _ => a' = { tmps := #[u0, u1, u2, .pointer (some ⟨b, 0, none⟩), u4, u5, .int .i64 x, u7, u8, u9, u10, u11, u12, u13, u14, u15, u16, .func (.func 106) #[.agg #[.int .i64 lo, .int .i64 hi]] #[], .int .i64 x, u19, u20, u21, u22, u23], defers := [] }
  case hAx => exact fun _ _ => ownFrom_pure _ _
  case hIx =>
    rintro c s A C row ⟨hs1, hs2, hs3⟩ hg hr
    exact ⟨fun p hp => (hg.block p.1 (Array.getElem?_eq_some_iff.1 (hs1 p hp)).1 fun e => by have := (hr p.1 e.symm).1; have := HE.out.lt p hp; omega).trans (hs1 p hp), hs2, hJx (pre0 ++ s) A C row hs3 hg fun r e => ⟨Nat.le_trans hw (hr r e).1, (hr r e).2⟩⟩
  case assign =>
    intro l2 pre x T2 W2 K hI hK
    gi_wp2
    exact hK _ _ _ (Kpt.refl _ _) hI rfl
  case body =>
    rintro l2 pre x a' T2 W2 hl ⟨r, hr⟩ ⟨hE2, hJ2⟩ rfl hlt
    have hbox : Boxed W2 b 150 (.func (.yield l) #[] #[]) := (hE2 _ hb).1
    have hc := hbox.cell
    obtain ⟨fn, tmps, assign, body, hy, hRd⟩ := yield_any (F := Fence.wide) rfl (m - 1 - 1 - 1) l2 (HY.out (pre0 ++ pre) x T2 W2 hJ2 (hN pre x hlt))
    have HJ2 := Lib.hid hJ2
    gi_wp2
    refine ⟨fun h => (by cases h), ?_⟩
    refine hRd.mono ?_
    rintro e W3 (⟨rfl, T3, hJ3, hk3⟩ | ⟨rfl, hJx3, T3, hk3⟩)
    · have hE3 := hE2.kept hk3
      gi_wp2
      exact ⟨T3, hk3, hE3, by rw [← List.append_assoc]; exact hJ3⟩
    · gi_wp2
      exact ⟨T3, hk3, fun p hp => ((hE2.kept hk3) p hp).1, rfl, by rw [← List.append_assoc]; exact hJx3⟩
  case done =>
    rintro D xs T3 W3 hD hnD rfl ⟨hE3, hJ3⟩ hK
    exact hdone D T3 W3 _ _ _ _ _ _ hD hnD hK hE3 hJ3
  case stop =>
    rintro D c pre W3 hD ⟨k, hk0, hk, rfl⟩ ⟨hE3, rfl, hJ3⟩ hK
    exact hstop D W3 k _ _ _ _ _ _ hD hK hE3 hk0 hk hJ3

set_option maxRecDepth 100000 in
set_option maxHeartbeats 4000000 in
theorem round_seq (m B : Nat) (hm : 4 ≤ m) (a b : Int) (w : World) (ha : 0 ≤ a) (ha2 : a ≤ 9223372036854775807) (hb : b ≤ 9223372036854775807) (hB : B + 1 < w.heap.size) (b1 : Boxed w B 3 (.int .i64 a)) (b2 : Boxed w (B + 1) 3 (.int .i64 b)) :
    SeqO Fence.wide m Tryd.prog 105 #[] #[.pointer (some ⟨B, 0, none⟩), .pointer (some ⟨B + 1, 0, none⟩)] (fun x : Int => #[.int .i64 x]) (fun xs => xs = rnd a b) (fun pre => pre <+: rnd a b) (fun pre x => pre ++ [x] <+: rnd a b) (fun k => k = B ∨ k = B + 1) none w := by
  intro l J Jx T W hW hJ hJx hT hC _ hY h0
  have HY := Lib.hid hY
  have HJ := Lib.hid hJ
  have HJx := Lib.hid hJx
  have HT := Lib.hid hT
  have b1' : Boxed W B 3 (.int .i64 a) := (hW.block B (by omega)).trans b1
  have b2' : Boxed W (B + 1) 3 (.int .i64 b) := (hW.block (B + 1) (by omega)).trans b2
  have bY := Boxed.new W 150 (.func (.yield l) #[] #[])
  have c1 := (b1'.alloc (.cells #[.func (.yield l) #[] #[]] 150)).cell
  have c2 := (b2'.alloc (.cells #[.func (.yield l) #[] #[]] 150)).cell
  have hWz := hW.size
  have hn1 := hC B (.inl rfl)
  have hn2 := hC (B + 1) (.inr rfl)
  have hnY := hT [] T W h0 W.heap.size (Nat.le_refl _)
  have I0 : ∀ wx : World, (Instr.index 153 (.agg #[.int .i64 a, .int .i64 b, .int .i64 0, .int .i64 a]) (.int .i64 0)).run Tryd.prog wx = .ok (.agg #[.int .i64 a, .int .i64 b]) wx := fun _ => by kernel_rfl
  have I1 : ∀ wx : World, (Instr.index 153 (.agg #[.int .i64 a, .int .i64 b, .int .i64 0, .int .i64 a]) (.int .i64 1)).run Tryd.prog wx = .ok (.agg #[.int .i64 0, .int .i64 a]) wx := fun _ => by kernel_rfl
  have hmf : ∀ (fn : Fn) (first cap : Array Value) (wx : World), (Instr.makeFunc fn first cap).run Tryd.prog wx = .ok (.func fn first cap) wx := fun _ _ _ _ => rfl
  clear hY hJ hJx hT hC
  refine callsIn_of_wp_marks Tryd.func105 rfl trivial ?_ rfl
  simp only [Tryd.ntmps105, List.size_toArray, List.length_cons, List.length_nil, Nat.reduceAdd, Nat.reduceSub, Array.replicate_succ, Array.replicate_zero, List.push_toArray, List.append_toArray, List.nil_append, List.cons_append]
  gi_wp2
  refine wpIn_loop_rounds 3 ?_
  rw [roundsIn_succ]
  gi_wp2
  have hJ1 := (HJ.out T).alloc (.cells #[.int .i64 a, .int .i64 b] 152) ((HJ.out T).alloc (.cells #[.func (.yield l) #[] #[]] 150) h0)
  obtain ⟨W1, hW1⟩ : ∃ W1, (W.alloc (.cells #[.func (.yield l) #[] #[]] 150)).alloc (.cells #[.int .i64 a, .int .i64 b] 152) = W1 := ⟨_, rfl⟩
  have hz1 : W1.heap.size = W.heap.size + 2 := by rw [← hW1]; simp
  have hE1 : Has [(B, .cells #[.int .i64 a] 3), (B + 1, .cells #[.int .i64 b] 3), (W.heap.size, .cells #[.func (.yield l) #[] #[]] 150)] T W1 := by
    rw [← hW1]
    intro p hp
    rcases List.mem_cons.1 hp with rfl | hp
    · exact ⟨(b1'.alloc _).alloc _, hn1⟩
    rcases List.mem_cons.1 hp with rfl | hp
    · exact ⟨(b2'.alloc _).alloc _, hn2⟩
    rcases List.mem_cons.1 hp with rfl | hp
    · exact ⟨bY.alloc _, hnY⟩
    cases hp
  rw [hW1] at hJ1 ⊢
  clear hW1 c1 c2 b1' b2' bY hn1 hn2 hnY
  refine span_in m l W.heap.size (by omega) a b (by omega) hb J Jx W W1 (by omega) HJ.out HJx.out HT.out (fun pre x => pre ++ [x] <+: rnd a b) HY.out [] (fun pre x h => h.trans (List.prefix_append _ _)) T _ hE1 (by simp) hJ1 _ _ _ _ _ _ _ _ _ _ _ _ _ _ _ _ _ _ _ _ _ _ _ _ ?hdone ?hstop
  case hstop =>
    intro D W' k v6 v18 v19 v20 v21 v22 hD hK hE hk0 hk hJk
    gi_wp2
    refine ⟨by simp, .inl ⟨_, _, rfl, run_takeDeferred hK, ?_⟩⟩
    refine ⟨_, results_none rfl _ _ _, ⟨_, rfl⟩, .inr ⟨_, ?_, HJx.out.putObj _ hJk (by omega) hK rfl⟩⟩
    exact (upto_pre a hk).trans (List.prefix_append _ _)
  case hdone =>
    intro D T' W' v6 v18 v19 v20 v21 v22 hD hnD hK hE hJk
    have hzs := hE.lt (W.heap.size, .cells #[.func (.yield l) #[] #[]] 150) (by simp)
    dsimp only at hzs
    have hE2 : Has [(D, .deferred (some [])), (B, .cells #[.int .i64 a] 3), (B + 1, .cells #[.int .i64 b] 3), (W.heap.size, .cells #[.func (.yield l) #[] #[]] 150)] T' (W'.alloc (.cells #[.int .i64 0, .int .i64 a] 152)) := by
      refine Has.kept (T := T') (W := W') ?_ (Kpt.alloc _ _ _)
      intro p hp
      rcases List.mem_cons.1 hp with rfl | hp
      · exact ⟨hK, hnD⟩
      · exact hE p hp
    have hJ2 := (HJ.out T').alloc (.cells #[.int .i64 0, .int .i64 a] 152) hJk
    gi_wp2
    rw [roundsIn_succ]
    gi_wp2
    refine span_in m l W.heap.size (by omega) 0 a (by omega) ha2 J Jx W _ (by simp; omega) HJ.out HJx.out HT.out (fun pre x => pre ++ [x] <+: rnd a b) HY.out _ (fun pre x h => by rw [List.nil_append, List.append_assoc]; rw [Int.sub_zero] at h; exact (List.prefix_append_right_inj _).2 h) T' _ hE2 (by simp) hJ2 _ _ _ _ _ _ _ _ _ _ _ _ _ _ _ _ _ _ _ _ _ _ _ _ ?hdone ?hstop
    case hstop =>
      intro D2 W2 k v6 v18 v19 v20 v21 v22 hD2 hK2 hE2 hk0 hk hJk2
      have hDl := (Array.getElem?_eq_some_iff.1 hK).1
      have hne : D ≠ D2 := by simp at hD2; omega
      have hK1 : (W2.putObj D2 (.deferred none)).heap[D]? = some (.deferred (some [])) := (World.putObj_heap_other hne).trans (hE2 (D, .deferred (some [])) (by simp))
      have hz2 : W.heap.size ≤ D2 := by simp at hD2; omega
      gi_wp2
      refine ⟨by simp, .inl ⟨_, _, rfl, run_takeDeferred hK2, ?_⟩⟩
      refine ⟨by simp, .inl ⟨_, _, rfl, run_takeDeferred hK1, ?_⟩⟩
      refine ⟨_, results_none rfl _ _ _, ⟨_, rfl⟩, .inr ⟨_, ?_, HJx.out.putObj _ (HJx.out.putObj _ hJk2 hz2 hK2 rfl) (by omega) hK1 rfl⟩⟩
      unfold rnd
      rw [List.nil_append]
      exact (List.prefix_append_right_inj _).2 (upto_pre 0 (by omega))
    case hdone =>
      intro D2 T2 W2 v6 v18 v19 v20 v21 v22 hD2 hnD2 hK2 hE2 hJk2
      have hDl := (Array.getElem?_eq_some_iff.1 hK).1
      have hne : D ≠ D2 := by simp at hD2; omega
      have hK1 : (W2.putObj D2 (.deferred none)).heap[D]? = some (.deferred (some [])) := (World.putObj_heap_other hne).trans (hE2 (D, .deferred (some [])) (by simp)).1
      have hz2 : W.heap.size ≤ D2 := by simp at hD2; omega
      gi_wp2
      rw [roundsIn_succ]
      gi_wp2
      refine ⟨by simp, .inl ⟨_, _, rfl, run_takeDeferred hK2, ?_⟩⟩
      refine ⟨by simp, .inl ⟨_, _, rfl, run_takeDeferred hK1, ?_⟩⟩
      refine ⟨_, results_none rfl _ _ _, ⟨_, rfl⟩, .inl ⟨_, T2, ?_, (HJ.out T2).putObj _ ((HJ.out T2).putObj _ hJk2 hz2 hK2 rfl) (by omega) hK1 rfl⟩⟩
      unfold rnd
      rw [List.nil_append, Int.sub_zero]
end Go.Proofs.YthlabpbplikjbaaDoor
namespace Go.Proofs.YthlabpbplikjbaaDoor
open Go.RowKit Go.Shelf
set_option linter.unusedVariables false
attribute [local go_sem] Oper.semAt_some

/-- What Probe hands back: round's closure over two boxes. -/
structure PrV (w w' : World) (v : Value) (g : Nat) (a b : Int) : Prop where
  val : v = .func (.func 105) #[] #[.pointer (some ⟨g, 0, none⟩), .pointer (some ⟨g + 1, 0, none⟩)]
  bel : Below w.heap.size w w'
  ge : w.heap.size ≤ g
  lt : g + 1 < w'.heap.size
  b1 : Boxed w' g 3 (.int .i64 a)
  b2 : Boxed w' (g + 1) 3 (.int .i64 b)
theorem Probe_any {n : ByteArray} (hs : n.size ≤ maxLen) {k : Int} (hk : k ≤ 9223372036854775807) (w : World) :
    Calls Tryd.prog 68 #[.string n, .int .i64 k] w fun e w' => ∃ v g, e = .returned v ∧ PrV w w' v g (slotH (bs n) k) k := by
  have h1 := Lib.hid (gSlot hs hk rfl)
  obtain ⟨s, hsl⟩ : ∃ s, slotH (bs n) k = s := ⟨_, rfl⟩
  rw [hsl] at h1 ⊢
  go_enter Tryd.func68, Tryd.ntmps68
  go_wp2_with fail
  refine (h1.out.go _).mono ?_
  rintro e w1 ⟨rfl, hb⟩
  go_wp2_with fail
  refine (round_any _ _ _).mono ?_
  rintro e w2 ⟨rfl, rfl⟩
  go_wp2
  go_ret
  refine ⟨_, w1.heap.size, rfl, rfl, (hb.alloc hb.size _).alloc (by rw [World.size_alloc]; exact Nat.le_succ_of_le hb.size) _, hb.size, by simp, (Boxed.new w1 _ _).alloc _, ?_⟩
  have := Boxed.new (w1.alloc (.cells #[.int .i64 s] 3)) 3 (.int .i64 k)
  rw [World.size_alloc] at this
  exact this

theorem not_nil (g : Nat) : ∀ wx : World, (binOp .eql 117 (.func (.func 105) #[] #[.pointer (some ⟨g, 0, none⟩), .pointer (some ⟨g + 1, 0, none⟩)]) .nilFunc).run Tryd.prog wx = .ok (.bool false) wx := fun _ => by kernel_rfl

end Go.Proofs.YthlabpbplikjbaaDoor
