/-
  message.readRow over questions, over records: the walks. Condition: the octets are no longer than 2^40.
-/
import Derived.Test.YtdpgcgaalamgkaaGreatZk39
namespace Go.Proofs.YtdpgcgaalamgkaaGreat
open Go.RowKit Go.Maps
set_option linter.unusedVariables false
set_option maxRecDepth 100000

/-- What reading a row of questions leaves. -/
def QRd (w : World) (p : Nat × Nat × List MQ) (e : Ending) (w' : World) : Prop :=
  ∃ v, e = .returned (.tuple #[v, .int .i64 (p.2.1 : Nat), .int .i64 (p.1 : Nat)]) ∧ OwnC csQ 3 65 w' w.heap.size v p.2.2 ∧ Below w.heap.size w w'
structure RQr (w : World) (S : ByteArray) (n : Nat) (p : Nat × Nat × List MQ) (k a : Nat) (v : Value) (X : List MQ) (wr : World) : Prop where
  own : OwnC csQ 3 65 wr w.heap.size v X
  len : X.length = k
  eq : rdCons X (rdRow (fQ (bs S)) (n - k) a) = p
  bel : Below w.heap.size w wr
def RQR (w : World) (S : ByteArray) (n : Nat) (p : Nat × Nat × List MQ) (va vr vi : Value) (wr : World) : Prop := ∃ (k a : Nat) (X : List MQ), va = .int .i64 a ∧ vi = .int .i64 k ∧ k ≤ n ∧ RQr w S n p k a vr X wr
set_option maxHeartbeats 2000000 in
theorem readRowQ_any (S : ByteArray) (a n : Nat) (w : World) (hS : S.size ≤ 1099511627776) (hn : n ≤ 65535) :
    Calls Tryz.prog 123 #[.string S, .int .i64 a, .int .i64 n, .func (.func 124) #[] #[]] w (QRd w (rdRow (fQ (bs S)) n a)) := by
  have hgo : ∀ (args : Array Value) (wx : World), (callFunc 124 args).run Tryz.prog wx = .ok (.enter 124 args) wx := fun args wx => by kernel_rfl
  have HRd := Lib.hid fun (a : Nat) wx => rcReadQ_any S (a : Int) wx hS
  obtain ⟨p, hp⟩ : ∃ p, rdRow (fQ (bs S)) n a = p := ⟨_, rfl⟩
  rw [hp]
  have HST : Hid (RQR w S n p (.int .i64 a) nilS (.int .i64 0) w) := Lib.hid ⟨0, a, [], rfl, rfl, Nat.zero_le _, OwnC.none_ _ _, rfl, by rw [Nat.sub_zero, rdCons_nil _ (fun h => rdRow_err h)]; exact hp, Below.refl _ _⟩
  clear hp hS
  go_enter Tryz.func123, Tryz.ntmps123
  go_wp2
  go_loopw [1, 8, 15] (fun va vr vi wr => RQR w S n p va vr vi wr) (fun _ _ vi _ => n - (intOf vi).toNat)
  case atStart => exact HST.out
  case round =>
    clear HST
    obtain ⟨k, a, X, rfl, rfl, hk, hr⟩ := hrel
    have HR := Lib.hid hr
    clear hr
    rcases Nat.lt_or_ge k n with hlt | hge
    · have hf : fQ (bs S) a = ((rdQ (bs S) (a : Nat)).e, (rdQ (bs S) (a : Nat)).k, (rdQ (bs S) (a : Nat)).q) := rfl
      have hrd := HRd.out a wr
      have heq := HR.out.eq
      have hnk : n - k = (n - (k + 1)) + 1 := by omega
      rw [hnk] at heq
      obtain ⟨y, hy⟩ : ∃ y, rdQ (bs S) ((a : Nat) : Int) = y := ⟨_, rfl⟩
      rw [hy] at hf hrd
      have hlen := HR.out.len
      have hfew : X.length ≤ 99999 := by omega
      have hbase : w.heap.size ≤ wr.heap.size := HR.out.bel.size
      clear hlen hy hnk
      by_cases hz : y.e = 0
      · rw [rdCons_step X (by rw [hf]; exact hz), hf] at heq
        rw [hz] at hrd
        have hne : ((((0 : Nat) : Nat) : Int) != 0) = false := rfl
        have HEq := Lib.hid heq
        have HRD := Lib.hid hrd
        have HFew := Lib.hid hfew
        clear heq hrd hf hz hbase hfew
        go_wp2_with (first | ((with_reducible refine HRD.out.mono ?_); rintro e w1 ⟨rfl, hb1⟩; have HB1 := Lib.hid (HR.out.bel.trans (hb1.mono HR.out.bel.size)); have HO1 := Lib.hid (HR.out.own.same fun b hb => hb1.block b (HR.out.own.block hb).2.1); clear hb1) | (at_builtin; refine app_q2 rfl (.tmp 28) (.tmp 30) rfl rfl (HO1.out.two _ _) y.q _ rfl (boxed2 _ _ _ _) HFew.out (below_two HB1.out _ _).size ?_; intro v5 w5 h5 hb5; have HO5 := Lib.hid h5; have HB5 := Lib.hid ((below_two HB1.out _ _).trans hb5); clear h5 hb5))
        go_roundw
        case rel => exact ⟨k + 1, _, _, rfl, by go_num, hlt, HO5.out, by rw [List.length_append, HR.out.len]; rfl, HEq.out, HB5.out⟩
        case measure => simp [intOf]; omega
      · have hp : p = (y.e, 0, []) := by
          rw [← heq, rdRow_bad (by rw [hf]; exact hz), hf]
          unfold rdCons
          rw [if_neg hz]
        subst hp
        have hne : (((y.e : Nat) : Int) != 0) = true := by simpa using hz
        have HRD := Lib.hid hrd
        clear heq hrd hf hz hbase hfew
        go_wp2_with ((with_reducible refine HRD.out.mono ?_); rintro e w1 ⟨rfl, hb1⟩; have HB1 := Lib.hid (HR.out.bel.trans (hb1.mono HR.out.bel.size)); clear hb1)
        refine bodyPost_ret (v := .tuple #[.slice none 0 0, .int .i64 0, .int .i64 (y.e : Nat)]) (by simp [results, Tryz.results123, go_sem]) rfl ⟨_, rfl, OwnC.none_ _ _, ?_⟩
        exact HB1.out.alloc HB1.out.size _
    · obtain rfl : k = n := by omega
      have hp : p = (0, a, X) := by
        rw [← HR.out.eq, Nat.sub_self]
        unfold rdCons rdRow
        simp
      subst hp
      go_wp2
      refine bodyPost_ret (v := .tuple #[_, .int .i64 (a : Nat), .int .i64 0]) (by simp [results, Tryz.results123, go_sem]) rfl ⟨_, rfl, HR.out.own, HR.out.bel⟩
/-- What reading a row of records leaves. -/
def RRd (w : World) (p : Nat × Nat × List MR) (e : Ending) (w' : World) : Prop :=
  ∃ v X, e = .returned (.tuple #[v, .int .i64 (p.2.1 : Nat), .int .i64 (p.1 : Nat)]) ∧ X.map Prod.fst = p.2.2 ∧ RowR w' w.heap.size v X ∧ (∀ x ∈ X, ∀ j, blk x.2 = some j → w.heap.size ≤ j) ∧ Below w.heap.size w w'
structure RRr (w : World) (S : ByteArray) (n : Nat) (p : Nat × Nat × List MR) (k a : Nat) (v : Value) (X : List RV) (wr : World) : Prop where
  own : RowR wr w.heap.size v X
  len : X.length = k
  eq : rdCons (X.map Prod.fst) (rdRow (fR (bs S)) (n - k) a) = p
  bel : Below w.heap.size w wr
  lo : ∀ x ∈ X, ∀ j, blk x.2 = some j → w.heap.size ≤ j
def RRR (w : World) (S : ByteArray) (n : Nat) (p : Nat × Nat × List MR) (va vr vi : Value) (wr : World) : Prop := ∃ (k a : Nat) (X : List RV), va = .int .i64 a ∧ vi = .int .i64 k ∧ k ≤ n ∧ RRr w S n p k a vr X wr
set_option maxHeartbeats 2000000 in
theorem readRowR_any (S : ByteArray) (a n : Nat) (w : World) (hS : S.size ≤ 1099511627776) (hn : n ≤ 65535) :
    Calls Tryz.prog 125 #[.string S, .int .i64 a, .int .i64 n, .func (.func 126) #[] #[]] w (RRd w (rdRow (fR (bs S)) n a)) := by
  have hgo : ∀ (args : Array Value) (wx : World), (callFunc 126 args).run Tryz.prog wx = .ok (.enter 126 args) wx := fun args wx => by kernel_rfl
  have HRd := Lib.hid fun (a : Nat) wx => rcRead_any S (a : Int) wx hS
  have HFb := Lib.hid fun (a : Nat) => rdR_fit (bs S) (a : Int) (by rw [bs_length]; exact hS)
  obtain ⟨p, hp⟩ : ∃ p, rdRow (fR (bs S)) n a = p := ⟨_, rfl⟩
  rw [hp]
  have HST : Hid (RRR w S n p (.int .i64 a) nilS (.int .i64 0) w) := Lib.hid ⟨0, a, [], rfl, rfl, Nat.zero_le _, RowR.nil _ _, rfl, by rw [Nat.sub_zero]; show rdCons [] _ = _; rw [rdCons_nil _ (fun h => rdRow_err h)]; exact hp, Below.refl _ _, fun x h => (nomatch h)⟩
  clear hp hS
  go_enter Tryz.func125, Tryz.ntmps125
  go_wp2
  go_loopw [1, 8, 15] (fun va vr vi wr => RRR w S n p va vr vi wr) (fun _ _ vi _ => n - (intOf vi).toNat)
  case atStart => exact HST.out
  case round =>
    clear HST
    obtain ⟨k, a, X, rfl, rfl, hk, hr⟩ := hrel
    have HR := Lib.hid hr
    clear hr
    rcases Nat.lt_or_ge k n with hlt | hge
    · have hf : fR (bs S) a = ((rdR (bs S) (a : Nat)).e, (rdR (bs S) (a : Nat)).k, (rdR (bs S) (a : Nat)).r) := rfl
      have hrd := HRd.out a wr
      have hfb := HFb.out a
      have heq := HR.out.eq
      have hnk : n - k = (n - (k + 1)) + 1 := by omega
      rw [hnk] at heq
      obtain ⟨y, hy⟩ : ∃ y, rdR (bs S) ((a : Nat) : Int) = y := ⟨_, rfl⟩
      rw [hy] at hf hrd hfb
      have hlen := HR.out.len
      have hfew : X.length ≤ 99999 := by omega
      have HFb := Lib.hid hfb
      have HFew := Lib.hid hfew
      clear hlen hy hnk hfew hfb
      by_cases hz : y.e = 0
      · rw [rdCons_step (X.map Prod.fst) (by rw [hf]; exact hz), hf] at heq
        unfold RecR at hrd
        rw [hz] at hrd
        have hne : ((((0 : Nat) : Nat) : Int) != 0) = false := rfl
        have HEq := Lib.hid heq
        have HRD := Lib.hid hrd
        clear heq hrd hf hz
        go_wp2_with fail
        refine HRD.out.mono ?_
        rintro e w1 ⟨tv, rfl, hsr, ⟨A, nn, cap, rfl⟩, hbk, hb1⟩
        have HB1 := Lib.hid (HR.out.bel.trans (hb1.mono HR.out.bel.size))
        have HO1 := Lib.hid (HR.out.own.next hb1)
        have HFt := Lib.hid (HFb.out.fit hsr)
        have HFar : Hid (∀ j, blk (.slice A nn cap) = some j → _ ≠ some j) := Lib.hid fun j hj e2 => by
          have h1 := hbk j hj
          have h2 := (HR.out.own.own.block e2).2.1
          omega
        have HLo : Hid (∀ j, blk (.slice A nn cap) = some j → w.heap.size ≤ j) := Lib.hid fun j hj => Nat.le_trans HR.out.bel.size (hbk j hj)
        have hst := store_r y.r A nn cap
        have hbs := build_r y.r A nn cap
        have hl2 := fun wx : World => load_rl (Lies.new wx 32 (cellsR y.r (.slice A nn cap)))
        have HL := Lib.hid fun (wx : World) (o : Obj) => boxed2 wx o 32 (cellsR y.r (.slice A nn cap))
        obtain ⟨C, hC⟩ : ∃ C, cellsR y.r (.slice A nn cap) = C := ⟨_, rfl⟩
        obtain ⟨V, hV⟩ : ∃ V, recV y.r (.slice A nn cap) = V := ⟨_, rfl⟩
        obtain ⟨tv, htv⟩ : ∃ v, Value.slice A nn cap = v := ⟨_, rfl⟩
        rw [hV]
        simp only [hV] at hst hl2 hbs
        simp only [hC] at hst hl2 hbs
        have HSt := Lib.hid hst
        have HBs := Lib.hid hbs
        have HL2 := Lib.hid hl2
        rw [htv] at HFar HFt HLo
        have HL' : Hid (∀ (wx : World) (o : Obj), Lies ((wx.alloc o).alloc (.cells C 32)) (wx.heap.size + 1) 32 (cellsR y.r tv)) := Lib.hid fun wx o => by have := HL.out wx o; rw [hC] at this; rw [← htv, hC]; exact this
        have HL3 : Hid (∀ (wx : World) (o : Obj), Lies ((wx.alloc o).alloc (.cells C 32)) (wx.alloc o).heap.size 32 (cellsR y.r tv)) := Lib.hid fun wx o => by have := Lies.new (wx.alloc o) 32 C; rw [← htv, hC]; exact this
        clear hst hbs hl2 hV hC htv HL hsr hbk hb1
        go_wp2_with (first | (refine wpList_alloc1 rfl 32 rfl _ (alloc_r _) ?_) | (refine wpList_store1 rfl 32 (.tmp 11) (.tmp 22) rfl _ V rfl rfl (HSt.out _) ?_) | (refine wpList_load1 rfl 32 (.tmp 11) rfl _ V rfl (HL2.out _) ?_) | (refine wpList_build1 rfl 52 (.tmp 29) rfl V _ rfl (HBs.out _) ?_) | (at_builtin; refine app_r3 rfl (.tmp 28) (.tmp 30) rfl rfl (HO1.out.two _ _) y.r tv (HFt.out.next (below2 _ _ _)) HFar.out _ rfl (by first | exact HL'.out _ _ | exact HL3.out _ _) HFew.out (below_two HB1.out _ _).size ?_; intro v5 w5 h5 hb5; have HO5 := Lib.hid h5; have HB5 := Lib.hid ((below_two HB1.out _ _).trans hb5); clear h5 hb5))
        go_roundw
        case rel => exact ⟨k + 1, _, _, rfl, by go_num, hlt, HO5.out, by rw [List.length_append, HR.out.len]; rfl, by rw [List.map_append]; exact HEq.out, HB5.out, fun x hx => (List.mem_append.1 hx).elim (HR.out.lo x) (fun e => by rw [List.mem_singleton.1 e]; exact HLo.out)⟩
        case measure => simp [intOf]; omega
      · have hp : p = (y.e, 0, []) := by
          rw [← heq, rdRow_bad (by rw [hf]; exact hz), hf]
          unfold rdCons
          rw [if_neg hz]
        subst hp
        have hne : (((y.e : Nat) : Int) != 0) = true := by simpa using hz
        have HRD := Lib.hid hrd
        clear heq hrd hf hz
        go_wp2_with fail
        refine HRD.out.mono ?_
        rintro e w1 ⟨tv, rfl, hsr, ⟨A, nn, cap, rfl⟩, hbk, hb1⟩
        have HB1 := Lib.hid (HR.out.bel.trans (hb1.mono HR.out.bel.size))
        have hst := store_r y.r A nn cap
        obtain ⟨C, hC⟩ : ∃ C, cellsR y.r (.slice A nn cap) = C := ⟨_, rfl⟩
        obtain ⟨V, hV⟩ : ∃ V, recV y.r (.slice A nn cap) = V := ⟨_, rfl⟩
        rw [hV]
        simp only [hV, hC] at hst
        have HSt := Lib.hid hst
        clear hst hV hC hsr hbk hb1
        go_wp2_with (first | (refine wpList_alloc1 rfl 32 rfl _ (alloc_r _) ?_) | (refine wpList_store1 rfl 32 (.tmp 11) (.tmp 22) rfl _ V rfl rfl (HSt.out _) ?_))
        refine bodyPost_ret (v := .tuple #[.slice none 0 0, .int .i64 0, .int .i64 (y.e : Nat)]) (by simp [results, Tryz.results125, go_sem]) rfl ⟨_, [], rfl, rfl, RowR.nil _ _, fun x h => (nomatch h), ?_⟩
        exact HB1.out.alloc HB1.out.size _
    · obtain rfl : k = n := by omega
      have hp : p = (0, a, X.map Prod.fst) := by
        rw [← HR.out.eq, Nat.sub_self]
        unfold rdCons rdRow
        simp
      subst hp
      go_wp2
      refine bodyPost_ret (v := .tuple #[_, .int .i64 (a : Nat), .int .i64 0]) (by simp [results, Tryz.results125, go_sem]) rfl ⟨_, X, rfl, rfl, HR.out.own, HR.out.lo, HR.out.bel⟩
end Go.Proofs.YtdpgcgaalamgkaaGreat
