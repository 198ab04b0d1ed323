/-
  NameCalls: names are made, looked at, told, read and compared as the document's own answers: the walk. Condition: what came in is no longer than Go's own limit.
-/
import Derived.Test.YtjflmifolmpdgaaNmRefG
import Derived.Test.YtjflmifolmpdgaaNmLives
namespace Go.Proofs.Ytjflmifolmpdgaa
open Go.RowKit
set_option linter.unusedVariables false

set_option maxRecDepth 100000 in
set_option maxHeartbeats 4000000 in
theorem ncalls_long (a b s : ByteArray) (A : Option Addr) (n cap : Nat) (w : World) (ha : a.size ≤ maxLen) (hb : b.size ≤ maxLen) (hs : s.size ≤ maxLen) (hn : n ≤ maxLen)
    (h : 400 < a.size ∨ (a.size ≤ 400 ∧ 400 < b.size) ∨ (a.size ≤ 400 ∧ b.size ≤ 400 ∧ 140 < n) ∨ (a.size ≤ 400 ∧ b.size ≤ 400 ∧ n ≤ 140 ∧ 1600 < s.size)) :
    Calls Try.prog 4 #[.string a, .string b, .slice A n cap, .string s] w fun e w' => e = .returned (.bool true) ∧ Below w.heap.size w w' := by
  unfold maxLen at ha hb hs hn
  rcases h with h | ⟨k1, k2⟩ | ⟨k1, k2, k3⟩ | ⟨k1, k2, k3, k4⟩
  all_goals
    go_enter Try.func4, Try.ntmps4
    go_wp2_with (first | (go_at_call 11; ((with_reducible refine (lives2 _).mono ?_); rintro e w' ⟨rfl, hb'⟩; have hbb := hb')))
    go_ret
    exact ⟨rfl, hbb⟩

/-- The slice that came in can be read, later too. -/
def QRow (w : World) (A : Option Addr) (L : List ByteArray) : Prop := ∀ wx, Below w.heap.size w wx → ∀ k (h : k < L.length), ∃ g off, A = some ⟨g, off, none⟩ ∧ wx.cell? ⟨g, off + k, none⟩ = some (.string L[k])
/-- What a call hands back in any later world. -/
abbrev Later (w : World) (f : FuncId) (args : Array Value) (v : Value) : Prop := ∀ wx, Below w.heap.size w wx → Calls Try.prog f args wx fun e w' => e = .returned v ∧ Below wx.heap.size wx w'
def NcRel (L : List ByteArray) (w : World) (i : Value) (wr : World) : Prop := ∃ k : Nat, i = .int .i64 k ∧ k ≤ L.length ∧ Hid (∀ x ∈ L.take k, x.size ≤ 400) ∧ Below w.heap.size w wr

set_option maxRecDepth 100000 in
set_option maxHeartbeats 16000000 in
theorem ncalls_core (a b s : ByteArray) (A : Option Addr) (L : List ByteArray) (cap : Nat) (M T X P J F : ByteArray) (Em Et Ex Ej K : Nat) (Bp S U Wd Mt : Bool) (C : Int) (w : World)
    (ha : a.size ≤ 400) (hb : b.size ≤ 400) (hn : L.length ≤ 140) (hs : s.size ≤ 1600) (hL : ∀ x ∈ L, x.size ≤ maxLen) (hrow : QRow w A L)
    (m1 : (∀ x ∈ L, x.size ≤ 400) → Later w 23 #[.slice A L.length cap] (.tuple #[.string M, .int .i64 Em])) (m2 : (∀ x ∈ L, x.size ≤ 400) → Later w 24 #[.slice A L.length cap] (.tuple #[.string M, .int .i64 Em]))
    (t1 : Gives 14 #[.string a] (.tuple #[.string T, .int .i64 Et])) (t2 : Gives 25 #[.string a] (.tuple #[.string T, .int .i64 Et]))
    (r1 : Gives 12 #[.string s] (.tuple #[.string X, .int .i64 Ex])) (r2 : Gives 26 #[.string s] (.tuple #[.string X, .int .i64 Ex]))
    (p1 : Gives 15 #[.string a] (.tuple #[.string P, .bool Bp])) (p2 : Gives 27 #[.string a] (.tuple #[.string P, .bool Bp]))
    (j1 : Gives 16 #[.string a, .string b] (.tuple #[.string J, .int .i64 Ej])) (j2 : Gives 28 #[.string a, .string b] (.tuple #[.string J, .int .i64 Ej]))
    (k1 : Gives 17 #[.string a] (.int .i64 K)) (k2 : Gives 29 #[.string a] (.int .i64 K))
    (l1 : ∀ wx, Calls Try.prog 31 #[.string a] wx (Lbs wx (nlabs (bs a)))) (l2 : ∀ wx, Calls Try.prog 32 #[.string a] wx (RLbs wx (nlabs (bs a))))
    (f1 : Gives 18 #[.string a] (.string F)) (f2 : Gives 33 #[.string a] (.string F))
    (s1 : Gives 19 #[.string a, .string b] (.bool S)) (s2 : Gives 34 #[.string a, .string b] (.bool S))
    (c1 : Gives 20 #[.string a, .string b] (.int .i64 C)) (c2 : Gives 35 #[.string a, .string b] (.int .i64 C))
    (u1 : Gives 21 #[.string a, .string b] (.bool U)) (u2 : Gives 36 #[.string a, .string b] (.bool U))
    (w1 : Gives 22 #[.string a] (.bool Wd)) (w2 : Gives 37 #[.string a] (.bool Wd))
    (x1 : Gives 38 #[.string a, .string b] (.bool Mt)) (x2 : Gives 39 #[.string a, .string b] (.bool Mt)) :
    Calls Try.prog 4 #[.string a, .string b, .slice A L.length cap, .string s] w fun e w' => e = .returned (.bool true) ∧ Below w.heap.size w w' := by
  have HL := Lib.hid hL
  have HR := Lib.hid hrow
  have HM1 := Lib.hid m1
  have HM2 := Lib.hid m2
  have hN := nlabs_len (bs a)
  clear hL hrow m1 m2
  go_enter Try.func4, Try.ntmps4
  go_wp2_with (first | (go_at_call 11; ((with_reducible refine (lives2 _).mono ?_); rintro e w' ⟨rfl, hb'⟩; have hbb := hb')))
  have HBB := Lib.hid hbb
  clear hbb
  go_loopw [9] (fun i wr => NcRel L w i wr) (fun i _ => L.length - (intOf i).toNat)
  case atStart => exact ⟨0, rfl, Nat.zero_le _, Lib.hid (fun x hx => by cases hx), HBB.out⟩
  case round =>
    obtain ⟨k, rfl, hk, hsz, hbk⟩ := hrel
    by_cases hlt : k < L.length
    · obtain ⟨g, off, hA, hcell⟩ := HR.out _ hbk k hlt
      subst hA
      have hxm := HL.out L[k] (List.getElem_mem hlt)
      have hst : ∀ x ∈ L.take (k + 1), x.size ≤ 400 ∨ x = L[k] := fun x hx => by
        rw [List.take_succ_eq_append_getElem hlt] at hx
        rcases List.mem_append.1 hx with h | h
        · exact .inl (hsz.out x h)
        · exact .inr (List.mem_singleton.1 h)
      obtain ⟨x, hx⟩ : ∃ x, x = L[k] := ⟨_, rfl⟩
      rw [← hx] at hcell hxm hst
      have i1 : (k : Int) < L.length := by omega
      unfold maxLen at hxm
      by_cases hbig : 400 < x.size
      · have i2 : (400 : Int) < x.size := by omega
        clear hx hst
        go_wp2
        go_ret
        exact ⟨rfl, hbk⟩
      · have i2 : ¬ (400 : Int) < x.size := by omega
        have HS : Hid (∀ x ∈ L.take (k + 1), x.size ≤ 400) := Lib.hid (fun y hy => by
          rcases hst y hy with h | rfl
          · exact h
          · omega)
        clear hx hst
        go_wp2
        go_roundw
        case rel => exact ⟨k + 1, by go_num, hlt, HS, hbk⟩
        case measure => simp [intOf]; omega
    · have hall : ∀ x ∈ L, x.size ≤ 400 := by
        have := hsz.out
        rw [List.take_of_length_le (by omega)] at this
        exact this
      have M1 := Lib.hid (HM1.out hall)
      have M2 := Lib.hid (HM2.out hall)
      have i1 : ¬ (k : Int) < L.length := by omega
      have hbb := hbk
      clear HM1 HM2 hall hsz
      go_wp2_with fail
      refine (M1.out _ hbb).mono ?_
      rintro e v1 ⟨rfl, hb'⟩
      replace hbb := next hbb hb'
      clear hb'
      go_wp2_with fail
      refine (M2.out _ hbb).mono ?_
      rintro e v1 ⟨rfl, hb'⟩
      replace hbb := next hbb hb'
      clear hb'
      go_wp2_with fail
      refine (t1 _).mono ?_
      rintro e w' ⟨rfl, hb'⟩
      replace hbb := next hbb hb'
      clear hb'
      go_wp2_with fail
      refine (t2 _).mono ?_
      rintro e w' ⟨rfl, hb'⟩
      replace hbb := next hbb hb'
      clear hb'
      go_wp2_with fail
      refine (r1 _).mono ?_
      rintro e w' ⟨rfl, hb'⟩
      replace hbb := next hbb hb'
      clear hb'
      go_wp2_with fail
      refine (r2 _).mono ?_
      rintro e w' ⟨rfl, hb'⟩
      replace hbb := next hbb hb'
      clear hb'
      go_wp2_with fail
      refine (p1 _).mono ?_
      rintro e w' ⟨rfl, hb'⟩
      replace hbb := next hbb hb'
      clear hb'
      go_wp2_with fail
      refine (p2 _).mono ?_
      rintro e w' ⟨rfl, hb'⟩
      replace hbb := next hbb hb'
      clear hb'
      go_wp2_with fail
      refine (j1 _).mono ?_
      rintro e w' ⟨rfl, hb'⟩
      replace hbb := next hbb hb'
      clear hb'
      go_wp2_with fail
      refine (j2 _).mono ?_
      rintro e w' ⟨rfl, hb'⟩
      replace hbb := next hbb hb'
      clear hb'
      go_wp2_with fail
      refine (k1 _).mono ?_
      rintro e w' ⟨rfl, hb'⟩
      replace hbb := next hbb hb'
      clear hb'
      go_wp2_with fail
      refine (k2 _).mono ?_
      rintro e w' ⟨rfl, hb'⟩
      replace hbb := next hbb hb'
      clear hb'
      go_wp2_with fail
      refine (l1 _).mono ?_
      rintro e v1 ⟨s1v, L1, rfl, hr1, hl1, hb'⟩
      replace hbb := next hbb hb'
      clear hb'
      obtain ⟨A1, ca1, rfl, _, _⟩ := hr1.shape
      have HR1 := Lib.hid hr1
      have HL1 := Lib.hid hl1
      clear hr1 hl1
      go_wp2_with fail
      refine (l2 _).mono ?_
      rintro e v2 ⟨s2v, L2, rfl, hr2, hl2, hb'⟩
      have HR1' := Lib.hid (HR1.out.next hb')
      replace hbb := next hbb hb'
      clear hb'
      obtain ⟨A2, ca2, rfl⟩ := hr2.shape
      have hLL : L1 = L2 := by
        have h := HL1.out.trans hl2.symm
        have hi : Function.Injective bs := fun x y h => bs_inj h
        exact (List.map_inj_right (fun x y h => bs_inj h)).1 h
      subst hLL
      have hn1 : L1.length ≤ 127 := by rw [labs_len HL1.out]; exact hN
      have HR2 := Lib.hid hr2.row
      clear hr2 hl2
      go_wp2_with fail
      refine (kSame_same A1 A2 ca1 ca2 L1 _ hn1 HR1'.out HR2.out).mono ?_
      rintro e v3 ⟨rfl, hb'⟩
      replace hbb := next hbb hb'
      clear hb'
      go_wp2_with fail
      refine (f1 _).mono ?_
      rintro e w' ⟨rfl, hb'⟩
      replace hbb := next hbb hb'
      clear hb'
      go_wp2_with fail
      refine (f2 _).mono ?_
      rintro e w' ⟨rfl, hb'⟩
      replace hbb := next hbb hb'
      clear hb'
      go_wp2_with fail
      refine (s1 _).mono ?_
      rintro e w' ⟨rfl, hb'⟩
      replace hbb := next hbb hb'
      clear hb'
      go_wp2_with fail
      refine (s2 _).mono ?_
      rintro e w' ⟨rfl, hb'⟩
      replace hbb := next hbb hb'
      clear hb'
      go_wp2_with fail
      refine (c1 _).mono ?_
      rintro e w' ⟨rfl, hb'⟩
      replace hbb := next hbb hb'
      clear hb'
      go_wp2_with fail
      refine (c2 _).mono ?_
      rintro e w' ⟨rfl, hb'⟩
      replace hbb := next hbb hb'
      clear hb'
      go_wp2_with fail
      refine (u1 _).mono ?_
      rintro e w' ⟨rfl, hb'⟩
      replace hbb := next hbb hb'
      clear hb'
      go_wp2_with fail
      refine (u2 _).mono ?_
      rintro e w' ⟨rfl, hb'⟩
      replace hbb := next hbb hb'
      clear hb'
      go_wp2_with fail
      refine (w1 _).mono ?_
      rintro e w' ⟨rfl, hb'⟩
      replace hbb := next hbb hb'
      clear hb'
      go_wp2_with fail
      refine (w2 _).mono ?_
      rintro e w' ⟨rfl, hb'⟩
      replace hbb := next hbb hb'
      clear hb'
      go_wp2_with fail
      refine (x1 _).mono ?_
      rintro e w' ⟨rfl, hb'⟩
      replace hbb := next hbb hb'
      clear hb'
      go_wp2_with fail
      refine (x2 _).mono ?_
      rintro e w' ⟨rfl, hb'⟩
      replace hbb := next hbb hb'
      clear hb'
      go_wp2
      go_ret
      exact ⟨by simp, hbb⟩
end Go.Proofs.Ytjflmifolmpdgaa
