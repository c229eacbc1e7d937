/-
  impl.headSort at a variable, and at any node.
  The sorts that operators demand of their arguments: the methods demanded of the three kinds, and how an interface call finds them.
-/
import Derived.Test.YtidbokheeieifaaQ8
namespace Go.Proofs.Ytidbokheeieifaa
open Go.RowKit

/-- The map mv tells the sorts that g tells, in every world behind w. -/
def MapIs (mv : Value) (g : ByteArray → ByteArray) (w : World) : Prop :=
  ∀ w', Below w.heap.size w w' → ∀ s : ByteArray, s.size ≤ maxLen → (Instr.lookup 117 mv (.string s) false).run Try.prog w' = .ok (.string (g s)) w'
theorem MapIs.below {mv : Value} {g : ByteArray → ByteArray} {w w' : World} (h : MapIs mv g w) (hb : Below w.heap.size w w') : MapIs mv g w' := fun w2 h2 => h w2 (hb.trans (h2.mono hb.size))

set_option maxRecDepth 100000 in
set_option maxHeartbeats 1600000 in
theorem head1_any (x : Value) (ps : List ByteArray) (ds : List OpD) (n : Int) (s : ByteArray) (a : Option Addr) (m cap : Nat) (mv : Value) (g : ByteArray → ByteArray) (w : World) (hv : SigAt w x ps ds) (hm : MapIs mv g w) (hs : s.size ≤ maxLen) :
    Calls Try.prog 120 #[x, tv 1 n s (.slice a m cap), mv] w (TextB (g s) w) := by
  obtain ⟨sa, sb, rfl, hs', ht⟩ := hv
  obtain ⟨sa, sc, rfl⟩ := hs'.slice
  obtain ⟨ta, tc, rfl⟩ := ht.slice
  clear hs' ht
  have hq := asVV
  have hq2 := asVW
  obtain ⟨pl, hpl⟩ : ∃ z, z = ps.length := ⟨_, rfl⟩
  obtain ⟨dl, hdl⟩ : ∃ z, z = ds.length := ⟨_, rfl⟩
  rw [← hpl, ← hdl]
  clear hpl hdl
  have hbF : Below w.heap.size w ((boxed ((w.alloc (.cells #[.slice sa pl sc, .slice ta dl tc] 49)).alloc (.cells #[.int .i64 1, .int .i64 n, .string s, .slice a m cap] 26)) 1 n s (.slice a m cap)).alloc (.cells #[.string s] 198)) := ((((Below.refl _ _).alloc (Nat.le_refl _) _).alloc (by simp) _).alloc (by simp; omega) _).alloc (by simp; omega) _
  have hlook := hm _ hbF s hs
  have HBF := Lib.hid hbF; clear hbF hm hs
  go_enter Try.func120, Try.ntmps120
  go_wp2_with (go_at_call 140; refine (form1_any _ _ _ _).mono ?_; rintro e w1 ⟨rfl, rfl⟩)
  go_ret
  exact ⟨rfl, HBF.out⟩

/-- The sort of a node if its m arguments are right. -/
def nodeSort (ds : List OpD) (g : ByteArray → ByteArray) (k : Int) (s : ByteArray) (m : Nat) : ByteArray := if k = 3 then kWord else if k = 1 then g s else if k = 2 then headD ds s m else zE
theorem head_any (x : Value) (ps : List ByteArray) (ds : List OpD) (k n : Int) (s : ByteArray) (a : Option Addr) (m cap : Nat) (mv : Value) (g : ByteArray → ByteArray) (w : World) (hn : ds.length ≤ 1048576) (ha : ∀ d ∈ ds, d.args.length ≤ 1048576)
    (hv : SigAt w x ps ds) (hm : MapIs mv g w) (hs : s.size ≤ maxLen) : Calls Try.prog 120 #[x, tv k n s (.slice a m cap), mv] w (TextB (nodeSort ds g k s m) w) := by
  unfold nodeSort
  by_cases h3 : k = 3
  · subst h3; exact head3_any x ps ds n s a m cap mv w hv
  by_cases h1 : k = 1
  · subst h1; exact head1_any x ps ds n s a m cap mv g w hv hm hs
  by_cases h2 : k = 2
  · subst h2; exact head2_any x ps ds n s a m cap mv w hn ha hv
  rw [if_neg h3, if_neg h1, if_neg h2]
  exact head0_any x ps ds k n s a m cap mv w hv h1 h2 h3
end Go.Proofs.Ytidbokheeieifaa
namespace Go.Proofs.Ytidbokheeieifaa
open Go.RowKit

/-- The sort that the operator that a name finds demands of its argument i; nothing where there is no such argument. -/
def demT (o : Option OpD) (i : Nat) : ByteArray := ((o.getD zOp).args[i]?).getD zE

theorem dBu (f : Nat) (a b c : Value) (W : World) : (method (f + 1) 228 (.agg #[a, b, c]) "loop.example/g00517/impl.demanded").run Try.prog W = .ok (212, .agg #[a, b, c]) W := by kernel_rfl
theorem dDe (f : Nat) (a b c d : Value) (W : World) : (method (f + 1) 230 (.agg #[a, b, c, d]) "loop.example/g00517/impl.demanded").run Try.prog W = .ok (213, .agg #[a, b, c, d]) W := by kernel_rfl
theorem dMi (f : Nat) (a b c : Value) (W : World) : (method (f + 1) 213 (.agg #[a, b, c]) "loop.example/g00517/impl.demanded").run Try.prog W = .ok (210, .agg #[a, b, c]) W := by kernel_rfl

set_option maxRecDepth 100000 in
set_option maxHeartbeats 400000 in
theorem demBu_any (nm : ByteArray) (i : Nat) (w : World) :
    Calls Try.prog 212 #[.agg #[.string nm, .int .i64 2, .string kWord], .int .i64 i] w (TextB (demT (some ⟨nm, [kWord, kWord], kWord⟩) i) w) := by
  have HB : Hid (∀ o, Below w.heap.size w (w.alloc o)) := Lib.hid (fun o => (Below.refl _ _).alloc (Nat.le_refl _) _)
  by_cases h : (i : Int) < 2
  · have HE : Hid (demT (some ⟨nm, [kWord, kWord], kWord⟩) i = kWord) := Lib.hid (by
      match i, h with
      | 0, _ => rfl
      | 1, _ => rfl
      | i + 2, h => omega)
    go_enter Try.func212, Try.ntmps212
    go_wp2
    go_ret
    exact ⟨by rw [HE.out]; rfl, HB.out _⟩
  · have HE : Hid (demT (some ⟨nm, [kWord, kWord], kWord⟩) i = zE) := Lib.hid (by
      unfold demT
      rw [List.getElem?_eq_none (by show 2 ≤ i; omega)]
      rfl)
    go_enter Try.func212, Try.ntmps212
    go_wp2
    go_ret
    exact ⟨by rw [HE.out]; rfl, HB.out _⟩

set_option maxRecDepth 100000 in
set_option maxHeartbeats 400000 in
theorem demMi_any (a b c : Value) (i : Nat) (w : World) :
    Calls Try.prog 210 #[.agg #[a, b, c], .int .i64 i] w (TextB (demT none i) w) := by
  have HB : Hid (∀ o, Below w.heap.size w (w.alloc o)) := Lib.hid (fun o => (Below.refl _ _).alloc (Nat.le_refl _) _)
  have HE : Hid (demT none i = zE) := Lib.hid (by simp [demT, zOp])
  go_enter Try.func210, Try.ntmps210
  go_wp2
  go_ret
  exact ⟨by rw [HE.out]; rfl, by first | exact HB.out _ | exact Below.refl _ _⟩

set_option maxRecDepth 100000 in
set_option maxHeartbeats 800000 in
theorem demDe_any (d : OpD) (u : Value) (i : Nat) (w : World) (hl : d.args.length ≤ 1048576) (hu : StrsAt w u d.args) :
    Calls Try.prog 213 #[.agg #[.string d.name, .int .i64 d.args.length, .string d.res, u], .int .i64 i] w (TextB (demT (some d) i) w) := by
  obtain ⟨nm, das, dr⟩ := d
  have HU := Lib.hid hu
  obtain ⟨a, c, rfl⟩ := hu.slice
  clear hu
  have HB : Hid (∀ o, Below w.heap.size w (w.alloc o)) := Lib.hid (fun o => (Below.refl _ _).alloc (Nat.le_refl _) _)
  obtain ⟨q, hq⟩ : ∃ z, z = das.length := ⟨_, rfl⟩
  have HQ := Lib.hid hq
  have hl' : q ≤ 1048576 := by rw [hq]; exact hl
  show Calls _ _ #[.agg #[.string nm, .int .i64 das.length, .string dr, .slice a das.length c], .int .i64 i] w _
  have HU2 : Hid (StrsAt w (.slice a das.length c) das) := Lib.hid HU.out
  clear HU hl
  rw [← hq] at HU2 ⊢
  clear hq
  by_cases h : i < q
  · obtain ⟨p, hp⟩ : ∃ p, das[i]? = some p := ⟨_, List.getElem?_eq_getElem (by rw [← HQ.out]; exact h)⟩
    have HE : Hid (demT (some ⟨nm, das, dr⟩) i = p) := Lib.hid (by show (das[i]?).getD zE = p; rw [hp]; rfl)
    obtain ⟨b, o, cc, e, hc⟩ := HU2.out.at hp
    obtain ⟨rfl, -, rfl⟩ : a = some ⟨b, o, none⟩ ∧ q = das.length ∧ c = cc := by simpa using e
    have hlt := World.block_lt_of_cell? w _ hc
    have hc2 : ∀ ob, (w.alloc ob).cell? ⟨b, o + i, none⟩ = some (.string p) := fun ob => by rw [(((Below.refl w.heap.size w).alloc (Nat.le_refl _) ob)).cell hlt]; exact hc
    clear e hp hc hlt
    go_enter Try.func213, Try.ntmps213
    go_wp2
    go_ret
    exact ⟨by rw [HE.out]; rfl, HB.out _⟩
  · have HE : Hid (demT (some ⟨nm, das, dr⟩) i = zE) := Lib.hid (by show (das[i]?).getD zE = zE; rw [List.getElem?_eq_none (by rw [← HQ.out]; omega)]; rfl)
    go_enter Try.func213, Try.ntmps213
    go_wp2
    go_ret
    exact ⟨by rw [HE.out]; rfl, HB.out _⟩
end Go.Proofs.Ytidbokheeieifaa
