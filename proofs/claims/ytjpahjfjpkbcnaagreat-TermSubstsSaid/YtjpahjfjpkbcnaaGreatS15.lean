/- Contracts of the program's functions. -/
import Derived.Test.YtjpahjfjpkbcnaaGreatS02
import Derived.Test.YtjpahjfjpkbcnaaGreatS05
import Derived.Test.YtjpahjfjpkbcnaaGreatS09
import Derived.Test.YtjpahjfjpkbcnaaGreatS03
import Derived.Test.YtjpahjfjpkbcnaaGreatS11

namespace Go.Proofs.YtjpahjfjpkbcnaaGreat
open Go.Proofs Go.RowKit
def Loose (w : World) (b : Nat) : Prop := ∀ j, w.frozen? ⟨b, j, none⟩ = false
theorem Loose.of {w w' : World} {b : Nat} (h : Loose w b) (he : w'.heap[b]? = w.heap[b]?) : Loose w' b := fun j => by
 have := h j
 simp only [World.frozen?, he] at this ⊢
 exact this
mutual
def SepM (B : Nat → Prop) (w : World) : Tm → Value → Prop
 | .mk op n text kids pats, v => ∃ (kv pv : Value) (BK BP : Nat → Prop), v = .agg #[.int .i64 op, .int .i64 n, .string text, kv, pv] ∧ text.size ≤ maxLen ∧ (∀ x, BK x → B x ∧ ¬ BP x) ∧ (∀ x, BP x → B x) ∧
  SlIn BK kv kids.length (fun b o => Loose w b ∧ SepsM BK w kids b o) ∧ SlIn BP pv pats.length (fun b o => PtsIn BP w pats b o)
def SepsM (B : Nat → Prop) (w : World) : List Tm → Nat → Nat → Prop
 | [], _, _ => True
 | p :: ps, b, o => ∃ B1 : Nat → Prop, (∀ x, B1 x → B x ∧ x ≠ b) ∧ (∃ c0 c1 c2 c3 c4, w.cell? ⟨b, o, none⟩ = some c0 ∧ w.cell? ⟨b, o + 1, none⟩ = some c1 ∧ w.cell? ⟨b, o + 2, none⟩ = some c2 ∧ w.cell? ⟨b, o + 3, none⟩ = some c3 ∧ w.cell? ⟨b, o + 4, none⟩ = some c4 ∧ SepM B1 w p (.agg #[c0, c1, c2, c3, c4])) ∧ SepsM (fun x => B x ∧ ¬ B1 x) w ps b (o + 5)
end
mutual
theorem SepM.keep {B B' : Nat → Prop} {w w' : World} (hb : ∀ b, B b → w'.heap[b]? = w.heap[b]?) (hB : ∀ b, B b → B' b) : ∀ (p : Tm) (v : Value), SepM B w p v → SepM B' w' p v
 | .mk op n text kids pats, v, h => by
  unfold SepM at h ⊢
  obtain ⟨kv, pv, BK, BP, h1, h2, h3, h4, h5, h6⟩ := h
  exact ⟨kv, pv, BK, BP, h1, h2, fun x hx => ⟨hB x (h3 x hx).1, (h3 x hx).2⟩, fun x hx => hB x (h4 x hx), h5.mono (fun _ h => h) fun b o hlt hr => ⟨hr.1.of (hb b (h3 b hlt).1), SepsM.keep (fun b h => hb b (h3 b h).1) (fun _ h => h) kids b o hlt hr.2⟩, h6.mono (fun _ h => h) fun b o hlt hr => PtsIn.keep (fun b h => hb b (h4 b h)) (fun _ h => h) pats b o hlt hr⟩
theorem SepsM.keep {B B' : Nat → Prop} {w w' : World} (hb : ∀ b, B b → w'.heap[b]? = w.heap[b]?) (hB : ∀ b, B b → B' b) : ∀ (ps : List Tm) (b o : Nat), (B b) → SepsM B w ps b o → SepsM B' w' ps b o
 | [], _, _, _, _ => by unfold SepsM; trivial
 | p :: ps, b, o, hlt, h => by
  unfold SepsM at h ⊢
  obtain ⟨B1, hB1, ⟨c0, c1, c2, c3, c4, h0, h1, h2, h3, h4, hp⟩, hs⟩ := h
  exact ⟨B1, fun x hx => ⟨hB x (hB1 x hx).1, (hB1 x hx).2⟩, ⟨c0, c1, c2, c3, c4, (cell_of_heap (hb b hlt)).trans h0, (cell_of_heap (hb b hlt)).trans h1, (cell_of_heap (hb b hlt)).trans h2, (cell_of_heap (hb b hlt)).trans h3, (cell_of_heap (hb b hlt)).trans h4, SepM.keep (fun b h => hb b (hB1 b h).1) (fun _ h => h) p _ hp⟩,
   SepsM.keep (fun b h => hb b h.1) (fun b h => ⟨hB b h.1, h.2⟩) ps b _ ⟨hlt, fun h => (hB1 b h).2 rfl⟩ hs⟩
end
theorem TmIn.weak {B B' : Nat → Prop} {w : World} (hB : ∀ b, B b → B' b) : ∀ (p : Tm) (v : Value), TmIn B w p v → TmIn B' w p v
 | p, v, h => TmIn.keep (fun _ _ => rfl) hB p v h
theorem TmsIn.weak {B B' : Nat → Prop} {w : World} (hB : ∀ b, B b → B' b) : ∀ (ps : List Tm) (b o : Nat), TmsIn B w ps b o → TmsIn B' w ps b o
 | [], _, _, _ => by unfold TmsIn; trivial
 | p :: ps, b, o, h => by
  unfold TmsIn at h ⊢
  obtain ⟨⟨c0, c1, c2, c3, c4, h0, h1, h2, h3, h4, hp⟩, hs⟩ := h
  exact ⟨⟨c0, c1, c2, c3, c4, h0, h1, h2, h3, h4, TmIn.keep (fun _ _ => rfl) hB p _ hp⟩, TmsIn.weak hB ps b _ hs⟩
mutual
theorem SepM.to {B : Nat → Prop} {w : World} : ∀ (p : Tm) (v : Value), SepM B w p v → TmIn B w p v
 | .mk op n text kids pats, v, h => by
  unfold SepM at h; unfold TmIn
  obtain ⟨kv, pv, BK, BP, h1, h2, h3, h4, h5, h6⟩ := h
  exact ⟨kv, pv, h1, h2, h5.mono (fun x h => (h3 x h).1) fun b o hlt hr => TmsIn.keep (fun _ _ => rfl) (fun x h => (h3 x h).1) kids b o hlt (SepsM.to kids b o hr.2), h6.mono h4 fun b o hlt hr => PtsIn.keep (fun _ _ => rfl) h4 pats b o hlt hr⟩
theorem SepsM.to {B : Nat → Prop} {w : World} : ∀ (ps : List Tm) (b o : Nat), SepsM B w ps b o → TmsIn B w ps b o
 | [], _, _, _ => by unfold TmsIn; trivial
 | p :: ps, b, o, h => by
  unfold SepsM at h; unfold TmsIn
  obtain ⟨B1, hB1, ⟨c0, c1, c2, c3, c4, h0, h1, h2, h3, h4, hp⟩, hs⟩ := h
  exact ⟨⟨c0, c1, c2, c3, c4, h0, h1, h2, h3, h4, TmIn.keep (fun _ _ => rfl) (fun x h => (hB1 x h).1) _ _ (SepM.to p _ hp)⟩, TmsIn.weak (fun x h => h.1) ps b _ (SepsM.to ps b _ hs)⟩
end
theorem SepM.shape {B : Nat → Prop} {w : World} {T : Tm} {v : Value} (h : SepM B w T v) : ∃ (o n : Int) (t : ByteArray) (ka : Option Addr) (kn kc : Nat) (pa : Option Addr) (pn pc : Nat), v = .agg #[.int .i64 o, .int .i64 n, .string t, .slice ka kn kc, .slice pa pn pc] := TmIn.shape (SepM.to _ _ h)
def FlatS (B : Nat → Prop) (w : World) : List Tm → List Value → Prop
 | [], cs => cs = []
 | p :: ps, cs => ∃ (B1 : Nat → Prop) (c0 c1 c2 c3 c4 : Value) (r : List Value), cs = c0 :: c1 :: c2 :: c3 :: c4 :: r ∧ (∀ x, B1 x → B x) ∧ SepM B1 w p (.agg #[c0, c1, c2, c3, c4]) ∧ FlatS (fun x => B x ∧ ¬ B1 x) w ps r
theorem FlatS.keep {w w' : World} : ∀ (ps : List Tm) (cs : List Value) (B B' : Nat → Prop), (∀ b, B b → w'.heap[b]? = w.heap[b]?) → (∀ b, B b → B' b) → FlatS B w ps cs → FlatS B' w' ps cs
 | [], _, _, _, _, _, h => h
 | _ :: ps, _, _, _, hb, hB, ⟨B1, c0, c1, c2, c3, c4, r, h1, h2, h3, h4⟩ => ⟨B1, c0, c1, c2, c3, c4, r, h1, fun x h => hB x (h2 x h), SepM.keep (fun b h => hb b (h2 b h)) (fun _ h => h) _ _ h3, FlatS.keep ps r _ _ (fun b h => hb b h.1) (fun b h => ⟨hB b h.1, h.2⟩) h4⟩
theorem FlatS.snoc {w : World} {p : Tm} {c0 c1 c2 c3 c4 : Value} {BN : Nat → Prop} (hp : SepM BN w p (.agg #[c0, c1, c2, c3, c4])) : ∀ (ps : List Tm) (cs : List Value) (B B' : Nat → Prop), (∀ x, B x → B' x) → (∀ x, BN x → B' x ∧ ¬ B x) → FlatS B w ps cs → FlatS B' w (ps ++ [p]) (cs ++ [c0, c1, c2, c3, c4])
 | [], _, _, _, _, hN, h => by cases h; exact ⟨BN, c0, c1, c2, c3, c4, [], rfl, fun x h => (hN x h).1, hp, rfl⟩
 | _ :: ps, _, B, B', hB, hN, ⟨B1, d0, d1, d2, d3, d4, r, h1, h2, h3, h4⟩ => ⟨B1, d0, d1, d2, d3, d4, r ++ [c0, c1, c2, c3, c4], by rw [h1]; rfl, fun x h => hB x (h2 x h), h3, FlatS.snoc hp ps r _ _ (fun x h => ⟨hB x h.1, h.2⟩) (fun x h => ⟨⟨(hN x h).1, fun h' => (hN x h).2 (h2 x h')⟩, fun h' => (hN x h).2 h'.1⟩) h4⟩
theorem SepsM.at' {BB : Nat → Prop} {w w' : World} : ∀ (ps : List Tm) (b o : Nat) (B : Nat → Prop), (∀ x, B x → x ≠ b → w'.heap[x]? = w.heap[x]?) → (∀ j, o ≤ j → w'.cell? ⟨b, j, none⟩ = w.cell? ⟨b, j, none⟩) → (∀ x, B x → BB x) → SepsM B w ps b o → TmsIn BB w' ps b o
 | [], _, _, _, _, _, _, _ => by unfold TmsIn; trivial
 | p :: ps, b, o, B, hh, hc, hn, h => by
  unfold SepsM at h; unfold TmsIn
  obtain ⟨B1, hB1, ⟨c0, c1, c2, c3, c4, h0, h1, h2, h3, h4, hp⟩, hs⟩ := h
  refine ⟨⟨c0, c1, c2, c3, c4, (hc o (by omega)).trans h0, (hc (o + 1) (by omega)).trans h1, (hc (o + 2) (by omega)).trans h2, (hc (o + 3) (by omega)).trans h3, (hc (o + 4) (by omega)).trans h4, ?_⟩, SepsM.at' ps b (o + 5) _ (fun x h => hh x h.1) (fun j hj => hc j (by omega)) (fun x h => hn x h.1) hs⟩
  exact TmIn.weak (fun x h => hn x (hB1 x h).1) _ _ (SepM.to _ _ (SepM.keep (fun x h => hh x (hB1 x h).1 (hB1 x h).2) (fun _ h => h) _ _ hp))
theorem SepsM.put {w : World} : ∀ (ps : List Tm) (b o : Nat) (B : Nat → Prop), SepsM B w ps b o → ∀ (k : Nat) (hk : k < ps.length),
  ∃ (Bk : Nat → Prop) (c0 c1 c2 c3 c4 : Value), (∀ x, Bk x → B x ∧ x ≠ b) ∧ w.cell? ⟨b, o + k * 5, none⟩ = some c0 ∧ w.cell? ⟨b, o + k * 5 + 1, none⟩ = some c1 ∧ w.cell? ⟨b, o + k * 5 + 2, none⟩ = some c2 ∧ w.cell? ⟨b, o + k * 5 + 3, none⟩ = some c3 ∧ w.cell? ⟨b, o + k * 5 + 4, none⟩ = some c4 ∧ SepM Bk w ps[k] (.agg #[c0, c1, c2, c3, c4]) ∧
   ∀ (BB : Nat → Prop) (w' : World) (T : Tm) (e0 e1 e2 e3 e4 : Value), (∀ x, B x → x ≠ b → ¬ Bk x → w'.heap[x]? = w.heap[x]?) → (∀ j, (j < o + k * 5 ∨ o + k * 5 + 5 ≤ j) → w'.cell? ⟨b, j, none⟩ = w.cell? ⟨b, j, none⟩) → (∀ x, B x → BB x) →
    w'.cell? ⟨b, o + k * 5, none⟩ = some e0 → w'.cell? ⟨b, o + k * 5 + 1, none⟩ = some e1 → w'.cell? ⟨b, o + k * 5 + 2, none⟩ = some e2 → w'.cell? ⟨b, o + k * 5 + 3, none⟩ = some e3 → w'.cell? ⟨b, o + k * 5 + 4, none⟩ = some e4 → TmIn BB w' T (.agg #[e0, e1, e2, e3, e4]) → TmsIn BB w' (ps.set k T) b o
 | [], _, _, _, _, k, hk => absurd hk (by simp)
 | p :: ps, b, o, B, h, 0, _ => by
  unfold SepsM at h
  obtain ⟨B1, hB1, ⟨c0, c1, c2, c3, c4, h0, h1, h2, h3, h4, hp⟩, hs⟩ := h
  simp only [Nat.zero_mul, Nat.add_zero]
  refine ⟨B1, c0, c1, c2, c3, c4, hB1, h0, h1, h2, h3, h4, hp, fun BB w' T e0 e1 e2 e3 e4 hh hc hn g0 g1 g2 g3 g4 ht => ?_⟩
  show TmsIn BB w' (T :: ps) b o
  unfold TmsIn
  exact ⟨⟨e0, e1, e2, e3, e4, g0, g1, g2, g3, g4, ht⟩, SepsM.at' ps b (o + 5) _ (fun x h h' => hh x h.1 h' h.2) (fun j hj => hc j (by omega)) (fun x h => hn x h.1) hs⟩
 | p :: ps, b, o, B, h, k + 1, hk => by
  unfold SepsM at h
  obtain ⟨B1, hB1, ⟨c0, c1, c2, c3, c4, h0, h1, h2, h3, h4, hp⟩, hs⟩ := h
  obtain ⟨Bk, d0, d1, d2, d3, d4, i1, j0, j1, j2, j3, j4, i2, i3⟩ := SepsM.put ps b (o + 5) _ hs k (by simpa using hk)
  rw [show o + (k + 1) * 5 = o + 5 + k * 5 by omega]
  refine ⟨Bk, d0, d1, d2, d3, d4, fun x h => ⟨(i1 x h).1.1, (i1 x h).2⟩, j0, j1, j2, j3, j4, by simpa using i2, fun BB w' T e0 e1 e2 e3 e4 hh hc hn g0 g1 g2 g3 g4 ht => ?_⟩
  show TmsIn BB w' (p :: ps.set k T) b o
  unfold TmsIn
  refine ⟨⟨c0, c1, c2, c3, c4, (hc o (by omega)).trans h0, (hc (o + 1) (by omega)).trans h1, (hc (o + 2) (by omega)).trans h2, (hc (o + 3) (by omega)).trans h3, (hc (o + 4) (by omega)).trans h4, ?_⟩, i3 BB w' T e0 e1 e2 e3 e4 (fun x h h' h'' => hh x h.1 h' h'') hc (fun x h => hn x h.1) g0 g1 g2 g3 g4 ht⟩
  exact TmIn.weak (fun x h => hn x (hB1 x h).1) _ _ (SepM.to _ _ (SepM.keep (fun x h => hh x (hB1 x h).1 (hB1 x h).2 fun h' => (i1 x h').1.2 h) (fun _ h => h) _ _ hp))
def Clo (w : World) (U B : Nat → Prop) (b o : Nat) (F : Tm → Tm) (r : Nat) : Prop :=
 ∀ (BB : Nat → Prop) (w' : World) (T : Tm) (e0 e1 e2 e3 e4 : Value), (∀ x, x < w.heap.size → x ≠ b → ¬ B x → w'.heap[x]? = w.heap[x]?) → (∀ j, (j < o ∨ o + 5 ≤ j) → w'.cell? ⟨b, j, none⟩ = w.cell? ⟨b, j, none⟩) → (∀ x, U x → BB x) →
  w'.cell? ⟨b, o, none⟩ = some e0 → w'.cell? ⟨b, o + 1, none⟩ = some e1 → w'.cell? ⟨b, o + 2, none⟩ = some e2 → w'.cell? ⟨b, o + 3, none⟩ = some e3 → w'.cell? ⟨b, o + 4, none⟩ = some e4 → TmIn BB w' T (.agg #[e0, e1, e2, e3, e4]) →
  ∃ d0 d1 d2 d3 d4, w'.cell? ⟨r, 0, none⟩ = some d0 ∧ w'.cell? ⟨r, 1, none⟩ = some d1 ∧ w'.cell? ⟨r, 2, none⟩ = some d2 ∧ w'.cell? ⟨r, 3, none⟩ = some d3 ∧ w'.cell? ⟨r, 4, none⟩ = some d4 ∧ TmIn BB w' (F T) (.agg #[d0, d1, d2, d3, d4])
def PlAt (w : World) (B : Nat → Prop) (b o : Nat) (q : Tm) : Prop :=
 (∀ x, B x → x < w.heap.size ∧ x ≠ b) ∧ b < w.heap.size ∧ Loose w b ∧ ∃ c0 c1 c2 c3 c4, w.cell? ⟨b, o, none⟩ = some c0 ∧ w.cell? ⟨b, o + 1, none⟩ = some c1 ∧ w.cell? ⟨b, o + 2, none⟩ = some c2 ∧ w.cell? ⟨b, o + 3, none⟩ = some c3 ∧ w.cell? ⟨b, o + 4, none⟩ = some c4 ∧ SepM B w q (.agg #[c0, c1, c2, c3, c4])
theorem Clo.step {w : World} {U B : Nat → Prop} {b o r : Nat} {F : Tm → Tm} {q : Tm} (hC : Clo w U B b o F r) (hU : ∀ x, B x → U x) (hP : PlAt w B b o q) (k : Nat) (hk : k < q.kids.length) :
  ∃ g og cap Bk, w.cell? ⟨b, o + 3, none⟩ = some (.slice (some ⟨g, og, none⟩) q.kids.length cap) ∧ PlAt w Bk g (og + k * 5) q.kids[k] ∧ Clo w U Bk g (og + k * 5) (fun T => F (.mk q.op q.n q.text (q.kids.set k T) q.pats)) r ∧ (∀ x, Bk x → B x) ∧ B g := by
 cases q with
 | mk op nn text kids pats =>
 obtain ⟨p1, p2, p3, c0, c1, c2, c3, c4, h0, h1, h2, h3, h4, hs⟩ := hP
 unfold SepM at hs
 obtain ⟨kv, pv, BK, BP, s1, s2, s3, s4, s5, s6⟩ := hs
 simp only [Value.agg.injEq, Array.mk.injEq, List.cons.injEq, and_true] at s1
 obtain ⟨rfl, rfl, rfl, rfl, rfl⟩ := s1
 change k < kids.length at hk
 rcases s5 with ⟨s5, -⟩ | ⟨g, og, cap, rfl, t2, t3, t4, t5, t6⟩
 ·omega
 obtain ⟨Bk, d0, d1, d2, d3, d4, i1, j0, j1, j2, j3, j4, i2, i3⟩ := SepsM.put kids g og BK t6 k hk
 have hBk : ∀ x, Bk x → B x := fun x h => (s3 x (i1 x h).1).1
 have hg : B g := (s3 g t4).1
 refine ⟨g, og, cap, Bk, h3, ⟨fun x h => ⟨(p1 x (hBk x h)).1, (i1 x h).2⟩, (p1 g hg).1, t5, d0, d1, d2, d3, d4, j0, j1, j2, j3, j4, i2⟩, ?_, hBk, hg⟩
 intro BB w' T e0 e1 e2 e3 e4 hh hc hn g0 g1 g2 g3 g4 ht
 have hb : w'.heap[b]? = w.heap[b]? := hh b p2 (fun e => (p1 g hg).2 e.symm) fun h => (p1 b (hBk b h)).2 rfl
 have hbc : ∀ j, w'.cell? ⟨b, j, none⟩ = w.cell? ⟨b, j, none⟩ := fun j => cell_of_heap hb
 refine hC BB w' (.mk op nn text (kids.set k T) pats) _ _ _ _ _ (fun x h1 h2 h3 => hh x h1 (fun e => h3 (e ▸ hg)) fun h => h3 (hBk x h)) (fun j _ => hbc j) hn ((hbc o).trans h0) ((hbc (o + 1)).trans h1) ((hbc (o + 2)).trans h2) ((hbc (o + 3)).trans h3) ((hbc (o + 4)).trans h4) ?_
 unfold TmIn
 refine ⟨_, _, rfl, s2, .inr ⟨g, og, cap, by rw [List.length_set], by rw [List.length_set]; exact t2, t3, hn g (hU g hg), ?_⟩, ?_⟩
 ·exact i3 BB w' T e0 e1 e2 e3 e4 (fun x h1 h2 h3 => hh x (p1 x (s3 x h1).1).1 h2 h3) hc (fun x h => hn x (hU x (s3 x h).1)) g0 g1 g2 g3 g4 ht
 ·have hbp : ∀ x, BP x → w'.heap[x]? = w.heap[x]? := fun x h => hh x (p1 x (s4 x h)).1 (fun e => (s3 g t4).2 (e ▸ h)) fun h' => (s3 x (i1 x h').1).2 h
  have hbn : ∀ x, BP x → BB x := fun x h => hn x (hU x (s4 x h))
  exact s6.mono hbn fun b' o' hlt hr => PtsIn.keep hbp hbn pats b' o' hlt hr
theorem put1 (W : World) (b i : Nat) (u t : Value) (h : W.cell? ⟨b, i, none⟩ = some t) : (W.setCell ⟨b, i, none⟩ u).cell? ⟨b, i, none⟩ = some u ∧ ∀ j, j ≠ i → (W.setCell ⟨b, i, none⟩ u).cell? ⟨b, j, none⟩ = W.cell? ⟨b, j, none⟩ := by
 refine ⟨?_, fun j hj => ?_⟩
 ·apply World.cell?_setCell_same
  exact h
 ·apply World.cell?_setCell_other
  intro e
  cases e
  exact hj rfl
theorem put5 (W : World) (b o : Nat) (t0 t1 t2 t3 t4 u0 u1 u2 u3 u4 : Value) (h0 : W.cell? ⟨b, o, none⟩ = some t0) (h1 : W.cell? ⟨b, o + 1, none⟩ = some t1) (h2 : W.cell? ⟨b, o + 2, none⟩ = some t2) (h3 : W.cell? ⟨b, o + 3, none⟩ = some t3) (h4 : W.cell? ⟨b, o + 4, none⟩ = some t4) :
  ∀ W', W' = (((((W.setCell ⟨b, o, none⟩ u0).setCell ⟨b, o + 1, none⟩ u1).setCell ⟨b, o + 2, none⟩ u2).setCell ⟨b, o + 3, none⟩ u3).setCell ⟨b, o + 4, none⟩ u4) →
  Kept (fun k => k = b) W W' ∧ (W'.cell? ⟨b, o, none⟩ = some u0 ∧ W'.cell? ⟨b, o + 1, none⟩ = some u1 ∧ W'.cell? ⟨b, o + 2, none⟩ = some u2 ∧ W'.cell? ⟨b, o + 3, none⟩ = some u3 ∧ W'.cell? ⟨b, o + 4, none⟩ = some u4) ∧
  ∀ j, (j < o ∨ o + 5 ≤ j) → W'.cell? ⟨b, j, none⟩ = W.cell? ⟨b, j, none⟩ := by
 intro W' hW
 rw [hW]
 obtain ⟨a0, b0⟩ := put1 W b o u0 t0 h0
 obtain ⟨a1, b1⟩ := put1 _ b (o + 1) u1 t1 ((b0 (o + 1) (by omega)).trans h1)
 obtain ⟨a2, b2⟩ := put1 _ b (o + 2) u2 t2 ((b1 (o + 2) (by omega)).trans ((b0 (o + 2) (by omega)).trans h2))
 obtain ⟨a3, b3⟩ := put1 _ b (o + 3) u3 t3 ((b2 (o + 3) (by omega)).trans ((b1 (o + 3) (by omega)).trans ((b0 (o + 3) (by omega)).trans h3)))
 obtain ⟨a4, b4⟩ := put1 _ b (o + 4) u4 t4 ((b3 (o + 4) (by omega)).trans ((b2 (o + 4) (by omega)).trans ((b1 (o + 4) (by omega)).trans ((b0 (o + 4) (by omega)).trans h4))))
 exact ⟨((((kept1 _ b _ u0).trans (kept1 _ b _ u1)).trans (kept1 _ b _ u2)).trans (kept1 _ b _ u3)).trans (kept1 _ b _ u4),
  ⟨(b4 o (by omega)).trans ((b3 o (by omega)).trans ((b2 o (by omega)).trans ((b1 o (by omega)).trans a0))), (b4 _ (by omega)).trans ((b3 _ (by omega)).trans ((b2 _ (by omega)).trans a1)), (b4 _ (by omega)).trans ((b3 _ (by omega)).trans a2), (b4 _ (by omega)).trans a3, a4⟩,
  fun j hj => (b4 j (by omega)).trans ((b3 j (by omega)).trans ((b2 j (by omega)).trans ((b1 j (by omega)).trans (b0 j (by omega)))))⟩
mutual
theorem PtAt.keepH {n₀ n₁ : Nat} {w w' : World} (hb : ∀ b, b < n₀ → w'.heap[b]? = w.heap[b]?) (hn : n₀ ≤ n₁) : ∀ (p : Pt) (v : Value), PtAt n₀ w p v → PtAt n₁ w' p v
 | .mk form n text parts, v, h => by
  unfold PtAt at h ⊢
  obtain ⟨kv, h1, h2, h3⟩ := h
  exact ⟨kv, h1, h2, h3.mono hn fun b o hlt hr => PtsAt.keepH hb hn parts b o hlt hr⟩
theorem PtsAt.keepH {n₀ n₁ : Nat} {w w' : World} (hb : ∀ b, b < n₀ → w'.heap[b]? = w.heap[b]?) (hn : n₀ ≤ n₁) : ∀ (ps : List Pt) (b o : Nat), b < n₀ → PtsAt n₀ w ps b o → PtsAt n₁ w' ps b o
 | [], _, _, _, _ => by unfold PtsAt; trivial
 | p :: ps, b, o, hlt, h => by
  unfold PtsAt at h ⊢
  obtain ⟨⟨c0, c1, c2, c3, h0, h1, h2, h3, hp⟩, hs⟩ := h
  exact ⟨⟨c0, c1, c2, c3, (cell_of_heap (hb b hlt)).trans h0, (cell_of_heap (hb b hlt)).trans h1, (cell_of_heap (hb b hlt)).trans h2, (cell_of_heap (hb b hlt)).trans h3, PtAt.keepH hb hn p _ hp⟩, PtsAt.keepH hb hn ps b _ hlt hs⟩
end
mutual
theorem TmAt.keepH {n₀ n₁ : Nat} {w w' : World} (hb : ∀ b, b < n₀ → w'.heap[b]? = w.heap[b]?) (hn : n₀ ≤ n₁) : ∀ (p : Tm) (v : Value), TmAt n₀ w p v → TmAt n₁ w' p v
 | .mk op n text kids pats, v, h => by
  unfold TmAt at h ⊢
  obtain ⟨kv, pv, h1, h2, h3, h4⟩ := h
  exact ⟨kv, pv, h1, h2, h3.mono hn fun b o hlt hr => TmsAt.keepH hb hn kids b o hlt hr, h4.mono hn fun b o hlt hr => PtsAt.keepH hb hn pats b o hlt hr⟩
theorem TmsAt.keepH {n₀ n₁ : Nat} {w w' : World} (hb : ∀ b, b < n₀ → w'.heap[b]? = w.heap[b]?) (hn : n₀ ≤ n₁) : ∀ (ps : List Tm) (b o : Nat), b < n₀ → TmsAt n₀ w ps b o → TmsAt n₁ w' ps b o
 | [], _, _, _, _ => by unfold TmsAt; trivial
 | p :: ps, b, o, hlt, h => by
  unfold TmsAt at h ⊢
  obtain ⟨⟨c0, c1, c2, c3, c4, h0, h1, h2, h3, h4, hp⟩, hs⟩ := h
  exact ⟨⟨c0, c1, c2, c3, c4, (cell_of_heap (hb b hlt)).trans h0, (cell_of_heap (hb b hlt)).trans h1, (cell_of_heap (hb b hlt)).trans h2, (cell_of_heap (hb b hlt)).trans h3, (cell_of_heap (hb b hlt)).trans h4, TmAt.keepH hb hn p _ hp⟩, TmsAt.keepH hb hn ps b _ hlt hs⟩
end
def TmFar (S : Nat → Prop) (W : World) (T : Tm) (v : Value) : Prop := ∀ (w' : World) (n₁ : Nat), (∀ b, S b → b < W.heap.size → w'.heap[b]? = W.heap[b]?) → W.heap.size ≤ n₁ → TmAt n₁ w' T v
theorem TmFar.at {S : Nat → Prop} {W : World} {T : Tm} {v : Value} (h : TmFar S W T v) : TmAt W.heap.size W T v := h W _ (fun _ _ _ => rfl) (Nat.le_refl _)
def FlatA (n₀ : Nat) (w : World) : List Tm → List Value → Prop
 | [], cs => cs = []
 | p :: ps, cs => ∃ c0 c1 c2 c3 c4 r, cs = c0 :: c1 :: c2 :: c3 :: c4 :: r ∧ TmAt n₀ w p (.agg #[c0, c1, c2, c3, c4]) ∧ FlatA n₀ w ps r
theorem FlatA.of {n₀ : Nat} {w : World} {b : Nat} : ∀ (ps : List Tm) (o : Nat), TmsAt n₀ w ps b o → ∃ cs, FlatA n₀ w ps cs ∧ ∀ j u, cs[j]? = some u → w.cell? ⟨b, o + j, none⟩ = some u
 | [], _, _ => ⟨[], rfl, fun j u h => by simp at h⟩
 | p :: ps, o, h => by
  unfold TmsAt at h
  obtain ⟨⟨c0, c1, c2, c3, c4, h0, h1, h2, h3, h4, hp⟩, hs⟩ := h
  obtain ⟨r, hr, hc⟩ := FlatA.of ps (o + 5) hs
  refine ⟨c0 :: c1 :: c2 :: c3 :: c4 :: r, ⟨c0, c1, c2, c3, c4, r, rfl, hp, hr⟩, fun j u hj => ?_⟩
  match j with
  | 0 => cases hj; exact h0
  | 1 => cases hj; exact h1
  | 2 => cases hj; exact h2
  | 3 => cases hj; exact h3
  | 4 => cases hj; exact h4
  | j + 5 =>
   have := hc j u hj
   rwa [Nat.add_assoc, Nat.add_comm 5 j] at this
theorem FlatA.length {n₀ : Nat} {w : World} : ∀ (ps : List Tm) (cs : List Value), FlatA n₀ w ps cs → cs.length = ps.length * 5
 | [], cs, h => by cases h; rfl
 | p :: ps, cs, ⟨c0, c1, c2, c3, c4, r, h1, h2, h3⟩ => by
  rw [h1]
  have := FlatA.length ps r h3
  simp only [List.length_cons]
  omega
theorem FlatA.one {n₀ : Nat} {w : World} : ∀ (ps : List Tm) (cs : List Value), FlatA n₀ w ps cs → ∀ u ∈ cs, u.oneCell' = true
 | [], cs, h, u, hu => by cases h; cases hu
 | p :: ps, cs, ⟨c0, c1, c2, c3, c4, r, h1, h2, h3⟩, u, hu => by
  obtain ⟨o, n, t, ka, kn, kc, pa, pn, pc, rfl, rfl, rfl, rfl, rfl⟩ := h2.shape
  rw [h1] at hu
  simp only [List.mem_cons] at hu
  rcases hu with rfl | rfl | rfl | rfl | rfl | hu
  ·rfl
  ·rfl
  ·rfl
  ·rfl
  ·rfl
  ·exact FlatA.one ps r h3 u hu
theorem FlatA.keep {n₀ n₁ : Nat} {w w' : World} (hb : ∀ b, b < n₀ → w'.heap[b]? = w.heap[b]?) (hn : n₀ ≤ n₁) : ∀ (ps : List Tm) (cs : List Value), FlatA n₀ w ps cs → FlatA n₁ w' ps cs
 | [], _, h => h
 | _ :: ps, _, ⟨c0, c1, c2, c3, c4, r, h1, h2, h3⟩ => ⟨c0, c1, c2, c3, c4, r, h1, TmAt.keepH hb hn _ _ h2, FlatA.keep hb hn ps r h3⟩
theorem FlatA.tms {n₀ : Nat} {w : World} {b : Nat} : ∀ (ps : List Tm) (cs : List Value) (o : Nat), FlatA n₀ w ps cs → (∀ j u, cs[j]? = some u → w.cell? ⟨b, o + j, none⟩ = some u) → TmsAt n₀ w ps b o
 | [], _, _, _, _ => by unfold TmsAt; trivial
 | p :: ps, _, o, ⟨c0, c1, c2, c3, c4, r, h1, h2, h3⟩, hc => by
  subst h1
  unfold TmsAt
  refine ⟨⟨c0, c1, c2, c3, c4, hc 0 c0 rfl, hc 1 c1 rfl, hc 2 c2 rfl, hc 3 c3 rfl, hc 4 c4 rfl, h2⟩, FlatA.tms ps r (o + 5) h3 fun i u hi => ?_⟩
  rw [Nat.add_assoc, Nat.add_comm 5 i]; exact hc (i + 5) u hi
theorem FlatA.set {n₀ : Nat} {w : World} {b : Nat} {T : Tm} {e0 e1 e2 e3 e4 : Value} : ∀ (ps : List Tm) (cs : List Value) (o k : Nat), k < ps.length → FlatA n₀ w ps cs → (∀ j u, (j < k * 5 ∨ k * 5 + 5 ≤ j) → cs[j]? = some u → w.cell? ⟨b, o + j, none⟩ = some u) →
  w.cell? ⟨b, o + k * 5, none⟩ = some e0 → w.cell? ⟨b, o + k * 5 + 1, none⟩ = some e1 → w.cell? ⟨b, o + k * 5 + 2, none⟩ = some e2 → w.cell? ⟨b, o + k * 5 + 3, none⟩ = some e3 → w.cell? ⟨b, o + k * 5 + 4, none⟩ = some e4 → TmAt n₀ w T (.agg #[e0, e1, e2, e3, e4]) → TmsAt n₀ w (ps.set k T) b o
 | [], _, _, _, hk, _, _, _, _, _, _, _, _ => absurd hk (by simp)
 | p :: ps, _, o, 0, _, ⟨c0, c1, c2, c3, c4, r, h1, h2, h3⟩, hc, g0, g1, g2, g3, g4, ht => by
  subst h1
  simp only [Nat.zero_mul, Nat.add_zero] at g0 g1 g2 g3 g4
  show TmsAt n₀ w (T :: ps) b o
  unfold TmsAt
  refine ⟨⟨e0, e1, e2, e3, e4, g0, g1, g2, g3, g4, ht⟩, FlatA.tms ps r (o + 5) h3 fun i u hi => ?_⟩
  rw [Nat.add_assoc, Nat.add_comm 5 i]; exact hc (i + 5) u (by omega) hi
 | p :: ps, _, o, k + 1, hk, ⟨c0, c1, c2, c3, c4, r, h1, h2, h3⟩, hc, g0, g1, g2, g3, g4, ht => by
  subst h1
  show TmsAt n₀ w (p :: ps.set k T) b o
  unfold TmsAt
  refine ⟨⟨c0, c1, c2, c3, c4, hc 0 c0 (by omega) rfl, hc 1 c1 (by omega) rfl, hc 2 c2 (by omega) rfl, hc 3 c3 (by omega) rfl, hc 4 c4 (by omega) rfl, h2⟩, FlatA.set ps r (o + 5) k (by simpa using hk) h3 (fun i u hi1 hi => ?_) ?_ ?_ ?_ ?_ ?_ ht⟩
  ·rw [Nat.add_assoc, Nat.add_comm 5 i]; exact hc (i + 5) u (by omega) hi
  all_goals (first | rw [show o + 5 + k * 5 = o + (k + 1) * 5 by omega]; assumption)
theorem row_some {w : World} {b : Nat} {cur : Array Value} {t : TypeId} (h : w.heap[b]? = some (.cells cur t (0, 0))) {i : Nat} (hi : i < cur.size) : w.cell? ⟨b, i, none⟩ = some cur[i] := by
 rw [cell_box h, Array.getElem?_eq_getElem hi]
theorem three_boxes (w : World) (x y z : Array Value) (t : TypeId) : ∃ W, W = ((w.alloc (.cells x t)).alloc (.cells y t)).alloc (.cells z t) ∧ Below w.heap.size w W ∧ W.heap.size = w.heap.size + 3 ∧ W.heap[w.heap.size]? = some (.cells x t (0, 0)) ∧ W.heap[w.heap.size + 1]? = some (.cells y t (0, 0)) ∧ W.heap[w.heap.size + 2]? = some (.cells z t (0, 0)) := by
 refine ⟨_, rfl, (((Below.refl w.heap.size w).alloc (Nat.le_refl _) _).alloc (by simp) _).alloc (by simp; omega) _, by simp, ?_, ?_, ?_⟩
 ·exact (Below.heap_alloc _ _ _ (by simp; omega)).trans ((Below.heap_alloc _ _ _ (by simp)).trans (heap_alloc_new w _))
 ·have := heap_alloc_new (w.alloc (.cells x t)) (.cells y t)
  rw [World.size_alloc] at this
  exact (Below.heap_alloc _ _ _ (by simp)).trans this
 ·have := heap_alloc_new ((w.alloc (.cells x t)).alloc (.cells y t)) (.cells z t)
  rw [World.size_alloc, World.size_alloc] at this
  exact this
mutual
def rnP (nm ot : ByteArray) : Pt → Pt
 | .mk f n t ps => .mk f n (if f = 2 ∧ (t.toList == nm.toList) = true then ot else t) (rnPs nm ot ps)
def rnPs (nm ot : ByteArray) : List Pt → List Pt
 | [] => []
 | p :: ps => rnP nm ot p :: rnPs nm ot ps
end
theorem rnPs_map (nm ot : ByteArray) : ∀ ps : List Pt, rnPs nm ot ps = ps.map (rnP nm ot)
 | [] => rfl
 | p :: ps => by unfold rnPs; rw [rnPs_map nm ot ps]; rfl
theorem two_boxes' (w : World) (x y : Array Value) (t t' : TypeId) : ∃ W, W = (w.alloc (.cells x t)).alloc (.cells y t') ∧ Below w.heap.size w W ∧ W.heap.size = w.heap.size + 2 ∧ W.heap[w.heap.size]? = some (.cells x t (0, 0)) ∧ W.heap[w.heap.size + 1]? = some (.cells y t' (0, 0)) := by
 refine ⟨_, rfl, ((Below.refl w.heap.size w).alloc (Nat.le_refl _) _).alloc (by simp) _, by simp, ?_, ?_⟩
 ·exact (Below.heap_alloc _ _ _ (by simp)).trans (heap_alloc_new w _)
 ·have := heap_alloc_new (w.alloc (.cells x t)) (.cells y t')
  rw [World.size_alloc] at this
  exact this
set_option maxHeartbeats 4000000 in
set_option maxRecDepth 100000 in
theorem refRenPat_any (nm ot : ByteArray) (hot : ot.size ≤ maxLen) (p : Pt) : ∀ (v : Value) (w : World) (n₀ : Nat), n₀ ≤ w.heap.size → PtAt n₀ w p v → lensP p →
  Calls Tryz.prog 145 #[v, .string nm, .string ot] w fun e w' => (∃ v', e = .returned v' ∧ PtNew w w' (rnP nm ot p) v') ∧ Below w.heap.size w w' := by
 induction hT : SizeOf.sizeOf p using Nat.strongRecOn generalizing p with
 | _ m ih =>
 subst hT
 intro v w n₀ hn0 hv hlen
 obtain ⟨i0, hi, hz0, hz1, hz2⟩ := info_parts Tz.info35
 have HIH := lh ih; clear ih
 cases p with
 | mk form n text parts =>
 unfold PtAt at hv
 obtain ⟨kv, rfl, htx, hk⟩ := hv
 obtain ⟨a, cap, rfl, hcap, hlc, hka⟩ := hk.split
 unfold lensP at hlen
 have hl := hlen.1
 unfold maxLen at hcap
 have HKA := lh hka; have HLEN := lh hlen.2
 obtain ⟨W, hW, hB0, hs, hx3, hx6⟩ := two_boxes' w #[.int .i64 form, .int .i64 n, .string text, .slice a parts.length cap] #[.int .i64 0, .int .i64 0, .string ⟨#[]⟩, .slice none 0 0] 35 35
 clear hk hka hlen
 have HB0 := lh hB0; have X6 := lh hx6; have X3 := lh hx3
 obtain ⟨y0, y1, y2, y3⟩ := cells4 hx3
 have f3 := free_box hx3
 clear hB0 hx6 hx3
 by_cases h2 : form = 2
 ·subst h2
  by_cases he : (text.toList == nm.toList) = true
  ·have HCOND := lh (show (if (2 : Int) = 2 ∧ (text.toList == nm.toList) = true then ot else text) = ot from if_pos ⟨rfl, he⟩)
   go_enter Tryz.func145, Tryz.ntmps145
   go_upto_region 1 with fail
   rw [← hW]
   clear hW
   go_upto_region 3 with fail
   have hkp : Kept (fun k => k = w.heap.size) W (W.setCell ⟨w.heap.size, 2, none⟩ (.string ot)) := .setCell (S := fun k => k = w.heap.size) _ rfl _
   have hx3 : (W.setCell ⟨w.heap.size, 2, none⟩ (.string ot)).heap[w.heap.size]? = some (.cells #[.int .i64 2, .int .i64 n, .string ot, .slice a parts.length cap] 35 (0, 0)) := box_setCell X3.out 2 _
   have hx6 := hkp.get X6.out (by omega)
   have hB1 := HB0.out.trans (hkp.below (n₀ := w.heap.size) (by omega) (by rintro k rfl; omega))
   have hs1 := hkp.size
   have hsz : (W.setCell ⟨w.heap.size, 2, none⟩ (.string ot)).heap.size = w.heap.size + 2 := by simp [hs]
   generalize (W.setCell ⟨w.heap.size, 2, none⟩ (.string ot)) = U at *
   clear X3 X6 HB0 y0 y1 y2 y3 f3 hkp hs1 hs
   have HB0 := lh hB1; have X3 := lh hx3; have X6 := lh hx6
   clear hB1 hx3 hx6
   go_wp2_with fail
   go_loopw [7, 8] (fun vo i wr => ∃ (k : Nat) (xs : List Value), k ≤ parts.length ∧ i = .int .i64 k ∧ wr.ownsRow U.heap.size 35 4 vo k xs ∧ FlatP (Own U wr vo) wr ((parts.take k).map (rnP nm ot)) xs ∧ Below U.heap.size U wr) (fun _ i _ => parts.length - (intOf i).toNat)
   case atStart => exact ⟨0, [], Nat.zero_le _, rfl, World.ownsRow_nil _ _ _ _, rfl, Below.refl _ _⟩
   case round =>
    obtain ⟨k, xs, hk, rfl, hrow, hflat, hB⟩ := hrel
    have hbw : Below w.heap.size w wr := HB0.out.trans (hB.mono HB0.out.size)
    have x3 := bget hB X3.out (by omega)
    have x6 := bget hB X6.out (by omega)
    obtain ⟨y0, y1, y2, y3⟩ := cells4 x3
    by_cases hlt : k < parts.length
    ·have hlt' : (k : Int) < (parts.length : Int) := by omega
     obtain ⟨b, o, rfl, hbn, hss⟩ := HKA.out (by omega)
     obtain ⟨c0, c1, c2, c3, g0, g1, g2, g3, ht⟩ := PtsAt.get parts b o hss k hlt
     have q0 := (hbw.cell (p := ⟨b, _, none⟩) (Nat.lt_of_lt_of_le hbn hn0)).trans g0
     have q1 := (hbw.cell (p := ⟨b, _, none⟩) (Nat.lt_of_lt_of_le hbn hn0)).trans g1
     have q2 := (hbw.cell (p := ⟨b, _, none⟩) (Nat.lt_of_lt_of_le hbn hn0)).trans g2
     have q3 := (hbw.cell (p := ⟨b, _, none⟩) (Nat.lt_of_lt_of_le hbn hn0)).trans g3
     obtain ⟨oo, nn, tt, ka, kn, kc, rfl, rfl, rfl, rfl⟩ := ht.shape
     have HC := lh (HIH.out _ (kid_ltP k hlt) parts[k] rfl _ wr n₀ (by have := hbw.size; omega) (PtAt.keepH (fun x hx => hbw.block x (by omega)) (Nat.le_refl _) _ _ ht) (lensP_get HLEN.out k hlt))
     have HB := lh hB; have HROW := lh hrow; have HFLAT := lh hflat
     clear g0 g1 g2 g3 hss ht hB hrow hflat x3 x6 hbw
     go_wp2_with fail
     refine HC.out.mono ?_
     rintro e w1 ⟨⟨v2, rfl, hnew⟩, hb1⟩
     have hsz1 := hb1.size
     have hszr := HB.out.size
     obtain ⟨o2, n2, t2, ka2, kn2, kc2, rfl⟩ := PtIn.shape hnew
     have hown1 : ∀ kk, u7.ownBlock = some kk → U.heap.size ≤ kk ∧ kk < wr.heap.size := fun kk h => HROW.out.lt kk h
     have hrow1 : w1.ownsRow U.heap.size 35 4 u7 k xs := HROW.out.kept (row := none) ⟨hb1.os, hb1.tape, hb1.output, hb1.size, fun i hi _ => hb1.block i hi⟩ (by cases u7.ownBlock <;> simp)
     have hrow2 := hrow1.alloc (.cells #[.int .i64 o2, .int .i64 n2, .string t2, .slice ka2 kn2 kc2] 35)
     have HNEW := lh hnew; have HB1 := lh hb1; have HR2 := lh hrow2; have HO1 := lh hown1
     have hnews := cells_new w1 [.int .i64 o2, .int .i64 n2, .string t2, .slice ka2 kn2 kc2] 35
     have HNW := lh hnews
     have hone : ∀ u ∈ [Value.int .i64 o2, .int .i64 n2, .string t2, .slice ka2 kn2 kc2], u.oneCell' = true := by intro u hu; simp at hu; rcases hu with rfl | rfl | rfl | rfl <;> rfl
     have HONE := lh hone
     clear hnew hb1 hrow1 hrow2 hown1 hnews hone y0 y1 y2 y3 q0 q1 q2 q3
     go_wp2_with (at_builtin; refine wpList_append_own_at _ rfl _ _ 30 rfl U.heap.size 35 i0 _ 4 56 Tryz.underlying30 hi hz0 hz1 hz2 rfl (by decide) u7 k xs rfl HR2.out ⟨w1.heap.size, 0, none⟩ 1 1 [.int .i64 o2, .int .i64 n2, .string t2, .slice ka2 kn2 kc2] rfl rfl HNW.out HONE.out (by unfold maxLen; omega) (by omega) (by simp; omega) ?_; intro v' w' hown' hgr hnil hat; have HOWN := lh hown'; have HGR := lh hgr; have HAT := lh hat; clear hown' hgr hnil hat)
     go_roundw
     case rel =>
      obtain ⟨s1, s2, s3, s4⟩ := own_step HB.out HB1.out HO1.out HGR.out HAT.out
      refine ⟨k + 1, _, by omega, by go_num, HOWN.out, ?_, s4⟩
      rw [List.take_succ_eq_append_getElem hlt, List.map_append, List.map_cons, List.map_nil]
      exact FlatP.snoc (PtIn.keep (fun b h => (s3 b h.1 h.2).1) (fun b h => (s3 b h.1 h.2).2) _ _ HNEW.out) _ _ (FlatP.keep s1 s2 _ _ HFLAT.out)
     case measure => simp [intOf]; omega
    ·obtain rfl : k = parts.length := by omega
     obtain ⟨ra, rc, rfl⟩ := slice_of_row hrow
     have f3 := free_box x3
     obtain ⟨z0, z1, z2, z3⟩ := cells4 x6
     have f6 := free_box x6
     have HBW := lh hbw; have HROW := lh hrow; have HFLAT := lh hflat; have HB := lh hB
     have hszr := hB.size
     clear hbw hrow hflat hB x3 x6
     go_wp2_with fail
     have hkp0 : Kept (fun k => k = w.heap.size ∨ k = w.heap.size + 1) wr (wr.setCell ⟨w.heap.size, 3, none⟩ (.slice ra parts.length rc)) := .setCell _ (.inl rfl) _
     have hkp : Kept (fun k => k = w.heap.size ∨ k = w.heap.size + 1) wr (((((wr.setCell ⟨w.heap.size, 3, none⟩ (.slice ra parts.length rc)).setCell ⟨w.heap.size + 1, 0, none⟩ (.int .i64 2)).setCell ⟨w.heap.size + 1, 1, none⟩ (.int .i64 n)).setCell ⟨w.heap.size + 1, 2, none⟩ (.string ot)).setCell ⟨w.heap.size + 1, 3, none⟩ (.slice ra parts.length rc)) :=
      (((hkp0.trans (.setCell _ (.inr rfl) _)).trans (.setCell _ (.inr rfl) _)).trans (.setCell _ (.inr rfl) _)).trans (.setCell _ (.inr rfl) _)
     have hs2 := hkp.size
     refine bodyPost_ret (v := .agg #[.int .i64 2, .int .i64 n, .string ot, .slice ra parts.length rc]) (by simp [results, Tryz.results145, go_sem, z0, z1, z2, z3]) rfl ⟨⟨_, rfl, ?_⟩, HBW.out.trans (hkp.below (by omega) (by rintro k (rfl | rfl) <;> omega))⟩
     unfold PtNew rnP PtIn
     rw [show (if (2 : Int) = 2 ∧ (text.toList == nm.toList) = true then ot else text) = ot from if_pos ⟨rfl, he⟩]
     refine ⟨_, rfl, hot, ?_⟩
     rw [rnPs_map, List.length_map]
     refine owned_sl (w := wr) HROW.out (fun b h => ?_) fun b hb hc => ?_
     ·have := HROW.out.lt b h
      exact ⟨by omega, by have := this.2; omega⟩
     ·have hfl := HFLAT.out
      rw [List.take_length] at hfl
      have hbl := HROW.out.lt b hb
      refine FlatP.ptsIn _ _ _ (FlatP.keep (fun x h => hkp.block x h.2.1 (by have := h.1; omega)) (fun x h => ⟨by have := h.1; omega, by have := h.2.1; omega⟩) _ _ hfl) fun i u hi => ?_
      exact (cell_of_heap (hkp.block b hbl.2 (by omega))).trans (hc i u hi)
  ·have he' : (text.toList == nm.toList) = false := by simpa using he
   have HCOND := lh (show (if (2 : Int) = 2 ∧ (text.toList == nm.toList) = true then ot else text) = text from if_neg fun h => he h.2)
   go_enter Tryz.func145, Tryz.ntmps145
   go_upto_region 1 with fail
   rw [← hW]
   clear hW
   go_upto_region 3 with fail
   have hx3 := X3.out; have hx6 := X6.out; have hB1 := HB0.out; have hsz := hs
   generalize W = U at *
   clear X3 X6 HB0 y0 y1 y2 y3 f3 hs
   have HB0 := lh hB1; have X3 := lh hx3; have X6 := lh hx6
   clear hB1 hx3 hx6
   go_wp2_with fail
   go_loopw [7, 8] (fun vo i wr => ∃ (k : Nat) (xs : List Value), k ≤ parts.length ∧ i = .int .i64 k ∧ wr.ownsRow U.heap.size 35 4 vo k xs ∧ FlatP (Own U wr vo) wr ((parts.take k).map (rnP nm ot)) xs ∧ Below U.heap.size U wr) (fun _ i _ => parts.length - (intOf i).toNat)
   case atStart => exact ⟨0, [], Nat.zero_le _, rfl, World.ownsRow_nil _ _ _ _, rfl, Below.refl _ _⟩
   case round =>
    obtain ⟨k, xs, hk, rfl, hrow, hflat, hB⟩ := hrel
    have hbw : Below w.heap.size w wr := HB0.out.trans (hB.mono HB0.out.size)
    have x3 := bget hB X3.out (by omega)
    have x6 := bget hB X6.out (by omega)
    obtain ⟨y0, y1, y2, y3⟩ := cells4 x3
    by_cases hlt : k < parts.length
    ·have hlt' : (k : Int) < (parts.length : Int) := by omega
     obtain ⟨b, o, rfl, hbn, hss⟩ := HKA.out (by omega)
     obtain ⟨c0, c1, c2, c3, g0, g1, g2, g3, ht⟩ := PtsAt.get parts b o hss k hlt
     have q0 := (hbw.cell (p := ⟨b, _, none⟩) (Nat.lt_of_lt_of_le hbn hn0)).trans g0
     have q1 := (hbw.cell (p := ⟨b, _, none⟩) (Nat.lt_of_lt_of_le hbn hn0)).trans g1
     have q2 := (hbw.cell (p := ⟨b, _, none⟩) (Nat.lt_of_lt_of_le hbn hn0)).trans g2
     have q3 := (hbw.cell (p := ⟨b, _, none⟩) (Nat.lt_of_lt_of_le hbn hn0)).trans g3
     obtain ⟨oo, nn, tt, ka, kn, kc, rfl, rfl, rfl, rfl⟩ := ht.shape
     have HC := lh (HIH.out _ (kid_ltP k hlt) parts[k] rfl _ wr n₀ (by have := hbw.size; omega) (PtAt.keepH (fun x hx => hbw.block x (by omega)) (Nat.le_refl _) _ _ ht) (lensP_get HLEN.out k hlt))
     have HB := lh hB; have HROW := lh hrow; have HFLAT := lh hflat
     clear g0 g1 g2 g3 hss ht hB hrow hflat x3 x6 hbw
     go_wp2_with fail
     refine HC.out.mono ?_
     rintro e w1 ⟨⟨v2, rfl, hnew⟩, hb1⟩
     have hsz1 := hb1.size
     have hszr := HB.out.size
     obtain ⟨o2, n2, t2, ka2, kn2, kc2, rfl⟩ := PtIn.shape hnew
     have hown1 : ∀ kk, u7.ownBlock = some kk → U.heap.size ≤ kk ∧ kk < wr.heap.size := fun kk h => HROW.out.lt kk h
     have hrow1 : w1.ownsRow U.heap.size 35 4 u7 k xs := HROW.out.kept (row := none) ⟨hb1.os, hb1.tape, hb1.output, hb1.size, fun i hi _ => hb1.block i hi⟩ (by cases u7.ownBlock <;> simp)
     have hrow2 := hrow1.alloc (.cells #[.int .i64 o2, .int .i64 n2, .string t2, .slice ka2 kn2 kc2] 35)
     have HNEW := lh hnew; have HB1 := lh hb1; have HR2 := lh hrow2; have HO1 := lh hown1
     have hnews := cells_new w1 [.int .i64 o2, .int .i64 n2, .string t2, .slice ka2 kn2 kc2] 35
     have HNW := lh hnews
     have hone : ∀ u ∈ [Value.int .i64 o2, .int .i64 n2, .string t2, .slice ka2 kn2 kc2], u.oneCell' = true := by intro u hu; simp at hu; rcases hu with rfl | rfl | rfl | rfl <;> rfl
     have HONE := lh hone
     clear hnew hb1 hrow1 hrow2 hown1 hnews hone y0 y1 y2 y3 q0 q1 q2 q3
     go_wp2_with (at_builtin; refine wpList_append_own_at _ rfl _ _ 30 rfl U.heap.size 35 i0 _ 4 56 Tryz.underlying30 hi hz0 hz1 hz2 rfl (by decide) u7 k xs rfl HR2.out ⟨w1.heap.size, 0, none⟩ 1 1 [.int .i64 o2, .int .i64 n2, .string t2, .slice ka2 kn2 kc2] rfl rfl HNW.out HONE.out (by unfold maxLen; omega) (by omega) (by simp; omega) ?_; intro v' w' hown' hgr hnil hat; have HOWN := lh hown'; have HGR := lh hgr; have HAT := lh hat; clear hown' hgr hnil hat)
     go_roundw
     case rel =>
      obtain ⟨s1, s2, s3, s4⟩ := own_step HB.out HB1.out HO1.out HGR.out HAT.out
      refine ⟨k + 1, _, by omega, by go_num, HOWN.out, ?_, s4⟩
      rw [List.take_succ_eq_append_getElem hlt, List.map_append, List.map_cons, List.map_nil]
      exact FlatP.snoc (PtIn.keep (fun b h => (s3 b h.1 h.2).1) (fun b h => (s3 b h.1 h.2).2) _ _ HNEW.out) _ _ (FlatP.keep s1 s2 _ _ HFLAT.out)
     case measure => simp [intOf]; omega
    ·obtain rfl : k = parts.length := by omega
     obtain ⟨ra, rc, rfl⟩ := slice_of_row hrow
     have f3 := free_box x3
     obtain ⟨z0, z1, z2, z3⟩ := cells4 x6
     have f6 := free_box x6
     have HBW := lh hbw; have HROW := lh hrow; have HFLAT := lh hflat; have HB := lh hB
     have hszr := hB.size
     clear hbw hrow hflat hB x3 x6
     go_wp2_with fail
     have hkp0 : Kept (fun k => k = w.heap.size ∨ k = w.heap.size + 1) wr (wr.setCell ⟨w.heap.size, 3, none⟩ (.slice ra parts.length rc)) := .setCell _ (.inl rfl) _
     have hkp : Kept (fun k => k = w.heap.size ∨ k = w.heap.size + 1) wr (((((wr.setCell ⟨w.heap.size, 3, none⟩ (.slice ra parts.length rc)).setCell ⟨w.heap.size + 1, 0, none⟩ (.int .i64 2)).setCell ⟨w.heap.size + 1, 1, none⟩ (.int .i64 n)).setCell ⟨w.heap.size + 1, 2, none⟩ (.string text)).setCell ⟨w.heap.size + 1, 3, none⟩ (.slice ra parts.length rc)) :=
      (((hkp0.trans (.setCell _ (.inr rfl) _)).trans (.setCell _ (.inr rfl) _)).trans (.setCell _ (.inr rfl) _)).trans (.setCell _ (.inr rfl) _)
     have hs2 := hkp.size
     refine bodyPost_ret (v := .agg #[.int .i64 2, .int .i64 n, .string text, .slice ra parts.length rc]) (by simp [results, Tryz.results145, go_sem, z0, z1, z2, z3]) rfl ⟨⟨_, rfl, ?_⟩, HBW.out.trans (hkp.below (by omega) (by rintro k (rfl | rfl) <;> omega))⟩
     unfold PtNew rnP PtIn
     rw [show (if (2 : Int) = 2 ∧ (text.toList == nm.toList) = true then ot else text) = text from if_neg fun h => he h.2]
     refine ⟨_, rfl, htx, ?_⟩
     rw [rnPs_map, List.length_map]
     refine owned_sl (w := wr) HROW.out (fun b h => ?_) fun b hb hc => ?_
     ·have := HROW.out.lt b h
      exact ⟨by omega, by have := this.2; omega⟩
     ·have hfl := HFLAT.out
      rw [List.take_length] at hfl
      have hbl := HROW.out.lt b hb
      refine FlatP.ptsIn _ _ _ (FlatP.keep (fun x h => hkp.block x h.2.1 (by have := h.1; omega)) (fun x h => ⟨by have := h.1; omega, by have := h.2.1; omega⟩) _ _ hfl) fun i u hi => ?_
      exact (cell_of_heap (hkp.block b hbl.2 (by omega))).trans (hc i u hi)
 ·have HCOND := lh (show (if form = 2 ∧ (text.toList == nm.toList) = true then ot else text) = text from if_neg fun h => h2 h.1)
  go_enter Tryz.func145, Tryz.ntmps145
  go_upto_region 1 with fail
  rw [← hW]
  clear hW
  go_upto_region 3 with fail
  have hx3 := X3.out; have hx6 := X6.out; have hB1 := HB0.out; have hsz := hs
  generalize W = U at *
  clear X3 X6 HB0 y0 y1 y2 y3 f3 hs
  have HB0 := lh hB1; have X3 := lh hx3; have X6 := lh hx6
  clear hB1 hx3 hx6
  go_wp2_with fail
  go_loopw [7, 8] (fun vo i wr => ∃ (k : Nat) (xs : List Value), k ≤ parts.length ∧ i = .int .i64 k ∧ wr.ownsRow U.heap.size 35 4 vo k xs ∧ FlatP (Own U wr vo) wr ((parts.take k).map (rnP nm ot)) xs ∧ Below U.heap.size U wr) (fun _ i _ => parts.length - (intOf i).toNat)
  case atStart => exact ⟨0, [], Nat.zero_le _, rfl, World.ownsRow_nil _ _ _ _, rfl, Below.refl _ _⟩
  case round =>
   obtain ⟨k, xs, hk, rfl, hrow, hflat, hB⟩ := hrel
   have hbw : Below w.heap.size w wr := HB0.out.trans (hB.mono HB0.out.size)
   have x3 := bget hB X3.out (by omega)
   have x6 := bget hB X6.out (by omega)
   obtain ⟨y0, y1, y2, y3⟩ := cells4 x3
   by_cases hlt : k < parts.length
   ·have hlt' : (k : Int) < (parts.length : Int) := by omega
    obtain ⟨b, o, rfl, hbn, hss⟩ := HKA.out (by omega)
    obtain ⟨c0, c1, c2, c3, g0, g1, g2, g3, ht⟩ := PtsAt.get parts b o hss k hlt
    have q0 := (hbw.cell (p := ⟨b, _, none⟩) (Nat.lt_of_lt_of_le hbn hn0)).trans g0
    have q1 := (hbw.cell (p := ⟨b, _, none⟩) (Nat.lt_of_lt_of_le hbn hn0)).trans g1
    have q2 := (hbw.cell (p := ⟨b, _, none⟩) (Nat.lt_of_lt_of_le hbn hn0)).trans g2
    have q3 := (hbw.cell (p := ⟨b, _, none⟩) (Nat.lt_of_lt_of_le hbn hn0)).trans g3
    obtain ⟨oo, nn, tt, ka, kn, kc, rfl, rfl, rfl, rfl⟩ := ht.shape
    have HC := lh (HIH.out _ (kid_ltP k hlt) parts[k] rfl _ wr n₀ (by have := hbw.size; omega) (PtAt.keepH (fun x hx => hbw.block x (by omega)) (Nat.le_refl _) _ _ ht) (lensP_get HLEN.out k hlt))
    have HB := lh hB; have HROW := lh hrow; have HFLAT := lh hflat
    clear g0 g1 g2 g3 hss ht hB hrow hflat x3 x6 hbw
    go_wp2_with fail
    refine HC.out.mono ?_
    rintro e w1 ⟨⟨v2, rfl, hnew⟩, hb1⟩
    have hsz1 := hb1.size
    have hszr := HB.out.size
    obtain ⟨o2, n2, t2, ka2, kn2, kc2, rfl⟩ := PtIn.shape hnew
    have hown1 : ∀ kk, u7.ownBlock = some kk → U.heap.size ≤ kk ∧ kk < wr.heap.size := fun kk h => HROW.out.lt kk h
    have hrow1 : w1.ownsRow U.heap.size 35 4 u7 k xs := HROW.out.kept (row := none) ⟨hb1.os, hb1.tape, hb1.output, hb1.size, fun i hi _ => hb1.block i hi⟩ (by cases u7.ownBlock <;> simp)
    have hrow2 := hrow1.alloc (.cells #[.int .i64 o2, .int .i64 n2, .string t2, .slice ka2 kn2 kc2] 35)
    have HNEW := lh hnew; have HB1 := lh hb1; have HR2 := lh hrow2; have HO1 := lh hown1
    have hnews := cells_new w1 [.int .i64 o2, .int .i64 n2, .string t2, .slice ka2 kn2 kc2] 35
    have HNW := lh hnews
    have hone : ∀ u ∈ [Value.int .i64 o2, .int .i64 n2, .string t2, .slice ka2 kn2 kc2], u.oneCell' = true := by intro u hu; simp at hu; rcases hu with rfl | rfl | rfl | rfl <;> rfl
    have HONE := lh hone
    clear hnew hb1 hrow1 hrow2 hown1 hnews hone y0 y1 y2 y3 q0 q1 q2 q3
    go_wp2_with (at_builtin; refine wpList_append_own_at _ rfl _ _ 30 rfl U.heap.size 35 i0 _ 4 56 Tryz.underlying30 hi hz0 hz1 hz2 rfl (by decide) u7 k xs rfl HR2.out ⟨w1.heap.size, 0, none⟩ 1 1 [.int .i64 o2, .int .i64 n2, .string t2, .slice ka2 kn2 kc2] rfl rfl HNW.out HONE.out (by unfold maxLen; omega) (by omega) (by simp; omega) ?_; intro v' w' hown' hgr hnil hat; have HOWN := lh hown'; have HGR := lh hgr; have HAT := lh hat; clear hown' hgr hnil hat)
    go_roundw
    case rel =>
     obtain ⟨s1, s2, s3, s4⟩ := own_step HB.out HB1.out HO1.out HGR.out HAT.out
     refine ⟨k + 1, _, by omega, by go_num, HOWN.out, ?_, s4⟩
     rw [List.take_succ_eq_append_getElem hlt, List.map_append, List.map_cons, List.map_nil]
     exact FlatP.snoc (PtIn.keep (fun b h => (s3 b h.1 h.2).1) (fun b h => (s3 b h.1 h.2).2) _ _ HNEW.out) _ _ (FlatP.keep s1 s2 _ _ HFLAT.out)
    case measure => simp [intOf]; omega
   ·obtain rfl : k = parts.length := by omega
    obtain ⟨ra, rc, rfl⟩ := slice_of_row hrow
    have f3 := free_box x3
    obtain ⟨z0, z1, z2, z3⟩ := cells4 x6
    have f6 := free_box x6
    have HBW := lh hbw; have HROW := lh hrow; have HFLAT := lh hflat; have HB := lh hB
    have hszr := hB.size
    clear hbw hrow hflat hB x3 x6
    go_wp2_with fail
    have hkp0 : Kept (fun k => k = w.heap.size ∨ k = w.heap.size + 1) wr (wr.setCell ⟨w.heap.size, 3, none⟩ (.slice ra parts.length rc)) := .setCell _ (.inl rfl) _
    have hkp : Kept (fun k => k = w.heap.size ∨ k = w.heap.size + 1) wr (((((wr.setCell ⟨w.heap.size, 3, none⟩ (.slice ra parts.length rc)).setCell ⟨w.heap.size + 1, 0, none⟩ (.int .i64 form)).setCell ⟨w.heap.size + 1, 1, none⟩ (.int .i64 n)).setCell ⟨w.heap.size + 1, 2, none⟩ (.string text)).setCell ⟨w.heap.size + 1, 3, none⟩ (.slice ra parts.length rc)) :=
     (((hkp0.trans (.setCell _ (.inr rfl) _)).trans (.setCell _ (.inr rfl) _)).trans (.setCell _ (.inr rfl) _)).trans (.setCell _ (.inr rfl) _)
    have hs2 := hkp.size
    refine bodyPost_ret (v := .agg #[.int .i64 form, .int .i64 n, .string text, .slice ra parts.length rc]) (by simp [results, Tryz.results145, go_sem, z0, z1, z2, z3]) rfl ⟨⟨_, rfl, ?_⟩, HBW.out.trans (hkp.below (by omega) (by rintro k (rfl | rfl) <;> omega))⟩
    unfold PtNew rnP PtIn
    rw [show (if form = 2 ∧ (text.toList == nm.toList) = true then ot else text) = text from if_neg fun h => h2 h.1]
    refine ⟨_, rfl, htx, ?_⟩
    rw [rnPs_map, List.length_map]
    refine owned_sl (w := wr) HROW.out (fun b h => ?_) fun b hb hc => ?_
    ·have := HROW.out.lt b h
     exact ⟨by omega, by have := this.2; omega⟩
    ·have hfl := HFLAT.out
     rw [List.take_length] at hfl
     have hbl := HROW.out.lt b hb
     refine FlatP.ptsIn _ _ _ (FlatP.keep (fun x h => hkp.block x h.2.1 (by have := h.1; omega)) (fun x h => ⟨by have := h.1; omega, by have := h.2.1; omega⟩) _ _ hfl) fun i u hi => ?_
     exact (cell_of_heap (hkp.block b hbl.2 (by omega))).trans (hc i u hi)
set_option maxHeartbeats 2000000 in
set_option maxRecDepth 100000 in
theorem Binds_any (T : Tm) (i : Nat) (v : Value) (w : World) (hT : TmAt w.heap.size w T v) (hi : i < 1000000) (hp : T.op = 15 → 0 < i → i - 1 < T.pats.length)
  (hh : ∀ p ∈ T.pats, patsB p = true ∧ (partsP 1 p).length ≤ 1000000) :
  Calls Tryz.prog 106 #[v, .int .i64 i] w fun e w' => (∃ v', e = .returned v' ∧ SlIn (Fresh w w') v' (boundL T i).length fun b o => StrsAt w' (boundL T i) b o) ∧ Below w.heap.size w w' := by
 obtain ⟨a, cap, a', cap', rfl, htx, hk, hps⟩ := hT.parts
 have HTX := lh htx; have HPS := lh hps; have HH := lh hh; have HP := lh hp
 clear htx hps hk hT hh hp
 have fin1 : ∀ o, boundL T i = [T.text] → (∃ v', Ending.returned (.slice (some ⟨w.heap.size + 1, 0, none⟩) 1 1) = Ending.returned v' ∧ SlIn (Fresh w ((w.alloc o).alloc (.cells #[.string T.text] 9))) v' (boundL T i).length fun b o' => StrsAt ((w.alloc o).alloc (.cells #[.string T.text] 9)) (boundL T i) b o') ∧ Below w.heap.size w ((w.alloc o).alloc (.cells #[.string T.text] 9)) := by
  intro o hb
  rw [hb]
  have hc := heap_alloc_new (w.alloc o) (.cells #[.string T.text] 9)
  rw [World.size_alloc] at hc
  refine ⟨⟨_, rfl, .inr ⟨w.heap.size + 1, 0, 1, rfl, Nat.le_refl _, by unfold maxLen; omega, ⟨by omega, by simp⟩, ⟨⟨cell_box hc, HTX.out⟩, trivial⟩⟩⟩, ((Below.refl _ w).alloc (Nat.le_refl _) _).alloc (by simp) _⟩
 have fin0 : ∀ o, boundL T i = [] → (∃ v', Ending.returned (.slice none 0 0) = Ending.returned v' ∧ SlIn (Fresh w (w.alloc o)) v' (boundL T i).length fun b o' => StrsAt (w.alloc o) (boundL T i) b o') ∧ Below w.heap.size w (w.alloc o) := by
  intro o hb
  rw [hb]
  exact ⟨⟨_, rfl, .inl ⟨rfl, rfl⟩⟩, (Below.refl _ w).alloc (Nat.le_refl _) _⟩
 have FIN1 := lh fin1; have FIN0 := lh fin0
 clear fin1 fin0
 go_enter Tryz.func106, Tryz.ntmps106
 by_cases h5 : T.op = 5
 ·have hb : Hid (boundL T i = [T.text]) := by unfold Hid boundL; simp [h5]
  go_wp2
  go_ret
  exact FIN1.out _ hb.out
 by_cases h27 : T.op = 27
 ·have hb : Hid (boundL T i = [T.text]) := by unfold Hid boundL; simp [h27]
  go_wp2
  go_ret
  exact FIN1.out _ hb.out
 by_cases h7 : T.op = 7
 ·by_cases hi1 : i = 1
  ·have hb : Hid (boundL T i = [T.text]) := by unfold Hid boundL; simp [h7, hi1]
   subst hi1
   go_wp2
   go_ret
   exact FIN1.out _ hb.out
  ·have hb : Hid (boundL T i = []) := by unfold Hid boundL; simp [h7, hi1]
   have hi1' : ¬ ((i : Int) = 1) := by omega
   go_wp2
   go_ret
   exact FIN0.out _ hb.out
 by_cases h15 : T.op = 15
 ·by_cases hi0 : 0 < i
  ·obtain ⟨j, rfl⟩ : ∃ j, i = j + 1 := ⟨i - 1, by omega⟩
   have hj : j < T.pats.length := by simpa using HP.out h15 hi0
   have hb : Hid (boundL T (j + 1) = namesP T.pats[j]) := by unfold Hid boundL; simp [h15, hj]
   have hbox := heap_alloc_new w (.cells #[.int .i64 15, .int .i64 T.n, .string T.text, .slice a T.kids.length cap, .slice a' T.pats.length cap'] 32)
   obtain ⟨b, o, cap2, he, hc1, hc2, hbn, hss⟩ : ∃ b o cap2, (Value.slice a' T.pats.length cap') = .slice (some ⟨b, o, none⟩) T.pats.length cap2 ∧ T.pats.length ≤ cap2 ∧ cap2 ≤ maxLen ∧ b < w.heap.size ∧ PtsAt w.heap.size w T.pats b o := by
    rcases HPS.out with ⟨h, -⟩ | ⟨b, o, cap2, h1, h2, h3, h4, h5⟩
    ·omega
    ·exact ⟨b, o, cap2, h1, h2, h3, h4, h5⟩
   cases he
   obtain ⟨c0, c1, c2, c3, g0, g1, g2, g3, ht⟩ := PtsAt.get T.pats b o hss j hj
   have hBl : Below w.heap.size w (w.alloc (.cells #[.int .i64 15, .int .i64 T.n, .string T.text, .slice a T.kids.length cap, .slice (some ⟨b, o, none⟩) T.pats.length cap'] 32)) := (Below.refl _ w).alloc (Nat.le_refl _) _
   have q0 := (hBl.cell (p := ⟨b, _, none⟩) hbn).trans g0
   have q1 := (hBl.cell (p := ⟨b, _, none⟩) hbn).trans g1
   have q2 := (hBl.cell (p := ⟨b, _, none⟩) hbn).trans g2
   have q3 := (hBl.cell (p := ⟨b, _, none⟩) hbn).trans g3
   have hpj := HH.out _ (List.getElem_mem hj)
   have hnl : (patN T.pats[j]).length ≤ 1000000 := by have := patN_le T.pats[j] 1; omega
   have hnm := PatNames_any T.pats[j] (.agg #[c0, c1, c2, c3]) _ (PtAt.keep hBl hBl.size _ _ ht) (partsP_lens _ 1 hpj.2) hnl
   rw [patN_names _ 1 hpj.1] at hnm
   have HNM := lh hnm; have HBL := lh hBl
   clear hnm hBl hss ht g0 g1 g2 g3 hbox hpj hnl
   go_wp2_with fail
   refine HNM.out.mono ?_
   rintro e w1 ⟨⟨v2, rfl, hsl⟩, hb1⟩
   obtain ⟨a2, cap2, rfl⟩ := hsl.split
   have HSL := lh hsl; have HB1 := lh hb1
   clear hsl hb1
   go_wp2
   go_ret
   rw [hb.out]
   exact ⟨⟨_, rfl, HSL.out.mono (fun b h => ⟨by have := h.1; simp at this; omega, h.2⟩) fun _ _ _ h => h⟩, HBL.out.trans (HB1.out.mono (by simp))⟩
  ·have hb : Hid (boundL T i = []) := by unfold Hid boundL; simp [h15, hi0]
   have hi0' : i = 0 := by omega
   subst hi0'
   go_wp2
   go_ret
   exact FIN0.out _ hb.out
 ·have hb : Hid (boundL T i = []) := by unfold Hid boundL; simp [h5, h27, h7, h15]
  go_wp2
  go_ret
  exact FIN0.out _ hb.out
theorem TmFar.keep {S S' : Nat → Prop} {W W' : World} {T : Tm} {v : Value} (h : TmFar S W T v) (hb : ∀ b, S b → b < W.heap.size → W'.heap[b]? = W.heap[b]?) (hS : ∀ b, S b → b < W.heap.size → S' b) (hs : W.heap.size ≤ W'.heap.size) : TmFar S' W' T v := fun w'' n₁ hw hn =>
 h w'' n₁ (fun b h1 h2 => (hw b (hS b h1 h2) (by omega)).trans (hb b h1 h2)) (by omega)
theorem TmFar.of {S : Nat → Prop} {n₀ : Nat} {W : World} {T : Tm} {v : Value} (h : TmAt n₀ W T v) (hn : n₀ ≤ W.heap.size) (hS : ∀ b, b < n₀ → S b) : TmFar S W T v := fun w'' n₁ hw hn1 =>
 TmAt.keepH (fun b hb => hw b (hS b hb) (by omega)) (by omega) _ _ h
theorem TmFar.shape {S : Nat → Prop} {W : World} {T : Tm} {v : Value} (h : TmFar S W T v) : ∃ a cap a' cap', v = .agg #[.int .i64 T.op, .int .i64 T.n, .string T.text, .slice a T.kids.length cap, .slice a' T.pats.length cap'] := by
 obtain ⟨a, cap, a', cap', rfl, -⟩ := h.at.parts
 exact ⟨a, cap, a', cap', rfl⟩
def FlatF (S : Nat → Prop) (W : World) : List Tm → List Value → Prop
 | [], cs => cs = []
 | p :: ps, cs => ∃ c0 c1 c2 c3 c4 r, cs = c0 :: c1 :: c2 :: c3 :: c4 :: r ∧ TmFar S W p (.agg #[c0, c1, c2, c3, c4]) ∧ FlatF S W ps r
theorem FlatF.keep {S S' : Nat → Prop} {W W' : World} (hb : ∀ b, S b → b < W.heap.size → W'.heap[b]? = W.heap[b]?) (hS : ∀ b, S b → b < W.heap.size → S' b) (hs : W.heap.size ≤ W'.heap.size) : ∀ (ps : List Tm) (cs : List Value), FlatF S W ps cs → FlatF S' W' ps cs
 | [], _, h => h
 | _ :: ps, _, ⟨c0, c1, c2, c3, c4, r, h1, h2, h3⟩ => ⟨c0, c1, c2, c3, c4, r, h1, h2.keep hb hS hs, FlatF.keep hb hS hs ps r h3⟩
theorem FlatF.snoc {S : Nat → Prop} {W : World} {p : Tm} {c0 c1 c2 c3 c4 : Value} (hp : TmFar S W p (.agg #[c0, c1, c2, c3, c4])) : ∀ (ps : List Tm) (cs : List Value), FlatF S W ps cs → FlatF S W (ps ++ [p]) (cs ++ [c0, c1, c2, c3, c4])
 | [], _, h => by cases h; exact ⟨c0, c1, c2, c3, c4, [], rfl, hp, rfl⟩
 | _ :: ps, _, ⟨d0, d1, d2, d3, d4, r, h1, h2, h3⟩ => ⟨d0, d1, d2, d3, d4, r ++ [c0, c1, c2, c3, c4], by rw [h1]; rfl, h2, FlatF.snoc hp ps r h3⟩
theorem FlatF.tms {S : Nat → Prop} {W w'' : World} {n₁ b : Nat} (hw : ∀ b, S b → b < W.heap.size → w''.heap[b]? = W.heap[b]?) (hn : W.heap.size ≤ n₁) : ∀ (ps : List Tm) (cs : List Value) (o : Nat), FlatF S W ps cs → (∀ i u, cs[i]? = some u → w''.cell? ⟨b, o + i, none⟩ = some u) → TmsAt n₁ w'' ps b o
 | [], _, _, _, _ => by unfold TmsAt; trivial
 | p :: ps, _, o, ⟨c0, c1, c2, c3, c4, r, h1, h2, h3⟩, hc => by
  subst h1
  unfold TmsAt
  refine ⟨⟨c0, c1, c2, c3, c4, hc 0 c0 rfl, hc 1 c1 rfl, hc 2 c2 rfl, hc 3 c3 rfl, hc 4 c4 rfl, h2 w'' n₁ hw hn⟩, FlatF.tms hw hn ps r (o + 5) h3 fun i u hi => ?_⟩
  rw [Nat.add_assoc, Nat.add_comm 5 i]; exact hc (i + 5) u hi
end Go.Proofs.YtjpahjfjpkbcnaaGreat
