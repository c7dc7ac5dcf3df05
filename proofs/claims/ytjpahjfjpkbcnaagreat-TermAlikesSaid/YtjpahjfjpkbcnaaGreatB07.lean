/- Contracts of the program's functions. -/
import Derived.Test.YtjpahjfjpkbcnaaGreatB05
import Derived.Test.YtjpahjfjpkbcnaaGreatB06
import Derived.Shelf.SlIter.Nil
import Derived.Shelf.SortM.Plain
import Derived.Shelf.SortM.SortNone
import Derived.Ground.GgzProg
import Derived.Ground.SlgmProg
import Derived.Test.YtjpahjfjpkbcnaaGreatProg
import Derived.Test.YtjpahjfjpkbcnaaGreatB04

namespace Go.Proofs.YtjpahjfjpkbcnaaGreat
open Go.Proofs Go.RowKit
attribute [local go_sem] eval_put_same eval_put_ne size_put
theorem wpAnyZ_two {P : Program} {ops : Array Oper} {Q : Exit → Act → World → Prop} {md : Region.Mode} {S : World → Prop} {z : Nat} (i j : Nat) {o o' : Oper} {fuel : Nat} {listed : Array Bool} {a : Act} {w : World} (hr : Region.ready md ops listed = [i, j]) (ho : ops[i]? = some o) (ho' : ops[j]? = some o')
  (h : ∀ K' : Act → World → Prop, Shut (∀ a' w', (i ≠ z → S w') → wpAnyZ P md ops Q S z fuel (listed.setIfInBounds i true) a' w' → K' a' w') → if Region.wanted o (yielded ops a.tmps) = true then Oper.wp P o a w K' Q else K' (a.put o.dst undef) w)
  (h' : ∀ K' : Act → World → Prop, Shut (∀ a' w', (j ≠ z → S w') → wpAnyZ P md ops Q S z fuel (listed.setIfInBounds j true) a' w' → K' a' w') → if Region.wanted o' (yielded ops a.tmps) = true then Oper.wp P o' a w K' Q else K' (a.put o'.dst undef) w) :
  wpAnyZ P md ops Q S z (fuel + 1) listed a w := by
 refine ⟨fun h => (by rw [hr] at h; cases h), fun k hk => ?_⟩
 rw [hr] at hk
 rcases List.mem_cons.1 hk with rfl | hk
 ·exact wpOp_step ho (fun K' hK => h K' (fun a' w' h1 h2 => hK a' w' ⟨h1, h2⟩))
 ·obtain rfl : k = j := by simpa using hk
  exact wpOp_step ho' (fun K' hK => h' K' (fun a' w' h1 h2 => hK a' w' ⟨h1, h2⟩))
def scs108 (fr : List ByteArray) (nm : ByteArray) (T : Tm) : List Sc := (scp (chSome fr) (boundL T) [] ((fr ++ [nm] ++ standL T).length, inL (fr ++ [nm] ++ standL T)) T.kids.length).1
def r108x0 : Oper := { dst := some 26, op := Op.load 32 (Operand.tmp 3), type := 32, pos := "bound.go:173", after := #[], guard := none }
def r108x1 : Oper := { dst := some 27, op := Op.load 126 (Operand.tmp 2), type := 126, pos := "bound.go:173", after := #[], guard := none }
def r108x2 : Oper := { dst := some 28, op := Op.load 32 (Operand.tmp 3), type := 32, pos := "bound.go:173", after := #[], guard := none }
def r108x3 : Oper := { dst := some 29, op := Op.call { callee := Callee.value (Operand.func 140), args := #[Operand.tmp 27, Operand.tmp 28], argTypes := #[126, 32] }, type := 170, pos := "bound.go:173", after := #[{ on := 1, ground := Ground.data }, { on := 2, ground := Ground.data }], guard := none }
def r108x4 : Oper := { dst := some 30, op := Op.call { callee := Callee.value (Operand.func 139), args := #[Operand.tmp 26, Operand.const (Value.pointer none), Operand.tmp 29], argTypes := #[32, 173, 170] }, type := 168, pos := "bound.go:173", after := #[{ on := 0, ground := Ground.data }, { on := 3, ground := Ground.data }, { on := 3, ground := Ground.chain }], guard := none }
def r108x5 : Oper := { dst := some 25, op := Op.move (Operand.tmp 30), type := 168, pos := "bound.go:173", after := #[{ on := 4, ground := Ground.data }], guard := none }
def r108x6 : Oper := { dst := some 31, op := Op.extract (Operand.tmp 25) 0, type := 32, pos := "bound.go:173", after := #[{ on := 5, ground := Ground.data }], guard := none }
def r108x7 : Oper := { dst := some 32, op := Op.extract (Operand.tmp 25) 1, type := 167, pos := "bound.go:173", after := #[{ on := 5, ground := Ground.data }, { on := 9, ground := Ground.gcOnly Departure.lateStores }], guard := none }
def r108x8 : Oper := { dst := some 5, op := Op.alloc 32, type := 0, pos := "bound.go:173", after := #[], guard := none }
def r108x9 : Oper := { dst := none, op := Op.store 32 (Operand.tmp 5) (Operand.tmp 31), type := 0, pos := "bound.go:173", after := #[{ on := 8, ground := Ground.data }, { on := 6, ground := Ground.data }, { on := 4, ground := Ground.chain }, { on := 0, ground := Ground.phase }, { on := 1, ground := Ground.phase }, { on := 2, ground := Ground.phase }, { on := 3, ground := Ground.phase }, { on := 4, ground := Ground.phase }, { on := 5, ground := Ground.phase }, { on := 6, ground := Ground.phase }, { on := 7, ground := Ground.textOnly Departure.lateStores }, { on := 8, ground := Ground.phase }], guard := none }
def r108x10 : Oper := { dst := some 6, op := Op.assign (Operand.tmp 32), type := 167, pos := "bound.go:173", after := #[{ on := 7, ground := Ground.data }, { on := 9, ground := Ground.chain }, { on := 0, ground := Ground.phase }, { on := 1, ground := Ground.phase }, { on := 2, ground := Ground.phase }, { on := 3, ground := Ground.phase }, { on := 4, ground := Ground.phase }, { on := 5, ground := Ground.phase }, { on := 6, ground := Ground.phase }, { on := 7, ground := Ground.phase }, { on := 8, ground := Ground.phase }, { on := 9, ground := Ground.phase }], guard := none }
def ops108 : Array Oper := #[r108x0, r108x1, r108x2, r108x3, r108x4, r108x5, r108x6, r108x7, r108x8, r108x9, r108x10]
attribute [local go_sem] r108x0 r108x1 r108x2 r108x3 r108x4 r108x5 r108x6 r108x7 r108x8 r108x9 r108x10
def ds108 : List Nat := [26, 27, 28, 29, 30, 25, 31, 32, 5, 6]
def End108 (fr : List ByteArray) (nm : ByteArray) (T : Tm) (U : World) (a a' : Act) (w' : World) : Prop :=
 ∃ (q bs : Nat) (pa' : Option Addr) (pc' : Nat) (cs : Array Value), a'.tmps.size = 70 ∧ a'.defers = a.defers ∧ (∀ k, k ∉ ds108 → a'.tmps[k]? = a.tmps[k]?) ∧ a'.tmps[5]? = some (.pointer (some ⟨q, 0, none⟩)) ∧ a'.tmps[6]? = some (.slice (some ⟨bs, 0, none⟩) T.kids.length T.kids.length) ∧
  w'.heap[q]? = some (.cells #[.int .i64 T.op, .int .i64 T.n, .string (rebText T (scs108 fr nm T)), .slice none 0 0, .slice pa' (rebPats T (scs108 fr nm T)).length pc'] 32 (0, 0)) ∧ U.heap.size ≤ q ∧ U.heap.size ≤ bs ∧ bs ≠ q ∧ w'.heap[bs]? = some (.cells cs 173 (0, 0)) ∧
  (rebText T (scs108 fr nm T)).size ≤ maxLen ∧ (SlIn (fun b => U.heap.size ≤ b ∧ b < w'.heap.size ∧ b ≠ q) (.slice pa' (rebPats T (scs108 fr nm T)).length pc') (rebPats T (scs108 fr nm T)).length fun b o => PtsIn (fun b => U.heap.size ≤ b ∧ b < w'.heap.size ∧ b ≠ q) w' (rebPats T (scs108 fr nm T)) b o) ∧
  ScsIn (fun b => U.heap.size ≤ b ∧ b < w'.heap.size ∧ b ≠ q) w' (scs108 fr nm T) cs ∧ Below U.heap.size U w'
set_option maxHeartbeats 4000000 in
set_option maxRecDepth 100000 in
theorem reg108 {Q : Exit → Act → World → Prop} {a : Act} {U : World} {Bx Bt : Nat} {nm : ByteArray} {y1 y2 y3 y4 y5 : Value} {fa : Option Addr} {fcap : Nat} {fr : List ByteArray} {T : Tm} {ka : Option Addr} {kc : Nat} {pa : Option Addr} {pc : Nat}
  (hsz : a.tmps.size = 70) (h2 : a.tmps[2]'(by omega) = .pointer (some ⟨Bx, 0, none⟩)) (h3 : a.tmps[3]'(by omega) = .pointer (some ⟨Bt, 0, none⟩))
  (hQ : ∀ c (d : Nat) v (a : Act) w, Q (.panic c) (a.put (some d) v) w → Q (.panic c) a w)
  (hbx : U.heap[Bx]? = some (.cells #[.string nm, y1, y2, y3, y4, y5, .slice fa fr.length fcap] 126 (0, 0))) (hbt : U.heap[Bt]? = some (.cells #[.int .i64 T.op, .int .i64 T.n, .string T.text, .slice ka T.kids.length kc, .slice pa T.pats.length pc] 32 (0, 0)))
  (hnm : nm.size ≤ maxLen) (hfv : SlV U.heap.size (.slice fa fr.length fcap) fr.length fun b o => StrsAt U fr b o)
  (hT : TmAt U.heap.size U T (.agg #[.int .i64 T.op, .int .i64 T.n, .string T.text, .slice ka T.kids.length kc, .slice pa T.pats.length pc])) (hh : heightM T ≤ 1000) (hok : okN T) (hlen : lensM T) (hsh : shapeT T) (hl : (standL T).length + fr.length ≤ 900000) (hbk : bndK (boundL T) T.kids.length ≤ 10000000)
  (hK : ∀ (a' : Act) (w' : World), End108 fr nm T U a a' w' → Q .normal a' w') :
  (Code.region 5 ops108 true).wp Tryz.prog Q a U := by
 have hl0 : (fr ++ [nm] ++ standL T).length ≤ 1000000 := by simp; omega
 have HBX := lh hbx; have HBT := lh hbt; have HK := lh hK; have HFV := lh hfv; have HT := lh hT; have HOK := lh hok; have HLE := lh hlen; have HSH := lh hsh; have HL := lh hl; have HBK := lh hbk; have HL0 := lh hl0
 clear hbx hbt hK hfv hT hok hlen hsh hl hbk hl0
 -- the two calls, wherever they are made
 have hcho : ∀ W, Below U.heap.size U W → Calls Tryz.prog 140 #[.agg #[.string nm, y1, y2, y3, y4, y5, .slice fa fr.length fcap], .agg #[.int .i64 T.op, .int .i64 T.n, .string T.text, .slice ka T.kids.length kc, .slice pa T.pats.length pc]] W fun e w' => ChoEnd fr nm T (.slice fa fr.length fcap) W e w' := fun W hb =>
  chooser_any fr nm y1 y2 y3 y4 y5 _ T _ W hnm (HFV.o.mono hb.size fun b o hlt hr => StrsAt.keep hb _ _ _ hlt hr) (TmAt.keep hb hb.size _ _ HT.o) hh HOK.o HL.o
 have hreb : ∀ (W : World) (Bx' q mb : Nat), Below U.heap.size U W → U.heap.size ≤ mb → U.heap.size ≤ Bx' → q ≠ mb → Bx' ≠ mb → W.cell? ⟨Bx', 6, none⟩ = some (.slice fa fr.length fcap) → W.heap[q]? = some (.cells #[.map (some mb)] 87 (0, 0)) → SetAt W mb (fr ++ [nm] ++ standL T).length (inL (fr ++ [nm] ++ standL T)) →
   Calls Tryz.prog 139 #[.agg #[.int .i64 T.op, .int .i64 T.n, .string T.text, .slice ka T.kids.length kc, .slice pa T.pats.length pc], .pointer none, .func (.func 166) #[] #[.pointer (some ⟨Bx', 0, none⟩), .pointer (some ⟨q, 0, none⟩)]] W fun e w' => ∃ pv bs, e = .returned (.tuple #[.agg #[.int .i64 T.op, .int .i64 T.n, .string (rebText T (scs108 fr nm T)), .slice none 0 0, pv], .slice (some ⟨bs, 0, none⟩) T.kids.length T.kids.length]) ∧
    ((rebText T (scs108 fr nm T)).size ≤ maxLen ∧ SlIn (Fresh W w') pv (rebPats T (scs108 fr nm T)).length fun b o => PtsIn (Fresh W w') w' (rebPats T (scs108 fr nm T)) b o) ∧ (Fresh W w' bs ∧ ∃ cs, w'.heap[bs]? = some (.cells cs 173 (0, 0)) ∧ ScsIn (Fresh W w') w' (scs108 fr nm T) cs) ∧ Kept (· = mb) W w' := fun W Bx' q mb hb hmb hBx hqm hBm hc6 hq hset => by
  have H := chs_some W Bx' q mb U.heap.size fr (.slice fa fr.length fcap) hc6 hq (HFV.o.mono (Nat.le_refl _) fun b o hlt hr => StrsAt.keep hb _ _ _ hlt hr) hb.size (by have := HL.out; omega) hqm hBm hmb
  refine (rebind_any H T [] ((fr ++ [nm] ++ standL T).length, inL (fr ++ [nm] ++ standL T)) U.heap.size (fun _ => False) _ (.pointer none) W (TmAt.keep hb (Nat.le_refl _) _ _ HT.o) HOK.o HLE.o HSH.o (by rintro b rfl; exact ⟨hmb, hset.lt⟩) (Nat.le_refl _) hb.size (fun b h => h.elim) rfl (by have := HL0.out; have := HBK.out; show (fr ++ [nm] ++ standL T).length + _ ≤ _; omega) ⟨hset, Kept.refl _ _, hset.lt⟩).mono ?_
  rintro e w' ⟨pv, bs, rfl, h1, ⟨h2, cs, h3, h4⟩, -, h5⟩
  exact ⟨pv, bs, rfl, h1, ⟨h2, cs, h3, h4.keep fun b h => ⟨h.elim (fun h => h.elim) id, rfl⟩⟩, h5⟩
 have HCHO := lh hcho; have HREB := lh hreb
 clear hcho hreb
 refine wp_region_z (fun w' => Below U.heap.size U w') 10 (by kernel_rfl) ?_
 refine wpAnyZ_take 0 (oi := r108x0) (below_drew _ _) rfl (by kernel_rfl) (by kernel_rfl) (by kernel_rfl) (fun c a w h => hQ c _ _ a w h) (by kernel_rfl) rfl (by rfl) (by intro w' hSw; obtain ⟨k0, k1, k2, k3, k4⟩ := cells5 (bget' hSw HBT.o); go_simp <;> rfl) ?_
 refine wpAnyZ_take 1 (oi := r108x1) (below_drew _ _) rfl (by kernel_rfl) (by kernel_rfl) (by kernel_rfl) (fun c a w h => hQ c _ _ a w h) (by kernel_rfl) rfl (by rfl) (by intro w' hSw; have k0 := cell_box (j := 0) (bget' hSw HBX.o); have k1 := cell_box (j := 1) (bget' hSw HBX.o); have k2 := cell_box (j := 2) (bget' hSw HBX.o); have k3 := cell_box (j := 3) (bget' hSw HBX.o); have k4 := cell_box (j := 4) (bget' hSw HBX.o); have k5 := cell_box (j := 5) (bget' hSw HBX.o); have k6 := cell_box (j := 6) (bget' hSw HBX.o); clear hSw; go_simp <;> rfl) ?_
 refine wpAnyZ_take 2 (oi := r108x2) (below_drew _ _) rfl (by kernel_rfl) (by kernel_rfl) (by kernel_rfl) (fun c a w h => hQ c _ _ a w h) (by kernel_rfl) rfl (by rfl) (by intro w' hSw; obtain ⟨k0, k1, k2, k3, k4⟩ := cells5 (bget' hSw HBT.o); go_simp <;> rfl) ?_
 have fin : ∀ (a' : Act) (V : World) (q5 bs lo hi : Nat) (pa' : Option Addr) (pc' : Nat) (cs : Array Value), a'.tmps.size = 70 → a'.defers = a.defers → (∀ k, k ∉ ds108 → a'.tmps[k]? = a.tmps[k]?) → a'.tmps[5]? = some (.pointer (some ⟨q5, 0, none⟩)) → a'.tmps[6]? = some (.slice (some ⟨bs, 0, none⟩) T.kids.length T.kids.length) →
   V.heap[q5]? = some (.cells #[.int .i64 T.op, .int .i64 T.n, .string (rebText T (scs108 fr nm T)), .slice none 0 0, .slice pa' (rebPats T (scs108 fr nm T)).length pc'] 32 (0, 0)) → U.heap.size ≤ lo → U.heap.size ≤ q5 → (q5 < lo ∨ hi ≤ q5) → hi ≤ V.heap.size → lo ≤ bs → bs < hi → V.heap[bs]? = some (.cells cs 173 (0, 0)) → (rebText T (scs108 fr nm T)).size ≤ maxLen →
   (SlIn (fun b => lo ≤ b ∧ b < hi) (.slice pa' (rebPats T (scs108 fr nm T)).length pc') (rebPats T (scs108 fr nm T)).length fun b o => PtsIn (fun b => lo ≤ b ∧ b < hi) V (rebPats T (scs108 fr nm T)) b o) → ScsIn (fun b => lo ≤ b ∧ b < hi) V (scs108 fr nm T) cs → Below U.heap.size U V → Q .normal a' V := by
  intro a' V q5 bs lo hi pa' pc' cs g1 g2 g3 g4 g5 g6 g7 g8 g9 g10 g11 g12 g13 g14 g15 g16 g17
  have hset : ∀ b, (lo ≤ b ∧ b < hi) → U.heap.size ≤ b ∧ b < V.heap.size ∧ b ≠ q5 := fun b h => ⟨by omega, by omega, by omega⟩
  exact HK.o a' V ⟨q5, bs, pa', pc', cs, g1, g2, g3, g4, g5, g6, g8, by omega, by omega, g13, g14, g15.mono hset fun b o hb hr => PtsIn.keep (fun _ _ => rfl) hset _ _ _ hb hr, g16.keep fun b h => ⟨hset b h, rfl⟩, g17⟩
 have FIN := lh fin
 clear fin
 refine wpAnyZ_two 3 8 (o := r108x3) (o' := r108x8) (by kernel_rfl) rfl rfl (fun KK hKK => ?_) (fun KK hKK => ?_)
 ·go_simp
  refine (HCHO.o U.drew (below_drew U.heap.size U)).mono ?_
  rintro e w1 ⟨Bx', q0, mb, rfl, hB1, hB2, hB3, hne, hne2, hc6, hq6, hset, hb1⟩
  have hsW := (below_drew U.heap.size U).size
  have hb11 : Below U.heap.size U w1 := (below_drew U.heap.size U).trans (hb1.mono hsW)
  have HC6 := lh hc6; have HQ6 := lh hq6; have HSET := lh hset; have HB11 := lh hb11; have hs1 := hb1.size
  clear hc6 hq6 hset hb1
  refine hKK.o _ _ (fun _ => hb11) ?_
  clear hKK KK hb11
  refine wpAnyZ_two 4 8 (o := r108x4) (o' := r108x8) (by kernel_rfl) rfl rfl (fun KK hKK => ?_) (fun KK hKK => ?_)
  ·go_simp
   refine (HREB.o w1 Bx' q0 mb HB11.o (by omega) (by omega) hne hne2 HC6.o HQ6.o HSET.o).mono ?_
   rintro e w2 ⟨pv, bs, rfl, ⟨hts, hpv⟩, ⟨hbs, cs, hcs, hscs⟩, hk2⟩
   obtain ⟨pa', pc', rfl⟩ := hpv.split
   have hs2 := hk2.size
   have hszW := (HB11.o).size
   have hb22 : Below U.heap.size U w2 := (HB11.o).trans (hk2.below hszW (by rintro b rfl; omega))
   have HTS := lh hts; have HPV := lh hpv; have HBS := lh hbs; have HCS := lh hcs; have HSCS := lh hscs; have HK2 := lh hk2; have HB22 := lh hb22
   clear hts hpv hbs hcs hscs hk2
   refine hKK.o _ _ (fun _ => hb22) ?_
   clear hKK KK hb22
   refine wpAnyZ_take 5 (oi := r108x5) HB22.o rfl (by kernel_rfl) (by kernel_rfl) (by kernel_rfl) (fun c a w h => hQ c _ _ a w h) (by kernel_rfl) rfl (by rfl) (by intro w' hSw; go_simp <;> rfl) ?_
   refine wpAnyZ_take 6 (oi := r108x6) HB22.o rfl (by kernel_rfl) (by kernel_rfl) (by kernel_rfl) (fun c a w h => hQ c _ _ a w h) (by kernel_rfl) rfl (by rfl) (by intro w' hSw; go_simp <;> rfl) ?_
   refine wpAnyZ_take 7 (oi := r108x7) HB22.o rfl (by kernel_rfl) (by kernel_rfl) (by kernel_rfl) (fun c a w h => hQ c _ _ a w h) (by kernel_rfl) rfl (by rfl) (by intro w' hSw; go_simp <;> rfl) ?_
   refine wpAnyZ_one 8 (o := r108x8) (by kernel_rfl) rfl fun KK hKK => ?_
   go_simp
   have hba : Below U.heap.size U (w2.alloc (.cells #[.int .i64 0, .int .i64 0, .string ⟨#[]⟩, .slice none 0 0, .slice none 0 0] 32)) := (HB22.o).trans (((Below.refl _ w2).alloc (Nat.le_refl _) _).mono (HB22.o).size)
   have hxa := heap_alloc_new w2 (.cells #[.int .i64 0, .int .i64 0, .string ⟨#[]⟩, .slice none 0 0, .slice none 0 0] 32)
   have hsa : (w2.alloc (.cells #[.int .i64 0, .int .i64 0, .string ⟨#[]⟩, .slice none 0 0, .slice none 0 0] 32)).heap.size = w2.heap.size + 1 := by simp
   have hoa : ∀ b, b < w2.heap.size → (w2.alloc (.cells #[.int .i64 0, .int .i64 0, .string ⟨#[]⟩, .slice none 0 0, .slice none 0 0] 32)).heap[b]? = w2.heap[b]? := fun b h => Below.heap_alloc _ _ _ h
   refine hKK.o _ _ (fun _ => hba) ?_
   clear hKK KK
   generalize (w2.alloc (.cells #[.int .i64 0, .int .i64 0, .string ⟨#[]⟩, .slice none 0 0, .slice none 0 0] 32)) = w3 at *
   have HOA := lh hoa; have HSA := lh hsa
   clear hoa hsa
   have hbx5 := hxa
   obtain ⟨m0, m1, m2, m3, m4⟩ := cells5 hbx5
   have mf := free_box hbx5
   have HBX5 := lh hbx5; have HBV := lh hba
   clear hbx5
   refine wpAnyZ_one 9 (o := r108x9) (by kernel_rfl) rfl fun KK hKK => ?_
   go_simp
   have hks := kept5 w3 w2.heap.size (.int .i64 T.op) (.int .i64 T.n) (.string (rebText T (scs108 fr nm T))) (.slice none 0 0) (.slice pa' (rebPats T (scs108 fr nm T)).length pc')
   have hbx6 := box_set5 HBX5.o (.int .i64 T.op) (.int .i64 T.n) (.string (rebText T (scs108 fr nm T))) (.slice none 0 0) (.slice pa' (rebPats T (scs108 fr nm T)).length pc')
   have hbv := HBV.o.trans (hks.below HBV.o.size (by rintro b rfl; omega))
   have HKS := lh hks; have HBX6 := lh hbx6; have HBV6 := lh hbv
   refine hKK.o _ _ (fun _ => hbv) ?_
   clear hKK KK hks hbx6 hbv m0 m1 m2 m3 m4 mf
   refine wpAnyZ_one 10 (o := r108x10) (by kernel_rfl) rfl fun KK hKK => ?_
   go_simp
   refine hKK.o _ _ (fun h => absurd rfl h) ?_
   clear hKK KK
   refine wpAnyZ_done (by kernel_rfl) ?_ _
   have hsa := HSA.o
   have hsk := HKS.o.size
   have hl1 := HBS.o.1
   have hl2 := HBS.o.2
   have hkp : ∀ b, (w1.heap.size ≤ b ∧ b < w2.heap.size) → _ := fun b h => (HKS.o.block b (by omega) (by omega)).trans (HOA.o b h.2)
   exact FIN.o _ _ w2.heap.size bs w1.heap.size w2.heap.size pa' pc' cs (by simp [hsz]) rfl (fun k hk => by simp only [ds108, List.mem_cons, List.not_mem_nil, or_false, not_or] at hk; obtain ⟨e26, e27, e28, e29, e30, e25, e31, e32, e5, e6⟩ := hk; simp [Ne.symm e26, Ne.symm e27, Ne.symm e28, Ne.symm e29, Ne.symm e30, Ne.symm e25, Ne.symm e31, Ne.symm e32, Ne.symm e5, Ne.symm e6]) (by simp [hsz]) (by simp [hsz]) HBX6.o (by omega) (by omega) (.inr (Nat.le_refl _)) (by omega) (by omega) hl2 ((hkp _ HBS.o).trans HCS.o) HTS.o (HPV.o.mono (fun b h => h) fun b o hb hr => PtsIn.keep hkp (fun b h => h) _ _ _ hb hr) (ScsIn.keep HSCS.o fun b h => ⟨h, hkp b h⟩) HBV6.o

  ·go_simp
   have hba : Below U.heap.size U (w1.alloc (.cells #[.int .i64 0, .int .i64 0, .string ⟨#[]⟩, .slice none 0 0, .slice none 0 0] 32)) := (HB11.o).trans (((Below.refl _ w1).alloc (Nat.le_refl _) _).mono (HB11.o).size)
   have hxa := heap_alloc_new w1 (.cells #[.int .i64 0, .int .i64 0, .string ⟨#[]⟩, .slice none 0 0, .slice none 0 0] 32)
   have hsa : (w1.alloc (.cells #[.int .i64 0, .int .i64 0, .string ⟨#[]⟩, .slice none 0 0, .slice none 0 0] 32)).heap.size = w1.heap.size + 1 := by simp
   have hblw : Below w1.heap.size w1 (w1.alloc (.cells #[.int .i64 0, .int .i64 0, .string ⟨#[]⟩, .slice none 0 0, .slice none 0 0] 32)) := (Below.refl _ _).alloc (Nat.le_refl _) _
   refine hKK.o _ _ (fun _ => hba) ?_
   clear hKK KK
   generalize (w1.alloc (.cells #[.int .i64 0, .int .i64 0, .string ⟨#[]⟩, .slice none 0 0, .slice none 0 0] 32)) = w3 at *
   have HXA := lh hxa; have HBA := lh hba; have HBLW := lh hblw; have HSA := lh hsa
   clear hxa hba hblw hsa
   refine wpAnyZ_one 4 (o := r108x4) (by kernel_rfl) rfl fun KK hKK => ?_
   have hsa := HSA.o
   go_simp
   refine (HREB.o w3 Bx' q0 mb HBA.o (by omega) (by omega) hne hne2 (((bcell HBLW.o).1 _ _ (World.block_lt_of_cell? _ _ HC6.o)).trans HC6.o) (bget' HBLW.o HQ6.o) (HSET.o.here HBLW.o)).mono ?_
   rintro e w2 ⟨pv, bs, rfl, ⟨hts, hpv⟩, ⟨hbs, cs, hcs, hscs⟩, hk2⟩
   obtain ⟨pa', pc', rfl⟩ := hpv.split
   have hs2 := hk2.size
   have hszW := (HBA.o).size
   have hb22 : Below U.heap.size U w2 := (HBA.o).trans (hk2.below hszW (by rintro b rfl; omega))
   have HTS := lh hts; have HPV := lh hpv; have HBS := lh hbs; have HCS := lh hcs; have HSCS := lh hscs; have HK2 := lh hk2; have HB22 := lh hb22
   clear hts hpv hbs hcs hscs hk2
   refine hKK.o _ _ (fun _ => hb22) ?_
   clear hKK KK hb22
   refine wpAnyZ_take 5 (oi := r108x5) HB22.o rfl (by kernel_rfl) (by kernel_rfl) (by kernel_rfl) (fun c a w h => hQ c _ _ a w h) (by kernel_rfl) rfl (by rfl) (by intro w' hSw; go_simp <;> rfl) ?_
   refine wpAnyZ_take 6 (oi := r108x6) HB22.o rfl (by kernel_rfl) (by kernel_rfl) (by kernel_rfl) (fun c a w h => hQ c _ _ a w h) (by kernel_rfl) rfl (by rfl) (by intro w' hSw; go_simp <;> rfl) ?_
   refine wpAnyZ_take 7 (oi := r108x7) HB22.o rfl (by kernel_rfl) (by kernel_rfl) (by kernel_rfl) (fun c a w h => hQ c _ _ a w h) (by kernel_rfl) rfl (by rfl) (by intro w' hSw; go_simp <;> rfl) ?_
   have hbx5 := (HK2.o.get HXA.o (fun h => by have h1 := HSET.o.lt; omega))
   obtain ⟨m0, m1, m2, m3, m4⟩ := cells5 hbx5
   have mf := free_box hbx5
   have HBX5 := lh hbx5; have HBV := lh HB22.o
   clear hbx5
   refine wpAnyZ_one 9 (o := r108x9) (by kernel_rfl) rfl fun KK hKK => ?_
   go_simp
   have hks := kept5 w2 w1.heap.size (.int .i64 T.op) (.int .i64 T.n) (.string (rebText T (scs108 fr nm T))) (.slice none 0 0) (.slice pa' (rebPats T (scs108 fr nm T)).length pc')
   have hbx6 := box_set5 HBX5.o (.int .i64 T.op) (.int .i64 T.n) (.string (rebText T (scs108 fr nm T))) (.slice none 0 0) (.slice pa' (rebPats T (scs108 fr nm T)).length pc')
   have hbv := HBV.o.trans (hks.below HBV.o.size (by rintro b rfl; omega))
   have HKS := lh hks; have HBX6 := lh hbx6; have HBV6 := lh hbv
   refine hKK.o _ _ (fun _ => hbv) ?_
   clear hKK KK hks hbx6 hbv m0 m1 m2 m3 m4 mf
   refine wpAnyZ_one 10 (o := r108x10) (by kernel_rfl) rfl fun KK hKK => ?_
   go_simp
   refine hKK.o _ _ (fun h => absurd rfl h) ?_
   clear hKK KK
   refine wpAnyZ_done (by kernel_rfl) ?_ _
   have hsk := HKS.o.size
   have hl1 := HBS.o.1
   have hl2 := HBS.o.2
   have hkp : ∀ b, (w3.heap.size ≤ b ∧ b < w2.heap.size) → _ := fun b h => HKS.o.block b h.2 (by omega)
   exact FIN.o _ _ w1.heap.size bs w3.heap.size w2.heap.size pa' pc' cs (by simp [hsz]) rfl (fun k hk => by simp only [ds108, List.mem_cons, List.not_mem_nil, or_false, not_or] at hk; obtain ⟨e26, e27, e28, e29, e30, e25, e31, e32, e5, e6⟩ := hk; simp [Ne.symm e26, Ne.symm e27, Ne.symm e28, Ne.symm e29, Ne.symm e30, Ne.symm e25, Ne.symm e31, Ne.symm e32, Ne.symm e5, Ne.symm e6]) (by simp [hsz]) (by simp [hsz]) HBX6.o (by omega) (by omega) (.inl (by omega)) (by omega) (by omega) hl2 ((hkp _ HBS.o).trans HCS.o) HTS.o (HPV.o.mono (fun b h => h) fun b o hb hr => PtsIn.keep hkp (fun b h => h) _ _ _ hb hr) (ScsIn.keep HSCS.o fun b h => ⟨h, hkp b h⟩) HBV6.o


 ·go_simp
  have hba : Below U.heap.size U ((U.alloc (.cells #[.int .i64 0, .int .i64 0, .string ⟨#[]⟩, .slice none 0 0, .slice none 0 0] 32)).drew) := ((Below.refl _ U).alloc (Nat.le_refl _) _).trans (below_drew _ _)
  have hxa : ((U.alloc (.cells #[.int .i64 0, .int .i64 0, .string ⟨#[]⟩, .slice none 0 0, .slice none 0 0] 32)).drew).heap[U.heap.size]? = some (.cells #[.int .i64 0, .int .i64 0, .string ⟨#[]⟩, .slice none 0 0, .slice none 0 0] 32 (0, 0)) := heap_alloc_new U _
  have hsa : U.heap.size + 1 ≤ ((U.alloc (.cells #[.int .i64 0, .int .i64 0, .string ⟨#[]⟩, .slice none 0 0, .slice none 0 0] 32)).drew).heap.size := by show _ ≤ (U.alloc _).heap.size; simp
  refine hKK.o _ _ (fun _ => hba) ?_
  clear hKK KK
  generalize ((U.alloc (.cells #[.int .i64 0, .int .i64 0, .string ⟨#[]⟩, .slice none 0 0, .slice none 0 0] 32)).drew) = w3 at *
  have HXA := lh hxa; have HBA := lh hba
  clear hxa hba
  refine wpAnyZ_one 3 (o := r108x3) (by kernel_rfl) rfl fun KK hKK => ?_
  go_simp
  refine (HCHO.o w3 HBA.o).mono ?_
  rintro e w1 ⟨Bx', q0, mb, rfl, hB1, hB2, hB3, hne, hne2, hc6, hq6, hset, hb1⟩
  have hsW := HBA.o.size
  have hb11 : Below U.heap.size U w1 := HBA.o.trans (hb1.mono hsW)
  have HXB := lh (bget' hb1 HXA.o); have HC6 := lh hc6; have HQ6 := lh hq6; have HSET := lh hset; have HB11 := lh hb11; have hs1 := hb1.size
  clear hc6 hq6 hset hb1
  refine hKK.o _ _ (fun _ => hb11) ?_
  clear hKK KK hb11
  refine wpAnyZ_one 4 (o := r108x4) (by kernel_rfl) rfl fun KK hKK => ?_
  go_simp
  refine (HREB.o w1 Bx' q0 mb HB11.o (by omega) (by omega) hne hne2 HC6.o HQ6.o HSET.o).mono ?_
  rintro e w2 ⟨pv, bs, rfl, ⟨hts, hpv⟩, ⟨hbs, cs, hcs, hscs⟩, hk2⟩
  obtain ⟨pa', pc', rfl⟩ := hpv.split
  have hs2 := hk2.size
  have hszW := (HB11.o).size
  have hb22 : Below U.heap.size U w2 := (HB11.o).trans (hk2.below hszW (by rintro b rfl; omega))
  have HTS := lh hts; have HPV := lh hpv; have HBS := lh hbs; have HCS := lh hcs; have HSCS := lh hscs; have HK2 := lh hk2; have HB22 := lh hb22
  clear hts hpv hbs hcs hscs hk2
  refine hKK.o _ _ (fun _ => hb22) ?_
  clear hKK KK hb22
  refine wpAnyZ_take 5 (oi := r108x5) HB22.o rfl (by kernel_rfl) (by kernel_rfl) (by kernel_rfl) (fun c a w h => hQ c _ _ a w h) (by kernel_rfl) rfl (by rfl) (by intro w' hSw; go_simp <;> rfl) ?_
  refine wpAnyZ_take 6 (oi := r108x6) HB22.o rfl (by kernel_rfl) (by kernel_rfl) (by kernel_rfl) (fun c a w h => hQ c _ _ a w h) (by kernel_rfl) rfl (by rfl) (by intro w' hSw; go_simp <;> rfl) ?_
  refine wpAnyZ_take 7 (oi := r108x7) HB22.o rfl (by kernel_rfl) (by kernel_rfl) (by kernel_rfl) (fun c a w h => hQ c _ _ a w h) (by kernel_rfl) rfl (by rfl) (by intro w' hSw; go_simp <;> rfl) ?_
  have hbx5 := (HK2.o.get HXB.o (fun h => by omega))
  obtain ⟨m0, m1, m2, m3, m4⟩ := cells5 hbx5
  have mf := free_box hbx5
  have HBX5 := lh hbx5; have HBV := lh HB22.o
  clear hbx5
  refine wpAnyZ_one 9 (o := r108x9) (by kernel_rfl) rfl fun KK hKK => ?_
  go_simp
  have hks := kept5 w2 U.heap.size (.int .i64 T.op) (.int .i64 T.n) (.string (rebText T (scs108 fr nm T))) (.slice none 0 0) (.slice pa' (rebPats T (scs108 fr nm T)).length pc')
  have hbx6 := box_set5 HBX5.o (.int .i64 T.op) (.int .i64 T.n) (.string (rebText T (scs108 fr nm T))) (.slice none 0 0) (.slice pa' (rebPats T (scs108 fr nm T)).length pc')
  have hbv := HBV.o.trans (hks.below HBV.o.size (by rintro b rfl; omega))
  have HKS := lh hks; have HBX6 := lh hbx6; have HBV6 := lh hbv
  refine hKK.o _ _ (fun _ => hbv) ?_
  clear hKK KK hks hbx6 hbv m0 m1 m2 m3 m4 mf
  refine wpAnyZ_one 10 (o := r108x10) (by kernel_rfl) rfl fun KK hKK => ?_
  go_simp
  refine hKK.o _ _ (fun h => absurd rfl h) ?_
  clear hKK KK
  refine wpAnyZ_done (by kernel_rfl) ?_ _
  have hsk := HKS.o.size
  have hl1 := HBS.o.1
  have hl2 := HBS.o.2
  have hkp : ∀ b, (w1.heap.size ≤ b ∧ b < w2.heap.size) → _ := fun b h => HKS.o.block b h.2 (by omega)
  exact FIN.o _ _ U.heap.size bs w1.heap.size w2.heap.size pa' pc' cs (by simp [hsz]) rfl (fun k hk => by simp only [ds108, List.mem_cons, List.not_mem_nil, or_false, not_or] at hk; obtain ⟨e26, e27, e28, e29, e30, e25, e31, e32, e5, e6⟩ := hk; simp [Ne.symm e26, Ne.symm e27, Ne.symm e28, Ne.symm e29, Ne.symm e30, Ne.symm e25, Ne.symm e31, Ne.symm e32, Ne.symm e5, Ne.symm e6]) (by simp [hsz]) (by simp [hsz]) HBX6.o (by omega) (by omega) (.inl (by omega)) (by omega) (by omega) hl2 ((hkp _ HBS.o).trans HCS.o) HTS.o (HPV.o.mono (fun b h => h) fun b o hb hr => PtsIn.keep hkp (fun b h => h) _ _ _ hb hr) (ScsIn.keep HSCS.o fun b h => ⟨h, hkp b h⟩) HBV6.o
end Go.Proofs.YtjpahjfjpkbcnaaGreat
namespace Go.Proofs.YtjpahjfjpkbcnaaGreat
open Go.Proofs Go.RowKit
attribute [local go_sem] eval_put_same eval_put_ne size_put
def r141x0 : Oper := { dst := some 37, op := Op.fieldAddr 32 (Operand.tmp 7) 3, type := 0, pos := "bound.go:144", after := #[], guard := none }
def r141x1 : Oper := { dst := some 38, op := Op.load 29 (Operand.tmp 37), type := 29, pos := "bound.go:144", after := #[{ on := 0, ground := Ground.data }], guard := none }
def r141x2 : Oper := { dst := some 39, op := Op.load 32 (Operand.tmp 10), type := 32, pos := "bound.go:144", after := #[], guard := none }
def r141x3 : Oper := { dst := some 40, op := Op.move (Operand.tmp 8), type := 167, pos := "bound.go:144", after := #[], guard := none }
def r141x4 : Oper := { dst := some 41, op := Op.move (Operand.tmp 9), type := 3, pos := "bound.go:144", after := #[], guard := none }
def r141x5 : Oper := { dst := some 42, op := Op.indexAddr 167 (Operand.tmp 40) (Operand.tmp 41), type := 0, pos := "bound.go:144", after := #[{ on := 3, ground := Ground.data }, { on := 4, ground := Ground.data }], guard := none }
def r141x6 : Oper := { dst := some 43, op := Op.load 173 (Operand.tmp 42), type := 173, pos := "bound.go:144", after := #[{ on := 5, ground := Ground.data }], guard := none }
def r141x7 : Oper := { dst := some 44, op := Op.move (Operand.tmp 2), type := 170, pos := "bound.go:144", after := #[], guard := none }
def r141x8 : Oper := { dst := some 45, op := Op.call { callee := Callee.value (Operand.func 141), args := #[Operand.tmp 39, Operand.tmp 43, Operand.tmp 44], argTypes := #[32, 173, 170] }, type := 32, pos := "bound.go:144", after := #[{ on := 2, ground := Ground.data }, { on := 6, ground := Ground.data }, { on := 7, ground := Ground.data }], guard := none }
def r141x9 : Oper := { dst := some 46, op := Op.buildSlice 29 1 #[(0, Operand.tmp 45)], type := 29, pos := "bound.go:144", after := #[{ on := 8, ground := Ground.data }], guard := none }
def r141x10 : Oper := { dst := some 47, op := Op.call { callee := Callee.builtin Builtin.append, args := #[Operand.tmp 38, Operand.tmp 46], argTypes := #[29, 29] }, type := 29, pos := "bound.go:144", after := #[{ on := 1, ground := Ground.data }, { on := 9, ground := Ground.data }, { on := 8, ground := Ground.chain }], guard := none }
def r141x11 : Oper := { dst := some 48, op := Op.fieldAddr 32 (Operand.tmp 7) 3, type := 0, pos := "bound.go:144", after := #[{ on := 0, ground := Ground.phase }, { on := 1, ground := Ground.phase }, { on := 2, ground := Ground.phase }, { on := 3, ground := Ground.phase }, { on := 4, ground := Ground.phase }, { on := 5, ground := Ground.phase }, { on := 6, ground := Ground.phase }, { on := 7, ground := Ground.phase }, { on := 8, ground := Ground.phase }, { on := 9, ground := Ground.phase }, { on := 10, ground := Ground.phase }], guard := none }
def r141x12 : Oper := { dst := none, op := Op.store 29 (Operand.tmp 48) (Operand.tmp 47), type := 0, pos := "bound.go:144", after := #[{ on := 11, ground := Ground.data }, { on := 10, ground := Ground.data }, { on := 10, ground := Ground.chain }, { on := 0, ground := Ground.phase }, { on := 1, ground := Ground.phase }, { on := 2, ground := Ground.phase }, { on := 3, ground := Ground.phase }, { on := 4, ground := Ground.phase }, { on := 5, ground := Ground.phase }, { on := 6, ground := Ground.phase }, { on := 7, ground := Ground.phase }, { on := 8, ground := Ground.phase }, { on := 9, ground := Ground.phase }, { on := 10, ground := Ground.phase }], guard := none }
def ops141 : Array Oper := #[r141x0, r141x1, r141x2, r141x3, r141x4, r141x5, r141x6, r141x7, r141x8, r141x9, r141x10, r141x11, r141x12]
attribute [local go_sem] r141x0 r141x1 r141x2 r141x3 r141x4 r141x5 r141x6 r141x7 r141x8 r141x9 r141x10 r141x11 r141x12
set_option maxHeartbeats 2000000 in
theorem reg141 {Q : Exit → Act → World → Prop} {a : Act} {U : World} {pb qb sb n k m base : Nat} {x0 x1 x2 x4 vo fv : Value} {cs : Array Value} {vqp : Option Addr} {oo nn : Int} {tt : ByteArray} {ka : Option Addr} {kn kc : Nat} {pa : Option Addr} {pn pc : Nat} {xs : List Value} {T : Tm} {M : Nat → Prop} {R : World → Prop}
  (hsz : a.tmps.size = 51) (h7 : a.tmps[7]'(by omega) = .pointer (some ⟨pb, 0, none⟩)) (h10 : a.tmps[10]'(by omega) = .pointer (some ⟨qb, 0, none⟩)) (h8 : a.tmps[8]'(by omega) = .slice (some ⟨sb, 0, none⟩) n n) (h9 : a.tmps[9]'(by omega) = .int .i64 k) (h2 : a.tmps[2]'(by omega) = fv)
  (hQ : ∀ c (d : Nat) v (a : Act) w, Q (.panic c) (a.put (some d) v) w → Q (.panic c) a w)
  (hbx : U.heap[pb]? = some (.cells #[x0, x1, x2, vo, x4] 32 (0, 0))) (hq : U.heap[qb]? = some (.cells #[.int .i64 oo, .int .i64 nn, .string tt, .slice ka kn kc, .slice pa pn pc] 32 (0, 0))) (hs : U.heap[sb]? = some (.cells cs 173 (0, 0))) (hc : cs[k]? = some (.pointer vqp)) (hk : k < n)
  (hrow : U.ownsRow base 32 5 vo m xs) (hbase : base ≤ U.heap.size) (hpb : pb < base) (hsb : sb < base) (hqb : vo.ownBlock ≠ some qb) (hm : m ≤ 1000000) (hM : ∀ b, M b → b < base ∧ b ≠ pb ∧ b ≠ sb ∧ b ≠ qb)
  (hren : Calls Tryz.prog 141 #[.agg #[.int .i64 oo, .int .i64 nn, .string tt, .slice ka kn kc, .slice pa pn pc], .pointer vqp, fv] U.drew fun e W' => (∃ v2, e = .returned v2 ∧ TmIn (Fresh U.drew W') W' T v2) ∧ R W' ∧ Kept M U.drew W')
  (hK : ∀ (u37 u38 u39 u40 u41 u42 u43 u44 u45 u46 u47 u48 c0 c1 c2 c3 c4 v' : Value) (w1 w3 : World), TmIn (Fresh U w1) w1 T (.agg #[c0, c1, c2, c3, c4]) → R w1 → Kept M U w1 → w3.ownsRow base 32 5 v' (m + 1) (xs ++ [c0, c1, c2, c3, c4]) → (w1.alloc (.cells #[c0, c1, c2, c3, c4] 32)).grownBy w3 vo.ownBlock → (v'.ownBlock = vo.ownBlock ∨ v'.ownBlock = some (w1.alloc (.cells #[c0, c1, c2, c3, c4] 32)).heap.size) →
   Q .normal { tmps := ((((((((((((a.tmps.setIfInBounds 37 u37).setIfInBounds 38 u38).setIfInBounds 39 u39).setIfInBounds 40 u40).setIfInBounds 41 u41).setIfInBounds 42 u42).setIfInBounds 43 u43).setIfInBounds 44 u44).setIfInBounds 45 u45).setIfInBounds 46 u46).setIfInBounds 47 u47).setIfInBounds 48 u48), defers := a.defers } (w3.setCell ⟨pb, 3, none⟩ v')) :
  (Code.region 7 ops141 true).wp Tryz.prog Q a U := by
 obtain ⟨i0, hi, hz0, hz1, hz2⟩ := info_parts Tz.info32
 have hk0 : (0 : Int) ≤ (k : Int) := by omega
 have hk1 : (k : Int) < (n : Int) := by omega
 have hS0 : (U.drew.cell? ⟨qb, 0, none⟩ = some (.int .i64 oo) ∧ U.drew.cell? ⟨qb, 1, none⟩ = some (.int .i64 nn) ∧ U.drew.cell? ⟨qb, 2, none⟩ = some (.string tt) ∧ U.drew.cell? ⟨qb, 3, none⟩ = some (.slice ka kn kc) ∧ U.drew.cell? ⟨qb, 4, none⟩ = some (.slice pa pn pc)) ∧ U.drew.cell? ⟨sb, k, none⟩ = some (.pointer vqp) ∧ U.drew.cell? ⟨pb, 3, none⟩ = some vo := ⟨cells5 (W := U.drew) hq, (cell_box (W := U.drew) hs).trans hc, cell_box (W := U.drew) hbx⟩
 have HBX := lh hbx; have HQ := lh hq; have HS := lh hs; have HC := lh hc; have HROW := lh hrow; have HREN := lh hren; have HK := lh hK; have HM := lh hM
 clear hbx hq hs hc hrow hren hK hM
 have lq := lt_of_block HQ.out; have lp := lt_of_block HBX.out; have ls := lt_of_block HS.o
 refine wp_region_z (fun w' => (w'.cell? ⟨qb, 0, none⟩ = some (.int .i64 oo) ∧ w'.cell? ⟨qb, 1, none⟩ = some (.int .i64 nn) ∧ w'.cell? ⟨qb, 2, none⟩ = some (.string tt) ∧ w'.cell? ⟨qb, 3, none⟩ = some (.slice ka kn kc) ∧ w'.cell? ⟨qb, 4, none⟩ = some (.slice pa pn pc)) ∧ w'.cell? ⟨sb, k, none⟩ = some (.pointer vqp) ∧ w'.cell? ⟨pb, 3, none⟩ = some vo) 12 (by kernel_rfl) ?_
 refine wpAnyZ_take 0 (oi := r141x0) hS0 rfl (by kernel_rfl) (by kernel_rfl) (by kernel_rfl) (fun c a w h => hQ c _ _ a w h) (by kernel_rfl) rfl (by rfl) (by intro w' hSw; go_simp <;> rfl) ?_
 refine wpAnyZ_take 1 (oi := r141x1) hS0 rfl (by kernel_rfl) (by kernel_rfl) (by kernel_rfl) (fun c a w h => hQ c _ _ a w h) (by kernel_rfl) rfl (by rfl) (by intro w' hSw; go_simp <;> rfl) ?_
 refine wpAnyZ_take 2 (oi := r141x2) hS0 rfl (by kernel_rfl) (by kernel_rfl) (by kernel_rfl) (fun c a w h => hQ c _ _ a w h) (by kernel_rfl) rfl (by rfl) (by intro w' hSw; go_simp <;> rfl) ?_
 refine wpAnyZ_take 3 (oi := r141x3) hS0 rfl (by kernel_rfl) (by kernel_rfl) (by kernel_rfl) (fun c a w h => hQ c _ _ a w h) (by kernel_rfl) rfl (by rfl) (by intro w' hSw; go_simp <;> rfl) ?_
 refine wpAnyZ_take 4 (oi := r141x4) hS0 rfl (by kernel_rfl) (by kernel_rfl) (by kernel_rfl) (fun c a w h => hQ c _ _ a w h) (by kernel_rfl) rfl (by rfl) (by intro w' hSw; go_simp <;> rfl) ?_
 refine wpAnyZ_take 5 (oi := r141x5) hS0 rfl (by kernel_rfl) (by kernel_rfl) (by kernel_rfl) (fun c a w h => hQ c _ _ a w h) (by kernel_rfl) rfl (by rfl) (by intro w' hSw; go_simp <;> rfl) ?_
 refine wpAnyZ_take 6 (oi := r141x6) hS0 rfl (by kernel_rfl) (by kernel_rfl) (by kernel_rfl) (fun c a w h => hQ c _ _ a w h) (by kernel_rfl) rfl (by rfl) (by intro w' hSw; go_simp <;> rfl) ?_
 refine wpAnyZ_take 7 (oi := r141x7) hS0 rfl (by kernel_rfl) (by kernel_rfl) (by kernel_rfl) (fun c a w h => hQ c _ _ a w h) (by kernel_rfl) rfl (by rfl) (by intro w' hSw; go_simp <;> rfl) ?_
 refine wpAnyZ_one 8 (o := r141x8) (by kernel_rfl) rfl fun KK hKK => ?_
 go_simp
 refine HREN.o.mono ?_
 rintro e w1 ⟨⟨v2, rfl, hnew⟩, hR, hb1⟩
 obtain ⟨o2, n2, t2, ka2, kn2, kc2, pa2, pn2, pc2, rfl⟩ := TmIn.shape hnew
 have hkU : Kept M U w1 := ⟨hb1.os, hb1.tape, hb1.output, hb1.size, hb1.block⟩
 have hs1 := hkU.size
 have hMo : ∀ g, vo.ownBlock = some g → ¬ M g := fun g hg hm => by have h1 := (HROW.o.lt g hg).1; have h2 := (HM.o g hm).1; omega
 have HQ1 := lh (hkU.get HQ.o fun h => (HM.o _ h).2.2.2 rfl); have HS1 := lh (hkU.get HS.o fun h => (HM.o _ h).2.2.1 rfl); have HBX1 := lh (hkU.get HBX.o fun h => (HM.o _ h).2.1 rfl)
 have HR1 := lh (ownsRow_of_block (w' := w1) HROW.o fun g hg => hkU.block g (HROW.o.lt g hg).2 (hMo g hg))
 have HR2 := lh (HR1.o.alloc (.cells #[.int .i64 o2, .int .i64 n2, .string t2, .slice ka2 kn2 kc2, .slice pa2 pn2 pc2] 32))
 have HNW := lh (cells_new w1 [.int .i64 o2, .int .i64 n2, .string t2, .slice ka2 kn2 kc2, .slice pa2 pn2 pc2] 32)
 have HONE := lh (show ∀ u ∈ [Value.int .i64 o2, .int .i64 n2, .string t2, .slice ka2 kn2 kc2, .slice pa2 pn2 pc2], u.oneCell' = true by intro u hu; simp at hu; rcases hu with rfl | rfl | rfl | rfl | rfl <;> rfl)
 have HNEW := lh hnew; have HKU := lh hkU; have HR := lh hR
 have hS1 : (w1.cell? ⟨qb, 0, none⟩ = some (.int .i64 oo) ∧ w1.cell? ⟨qb, 1, none⟩ = some (.int .i64 nn) ∧ w1.cell? ⟨qb, 2, none⟩ = some (.string tt) ∧ w1.cell? ⟨qb, 3, none⟩ = some (.slice ka kn kc) ∧ w1.cell? ⟨qb, 4, none⟩ = some (.slice pa pn pc)) ∧ w1.cell? ⟨sb, k, none⟩ = some (.pointer vqp) ∧ w1.cell? ⟨pb, 3, none⟩ = some vo := ⟨cells5 HQ1.o, (cell_box HS1.o).trans HC.o, cell_box HBX1.o⟩
 clear hnew hb1 hkU hS0 HREN hR hMo
 refine hKK.o _ _ (fun _ => hS1) ?_
 clear hKK KK
 refine wpAnyZ_one 9 (o := r141x9) (by kernel_rfl) rfl fun KK hKK => ?_
 go_simp
 refine hKK.o _ _ (fun _ => ⟨cells5 ((Below.heap_alloc _ _ _ (by omega)).trans HQ1.o), (cell_box ((Below.heap_alloc _ _ _ (by omega)).trans HS1.o)).trans HC.o, cell_box ((Below.heap_alloc _ _ _ (by omega)).trans HBX1.o)⟩) ?_
 clear hKK KK hS1
 refine wpAnyZ_one 10 (o := r141x10) (by kernel_rfl) rfl fun KK hKK => ?_
 refine step_append_lies _ (by rfl) _ _ _ (by rfl) base 32 i0 _ 5 80 Tryz.underlying29 hi hz0 hz1 hz2 rfl (by decide) vo m xs (by go_simp) HR2.o ⟨w1.heap.size, 0, none⟩ 1 1 [.int .i64 o2, .int .i64 n2, .string t2, .slice ka2 kn2 kc2, .slice pa2 pn2 pc2] (by go_simp) (by rfl) HNW.o HONE.o (by decide) (by unfold maxLen; omega) (by omega) (by simp <;> omega) _ rfl ?_
 intro gg cap2 w3 hown3 hgr3 hat3 hlt3
 have HQ3 := lh ((hgr3.block _ (by simp <;> omega) (fun e => hqb e.symm)).trans ((Below.heap_alloc _ _ _ (by omega)).trans HQ1.o))
 have HS3 := lh (one_grown hgr3 HS1.o (by omega) HR1.o (by omega))
 have HBX3 := lh (one_grown hgr3 HBX1.o (by omega) HR1.o (by omega))
 have hpc3 : w3.cell? ⟨pb, 3, none⟩ = some vo := cell_box HBX3.o
 have hpf3 := free_box HBX3.o 3
 have HOWN3 := lh hown3; have HGR3 := lh hgr3
 have HAT3 := lh (show (Value.slice (some ⟨gg, 0, none⟩) (m + 1) cap2).ownBlock = vo.ownBlock ∨ (Value.slice (some ⟨gg, 0, none⟩) (m + 1) cap2).ownBlock = some (w1.alloc (.cells #[.int .i64 o2, .int .i64 n2, .string t2, .slice ka2 kn2 kc2, .slice pa2 pn2 pc2] 32)).heap.size from hat3.imp (fun h => h.symm) (fun h => by rw [h]; rfl))
 have hS3 : (w3.cell? ⟨qb, 0, none⟩ = some (.int .i64 oo) ∧ w3.cell? ⟨qb, 1, none⟩ = some (.int .i64 nn) ∧ w3.cell? ⟨qb, 2, none⟩ = some (.string tt) ∧ w3.cell? ⟨qb, 3, none⟩ = some (.slice ka kn kc) ∧ w3.cell? ⟨qb, 4, none⟩ = some (.slice pa pn pc)) ∧ w3.cell? ⟨sb, k, none⟩ = some (.pointer vqp) ∧ w3.cell? ⟨pb, 3, none⟩ = some vo := ⟨cells5 HQ3.o, (cell_box HS3.o).trans HC.o, hpc3⟩
 clear hown3 hgr3 hat3
 refine hKK.o _ _ (fun _ => hS3) ?_
 clear hKK KK
 refine wpAnyZ_take 11 (oi := r141x11) hS3 rfl (by kernel_rfl) (by kernel_rfl) (by kernel_rfl) (fun c a w h => hQ c _ _ a w h) (by kernel_rfl) rfl (by rfl) (by intro w' hSw; go_simp <;> rfl) ?_
 clear hS3
 refine wpAnyZ_one 12 (o := r141x12) (by kernel_rfl) rfl fun KK hKK => ?_
 go_simp
 refine hKK.o _ _ (fun h => absurd rfl h) ?_
 refine wpAnyZ_done (by kernel_rfl) ?_ _
 exact HK.o _ _ _ _ _ _ _ _ _ _ _ _ _ _ _ _ _ _ _ _ HNEW.o HR.o HKU.o HOWN3.o HGR3.o HAT3.o
end Go.Proofs.YtjpahjfjpkbcnaaGreat
namespace Go.Proofs.YtjpahjfjpkbcnaaGreat
open Go.Proofs Go.RowKit
mutual
def renM (ch : Ch) (σ : NS) (sc : Sc) : Tm → Tm × NS
 | .mk op n text kids pats =>
  (.mk op n (if op = 4 then (findS sc text).getD text else rebText (.mk op n text kids pats) (scp ch (boundL (.mk op n text kids pats)) sc σ kids.length).1)
   (renK ch (scp ch (boundL (.mk op n text kids pats)) sc σ kids.length).2 (scp ch (boundL (.mk op n text kids pats)) sc σ kids.length).1 kids).1
   (rebPats (.mk op n text kids pats) (scp ch (boundL (.mk op n text kids pats)) sc σ kids.length).1),
   (renK ch (scp ch (boundL (.mk op n text kids pats)) sc σ kids.length).2 (scp ch (boundL (.mk op n text kids pats)) sc σ kids.length).1 kids).2)
def renK (ch : Ch) (σ : NS) (scs : List Sc) : List Tm → List Tm × NS
 | [] => ([], σ)
 | k :: ks => ((renM ch σ (scs.headD []) k).1 :: (renK ch (renM ch σ (scs.headD []) k).2 scs.tail ks).1, (renK ch (renM ch σ (scs.headD []) k).2 scs.tail ks).2)
end
theorem renM_eq (ch : Ch) (σ : NS) (sc : Sc) (T : Tm) : renM ch σ sc T =
  (.mk T.op T.n (if T.op = 4 then (findS sc T.text).getD T.text else rebText T (scp ch (boundL T) sc σ T.kids.length).1)
   (renK ch (scp ch (boundL T) sc σ T.kids.length).2 (scp ch (boundL T) sc σ T.kids.length).1 T.kids).1 (rebPats T (scp ch (boundL T) sc σ T.kids.length).1),
   (renK ch (scp ch (boundL T) sc σ T.kids.length).2 (scp ch (boundL T) sc σ T.kids.length).1 T.kids).2) := by
 cases T with
 | mk op n text kids pats => unfold renM; rfl
theorem renK_snoc (ch : Ch) : ∀ (ks : List Tm) (σ : NS) (scs : List Sc) (k : Tm), renK ch σ scs (ks ++ [k]) = ((renK ch σ scs ks).1 ++ [(renM ch (renK ch σ scs ks).2 (scs.getD ks.length []) k).1], (renM ch (renK ch σ scs ks).2 (scs.getD ks.length []) k).2)
 | [], σ, scs, k => by cases scs <;> simp [renK]
 | x :: ks, σ, scs, k => by
  have := renK_snoc ch ks (renM ch σ (scs.headD []) x).2 scs.tail k
  simp only [List.cons_append, renK, this]
  cases scs <;> simp
theorem renK_len (ch : Ch) : ∀ (ks : List Tm) (σ : NS) (scs : List Sc), (renK ch σ scs ks).1.length = ks.length
 | [], _, _ => rfl
 | x :: ks, σ, scs => by simp [renK, renK_len ch ks]
mutual
def cntM : Tm → Nat
 | .mk op n text kids pats => bndK (boundL (.mk op n text kids pats)) kids.length + cntK kids
def cntK : List Tm → Nat
 | [] => 0
 | k :: ks => cntM k + cntK ks
end
theorem cntM_eq (T : Tm) : cntM T = bndK (boundL T) T.kids.length + cntK T.kids := by
 cases T with
 | mk op n text kids pats => unfold cntM; rfl
theorem cntK_split : ∀ (ks : List Tm) (k : Nat) (h : k < ks.length), cntK (ks.take k) + cntM ks[k] ≤ cntK ks
 | x :: ks, 0, _ => by simp [cntK]
 | x :: ks, k + 1, h => by
  have := cntK_split ks k (by simpa using h)
  simp only [List.take_succ_cons, cntK, List.getElem_cons_succ]
  omega
mutual
theorem Chs.countM {g : FuncId} {caps : Array Value} {base : Nat} {J : NS → World → Prop} {M : Nat → Prop} {ch : Ch} (h : Chs g caps base J M ch) : ∀ (T : Tm) (σ : NS) (sc : Sc), (renM ch σ sc T).2.1 ≤ σ.1 + cntM T
 | .mk op n text kids pats, σ, sc => by
  have h1 := h.countS (boundL (.mk op n text kids pats)) sc σ kids.length
  have h2 := h.countK kids (scp ch (boundL (.mk op n text kids pats)) sc σ kids.length).2 (scp ch (boundL (.mk op n text kids pats)) sc σ kids.length).1
  unfold renM cntM
  simp only
  omega
theorem Chs.countK {g : FuncId} {caps : Array Value} {base : Nat} {J : NS → World → Prop} {M : Nat → Prop} {ch : Ch} (h : Chs g caps base J M ch) : ∀ (ks : List Tm) (σ : NS) (scs : List Sc), (renK ch σ scs ks).2.1 ≤ σ.1 + cntK ks
 | [], _, _ => by unfold renK cntK; exact Nat.le_refl _
 | k :: ks, σ, scs => by
  have h1 := h.countM k σ (scs.headD [])
  have h2 := h.countK ks (renM ch σ (scs.headD []) k).2 scs.tail
  unfold renK cntK
  simp only
  omega
end
mutual
def okS : Tm → Prop
 | .mk op n text kids pats => shapeT (.mk op n text kids pats) ∧ okSs kids
def okSs : List Tm → Prop
 | [] => True
 | k :: ks => okS k ∧ okSs ks
end
theorem okSs_get : ∀ {ks : List Tm}, okSs ks → ∀ (k : Nat) (h : k < ks.length), okS ks[k]
 | p :: ps, h, 0, _ => by unfold okSs at h; exact h.1
 | p :: ps, h, k + 1, hk => by unfold okSs at h; exact okSs_get h.2 k (by simpa using hk)
structure Ren (T : Tm) : Prop where
 ok : okN T
 len : lensM T
 sh : okS T
theorem okS_top {T : Tm} (h : okS T) : shapeT T := by
 cases T with
 | mk op n text kids pats => unfold okS at h; exact h.1
theorem Ren.kid {T : Tm} (h : Ren T) (k : Nat) (hk : k < T.kids.length) : Ren T.kids[k] := by
 obtain ⟨h1, h2, h3⟩ := h
 refine ⟨okNs_get ((okN_eq T).1 h1).2.2.2.2.2 k hk, ?_, ?_⟩
 ·cases T with
  | mk op n text kids pats => unfold lensM at h2; exact lensM_get h2.2.2.2 k hk
 ·cases T with
  | mk op n text kids pats => unfold okS at h3; exact okSs_get h3.2 k hk
theorem own_stepM {S : Nat → Prop} {w wr w1 w' : World} {vo v' : Value} {X : Obj} (hB : Kept S w wr) (hb1 : Kept S wr w1) (hS : ∀ b, S b → b < w.heap.size) (hown : ∀ k, vo.ownBlock = some k → w.heap.size ≤ k ∧ k < wr.heap.size)
  (hgr : (w1.alloc X).grownBy w' vo.ownBlock) (hat : v'.ownBlock = vo.ownBlock ∨ v'.ownBlock = some (w1.alloc X).heap.size) :
  (∀ b, Own w wr vo b → w'.heap[b]? = wr.heap[b]?) ∧ (∀ b, Own w wr vo b → Own w w' v' b) ∧ (∀ b, wr.heap.size ≤ b → b < w1.heap.size → w'.heap[b]? = w1.heap[b]? ∧ Own w w' v' b) ∧ Kept S w w' := by
 have hs := hB.size
 have hs1 := hb1.size
 have hs2 := hgr.size
 simp at hs2
 have keep : ∀ b, b < w1.heap.size → vo.ownBlock ≠ some b → w'.heap[b]? = w1.heap[b]? := fun b hb hne =>
  (hgr.block b (by simp; omega) (fun e => hne e.symm)).trans (Below.heap_alloc _ _ _ hb)
 have own' : ∀ b, w.heap.size ≤ b → b < w1.heap.size → vo.ownBlock ≠ some b → Own w w' v' b := fun b h1 h2 h3 => by
  refine ⟨h1, by omega, fun e => ?_⟩
  rcases hat with h | h
  ·exact h3 (h ▸ e)
  ·rw [h] at e; simp at e; omega
 refine ⟨fun b h => (keep b (by have := h.2.1; omega) h.2.2).trans (hb1.block b h.2.1 fun hs => by have := hS b hs; have := h.1; omega), fun b h => own' b h.1 (by have := h.2.1; omega) h.2.2, fun b h1 h2 => ?_, ?_⟩
 ·have hne : vo.ownBlock ≠ some b := fun e => by have := (hown b e).2; omega
  exact ⟨keep b h2 hne, own' b (by omega) h2 hne⟩
 ·refine ⟨hgr.os.trans (hb1.os.trans hB.os), hgr.tape.trans (hb1.tape.trans hB.tape), hgr.output.trans (hb1.output.trans hB.output), by omega, fun b hb hn => ?_⟩
  have hne : vo.ownBlock ≠ some b := fun e => by have := (hown b e).1; omega
  exact (keep b (by omega) hne).trans ((hb1.block b (by omega) hn).trans (hB.block b hb hn))
set_option maxHeartbeats 4000000 in
set_option maxRecDepth 100000 in
theorem renamed_any {g : FuncId} {caps : Array Value} {base : Nat} {J : NS → World → Prop} {M : Nat → Prop} {ch : Ch} (H : Chs g caps base J M ch) (T : Tm) : ∀ (sc : Sc) (σ : NS) (n₀ : Nat) (B : Nat → Prop) (v vs : Value) (w : World),
  TmAt n₀ w T v → Ren T → (∀ b, M b → n₀ ≤ b ∧ b < base) → base ≤ w.heap.size → n₀ ≤ w.heap.size → (∀ b, B b → b < w.heap.size ∧ ¬ M b) → ScIn B w sc vs → σ.1 + cntM T ≤ 100000000 → J σ w →
  Calls Tryz.prog 141 #[v, vs, .func (.func g) #[] caps] w fun e w' => (∃ nv, e = .returned nv ∧ TmIn (Fresh w w') w' (renM ch σ sc T).1 nv) ∧ J (renM ch σ sc T).2 w' ∧ Kept M w w' := by
 induction hT : SizeOf.sizeOf T using Nat.strongRecOn generalizing T with
 | _ m ih =>
 subst hT
 intro sc σ n₀ B v vs w hT hren hM hw hn hB hs hσ hJ
 have HIH := lh ih; clear ih
 obtain ⟨a, cap, a', cap', rfl, htx, hk, hps⟩ := hT.parts
 obtain ⟨vp, rfl⟩ := hs.ptr
 rw [cntM_eq] at hσ
 have hb2 : Below w.heap.size w ((w.alloc (.cells #[.int .i64 T.op, .int .i64 T.n, .string T.text, .slice a T.kids.length cap, .slice a' T.pats.length cap'] 32)).alloc (.cells #[.int .i64 0, .int .i64 0, .string ⟨#[]⟩, .slice none 0 0, .slice none 0 0] 32)) := ((Below.refl _ w).alloc (Nat.le_refl _) _).alloc (by simp) _
 have hs2 : ((w.alloc (.cells #[.int .i64 T.op, .int .i64 T.n, .string T.text, .slice a T.kids.length cap, .slice a' T.pats.length cap'] 32)).alloc (.cells #[.int .i64 0, .int .i64 0, .string ⟨#[]⟩, .slice none 0 0, .slice none 0 0] 32)).heap.size = w.heap.size + 2 := by simp
 have hx0 : ((w.alloc (.cells #[.int .i64 T.op, .int .i64 T.n, .string T.text, .slice a T.kids.length cap, .slice a' T.pats.length cap'] 32)).alloc (.cells #[.int .i64 0, .int .i64 0, .string ⟨#[]⟩, .slice none 0 0, .slice none 0 0] 32)).heap[w.heap.size]? = some (.cells #[.int .i64 T.op, .int .i64 T.n, .string T.text, .slice a T.kids.length cap, .slice a' T.pats.length cap'] 32 (0, 0)) := by
  rw [Below.heap_alloc _ _ _ (by simp)]; exact heap_alloc_new _ _
 have hx1 : ((w.alloc (.cells #[.int .i64 T.op, .int .i64 T.n, .string T.text, .slice a T.kids.length cap, .slice a' T.pats.length cap'] 32)).alloc (.cells #[.int .i64 0, .int .i64 0, .string ⟨#[]⟩, .slice none 0 0, .slice none 0 0] 32)).heap[w.heap.size + 1]? = some (.cells #[.int .i64 0, .int .i64 0, .string ⟨#[]⟩, .slice none 0 0, .slice none 0 0] 32 (0, 0)) := by
  have := heap_alloc_new (w.alloc (.cells #[.int .i64 T.op, .int .i64 T.n, .string T.text, .slice a T.kids.length cap, .slice a' T.pats.length cap'] 32)) (.cells #[.int .i64 0, .int .i64 0, .string ⟨#[]⟩, .slice none 0 0, .slice none 0 0] 32); simpa using this
 have HT := lh hT; have HRN := lh hren; have HM := lh hM; have HB := lh hB; have HS := lh hs; have HJ := lh hJ; have HK := lh hk; have HTX := lh htx
 clear hT hren hM hB hs hJ hk hps htx
 go_enter Tryz.func141, Tryz.ntmps141
 go_upto_region 1 with fail
 generalize ((w.alloc (.cells #[.int .i64 T.op, .int .i64 T.n, .string T.text, .slice a T.kids.length cap, .slice a' T.pats.length cap'] 32)).alloc (.cells #[.int .i64 0, .int .i64 0, .string ⟨#[]⟩, .slice none 0 0, .slice none 0 0] 32)) = V at *
 obtain ⟨c0, c1, c2, c3, c4⟩ := cells5 hx0
 have hreb := rebind_any H T sc σ n₀ B (.agg #[.int .i64 T.op, .int .i64 T.n, .string T.text, .slice a T.kids.length cap, .slice a' T.pats.length cap']) (.pointer vp) V
  (TmAt.keep (hb2.mono hn) (Nat.le_refl _) _ _ HT.o) HRN.o.ok HRN.o.len (okS_top HRN.o.sh) HM.o (by omega) (by omega) (fun b h => ⟨by have := (HB.o b h).1; omega, (HB.o b h).2⟩)
  (ScIn.keep (fun b h => ⟨h, hb2.block b (HB.o b h).1⟩) _ _ HS.o) (by omega) (H.keep _ (fun _ => False) _ _ HJ.o (.of_below hb2) (fun _ h => h.elim))
 have HREB := lh hreb; have HB2 := lh hb2; have HS2 := lh hs2; have HX0 := lh hx0; have HX1 := lh hx1
 clear hreb hb2 hs2 hx0 hx1
 go_wp2_with fail
 refine HREB.o.mono ?_
 rintro e w1 ⟨pv, bs, rfl, ⟨hts, hpv⟩, ⟨hbs, cs, hcs, hscs⟩, hj1, hk1⟩
 obtain ⟨pa2, pc2, rfl⟩ := hpv.split
 have HBS := lh hbs; have HCS := lh hcs; have HSCS := lh hscs; have HJ1 := lh hj1; have HK1 := lh hk1; have HPV := lh hpv; have HTS := lh hts
 clear hbs hcs hscs hj1 hk1 hpv hts HREB c0 c1 c2 c3 c4
 have hMs : ∀ b, M b → b < w.heap.size := fun b h => by have := (HM.o b h).2; omega
 go_upto_region 2 with fail
 have hb3 : Below w1.heap.size w1 (w1.alloc (.cells #[.int .i64 T.op, .int .i64 T.n, .string (rebText T (scp ch (boundL T) sc σ T.kids.length).1), .slice none 0 0, .slice pa2 (rebPats T (scp ch (boundL T) sc σ T.kids.length).1).length pc2] 32)) := (Below.refl _ w1).alloc (Nat.le_refl _) _
 have hs3 : (w1.alloc (.cells #[.int .i64 T.op, .int .i64 T.n, .string (rebText T (scp ch (boundL T) sc σ T.kids.length).1), .slice none 0 0, .slice pa2 (rebPats T (scp ch (boundL T) sc σ T.kids.length).1).length pc2] 32)).heap.size = w1.heap.size + 1 := by simp
 have hx2 := heap_alloc_new w1 (.cells #[.int .i64 T.op, .int .i64 T.n, .string (rebText T (scp ch (boundL T) sc σ T.kids.length).1), .slice none 0 0, .slice pa2 (rebPats T (scp ch (boundL T) sc σ T.kids.length).1).length pc2] 32)
 generalize (w1.alloc (.cells #[.int .i64 T.op, .int .i64 T.n, .string (rebText T (scp ch (boundL T) sc σ T.kids.length).1), .slice none 0 0, .slice pa2 (rebPats T (scp ch (boundL T) sc σ T.kids.length).1).length pc2] 32)) = V2 at *
 have hsV := HS2.o
 have hk1s := HK1.o.size
 have hbx0 := bget' hb3 (HK1.o.get HX0.o (fun h => by have := hMs _ h; omega))
 have hbx1 := bget' hb3 (HK1.o.get HX1.o (fun h => by have := hMs _ h; omega))
 have hkV : Kept M w V2 := ((Kept.of_below HB2.o).trans HK1.o).trans (.of_below hb3)
 obtain ⟨c0, c1, c2, c3, c4⟩ := cells5 hbx0
 have f2 := free_box hx2
 obtain ⟨e0, e1, e2, e3, e4⟩ := cells5 hx2
 have hfd := find_any B sc T.text (.pointer vp) V2 (ScIn.keep (fun b h => ⟨h, hkV.block b (HB.o b h).1 (HB.o b h).2⟩) _ _ HS.o)
 have hgs : ((findS sc T.text).getD T.text).size ≤ maxLen := by
  cases hf : findS sc T.text with
  | none => exact HTX.o
  | some s => exact findS_size sc _ _ _ HS.o hf
 have hst : ∀ b, (B b ∨ Fresh V w1 b) → b < w1.heap.size ∧ ¬ M b := fun b h => by
  rcases h with h | h
  ·exact ⟨by have := (HB.o b h).1; omega, (HB.o b h).2⟩
  ·have h1 := h.1; exact ⟨h.2, fun hm => by have := hMs b hm; omega⟩
 have HST := lh hst
 have HB3 := lh hb3; have HS3 := lh hs3; have HX2 := lh hx2; have HBX0 := lh hbx0; have HBX1 := lh hbx1; have HMS := lh hMs; have HFD := lh hfd; have HGS := lh hgs; have HKV := lh hkV
 clear hb3 hs3 hx2 hbx0 hbx1 HX0 HX1 hMs hfd hgs hkV hst
 generalize hrt : rebText T (scp ch (boundL T) sc σ T.kids.length).1 = rt at *
 have HRT := lh hrt
 clear hrt
 go_upto_if 20 with fail
 generalize (Value.agg #[.int .i64 T.op, .int .i64 T.n, .string T.text, .slice a T.kids.length cap, .slice a' T.pats.length cap']) = av
 generalize hav2 : (Value.agg #[.int .i64 T.op, .int .i64 T.n, .string rt, .slice none 0 0, .slice pa2 (rebPats T (scp ch (boundL T) sc σ T.kids.length).1).length pc2]) = av2
 clear hav2
 go_cut [19] from 9 to 28 (fun s19 wx => ∃ t', Hid (t' = if T.op = 4 then (findS sc T.text).getD T.text else rt) ∧ Hid (t'.size ≤ maxLen) ∧ Hid (wx.heap[w1.heap.size]? = some (.cells #[.int .i64 T.op, .int .i64 T.n, .string t', .slice none 0 0, .slice pa2 (rebPats T (scp ch (boundL T) sc σ T.kids.length).1).length pc2] 32 (0, 0))) ∧ Hid (Kept (· = w1.heap.size) V2 wx))
 case first =>
  by_cases h4 : T.op = 4
  ·have he : (if T.op = 4 then (findS sc T.text).getD T.text else rt) = (findS sc T.text).getD T.text := if_pos h4
   have HE := lh he; have HX2' := HX2.o
   have HX3 := lh HX2'
   clear he HX2'
   go_wp2_with fail
   refine HFD.o.mono ?_
   rintro e w2 ⟨rfl, rfl⟩
   go_wp2
   go_meet
   case rel => exact ⟨(findS sc T.text).getD T.text, HE.o.symm, HGS.o, box_setCell HX3.o 2 _, Kept.setCell (S := (· = w1.heap.size)) _ rfl _⟩
  ·have he : (if T.op = 4 then (findS sc T.text).getD T.text else rt) = rt := if_neg h4
   have HE := lh he
   clear he
   go_wp2
   go_meet
   case rel => exact ⟨rt, HE.o.symm, HTS.o, HX2.o, Kept.refl _ _⟩
 case rest =>
  obtain ⟨t', HT', HTS', HBX, HKC⟩ := hcut
  clear c0 c1 c2 c3 c4 e0 e1 e2 e3 e4 f2
  have hsc := HKC.o.size
  have hs3 := HS3.o
  have hbs := HBS.o
  have hbs1 := hbs.1
  have hbs2 := hbs.2
  have y0 := HKC.o.get HBX0.o (by omega)
  obtain ⟨c0, c1, c2, c3, c4⟩ := cells5 y0
  have hcsc := HKC.o.get (bget' HB3.o HCS.o) (by omega)
  have hkc : Kept M w wc := by
   have h := (HKV.o.mono (S' := fun b => M b ∨ w.heap.size ≤ b) (fun b h => .inl h)).trans (HKC.o.mono (fun b h => .inr (by omega)))
   exact ⟨h.os, h.tape, h.output, h.size, fun b hb hm => h.block b hb fun h => h.elim hm fun h => by omega⟩
  have hJc : J (scp ch (boundL T) sc σ T.kids.length).2 wc := H.keep _ _ _ _ (H.keep _ (fun _ => False) _ _ HJ1.o (.of_below HB3.o) (fun _ h => h.elim)) HKC.o (by rintro b rfl; omega)
  have HY0 := lh y0; have HCSC := lh hcsc; have HKW := lh hkc; have HJC := lh hJc
  clear y0 hcsc hkc hJc hbs
  go_wp2
  go_loopw [32] (fun i wr => ∃ (k : Nat) (xs : List Value) (vo : Value), k ≤ T.kids.length ∧ i = .int .i64 k ∧ Hid (wr.heap[w1.heap.size]? = some (.cells #[.int .i64 T.op, .int .i64 T.n, .string t', vo, .slice pa2 (rebPats T (scp ch (boundL T) sc σ T.kids.length).1).length pc2] 32 (0, 0))) ∧ Hid (wr.ownsRow wc.heap.size 32 5 vo k xs) ∧
   Hid (FlatM (Own wc wr vo) wr (renK ch (scp ch (boundL T) sc σ T.kids.length).2 (scp ch (boundL T) sc σ T.kids.length).1 (T.kids.take k)).1 xs) ∧ Hid (J (renK ch (scp ch (boundL T) sc σ T.kids.length).2 (scp ch (boundL T) sc σ T.kids.length).1 (T.kids.take k)).2 wr) ∧ Hid (Kept (fun b => M b ∨ b = w1.heap.size) wc wr)) (fun i _ => T.kids.length - (intOf i).toNat)
  case atStart => exact ⟨0, [], .slice none 0 0, Nat.zero_le _, rfl, HBX.o, World.ownsRow_nil _ _ _ _, by unfold Hid; simp [renK]; exact rfl, by unfold Hid; simp [renK]; exact HJC.o, Kept.refl _ _⟩
  case round =>
   clear c0 c1 c2 c3 c4
   obtain ⟨k, xs, vo, hk, rfl, HBXK, HROW, HFL, HJK, HKK⟩ := hrel
   have hsr := HKK.o.size
   by_cases hlt : k < T.kids.length
   ·obtain ⟨b, o, rfl, hbn, hss⟩ : ∃ b o, a = some ⟨b, o, none⟩ ∧ b < n₀ ∧ TmsAt n₀ w T.kids b o := by
     rcases HK.o with ⟨h, -⟩ | ⟨b, o, cap2, h1, h2, h3, h4, h5⟩
     ·omega
     ·cases h1; exact ⟨b, o, rfl, h4, h5⟩
    obtain ⟨q0, q1, q2, q3, q4, g0, g1, g2, g3, g4, ht⟩ := TmsAt.get T.kids b o hss k hlt
    have hbV : Below n₀ w wr := (HKW.o.below hn (fun b h => (HM.o b h).1)).trans (HKK.o.below (by omega) (fun b h => h.elim (fun h => (HM.o b h).1) fun h => by omega))
    have r0 := (hbV.cell (p := ⟨b, _, none⟩) hbn).trans g0
    have r1 := (hbV.cell (p := ⟨b, _, none⟩) hbn).trans g1
    have r2 := (hbV.cell (p := ⟨b, _, none⟩) hbn).trans g2
    have r3 := (hbV.cell (p := ⟨b, _, none⟩) hbn).trans g3
    have r4 := (hbV.cell (p := ⟨b, _, none⟩) hbn).trans g4
    clear g0 g1 g2 g3 g4 hss
    obtain ⟨oo, nn, tt, ka, kn, kc, pa, pn, pc, rfl, rfl, rfl, rfl, rfl⟩ := ht.shape
    have HBV := lh hbV; have HTP := lh ht
    clear hbV ht
    go_upto_region 7 with fail
    have hBW1 : Below wr.heap.size wr (wr.alloc (.cells #[.int .i64 oo, .int .i64 nn, .string tt, .slice ka kn kc, .slice pa pn pc] 32)) := (Below.refl _ wr).alloc (Nat.le_refl _) _
    have hX2 := heap_alloc_new wr (.cells #[.int .i64 oo, .int .i64 nn, .string tt, .slice ka kn kc, .slice pa pn pc] 32)
    have hsU : (wr.alloc (.cells #[.int .i64 oo, .int .i64 nn, .string tt, .slice ka kn kc, .slice pa pn pc] 32)).heap.size = wr.heap.size + 1 := by simp
    generalize (wr.alloc (.cells #[.int .i64 oo, .int .i64 nn, .string tt, .slice ka kn kc, .slice pa pn pc] 32)) = U at *
    obtain ⟨vq, hq1, hq2⟩ := HSCS.o k (by rw [scp_len]; exact hlt)
    obtain ⟨vqp, rfl⟩ := hq2.ptr
    rw [show (scp ch (boundL T) sc σ T.kids.length).1[k]'(by rw [scp_len]; exact hlt) = (scp ch (boundL T) sc σ T.kids.length).1.getD k [] by rw [List.getD_eq_getElem?_getD, List.getElem?_eq_getElem (by rw [scp_len]; exact hlt)]; rfl] at hq2
    have hkl := ((okN_eq T).1 HRN.o.ok).2.2.1
    have hMc : ∀ b, M b → b < wc.heap.size := fun b h => by have := HMS.o b h; omega
    have hc3 := HKK.o.get HCSC.o (fun h => h.elim (fun h => by have := HMS.o _ h; omega) fun h => by omega)
    have hcnt1 := H.countS (boundL T) sc σ T.kids.length
    have hcnt2 := H.countK (T.kids.take k) (scp ch (boundL T) sc σ T.kids.length).2 (scp ch (boundL T) sc σ T.kids.length).1
    have hcnt3 := cntK_split T.kids k hlt
    have hbU : Below wr.heap.size wr U.drew := hBW1.trans (below_drew _ _)
    have hren := HIH.o _ (kid_ltT k hlt) T.kids[k] rfl ((scp ch (boundL T) sc σ T.kids.length).1.getD k []) (renK ch (scp ch (boundL T) sc σ T.kids.length).2 (scp ch (boundL T) sc σ T.kids.length).1 (T.kids.take k)).2 n₀ (fun b => B b ∨ Fresh V w1 b) (.agg #[.int .i64 oo, .int .i64 nn, .string tt, .slice ka kn kc, .slice pa pn pc]) (.pointer vqp) U.drew
     (TmAt.keep (hbU.mono (by omega)) (Nat.le_refl _) _ _ (TmAt.keep HBV.o (Nat.le_refl _) _ _ HTP.o)) (HRN.o.kid k hlt) HM.o (by show base ≤ U.heap.size; omega) (by show n₀ ≤ U.heap.size; omega)
     (fun b h => ⟨by have := (HST.o b h).1; show b < U.heap.size; omega, (HST.o b h).2⟩)
     (ScIn.keep (fun b h => ⟨h, by
      have h1 := HST.o b h
      exact (hbU.block b (by omega)).trans ((HKK.o.block b (by omega) fun g => g.elim h1.2 fun g => by omega).trans ((HKC.o.block b (by omega) (by omega)).trans (HB3.o.block b h1.1)))⟩) _ _ hq2) (by omega)
     (H.keep _ (fun _ => False) _ _ HJK.o (.of_below hbU) (fun _ h => h.elim))
    have hbxU := bget' hBW1 HBXK.o
    have hrowU : U.ownsRow wc.heap.size 32 5 vo k xs := ownsRow_of_block HROW.o fun g hg => hBW1.block g (HROW.o.lt g hg).2
    have hownV : ∀ kk, vo.ownBlock = some kk → wc.heap.size ≤ kk ∧ kk < wr.heap.size := fun kk h => HROW.o.lt kk h
    have HREN := lh hren
    clear hren hq2
    refine reg141 (k := k) (m := k) (M := M) (R := fun W' => J (renM ch (renK ch (scp ch (boundL T) sc σ T.kids.length).2 (scp ch (boundL T) sc σ T.kids.length).1 (T.kids.take k)).2 ((scp ch (boundL T) sc σ T.kids.length).1.getD k []) T.kids[k]).2 W') rfl rfl rfl rfl rfl rfl (fun _ _ _ _ _ h => h) hbxU hX2 (bget' hBW1 hc3) hq1 hlt hrowU (by omega) (by omega) (by omega) (fun e => by have := (hownV _ e).2; omega) (by omega)
     (fun b h => ⟨hMc b h, by have := HMS.o b h; omega, by have := HMS.o b h; omega, by have := HMS.o b h; omega⟩) HREN.o ?_
    intro u37 u38 u39 u40 u41 u42 u43 u44 u45 u46 u47 u48 c0 c1 c2 c3 c4 v' w2 w3 hnew hR hb1 hown3 hgr3 hat3
    have hbr1 : Kept (fun b => M b ∨ b = w1.heap.size) wr w2 := (Kept.of_below hBW1).trans (hb1.mono (fun b h => .inl h))
    have hMo : ∀ g, vo.ownBlock = some g → ¬ M g := fun g hg hm => by have := (hownV g hg).1; have := hMc g hm; omega
    have hs2 := hb1.size
    have hbx3 := one_grown hgr3 (hb1.get hbxU (fun h => by have := HMS.o _ h; omega)) (by omega) (ownsRow_of_block (w' := w2) hrowU fun g hg => hb1.block g (hrowU.lt g hg).2 (hMo g hg)) (by omega)
    have hst := own_stepM (S := fun b => M b ∨ b = w1.heap.size) HKK.o hbr1 (fun b h => h.elim (fun h => hMc b h) fun h => by omega) hownV hgr3 hat3
    have hkg : Kept (fun b => wc.heap.size ≤ b) w2 w3 := kept_grown hgr3 fun b h => (hownV b h).1
    have HNEW := lh hnew; have HOWN3 := lh hown3; have HSTP := lh hst; have HBX3 := lh hbx3; have HSU := lh hsU; have HR := lh hR; have HKG := lh hkg; have HS2' := lh hs2
    clear hbxU hrowU hownV hX2 hc3 hBW1 hnew hb1 hown3 hgr3 hat3 hbr1 hst hbx3 HREN hq1 hsU hR hMo hkg hcnt1 hcnt2 hcnt3 hbU hs2
    simp only [List.setIfInBounds_toArray, List.set_cons_zero, List.set_cons_succ]
    go_wp2
    go_roundw
    case rel =>
     obtain ⟨s1, s2, s3, s4⟩ := HSTP.o
     have z1 := HS3.o
     have z2 := HKC.o.size
     have z3 := HKW.o.size
     have hks : Kept (fun b => b = w1.heap.size) w3 (w3.setCell ⟨w1.heap.size, 3, none⟩ v') := kept1 _ _ _ _
     have htk : T.kids.take (k + 1) = T.kids.take k ++ [T.kids[k]] := List.take_succ_eq_append_getElem hlt
     have hlk : (T.kids.take k).length = k := by simp; omega
     have hrk := renK_snoc ch (T.kids.take k) (scp ch (boundL T) sc σ T.kids.length).2 (scp ch (boundL T) sc σ T.kids.length).1 T.kids[k]
     rw [hlk, ← htk] at hrk
     refine ⟨k + 1, _, v', by omega, by go_num, box_setCell HBX3.o 3 _, ownsRow_setCell_below HOWN3.o (by simp <;> omega) _, ?_, ?_, s4.trans (hks.mono (fun b h => .inr h))⟩
     ·unfold Hid
      rw [hrk]
      have hge : ∀ b, Own wc w3 v' b → (w3.setCell ⟨w1.heap.size, 3, none⟩ v').heap[b]? = w3.heap[b]? ∧ Own wc (w3.setCell ⟨w1.heap.size, 3, none⟩ v') v' b := fun b h => ⟨hks.block b h.2.1 (by have := h.1; omega), h.keepSet rfl _ _⟩
      refine FlatM.keep (fun b h => (hge b h).1) (fun b h => (hge b h).2) _ _ ?_
      have hp := HNEW.o
      exact FlatM.snoc (TmIn.keep (fun b (h : Fresh U w2 b) => (s3 b (by have := h.1; have := HSU.out; omega) h.2).1) (fun b (h : Fresh U w2 b) => (s3 b (by have := h.1; have := HSU.out; omega) h.2).2) _ _ hp) _ _ (FlatM.keep s1 s2 _ _ HFL.o)
     ·unfold Hid
      rw [hrk]
      exact H.keep _ _ _ _ (H.keep _ _ _ _ HR.o HKG.o (fun b h => by omega)) hks (by rintro b rfl; omega)
    case measure => simp [intOf]; omega
   ·obtain rfl : k = T.kids.length := by omega
    have z1 := HS3.o
    have z2 := HKC.o.size
    have z3 := HKW.o.size
    have z4 := HS2.o
    have z5 := HK1.o.size
    obtain ⟨va, vc, rfl⟩ := slice_of_row HROW.o
    have y1 := HKK.o.get (HKC.o.get HBX1.o (by omega)) (fun h => h.elim (fun h => by have := HMS.o _ h; omega) fun h => by omega)
    obtain ⟨d0, d1, d2, d3, d4⟩ := cells5 y1
    obtain ⟨e0, e1, e2, e3, e4⟩ := cells5 HBXK.o
    have f1 := free_box y1
    clear y1
    go_wp2
    have hkp := kept5 wr (w.heap.size + 1) (.int .i64 T.op) (.int .i64 T.n) (.string t') (.slice va T.kids.length vc) (.slice pa2 (rebPats T (scp ch (boundL T) sc σ T.kids.length).1).length pc2)
    have hsz := hkp.size
    refine bodyPost_ret (v := .agg #[.int .i64 T.op, .int .i64 T.n, .string t', .slice va T.kids.length vc, .slice pa2 (rebPats T (scp ch (boundL T) sc σ T.kids.length).1).length pc2]) (by simp [results, Tryz.results141, go_sem, d0, d1, d2, d3, d4]) rfl ?_
    revert hkp hsz
    generalize (((((wr.setCell ⟨w.heap.size + 1, 0, none⟩ (.int .i64 T.op)).setCell ⟨w.heap.size + 1, 1, none⟩ (.int .i64 T.n)).setCell ⟨w.heap.size + 1, 2, none⟩ (.string t')).setCell ⟨w.heap.size + 1, 3, none⟩ (.slice va T.kids.length vc)).setCell ⟨w.heap.size + 1, 4, none⟩ (.slice pa2 (rebPats T (scp ch (boundL T) sc σ T.kids.length).1).length pc2)) = Vf
    intro hkp hsz
    refine ⟨⟨_, rfl, ?_⟩, ?_, ?_⟩
    ·rw [renM_eq]
     unfold TmIn
     have hfl := HFL.o
     have hrow := HROW.o
     rw [List.take_length] at hfl
     rw [HRT.o, ← HT'.o]
     refine ⟨_, _, rfl, HTS'.o, ?_, ?_⟩
     ·rw [renK_len]
      have h1 : SlIn (fun b => wc.heap.size ≤ b ∧ b < wr.heap.size) (.slice va T.kids.length vc) T.kids.length (fun b o => TmsIn (fun b => wc.heap.size ≤ b ∧ b < wr.heap.size) wr (renK ch (scp ch (boundL T) sc σ T.kids.length).2 (scp ch (boundL T) sc σ T.kids.length).1 T.kids).1 b o) :=
       owned_sl hrow (fun b h => hrow.lt b h) fun b hb hc => FlatM.tmsIn _ _ _ (FlatM.keep (fun _ _ => rfl) (fun b h => ⟨h.1, h.2.1⟩) _ _ hfl) hc
      exact h1.mono (fun b h => ⟨by omega, by omega⟩) fun b o h hr => TmsIn.keep (fun b h => hkp.block b h.2 (by omega)) (fun b h => ⟨by omega, by omega⟩) _ _ _ h hr
     ·have hfr : ∀ b, Fresh V w1 b → Fresh w Vf b ∧ Vf.heap[b]? = w1.heap[b]? := fun b h => by
       have h1 := h.1
       have h2 := h.2
       exact ⟨⟨by omega, by omega⟩, (hkp.block b (by omega) (by omega)).trans ((HKK.o.block b (by omega) fun g => g.elim (fun g => by have := HMS.o _ g; omega) fun g => by omega).trans ((HKC.o.block b (by omega) (by omega)).trans (HB3.o.block b h.2)))⟩
      exact HPV.o.mono (fun b h => (hfr b h).1) fun b o h hr => PtsIn.keep (fun b h => (hfr b h).2) (fun b h => (hfr b h).1) _ _ _ h hr
    ·rw [renM_eq]
     have hj := HJK.o
     rw [List.take_length] at hj
     exact H.keep _ _ _ _ hj hkp (by rintro b rfl; omega)
    ·have h := (HKW.o.mono (S' := fun b => M b ∨ w.heap.size ≤ b) (fun b h => .inl h)).trans ((HKK.o.mono (fun b h => h.imp id fun h => by omega)).trans (hkp.mono (fun b h => .inr (by omega))))
     exact ⟨h.os, h.tape, h.output, h.size, fun b hb hm => h.block b hb fun h => h.elim hm fun h => by omega⟩
end Go.Proofs.YtjpahjfjpkbcnaaGreat
namespace Go.Proofs
open Go.Shelf
def Tryz.keys137_ren : Go.Shelf.Ren := ⟨fun | 7 => 137 | 10 => 162 | n => n, fun | 23 => 85 | 26 => 9 | 3 => 4 | 28 => 134 | 0 => 0 | 27 => 133 | 33 => 25 | 4 => 4 | n => n, fun | n => n⟩
theorem Tryz.keys137 : Go.Proofs.SlLaysZ.n7 Tryz.prog Tryz.keys137_ren := {
 mixed := by kernel_rfl
 f7 := ⟨Tryz.f137.name, by decide, Tryz.func137.trans (congrArg some (by kernel_rfl))⟩
 f10 := ⟨Tryz.f162.name, by decide, Tryz.func162.trans (congrArg some (by kernel_rfl))⟩
 t0 := Tryz.underlying0
 a0 := Tryz.isAgg0
 z0 := Tryz.sizeOf0
 v0 := Tryz.zeroValue0
 t4 := Tryz.underlying4
 a4 := Tryz.isAgg4
 z4 := Tryz.sizeOf4
 v4 := Tryz.zeroValue4
 t23 := Tryz.underlying85
 a23 := Tryz.isAgg85
 z23 := Tryz.sizeOf85
 v23 := Tryz.zeroValue85
 t26 := Tryz.underlying9
 a26 := Tryz.isAgg9
 z26 := Tryz.sizeOf9
 v26 := Tryz.zeroValue9
 t27 := Tryz.underlying133
 a27 := Tryz.isAgg133
 z27 := Tryz.sizeOf133
 v27 := Tryz.zeroValue133
 t28 := Tryz.underlying134
 a28 := Tryz.isAgg134
 z28 := Tryz.sizeOf134
 v28 := Tryz.zeroValue134
 t33 := Tryz.underlying25
 a33 := Tryz.isAgg25
 z33 := Tryz.sizeOf25
 v33 := Tryz.zeroValue25 }
def Tryz.sorted136_ren : Go.Shelf.Ren := ⟨fun | 6 => 136 | 8 => 160 | 9 => 161 | 11 => 169 | 13 => 171 | 12 => 170 | 23 => 184 | 24 => 185 | 14 => 175 | 15 => 176 | 16 => 177 | 17 => 178 | 18 => 179 | 19 => 180 | 20 => 181 | 21 => 182 | 22 => 183 | 25 => 186 | 26 => 187 | 27 => 188 | 28 => 189 | 29 => 190 | 30 => 191 | 31 => 192 | n => n, fun | 26 => 9 | 28 => 134 | 24 => 22 | 0 => 0 | 3 => 3 | 37 => 193 | 48 => 200 | 50 => 203 | 4 => 4 | 40 => 208 | 39 => 207 | 45 => 213 | 5 => 5 | 9 => 9 | 51 => 217 | 55 => 221 | 57 => 223 | 58 => 224 | 33 => 25 | n => n, fun | n => n⟩
theorem Tryz.sorted136 : Go.Proofs.SlLaysZ.n6 Tryz.prog Tryz.sorted136_ren := {
 mixed := by kernel_rfl
 f6 := ⟨Tryz.f136.name, by decide, Tryz.func136.trans (congrArg some (by kernel_rfl))⟩
 f8 := ⟨Tryz.f160.name, by decide, Tryz.func160.trans (congrArg some (by kernel_rfl))⟩
 f11 := ⟨Tryz.f169.name, by decide, Tryz.func169.trans (congrArg some (by kernel_rfl))⟩
 t0 := Tryz.underlying0
 a0 := Tryz.isAgg0
 z0 := Tryz.sizeOf0
 v0 := Tryz.zeroValue0
 t24 := Tryz.underlying22
 a24 := Tryz.isAgg22
 z24 := Tryz.sizeOf22
 v24 := Tryz.zeroValue22
 t26 := Tryz.underlying9
 a26 := Tryz.isAgg9
 z26 := Tryz.sizeOf9
 v26 := Tryz.zeroValue9
 t28 := Tryz.underlying134
 a28 := Tryz.isAgg134
 z28 := Tryz.sizeOf134
 v28 := Tryz.zeroValue134
 i26 := by kernel_rfl }
def Tryz.sort161_ren : Go.Shelf.Ren := ⟨fun | 6 => 161 | 8 => 171 | 9 => 170 | 19 => 184 | 20 => 185 | 21 => 175 | 22 => 176 | 23 => 177 | 24 => 178 | 25 => 179 | 26 => 180 | 27 => 181 | 28 => 182 | 29 => 183 | 36 => 186 | 31 => 187 | 32 => 188 | 37 => 189 | 38 => 190 | 39 => 191 | 41 => 192 | n => n, fun | 27 => 22 | 29 => 9 | 3 => 3 | 32 => 193 | 26 => 22 | 0 => 0 | 44 => 200 | 46 => 203 | 4 => 4 | 36 => 208 | 35 => 207 | 41 => 213 | 5 => 5 | 9 => 9 | 53 => 217 | 57 => 221 | 63 => 223 | 64 => 224 | n => n, fun | n => n⟩
theorem Tryz.sort161 : Go.Proofs.SlLaysM.n6 Tryz.prog Tryz.sort161_ren := {
 mixed := by kernel_rfl
 f6 := ⟨Tryz.f161.name, by decide, Tryz.func161.trans (congrArg some (by kernel_rfl))⟩
 f8 := Tryz.func171.trans (congrArg some (by kernel_rfl))
 f9 := ⟨Tryz.f170.name, by decide, Tryz.func170.trans (congrArg some (by kernel_rfl))⟩
 f19 := Tryz.func184.trans (congrArg some (by kernel_rfl))
 f20 := Tryz.func185.trans (congrArg some (by kernel_rfl))
 f21 := ⟨Tryz.f175.name, by decide, Tryz.func175.trans (congrArg some (by kernel_rfl))⟩
 f22 := ⟨Tryz.f176.name, by decide, Tryz.func176.trans (congrArg some (by kernel_rfl))⟩
 f23 := ⟨Tryz.f177.name, by decide, Tryz.func177.trans (congrArg some (by kernel_rfl))⟩
 f24 := ⟨Tryz.f178.name, by decide, Tryz.func178.trans (congrArg some (by kernel_rfl))⟩
 f25 := ⟨Tryz.f179.name, by decide, Tryz.func179.trans (congrArg some (by kernel_rfl))⟩
 f26 := ⟨Tryz.f180.name, by decide, Tryz.func180.trans (congrArg some (by kernel_rfl))⟩
 f27 := ⟨Tryz.f181.name, by decide, Tryz.func181.trans (congrArg some (by kernel_rfl))⟩
 f28 := ⟨Tryz.f182.name, by decide, Tryz.func182.trans (congrArg some (by kernel_rfl))⟩
 f29 := ⟨Tryz.f183.name, by decide, Tryz.func183.trans (congrArg some (by kernel_rfl))⟩
 f31 := Tryz.func187.trans (congrArg some (by kernel_rfl))
 f32 := Tryz.func188.trans (congrArg some (by kernel_rfl))
 f36 := ⟨Tryz.f186.name, by decide, Tryz.func186.trans (congrArg some (by kernel_rfl))⟩
 f37 := ⟨Tryz.f189.name, by decide, Tryz.func189.trans (congrArg some (by kernel_rfl))⟩
 f38 := ⟨Tryz.f190.name, by decide, Tryz.func190.trans (congrArg some (by kernel_rfl))⟩
 f39 := ⟨Tryz.f191.name, by decide, Tryz.func191.trans (congrArg some (by kernel_rfl))⟩
 f41 := ⟨Tryz.f192.name, by decide, Tryz.func192.trans (congrArg some (by kernel_rfl))⟩
 t0 := Tryz.underlying0
 a0 := Tryz.isAgg0
 z0 := Tryz.sizeOf0
 v0 := Tryz.zeroValue0
 t3 := Tryz.underlying3
 a3 := Tryz.isAgg3
 z3 := Tryz.sizeOf3
 v3 := Tryz.zeroValue3
 t4 := Tryz.underlying4
 a4 := Tryz.isAgg4
 z4 := Tryz.sizeOf4
 v4 := Tryz.zeroValue4
 t5 := Tryz.underlying5
 a5 := Tryz.isAgg5
 z5 := Tryz.sizeOf5
 v5 := Tryz.zeroValue5
 t9 := Tryz.underlying9
 a9 := Tryz.isAgg9
 z9 := Tryz.sizeOf9
 v9 := Tryz.zeroValue9
 t26 := Tryz.underlying22
 a26 := Tryz.isAgg22
 z26 := Tryz.sizeOf22
 v26 := Tryz.zeroValue22
 t27 := Tryz.underlying22
 a27 := Tryz.isAgg22
 z27 := Tryz.sizeOf22
 v27 := Tryz.zeroValue22
 t29 := Tryz.underlying9
 a29 := Tryz.isAgg9
 z29 := Tryz.sizeOf9
 v29 := Tryz.zeroValue9
 t32 := Tryz.underlying193
 a32 := Tryz.isAgg193
 z32 := Tryz.sizeOf193
 v32 := Tryz.zeroValue193
 t35 := Tryz.underlying207
 a35 := Tryz.isAgg207
 z35 := Tryz.sizeOf207
 v35 := Tryz.zeroValue207
 t36 := Tryz.underlying208
 a36 := Tryz.isAgg208
 z36 := Tryz.sizeOf208
 v36 := Tryz.zeroValue208
 t41 := Tryz.underlying213
 a41 := Tryz.isAgg213
 z41 := Tryz.sizeOf213
 v41 := Tryz.zeroValue213
 t44 := Tryz.underlying200
 a44 := Tryz.isAgg200
 z44 := Tryz.sizeOf200
 v44 := Tryz.zeroValue200
 t46 := Tryz.underlying203
 a46 := Tryz.isAgg203
 z46 := Tryz.sizeOf203
 v46 := Tryz.zeroValue203
 t53 := Tryz.underlying217
 a53 := Tryz.isAgg217
 z53 := Tryz.sizeOf217
 v53 := Tryz.zeroValue217
 t57 := Tryz.underlying221
 a57 := Tryz.isAgg221
 z57 := Tryz.sizeOf221
 v57 := Tryz.zeroValue221
 t63 := Tryz.underlying223
 a63 := Tryz.isAgg223
 z63 := Tryz.sizeOf223
 v63 := Tryz.zeroValue223
 t64 := Tryz.underlying224
 a64 := Tryz.isAgg224
 z64 := Tryz.sizeOf224
 v64 := Tryz.zeroValue224 }
end Go.Proofs
namespace Go.Proofs
open Go.RowKit Go.Maps Go.Sort Go.Shelf
-- maps.Keys[map[string]bool,string,bool] (function 137; its iterator 162) · slices.Sorted[string] (136) · slices.Sort[[]string,string] (161) · the map's type 85, the keys' 9
theorem Tryz.sorts136 (m : Nat) : AnyZ.SortsIn Tryz.prog Tryz.sorted136_ren Fence.wide m :=
 ⟨fun blk off cap ss W hH hblk hsz => callsIn_wide.2 (AnyM.slices_Sort_string Tryz.sort161 blk off cap ss W hH hblk hsz),
  fun p cap W => callsIn_wide.2 (AnyM.slices_Sort_string_none Tryz.sort161 p cap W)⟩
theorem Tryz.maps_Keys_137 (mb : Option Nat) (W : World) : CallsIn Fence.wide 5 Tryz.prog 137 #[.map mb] W fun e w' => e = .returned (.func (.func 162) #[] #[.pointer (some ⟨W.heap.size, 0, none⟩)]) ∧ w' = W.alloc (.cells #[.map mb] 85) :=
 AnyZ.keys_in Tryz.keys137 Fence.wide 5 trivial rfl mb W
set_option maxHeartbeats 1000000 in
theorem Tryz.slices_Sorted_keys_136_137 {H : Type} (b nn : Nat) (D0 : DataW H) (R : Value → Option (DataW H × List MemPlace)) (w : World) (hown : w.ownsMap Tryz.prog 9 R b nn D0) (hmax : Maps.size D0 ≤ maxLen) (hbytes : Maps.size D0 * 16 ≤ 140737488355328) :
  CallsIn Fence.wide 5 Tryz.prog 136 #[.func (.func 162) #[] #[.pointer (some ⟨w.heap.size, 0, none⟩)]] (w.alloc (.cells #[.map (some b)] 85)) fun e w' => ∃ (v : Value) (ss : List (List UInt8)), e = .returned v ∧ ss.Perm (strKeys D0) ∧
   w'.ownsRow (w.alloc (.cells #[.map (some b)] 85)).heap.size 9 1 v ss.length ((ss.mergeSort (fun x y => decide (x ≤ y))).map encStr) ∧ (v = .slice none 0 0 ↔ ss = []) ∧ Below (w.alloc (.cells #[.map (some b)] 85)).heap.size (w.alloc (.cells #[.map (some b)] 85)) w' := by
 have hbl := hown.lt
 have hseq : SeqGives Fence.wide 2 Tryz.prog 162 #[.pointer (some ⟨w.heap.size, 0, none⟩)] encStr (fun ss => ss.Perm (strKeys D0)) (Maps.size D0) (w.alloc (.cells #[.map (some b)] 85)) :=
  AnyZ.keys_gives (ρ := Tryz.keys137_ren) { Tryz.keys137 with } Fence.wide _ trivial rfl (by omega) w.heap.size b nn D0 _ (by simp) (by simp) (by
   obtain ⟨es, clock, hb, Ft, hs, hD⟩ := hown
   exact ⟨es, clock, (Below.heap_alloc _ _ b hbl).trans hb, Ft, hs, hD⟩)
 exact AnyZ.sorted_in Tryz.sorted136 Fence.wide 5 trivial trivial trivial trivial rfl (by omega) (Tryz.sorts136 _) (enters_of Tryz.func161 (by kernel_rfl) rfl) 162 #[.pointer (some ⟨w.heap.size, 0, none⟩)] trivial (enters_of Tryz.func162 (by kernel_rfl) rfl) _ _ hmax hbytes _ hseq
-- THE CALLER's WALK over 'slices.Sorted(maps.Keys(m))' (inside '(callsIn_wide (n := 6)).1'; 'have hfK : Fence.wide.fn 137 := trivial', 'have hfS : Fence.wide.fn 136 := trivial' ahead): THE TWO ARMS TO PASTE:
--   gi_wp2_with (first
--     | (gi_at_call 137; refine (Tryz.maps_Keys_137 _ _).mono ?_; rintro e w' ⟨rfl, rfl⟩)
--     | (gi_at_call 136; refine (Tryz.slices_Sorted_keys_136_137 b nn D0 R w hown hmax hbytes).mono ?_; rintro e w' ⟨v, ss, rfl, hS, hrow, hnil, hb⟩))
end Go.Proofs
namespace Go.Proofs.YtjpahjfjpkbcnaaGreat
open Go.Proofs Go.RowKit
def dd : List (List UInt8) → List (List UInt8)
 | [] => []
 | x :: xs => if xs.contains x then dd xs else x :: dd xs
theorem mem_dd : ∀ (xs : List (List UInt8)) (y : List UInt8), y ∈ dd xs ↔ y ∈ xs
 | [], _ => Iff.rfl
 | x :: xs, y => by
  unfold dd
  split
  ·rename_i h
   rw [mem_dd xs y, List.mem_cons]
   constructor
   ·exact .inr
   ·rintro (rfl | h')
    ·simpa using h
    ·exact h'
  ·rw [List.mem_cons, List.mem_cons, mem_dd xs y]
theorem nodup_dd : ∀ (xs : List (List UInt8)), (dd xs).Nodup
 | [] => List.nodup_nil
 | x :: xs => by
  unfold dd
  split
  ·exact nodup_dd xs
  ·rename_i h
   exact List.nodup_cons.2 ⟨fun hm => h (by simpa using (mem_dd xs x).1 hm), nodup_dd xs⟩
def bytesArr (l : List UInt8) : ByteArray := ⟨l.toArray⟩
def freeL (T : Tm) : List ByteArray := ((dd (frees (fun _ => false) T)).mergeSort leB).map bytesArr
theorem SetAt.keys {w : World} {b n : Nat} {mem : List UInt8 → Bool} (h : SetAt w b n mem) (L : List (List UInt8)) (hL : ∀ x, mem x = L.contains x) :
  ∃ D : DataW Unit, w.ownsMap Tryz.prog 9 (plainElem Tryz.prog 4) b n D ∧ Maps.size D ≤ n ∧ (∀ ss : List (List UInt8), ss.Perm (strKeys D) → ss.mergeSort leB = (dd L).mergeSort leB ∧ ss.length = (dd L).length) ∧ ∀ x ∈ strKeys D, x.length ≤ maxLen := by
 obtain ⟨D, h1, h2⟩ := h
 refine ⟨D, h1, h1.size_le, fun ss hss => ?_, strKeys_le h1 Tryz.underlying9⟩
 have hc : Collected D (fun _ => false) (dd L) := ⟨nodup_dd L, fun x => by rw [mem_dd, (h2 x).1, hL x]; simp⟩
 have hp := hc.perm h1 (Maps.string_keyed Tryz.underlying9) Tryz.underlying9 fun _ => rfl
 exact ⟨mergeSort_of_perm (hss.trans hp.symm), (hss.trans hp.symm).length_eq⟩
set_option maxHeartbeats 2000000 in
set_option maxRecDepth 100000 in
theorem freeNames_any (T : Tm) (v : Value) (w : World) (hT : TmAt w.heap.size w T v) (hok : okN T) (hl : (frees (fun _ => false) T).length ≤ 1000000) :
  Calls Tryz.prog 105 #[v] w fun e w' => (∃ v', e = .returned v' ∧ SlIn (Fresh w w') v' (freeL T).length fun b o => StrsAt w' (freeL T) b o) ∧ Below w.heap.size w w' := by
 obtain ⟨a, cap, a', cap', rfl, -, -, -⟩ := hT.parts
 have hmm := @run_makeMap Tryz.prog
 have HT := lh hT; have HOK := lh hok; have HL := lh hl
 clear hT hok hl
 go_enter Tryz.func105, Tryz.ntmps105
 go_wp2_with fail
 have hB2 : Below w.heap.size w ((w.alloc (.cells #[.int .i64 T.op, .int .i64 T.n, .string T.text, .slice a T.kids.length cap, .slice a' T.pats.length cap'] 32)).alloc (.map #[] 0)) := ((Below.refl _ w).alloc (Nat.le_refl _) _).alloc (by simp) _
 have hset := SetAt.new (w.alloc (.cells #[.int .i64 T.op, .int .i64 T.n, .string T.text, .slice a T.kids.length cap, .slice a' T.pats.length cap'] 32))
 rw [World.size_alloc] at hset
 generalize ((w.alloc (.cells #[.int .i64 T.op, .int .i64 T.n, .string T.text, .slice a T.kids.length cap, .slice a' T.pats.length cap'] 32)).alloc (.map #[] 0)) = W at *
 have hff := findFree_any T [] _ (.pointer none) W 0 w.heap.size (w.heap.size + 1) (fun _ => false) (fun _ => False) (TmAt.keep hB2 (Nat.le_refl _) _ _ HT.o) (by omega) HOK.o rfl (fun _ h => h.elim) hset (by have := HL.out; show 0 + (frees (fun _ => false) T).length ≤ _; omega)
 refine hff.mono ?_
 rintro e w1 ⟨⟨u, rfl⟩, hs1, hk1⟩
 have hbd : bdOf [] = fun _ => false := rfl
 rw [hbd] at hs1
 obtain ⟨D, hown, hsz, hkeys, hlen⟩ := hs1.keys (frees (fun _ => false) T) (fun x => by simp)
 have hb1 : Below w.heap.size w w1 := hB2.trans (hk1.below hB2.size (by rintro k rfl; omega))
 have HK1 := lh hb1; have HOWN := lh hown; have HKEYS := lh hkeys; have HLEN := lh hlen; have HSZ := lh hsz
 clear hff hB2 hset hs1 hk1 hmm hb1 hown hkeys hlen hsz hbd
 go_wp2_with fail
 refine (callsIn_wide.1 (Tryz.maps_Keys_137 (some (w.heap.size + 1)) w1)).mono ?_
 rintro e w2 ⟨rfl, rfl⟩
 go_wp2_with fail
 refine (callsIn_wide.1 (Tryz.slices_Sorted_keys_136_137 (w.heap.size + 1) _ D _ w1 HOWN.o (by have := HSZ.out; have := HL.out; unfold maxLen; omega) (by have := HSZ.out; have := HL.out; omega))).mono ?_
 rintro e w3 ⟨v, ss, rfl, hS, hrow, hnil, hb3⟩
 obtain ⟨va, vc, rfl⟩ := slice_of_row hrow
 have HS := lh hS; have HROW := lh hrow; have HB3 := lh hb3
 clear hS hrow hb3 hnil
 go_wp2
 go_ret
 obtain ⟨hm, hl⟩ := HKEYS.o ss HS.o
 have hb13 : Below w1.heap.size w1 w3 := ((Below.refl _ w1).alloc (Nat.le_refl _) _).trans (HB3.o.mono (by simp))
 have hfl : (freeL T).length = ss.length := by unfold freeL; rw [← hm]; simp
 have hrow : w3.ownsRow (w1.heap.size + 1) 9 1 (.slice va ss.length vc) ss.length ((freeL T).map Value.string) := by
  have h := HROW.o
  simp only [World.size_alloc] at h
  have he : (ss.mergeSort (fun x y => decide (x ≤ y))).map encStr = (freeL T).map Value.string := by
   unfold freeL
   rw [← hm, List.map_map]
   rfl
  rw [he] at h
  exact h
 have hsz1 := HK1.o.size
 refine ⟨⟨_, rfl, ?_⟩, HK1.o.trans (hb13.mono hsz1)⟩
 rw [hfl]
 refine owned_sl hrow (fun b hb => ⟨by have := (hrow.lt b hb).1; omega, (hrow.lt b hb).2⟩) fun b hb hc => strs_of_row _ _ _ (fun s hs => ?_) hc
 unfold freeL at hs
 rw [← hm] at hs
 obtain ⟨l, hl', rfl⟩ := List.mem_map.1 hs
 have := HLEN.o l (HS.o.mem_iff.1 (List.mem_mergeSort.1 hl'))
 simpa [bytesArr, ByteArray.size] using this
end Go.Proofs.YtjpahjfjpkbcnaaGreat
