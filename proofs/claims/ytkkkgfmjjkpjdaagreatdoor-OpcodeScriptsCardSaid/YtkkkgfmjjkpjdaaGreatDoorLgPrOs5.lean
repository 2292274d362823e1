import Derived.Test.YtkkkgfmjjkpjdaaGreatDoorLgW
import Derived.Test.YtkkkgfmjjkpjdaaGreatDoorLgPrOs4
import Derived.Test.YtkkkgfmjjkpjdaaGreatDoorChecked
import Derived.Shelf.Strconv.Itoa3
import Derived.Shelf.Strconv.AtoiAll
import Derived.Lib.AppendIntMem
import Derived.Shelf.Strings.Search2
import Derived.Shelf.Strings.Count
import Derived.Shelf.Strings.Prefix
import Derived.KernelRfl
set_option linter.all false
namespace Go.Proofs.YtkkkgfmjjkpjdaaGreatDoorLg
noncomputable section
open Go Go.Lift Go.Proofs Go.Shelf
def z1i0:Go.Shelf.Ren:=⟨fun|171=>49|243=>67|246=>86|283=>96|284=>97|285=>98|286=>99|129=>105|317=>104|318=>106|319=>107|320=>108|337=>109|338=>110|n=>n,fun|3=>3|9=>9|2=>2|4=>4|171=>117|0=>0|53=>110|37=>41|5=>5|173=>120|212=>128|51=>107|20=>20|213=>129|46=>87|232=>137|233=>138|n=>n,fun|17=>4|18=>7|19=>8|n=>n⟩
theorem z1sh:LaysM.n171 Tryz.prog z1i0 where
 mixed:=by kernel_rfl
 f129:=Tryz.func105.trans (congrArg some (by kernel_rfl))
 f171:=Tryz.func49.trans (congrArg some (by kernel_rfl))
 f243:=Tryz.func67.trans (congrArg some (by kernel_rfl))
 f246:=Tryz.func86.trans (congrArg some (by kernel_rfl))
 f283:=Tryz.func96.trans (congrArg some (by kernel_rfl))
 f284:=Tryz.func97.trans (congrArg some (by kernel_rfl))
 f285:=Tryz.func98.trans (congrArg some (by kernel_rfl))
 f286:=Tryz.func99.trans (congrArg some (by kernel_rfl))
 f317:=Tryz.func104.trans (congrArg some (by kernel_rfl))
 f318:=Tryz.func106.trans (congrArg some (by kernel_rfl))
 f319:=Tryz.func107.trans (congrArg some (by kernel_rfl))
 f320:=Tryz.func108.trans (congrArg some (by kernel_rfl))
 f337:=Tryz.func109.trans (congrArg some (by kernel_rfl))
 f338:=Tryz.func110.trans (congrArg some (by kernel_rfl))
 t0:=Tryz.underlying0
 a0:=Tryz.isAgg0
 z0:=Tryz.sizeOf0
 v0:=Tryz.zeroValue0
 t2:=Tryz.underlying2
 a2:=Tryz.isAgg2
 z2:=Tryz.sizeOf2
 v2:=Tryz.zeroValue2
 t3:=Tryz.underlying3
 a3:=Tryz.isAgg3
 z3:=Tryz.sizeOf3
 v3:=Tryz.zeroValue3
 t4:=Tryz.underlying4
 a4:=Tryz.isAgg4
 z4:=Tryz.sizeOf4
 v4:=Tryz.zeroValue4
 t5:=Tryz.underlying5
 a5:=Tryz.isAgg5
 z5:=Tryz.sizeOf5
 v5:=Tryz.zeroValue5
 t9:=Tryz.underlying9
 a9:=Tryz.isAgg9
 z9:=Tryz.sizeOf9
 v9:=Tryz.zeroValue9
 t20:=Tryz.underlying20
 a20:=Tryz.isAgg20
 z20:=Tryz.sizeOf20
 v20:=Tryz.zeroValue20
 t37:=Tryz.underlying41
 a37:=Tryz.isAgg41
 z37:=Tryz.sizeOf41
 v37:=Tryz.zeroValue41
 t46:=Tryz.underlying87
 a46:=Tryz.isAgg87
 z46:=Tryz.sizeOf87
 v46:=Tryz.zeroValue87
 t51:=Tryz.underlying107
 a51:=Tryz.isAgg107
 z51:=Tryz.sizeOf107
 v51:=Tryz.zeroValue107
 t53:=Tryz.underlying110
 a53:=Tryz.isAgg110
 z53:=Tryz.sizeOf110
 v53:=Tryz.zeroValue110
 t171:=Tryz.underlying117
 a171:=Tryz.isAgg117
 z171:=Tryz.sizeOf117
 v171:=Tryz.zeroValue117
 t173:=Tryz.underlying120
 a173:=Tryz.isAgg120
 z173:=Tryz.sizeOf120
 v173:=Tryz.zeroValue120
 t212:=Tryz.underlying128
 a212:=Tryz.isAgg128
 z212:=Tryz.sizeOf128
 v212:=Tryz.zeroValue128
 t213:=Tryz.underlying129
 a213:=Tryz.isAgg129
 z213:=Tryz.sizeOf129
 t232:=Tryz.underlying137
 a232:=Tryz.isAgg137
 z232:=Tryz.sizeOf137
 v232:=Tryz.zeroValue137
 t233:=Tryz.underlying138
 a233:=Tryz.isAgg138
 z233:=Tryz.sizeOf138
 v233:=Tryz.zeroValue138
 g17:=by kernel_rfl
 g18:=by kernel_rfl
 g19:=by kernel_rfl
 i0:=by kernel_rfl
 i2:=by kernel_rfl
 i3:=by kernel_rfl
 i4:=by kernel_rfl
 i5:=by kernel_rfl
 i9:=by kernel_rfl
 i20:=by kernel_rfl
 i37:=by kernel_rfl
 i46:=by kernel_rfl
 i51:=by kernel_rfl
 i53:=by kernel_rfl
 i171:=by kernel_rfl
 i173:=by kernel_rfl
 i212:=by kernel_rfl
 i232:=by kernel_rfl
 i233:=by kernel_rfl
 m17:=by kernel_rfl
 m18:=by kernel_rfl
 m19:=by kernel_rfl
def z1hy:Go.Shelf.Ren:=⟨fun|172=>42|244=>63|245=>64|247=>78|279=>79|280=>80|281=>81|282=>82|287=>91|316=>92|171=>49|205=>93|321=>102|322=>103|243=>67|246=>86|283=>96|284=>97|285=>98|286=>99|129=>105|317=>104|318=>106|319=>107|320=>108|337=>109|338=>110|n=>n,fun|9=>9|3=>3|75=>45|76=>46|4=>4|5=>5|167=>94|37=>41|0=>0|85=>95|2=>2|168=>97|53=>110|175=>111|46=>87|210=>114|127=>60|145=>126|143=>124|21=>21|171=>117|173=>120|212=>128|51=>107|20=>20|213=>129|232=>137|233=>138|80=>48|n=>n,fun|15=>2|16=>3|17=>4|18=>7|19=>8|n=>n⟩
theorem z1hz:LaysC.n172 Tryz.prog z1hy where
 mixed:=by kernel_rfl
 f129:=Tryz.func105.trans (congrArg some (by kernel_rfl))
 f171:=Tryz.func49.trans (congrArg some (by kernel_rfl))
 f172:=Tryz.func42.trans (congrArg some (by kernel_rfl))
 f205:=Tryz.func93.trans (congrArg some (by kernel_rfl))
 f243:=Tryz.func67.trans (congrArg some (by kernel_rfl))
 f244:=Tryz.func63.trans (congrArg some (by kernel_rfl))
 f245:=Tryz.func64.trans (congrArg some (by kernel_rfl))
 f246:=Tryz.func86.trans (congrArg some (by kernel_rfl))
 f247:=Tryz.func78.trans (congrArg some (by kernel_rfl))
 f279:=Tryz.func79.trans (congrArg some (by kernel_rfl))
 f280:=Tryz.func80.trans (congrArg some (by kernel_rfl))
 f281:=Tryz.func81.trans (congrArg some (by kernel_rfl))
 f282:=Tryz.func82.trans (congrArg some (by kernel_rfl))
 f283:=Tryz.func96.trans (congrArg some (by kernel_rfl))
 f284:=Tryz.func97.trans (congrArg some (by kernel_rfl))
 f285:=Tryz.func98.trans (congrArg some (by kernel_rfl))
 f286:=Tryz.func99.trans (congrArg some (by kernel_rfl))
 f287:=Tryz.func91.trans (congrArg some (by kernel_rfl))
 f316:=Tryz.func92.trans (congrArg some (by kernel_rfl))
 f317:=Tryz.func104.trans (congrArg some (by kernel_rfl))
 f318:=Tryz.func106.trans (congrArg some (by kernel_rfl))
 f319:=Tryz.func107.trans (congrArg some (by kernel_rfl))
 f320:=Tryz.func108.trans (congrArg some (by kernel_rfl))
 f321:=Tryz.func102.trans (congrArg some (by kernel_rfl))
 f322:=Tryz.func103.trans (congrArg some (by kernel_rfl))
 f337:=Tryz.func109.trans (congrArg some (by kernel_rfl))
 f338:=Tryz.func110.trans (congrArg some (by kernel_rfl))
 t0:=Tryz.underlying0
 a0:=Tryz.isAgg0
 z0:=Tryz.sizeOf0
 v0:=Tryz.zeroValue0
 t2:=Tryz.underlying2
 a2:=Tryz.isAgg2
 z2:=Tryz.sizeOf2
 v2:=Tryz.zeroValue2
 t3:=Tryz.underlying3
 a3:=Tryz.isAgg3
 z3:=Tryz.sizeOf3
 v3:=Tryz.zeroValue3
 t4:=Tryz.underlying4
 a4:=Tryz.isAgg4
 z4:=Tryz.sizeOf4
 v4:=Tryz.zeroValue4
 t5:=Tryz.underlying5
 a5:=Tryz.isAgg5
 z5:=Tryz.sizeOf5
 v5:=Tryz.zeroValue5
 t9:=Tryz.underlying9
 a9:=Tryz.isAgg9
 z9:=Tryz.sizeOf9
 v9:=Tryz.zeroValue9
 t20:=Tryz.underlying20
 a20:=Tryz.isAgg20
 z20:=Tryz.sizeOf20
 v20:=Tryz.zeroValue20
 t21:=Tryz.underlying21
 a21:=Tryz.isAgg21
 z21:=Tryz.sizeOf21
 v21:=Tryz.zeroValue21
 t37:=Tryz.underlying41
 a37:=Tryz.isAgg41
 z37:=Tryz.sizeOf41
 v37:=Tryz.zeroValue41
 t46:=Tryz.underlying87
 a46:=Tryz.isAgg87
 z46:=Tryz.sizeOf87
 v46:=Tryz.zeroValue87
 t51:=Tryz.underlying107
 a51:=Tryz.isAgg107
 z51:=Tryz.sizeOf107
 v51:=Tryz.zeroValue107
 t53:=Tryz.underlying110
 a53:=Tryz.isAgg110
 z53:=Tryz.sizeOf110
 v53:=Tryz.zeroValue110
 t75:=Tryz.underlying45
 a75:=Tryz.isAgg45
 z75:=Tryz.sizeOf45
 v75:=Tryz.zeroValue45
 t76:=Tryz.underlying46
 a76:=Tryz.isAgg46
 z76:=Tryz.sizeOf46
 v76:=Tryz.zeroValue46
 t85:=Tryz.underlying95
 a85:=Tryz.isAgg95
 z85:=Tryz.sizeOf95
 v85:=Tryz.zeroValue95
 t127:=Tryz.underlying60
 a127:=Tryz.isAgg60
 z127:=Tryz.sizeOf60
 v127:=Tryz.zeroValue60
 t143:=Tryz.underlying124
 a143:=Tryz.isAgg124
 z143:=Tryz.sizeOf124
 v143:=Tryz.zeroValue124
 t145:=Tryz.underlying126
 a145:=Tryz.isAgg126
 z145:=Tryz.sizeOf126
 v145:=Tryz.zeroValue126
 t167:=Tryz.underlying94
 a167:=Tryz.isAgg94
 z167:=Tryz.sizeOf94
 v167:=Tryz.zeroValue94
 t168:=Tryz.underlying97
 a168:=Tryz.isAgg97
 z168:=Tryz.sizeOf97
 v168:=Tryz.zeroValue97
 t171:=Tryz.underlying117
 a171:=Tryz.isAgg117
 z171:=Tryz.sizeOf117
 v171:=Tryz.zeroValue117
 t173:=Tryz.underlying120
 a173:=Tryz.isAgg120
 z173:=Tryz.sizeOf120
 v173:=Tryz.zeroValue120
 t175:=Tryz.underlying111
 a175:=Tryz.isAgg111
 z175:=Tryz.sizeOf111
 v175:=Tryz.zeroValue111
 t210:=Tryz.underlying114
 a210:=Tryz.isAgg114
 z210:=Tryz.sizeOf114
 v210:=Tryz.zeroValue114
 t212:=Tryz.underlying128
 a212:=Tryz.isAgg128
 z212:=Tryz.sizeOf128
 v212:=Tryz.zeroValue128
 t213:=Tryz.underlying129
 a213:=Tryz.isAgg129
 z213:=Tryz.sizeOf129
 t232:=Tryz.underlying137
 a232:=Tryz.isAgg137
 z232:=Tryz.sizeOf137
 v232:=Tryz.zeroValue137
 t233:=Tryz.underlying138
 a233:=Tryz.isAgg138
 z233:=Tryz.sizeOf138
 v233:=Tryz.zeroValue138
 g15:=by kernel_rfl
 g16:=by kernel_rfl
 g17:=by kernel_rfl
 g18:=by kernel_rfl
 g19:=by kernel_rfl
 t80:=Tryz.underlying48
 a80:=Tryz.isAgg48
 z80:=Tryz.sizeOf48
 v80:=Tryz.zeroValue48
 i0:=by kernel_rfl
 i2:=by kernel_rfl
 i3:=by kernel_rfl
 i4:=by kernel_rfl
 i5:=by kernel_rfl
 i9:=by kernel_rfl
 i20:=by kernel_rfl
 i21:=by kernel_rfl
 i37:=by kernel_rfl
 i46:=by kernel_rfl
 i51:=by kernel_rfl
 i53:=by kernel_rfl
 i75:=by kernel_rfl
 i76:=by kernel_rfl
 i80:=by kernel_rfl
 i85:=by kernel_rfl
 i127:=by kernel_rfl
 i143:=by kernel_rfl
 i145:=by kernel_rfl
 i167:=by kernel_rfl
 i168:=by kernel_rfl
 i171:=by kernel_rfl
 i173:=by kernel_rfl
 i175:=by kernel_rfl
 i210:=by kernel_rfl
 i212:=by kernel_rfl
 i232:=by kernel_rfl
 i233:=by kernel_rfl
 m15:=by kernel_rfl
 m16:=by kernel_rfl
 m17:=by kernel_rfl
 m18:=by kernel_rfl
 m19:=by kernel_rfl
 c0:=by kernel_rfl
 c2:=by kernel_rfl
 c3:=by kernel_rfl
 c4:=by kernel_rfl
 c5:=by kernel_rfl
 c9:=by kernel_rfl
 c20:=by kernel_rfl
 c21:=by kernel_rfl
 c37:=by kernel_rfl
 c46:=by kernel_rfl
 c51:=by kernel_rfl
 c53:=by kernel_rfl
 c75:=by kernel_rfl
 c76:=by kernel_rfl
 c80:=by kernel_rfl
 c85:=by kernel_rfl
 c127:=by kernel_rfl
 c143:=by kernel_rfl
 c145:=by kernel_rfl
 c167:=by kernel_rfl
 c168:=by kernel_rfl
 c171:=by kernel_rfl
 c173:=by kernel_rfl
 c175:=by kernel_rfl
 c210:=by kernel_rfl
 c212:=by kernel_rfl
 c213:=by kernel_rfl
 c232:=by kernel_rfl
 c233:=by kernel_rfl
def z1i2:Go.Shelf.Ren:=⟨fun|101=>41|208=>62|206=>77|n=>n,fun|9=>9|4=>4|3=>3|n=>n,fun|n=>n⟩
theorem z1sj:Lays.n101 Tryz.prog z1i2 where
 mixed:=by kernel_rfl
 f101:=Tryz.func41.trans (congrArg some (by kernel_rfl))
 f206:=Tryz.func77.trans (congrArg some (by kernel_rfl))
 f208:=Tryz.func62.trans (congrArg some (by kernel_rfl))
 t3:=Tryz.underlying3
 a3:=Tryz.isAgg3
 z3:=Tryz.sizeOf3
 v3:=Tryz.zeroValue3
 t4:=Tryz.underlying4
 a4:=Tryz.isAgg4
 z4:=Tryz.sizeOf4
 v4:=Tryz.zeroValue4
 t9:=Tryz.underlying9
 a9:=Tryz.isAgg9
 z9:=Tryz.sizeOf9
 v9:=Tryz.zeroValue9
def z1i1:Go.Shelf.Ren:=⟨fun|138=>16|195=>30|218=>31|143=>32|219=>56|217=>71|225=>72|224=>73|267=>74|266=>89|314=>90|n=>n,fun|9=>9|3=>3|4=>4|5=>5|0=>0|46=>87|146=>108|51=>107|n=>n,fun|1=>1|n=>n⟩
theorem z1si:Lays.n138 Tryz.prog z1i1 where
 mixed:=by kernel_rfl
 f138:=Tryz.func16.trans (congrArg some (by kernel_rfl))
 f143:=Tryz.func32.trans (congrArg some (by kernel_rfl))
 f195:=Tryz.func30.trans (congrArg some (by kernel_rfl))
 f217:=Tryz.func71.trans (congrArg some (by kernel_rfl))
 f218:=Tryz.func31.trans (congrArg some (by kernel_rfl))
 f219:=Tryz.func56.trans (congrArg some (by kernel_rfl))
 f224:=Tryz.func73.trans (congrArg some (by kernel_rfl))
 f225:=Tryz.func72.trans (congrArg some (by kernel_rfl))
 f266:=Tryz.func89.trans (congrArg some (by kernel_rfl))
 f267:=Tryz.func74.trans (congrArg some (by kernel_rfl))
 f314:=Tryz.func90.trans (congrArg some (by kernel_rfl))
 t0:=Tryz.underlying0
 a0:=Tryz.isAgg0
 z0:=Tryz.sizeOf0
 v0:=Tryz.zeroValue0
 t3:=Tryz.underlying3
 a3:=Tryz.isAgg3
 z3:=Tryz.sizeOf3
 v3:=Tryz.zeroValue3
 t4:=Tryz.underlying4
 a4:=Tryz.isAgg4
 z4:=Tryz.sizeOf4
 v4:=Tryz.zeroValue4
 t5:=Tryz.underlying5
 a5:=Tryz.isAgg5
 z5:=Tryz.sizeOf5
 v5:=Tryz.zeroValue5
 t9:=Tryz.underlying9
 a9:=Tryz.isAgg9
 z9:=Tryz.sizeOf9
 v9:=Tryz.zeroValue9
 t46:=Tryz.underlying87
 a46:=Tryz.isAgg87
 z46:=Tryz.sizeOf87
 v46:=Tryz.zeroValue87
 t51:=Tryz.underlying107
 a51:=Tryz.isAgg107
 z51:=Tryz.sizeOf107
 v51:=Tryz.zeroValue107
 t146:=Tryz.underlying108
 a146:=Tryz.isAgg108
 z146:=Tryz.sizeOf108
 v146:=Tryz.zeroValue108
 g1:=by kernel_rfl
def z1hx:Go.Shelf.Ren:=⟨fun|219=>56|217=>71|225=>72|224=>73|267=>74|266=>89|314=>90|n=>n,fun|9=>9|3=>3|4=>4|5=>5|46=>87|146=>108|51=>107|n=>n,fun|1=>1|n=>n⟩
theorem z1sg:Lays.n219 Tryz.prog z1hx where
 mixed:=by kernel_rfl
 f217:=Tryz.func71.trans (congrArg some (by kernel_rfl))
 f219:=Tryz.func56.trans (congrArg some (by kernel_rfl))
 f224:=Tryz.func73.trans (congrArg some (by kernel_rfl))
 f225:=Tryz.func72.trans (congrArg some (by kernel_rfl))
 f266:=Tryz.func89.trans (congrArg some (by kernel_rfl))
 f267:=Tryz.func74.trans (congrArg some (by kernel_rfl))
 f314:=Tryz.func90.trans (congrArg some (by kernel_rfl))
 t3:=Tryz.underlying3
 a3:=Tryz.isAgg3
 z3:=Tryz.sizeOf3
 v3:=Tryz.zeroValue3
 t4:=Tryz.underlying4
 a4:=Tryz.isAgg4
 z4:=Tryz.sizeOf4
 v4:=Tryz.zeroValue4
 t5:=Tryz.underlying5
 a5:=Tryz.isAgg5
 z5:=Tryz.sizeOf5
 v5:=Tryz.zeroValue5
 t9:=Tryz.underlying9
 a9:=Tryz.isAgg9
 z9:=Tryz.sizeOf9
 v9:=Tryz.zeroValue9
 t46:=Tryz.underlying87
 a46:=Tryz.isAgg87
 z46:=Tryz.sizeOf87
 v46:=Tryz.zeroValue87
 t51:=Tryz.underlying107
 a51:=Tryz.isAgg107
 z51:=Tryz.sizeOf107
 v51:=Tryz.zeroValue107
 t146:=Tryz.underlying108
 a146:=Tryz.isAgg108
 z146:=Tryz.sizeOf108
 v146:=Tryz.zeroValue108
 g1:=by kernel_rfl
theorem zux {w0 w:World}{S0:Hp}(hS:Lift.Sub S0 (hp w0))(hb:Go.RowKit.Below w0.heap.size w0 w):NSt w0 S0 w S0 [] :=
 ⟨⟨hb.size,fun k hk _=>hb.block k hk,hb.tape,hb.os,hb.output⟩,Lift.Sub.refl _,fun k o hk=>by
  have h3:=hS k o hk;have:=hb.block k (zcb h3);simp only[hp] at h3 ⊢;rw[this];exact h3,fun _ h=>.inl h,fun p hp=>by cases hp⟩
theorem z1cx {glob:Nat->Option Dat}{S:Hp}{w:World}(hg:GlobOk glob S)(hS:Lift.Sub S (hp w)){g:Nat}{d:Dat}(e:glob g=some d):∃ cs E fr,w.heap[g]?=some (.cells cs E fr)/\Rd S d.1 d.2 cs.toList :=
 let ⟨_,cs,E,fr,h1,h2⟩:=hg g d e
 ⟨cs,E,fr,hS _ _ h1,h2⟩
theorem z1ao {S:Hp}{k:IntKind}:∀ {ns:List Int} {cs:List Value},Lift.All (Rd S (.int k)) ns cs->cs=ns.map (fun i=>Value.int k i)
 | [],_,h=>h
 | x::xs,_,⟨c1,c2,e,h1,h2⟩=>by
   have e1:c1=[.int k x]:=h1;rw[e,e1,z1ao h2];rfl
def z1fv (x:z1g [(0,.v (.int .i64))]):Option (List UInt8):=cond (decide (-9223372036854775808<=x.1) && decide (x.1<=9223372036854775807)) (some (Lib.itoa x.1)) none
def z1jp:List A->Res:=z1x [(0,.v (.int .i64))] z1fv (za1 (.v .str) 1)
theorem z1sl (glob:Nat->Option Dat)(hgl:glob 4=some ⟨.arr 20 (.int .u64),Lib.pow10Tab⟩):Contract Tryz.prog glob 49 z1jp:=by
 refine Contract.hand ⟨_,Tryz.func49,by kernel_rfl,by decide⟩ ?_;rintro w S vals ob ⟨n,⟨⟩⟩ y har hS hg hy;unfold z1fv at hy;dsimp only at hy n;cases hck:(decide (-9223372036854775808<=n) && decide (n<=9223372036854775807)) with
 | false=>rw[hck] at hy;cases hy
 | true =>
 rw[hck] at hy;obtain rfl:=Option.some.inj (show some (Lib.itoa n)=some y from hy);simp only[Bool.and_eq_true,decide_eq_true_eq] at hck;obtain⟨⟨u1,e1,r1⟩,_⟩:=har.rel 0 _ rfl;have hob:∀ i,ob i=[]:=by
  intro i
  match i with
  | 0=>exact r1.2
  | i+1=>exact har.out _ (by simp[mkS,zfy])
 have hvals:vals=[u1]:=by
  match vals,har.len,e1 with
  | [a],_,h1=>simp at h1;rw[h1]
 subst hvals;have e2:=r1.1.int_inv;subst e2;have htab : Lib.TabIs Tryz.prog w "internal/strconv.uint64pow10" .u64 Lib.pow10Tab := by
  obtain⟨cs,E,fr,h1,h2⟩:=z1cx hg hS hgl;have h3:=z1ao h2.2;unfold Lib.TabIs;simp only [World.var?, show Tryz.prog.globalNamed "internal/strconv.uint64pow10" = some 4 by kernel_rfl, Option.bind_some, h1]
  rw[<- h3]
 refine (Any.strconv_Itoa z1sh n hck.1 hck.2 w htab).mono ?_;rintro e w' ⟨rfl,k,os,rfl⟩;refine (zux hS ?_).ends hob (fun y hy=>?_) ⟨VR.str,rfl⟩ rfl
 . exact Go.Lib.below_grow _ _ (Nat.le_refl _) _ _
 . have hy:y∈[A.v (.int .i64) n]:=hy;rw[List.mem_singleton.1 hy];rfl
def z15k (s:List UInt8):Int:=match Lib.atoiAll s with
 | .ok v=>v
 | .range=>Lib.atoiSat s
 | _=>0
def z1ai (x:z1g [(0,.v .str)]):Option (z6e [.int .i64,.any]):=cond (decide (x.1.length<=281474976710656)) (some (z15k x.1,((),()))) none
def z1k6:List A->Res:=z1x [(0,.v .str)] z1ai (za1 (.tup [.int .i64,.any]) 1)
theorem z1jy {glob:Nat->Option Dat}{S:Hp}{w:World}(hg:GlobOk glob S)(hS:Lift.Sub S (hp w)){g ty:Nat}(e:glob g=some ⟨.ifc ty .any,some ()⟩):∃ ev,w.cell? ⟨g,0,none⟩=some ev/\(ev=.nilIface\/∃ te pe,ev=.iface te pe):=by
 obtain⟨cs,E,fr,h1,h2⟩:=z1cx hg hS e;have h3:(some ()=none/\cs.toList=[.nilIface])\/∃ y v,some ()=some y/\cs.toList=[.iface ty v]/\_:=h2;rcases h3 with⟨h,_⟩|⟨y,v,_,h4,_⟩
 . cases h
 . have:cs=#[.iface ty v]:=by apply Array.toList_inj.1;rw[h4]
   exact⟨.iface ty v,by simp[World.cell?,h1,this],.inr ⟨_,_,rfl⟩⟩
theorem z1sz (glob:Nat->Option Dat){ty:Nat}(h2:glob 2=some ⟨.ifc ty .any,some ()⟩)(h3:glob 3=some ⟨.ifc ty .any,some ()⟩):Contract Tryz.prog glob 42 z1k6:=by
 refine Contract.hand ⟨_,Tryz.func42,by kernel_rfl,by decide⟩ ?_;rintro w S vals ob ⟨s,⟨⟩⟩ y har hS hg hy;unfold z1ai at hy;dsimp only at hy s;cases hck:decide (s.length<=281474976710656) with
 | false=>rw[hck] at hy;cases hy
 | true =>
 rw[hck] at hy;obtain rfl:=Option.some.inj (show some (z15k s,((),()))=some y from hy);have hl:=of_decide_eq_true hck;obtain⟨⟨u1,e1,r1⟩,_⟩:=har.rel 0 _ rfl;have hob:∀ i,ob i=[]:=by
  intro i
  match i with
  | 0=>exact r1.2
  | i+1=>exact har.out _ (by simp[mkS,zfy])
 have hvals:vals=[u1]:=by
  match vals,har.len,e1 with
  | [a],_,h1=>simp at h1;rw[h1]
 subst hvals;have e2:=r1.1.str_inv;subst e2
 suffices hcall:Calls Tryz.prog 42 #[.string ⟨⟨s⟩⟩] w fun e w'=>(∃ v,e=.returned (.tuple #[.int .i64 (z15k s),v])/\v.oneCell'=true)/\Go.RowKit.Below w.heap.size w w' by
  refine hcall.mono ?_;rintro e w' ⟨⟨v,rfl,hv⟩,hb⟩;refine (zux hS hb).ends hob (fun y hy=>?_) (r:=.tup [⟨.int .i64,z15k s⟩,⟨.any,()⟩]) ⟨rfl,_,rfl,.cons VR.int (.cons (show VR S .any () v from ⟨v,rfl,hv⟩) .nil)⟩ rfl;have hy:y∈[A.v .str s]:=hy;rw[List.mem_singleton.1 hy];rfl
 cases ha:Lib.atoiAll s with
 | ok v =>
   have:z15k s=v:=by unfold z15k;rw[ha]
   rw[this];refine (Any.strconv_Atoi_ok z1hz ⟨⟨s⟩⟩ (by show s.length<=_;omega) v ha w).mono ?_;rintro e w' ⟨rfl,hw⟩;refine⟨⟨_,rfl,rfl⟩,?_⟩;rcases hw with rfl|⟨t,rfl⟩
   . exact Go.RowKit.Below.refl _ _
   . exact Go.Lib.bytesWorld_below _ _ _
 | range =>
   have:z15k s=Lib.atoiSat s:=by unfold z15k;rw[ha]
   rw[this];obtain⟨ev,hv,hev⟩:=z1jy hg hS h3;refine (Any.strconv_Atoi_range z1hz ⟨⟨s⟩⟩ (by show s.length<=_;omega) ha ev w hv hev).mono ?_;rintro e w' ⟨N,rfl,_,_,hb⟩;exact⟨⟨_,rfl,rfl⟩,hb⟩
 | _ =>
   have:z15k s=0:=by unfold z15k;rw[ha]
   rw[this];obtain⟨ev,hv,hev⟩:=z1jy hg hS h2;refine (Any.strconv_Atoi_syntax z1hz ⟨⟨s⟩⟩ (by show s.length<=_;omega) ha ev w hv hev).mono ?_;rintro e w' ⟨N,rfl,_,_,hb⟩;exact⟨⟨_,rfl,rfl⟩,hb⟩
theorem z1dc {ps:List (Nat×AS)}{w:World}{S:Hp}{vals:List Value}{ob:Nat->List Nat}{s t:List UInt8}(har:ArgsRel (hp w) S (mkS [(0,.v .str),(0,.v .str)] 0 (s,(t,()))) vals ob) :
 vals=[.string ⟨⟨s⟩⟩,.string ⟨⟨t⟩⟩]/\∀ i,ob i=[]:=by
 obtain⟨⟨v0,hv0,hA0,ho0⟩,_⟩:=har.rel 0 _ rfl;obtain⟨⟨v1,hv1,hA1,ho1⟩,_⟩:=har.rel 1 _ rfl;have hlen:=har.len;obtain⟨u0,u1,rfl⟩:∃ u0 u1,vals=[u0,u1]:=by
  have:vals.length=2:=by simpa[mkS,zfy] using hlen.symm
  match vals,this with
  | [a,b],_=>exact⟨a,b,rfl⟩
 simp at hv0 hv1;subst hv0;subst hv1;refine⟨by rw[hA0.str_inv,hA1.str_inv],fun i=>?_⟩
 match i with
 | 0=>exact ho0
 | 1=>exact ho1
 | i+2=>exact har.out _ (by simp[mkS,zfy])
theorem z144 {s t:List UInt8}:∀ y∈mkS [(0,.v .str),(0,.v .str)] 0 (s,(t,())),zit y=false:=by
 intro y hy;have hy:y∈[A.v .str s,A.v .str t]:=hy;simp only[List.mem_cons,List.not_mem_nil,or_false] at hy;rcases hy with rfl|rfl<;>rfl
def z1rv (x:z1g [(0,.v .str),(0,.v .str)]):Option (List UInt8):=some (Lib.trimPrefix x.1 x.2.1)
def z1eq:List A->Res:=z1x [(0,.v .str),(0,.v .str)] z1rv (za1 (.v .str) 2)
theorem z1p3 (glob:Nat->Option Dat):Contract Tryz.prog glob 41 z1eq:=by
 refine Contract.hand ⟨_,Tryz.func41,by kernel_rfl,by decide⟩ ?_;rintro w S vals ob ⟨s,t,⟨⟩⟩ y har hS hg hy;obtain rfl:=Option.some.inj (show some (Lib.trimPrefix s t)=some y from hy);obtain⟨rfl,hob⟩:=z1dc (ps:=[]) har;refine (Any.strings_TrimPrefix z1sj ⟨⟨s⟩⟩ ⟨⟨t⟩⟩ w).mono ?_;rintro e w' ⟨rfl,rfl⟩;exact (zux hS (Go.RowKit.Below.refl _ _)).ends hob z144 ⟨VR.str,rfl⟩ rfl
def cnt_F (x:z1g [(0,.v .str),(0,.v .str)]):Option Int:=match x.2.1 with
 | [c]=>some ((Lib.countByte x.1 c:Nat):Int)
 | _=>none
def z1ob:List A->Res:=z1x [(0,.v .str),(0,.v .str)] cnt_F (za1 (.v (.int .i64)) 2)
theorem z1uf (glob:Nat->Option Dat):Contract Tryz.prog glob 16 z1ob:=by
 refine Contract.hand ⟨_,Tryz.func16,by kernel_rfl,by decide⟩ ?_;rintro w S vals ob ⟨s,t,⟨⟩⟩ y har hS hg hy;obtain⟨rfl,hob⟩:=z1dc (ps:=[]) har
 match t,hy with
 | [c],hy =>
   obtain rfl:=Option.some.inj (show some ((Lib.countByte s c:Nat):Int)=some y from hy);refine (Any.strings_Count_one z1si ⟨⟨s⟩⟩ c w).mono ?_;rintro e w' ⟨rfl,rfl⟩;exact (zux hS (Go.RowKit.Below.refl _ _)).ends hob z144 ⟨VR.int,rfl⟩ rfl
def z1sn (x:z1g [(0,.v .str),(0,.v .str)]):Option Int:=match x.2.1 with
 | [c]=>some (Lib.indexByte x.1 c)
 | _=>none
def z1nu:List A->Res:=z1x [(0,.v .str),(0,.v .str)] z1sn (za1 (.v (.int .i64)) 2)
theorem z1u8 (glob:Nat->Option Dat):Contract Tryz.prog glob 56 z1nu:=by
 refine Contract.hand ⟨_,Tryz.func56,by kernel_rfl,by decide⟩ ?_;rintro w S vals ob ⟨s,t,⟨⟩⟩ y har hS hg hy;obtain⟨rfl,hob⟩:=z1dc (ps:=[]) har
 match t,hy with
 | [c],hy =>
   obtain rfl:=Option.some.inj (show some (Lib.indexByte s c)=some y from hy);refine (Any.stringslite_Index_one z1sg ⟨⟨s⟩⟩ c w).mono ?_;rintro e w' ⟨rfl,rfl⟩;exact (zux hS (Go.RowKit.Below.refl _ _)).ends hob z144 ⟨VR.int,rfl⟩ rfl
end
end Go.Proofs.YtkkkgfmjjkpjdaaGreatDoorLg
